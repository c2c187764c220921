/-
  The walk of layer 7's law WriteBack: an element that may be has the document's text, and is read of it again.
  A row's lift, where the call is handed what the listed variables read as and the world's shape, both.
  From what a row lists of the package-level variables, and the world's shape, to what the walks of entity ask of the world.
  An element that was handed in, and a pair of numbers.
  THE LAW WriteBack, FOR EVERY INPUT: true, and each argument reads as it did. Its row, and its tied card: what the listed variables hold is tied to the text by the given tie.
-/
import Derived.Test.YtincdacickhdkaaGreatDoorW18
import Derived.Test.YtincdacickhdkaaGreatDoorW20
import Derived.Test.YtincdacickhdkaaGreatDoorW21
import Derived.Test.YtincdacickhdkaaGreatDoorW17
import Derived.Test.YtincdacickhdkaaGreatDoorW19
import Derived.BigQuiet
import Derived.Deep.QuietTactic
import Derived.IntWalk
import Derived.HandedShaped
import Derived.Handed
import Derived.ProofKit
import Derived.Test.YtincdacickhdkaaGreatDoorW6
import Derived.Lib.LaidU8
import Derived.Test.YtincdacickhdkaaGreatDoorW12
import Derived.OpenShut
import Derived.Deep.Slices
import Derived.Deep.Fields
import Derived.ChangeSame
import Derived.Carry
import Derived.Test.YtincdacickhdkaaGreatDoorCards
import Derived.Test.YtincdacickhdkaaGreatDoorTie
import Derived.LaidMore
import Derived.Lay
import Derived.SevenTiedAt
import Derived.Stop.Joined
namespace Go.Proofs.YtincdacickhdkaaGreatDoor
open Go Go.RowKit Go.Lib
set_option maxRecDepth 100000

/-- An element without anything but its name and its text, as a value. -/
theorem leaf_node (w : World) (t : ByteArray) : NodeV (fun _ => True) w (.agg #[.string ⟨#[]⟩, .string bA, .slice none 0 0, .slice none 0 0, .string t]) (.mk ⟨#[]⟩ bA [] [] t) :=
  .mk ⟨#[]⟩ bA t [] [] (.slice none 0 0) none 0 (fun _ _ => undef) ⟨none, 0, rfl, fun h => absurd h (Nat.lt_irrefl _), Nat.le_refl _⟩ (fun h => absurd h (Nat.lt_irrefl _)) (fun j h => absurd h (Nat.not_lt_zero j))
theorem leaf_sm (t : ByteArray) (h : t.size ≤ 1000000) : (Nd.mk ⟨#[]⟩ bA [] [] t).sm := ⟨⟨by decide, by decide, h, fun _ h => by cases h⟩, trivial⟩
set_option maxHeartbeats 4000000 in
/-- The law's awake. -/
theorem awake07 (w : World) (hE : EntV w) (hT : Tabs w) :
    Calls Tryz.prog 17 #[] w fun e w' => e = .returned (.bool true) ∧ Below w.heap.size w w' := by
  have C1 := wtext _ _ w (leaf_node w ⟨#[]⟩) (leaf_sm _ (by decide)) (by rw [awake_may.1]) (by rw [awake_text]; decide) hE hT
  rw [awake_text, show str [60, 97, 47, 62, 10] = (⟨#[60, 97, 47, 62, 10]⟩ : ByteArray) from rfl] at C1
  have C2 := fun (w1 : World) (hb : Below w.heap.size w w1) => wmay _ _ w1 (leaf_node w1 ⟨#[120]⟩) (leaf_sm _ (by decide)) (hE.below hb) (hT.below hb)
  rw [awake_may.2.1] at C2
  have C3 := fun (w1 : World) (hb : Below w.heap.size w w1) => wmay _ _ w1 (leaf_node w1 ⟨#[32, 120]⟩) (leaf_sm _ (by decide)) (hE.below hb) (hT.below hb)
  rw [awake_may.2.2] at C3
  replace C1 := Lib.hid C1
  replace C2 := Lib.hid C2
  replace C3 := Lib.hid C3
  clear hE hT
  go_enter Tryz.func17, Tryz.ntmps17
  go_wp2_with fail
  refine C1.out.mono ?_
  rintro e w1 ⟨rfl, hb1⟩
  have HB1 := Lib.hid hb1
  clear hb1
  go_wp2_with fail
  refine (C2.out w1 HB1.out).mono ?_
  rintro e w2 ⟨rfl, hb2⟩
  have HB2 := Lib.hid (HB1.out.trans (hb2.mono HB1.out.size))
  clear hb2
  go_wp2_with fail
  refine (C3.out w2 HB2.out).mono ?_
  rintro e w3 ⟨rfl, hb3⟩
  have HB3 := Lib.hid (HB2.out.trans (hb3.mono HB2.out.size))
  clear hb3
  go_wp2_with fail
  go_ret
  exact ⟨rfl, HB3.out⟩

set_option maxHeartbeats 16000000 in
theorem back07_any (v : Value) (deep : Int) (w : World) (hE : EntV w) (hT : Tabs w) (hv : ∃ X, NodeV (fun _ => True) w v X) :
    Calls Tryz.prog 4 #[v, .int .i64 deep] w fun e w' => e = .returned (.bool true) ∧ Below w.heap.size w w' := by
  obtain ⟨X, hX⟩ := hv
  obtain ⟨xsp, xnm, xtx, xa, xan, xac, xk, xkn, xkc, rfl⟩ := form06 hX
  have hA1 := (Below.refl w.heap.size w).alloc (Nat.le_refl _) (.cells #[.string xsp, .string xnm, .slice xa xan xac, .slice xk xkn xkc, .string xtx] 25)
  obtain ⟨w0, hw0⟩ : ∃ w0, w.alloc (.cells #[.string xsp, .string xnm, .slice xa xan xac, .slice xk xkn xkc, .string xtx] 25) = w0 := ⟨_, rfl⟩
  have hc0 : ∀ q v, (#[.string xsp, .string xnm, .slice xa xan xac, .slice xk xkn xkc, .string xtx] : Array Value)[q]? = some v → w0.cell? ⟨w.heap.size, q, none⟩ = some v := fun q v h => by
    rw [← hw0, Lib.cell_of_heap (heap_alloc_new w _)]; exact h
  have x0 := hc0 0 _ rfl
  have x1 := hc0 1 _ rfl
  have x2 := hc0 2 _ rfl
  have x3 := hc0 3 _ rfl
  have x4 := hc0 4 _ rfl
  rw [hw0] at hA1
  obtain ⟨m, hm, hmask⟩ := mask_i64 deep 2 (by decide) 3 (by decide)
  obtain ⟨D, hD⟩ : ∃ D : Int, (m : Int) + 1 = D := ⟨_, rfl⟩
  have hD2 : 0 ≤ D ∧ D ≤ 4 := by omega
  have HN := Lib.hid (near_spec 3 D _ X w0 (by omega) (by omega) (by omega) (hX.any hA1))
  have HA1 := Lib.hid hA1
  have HE := Lib.hid (hE.below hA1)
  have HT := Lib.hid (hT.below hA1)
  clear hA1 hX hE hT hc0
  go_enter Tryz.func4, Tryz.ntmps4
  go_wp2_with fail
  refine HN.out.mono ?_
  rintro e w1 ⟨v1, y, rfl, hy, hyB, hb1⟩
  obtain ⟨ysp, ynm, ytx, ya, yan, yac, yk, ykn, ykc, rfl⟩ := form06 hy
  have hn1 := hb1.alloc hb1.size (.cells #[.string ysp, .string ynm, .slice ya yan yac, .slice yk ykn ykc, .string ytx] 25)
  have hX1 := heap_alloc_new w1 (.cells #[.string ysp, .string ynm, .slice ya yan yac, .slice yk ykn ykc, .string ytx] 25)
  have hl1 : w1.heap.size < (w1.alloc (.cells #[.string ysp, .string ynm, .slice ya yan yac, .slice yk ykn ykc, .string ytx] 25)).heap.size := by simp
  obtain ⟨W1, hW1⟩ : ∃ W1, w1.alloc (.cells #[.string ysp, .string ynm, .slice ya yan yac, .slice yk ykn ykc, .string ytx] 25) = W1 := ⟨_, rfl⟩
  have hne : NodeV (fun _ => True) W1 (.agg #[.string ysp, .string ynm, .slice ya yan yac, .slice yk ykn ykc, .string ytx]) y := by
    rw [← hW1]; exact hy.any ((Below.refl w1.heap.size w1).alloc (Nat.le_refl _) _)
  rw [hW1] at hn1 hX1 hl1
  obtain ⟨Q, hQ⟩ : ∃ Q, w1.heap.size = Q := ⟨_, rfl⟩
  rw [hQ] at hX1 hl1
  have H1 := Lib.hid (show AtN w.heap.size w W1 Q ysp ynm ytx ya yan yac yk ykn ykc y from
    ⟨HA1.out.trans (hn1.mono HA1.out.size), hl1, by rw [Lib.cell_of_heap hX1]; rfl, by rw [Lib.cell_of_heap hX1]; rfl, by rw [Lib.cell_of_heap hX1]; rfl, by rw [Lib.cell_of_heap hX1]; rfl, by rw [Lib.cell_of_heap hX1]; rfl, hne, HE.out.below hn1, HT.out.below hn1⟩)
  have V1 := Lib.hid (Nat.le_trans HA1.out.size hn1.size)
  have hlen : (textT y ⟨#[]⟩ []).length ≤ 100000 := by
    have h1 := hyB.len ⟨#[]⟩ []
    have h2 : lenB 4 ([] : List UInt8).length ≤ 30000 := by decide
    have h3 : (bodyT y ⟨#[]⟩ []).length ≤ lenB 4 ([] : List UInt8).length := h1
    unfold textT
    simp only [List.length_append, List.length_nil, List.length_singleton] at h2 h3 ⊢
    omega
  have hmay := near_mayF hyB (Nat.le_refl _)
  have hcnt := hyB.count
  have hcb : cntB (3 + 1) ≤ 40 := cnt_few (Nat.le_refl _)
  have hdep := hyB.depth
  have hpar := parse_may (near_may hyB.near) (by omega) (by omega) (by omega)
  have CT := Lib.hid (wtext y _ W1 hne (near_sm hyB) (by rw [hmay]) (by omega) H1.out.ev H1.out.tv)
  have CX := Lib.hid (fun (vx : Value) (wx : World) (h : NodeV (fun _ => True) wx vx y) => text_spec 4 y vx ⟨#[]⟩ [] wx h hyB (by decide))
  obtain ⟨TL, hTL⟩ : ∃ TL, textT y ⟨#[]⟩ [] = TL := ⟨_, rfl⟩
  rw [hTL] at CT hpar hlen
  obtain ⟨T, hTT⟩ : ∃ T, str TL = T := ⟨_, rfl⟩
  have hTs : T.size ≤ 100000 := by rw [← hTT, str_size]; exact hlen
  have hpar2 : parseL (bl T) = .ok y := by rw [← hTT, str_bl]; exact hpar
  rw [hTT] at CT
  have HTL := Lib.hid hTL
  have HTT := Lib.hid hTT
  have HPAR := Lib.hid hpar2
  have HSM := Lib.hid (near_sm hyB)
  have HMAY := Lib.hid hmay
  have HCN := Lib.hid (Nat.le_trans hcnt hcb)
  have HDP := Lib.hid hdep
  have HFEW := Lib.hid (near_few hyB)
  clear hy hyB hb1 hn1 hX1 hl1 hne hTL hTT hpar hpar2 hlen hmay hcnt hcb hdep x0 x1 x2 x3 x4 HN hw0 HA1 HE HT hD hmask hm hD2
  have n0 := H1.out.k0
  have n1 := H1.out.k1
  have n2 := H1.out.k2
  have n3 := H1.out.k3
  have n4 := H1.out.k4
  go_wp2_with fail
  refine CT.out.mono ?_
  rintro e w2 ⟨rfl, hb2⟩
  have H2 := Lib.hid (H1.out.to hb2 V1.out)
  have V2 := Lib.hid (Nat.le_trans V1.out hb2.size)
  have HPA := Lib.hid (dparse_ok T y HPAR.out w2 H2.out.ev H2.out.tv (by omega))
  clear hb2 CT H1 V1 HPAR n0 n1 n2 n3 n4
  have n0 := H2.out.k0
  have n1 := H2.out.k1
  have n2 := H2.out.k2
  have n3 := H2.out.k3
  have n4 := H2.out.k4
  go_wp2_with fail
  refine HPA.out.mono ?_
  rintro r w4 ⟨v4, rfl, hv4, hb4⟩
  obtain ⟨zsp, znm, ztx, ZA, ZK, za, zac, zk, zkc, zc, rfl, rfl, _⟩ := parts06 hv4
  have hn4 := hb4.alloc hb4.size (.cells #[.string zsp, .string znm, .slice za ZA.length zac, .slice zk ZK.length zkc, .string ztx] 25)
  have hX4 := heap_alloc_new w4 (.cells #[.string zsp, .string znm, .slice za ZA.length zac, .slice zk ZK.length zkc, .string ztx] 25)
  have hl4 : w4.heap.size < (w4.alloc (.cells #[.string zsp, .string znm, .slice za ZA.length zac, .slice zk ZK.length zkc, .string ztx] 25)).heap.size := by simp
  have hz4 : NodeV (fun _ => True) (w4.alloc (.cells #[.string zsp, .string znm, .slice za ZA.length zac, .slice zk ZK.length zkc, .string ztx] 25)) (.agg #[.string zsp, .string znm, .slice za ZA.length zac, .slice zk ZK.length zkc, .string ztx]) (.mk zsp znm ZA ZK ztx) := hv4.any ((Below.refl w4.heap.size w4).alloc (Nat.le_refl _) _)
  have H4 := Lib.hid (H2.out.to hn4 V2.out)
  have V4 := Lib.hid (Nat.le_trans V2.out hn4.size)
  obtain ⟨W4, hW4⟩ : ∃ W4, w4.alloc (.cells #[.string zsp, .string znm, .slice za ZA.length zac, .slice zk ZK.length zkc, .string ztx] 25) = W4 := ⟨_, rfl⟩
  obtain ⟨P, hP⟩ : ∃ P, w4.heap.size = P := ⟨_, rfl⟩
  rw [hW4] at hX4 hl4 hz4 H4 V4
  rw [hP] at hX4 hl4
  have Z4 := Lib.hid (show AtN w.heap.size w W4 P zsp znm ztx za ZA.length zac zk ZK.length zkc (.mk zsp znm ZA ZK ztx) from
    ⟨H4.out.below, hl4, by rw [Lib.cell_of_heap hX4]; rfl, by rw [Lib.cell_of_heap hX4]; rfl, by rw [Lib.cell_of_heap hX4]; rfl, by rw [Lib.cell_of_heap hX4]; rfl, by rw [Lib.cell_of_heap hX4]; rfl, hz4, H4.out.ev, H4.out.tv⟩)
  clear hv4 hb4 hn4 hX4 hl4 hz4 HPA H2 V2 n0 n1 n2 n3 n4
  have n0 := H4.out.k0
  have n1 := H4.out.k1
  have n2 := H4.out.k2
  have n3 := H4.out.k3
  have n4 := H4.out.k4
  have z0 := Z4.out.k0
  have z1 := Z4.out.k1
  have z2 := Z4.out.k2
  have z3 := Z4.out.k3
  have z4 := Z4.out.k4
  have CC := Lib.hid (awake07 W4 H4.out.ev H4.out.tv)
  go_wp2_with fail
  refine CC.out.mono ?_
  rintro r w5 ⟨rfl, hb⟩
  have H5 := Lib.hid (H4.out.to hb V4.out)
  have Z5 := Lib.hid (Z4.out.to hb V4.out)
  have V5 := Lib.hid (Nat.le_trans V4.out hb.size)
  clear hb CC H4 Z4 V4 n0 n1 n2 n3 n4 z0 z1 z2 z3 z4
  have n0 := H5.out.k0
  have n1 := H5.out.k1
  have n2 := H5.out.k2
  have n3 := H5.out.k3
  have n4 := H5.out.k4
  have z0 := Z5.out.k0
  have z1 := Z5.out.k1
  have z2 := Z5.out.k2
  have z3 := Z5.out.k3
  have z4 := Z5.out.k4
  have CC := Lib.hid ((by have h := wmay _ _ w5 H5.out.nv HSM.out H5.out.ev H5.out.tv; rw [HMAY.out] at h; exact h : Calls Tryz.prog 18 #[_] w5 _))
  go_wp2_with fail
  refine CC.out.mono ?_
  rintro r w6 ⟨rfl, hb⟩
  have H6 := Lib.hid (H5.out.to hb V5.out)
  have Z6 := Lib.hid (Z5.out.to hb V5.out)
  have V6 := Lib.hid (Nat.le_trans V5.out hb.size)
  clear hb CC H5 Z5 V5 n0 n1 n2 n3 n4 z0 z1 z2 z3 z4
  have n0 := H6.out.k0
  have n1 := H6.out.k1
  have n2 := H6.out.k2
  have n3 := H6.out.k3
  have n4 := H6.out.k4
  have z0 := Z6.out.k0
  have z1 := Z6.out.k1
  have z2 := Z6.out.k2
  have z3 := Z6.out.k3
  have z4 := Z6.out.k4
  have CC := Lib.hid ((by have h := CX.out _ w6 H6.out.nv; rw [HTL.out, HTT.out] at h; exact h : Calls Tryz.prog 7 _ w6 _))
  go_wp2_with fail
  refine CC.out.mono ?_
  rintro r w7 ⟨rfl, hb⟩
  have H7 := Lib.hid (H6.out.to hb V6.out)
  have Z7 := Lib.hid (Z6.out.to hb V6.out)
  have V7 := Lib.hid (Nat.le_trans V6.out hb.size)
  clear hb CC H6 Z6 V6 n0 n1 n2 n3 n4 z0 z1 z2 z3 z4
  have n0 := H7.out.k0
  have n1 := H7.out.k1
  have n2 := H7.out.k2
  have n3 := H7.out.k3
  have n4 := H7.out.k4
  have z0 := Z7.out.k0
  have z1 := Z7.out.k1
  have z2 := Z7.out.k2
  have z3 := Z7.out.k3
  have z4 := Z7.out.k4
  have CC := Lib.hid (same_spec 4 _ _ _ w7 H7.out.nv Z7.out.nv (by have := HDP.out; omega) (by have := HCN.out; omega) HFEW.out)
  go_wp2_with fail
  refine CC.out.mono ?_
  rintro r w8 ⟨rfl, hb⟩
  have H8 := Lib.hid (H7.out.to hb V7.out)
  have Z8 := Lib.hid (Z7.out.to hb V7.out)
  have V8 := Lib.hid (Nat.le_trans V7.out hb.size)
  clear hb CC H7 Z7 V7 n0 n1 n2 n3 n4 z0 z1 z2 z3 z4
  have n0 := H8.out.k0
  have n1 := H8.out.k1
  have n2 := H8.out.k2
  have n3 := H8.out.k3
  have n4 := H8.out.k4
  have z0 := Z8.out.k0
  have z1 := Z8.out.k1
  have z2 := Z8.out.k2
  have z3 := Z8.out.k3
  have z4 := Z8.out.k4
  clear n0 n1 n2 n3 n4 z0 z1 z2 z3 z4
  go_wp2_with fail
  go_ret
  exact ⟨rfl, H8.out.below⟩

end Go.Proofs.YtincdacickhdkaaGreatDoor
namespace Go.Proofs.YtincdacickhdkaaGreatDoor
open Go.ChangeShapes Go.WideShapes Go.ChangeAt

theorem lift_both {H : Type} {enc : TypeId × Value → H} {a : Assume} {C : Checked} {os : Os} {f : FuncId} {fn : Func} {s : ChangeSpec} {conds : List PathCond} {apart fresh handsOn again : Bool} {X : World → Array Value → Prop}
    (keep : ∀ (w v : World) (args : Array Value), w.heap = v.heap → X w args → X v args)
    (own : ownKnob C.prog.godebug = none) (started : os.Started) (noInit : C.prog.inits.idxOf? f = none) (hfn : C.prog.funcs[f]? = some fn)
    (start : ∃ (w : World) (tape : Tape) (i : Input), w.os = os ∧ (w.forCall tape i).Shaped C.prog ∧ i.vars = [] ∧ Input.okWide C.prog (w.forCall tape i) .any w.heap.size f i ∧
      ((s.pre enc C.prog fn conds apart (w.forCall tape i).memory i.args ∧ X (w.forCall tape i).memory i.args) ∧ sizedMet enc C.prog fn (OpenSpec.ofChange s) apart (w.forCall tape i).memory i.args) ∧ a.holds C.prog (lone (Frame.enter C.prog f i.args .normal) [] (w.forCall tape i)))
    (walk : ∀ (W : World) (base : Nat) (args : Array Value) (ds gs : List (DataW H)) (before : List MemPlace),
      (∀ (j : Nat) t v, fn.params[j]? = some t → args[j]? = some v → Value.okWide C.prog W .any base t v) →
      DataW.Whole enc C.prog fn.params.toList s.vars apart W args.toList ds gs before →
      conds.all (PathCond.test C.prog ⟨fn.params.toList, ds, s.plain.varTypes C.prog, gs⟩) = true →
      (DataW.weightsEach C.prog (fn.params.toList ++ s.plain.varTypes C.prog) (ds ++ gs)).all (· ≤ reachBytes) = true → X W args → W.ShapedOpen C.prog →
      a.holds C.prog (lone (Frame.enter C.prog f args .normal) [] W) →
      Calls C.prog f args W fun e V => ∃ v, e = .returned v ∧ s.post enc C.prog fn apart fresh handsOn again W args v V) :
    ReturnsInHanded a C os f .any (fun w args => (s.pre enc C.prog fn conds apart w args ∧ X w args) ∧ sizedMet enc C.prog fn (OpenSpec.ofChange s) apart w args) (s.post enc C.prog fn apart fresh handsOn again) :=
  returnsInHanded_of_calls own started noInit start fun w tape i _ shape _ ok pre holds => by
    obtain ⟨_, _, _, gn, hgn, _, _, _, _, vals⟩ := ok
    obtain rfl : gn = fn := Option.some.inj (hgn.symm.trans hfn)
    obtain ⟨⟨⟨ds, gs, before, whole, cond⟩, x⟩, sized⟩ := pre
    exact (walk (w.forCall tape i) w.heap.size i.args ds gs before vals (DataW.Whole.of_heap (w' := w.forCall tape i) (by rfl) whole) cond (sized.weights whole) (keep _ _ _ (by rfl) x) shape holds).mono
      fun e V ⟨v, he, hp⟩ => by subst he; exact ChangeSpec.post_blind hp
end Go.Proofs.YtincdacickhdkaaGreatDoor
namespace Go.Proofs.YtincdacickhdkaaGreatDoor
open Go.RowKit
set_option maxRecDepth 100000

def basesData : DataW Unit := Lib.tabData .i64 [10, 16]
def namedData (l : List UInt8) (c : Int) (b : Bool) : DataW Unit := .agg [.lit (.string l), .lit (.int .u8 c), .lit (.bool b)]
def namesData : DataW Unit := .agg [namedData [97, 109, 112] 38 true, namedData [108, 116] 60 true, namedData [103, 116] 62 true, namedData [113, 117, 111, 116] 34 true, namedData [97, 112, 111, 115] 39 false]
def synData : DataW Unit := .iface "*errors.errorString" (.ptr (.agg [.lit (.string [105, 110, 118, 97, 108, 105, 100, 32, 115, 121, 110, 116, 97, 120])]))

theorem ent_bases {W : World} (h : Lib.VarReads Tryz.prog W "galliard/entity.bases" basesData) : Lib.TabIs Tryz.prog W "galliard/entity.bases" .i64 [10, 16] := by
  obtain ⟨g, t, cs, fuel, p, hg, ht, hv, hd⟩ := h
  have hg' : Tryz.prog.globalNamed "galliard/entity.bases" = some 5 := by kernel_rfl
  obtain rfl := Option.some.inj (hg'.symm.trans hg)
  have ht' : (Tryz.prog.globals[5]?).map (·.type) = some 43 := by kernel_rfl
  obtain rfl := Option.some.inj (ht'.symm.trans ht)
  have hc := Lib.cells_of_tab Tryz.underlying43 Tryz.underlying3 (by kernel_rfl) (by kernel_rfl) hd
  unfold Lib.TabIs
  rw [hv, ← hc]
/-- A struct of a name, a letter and a mark, that reads so. -/
theorem ent_named {W : World} {fuel : Nat} {cs : List Value} {p : List MemPlace} {l : List UInt8} {c : Int} {b : Bool}
    (h : DataW.trod (fun _ => ()) Tryz.prog W 0 (fun _ => true) false fuel 138 cs = some (namedData l c b, p)) : cs = [.string ⟨l.toArray⟩, .int .u8 c, .bool b] := by
  obtain ⟨xs, n, rfl, hx, hcl, hxl, hall⟩ := DataW.trod_struct Tryz.underlying138 h
  have hc3 : Tryz.prog.cellsOf 138 = 3 := by kernel_rfl
  have hcs : Tryz.prog.cellsOf 9 = 1 := by kernel_rfl
  have hcb : Tryz.prog.cellsOf 5 = 1 := by kernel_rfl
  have hcd : Tryz.prog.cellsOf 4 = 1 := by kernel_rfl
  rw [hc3] at hcl
  have f0 : DataW.trod (fun _ => ()) Tryz.prog W 0 (fun _ => true) false n 9 ((cs.drop 0).take (Tryz.prog.cellsOf 9)) = xs[0]? := hall 0 _ rfl
  have f1 : DataW.trod (fun _ => ()) Tryz.prog W 0 (fun _ => true) false n 5 ((cs.drop 1).take (Tryz.prog.cellsOf 5)) = xs[1]? := hall 1 _ rfl
  have f2 : DataW.trod (fun _ => ()) Tryz.prog W 0 (fun _ => true) false n 4 ((cs.drop 2).take (Tryz.prog.cellsOf 4)) = xs[2]? := hall 2 _ rfl
  rw [hcs] at f0
  rw [hcb] at f1
  rw [hcd] at f2
  have hxl' : xs.length = 3 := by simpa using hxl
  match xs, hxl', cs, hcl with
  | [x0, x1, x2], _, [c0, c1, c2], _ =>
    simp at f0 f1 f2
    obtain ⟨s0, e0, d0, _⟩ := DataW.trod_string Tryz.underlying9 f0
    obtain ⟨n1, e1, d1, _⟩ := DataW.trod_int Tryz.underlying5 f1
    obtain ⟨b2, e2, d2⟩ := DataW.trod_bool Tryz.underlying4 f2
    simp at e0 e1 e2
    subst e0 e1 e2 d0 d1 d2
    unfold namedData at hx
    simp at hx
    obtain ⟨⟨h0, h1, h2⟩, _⟩ := hx
    subst h0 h1 h2
    simp
theorem ent_names {W : World} (h : Lib.VarReads Tryz.prog W "galliard/entity.names" namesData) : ∃ t fr, W.heap[0]? = some (.cells nameCells t fr) := by
  obtain ⟨g, t, cs, fuel, p, hg, ht, hv, hd⟩ := h
  have hg' : Tryz.prog.globalNamed "galliard/entity.names" = some 0 := by kernel_rfl
  obtain rfl := Option.some.inj (hg'.symm.trans hg)
  have ht' : (Tryz.prog.globals[0]?).map (·.type) = some 139 := by kernel_rfl
  obtain rfl := Option.some.inj (ht'.symm.trans ht)
  have hc3 : Tryz.prog.cellsOf 138 = 3 := by kernel_rfl
  have k0 : (cs.toList.drop 0).take 3 = [.string ⟨#[97, 109, 112]⟩, .int .u8 38, .bool true] := by
    obtain ⟨f', d, q, h1, h2⟩ := Lib.array_elem Tryz.underlying139 hd 0 (by omega)
    rw [hc3] at h2
    obtain rfl : namedData [97, 109, 112] 38 true = d := Option.some.inj h1
    exact ent_named h2
  have k1 : (cs.toList.drop 3).take 3 = [.string ⟨#[108, 116]⟩, .int .u8 60, .bool true] := by
    obtain ⟨f', d, q, h1, h2⟩ := Lib.array_elem Tryz.underlying139 hd 1 (by omega)
    rw [hc3] at h2
    obtain rfl : namedData [108, 116] 60 true = d := Option.some.inj h1
    exact ent_named h2
  have k2 : (cs.toList.drop 6).take 3 = [.string ⟨#[103, 116]⟩, .int .u8 62, .bool true] := by
    obtain ⟨f', d, q, h1, h2⟩ := Lib.array_elem Tryz.underlying139 hd 2 (by omega)
    rw [hc3] at h2
    obtain rfl : namedData [103, 116] 62 true = d := Option.some.inj h1
    exact ent_named h2
  have k3 : (cs.toList.drop 9).take 3 = [.string ⟨#[113, 117, 111, 116]⟩, .int .u8 34, .bool true] := by
    obtain ⟨f', d, q, h1, h2⟩ := Lib.array_elem Tryz.underlying139 hd 3 (by omega)
    rw [hc3] at h2
    obtain rfl : namedData [113, 117, 111, 116] 34 true = d := Option.some.inj h1
    exact ent_named h2
  have k4 : (cs.toList.drop 12).take 3 = [.string ⟨#[97, 112, 111, 115]⟩, .int .u8 39, .bool false] := by
    obtain ⟨f', d, q, h1, h2⟩ := Lib.array_elem Tryz.underlying139 hd 4 (by omega)
    rw [hc3] at h2
    obtain rfl : namedData [97, 112, 111, 115] 39 false = d := Option.some.inj h1
    exact ent_named h2
  have hlen : cs.toList.length = 15 := by
    cases fuel with
    | zero => simp [DataW.trod] at hd
    | succ fuel =>
      unfold DataW.trod at hd
      simp only [Tryz.underlying139] at hd
      split at hd
      · rename_i hl
        exact hl.trans (by kernel_rfl)
      · cases hd
  have hcs : cs = nameCells := by
    obtain ⟨L⟩ := cs
    simp only at hlen k0 k1 k2 k3 k4
    match L, hlen with
    | [a0, a1, a2, a3, a4, a5, a6, a7, a8, a9, a10, a11, a12, a13, a14], _ =>
      simp at k0 k1 k2 k3 k4
      obtain ⟨rfl, rfl, rfl⟩ := k0
      obtain ⟨rfl, rfl, rfl⟩ := k1
      obtain ⟨rfl, rfl, rfl⟩ := k2
      obtain ⟨rfl, rfl, rfl⟩ := k3
      obtain ⟨rfl, rfl, rfl⟩ := k4
      rfl
  subst hcs
  unfold World.var? at hv
  rw [hg'] at hv
  simp only [Option.bind_some] at hv
  split at hv
  · rename_i cs' t fr heq
    obtain rfl := Option.some.inj hv
    exact ⟨t, fr, heq⟩
  · cases hv
theorem ent_syn {W : World} (h : Lib.VarReads Tryz.prog W "strconv.ErrSyntax" synData) : ∃ te pe, W.cell? ⟨8, 0, none⟩ = some (.iface te pe) := by
  obtain ⟨g, t, cs, fuel, p, hg, ht, hv, hd⟩ := h
  have hg' : Tryz.prog.globalNamed "strconv.ErrSyntax" = some 8 := by kernel_rfl
  obtain rfl := Option.some.inj (hg'.symm.trans hg)
  have ht' : (Tryz.prog.globals[8]?).map (·.type) = some 104 := by kernel_rfl
  obtain rfl := Option.some.inj (ht'.symm.trans ht)
  obtain ⟨f', u, v, hc, _, _⟩ := iface_of_trod Tryz.underlying104 hd
  refine ⟨u, v, ?_⟩
  have := World.var?_cell hg' hv 0
  rw [this, ← Array.getElem?_toList, hc]; rfl
/-- What the walks of entity ask. -/
theorem entV_of {W : World} (hsh : W.ShapedOpen Tryz.prog) (h1 : Lib.VarReads Tryz.prog W "galliard/entity.names" namesData) (h2 : Lib.VarReads Tryz.prog W "galliard/entity.bases" basesData) (h3 : Lib.VarReads Tryz.prog W "strconv.ErrSyntax" synData) : EntV W := by
  have hb := ent_bases h2
  have hg : Tryz.prog.globalNamed "galliard/entity.bases" = some 5 := by kernel_rfl
  exact ⟨ent_names h1, hb.cell hg 0 (by decide), hb.cell hg 1 (by decide), ent_syn h3, Tryz.laysM145.s1_3 W hsh⟩

end Go.Proofs.YtincdacickhdkaaGreatDoor
namespace Go.Proofs.YtincdacickhdkaaGreatDoor
open Go Go.RowKit Go.ChangeShapes Go.Deep
set_option maxRecDepth 100000

theorem ncell_lt {w : World} {b o : Nat} {v : Value} (h : w.cell? ⟨b, o, none⟩ = some v) : b < w.heap.size := World.block_lt_of_cell? w _ h
/-- Elements one by one are a list of them. -/
theorem nodes_list {P : Nat → Prop} {w : World} {c : Nat → Nat → Value} : ∀ m : Nat, (∀ j, j < m → ∃ x, NodeV P w (.agg #[c j 0, c j 1, c j 2, c j 3, c j 4]) x) → ∃ K : List Nd, K.length = m ∧ ∀ j (h : j < K.length), NodeV P w (.agg #[c j 0, c j 1, c j 2, c j 3, c j 4]) (K[j]'h)
  | 0, _ => ⟨[], rfl, fun j h => absurd h (Nat.not_lt_zero j)⟩
  | m + 1, h => by
    obtain ⟨K, hl, hK⟩ := nodes_list m fun j hj => h j (by omega)
    obtain ⟨x, hx⟩ := h m (by omega)
    refine ⟨K ++ [x], by rw [List.length_append, hl]; rfl, fun j hj => ?_⟩
    by_cases hjm : j < K.length
    · rw [List.getElem_append_left hjm]; exact hK j hjm
    · have e : j = m := by rw [List.length_append] at hj; have : ([x] : List Nd).length = 1 := rfl; omega
      subst e
      rw [List.getElem_append_right (by omega)]
      simp only [List.getElem_singleton]
      exact hx
/-- Attributes one by one are a list of them. -/
theorem atts_list {w : World} {b off : Nat} : ∀ m : Nat, (∀ j, j < m → ∃ n v : ByteArray, w.cell? ⟨b, off + j * 2, none⟩ = some (.string n) ∧ w.cell? ⟨b, off + j * 2 + 1, none⟩ = some (.string v)) →
    ∃ A : List Att, A.length = m ∧ ∀ j (h : j < A.length), w.cell? ⟨b, off + j * 2, none⟩ = some (.string (A[j]'h).1) ∧ w.cell? ⟨b, off + j * 2 + 1, none⟩ = some (.string (A[j]'h).2)
  | 0, _ => ⟨[], rfl, fun j h => absurd h (Nat.not_lt_zero j)⟩
  | m + 1, h => by
    obtain ⟨A, hl, hA⟩ := atts_list m fun j hj => h j (by omega)
    obtain ⟨n, v, hx⟩ := h m (by omega)
    refine ⟨A ++ [(n, v)], by rw [List.length_append, hl]; rfl, fun j hj => ?_⟩
    by_cases hjm : j < A.length
    · rw [List.getElem_append_left hjm]; exact hA j hjm
    · have e : j = m := by rw [List.length_append] at hj; have : ([(n, v)] : List Att).length = 1 := rfl; omega
      subst e
      rw [List.getElem_append_right (by omega)]
      simp only [List.getElem_singleton]
      exact hx
theorem cells_five {cs : List Value} (h : cs.length = 5) : ∃ a b c d e, cs = [a, b, c, d, e] := by
  match cs, h with
  | [a, b, c, d, e], _ => exact ⟨a, b, c, d, e, rfl⟩
theorem atts_trod {H : Type} {enc : TypeId × Value → H} {W : World} {fuel : Nat} {c : Value} {x : DataW H × List MemPlace} (h : DataW.trod enc Tryz.prog W 0 (fun _ => true) true fuel 22 [c] = some x) : ∃ A, AttV (fun _ => True) W c A := by
  rcases open_slice Tryz.underlying22 h with ⟨hcs, hx⟩ | ⟨a, len, cap, m, nn, D, Pl, hcs, _, hl, hm, hmm, hx, hi⟩
  · simp at hcs
    exact ⟨[], none, 0, hcs, fun h => absurd h (Nat.lt_irrefl _), Nat.le_refl _⟩
  · simp at hcs
    subst hcs
    simp only [if_true] at hmm
    have hC : Tryz.prog.cellsOf 48 = 2 := by kernel_rfl
    have hone : Tryz.prog.cellsOf 9 = 1 := by kernel_rfl
    have hget : ∀ i, i < len → ∀ q, q < 2 → ∃ z : ByteArray, W.cell? ((a.add (i * 2)).add q) = some (.string z) := fun i hin q hq => by
      obtain ⟨cs', h1, h2⟩ := hi i (by omega)
      rw [hC] at h1
      obtain ⟨ys, n', _, _, hlen, hyl, hfl⟩ := DataW.trod_struct Tryz.underlying48 h2
      obtain ⟨_, hcl, hat⟩ := World.cells?_some h1
      obtain ⟨y0, y1, rfl⟩ : ∃ y0 y1, ys = [y0, y1] := by
        match ys, hyl with
        | [y0, y1], _ => exact ⟨y0, y1, rfl⟩
      have e0 := hfl 0 _ rfl
      have e1 := hfl 1 _ rfl
      change DataW.trod enc Tryz.prog W 0 (fun _ => true) true n' 9 ((cs'.drop 0).take (Tryz.prog.cellsOf 9)) = some y0 at e0
      change DataW.trod enc Tryz.prog W 0 (fun _ => true) true n' 9 ((cs'.drop 1).take (Tryz.prog.cellsOf 9)) = some y1 at e1
      rw [hone] at e0 e1
      obtain ⟨z0, hz0, _, _⟩ := DataW.trod_string Tryz.underlying9 e0
      obtain ⟨z1, hz1, _, _⟩ := DataW.trod_string Tryz.underlying9 e1
      obtain ⟨c0, c1, rfl⟩ : ∃ c0 c1, cs' = [c0, c1] := by
        match cs', hcl with
        | [c0, c1], _ => exact ⟨c0, c1, rfl⟩
      simp at hz0 hz1
      subst hz0 hz1
      have hc := hat q hq
      match q, hq with
      | 0, _ => exact ⟨z0, hc⟩
      | 1, _ => exact ⟨z1, hc⟩
    by_cases hpos : 0 < len
    · obtain ⟨b, off, spot⟩ := a
      obtain ⟨zz, hzz⟩ := hget 0 hpos 0 (by decide)
      have hspot : spot = none := by simpa [Addr.add] using World.cell?_spot hzz
      subst hspot
      have hc : ∀ i, i < len → ∀ q, q < 2 → ∃ z : ByteArray, W.cell? ⟨b, off + i * 2 + q, none⟩ = some (.string z) := fun i hi q hq => by
        obtain ⟨z, hz⟩ := hget i hi q hq
        rw [Go.WideShapes.add_plain, Go.WideShapes.add_plain] at hz
        exact ⟨z, hz⟩
      obtain ⟨A, hA, hAc⟩ := atts_list (w := W) (b := b) (off := off) len fun j hj => by
        obtain ⟨n, hn⟩ := hc j hj 0 (by decide)
        obtain ⟨v, hv⟩ := hc j hj 1 (by decide)
        exact ⟨n, v, hn, hv⟩
      obtain ⟨z0, hz0⟩ := hc 0 hpos 0 (by decide)
      exact ⟨A, some ⟨b, off, none⟩, cap, by rw [hA], fun _ => ⟨b, off, rfl, trivial, ncell_lt hz0, hAc⟩, by rw [hA]; exact hl⟩
    · have e : len = 0 := by omega
      subst e
      exact ⟨[], some a, cap, rfl, fun h => absurd h (Nat.lt_irrefl _), Nat.zero_le _⟩
theorem node_trod {H : Type} {enc : TypeId × Value → H} {W : World} : ∀ (f fuel : Nat), fuel ≤ f → ∀ (cs : List Value) (x : DataW H × List MemPlace), DataW.trod enc Tryz.prog W 0 (fun _ => true) true fuel 25 cs = some x →
    ∃ (c0 c1 c2 c3 c4 : Value) (X : Nd), cs = [c0, c1, c2, c3, c4] ∧ NodeV (fun _ => True) W (.agg #[c0, c1, c2, c3, c4]) X
  | 0, fuel, hf, cs, x, h => by
    obtain ⟨ys, n', hfu, _⟩ := DataW.trod_struct Tryz.underlying25 h
    omega
  | f + 1, fuel, hf, cs, x, h => by
    obtain ⟨ys, n', hfu, _, hlen, hyl, hfl⟩ := DataW.trod_struct Tryz.underlying25 h
    have hC : Tryz.prog.cellsOf 25 = 5 := by kernel_rfl
    have h1s : Tryz.prog.cellsOf 9 = 1 := by kernel_rfl
    have h1a : Tryz.prog.cellsOf 22 = 1 := by kernel_rfl
    have h1n : Tryz.prog.cellsOf 23 = 1 := by kernel_rfl
    rw [hC] at hlen
    obtain ⟨c0, c1, c2, c3, c4, rfl⟩ := cells_five hlen
    obtain ⟨y0, y1, y2, y3, y4, rfl⟩ : ∃ y0 y1 y2 y3 y4, ys = [y0, y1, y2, y3, y4] := by
      match ys, hyl with
      | [y0, y1, y2, y3, y4], _ => exact ⟨y0, y1, y2, y3, y4, rfl⟩
    have e0 := hfl 0 _ rfl
    have e1 := hfl 1 _ rfl
    have e2 := hfl 2 _ rfl
    have e3 := hfl 3 _ rfl
    have e4 := hfl 4 _ rfl
    change DataW.trod enc Tryz.prog W 0 (fun _ => true) true n' 9 (([c0, c1, c2, c3, c4].drop 0).take (Tryz.prog.cellsOf 9)) = some y0 at e0
    change DataW.trod enc Tryz.prog W 0 (fun _ => true) true n' 9 (([c0, c1, c2, c3, c4].drop 1).take (Tryz.prog.cellsOf 9)) = some y1 at e1
    change DataW.trod enc Tryz.prog W 0 (fun _ => true) true n' 22 (([c0, c1, c2, c3, c4].drop 2).take (Tryz.prog.cellsOf 22)) = some y2 at e2
    change DataW.trod enc Tryz.prog W 0 (fun _ => true) true n' 23 (([c0, c1, c2, c3, c4].drop 3).take (Tryz.prog.cellsOf 23)) = some y3 at e3
    change DataW.trod enc Tryz.prog W 0 (fun _ => true) true n' 9 (([c0, c1, c2, c3, c4].drop 4).take (Tryz.prog.cellsOf 9)) = some y4 at e4
    rw [h1s] at e0 e1 e4
    rw [h1a] at e2
    rw [h1n] at e3
    simp only [List.drop_zero, List.drop_succ_cons, List.take_succ_cons, List.take_zero] at e0 e1 e2 e3 e4
    obtain ⟨s0, hs0, _, _⟩ := DataW.trod_string Tryz.underlying9 e0
    obtain ⟨s1, hs1, _, _⟩ := DataW.trod_string Tryz.underlying9 e1
    obtain ⟨s4, hs4, _, _⟩ := DataW.trod_string Tryz.underlying9 e4
    simp at hs0 hs1 hs4
    subst hs0 hs1 hs4
    obtain ⟨A, hA⟩ := atts_trod e2
    refine ⟨.string s0, .string s1, c2, c3, .string s4, ?_⟩
    rcases DataW.trod_slice Tryz.underlying23 e3 with ⟨hcs, _⟩ | ⟨a, len, cap, elems, rest, n2, hn2, hcs, _, _, hl, hm, hel, hi, _⟩
    · simp at hcs
      subst hcs
      exact ⟨.mk s0 s1 A [] s4, rfl, .mk s0 s1 s4 A [] c2 none 0 (fun _ _ => undef) hA (fun h => absurd h (Nat.lt_irrefl _)) (fun j h => absurd h (Nat.not_lt_zero j))⟩
    · simp at hcs
      subst hcs
      rw [hC] at hi
      have hnode : ∀ j, j < len → ∃ c0 c1 c2 c3 c4 X, NodeV (fun _ => True) W (.agg #[c0, c1, c2, c3, c4]) X ∧ ∀ q, q < 5 → W.cell? ((a.add (j * 5)).add q) = [c0, c1, c2, c3, c4][q]? := fun j hj => by
        have h1 := hi j hj
        rw [List.getElem?_eq_getElem (by omega), Option.bind_eq_some_iff] at h1
        obtain ⟨cs', h2, h3⟩ := h1
        obtain ⟨_, hcl, hat⟩ := World.cells?_some h2
        obtain ⟨d0, d1, d2, d3, d4, X, rfl, hX⟩ := node_trod f n2 (by omega) cs' _ h3
        exact ⟨d0, d1, d2, d3, d4, X, hX, hat⟩
      by_cases hpos : 0 < len
      · obtain ⟨b, off, spot⟩ := a
        have hspot : spot = none := by
          obtain ⟨d0, d1, d2, d3, d4, X, _, hq⟩ := hnode 0 hpos
          have := hq 0 (by decide)
          simpa [Addr.add] using World.cell?_spot this
        subst hspot
        have hcell : ∀ j, j < len → ∃ X, NodeV (fun _ => True) W (.agg #[(W.cell? ⟨b, off + j * 5 + 0, none⟩).getD undef, (W.cell? ⟨b, off + j * 5 + 1, none⟩).getD undef, (W.cell? ⟨b, off + j * 5 + 2, none⟩).getD undef, (W.cell? ⟨b, off + j * 5 + 3, none⟩).getD undef, (W.cell? ⟨b, off + j * 5 + 4, none⟩).getD undef]) X ∧
            ∀ q, q < 5 → W.cell? ⟨b, off + j * 5 + q, none⟩ = some ((W.cell? ⟨b, off + j * 5 + q, none⟩).getD undef) := fun j hj => by
          obtain ⟨d0, d1, d2, d3, d4, X, hX, hq⟩ := hnode j hj
          have hq' : ∀ q, q < 5 → W.cell? ⟨b, off + j * 5 + q, none⟩ = [d0, d1, d2, d3, d4][q]? := fun q h => by
            have := hq q h
            rw [Go.WideShapes.add_plain, Go.WideShapes.add_plain] at this
            exact this
          refine ⟨X, ?_, fun q h => ?_⟩
          · rw [hq' 0 (by decide), hq' 1 (by decide), hq' 2 (by decide), hq' 3 (by decide), hq' 4 (by decide)]
            exact hX
          · rw [hq' q h]
            match q, h with
            | 0, _ => rfl
            | 1, _ => rfl
            | 2, _ => rfl
            | 3, _ => rfl
            | 4, _ => rfl
        obtain ⟨K, hK, hKn⟩ := nodes_list (P := fun _ => True) (w := W) (c := fun j q => (W.cell? ⟨b, off + j * 5 + q, none⟩).getD undef) len fun j hj => by
          obtain ⟨X, hX, _⟩ := hcell j hj
          exact ⟨X, hX⟩
        subst hK
        refine ⟨.mk s0 s1 A K s4, rfl, .mk s0 s1 s4 A K c2 (some ⟨b, off, none⟩) cap (fun j q => (W.cell? ⟨b, off + j * 5 + q, none⟩).getD undef) hA (fun _ => ⟨b, off, rfl, trivial, ?_, fun j hj q hq => ?_⟩) hKn⟩
        · obtain ⟨_, _, hc⟩ := hcell 0 hpos
          exact ncell_lt (hc 0 (by decide))
        · obtain ⟨_, _, hc⟩ := hcell j hj
          exact hc q hq
      · have e : len = 0 := by omega
        subst e
        exact ⟨.mk s0 s1 A [] s4, rfl, .mk s0 s1 s4 A [] c2 (some a) cap (fun _ _ => undef) hA (fun h => absurd h (Nat.lt_irrefl _)) (fun j h => absurd h (Nat.not_lt_zero j))⟩
/-- An element that was handed in. -/
theorem node_open {H : Type} {enc : TypeId × Value → H} {W : World} {cs : Array Value} {d : DataW H} {p : List MemPlace} (h : DataW.Trod enc Tryz.prog W 0 (fun _ => true) true 25 (.agg cs) d p) : ∃ X, NodeV (fun _ => True) W (.agg cs) X := by
  obtain ⟨fuel, hf⟩ := h
  obtain ⟨c0, c1, c2, c3, c4, X, hcs, hX⟩ := node_trod fuel fuel (Nat.le_refl _) _ _ hf
  have e : cs = #[c0, c1, c2, c3, c4] := by
    have : cs.toList = [c0, c1, c2, c3, c4] := hcs
    rw [← Array.toArray_toList (xs := cs), this]
  exact ⟨X, by rw [e]; exact hX⟩
end Go.Proofs.YtincdacickhdkaaGreatDoor
namespace Go.Proofs.YtincdacickhdkaaGreatDoor
open Go.ChangeShapes Go.WideShapes Go.ChangeAt Go.RowKit
open Go.ChangeMaps (open_string shut_string)

theorem writeBack_own : ownKnob Tryz.prog.godebug = none := by kernel_rfl
theorem writeBack_first : Go.Pinned.utf8First = Lib.firstData := by kernel_rfl
theorem writeBack_accept : (Rows.laid_unicode_utf8_acceptRanges : DataW Unit) = Lib.acceptData := by kernel_rfl
theorem writeBack_tabs {W : World} (h : laidMetH Tryz.prog Rows.writeBackRow.laid W) : Tabs W := by
  rw [MakeChecks.laidMetH_plain _ _ _ (by kernel_rfl)] at h
  have h3 : Lib.VarReads Tryz.prog W "unicode/utf8.first" Lib.firstData := by rw [← writeBack_first]; exact Lib.laidMet.reads h (.tail _ (.tail _ (.tail _ (.tail _ (.tail _ (.tail _ (.tail _ (.tail _ (.head _)))))))))
  have h4 : Lib.VarReads Tryz.prog W "unicode/utf8.acceptRanges" Lib.acceptData := by rw [← writeBack_accept]; exact Lib.laidMet.reads h (.tail _ (.tail _ (.tail _ (.head _))))
  exact Go.Proofs.utf8Tabs_of_reads Tryz.lays260 ⟨by kernel_rfl, by kernel_rfl, by kernel_rfl, by kernel_rfl, by kernel_rfl, by kernel_rfl, by kernel_rfl⟩ h3 h4
theorem writeBack_ent {W : World} (h : laidMetH Tryz.prog Rows.writeBackRow.laid W) (hsh : W.ShapedOpen Tryz.prog) : EntV W := by
  rw [MakeChecks.laidMetH_plain _ _ _ (by kernel_rfl)] at h
  have e0 : (Rows.laid_galliard_entity_names : DataW Unit) = namesData := by kernel_rfl
  have r0 : Lib.VarReads Tryz.prog W "galliard/entity.names" namesData := by rw [← e0]; exact Lib.laidMet.reads h (.tail _ (.tail _ (.tail _ (.tail _ (.tail _ (.tail _ (.tail _ (.head _))))))))
  have e1 : (Rows.laid_galliard_entity_bases : DataW Unit) = basesData := by kernel_rfl
  have r1 : Lib.VarReads Tryz.prog W "galliard/entity.bases" basesData := by rw [← e1]; exact Lib.laidMet.reads h (.tail _ (.tail _ (.tail _ (.tail _ (.tail _ (.tail _ (.head _)))))))
  have e2 : (Rows.laid_strconv_ErrSyntax : DataW Unit) = synData := by kernel_rfl
  have r2 : Lib.VarReads Tryz.prog W "strconv.ErrSyntax" synData := by rw [← e2]; exact Lib.laidMet.reads h (.tail _ (.tail _ (.tail _ (.tail _ (.tail _ (.head _))))))
  exact entV_of hsh r0 r1 r2

set_option maxRecDepth 100000 in
theorem writeBack_lifted (os : Os) (started : os.Started) (H : Type) (enc : TypeId × Value → H) :
    ReturnsInHanded {} Tryz.checked os 4 .any (fun w args => (Rows.writeBackSpec.pre enc Tryz.prog Tryz.f4 Rows.writeBackRow.domain false w args ∧ laidMetH Tryz.prog Rows.writeBackRow.laid w) ∧ sizedMet enc Tryz.prog Tryz.f4 (OpenSpec.ofChange Rows.writeBackSpec) false w args)
      (Rows.writeBackSpec.post enc Tryz.prog Tryz.f4 false true false false) := by
  refine lift_both (C := Tryz.checked) (X := fun w _ => laidMetH Tryz.prog Rows.writeBackRow.laid w) (fun _ _ _ hh h => h.of_heap hh) writeBack_own started (by kernel_rfl) Tryz.func4
    (ChangeSpec.witness_shaped (enc := enc) (C := Tryz.checked) (os := os) (X := fun w _ => laidMetH Tryz.prog Rows.writeBackRow.laid w) false (World.laidAll Tryz.prog os Rows.writeBackRow.laid) #[.agg #[.string ⟨#[]⟩, .string ⟨#[]⟩, .slice none 0 0, .slice none 0 0, .string ⟨#[]⟩], .int .i64 0] 8 (World.laidAll_os _ _ _)
      (World.shaped_of_ZipB (by kernel_rfl) (by kernel_rfl)) (by kernel_rfl) (by kernel_rfl) (by kernel_rfl)
      (by rw [MakeChecks.laidMetH_plain _ _ _ (by kernel_rfl)]; exact laidMet_laidAll _ (by kernel_rfl) (by kernel_rfl))) ?_
  intro W base args ds gs before hval0 hW _ _ hL hsh _
  have hval : ∀ (j : Nat) t v, Tryz.f4.params[j]? = some t → args[j]? = some v → Value.okWide Tryz.prog W .any base t v := hval0
  have hW' := hW
  obtain ⟨p, q, hA0, hV, rfl, _, _⟩ := hW
  have hA : DataW.TrodAll enc Tryz.prog W 0 (fun _ => true) true Tryz.f4.params.toList args.toList ds p := hA0
  rw [Tryz.params4] at hA hval
  obtain ⟨v0, v1, d0, d1, p0, p1, rfl, rfl, rfl, h0, h1⟩ := trodAll_two hA
  obtain ⟨rfl, rfl⟩ := trodVars_none hV
  obtain ⟨x0, rfl, _⟩ := okWide_struct Tryz.underlying25 (hval 0 25 v0 rfl rfl)
  have o0 := node_open h0
  obtain ⟨x1, rfl, rfl, rfl, wx1⟩ := open_int Tryz.underlying3 (hval 1 3 v1 rfl rfl) h1
  clear hA0 hval0
  simp only [List.append_nil] at hW'
  have hlt : ∀ x ∈ p0, x.block < W.heap.size := fun x hx => by simpa using hW'.lt x (by simpa using hx)
  have hlo : laidOutB Tryz.prog = true := by kernel_rfl
  refine (back07_any (.agg x0) x1 W (writeBack_ent hL hsh) (writeBack_tabs hL) o0).mono fun e W' ⟨he, hb⟩ => ?_
  subst he
  refine ⟨_, rfl, _, _, _, [], p0 ++ ([]), [], hW', ?_, ?_, ?_, hb.frame _, fun h => by cases h⟩
  · exact trodAll_mk1 (shut_bool Tryz.underlying4 _)
  · exact trodAll_mk2 (RowKit.Below.trod hlo (by kernel_rfl) (of_decide_eq_true (by kernel_rfl)) h0 hb (fun x hx => hlt x (by simp [hx]))) (shut_int Tryz.underlying3 wx1)
  · rfl

theorem writeBack_holds : Rows.WriteBackSaid :=
  OpenClaim.holds_of_wide 4 Tryz.f4 rfl rfl rfl rfl rfl rfl rfl ⟨rfl, rfl, rfl, rfl, rfl⟩ rfl rfl rfl rfl rfl (by kernel_rfl) Tryz.func4 (by kernel_rfl)
    (of_decide_eq_true (by kernel_rfl)) (by unfold Func.isWrapper; rw [if_neg (of_decide_eq_false (by kernel_rfl))]; exact ⟨rfl, rfl⟩)
    (fun os started H enc _ => writeBack_lifted os started H enc)

theorem writeBack_card : Rows.WriteBackCardSaid :=
  Claim7.holds_tied_plain_at .later [] [.data, .data, .data, .data, .sentinel, .sentinel, .data, .data, .pinned] true (true, "b852d5e750bf037b547239a691b0acc4d5b43bfa0d9bef7bf3df7a839c4a2366") true writeBack_holds (fun _ h => by cases h) (by kernel_rfl) (fun _ h => by cases h) writeBack_row_tie rfl ⟨rfl, rfl⟩ (by kernel_rfl) rfl
    (fun f fn hf hfn => by
      obtain rfl : f = 4 := Option.some.inj ((show Tryz.prog.funcNamed "galliard/galliardlaw07.WriteBack" = some 4 by kernel_rfl).symm.trans hf) |>.symm
      obtain rfl : fn = Tryz.f4 := (Option.some.inj (Tryz.func4.symm.trans hfn)).symm
      exact ⟨by kernel_rfl, fun j t ht => by
        rw [Tryz.params4] at ht
        have hm : t ∈ [25, 3] := by simpa using Array.mem_of_getElem? ht
        have hall : ([25, 3].all fun u => !Tryz.prog.wantsStandIn u) = true := by kernel_rfl
        exact (show Tryz.prog.wantsStandIn t = false by simpa using List.all_eq_true.1 hall t hm)⟩)
    (by kernel_rfl)
#print axioms writeBack_card
end Go.Proofs.YtincdacickhdkaaGreatDoor
