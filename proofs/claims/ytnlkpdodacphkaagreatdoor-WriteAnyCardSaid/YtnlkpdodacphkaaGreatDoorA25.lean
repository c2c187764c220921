/-
  The walk of layer 7's law WriteAny: whatever a text is read as may be written, and is read as the same again.
  A row's lift, where the call is handed what the listed variables read as and the world's shape, both.
  From what a row lists of the package-level variables, and the world's shape, to what the walks of entity ask of the world.
-/
import Derived.Test.YtnlkpdodacphkaaGreatDoorA21
import Derived.Test.YtnlkpdodacphkaaGreatDoorA19
import Derived.Test.YtnlkpdodacphkaaGreatDoorA22
import Derived.Test.YtnlkpdodacphkaaGreatDoorA24
import Derived.BigQuiet
import Derived.Deep.QuietTactic
import Derived.Test.YtnlkpdodacphkaaGreatDoorA14
import Derived.IntWalk
import Derived.HandedShaped
import Derived.Handed
import Derived.ProofKit
import Derived.Test.YtnlkpdodacphkaaGreatDoorA8
import Derived.Lib.LaidU8
namespace Go.Proofs.YtnlkpdodacphkaaGreatDoor
open Go Go.RowKit Go.Lib
set_option maxRecDepth 100000

theorem parse_pu (U : ByteArray) (w : World) (hE : EntV w) (hT : Tabs w) (hs : U.size ≤ 4000000000) (hp : resOk (bl U).length (parseL (bl U))) :
    Calls Tryz.prog 9 #[.string U] w fun r w' => ∃ sp nm tx a1 n1 c1 a2 n2 c2 e p, r = .returned (.tuple #[.agg #[.string sp, .string nm, .slice a1 n1 c1, .slice a2 n2 c2, .string tx], .int .i64 p, .int .i64 e]) ∧
      PU U w.heap.size (.agg #[.string sp, .string nm, .slice a1 n1 c1, .slice a2 n2 c2, .string tx]) e w' ∧ Below w.heap.size w w' := by
  refine (dparse U w hE hT hs).mono ?_
  rintro r w' ⟨h1 | h1, hb⟩
  · obtain ⟨e, a, hx, rfl⟩ := h1
    rw [hx] at hp
    exact ⟨_, _, _, _, _, _, _, _, _, _, _, rfl, .inl hp.2.2, hb⟩
  · obtain ⟨x, v, hx, rfl, hn⟩ := h1
    obtain ⟨sp, nm, tx, a1, n1, c1, a2, n2, c2, rfl⟩ := form06 hn
    exact ⟨_, _, _, _, _, _, _, _, _, _, _, rfl, .inr ⟨rfl, x, hx, hn⟩, hb⟩
theorem bcell07 {W w1 : World} (hb : Below W.heap.size W w1) : (∀ b o, b < W.heap.size → w1.cell? ⟨b, o, none⟩ = W.cell? ⟨b, o, none⟩) ∧ (∀ b o, b < W.heap.size → w1.frozen? ⟨b, o, none⟩ = W.frozen? ⟨b, o, none⟩) := bcell06 hb

set_option maxHeartbeats 16000000 in
theorem anyw_any (v v2 : Value) (s : ByteArray) (w : World) (hE : EntV w) (hT : Tabs w) (hv : ∃ X, NodeV (fun _ => True) w v X) (h2 : ∃ a b : Int, v2 = .agg #[.int .i64 a, .int .i64 b]) :
    Calls Tryz.prog 3 #[v, v2, .string s] w fun e w' => e = .returned (.bool true) ∧ Below w.heap.size w w' := by
  obtain ⟨X, hX⟩ := hv
  obtain ⟨a, b, rfl⟩ := h2
  obtain ⟨xsp, xnm, xtx, xa, xan, xac, xk, xkn, xkc, rfl⟩ := form06 hX
  have hA1 := (Below.refl w.heap.size w).alloc (Nat.le_refl _) (.cells #[.string xsp, .string xnm, .slice xa xan xac, .slice xk xkn xkc, .string xtx] 25)
  have hA2 := hA1.alloc (by simp) (.cells #[.int .i64 a, .int .i64 b] 26)
  have hN0 := heap_alloc_new (w.alloc (.cells #[.string xsp, .string xnm, .slice xa xan xac, .slice xk xkn xkc, .string xtx] 25)) (.cells #[.int .i64 a, .int .i64 b] 26)
  rw [World.size_alloc] at hN0
  obtain ⟨w0, hw0⟩ : ∃ w0, (w.alloc (.cells #[.string xsp, .string xnm, .slice xa xan xac, .slice xk xkn xkc, .string xtx] 25)).alloc (.cells #[.int .i64 a, .int .i64 b] 26) = w0 := ⟨_, rfl⟩
  have hc0 : ∀ q v, (#[.string xsp, .string xnm, .slice xa xan xac, .slice xk xkn xkc, .string xtx] : Array Value)[q]? = some v → w0.cell? ⟨w.heap.size, q, none⟩ = some v := fun q v h => by
    have hX0 := (Below.heap_alloc (w.alloc (.cells #[.string xsp, .string xnm, .slice xa xan xac, .slice xk xkn xkc, .string xtx] 25)) (.cells #[.int .i64 a, .int .i64 b] 26) w.heap.size (by simp)).trans (heap_alloc_new w _)
    rw [← hw0, Lib.cell_of_heap hX0]; exact h
  have x0 := hc0 0 _ rfl
  have x1 := hc0 1 _ rfl
  have x2 := hc0 2 _ rfl
  have x3 := hc0 3 _ rfl
  have x4 := hc0 4 _ rfl
  rw [hw0] at hA2 hN0
  have HN := Lib.hid (near_spec 2 3 _ X w0 (by decide) (by decide) (by decide) (hX.any hA2))
  have HA2 := Lib.hid hA2
  have HN0 := Lib.hid hN0
  have HE := Lib.hid (hE.below hA2)
  have HT := Lib.hid (hT.below hA2)
  clear hA1 hA2 hN0 hX hE hT hc0
  go_enter Tryz.func3, Tryz.ntmps3
  go_wp2_with fail
  refine HN.out.mono ?_
  rintro e w1 ⟨v1, y, rfl, hy, hyB, hb1⟩
  obtain ⟨ysp, ynm, ytx, ya, yan, yac, yk, ykn, ykc, rfl⟩ := form06 hy
  have CT := text_spec 3 y _ ⟨#[]⟩ [] w1 (hy.any (Below.refl _ _)) hyB (by decide)
  have hTl := text_size hyB
  have hTc := text_lts hyB
  have hTF := text_chs hyB
  obtain ⟨TL, hTL⟩ : ∃ TL, textT y ⟨#[]⟩ [] = TL := ⟨_, rfl⟩
  rw [hTL] at CT hTl hTc hTF
  have hTl2 : TL.length ≤ 6900 := Nat.le_trans hTl (by decide)
  have HTF := Lib.hid hTF
  have hTc2 : lts TL ≤ 26 := Nat.le_trans hTc (by decide)
  have CT := Lib.hid CT
  have hq0 : w.heap.size + 1 < w0.heap.size := (Array.getElem?_eq_some_iff.1 HN0.out).1
  have HN1 := Lib.hid ((hb1.block _ hq0).trans HN0.out)
  have HB1 := Lib.hid (HA2.out.trans (hb1.mono HA2.out.size))
  have HE1 := Lib.hid (HE.out.below hb1)
  have HT1 := Lib.hid (HT.out.below hb1)
  clear hy hyB hb1 hTL hTl hTc hTF x0 x1 x2 x3 x4 HN hw0 HN0 HA2 HE HT hq0
  go_wp2_with fail
  refine CT.out.mono ?_
  rintro e w2 ⟨rfl, hb2⟩
  obtain ⟨T, hT⟩ : ∃ T, str TL = T := ⟨_, rfl⟩
  have hTs : T.size = TL.length := by rw [← hT, str_size]
  have hq1 : w.heap.size + 1 < w1.heap.size := (Array.getElem?_eq_some_iff.1 HN1.out).1
  have hN2 := (hb2.block _ hq1).trans HN1.out
  have c0 := Lib.cell_of_heap hN2 0
  have c1 := Lib.cell_of_heap hN2 1
  simp only [List.getElem?_toArray, List.getElem?_cons_zero, List.getElem?_cons_succ] at c0 c1
  have HB2 := Lib.hid (HB1.out.trans (hb2.mono HB1.out.size))
  have HE2 := Lib.hid (HE1.out.below hb2)
  have HT2 := Lib.hid (HT1.out.below hb2)
  rw [hT]
  have HTe := Lib.hid hT
  obtain ⟨m0, hm0, hmask0⟩ := mask_i64 a 16 (by decide) 65535 (by decide)
  obtain ⟨j, hj, hmask1⟩ := mask_i64 b 3 (by decide) 7 (by decide)
  obtain ⟨n, hn⟩ : ∃ n, T.size = n := ⟨_, rfl⟩
  have hn2 : n ≤ 6900 := by omega
  obtain ⟨k, hk⟩ : ∃ k, m0 % (n + 1) = k := ⟨_, rfl⟩
  have hkn : k ≤ n := by have := Nat.mod_lt m0 (show 0 < n + 1 by omega); omega
  obtain ⟨m, hm1, hm2, hm3, hmi, hmn⟩ := min8 s.size 6
  have hmI : min (s.size : Int) 6 = m := by have := hmi.out; omega
  have hj8 : (j : Int) < 8 := by omega
  obtain ⟨q, hq⟩ : ∃ q, min (k + j) n = q := ⟨_, rfl⟩
  have hqn : q ≤ n := by omega
  have hkq : k ≤ q := by omega
  have hmQ : min ((k : Int) + j) n = q := by omega
  obtain ⟨T1, hT1⟩ : ∃ T1, T.extract 0 k = T1 := ⟨_, rfl⟩
  obtain ⟨S1, hS1⟩ : ∃ S1, s.extract 0 m = S1 := ⟨_, rfl⟩
  obtain ⟨T2, hT2⟩ : ∃ T2, T.extract q n = T2 := ⟨_, rfl⟩
  have hrem : (m0 : Int).tmod ((n : Int) + 1) = k := by rw [← hk]; norm_cast
  have t1s : T1.size = k := by rw [← hT1, ByteArray.size_extract]; omega
  have s1s : S1.size = m := by rw [← hS1, ByteArray.size_extract]; omega
  have t2s : T2.size = n - q := by rw [← hT2, ByteArray.size_extract]; omega
  obtain ⟨U1, hU1⟩ : ∃ U1, T1 ++ S1 = U1 := ⟨_, rfl⟩
  obtain ⟨U, hU⟩ : ∃ U, U1 ++ T2 = U := ⟨_, rfl⟩
  have u1s : U1.size = k + m := by rw [← hU1, ByteArray.size_append]; omega
  have us : U.size = k + m + (n - q) := by rw [← hU, ByteArray.size_append]; omega
  have qa : ¬ 9223372036854775807 < T1.size + S1.size := by omega
  have qb : ¬ 9223372036854775807 < U1.size + T2.size := by omega
  have e : bl U = (bl T).take k ++ (bl s).take m ++ (bl T).drop q := by
    rw [← hU, ← hU1, bl_append, bl_append, ← hT1, ← hS1, ← hT2]
    have e1 : bl (T.extract 0 k) = (bl T).take k := by unfold bl; simp
    have e2 : bl (s.extract 0 m) = (bl s).take m := by unfold bl; simp
    have e3 : bl (T.extract q n) = (bl T).drop q := by rw [← hn]; exact bl_from T q
    rw [e1, e2, e3]
  have hUl : lts (bl U) ≤ 32 := by
    rw [e]
    have := cut_lts (bl T) (bl s) k m q hkq hm2
    rw [← HTe.out, str_bl] at this ⊢
    omega
  have hUF : FewT (bl U) := by
    rw [e, List.append_assoc, ← HTe.out, str_bl]
    exact few_cut HTF.out k q (by rw [List.length_take]; omega)
  have hpar := parse_ok (bl U) hUl
  have HPAR := Lib.hid hpar
  have HANY := Lib.hid (fun x (hx : parseL (bl U) = .ok x) => any_facts hUF hUl (by rw [bl_size]; omega) hx)
  have HUs := Lib.hid (show U.size ≤ 4000000000 by omega)
  have kw : IntKind.i64.wrap ((k : Int) + j) = (k : Int) + j := IntWalk.i64_in _ (by omega)
  have hq2 : w.heap.size + 1 < w2.heap.size := (Array.getElem?_eq_some_iff.1 hN2).1
  have HPA := Lib.hid (fun (wx : World) (hb : Below w2.heap.size w2 wx) => (parse_pu U wx (HE2.out.below hb) (HT2.out.below hb) HUs.out HPAR.out).mono (fun r w' h => (show _ ∧ w'.cell? ⟨w.heap.size + 1, 1, none⟩ = some (.int .i64 b) from
    ⟨h, by obtain ⟨_, _, _, _, _, _, _, _, _, _, _, _, _, h2⟩ := h; exact (h2.cell (p := ⟨w.heap.size + 1, 1, none⟩) (Nat.lt_of_lt_of_le hq2 hb.size)).trans ((hb.cell (p := ⟨w.heap.size + 1, 1, none⟩) hq2).trans c1)⟩)))
  have hne1 : w.heap.size + 1 ≠ w2.heap.size := by omega
  have hne2 : w2.heap.size ≠ w.heap.size + 1 := by omega
  clear hb2 hN2 hT hm3 hmi hmn hTs t1s s1s t2s u1s us hpar hUl hUF e
  go_wp2_with fail
  refine AnyG.begin (S := SG (fun w' => w'.cell? ⟨w.heap.size + 1, 1, none⟩ = some (.int .i64 b)) (fun _ => True) 999) (by kernel_rfl) ⟨?_, ?_⟩ (fun hHeld => ?_)
  focus ((try dsimp only); first | assumption | go_keep)
  focus (intro _; trivial)
  refine SG.take (i := 0) (v := ?_) rfl (by kernel_rfl) (by kernel_rfl) (by kernel_rfl) (fun _ _ _ h => h) (by decide) (by rfl) ?_ (by assumption) ?_
  rotate_left
  focus (intro w hSw; (try dsimp only at hSw); go_simp; (try with_reducible rfl))
  try simp only [Act.put, List.setIfInBounds_toArray, List.set_cons_zero, List.set_cons_succ, List.getElem_toArray, List.getElem_cons_zero]
  refine SG.take (i := 1) (v := ?_) rfl (by kernel_rfl) (by kernel_rfl) (by kernel_rfl) (fun _ _ _ h => h) (by decide) (by rfl) ?_ (by assumption) ?_
  rotate_left
  focus (intro w hSw; (try dsimp only at hSw); go_simp; (try with_reducible rfl))
  try simp only [Act.put, List.setIfInBounds_toArray, List.set_cons_zero, List.set_cons_succ, List.getElem_toArray, List.getElem_cons_succ, List.getElem_cons_zero]
  refine SG.take (i := 2) (v := ?_) rfl (by kernel_rfl) (by kernel_rfl) (by kernel_rfl) (fun _ _ _ h => h) (by decide) (by rfl) ?_ (by assumption) ?_
  rotate_left
  focus (intro w hSw; (try dsimp only at hSw); go_simp; (try with_reducible rfl))
  try simp only [Act.put, List.setIfInBounds_toArray, List.set_cons_zero, List.set_cons_succ, List.getElem_toArray, List.getElem_cons_succ, List.getElem_cons_zero]
  refine SG.take (i := 3) (v := ?_) rfl (by kernel_rfl) (by kernel_rfl) (by kernel_rfl) (fun _ _ _ h => h) (by decide) (by rfl) ?_ (by assumption) ?_
  rotate_left
  focus (intro w hSw; (try dsimp only at hSw); go_simp; (try with_reducible rfl))
  try simp only [Act.put, List.setIfInBounds_toArray, List.set_cons_zero, List.set_cons_succ, List.getElem_toArray, List.getElem_cons_succ, List.getElem_cons_zero]
  refine SG.take (i := 4) (v := ?_) rfl (by kernel_rfl) (by kernel_rfl) (by kernel_rfl) (fun _ _ _ h => h) (by decide) (by rfl) ?_ (by assumption) ?_
  rotate_left
  focus (intro w hSw; (try dsimp only at hSw); go_simp; (try with_reducible rfl))
  try simp only [Act.put, List.setIfInBounds_toArray, List.set_cons_zero, List.set_cons_succ, List.getElem_toArray, List.getElem_cons_succ, List.getElem_cons_zero]
  refine SG.take (i := 5) (v := ?_) rfl (by kernel_rfl) (by kernel_rfl) (by kernel_rfl) (fun _ _ _ h => h) (by decide) (by rfl) ?_ (by assumption) ?_
  rotate_left
  focus (intro w hSw; (try dsimp only at hSw); go_simp; (try with_reducible rfl))
  try simp only [Act.put, List.setIfInBounds_toArray, List.set_cons_zero, List.set_cons_succ, List.getElem_toArray, List.getElem_cons_succ, List.getElem_cons_zero]
  refine SG.take (i := 6) (v := ?_) rfl (by kernel_rfl) (by kernel_rfl) (by kernel_rfl) (fun _ _ _ h => h) (by decide) (by rfl) ?_ (by assumption) ?_
  rotate_left
  focus (intro w hSw; (try dsimp only at hSw); go_simp; (try with_reducible rfl))
  try simp only [Act.put, List.setIfInBounds_toArray, List.set_cons_zero, List.set_cons_succ, List.getElem_toArray, List.getElem_cons_succ, List.getElem_cons_zero]
  refine SG.take (i := 7) (v := ?_) rfl (by kernel_rfl) (by kernel_rfl) (by kernel_rfl) (fun _ _ _ h => h) (by decide) (by rfl) ?_ (by assumption) ?_
  rotate_left
  focus (intro w hSw; (try dsimp only at hSw); go_simp; (try with_reducible rfl))
  try simp only [Act.put, List.setIfInBounds_toArray, List.set_cons_zero, List.set_cons_succ, List.getElem_toArray, List.getElem_cons_succ, List.getElem_cons_zero]
  refine SG.take (i := 8) (v := ?_) rfl (by kernel_rfl) (by kernel_rfl) (by kernel_rfl) (fun _ _ _ h => h) (by decide) (by rfl) ?_ (by assumption) ?_
  rotate_left
  focus (intro w hSw; (try dsimp only at hSw); go_simp; (try with_reducible rfl))
  try simp only [Act.put, List.setIfInBounds_toArray, List.set_cons_zero, List.set_cons_succ, List.getElem_toArray, List.getElem_cons_succ, List.getElem_cons_zero]
  refine SG.take (i := 9) (v := ?_) rfl (by kernel_rfl) (by kernel_rfl) (by kernel_rfl) (fun _ _ _ h => h) (by decide) (by rfl) ?_ (by assumption) ?_
  rotate_left
  focus (intro w hSw; (try dsimp only at hSw); go_simp; (try with_reducible rfl))
  try simp only [Act.put, List.setIfInBounds_toArray, List.set_cons_zero, List.set_cons_succ, List.getElem_toArray, List.getElem_cons_succ, List.getElem_cons_zero]
  refine SG.take (i := 10) (v := ?_) rfl (by kernel_rfl) (by kernel_rfl) (by kernel_rfl) (fun _ _ _ h => h) (by decide) (by rfl) ?_ (by assumption) ?_
  rotate_left
  focus (intro w hSw; (try dsimp only at hSw); go_simp; (try with_reducible rfl))
  try simp only [Act.put, List.setIfInBounds_toArray, List.set_cons_zero, List.set_cons_succ, List.getElem_toArray, List.getElem_cons_succ, List.getElem_cons_zero]
  refine SG.take (i := 11) (v := ?_) rfl (by kernel_rfl) (by kernel_rfl) (by kernel_rfl) (fun _ _ _ h => h) (by decide) (by rfl) ?_ (by assumption) ?_
  rotate_left
  focus (intro w hSw; (try dsimp only at hSw); go_simp; (try with_reducible rfl))
  try simp only [Act.put, List.setIfInBounds_toArray, List.set_cons_zero, List.set_cons_succ, List.getElem_toArray, List.getElem_cons_succ, List.getElem_cons_zero]
  refine SG.take (i := 12) (v := ?_) rfl (by kernel_rfl) (by kernel_rfl) (by kernel_rfl) (fun _ _ _ h => h) (by decide) (by rfl) ?_ (by assumption) ?_
  rotate_left
  focus (intro w hSw; (try dsimp only at hSw); go_simp; (try with_reducible rfl))
  try simp only [Act.put, List.setIfInBounds_toArray, List.set_cons_zero, List.set_cons_succ, List.getElem_toArray, List.getElem_cons_succ, List.getElem_cons_zero]
  refine SG.take (i := 13) (v := ?_) rfl (by kernel_rfl) (by kernel_rfl) (by kernel_rfl) (fun _ _ _ h => h) (by decide) (by rfl) ?_ (by assumption) ?_
  rotate_left
  focus (intro w hSw; (try dsimp only at hSw); go_simp; (try with_reducible rfl))
  try simp only [Act.put, List.setIfInBounds_toArray, List.set_cons_zero, List.set_cons_succ, List.getElem_toArray, List.getElem_cons_succ, List.getElem_cons_zero]
  refine SG.take (i := 14) (v := ?_) rfl (by kernel_rfl) (by kernel_rfl) (by kernel_rfl) (fun _ _ _ h => h) (by decide) (by rfl) ?_ (by assumption) ?_
  rotate_left
  focus (intro w hSw; (try dsimp only at hSw); go_simp; (try with_reducible rfl))
  try simp only [Act.put, List.setIfInBounds_toArray, List.set_cons_zero, List.set_cons_succ, List.getElem_toArray, List.getElem_cons_succ, List.getElem_cons_zero]
  refine SG.take (i := 15) (v := ?_) rfl (by kernel_rfl) (by kernel_rfl) (by kernel_rfl) (fun _ _ _ h => h) (by decide) (by rfl) ?_ (by assumption) ?_
  rotate_left
  focus (intro w hSw; (try dsimp only at hSw); go_simp; (try with_reducible rfl))
  try simp only [Act.put, List.setIfInBounds_toArray, List.set_cons_zero, List.set_cons_succ, List.getElem_toArray, List.getElem_cons_succ, List.getElem_cons_zero]
  refine SG.take (i := 16) (v := ?_) rfl (by kernel_rfl) (by kernel_rfl) (by kernel_rfl) (fun _ _ _ h => h) (by decide) (by rfl) ?_ (by assumption) ?_
  rotate_left
  focus (intro w hSw; (try dsimp only at hSw); go_simp; (try with_reducible rfl))
  try simp only [Act.put, List.setIfInBounds_toArray, List.set_cons_zero, List.set_cons_succ, List.getElem_toArray, List.getElem_cons_succ, List.getElem_cons_zero]
  refine SG.take (i := 17) (v := ?_) rfl (by kernel_rfl) (by kernel_rfl) (by kernel_rfl) (fun _ _ _ h => h) (by decide) (by rfl) ?_ (by assumption) ?_
  rotate_left
  focus (intro w hSw; (try dsimp only at hSw); go_simp; (try with_reducible rfl))
  try simp only [Act.put, List.setIfInBounds_toArray, List.set_cons_zero, List.set_cons_succ, List.getElem_toArray, List.getElem_cons_succ, List.getElem_cons_zero]
  refine SG.take (i := 18) (v := ?_) rfl (by kernel_rfl) (by kernel_rfl) (by kernel_rfl) (fun _ _ _ h => h) (by decide) (by rfl) ?_ (by assumption) ?_
  rotate_left
  focus (intro w hSw; (try dsimp only at hSw); go_simp; (try with_reducible rfl))
  try simp only [Act.put, List.setIfInBounds_toArray, List.set_cons_zero, List.set_cons_succ, List.getElem_toArray, List.getElem_cons_succ, List.getElem_cons_zero]
  refine SG.take (i := 19) (v := ?_) rfl (by kernel_rfl) (by kernel_rfl) (by kernel_rfl) (fun _ _ _ h => h) (by decide) (by rfl) ?_ (by assumption) ?_
  rotate_left
  focus (intro w hSw; (try dsimp only at hSw); go_simp; (try with_reducible rfl))
  try simp only [Act.put, List.setIfInBounds_toArray, List.set_cons_zero, List.set_cons_succ, List.getElem_toArray, List.getElem_cons_succ, List.getElem_cons_zero]
  refine AllG.ready (rs := [20, 25]) (by kernel_rfl) (by simp) ?_
  refine AllG.cons (o := _) rfl (fun K hK => ?_) ?_
  go_simp
  go_at_call 9
  refine (HPA.out _ (by first | exact Below.refl _ _ | exact (Below.refl _ _).drew | exact ((Below.refl _ _).drew).alloc (Nat.le_refl _) _ | exact (Below.refl _ _).alloc (Nat.le_refl _) _)).mono ?_
  rintro r wy ⟨⟨zsp, znm, ztx, za, zan, zac, zk, zkn, zkc, ze, zp, rfl, hpu, HBY⟩, kc1⟩
  have HPU := Lib.hid hpu
  have HZ := Lib.hid HBY
  obtain ⟨hcB, hfB⟩ := bcell07 HBY
  have hlt0 : w2.heap.size ≤ wy.heap.size := by have hz := HBY.size; simp at hz; omega
  try (have hlt1 : w2.heap.size < wy.heap.size := by have hz := HBY.size; simp at hz; omega)
  clear HBY hpu
  try go_wp2_with fail
  clear hHeld
  refine hK.out _ _ ⟨?_, ?_⟩ (fun hHeld => ?_)
  focus ((try dsimp only); first | assumption | go_keep)
  focus (intro _; trivial)
  clear hK K
  try simp only [Act.put, List.setIfInBounds_toArray, List.set_cons_zero, List.set_cons_succ, List.getElem_toArray, List.getElem_cons_succ, List.getElem_cons_zero]
  refine SG.take (i := 21) (v := ?_) rfl (by kernel_rfl) (by kernel_rfl) (by kernel_rfl) (fun _ _ _ h => h) (by decide) (by rfl) ?_ (by assumption) ?_
  rotate_left
  focus (intro w hSw; (try dsimp only at hSw); go_simp; (try with_reducible rfl))
  try simp only [Act.put, List.setIfInBounds_toArray, List.set_cons_zero, List.set_cons_succ, List.getElem_toArray, List.getElem_cons_succ, List.getElem_cons_zero]
  refine SG.take (i := 22) (v := ?_) rfl (by kernel_rfl) (by kernel_rfl) (by kernel_rfl) (fun _ _ _ h => h) (by decide) (by rfl) ?_ (by assumption) ?_
  rotate_left
  focus (intro w hSw; (try dsimp only at hSw); go_simp; (try with_reducible rfl))
  try simp only [Act.put, List.setIfInBounds_toArray, List.set_cons_zero, List.set_cons_succ, List.getElem_toArray, List.getElem_cons_succ, List.getElem_cons_zero]
  refine SG.take (i := 23) (v := ?_) rfl (by kernel_rfl) (by kernel_rfl) (by kernel_rfl) (fun _ _ _ h => h) (by decide) (by rfl) ?_ (by assumption) ?_
  rotate_left
  focus (intro w hSw; (try dsimp only at hSw); go_simp; (try with_reducible rfl))
  try simp only [Act.put, List.setIfInBounds_toArray, List.set_cons_zero, List.set_cons_succ, List.getElem_toArray, List.getElem_cons_succ, List.getElem_cons_zero]
  refine SG.take (i := 24) (v := ?_) rfl (by kernel_rfl) (by kernel_rfl) (by kernel_rfl) (fun _ _ _ h => h) (by decide) (by rfl) ?_ (by assumption) ?_
  rotate_left
  focus (intro w hSw; (try dsimp only at hSw); go_simp; (try with_reducible rfl))
  try simp only [Act.put, List.setIfInBounds_toArray, List.set_cons_zero, List.set_cons_succ, List.getElem_toArray, List.getElem_cons_succ, List.getElem_cons_zero]
  refine AllG.ready (rs := [25]) (by kernel_rfl) (by simp) ?_
  refine AllG.cons (o := _) rfl (fun K hK => ?_) ?_
  go_simp
  clear hHeld
  refine hK.out _ _ ⟨?_, ?_⟩ (fun hHeld => ?_)
  focus ((try dsimp only); first | assumption | go_keep)
  focus (intro _; trivial)
  clear hK K
  try simp only [Act.put, List.setIfInBounds_toArray, List.set_cons_zero, List.set_cons_succ, List.getElem_toArray, List.getElem_cons_succ, List.getElem_cons_zero]
  refine AllG.ready (rs := [26]) (by kernel_rfl) (by simp) ?_
  refine AllG.cons (o := _) rfl (fun K hK => ?_) ?_
  go_simp
  clear hHeld
  refine hK.out _ _ ⟨?_, ?_⟩ (fun hHeld => ?_)
  focus ((try dsimp only); first | assumption | go_keep)
  focus (intro _; trivial)
  clear hK K
  try simp only [Act.put, List.setIfInBounds_toArray, List.set_cons_zero, List.set_cons_succ, List.getElem_toArray, List.getElem_cons_succ, List.getElem_cons_zero]
  refine SG.take (i := 27) (v := ?_) rfl (by kernel_rfl) (by kernel_rfl) (by kernel_rfl) (fun _ _ _ h => h) (by decide) (by rfl) ?_ (by assumption) ?_
  rotate_left
  focus (intro w hSw; (try dsimp only at hSw); go_simp; (try with_reducible rfl))
  try simp only [Act.put, List.setIfInBounds_toArray, List.set_cons_zero, List.set_cons_succ, List.getElem_toArray, List.getElem_cons_succ, List.getElem_cons_zero]
  refine SG.take (i := 28) (v := ?_) rfl (by kernel_rfl) (by kernel_rfl) (by kernel_rfl) (fun _ _ _ h => h) (by decide) (by rfl) ?_ (by assumption) ?_
  rotate_left
  focus (intro w hSw; (try dsimp only at hSw); go_simp; (try with_reducible rfl))
  try simp only [Act.put, List.setIfInBounds_toArray, List.set_cons_zero, List.set_cons_succ, List.getElem_toArray, List.getElem_cons_succ, List.getElem_cons_zero]
  refine AnyG.done (by kernel_rfl) ?_ _
  obtain ⟨W4, hW4⟩ : ∃ W, wy.alloc (.cells #[.string zsp, .string znm, .slice za zan zac, .slice zk zkn zkc, .string ztx] 25) = W := ⟨_, rfl⟩
  obtain ⟨P, hP⟩ : ∃ P, wy.heap.size = P := ⟨_, rfl⟩
  have HYL : Hid (YL w.heap.size w U W4 P zsp znm ztx za zan zac zk zkn zkc ze) := Lib.hid (by rw [← hW4, ← hP]; exact yl_a HB2.out.size HB2.out HE2.out HT2.out HZ.out HPU.out)
  rw [hW4, hP]
  clear HZ HPU hcB hfB kc1 hHeld hlt0 HPA c0 c1 hmask0 hmask1 hmI hmQ hrem kw hT1 hS1 hT2 hU1 hU qa qb hne1 hne2 hW4 hP
  try clear hlt1
  obtain ⟨⟨hb4, he4, ht4, hl4⟩, h1 | ⟨h0, x, hpx, h4⟩⟩ := HYL.out
  · have CA := Lib.hid (awake07 W4 he4 ht4)
    have HB4 := Lib.hid hb4
    clear hb4 he4 ht4 hl4 HYL
    rcases h1 with rfl | rfl | rfl | rfl
    all_goals
      go_wp2_with fail
      refine CA.out.mono ?_
      rintro r w5 ⟨rfl, hb5⟩
      have HB5 := Lib.hid (HB4.out.trans (hb5.mono HB4.out.size))
      clear hb5 CA
      go_wp2_with fail
      go_ret
      exact ⟨rfl, HB5.out⟩
  · subst h0
    have hA0 := HANY.out x hpx
    have hzl : zan = x.atts.length := node_len h4.nv
    have hlt : ¬ (16 : Int) ≤ (zan : Int) := by have := hA0.atts; omega
    have H4 := Lib.hid h4
    have V4 := Lib.hid h4.below.size
    have CT := Lib.hid (wtext x _ W4 H4.out.nv hA0.sm hA0.may hA0.len H4.out.ev H4.out.tv)
    have hlen := hA0.len
    have hbk := hA0.back
    obtain ⟨TX, hTX⟩ : ∃ TX, textT x ⟨#[]⟩ [] = TX := ⟨_, rfl⟩
    rw [hTX] at CT hlen hbk
    obtain ⟨T4, hT4⟩ : ∃ T4, str TX = T4 := ⟨_, rfl⟩
    rw [hT4] at CT
    have HTs := Lib.hid (show T4.size ≤ 4000000000 by rw [← hT4, str_size]; omega)
    have HBK := Lib.hid (show parseL (bl T4) = .ok x by rw [← hT4, str_bl]; exact hbk)
    have HSM := Lib.hid hA0.sm
    have HMAY := Lib.hid hA0.may
    have HCN := Lib.hid hA0.cnt
    have HDP := Lib.hid hA0.dep
    have HFEW := Lib.hid hA0.few
    clear hA0 hpx h4 hlen hbk hTX hT4 HANY HYL hb4 he4 ht4 hl4 hzl
    have n0 := H4.out.k0
    have n1 := H4.out.k1
    have n2 := H4.out.k2
    have n3 := H4.out.k3
    have n4 := H4.out.k4
    go_wp2_with fail
    refine CT.out.mono ?_
    rintro e w5 ⟨rfl, hb5⟩
    have H5 := Lib.hid (H4.out.to hb5 V4.out)
    have V5 := Lib.hid (Nat.le_trans V4.out hb5.size)
    have HPA := Lib.hid (dparse_ok T4 x HBK.out w5 H5.out.ev H5.out.tv HTs.out)
    clear hb5 CT H4 V4 HBK n0 n1 n2 n3 n4
    have n0 := H5.out.k0
    have n1 := H5.out.k1
    have n2 := H5.out.k2
    have n3 := H5.out.k3
    have n4 := H5.out.k4
    go_wp2_with fail
    refine HPA.out.mono ?_
    rintro r w6 ⟨v6, rfl, hv6, hb6⟩
    obtain ⟨ysp, ynm, ytx, ya, yan, yac, yk, ykn, ykc, rfl⟩ := form06 hv6
    have hn6 := hb6.alloc hb6.size (.cells #[.string ysp, .string ynm, .slice ya yan yac, .slice yk ykn ykc, .string ytx] 25)
    have hX6 := heap_alloc_new w6 (.cells #[.string ysp, .string ynm, .slice ya yan yac, .slice yk ykn ykc, .string ytx] 25)
    have hl6 : w6.heap.size < (w6.alloc (.cells #[.string ysp, .string ynm, .slice ya yan yac, .slice yk ykn ykc, .string ytx] 25)).heap.size := by simp
    have hz6 : NodeV (fun _ => True) (w6.alloc (.cells #[.string ysp, .string ynm, .slice ya yan yac, .slice yk ykn ykc, .string ytx] 25)) (.agg #[.string ysp, .string ynm, .slice ya yan yac, .slice yk ykn ykc, .string ytx]) x := hv6.any ((Below.refl w6.heap.size w6).alloc (Nat.le_refl _) _)
    have H6 := Lib.hid (H5.out.to hn6 V5.out)
    have V6 := Lib.hid (Nat.le_trans V5.out hn6.size)
    obtain ⟨W6, hW6⟩ : ∃ W6, w6.alloc (.cells #[.string ysp, .string ynm, .slice ya yan yac, .slice yk ykn ykc, .string ytx] 25) = W6 := ⟨_, rfl⟩
    obtain ⟨Q, hQ⟩ : ∃ Q, w6.heap.size = Q := ⟨_, rfl⟩
    rw [hW6] at hX6 hl6 hz6 H6 V6
    rw [hQ] at hX6 hl6
    have Z6 := Lib.hid (show AtN w.heap.size w W6 Q ysp ynm ytx ya yan yac yk ykn ykc x from
      ⟨H6.out.below, hl6, by rw [Lib.cell_of_heap hX6]; rfl, by rw [Lib.cell_of_heap hX6]; rfl, by rw [Lib.cell_of_heap hX6]; rfl, by rw [Lib.cell_of_heap hX6]; rfl, by rw [Lib.cell_of_heap hX6]; rfl, hz6, H6.out.ev, H6.out.tv⟩)
    clear hv6 hb6 hn6 hX6 hl6 hz6 HPA H5 V5 n0 n1 n2 n3 n4
    have n0 := H6.out.k0
    have n1 := H6.out.k1
    have n2 := H6.out.k2
    have n3 := H6.out.k3
    have n4 := H6.out.k4
    have z0 := Z6.out.k0
    have z1 := Z6.out.k1
    have z2 := Z6.out.k2
    have z3 := Z6.out.k3
    have z4 := Z6.out.k4
    have CC := Lib.hid (awake07 W6 H6.out.ev H6.out.tv)
    go_wp2_with fail
    refine CC.out.mono ?_
    rintro r w7 ⟨rfl, hb⟩
    have H7 := Lib.hid (H6.out.to hb V6.out)
    have Z7 := Lib.hid (Z6.out.to hb V6.out)
    have V7 := Lib.hid (Nat.le_trans V6.out hb.size)
    clear hb CC H6 Z6 V6 n0 n1 n2 n3 n4 z0 z1 z2 z3 z4
    have n0 := H7.out.k0
    have n1 := H7.out.k1
    have n2 := H7.out.k2
    have n3 := H7.out.k3
    have n4 := H7.out.k4
    have z0 := Z7.out.k0
    have z1 := Z7.out.k1
    have z2 := Z7.out.k2
    have z3 := Z7.out.k3
    have z4 := Z7.out.k4
    have CC := Lib.hid ((by have h := wmay _ _ w7 H7.out.nv HSM.out H7.out.ev H7.out.tv; rw [HMAY.out] at h; exact h : Calls Tryz.prog 12 #[_] w7 _))
    go_wp2_with fail
    refine CC.out.mono ?_
    rintro r w8 ⟨rfl, hb⟩
    have H8 := Lib.hid (H7.out.to hb V7.out)
    have Z8 := Lib.hid (Z7.out.to hb V7.out)
    have V8 := Lib.hid (Nat.le_trans V7.out hb.size)
    clear hb CC H7 Z7 V7 n0 n1 n2 n3 n4 z0 z1 z2 z3 z4
    have n0 := H8.out.k0
    have n1 := H8.out.k1
    have n2 := H8.out.k2
    have n3 := H8.out.k3
    have n4 := H8.out.k4
    have z0 := Z8.out.k0
    have z1 := Z8.out.k1
    have z2 := Z8.out.k2
    have z3 := Z8.out.k3
    have z4 := Z8.out.k4
    have CC := Lib.hid (same_spec 32 _ _ _ w8 H8.out.nv Z8.out.nv HDP.out (by have := HCN.out; omega) HFEW.out)
    go_wp2_with fail
    refine CC.out.mono ?_
    rintro r w9 ⟨rfl, hb⟩
    have H9 := Lib.hid (H8.out.to hb V8.out)
    clear hb CC H8 Z8 V8 n0 n1 n2 n3 n4 z0 z1 z2 z3 z4
    go_wp2_with fail
    go_ret
    exact ⟨rfl, H9.out.below⟩
  exact AllG.nil
  exact AllG.nil
  refine AllG.cons (o := _) rfl (fun K hK => ?_) ?_
  go_simp
  clear hHeld
  refine hK.out _ _ ⟨?_, ?_⟩ (fun hHeld => ?_)
  focus ((try dsimp only); first | assumption | go_keep)
  focus (intro _; trivial)
  clear hK K
  try simp only [Act.put, List.setIfInBounds_toArray, List.set_cons_zero, List.set_cons_succ, List.getElem_toArray, List.getElem_cons_succ, List.getElem_cons_zero]
  refine AllG.ready (rs := [20]) (by kernel_rfl) (by simp) ?_
  refine AllG.cons (o := _) rfl (fun K hK => ?_) ?_
  go_simp
  go_at_call 9
  refine (HPA.out _ (by first | exact Below.refl _ _ | exact (Below.refl _ _).drew | exact ((Below.refl _ _).drew).alloc (Nat.le_refl _) _ | exact (Below.refl _ _).alloc (Nat.le_refl _) _)).mono ?_
  rintro r wy ⟨⟨zsp, znm, ztx, za, zan, zac, zk, zkn, zkc, ze, zp, rfl, hpu, HBY⟩, kc1⟩
  have HPU := Lib.hid hpu
  have HZ := Lib.hid HBY
  obtain ⟨hcB, hfB⟩ := bcell07 HBY
  have hlt0 : w2.heap.size ≤ wy.heap.size := by have hz := HBY.size; simp at hz; omega
  try (have hlt1 : w2.heap.size < wy.heap.size := by have hz := HBY.size; simp at hz; omega)
  clear HBY hpu
  try go_wp2_with fail
  clear hHeld
  refine hK.out _ _ ⟨?_, ?_⟩ (fun hHeld => ?_)
  focus ((try dsimp only); first | assumption | go_keep)
  focus (intro _; trivial)
  clear hK K
  try simp only [Act.put, List.setIfInBounds_toArray, List.set_cons_zero, List.set_cons_succ, List.getElem_toArray, List.getElem_cons_succ, List.getElem_cons_zero]
  refine SG.take (i := 21) (v := ?_) rfl (by kernel_rfl) (by kernel_rfl) (by kernel_rfl) (fun _ _ _ h => h) (by decide) (by rfl) ?_ (by assumption) ?_
  rotate_left
  focus (intro w hSw; (try dsimp only at hSw); go_simp; (try with_reducible rfl))
  try simp only [Act.put, List.setIfInBounds_toArray, List.set_cons_zero, List.set_cons_succ, List.getElem_toArray, List.getElem_cons_succ, List.getElem_cons_zero]
  refine SG.take (i := 22) (v := ?_) rfl (by kernel_rfl) (by kernel_rfl) (by kernel_rfl) (fun _ _ _ h => h) (by decide) (by rfl) ?_ (by assumption) ?_
  rotate_left
  focus (intro w hSw; (try dsimp only at hSw); go_simp; (try with_reducible rfl))
  try simp only [Act.put, List.setIfInBounds_toArray, List.set_cons_zero, List.set_cons_succ, List.getElem_toArray, List.getElem_cons_succ, List.getElem_cons_zero]
  refine SG.take (i := 23) (v := ?_) rfl (by kernel_rfl) (by kernel_rfl) (by kernel_rfl) (fun _ _ _ h => h) (by decide) (by rfl) ?_ (by assumption) ?_
  rotate_left
  focus (intro w hSw; (try dsimp only at hSw); go_simp; (try with_reducible rfl))
  try simp only [Act.put, List.setIfInBounds_toArray, List.set_cons_zero, List.set_cons_succ, List.getElem_toArray, List.getElem_cons_succ, List.getElem_cons_zero]
  refine SG.take (i := 24) (v := ?_) rfl (by kernel_rfl) (by kernel_rfl) (by kernel_rfl) (fun _ _ _ h => h) (by decide) (by rfl) ?_ (by assumption) ?_
  rotate_left
  focus (intro w hSw; (try dsimp only at hSw); go_simp; (try with_reducible rfl))
  try simp only [Act.put, List.setIfInBounds_toArray, List.set_cons_zero, List.set_cons_succ, List.getElem_toArray, List.getElem_cons_succ, List.getElem_cons_zero]
  refine AllG.ready (rs := [26]) (by kernel_rfl) (by simp) ?_
  refine AllG.cons (o := _) rfl (fun K hK => ?_) ?_
  go_simp
  clear hHeld
  refine hK.out _ _ ⟨?_, ?_⟩ (fun hHeld => ?_)
  focus ((try dsimp only); exact cell5 kc1 hne1)
  focus (intro _; trivial)
  clear hK K
  try simp only [Act.put, List.setIfInBounds_toArray, List.set_cons_zero, List.set_cons_succ, List.getElem_toArray, List.getElem_cons_succ, List.getElem_cons_zero]
  refine SG.take (i := 27) (v := ?_) rfl (by kernel_rfl) (by kernel_rfl) (by kernel_rfl) (fun _ _ _ h => h) (by decide) (by rfl) ?_ (by assumption) ?_
  rotate_left
  focus (intro w hSw; (try dsimp only at hSw); go_simp; (try with_reducible rfl))
  try simp only [Act.put, List.setIfInBounds_toArray, List.set_cons_zero, List.set_cons_succ, List.getElem_toArray, List.getElem_cons_succ, List.getElem_cons_zero]
  refine SG.take (i := 28) (v := ?_) rfl (by kernel_rfl) (by kernel_rfl) (by kernel_rfl) (fun _ _ _ h => h) (by decide) (by rfl) ?_ (by assumption) ?_
  rotate_left
  focus (intro w hSw; (try dsimp only at hSw); go_simp; (try with_reducible rfl))
  try simp only [Act.put, List.setIfInBounds_toArray, List.set_cons_zero, List.set_cons_succ, List.getElem_toArray, List.getElem_cons_succ, List.getElem_cons_zero]
  refine AnyG.done (by kernel_rfl) ?_ _
  obtain ⟨W4, hW4⟩ : ∃ W, ((((wy.setCell ⟨w2.heap.size, 0, none⟩ (.string zsp)).setCell ⟨w2.heap.size, 1, none⟩ (.string znm)).setCell ⟨w2.heap.size, 2, none⟩ (.slice za zan zac)).setCell ⟨w2.heap.size, 3, none⟩ (.slice zk zkn zkc)).setCell ⟨w2.heap.size, 4, none⟩ (.string ztx) = W := ⟨_, rfl⟩
  obtain ⟨P, hP⟩ : ∃ P, w2.heap.size = P := ⟨_, rfl⟩
  have HYL : Hid (YL w.heap.size w U W4 P zsp znm ztx za zan zac zk zkn zkc ze) := Lib.hid (by rw [← hW4, ← hP]; exact yl_b HB2.out.size HB2.out HE2.out HT2.out HZ.out HPU.out)
  rw [hW4]
  rw [hP]
  clear HZ HPU hcB hfB kc1 hHeld hlt0 HPA c0 c1 hmask0 hmask1 hmI hmQ hrem kw hT1 hS1 hT2 hU1 hU qa qb hne1 hne2 hW4 hP
  try clear hlt1
  obtain ⟨⟨hb4, he4, ht4, hl4⟩, h1 | ⟨h0, x, hpx, h4⟩⟩ := HYL.out
  · have CA := Lib.hid (awake07 W4 he4 ht4)
    have HB4 := Lib.hid hb4
    clear hb4 he4 ht4 hl4 HYL
    rcases h1 with rfl | rfl | rfl | rfl
    all_goals
      go_wp2_with fail
      refine CA.out.mono ?_
      rintro r w5 ⟨rfl, hb5⟩
      have HB5 := Lib.hid (HB4.out.trans (hb5.mono HB4.out.size))
      clear hb5 CA
      go_wp2_with fail
      go_ret
      exact ⟨rfl, HB5.out⟩
  · subst h0
    have hA0 := HANY.out x hpx
    have hzl : zan = x.atts.length := node_len h4.nv
    have hlt : ¬ (16 : Int) ≤ (zan : Int) := by have := hA0.atts; omega
    have H4 := Lib.hid h4
    have V4 := Lib.hid h4.below.size
    have CT := Lib.hid (wtext x _ W4 H4.out.nv hA0.sm hA0.may hA0.len H4.out.ev H4.out.tv)
    have hlen := hA0.len
    have hbk := hA0.back
    obtain ⟨TX, hTX⟩ : ∃ TX, textT x ⟨#[]⟩ [] = TX := ⟨_, rfl⟩
    rw [hTX] at CT hlen hbk
    obtain ⟨T4, hT4⟩ : ∃ T4, str TX = T4 := ⟨_, rfl⟩
    rw [hT4] at CT
    have HTs := Lib.hid (show T4.size ≤ 4000000000 by rw [← hT4, str_size]; omega)
    have HBK := Lib.hid (show parseL (bl T4) = .ok x by rw [← hT4, str_bl]; exact hbk)
    have HSM := Lib.hid hA0.sm
    have HMAY := Lib.hid hA0.may
    have HCN := Lib.hid hA0.cnt
    have HDP := Lib.hid hA0.dep
    have HFEW := Lib.hid hA0.few
    clear hA0 hpx h4 hlen hbk hTX hT4 HANY HYL hb4 he4 ht4 hl4 hzl
    have n0 := H4.out.k0
    have n1 := H4.out.k1
    have n2 := H4.out.k2
    have n3 := H4.out.k3
    have n4 := H4.out.k4
    go_wp2_with fail
    refine CT.out.mono ?_
    rintro e w5 ⟨rfl, hb5⟩
    have H5 := Lib.hid (H4.out.to hb5 V4.out)
    have V5 := Lib.hid (Nat.le_trans V4.out hb5.size)
    have HPA := Lib.hid (dparse_ok T4 x HBK.out w5 H5.out.ev H5.out.tv HTs.out)
    clear hb5 CT H4 V4 HBK n0 n1 n2 n3 n4
    have n0 := H5.out.k0
    have n1 := H5.out.k1
    have n2 := H5.out.k2
    have n3 := H5.out.k3
    have n4 := H5.out.k4
    go_wp2_with fail
    refine HPA.out.mono ?_
    rintro r w6 ⟨v6, rfl, hv6, hb6⟩
    obtain ⟨ysp, ynm, ytx, ya, yan, yac, yk, ykn, ykc, rfl⟩ := form06 hv6
    have hn6 := hb6.alloc hb6.size (.cells #[.string ysp, .string ynm, .slice ya yan yac, .slice yk ykn ykc, .string ytx] 25)
    have hX6 := heap_alloc_new w6 (.cells #[.string ysp, .string ynm, .slice ya yan yac, .slice yk ykn ykc, .string ytx] 25)
    have hl6 : w6.heap.size < (w6.alloc (.cells #[.string ysp, .string ynm, .slice ya yan yac, .slice yk ykn ykc, .string ytx] 25)).heap.size := by simp
    have hz6 : NodeV (fun _ => True) (w6.alloc (.cells #[.string ysp, .string ynm, .slice ya yan yac, .slice yk ykn ykc, .string ytx] 25)) (.agg #[.string ysp, .string ynm, .slice ya yan yac, .slice yk ykn ykc, .string ytx]) x := hv6.any ((Below.refl w6.heap.size w6).alloc (Nat.le_refl _) _)
    have H6 := Lib.hid (H5.out.to hn6 V5.out)
    have V6 := Lib.hid (Nat.le_trans V5.out hn6.size)
    obtain ⟨W6, hW6⟩ : ∃ W6, w6.alloc (.cells #[.string ysp, .string ynm, .slice ya yan yac, .slice yk ykn ykc, .string ytx] 25) = W6 := ⟨_, rfl⟩
    obtain ⟨Q, hQ⟩ : ∃ Q, w6.heap.size = Q := ⟨_, rfl⟩
    rw [hW6] at hX6 hl6 hz6 H6 V6
    rw [hQ] at hX6 hl6
    have Z6 := Lib.hid (show AtN w.heap.size w W6 Q ysp ynm ytx ya yan yac yk ykn ykc x from
      ⟨H6.out.below, hl6, by rw [Lib.cell_of_heap hX6]; rfl, by rw [Lib.cell_of_heap hX6]; rfl, by rw [Lib.cell_of_heap hX6]; rfl, by rw [Lib.cell_of_heap hX6]; rfl, by rw [Lib.cell_of_heap hX6]; rfl, hz6, H6.out.ev, H6.out.tv⟩)
    clear hv6 hb6 hn6 hX6 hl6 hz6 HPA H5 V5 n0 n1 n2 n3 n4
    have n0 := H6.out.k0
    have n1 := H6.out.k1
    have n2 := H6.out.k2
    have n3 := H6.out.k3
    have n4 := H6.out.k4
    have z0 := Z6.out.k0
    have z1 := Z6.out.k1
    have z2 := Z6.out.k2
    have z3 := Z6.out.k3
    have z4 := Z6.out.k4
    have CC := Lib.hid (awake07 W6 H6.out.ev H6.out.tv)
    go_wp2_with fail
    refine CC.out.mono ?_
    rintro r w7 ⟨rfl, hb⟩
    have H7 := Lib.hid (H6.out.to hb V6.out)
    have Z7 := Lib.hid (Z6.out.to hb V6.out)
    have V7 := Lib.hid (Nat.le_trans V6.out hb.size)
    clear hb CC H6 Z6 V6 n0 n1 n2 n3 n4 z0 z1 z2 z3 z4
    have n0 := H7.out.k0
    have n1 := H7.out.k1
    have n2 := H7.out.k2
    have n3 := H7.out.k3
    have n4 := H7.out.k4
    have z0 := Z7.out.k0
    have z1 := Z7.out.k1
    have z2 := Z7.out.k2
    have z3 := Z7.out.k3
    have z4 := Z7.out.k4
    have CC := Lib.hid ((by have h := wmay _ _ w7 H7.out.nv HSM.out H7.out.ev H7.out.tv; rw [HMAY.out] at h; exact h : Calls Tryz.prog 12 #[_] w7 _))
    go_wp2_with fail
    refine CC.out.mono ?_
    rintro r w8 ⟨rfl, hb⟩
    have H8 := Lib.hid (H7.out.to hb V7.out)
    have Z8 := Lib.hid (Z7.out.to hb V7.out)
    have V8 := Lib.hid (Nat.le_trans V7.out hb.size)
    clear hb CC H7 Z7 V7 n0 n1 n2 n3 n4 z0 z1 z2 z3 z4
    have n0 := H8.out.k0
    have n1 := H8.out.k1
    have n2 := H8.out.k2
    have n3 := H8.out.k3
    have n4 := H8.out.k4
    have z0 := Z8.out.k0
    have z1 := Z8.out.k1
    have z2 := Z8.out.k2
    have z3 := Z8.out.k3
    have z4 := Z8.out.k4
    have CC := Lib.hid (same_spec 32 _ _ _ w8 H8.out.nv Z8.out.nv HDP.out (by have := HCN.out; omega) HFEW.out)
    go_wp2_with fail
    refine CC.out.mono ?_
    rintro r w9 ⟨rfl, hb⟩
    have H9 := Lib.hid (H8.out.to hb V8.out)
    clear hb CC H8 Z8 V8 n0 n1 n2 n3 n4 z0 z1 z2 z3 z4
    go_wp2_with fail
    go_ret
    exact ⟨rfl, H9.out.below⟩
  exact AllG.nil
  exact AllG.nil
  exact AllG.nil

end Go.Proofs.YtnlkpdodacphkaaGreatDoor
namespace Go.Proofs.YtnlkpdodacphkaaGreatDoor
open Go.ChangeShapes Go.WideShapes Go.ChangeAt

theorem lift_both {H : Type} {enc : TypeId × Value → H} {a : Assume} {C : Checked} {os : Os} {f : FuncId} {fn : Func} {s : ChangeSpec} {conds : List PathCond} {apart fresh handsOn again : Bool} {X : World → Array Value → Prop}
    (keep : ∀ (w v : World) (args : Array Value), w.heap = v.heap → X w args → X v args)
    (own : ownKnob C.prog.godebug = none) (started : os.Started) (noInit : C.prog.inits.idxOf? f = none) (hfn : C.prog.funcs[f]? = some fn)
    (start : ∃ (w : World) (tape : Tape) (i : Input), w.os = os ∧ (w.forCall tape i).Shaped C.prog ∧ i.vars = [] ∧ Input.okWide C.prog (w.forCall tape i) .any w.heap.size f i ∧
      ((s.pre enc C.prog fn conds apart (w.forCall tape i).memory i.args ∧ X (w.forCall tape i).memory i.args) ∧ sizedMet enc C.prog fn (OpenSpec.ofChange s) apart (w.forCall tape i).memory i.args) ∧ a.holds C.prog (lone (Frame.enter C.prog f i.args .normal) [] (w.forCall tape i)))
    (walk : ∀ (W : World) (base : Nat) (args : Array Value) (ds gs : List (DataW H)) (before : List MemPlace),
      (∀ (j : Nat) t v, fn.params[j]? = some t → args[j]? = some v → Value.okWide C.prog W .any base t v) →
      DataW.Whole enc C.prog fn.params.toList s.vars apart W args.toList ds gs before →
      conds.all (PathCond.test C.prog ⟨fn.params.toList, ds, s.plain.varTypes C.prog, gs⟩) = true →
      (DataW.weightsEach C.prog (fn.params.toList ++ s.plain.varTypes C.prog) (ds ++ gs)).all (· ≤ reachBytes) = true → X W args → W.ShapedOpen C.prog →
      a.holds C.prog (lone (Frame.enter C.prog f args .normal) [] W) →
      Calls C.prog f args W fun e V => ∃ v, e = .returned v ∧ s.post enc C.prog fn apart fresh handsOn again W args v V) :
    ReturnsInHanded a C os f .any (fun w args => (s.pre enc C.prog fn conds apart w args ∧ X w args) ∧ sizedMet enc C.prog fn (OpenSpec.ofChange s) apart w args) (s.post enc C.prog fn apart fresh handsOn again) :=
  returnsInHanded_of_calls own started noInit start fun w tape i _ shape _ ok pre holds => by
    obtain ⟨_, _, _, gn, hgn, _, _, _, _, vals⟩ := ok
    obtain rfl : gn = fn := Option.some.inj (hgn.symm.trans hfn)
    obtain ⟨⟨⟨ds, gs, before, whole, cond⟩, x⟩, sized⟩ := pre
    exact (walk (w.forCall tape i) w.heap.size i.args ds gs before vals (DataW.Whole.of_heap (w' := w.forCall tape i) (by rfl) whole) cond (sized.weights whole) (keep _ _ _ (by rfl) x) shape holds).mono
      fun e V ⟨v, he, hp⟩ => by subst he; exact ChangeSpec.post_blind hp
end Go.Proofs.YtnlkpdodacphkaaGreatDoor
namespace Go.Proofs.YtnlkpdodacphkaaGreatDoor
open Go.RowKit
set_option maxRecDepth 100000

def basesData : DataW Unit := Lib.tabData .i64 [10, 16]
def namedData (l : List UInt8) (c : Int) (b : Bool) : DataW Unit := .agg [.lit (.string l), .lit (.int .u8 c), .lit (.bool b)]
def namesData : DataW Unit := .agg [namedData [97, 109, 112] 38 true, namedData [108, 116] 60 true, namedData [103, 116] 62 true, namedData [113, 117, 111, 116] 34 true, namedData [97, 112, 111, 115] 39 false]
def synData : DataW Unit := .iface "*errors.errorString" (.ptr (.agg [.lit (.string [105, 110, 118, 97, 108, 105, 100, 32, 115, 121, 110, 116, 97, 120])]))

theorem ent_bases {W : World} (h : Lib.VarReads Tryz.prog W "galliard/entity.bases" basesData) : Lib.TabIs Tryz.prog W "galliard/entity.bases" .i64 [10, 16] := by
  obtain ⟨g, t, cs, fuel, p, hg, ht, hv, hd⟩ := h
  have hg' : Tryz.prog.globalNamed "galliard/entity.bases" = some 6 := by kernel_rfl
  obtain rfl := Option.some.inj (hg'.symm.trans hg)
  have ht' : (Tryz.prog.globals[6]?).map (·.type) = some 26 := by kernel_rfl
  obtain rfl := Option.some.inj (ht'.symm.trans ht)
  have hc := Lib.cells_of_tab Tryz.underlying26 Tryz.underlying3 (by kernel_rfl) (by kernel_rfl) hd
  unfold Lib.TabIs
  rw [hv, ← hc]
/-- A struct of a name, a letter and a mark, that reads so. -/
theorem ent_named {W : World} {fuel : Nat} {cs : List Value} {p : List MemPlace} {l : List UInt8} {c : Int} {b : Bool}
    (h : DataW.trod (fun _ => ()) Tryz.prog W 0 (fun _ => true) false fuel 215 cs = some (namedData l c b, p)) : cs = [.string ⟨l.toArray⟩, .int .u8 c, .bool b] := by
  obtain ⟨xs, n, rfl, hx, hcl, hxl, hall⟩ := DataW.trod_struct Tryz.underlying215 h
  have hc3 : Tryz.prog.cellsOf 215 = 3 := by kernel_rfl
  have hcs : Tryz.prog.cellsOf 9 = 1 := by kernel_rfl
  have hcb : Tryz.prog.cellsOf 5 = 1 := by kernel_rfl
  have hcd : Tryz.prog.cellsOf 4 = 1 := by kernel_rfl
  rw [hc3] at hcl
  have f0 : DataW.trod (fun _ => ()) Tryz.prog W 0 (fun _ => true) false n 9 ((cs.drop 0).take (Tryz.prog.cellsOf 9)) = xs[0]? := hall 0 _ rfl
  have f1 : DataW.trod (fun _ => ()) Tryz.prog W 0 (fun _ => true) false n 5 ((cs.drop 1).take (Tryz.prog.cellsOf 5)) = xs[1]? := hall 1 _ rfl
  have f2 : DataW.trod (fun _ => ()) Tryz.prog W 0 (fun _ => true) false n 4 ((cs.drop 2).take (Tryz.prog.cellsOf 4)) = xs[2]? := hall 2 _ rfl
  rw [hcs] at f0
  rw [hcb] at f1
  rw [hcd] at f2
  have hxl' : xs.length = 3 := by simpa using hxl
  match xs, hxl', cs, hcl with
  | [x0, x1, x2], _, [c0, c1, c2], _ =>
    simp at f0 f1 f2
    obtain ⟨s0, e0, d0, _⟩ := DataW.trod_string Tryz.underlying9 f0
    obtain ⟨n1, e1, d1, _⟩ := DataW.trod_int Tryz.underlying5 f1
    obtain ⟨b2, e2, d2⟩ := DataW.trod_bool Tryz.underlying4 f2
    simp at e0 e1 e2
    subst e0 e1 e2 d0 d1 d2
    unfold namedData at hx
    simp at hx
    obtain ⟨⟨h0, h1, h2⟩, _⟩ := hx
    subst h0 h1 h2
    simp
theorem ent_names {W : World} (h : Lib.VarReads Tryz.prog W "galliard/entity.names" namesData) : ∃ t fr, W.heap[0]? = some (.cells nameCells t fr) := by
  obtain ⟨g, t, cs, fuel, p, hg, ht, hv, hd⟩ := h
  have hg' : Tryz.prog.globalNamed "galliard/entity.names" = some 0 := by kernel_rfl
  obtain rfl := Option.some.inj (hg'.symm.trans hg)
  have ht' : (Tryz.prog.globals[0]?).map (·.type) = some 216 := by kernel_rfl
  obtain rfl := Option.some.inj (ht'.symm.trans ht)
  have hc3 : Tryz.prog.cellsOf 215 = 3 := by kernel_rfl
  have k0 : (cs.toList.drop 0).take 3 = [.string ⟨#[97, 109, 112]⟩, .int .u8 38, .bool true] := by
    obtain ⟨f', d, q, h1, h2⟩ := Lib.array_elem Tryz.underlying216 hd 0 (by omega)
    rw [hc3] at h2
    obtain rfl : namedData [97, 109, 112] 38 true = d := Option.some.inj h1
    exact ent_named h2
  have k1 : (cs.toList.drop 3).take 3 = [.string ⟨#[108, 116]⟩, .int .u8 60, .bool true] := by
    obtain ⟨f', d, q, h1, h2⟩ := Lib.array_elem Tryz.underlying216 hd 1 (by omega)
    rw [hc3] at h2
    obtain rfl : namedData [108, 116] 60 true = d := Option.some.inj h1
    exact ent_named h2
  have k2 : (cs.toList.drop 6).take 3 = [.string ⟨#[103, 116]⟩, .int .u8 62, .bool true] := by
    obtain ⟨f', d, q, h1, h2⟩ := Lib.array_elem Tryz.underlying216 hd 2 (by omega)
    rw [hc3] at h2
    obtain rfl : namedData [103, 116] 62 true = d := Option.some.inj h1
    exact ent_named h2
  have k3 : (cs.toList.drop 9).take 3 = [.string ⟨#[113, 117, 111, 116]⟩, .int .u8 34, .bool true] := by
    obtain ⟨f', d, q, h1, h2⟩ := Lib.array_elem Tryz.underlying216 hd 3 (by omega)
    rw [hc3] at h2
    obtain rfl : namedData [113, 117, 111, 116] 34 true = d := Option.some.inj h1
    exact ent_named h2
  have k4 : (cs.toList.drop 12).take 3 = [.string ⟨#[97, 112, 111, 115]⟩, .int .u8 39, .bool false] := by
    obtain ⟨f', d, q, h1, h2⟩ := Lib.array_elem Tryz.underlying216 hd 4 (by omega)
    rw [hc3] at h2
    obtain rfl : namedData [97, 112, 111, 115] 39 false = d := Option.some.inj h1
    exact ent_named h2
  have hlen : cs.toList.length = 15 := by
    cases fuel with
    | zero => simp [DataW.trod] at hd
    | succ fuel =>
      unfold DataW.trod at hd
      simp only [Tryz.underlying216] at hd
      split at hd
      · rename_i hl
        exact hl.trans (by kernel_rfl)
      · cases hd
  have hcs : cs = nameCells := by
    obtain ⟨L⟩ := cs
    simp only at hlen k0 k1 k2 k3 k4
    match L, hlen with
    | [a0, a1, a2, a3, a4, a5, a6, a7, a8, a9, a10, a11, a12, a13, a14], _ =>
      simp at k0 k1 k2 k3 k4
      obtain ⟨rfl, rfl, rfl⟩ := k0
      obtain ⟨rfl, rfl, rfl⟩ := k1
      obtain ⟨rfl, rfl, rfl⟩ := k2
      obtain ⟨rfl, rfl, rfl⟩ := k3
      obtain ⟨rfl, rfl, rfl⟩ := k4
      rfl
  subst hcs
  unfold World.var? at hv
  rw [hg'] at hv
  simp only [Option.bind_some] at hv
  split at hv
  · rename_i cs' t fr heq
    obtain rfl := Option.some.inj hv
    exact ⟨t, fr, heq⟩
  · cases hv
theorem ent_syn {W : World} (h : Lib.VarReads Tryz.prog W "strconv.ErrSyntax" synData) : ∃ te pe, W.cell? ⟨9, 0, none⟩ = some (.iface te pe) := by
  obtain ⟨g, t, cs, fuel, p, hg, ht, hv, hd⟩ := h
  have hg' : Tryz.prog.globalNamed "strconv.ErrSyntax" = some 9 := by kernel_rfl
  obtain rfl := Option.some.inj (hg'.symm.trans hg)
  have ht' : (Tryz.prog.globals[9]?).map (·.type) = some 159 := by kernel_rfl
  obtain rfl := Option.some.inj (ht'.symm.trans ht)
  obtain ⟨f', u, v, hc, _, _⟩ := iface_of_trod Tryz.underlying159 hd
  refine ⟨u, v, ?_⟩
  have := World.var?_cell hg' hv 0
  rw [this, ← Array.getElem?_toList, hc]; rfl
/-- What the walks of entity ask. -/
theorem entV_of {W : World} (hsh : W.ShapedOpen Tryz.prog) (h1 : Lib.VarReads Tryz.prog W "galliard/entity.names" namesData) (h2 : Lib.VarReads Tryz.prog W "galliard/entity.bases" basesData) (h3 : Lib.VarReads Tryz.prog W "strconv.ErrSyntax" synData) : EntV W := by
  have hb := ent_bases h2
  have hg : Tryz.prog.globalNamed "galliard/entity.bases" = some 6 := by kernel_rfl
  exact ⟨ent_names h1, hb.cell hg 0 (by decide), hb.cell hg 1 (by decide), ent_syn h3, Tryz.laysM145.s1_3 W hsh⟩
end Go.Proofs.YtnlkpdodacphkaaGreatDoor
