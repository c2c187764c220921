/-
  The walk of layer 6's law TreeBack: a document is read as the element that it was written of, whatever says nothing around it.
  A row's lift, where the call is handed what the listed variables read as and the world's shape, both.
  From what a row lists of the package-level variables, and the world's shape, to what the walks of entity ask of the world.
  An element that was handed in, and a pair of numbers.
-/
import Derived.Test.YtincdacickhdkaaGreatDoorB4
import Derived.Test.YtincdacickhdkaaGreatDoorB18
import Derived.Test.YtincdacickhdkaaGreatDoorB19
import Derived.Test.YtincdacickhdkaaGreatDoorB22
import Derived.BigQuiet
import Derived.Deep.QuietTactic
import Derived.Deep.LoopGhost
import Derived.IntWalk
import Derived.HandedShaped
import Derived.Handed
import Derived.ProofKit
import Derived.Test.YtincdacickhdkaaGreatDoorB8
import Derived.Lib.LaidU8
import Derived.Test.YtincdacickhdkaaGreatDoorB14
import Derived.OpenShut
import Derived.Deep.Slices
import Derived.Deep.Fields
import Derived.ChangeSame
import Derived.Carry
namespace Go.Proofs.YtincdacickhdkaaGreatDoor
open Go Go.RowKit Go.Lib
set_option maxRecDepth 100000

/-! ### the comment's text -/
def cmB (b : Nat) : UInt8 := [97, 98, 32, 45, 62, 32, 60].getD (b % 7) 0
theorem cm_at (b : Nat) (h : b % 7 < (⟨#[97, 98, 32, 45, 62, 32, 60]⟩ : ByteArray).size) : (⟨#[97, 98, 32, 45, 62, 32, 60]⟩ : ByteArray)[b % 7]'h = cmB b := by
  unfold cmB
  have key : ∀ i : Fin 7, (⟨#[97, 98, 32, 45, 62, 32, 60]⟩ : ByteArray)[i.val]'i.isLt = ([97, 98, 32, 45, 62, 32, 60] : List UInt8).getD i.val 0 := by decide +kernel
  exact key ⟨b % 7, Nat.mod_lt _ (by decide)⟩
theorem cm_ok (b : Nat) : 32 ≤ (cmB b).toNat ∧ (cmB b).toNat < 128 := by
  have key : ∀ i : Fin 7, 32 ≤ (([97, 98, 32, 45, 62, 32, 60] : List UInt8).getD i.val 0).toNat ∧ (([97, 98, 32, 45, 62, 32, 60] : List UInt8).getD i.val 0).toNat < 128 := by decide +kernel
  exact key ⟨b % 7, Nat.mod_lt _ (by decide)⟩
/-- A comment's beginning, a blank, and so many bytes. -/
def CmOk (k : Nat) (X : ByteArray) : Prop := ∃ U : List UInt8, bl X = 60 :: 33 :: 45 :: 45 :: 32 :: U ∧ U.length = k ∧ ∀ c ∈ U, 32 ≤ c.toNat ∧ c.toNat < 128
theorem cm_start : CmOk 0 ⟨#[60, 33, 45, 45, 32]⟩ := ⟨[], rfl, rfl, fun _ h => by cases h⟩
theorem CmOk.next {k : Nat} {X : ByteArray} (h : CmOk k X) (b : Nat) : CmOk (k + 1) (X ++ ⟨#[ub ((cmB b).toNat : Int)]⟩) := by
  obtain ⟨U, h1, h2, h3⟩ := h
  have hub : ub ((cmB b).toNat : Int) = cmB b := by
    rw [ub_eq (x := ((cmB b).toNat : Int)) (n := (cmB b).toNat) rfl]
    simp
  refine ⟨U ++ [cmB b], by rw [hub, bl_append, h1]; rfl, by rw [List.length_append, h2]; rfl, fun c hc => ?_⟩
  rcases List.mem_append.1 hc with hc | hc
  · exact h3 c hc
  · rw [List.mem_singleton.1 hc]; exact cm_ok b
theorem CmOk.size {k : Nat} {X : ByteArray} (h : CmOk k X) : X.size = k + 5 := by
  obtain ⟨U, h1, h2, _⟩ := h
  rw [← bl_size, h1]
  simp [h2]
/-- Up to there no two dashes stand side by side. -/
def DdTo (X : ByteArray) (k : Nat) : Prop := ∀ j, 5 ≤ j → j < k → ¬ ((bl X).getD j 0 = 45 ∧ (bl X).getD (j + 1) 0 = 45)
theorem DdTo.next {X : ByteArray} {k : Nat} (h : DdTo X k) (h1 : ¬ ((bl X).getD k 0 = 45 ∧ (bl X).getD (k + 1) 0 = 45)) : DdTo X (k + 1) := fun j hj hk => by
  by_cases e : j = k
  · rw [e]; exact h1
  · exact h j hj (by omega)
theorem bl_get (X : ByteArray) (k : Nat) (h : k < X.size) : (bl X).getD k 0 = X[k] := by
  have hl : k < (bl X).length := by rw [bl_size]; exact h
  have e : (bl X)[k]'hl = X[k] := rfl
  rw [List.getD, List.getElem?_eq_getElem hl, e]
  rfl
theorem noDD_of : ∀ U : List UInt8, (∀ i, i + 1 < U.length → ¬ (U.getD i 0 = 45 ∧ U.getD (i + 1) 0 = 45)) → (U ≠ [] → ¬ U.getD (U.length - 1) 0 = 45) → noDD U = true
  | [], _, _ => rfl
  | [c], _, h => by
    have := h (by simp)
    simpa [noDD] using this
  | c :: d :: t, h1, h2 => by
    unfold noDD
    have ih := noDD_of (d :: t) (fun i hi => by
      have := h1 (i + 1) (by simpa using hi)
      simpa using this) (fun _ => by
      have := h2 (by simp)
      simpa using this)
    have h0 := h1 0 (by simp)
    rw [ih, Bool.and_true]
    by_cases hc : c = 45 <;> by_cases hd : d = 45 <;> simp_all
/-- What is written ahead of the element. -/
def CmFin (C : ByteArray) : Prop := ∃ u : List UInt8, bl C = 60 :: 33 :: 45 :: 45 :: u ∧ noDD u = true ∧ Lets u ∧ u.length ≤ 10
theorem cm_fin0 : CmFin ⟨#[60, 33, 45, 45, 32]⟩ := ⟨[32], rfl, rfl, lets_one 32 (by decide), by decide⟩
theorem cm_fin {k : Nat} {X : ByteArray} (h : CmOk k X) (hk : k ≤ 9) {m : Nat} (hm : X.size ≤ m + 1) (hd : DdTo X m) (hl : ¬ (bl X).getD (X.size - 1) 0 = 45) : CmFin X := by
  have hs := h.size
  obtain ⟨U, h1, h2, h3⟩ := h
  have hg : ∀ i, (bl X).getD (i + 5) 0 = U.getD i 0 := fun i => by rw [h1]; rfl
  have hU : noDD U = true := noDD_of U (fun i hi => by
    have := hd (i + 5) (by omega) (by omega)
    rw [hg, show i + 5 + 1 = i + 1 + 5 by omega, hg] at this
    exact this) (fun h0 => by
    have hp : 0 < U.length := List.length_pos_iff.2 h0
    rw [hs, show k + 5 - 1 = (U.length - 1) + 5 by omega, hg] at hl
    exact hl)
  refine ⟨32 :: U, h1, ?_, lets_cons (by decide) (asc_lets U h3), by rw [List.length_cons]; omega⟩
  cases U with
  | nil => rfl
  | cons c U => unfold noDD; rw [hU]; rfl
/-- The document as it is written. -/
theorem back_doc {C T : ByteArray} {u : List UInt8} {y : Nd} (hC : bl C = 60 :: 33 :: 45 :: 45 :: u) (hT : bl T = textT y ⟨#[]⟩ []) :
    bl ((⟨#[32]⟩ : ByteArray) ++ C ++ ⟨#[45, 45, 62, 10]⟩ ++ T ++ ⟨#[9, 60, 63, 120, 63, 62]⟩) = [32] ++ 60 :: ([33, 45, 45] ++ (u ++ (eCom ++ (10 :: (bodyT y bNone [] ++ (10 :: 9 :: (bHint ++ ([120] ++ (eHint ++ []))))))))) := by
  rw [bl_append, bl_append, bl_append, bl_append, hC, hT]
  unfold textT
  show [32] ++ (60 :: 33 :: 45 :: 45 :: u) ++ [45, 45, 62, 10] ++ ([] ++ (bodyT y bNone [] ++ [10])) ++ [9, 60, 63, 120, 63, 62] = _
  simp [eCom, bHint, eHint]
theorem len4 : ∀ {d : Nat}, d ≤ 4 → lenB d 0 ≤ 30000
  | 0, _ => by decide
  | 1, _ => by decide
  | 2, _ => by decide
  | 3, _ => by decide
  | 4, _ => by decide
  | d + 5, h => absurd h (by omega)
theorem cnt4 : ∀ {d : Nat}, d ≤ 4 → cntB d ≤ 40
  | 0, _ => by decide
  | 1, _ => by decide
  | 2, _ => by decide
  | 3, _ => by decide
  | 4, _ => by decide
  | d + 5, h => absurd h (by omega)
theorem back_parse {C T : ByteArray} {y : Nd} {d : Nat} (hd : d ≤ 4) (hC : CmFin C) (hT : bl T = textT y ⟨#[]⟩ []) (hy : NearB d y) :
    parseL (bl ((⟨#[32]⟩ : ByteArray) ++ C ++ ⟨#[45, 45, 62, 10]⟩ ++ T ++ ⟨#[9, 60, 63, 120, 63, 62]⟩)) = .ok y := by
  obtain ⟨u, hC, hu, hul, hun⟩ := hC
  have hD := back_doc hC hT
  have hlen := hy.len ⟨#[]⟩ []
  have hlb : lenB d ([] : List UInt8).length ≤ 30000 := len4 hd
  have hcb : cntB d ≤ 40 := cnt4 hd
  have l10 : Lets [10] := blanks_lets (fun c h => .inr (List.mem_singleton.1 h))
  have l109 : Lets [10, 9] := ⟨[10, 9], by decide, by kernel_rfl⟩
  have hbody : Lets (bodyT y bNone []) := hy.lets bNone [] (fun b hb => by cases hb)
  refine root (u := u) hy.near hu (dd_may hu) ?_ ?_ (by have := hy.count; omega) (by have := hy.depth; omega) hD
  · rw [hD]
    have e : (bodyT y bNone []).length ≤ lenB d ([] : List UInt8).length := hlen
    simp only [List.length_append, List.length_cons, List.length_nil, eCom, bHint, eHint]
    omega
  · rw [hD]
    have a1 : Lets ([33, 45, 45] : List UInt8) := asc_lets _ (by decide)
    have a2 : Lets eCom := asc_lets _ (by decide)
    have a3 : Lets (bHint ++ ([120] ++ (eHint ++ []))) := asc_lets _ (by decide)
    have a4 : Lets (10 :: 9 :: (bHint ++ ([120] ++ (eHint ++ [])))) := l109.append a3
    have a5 : Lets (10 :: (bodyT y bNone [] ++ (10 :: 9 :: (bHint ++ ([120] ++ (eHint ++ [])))))) := l10.append (hbody.append a4)
    exact (lets_one 32 (by decide)).append (lets_cons (by decide) (a1.append (hul.append (a2.append a5))))
theorem near_few {d : Nat} {x : Nd} (h : NearB d x) : x.few := by
  induction h with
  | mk d s n t A K hn hn2 hnl hs hsl ht htl htr hA hAd hAl hKt hKl hK ih =>
    have key : ∀ K : List Nd, (∀ k ∈ K, k.few) → fewK K := by
      intro K
      induction K with
      | nil => intro _; exact trivial
      | cons k K ihK => intro h; exact ⟨h k (List.mem_cons_self ..), ihK fun y hy => h y (List.mem_cons_of_mem _ hy)⟩
    exact ⟨by omega, key K ih⟩
theorem near_no {d : Nat} {x : Nd} (h : NearB d x) : ∀ s n A K t, x = .mk s n A K t → A.length ≤ 100000 ∧ ∀ a ∈ A, ¬ a.1 = (⟨#[110, 111]⟩ : ByteArray) := by
  intro s n A K t e
  subst e
  refine ⟨(near_few h).1, fun a ha e => ?_⟩
  exact (h.atts a ha).no (by rw [e]; rfl)

/-- What is known of a world in which an element lies at a block. -/
structure AtN (B : Nat) (w0 w : World) (q : Nat) (a b e : ByteArray) (p1 : Option Addr) (n1 c1 : Nat) (p2 : Option Addr) (n2 c2 : Nat) (x : Nd) : Prop where
  below : Below B w0 w
  lt : q < w.heap.size
  k0 : w.cell? ⟨q, 0, none⟩ = some (.string a)
  k1 : w.cell? ⟨q, 1, none⟩ = some (.string b)
  k2 : w.cell? ⟨q, 2, none⟩ = some (.slice p1 n1 c1)
  k3 : w.cell? ⟨q, 3, none⟩ = some (.slice p2 n2 c2)
  k4 : w.cell? ⟨q, 4, none⟩ = some (.string e)
  nv : NodeV (fun _ => True) w (.agg #[.string a, .string b, .slice p1 n1 c1, .slice p2 n2 c2, .string e]) x
  ev : EntV w
  tv : Tabs w
theorem AtN.to {B : Nat} {w0 w w' : World} {q : Nat} {a b e : ByteArray} {p1 : Option Addr} {n1 c1 : Nat} {p2 : Option Addr} {n2 c2 : Nat} {x : Nd} (h : AtN B w0 w q a b e p1 n1 c1 p2 n2 c2 x) (hb : Below w.heap.size w w') (hB : B ≤ w.heap.size) : AtN B w0 w' q a b e p1 n1 c1 p2 n2 c2 x where
  below := h.below.trans (hb.mono hB)
  lt := Nat.lt_of_lt_of_le h.lt hb.size
  k0 := (hb.cell (p := ⟨q, 0, none⟩) h.lt).trans h.k0
  k1 := (hb.cell (p := ⟨q, 1, none⟩) h.lt).trans h.k1
  k2 := (hb.cell (p := ⟨q, 2, none⟩) h.lt).trans h.k2
  k3 := (hb.cell (p := ⟨q, 3, none⟩) h.lt).trans h.k3
  k4 := (hb.cell (p := ⟨q, 4, none⟩) h.lt).trans h.k4
  nv := h.nv.any hb
  ev := h.ev.below hb
  tv := h.tv.below hb
set_option maxHeartbeats 16000000 in
theorem back06_any (v : Value) (deep : Int) (s : ByteArray) (w : World) (hE : EntV w) (hT : Tabs w) (hv : ∃ X, NodeV (fun _ => True) w v X) :
    Calls Tryz.prog 3 #[v, .int .i64 deep, .string s] w fun e w' => e = .returned (.bool true) ∧ Below w.heap.size w w' := by
  obtain ⟨X, hX⟩ := hv
  obtain ⟨xsp, xnm, xtx, xa, xan, xac, xk, xkn, xkc, rfl⟩ := form06 hX
  have hA1 := (Below.refl w.heap.size w).alloc (Nat.le_refl _) (.cells #[.string xsp, .string xnm, .slice xa xan xac, .slice xk xkn xkc, .string xtx] 25)
  obtain ⟨w0, hw0⟩ : ∃ w0, w.alloc (.cells #[.string xsp, .string xnm, .slice xa xan xac, .slice xk xkn xkc, .string xtx] 25) = w0 := ⟨_, rfl⟩
  have hc0 : ∀ q v, (#[.string xsp, .string xnm, .slice xa xan xac, .slice xk xkn xkc, .string xtx] : Array Value)[q]? = some v → w0.cell? ⟨w.heap.size, q, none⟩ = some v := fun q v h => by
    rw [← hw0, Lib.cell_of_heap (heap_alloc_new w _)]; exact h
  have x0 := hc0 0 _ rfl
  have x1 := hc0 1 _ rfl
  have x2 := hc0 2 _ rfl
  have x3 := hc0 3 _ rfl
  have x4 := hc0 4 _ rfl
  rw [hw0] at hA1
  obtain ⟨m, hm, hmask⟩ := mask_i64 deep 2 (by decide) 3 (by decide)
  obtain ⟨D, hD⟩ : ∃ D : Int, (m : Int) + 1 = D := ⟨_, rfl⟩
  have hD2 : 0 ≤ D ∧ D ≤ 4 := by omega
  have HN := Lib.hid (near_spec 3 D _ X w0 (by omega) (by omega) (by omega) (hX.any hA1))
  have HA1 := Lib.hid hA1
  have HE := Lib.hid (hE.below hA1)
  have HT := Lib.hid (hT.below hA1)
  clear hA1 hX hE hT hc0
  go_enter Tryz.func3, Tryz.ntmps3
  go_wp2_with fail
  refine HN.out.mono ?_
  rintro e w1 ⟨v1, y, rfl, hy, hyB, hb1⟩
  obtain ⟨ysp, ynm, ytx, ya, yan, yac, yk, ykn, ykc, rfl⟩ := form06 hy
  have hn1 := hb1.alloc hb1.size (.cells #[.string ysp, .string ynm, .slice ya yan yac, .slice yk ykn ykc, .string ytx] 25)
  have hX1 := heap_alloc_new w1 (.cells #[.string ysp, .string ynm, .slice ya yan yac, .slice yk ykn ykc, .string ytx] 25)
  have hl1 : w1.heap.size < (w1.alloc (.cells #[.string ysp, .string ynm, .slice ya yan yac, .slice yk ykn ykc, .string ytx] 25)).heap.size := by simp
  obtain ⟨W1, hW1⟩ : ∃ W1, w1.alloc (.cells #[.string ysp, .string ynm, .slice ya yan yac, .slice yk ykn ykc, .string ytx] 25) = W1 := ⟨_, rfl⟩
  have hne : NodeV (fun _ => True) W1 (.agg #[.string ysp, .string ynm, .slice ya yan yac, .slice yk ykn ykc, .string ytx]) y := by
    rw [← hW1]; exact hy.any ((Below.refl w1.heap.size w1).alloc (Nat.le_refl _) _)
  rw [hW1] at hn1 hX1 hl1
  obtain ⟨Q, hQ⟩ : ∃ Q, w1.heap.size = Q := ⟨_, rfl⟩
  rw [hQ] at hX1 hl1
  have HAt := Lib.hid (show AtN w.heap.size w W1 Q ysp ynm ytx ya yan yac yk ykn ykc y from
    ⟨HA1.out.trans (hn1.mono HA1.out.size), hl1, by rw [Lib.cell_of_heap hX1]; rfl, by rw [Lib.cell_of_heap hX1]; rfl, by rw [Lib.cell_of_heap hX1]; rfl, by rw [Lib.cell_of_heap hX1]; rfl, by rw [Lib.cell_of_heap hX1]; rfl, hne, HE.out.below hn1, HT.out.below hn1⟩)
  have CT := Lib.hid (text_spec 4 y _ ⟨#[]⟩ [] W1 hne hyB (by decide))
  obtain ⟨TL, hTL⟩ : ∃ TL, textT y ⟨#[]⟩ [] = TL := ⟨_, rfl⟩
  have hTl : TL.length ≤ 100000 := by
    have h1 := hyB.len ⟨#[]⟩ []
    have h2 : lenB 4 ([] : List UInt8).length ≤ 30000 := by decide
    rw [← hTL]
    unfold textT
    have h3 : (bodyT y ⟨#[]⟩ []).length ≤ lenB 4 ([] : List UInt8).length := h1
    simp only [List.length_append, List.length_nil, List.length_singleton] at h2 h3 ⊢
    omega
  rw [hTL] at CT
  have HTL := Lib.hid hTL
  have HYB := Lib.hid hyB
  have hws : w.heap.size ≤ W1.heap.size := Nat.le_trans HA1.out.size hn1.size
  have HWS := Lib.hid hws
  have n0 := HAt.out.k0
  have n1 := HAt.out.k1
  have n2 := HAt.out.k2
  have n3 := HAt.out.k3
  have n4 := HAt.out.k4
  clear hy hyB hb1 hn1 hX1 hl1 hne hTL x0 x1 x2 x3 x4 HN hw0 HA1 HE HT hD hmask hm hD2 hws
  go_wp2_with fail
  refine CT.out.mono ?_
  rintro e w2 ⟨rfl, hb2⟩
  obtain ⟨T, hT⟩ : ∃ T, str TL = T := ⟨_, rfl⟩
  have hTs : T.size ≤ 100000 := by rw [← hT, str_size]; exact hTl
  have hTb : bl T = textT y ⟨#[]⟩ [] := by rw [← hT, str_bl, HTL.out]
  have HTb := Lib.hid hTb
  have HA2 := Lib.hid (HAt.out.to hb2 HWS.out)
  rw [hT]
  have HW2 := Lib.hid (Nat.le_trans HWS.out hb2.size)
  clear hb2 hT hTb HAt HWS HTL hTl CT n0 n1 n2 n3 n4
  go_wp2_with fail
  go_loopg [9, 10] s.size (fun g c at_ wr => ∃ (k : Nat) (X : ByteArray), g + k = s.size ∧ k ≤ 9 ∧ at_ = .int .i64 k ∧ c = .string X ∧ X.size = k + 5 ∧ Hid (CmOk k X) ∧ Hid (AtN w.heap.size w wr Q ysp ynm ytx ya yan yac yk ykn ykc y) ∧ Hid (w.heap.size ≤ wr.heap.size))
  case atStart => exact ⟨0, _, rfl, by decide, rfl, rfl, by decide, Lib.hid cm_start, HA2, HW2⟩
  case round =>
    obtain ⟨k, X, hg, hk9, rfl, rfl, hX, HX, HA, HW⟩ := hrel
    obtain ⟨E, hE'⟩ : ∃ E : Bool, decide (k < s.size ∧ k < 9) = E := ⟨_, rfl⟩
    have HE' := Lib.hid hE'
    clear hE' HA2 HW2
    go_upto_region 5 with (fail)
    go_cut [34] (fun u wx => u = .bool E ∧ wx = wr)
    case first =>
      by_cases h1 : k < s.size
      · have h1' : (k : Int) < (s.size : Int) := by omega
        by_cases h2 : k < 9
        · have h2' : (k : Int) < 9 := by omega
          go_wp2
          go_meet
          exact ⟨by rw [← HE'.out]; simp [h1, h2], rfl⟩
        · have h2' : decide ((k : Int) < 9) = false := decide_eq_false (by omega)
          go_wp2
          go_meet
          exact ⟨by rw [← HE'.out]; simp [h2], rfl⟩
      · have h1' : decide ((k : Int) < (s.size : Int)) = false := decide_eq_false (by omega)
        go_wp2
        go_meet
        exact ⟨by rw [← HE'.out]; simp [h1], rfl⟩
    case rest =>
      obtain ⟨rfl, rfl⟩ := hcut
      cases hEE : E with
      | true =>
        subst hEE
        obtain ⟨hk, h9⟩ : k < s.size ∧ k < 9 := by have := HE'.out; simpa using this
        have hk' : (k : Int) < (s.size : Int) := by omega
        have h7 : s[k].toNat % 7 < (⟨#[97, 98, 32, 45, 62, 32, 60]⟩ : ByteArray).size := Nat.mod_lt _ (by decide)
        have CV := conv1 wc ((cmB s[k].toNat).toNat : Int) (by have := (cmB s[k].toNat).toNat_lt; omega)
        rw [← cm_at s[k].toNat h7] at CV
        have HN := Lib.hid (HX.out.next s[k].toNat)
        rw [← cm_at s[k].toNat h7] at HN
        generalize ub ((⟨#[97, 98, 32, 45, 62, 32, 60]⟩ : ByteArray)[s[k].toNat % 7]'h7).toNat = c at CV HN
        clear HX HE'
        go_wp2
        go_roundg (s.size - (k + 1))
        case measure => omega
        case rel => exact ⟨k + 1, X ++ ⟨#[c]⟩, by omega, by omega, rfl, rfl, by rw [ByteArray.size_append, hX]; rfl, HN, Lib.hid (HA.out.to ((Below.refl _ _).alloc (Nat.le_refl _) _) HW.out), Lib.hid (Nat.le_trans HW.out (by simp))⟩
      | false =>
        subst hEE
        obtain ⟨n, hn⟩ : ∃ n, X.size = n := ⟨_, rfl⟩
        rw [hn] at hX
        have hn5 : 5 ≤ n := by omega
        have hn14 : n ≤ 14 := by omega
        have HXn := Lib.hid hX
        clear HE' hg hX
        go_wp2_with fail
        go_loopg [11, 12] (n - 5) (fun g bb at_ wx => ∃ (j : Nat) (b : Bool), g + j = n ∧ 5 ≤ j ∧ at_ = .int .i64 j ∧ bb = .bool b ∧ Hid (b = false → DdTo X j) ∧ wx = wc)
        case atStart => exact ⟨5, false, by omega, by decide, rfl, rfl, Lib.hid (fun _ j h1 h2 => absurd h2 (by omega)), rfl⟩
        case round =>
          obtain ⟨j, b, hg2, hj5, rfl, rfl, HD, rfl⟩ := hrel
          by_cases hj : j + 1 < n
          · have hj' : (j : Int) + 1 < (n : Int) := by omega
            cases b with
            | true =>
              go_wp2
              go_roundg (n - (j + 1))
              case measure => omega
              case rel => exact ⟨j + 1, true, by omega, by omega, by go_num, rfl, Lib.hid (fun h => by cases h), rfl⟩
            | false =>
              obtain ⟨a, ha⟩ : ∃ a, X[j]'(by omega) = a := ⟨_, rfl⟩
              obtain ⟨d, hd⟩ : ∃ d, X[j + 1]'(by omega) = d := ⟨_, rfl⟩
              have g1 : (bl X).getD j 0 = a := by rw [bl_get X j (by omega), ha]
              have g2 : (bl X).getD (j + 1) 0 = d := by rw [bl_get X (j + 1) (by omega), hd]
              by_cases h1 : a = 45
              · by_cases h2 : d = 45
                · subst h1; subst h2
                  clear g1 g2
                  go_wp2
                  go_roundg (n - (j + 1))
                  case measure => omega
                  case rel => exact ⟨j + 1, true, by omega, by omega, by go_num, rfl, Lib.hid (fun h => by cases h), rfl⟩
                · have HD2 := Lib.hid ((HD.out rfl).next (by rw [g1, g2]; exact fun h => h2 h.2))
                  have e2 : ((d.toNat : Int) == 45) = false := beq_eq_false_iff_ne.2 fun e => h2 (by have e' : d.toNat = (45 : UInt8).toNat := by show d.toNat = 45; omega
                                                                                                     exact UInt8.toNat_inj.1 e')
                  subst h1
                  clear g1 g2
                  go_wp2
                  go_roundg (n - (j + 1))
                  case measure => omega
                  case rel => exact ⟨j + 1, false, by omega, by omega, by go_num, rfl, Lib.hid (fun _ => HD2.out), rfl⟩
              · have HD2 := Lib.hid ((HD.out rfl).next (by rw [g1, g2]; exact fun h => h1 h.1))
                have e1 : ((a.toNat : Int) == 45) = false := beq_eq_false_iff_ne.2 fun e => h1 (by have e' : a.toNat = (45 : UInt8).toNat := by show a.toNat = 45; omega
                                                                                                   exact UInt8.toNat_inj.1 e')
                clear g1 g2
                go_wp2
                go_roundg (n - (j + 1))
                case measure => omega
                case rel => exact ⟨j + 1, false, by omega, by omega, by go_num, rfl, Lib.hid (fun _ => HD2.out), rfl⟩
          · have hj' : ¬ (j : Int) + 1 < (n : Int) := by omega
            go_upto_region 13 with (fail)
            go_cut [75] (fun u wx => (∃ E, u = .bool E ∧ Hid (E = false → CmFin X)) ∧ wx = wr)
            case first =>
              cases b with
              | true =>
                go_wp2
                go_meet
                exact ⟨⟨true, rfl, Lib.hid (fun h => by cases h)⟩, rfl⟩
              | false =>
                have hn1 : n - 1 < X.size := by omega
                obtain ⟨a, ha⟩ : ∃ a, X[n - 1]'hn1 = a := ⟨_, rfl⟩
                have g1 : (bl X).getD (X.size - 1) 0 = a := by rw [hn, bl_get X (n - 1) hn1, ha]
                by_cases h1 : a = 45
                · subst h1
                  clear g1
                  go_wp2
                  go_meet
                  exact ⟨⟨true, rfl, Lib.hid (fun h => by cases h)⟩, rfl⟩
                · have e1 : ((a.toNat : Int) == 45) = false := beq_eq_false_iff_ne.2 fun e => h1 (by have e' : a.toNat = (45 : UInt8).toNat := by show a.toNat = 45; omega
                                                                                                     exact UInt8.toNat_inj.1 e')
                  have HF := Lib.hid (cm_fin HX.out hk9 (m := j) (by omega) (HD.out rfl) (by rw [g1]; exact h1))
                  clear g1
                  go_wp2
                  go_meet
                  exact ⟨⟨false, rfl, Lib.hid (fun _ => HF.out)⟩, rfl⟩
            case rest =>
              obtain ⟨⟨E, rfl, HE⟩, rfl⟩ := hcut
              go_upto_if 75 with (fail)
              go_cut [9] (fun u wx => (∃ C, u = .string C ∧ Hid (CmFin C) ∧ C.size ≤ 14) ∧ wx = wc)
              case first =>
                cases E with
                | true =>
                  go_wp2
                  go_meet
                  exact ⟨⟨_, rfl, Lib.hid cm_fin0, by decide⟩, rfl⟩
                | false =>
                  go_wp2
                  go_meet
                  exact ⟨⟨_, rfl, Lib.hid (HE.out (by trivial)), by omega⟩, rfl⟩
              case rest =>
                obtain ⟨⟨C, rfl, HC, hCs⟩, rfl⟩ := hcut
                have hpar := back_parse (d := 4) (Nat.le_refl _) HC.out HTb.out HYB.out
                obtain ⟨U, hU⟩ : ∃ U, (⟨#[32]⟩ : ByteArray) ++ C ++ ⟨#[45, 45, 62, 10]⟩ ++ T ++ ⟨#[9, 60, 63, 120, 63, 62]⟩ = U := ⟨_, rfl⟩
                rw [hU] at hpar
                have hUs : U.size ≤ 200000 := by
                  rw [← hU]
                  simp only [ByteArray.size_append]
                  show 1 + C.size + 4 + T.size + 6 ≤ _
                  omega
                have HPA := Lib.hid (dparse_ok U y hpar wc HA.out.ev HA.out.tv (by omega))
                obtain ⟨ct, hct⟩ : ∃ ct, y.count = ct := ⟨_, rfl⟩
                obtain ⟨dp, hdp⟩ : ∃ dp, y.depth = dp := ⟨_, rfl⟩
                have hctl : ct ≤ 40 := by have := HYB.out.count; have h4 := cnt4 (d := 4) (Nat.le_refl _); rw [← hct]; exact Nat.le_trans this h4
                have hdpl : dp ≤ 4 := by have := HYB.out.depth; omega
                have HCT := Lib.hid hct
                have HDP := Lib.hid hdp
                have HFEW := Lib.hid (near_few HYB.out)
                have HNO := Lib.hid (near_no HYB.out)
                clear hpar hUs hct hdp HC HTb HD HX HYB
                go_wp2_with fail
                refine HPA.out.mono ?_
                rintro r w4 ⟨v4, rfl, hv4, hb4⟩
                obtain ⟨zsp, znm, ztx, ZA, ZK, za, zac, zk, zkc, zc, rfl, rfl, _⟩ := parts06 hv4
                have hn4 := hb4.alloc hb4.size (.cells #[.string zsp, .string znm, .slice za ZA.length zac, .slice zk ZK.length zkc, .string ztx] 25)
                have hX4 := heap_alloc_new w4 (.cells #[.string zsp, .string znm, .slice za ZA.length zac, .slice zk ZK.length zkc, .string ztx] 25)
                have hl4 : w4.heap.size < (w4.alloc (.cells #[.string zsp, .string znm, .slice za ZA.length zac, .slice zk ZK.length zkc, .string ztx] 25)).heap.size := by simp
                have hz4 : NodeV (fun _ => True) (w4.alloc (.cells #[.string zsp, .string znm, .slice za ZA.length zac, .slice zk ZK.length zkc, .string ztx] 25)) (.agg #[.string zsp, .string znm, .slice za ZA.length zac, .slice zk ZK.length zkc, .string ztx]) (.mk zsp znm ZA ZK ztx) := hv4.any ((Below.refl w4.heap.size w4).alloc (Nat.le_refl _) _)
                have HB := Lib.hid (HA.out.to hn4 HW.out)
                have HW4 := Lib.hid (Nat.le_trans HW.out hn4.size)
                obtain ⟨W4, hW4⟩ : ∃ W4, w4.alloc (.cells #[.string zsp, .string znm, .slice za ZA.length zac, .slice zk ZK.length zkc, .string ztx] 25) = W4 := ⟨_, rfl⟩
                obtain ⟨P, hP⟩ : ∃ P, w4.heap.size = P := ⟨_, rfl⟩
                rw [hW4] at hX4 hl4 hz4 HB HW4
                rw [hP] at hX4 hl4
                have HZ := Lib.hid (show AtN w.heap.size w W4 P zsp znm ztx za ZA.length zac zk ZK.length zkc (.mk zsp znm ZA ZK ztx) from
                  ⟨HB.out.below, hl4, by rw [Lib.cell_of_heap hX4]; rfl, by rw [Lib.cell_of_heap hX4]; rfl, by rw [Lib.cell_of_heap hX4]; rfl, by rw [Lib.cell_of_heap hX4]; rfl, by rw [Lib.cell_of_heap hX4]; rfl, hz4, HB.out.ev, HB.out.tv⟩)
                clear hv4 hb4 hn4 hX4 hl4 hz4 HPA HA HW hU
                have n0 := HB.out.k0
                have n1 := HB.out.k1
                have n2 := HB.out.k2
                have n3 := HB.out.k3
                have n4 := HB.out.k4
                have z0 := HZ.out.k0
                have z1 := HZ.out.k1
                have z2 := HZ.out.k2
                have z3 := HZ.out.k3
                have z4 := HZ.out.k4
                have CC := Lib.hid ((by have h := size_spec 4 _ _ W4 HB.out.nv (by have := HDP.out; omega) (by have := HCT.out; omega); rw [HCT.out, HDP.out] at h; exact h : Calls Tryz.prog 9 #[_] W4 _))
                go_wp2_with fail
                refine CC.out.mono ?_
                rintro r w5 ⟨rfl, hb⟩
                have H5 := Lib.hid (HB.out.to hb HW4.out)
                have Z5 := Lib.hid (HZ.out.to hb HW4.out)
                have V5 := Lib.hid (Nat.le_trans HW4.out hb.size)
                clear hb CC HB HZ HW4 n0 n1 n2 n3 n4 z0 z1 z2 z3 z4
                have n0 := H5.out.k0
                have n1 := H5.out.k1
                have n2 := H5.out.k2
                have n3 := H5.out.k3
                have n4 := H5.out.k4
                have z0 := Z5.out.k0
                have z1 := Z5.out.k1
                have z2 := Z5.out.k2
                have z3 := Z5.out.k3
                have z4 := Z5.out.k4
                have CC := Lib.hid (get_none _ _ ⟨#[110, 111]⟩ w5 H5.out.nv HNO.out)
                go_wp2_with fail
                refine CC.out.mono ?_
                rintro r w6 ⟨rfl, hb⟩
                have H6 := Lib.hid (H5.out.to hb V5.out)
                have Z6 := Lib.hid (Z5.out.to hb V5.out)
                have V6 := Lib.hid (Nat.le_trans V5.out hb.size)
                clear hb CC H5 Z5 V5 n0 n1 n2 n3 n4 z0 z1 z2 z3 z4
                have n0 := H6.out.k0
                have n1 := H6.out.k1
                have n2 := H6.out.k2
                have n3 := H6.out.k3
                have n4 := H6.out.k4
                have z0 := Z6.out.k0
                have z1 := Z6.out.k1
                have z2 := Z6.out.k2
                have z3 := Z6.out.k3
                have z4 := Z6.out.k4
                have CC := Lib.hid (awake06 w6 H6.out.ev H6.out.tv)
                go_wp2_with fail
                refine CC.out.mono ?_
                rintro r w7 ⟨rfl, hb⟩
                have H7 := Lib.hid (H6.out.to hb V6.out)
                have Z7 := Lib.hid (Z6.out.to hb V6.out)
                have V7 := Lib.hid (Nat.le_trans V6.out hb.size)
                clear hb CC H6 Z6 V6 n0 n1 n2 n3 n4 z0 z1 z2 z3 z4
                have n0 := H7.out.k0
                have n1 := H7.out.k1
                have n2 := H7.out.k2
                have n3 := H7.out.k3
                have n4 := H7.out.k4
                have z0 := Z7.out.k0
                have z1 := Z7.out.k1
                have z2 := Z7.out.k2
                have z3 := Z7.out.k3
                have z4 := Z7.out.k4
                have CC := Lib.hid (same_spec 4 _ _ _ w7 H7.out.nv Z7.out.nv (by have := HDP.out; omega) (by have := HCT.out; omega) HFEW.out)
                go_wp2_with fail
                refine CC.out.mono ?_
                rintro r w8 ⟨rfl, hb⟩
                have H8 := Lib.hid (H7.out.to hb V7.out)
                have Z8 := Lib.hid (Z7.out.to hb V7.out)
                have V8 := Lib.hid (Nat.le_trans V7.out hb.size)
                clear hb CC H7 Z7 V7 n0 n1 n2 n3 n4 z0 z1 z2 z3 z4
                have n0 := H8.out.k0
                have n1 := H8.out.k1
                have n2 := H8.out.k2
                have n3 := H8.out.k3
                have n4 := H8.out.k4
                have z0 := Z8.out.k0
                have z1 := Z8.out.k1
                have z2 := Z8.out.k2
                have z3 := Z8.out.k3
                have z4 := Z8.out.k4
                have CC := Lib.hid (tsame _ _ zsp znm ztx ZA ZK w8 H8.out.nv Z8.out.nv ⟨HFEW.out, trivial⟩ (by have := HCT.out; rw [countK, countK]; omega))
                go_wp2_with fail
                refine CC.out.mono ?_
                rintro r w9 ⟨rfl, hb⟩
                have H9 := Lib.hid (H8.out.to hb V8.out)
                have Z9 := Lib.hid (Z8.out.to hb V8.out)
                have V9 := Lib.hid (Nat.le_trans V8.out hb.size)
                clear hb CC H8 Z8 V8 n0 n1 n2 n3 n4 z0 z1 z2 z3 z4
                have n0 := H9.out.k0
                have n1 := H9.out.k1
                have n2 := H9.out.k2
                have n3 := H9.out.k3
                have n4 := H9.out.k4
                have z0 := Z9.out.k0
                have z1 := Z9.out.k1
                have z2 := Z9.out.k2
                have z3 := Z9.out.k3
                have z4 := Z9.out.k4
                have CC := Lib.hid ((by have h := pcount _ _ _ w9 Z9.out.nv (by have := HCT.out; omega); rw [HCT.out] at h; exact h : Calls Tryz.prog 14 #[_] w9 _))
                go_wp2_with fail
                refine CC.out.mono ?_
                rintro r w10 ⟨rfl, hb⟩
                have H10 := Lib.hid (H9.out.to hb V9.out)
                have Z10 := Lib.hid (Z9.out.to hb V9.out)
                have V10 := Lib.hid (Nat.le_trans V9.out hb.size)
                clear hb CC H9 Z9 V9 n0 n1 n2 n3 n4 z0 z1 z2 z3 z4
                have n0 := H10.out.k0
                have n1 := H10.out.k1
                have n2 := H10.out.k2
                have n3 := H10.out.k3
                have n4 := H10.out.k4
                have z0 := Z10.out.k0
                have z1 := Z10.out.k1
                have z2 := Z10.out.k2
                have z3 := Z10.out.k3
                have z4 := Z10.out.k4
                have CC := Lib.hid ((by have h := pdepthT _ _ _ w10 Z10.out.nv (by have := HCT.out; omega); rw [HDP.out] at h; exact h : Calls Tryz.prog 15 #[_] w10 _))
                go_wp2_with fail
                refine CC.out.mono ?_
                rintro r w11 ⟨rfl, hb⟩
                have H11 := Lib.hid (H10.out.to hb V10.out)
                have Z11 := Lib.hid (Z10.out.to hb V10.out)
                have V11 := Lib.hid (Nat.le_trans V10.out hb.size)
                clear hb CC H10 Z10 V10 n0 n1 n2 n3 n4 z0 z1 z2 z3 z4
                have n0 := H11.out.k0
                have n1 := H11.out.k1
                have n2 := H11.out.k2
                have n3 := H11.out.k3
                have n4 := H11.out.k4
                have z0 := Z11.out.k0
                have z1 := Z11.out.k1
                have z2 := Z11.out.k2
                have z3 := Z11.out.k3
                have z4 := Z11.out.k4
                clear n0 n1 n2 n3 n4 z0 z1 z2 z3 z4
                go_wp2_with fail
                go_ret
                exact ⟨rfl, H11.out.below⟩

end Go.Proofs.YtincdacickhdkaaGreatDoor

namespace Go.Proofs.YtincdacickhdkaaGreatDoor
open Go.ChangeShapes Go.WideShapes Go.ChangeAt

theorem lift_both {H : Type} {enc : TypeId × Value → H} {a : Assume} {C : Checked} {os : Os} {f : FuncId} {fn : Func} {s : ChangeSpec} {conds : List PathCond} {apart fresh handsOn again : Bool} {X : World → Array Value → Prop}
    (keep : ∀ (w v : World) (args : Array Value), w.heap = v.heap → X w args → X v args)
    (own : ownKnob C.prog.godebug = none) (started : os.Started) (noInit : C.prog.inits.idxOf? f = none) (hfn : C.prog.funcs[f]? = some fn)
    (start : ∃ (w : World) (tape : Tape) (i : Input), w.os = os ∧ (w.forCall tape i).Shaped C.prog ∧ i.vars = [] ∧ Input.okWide C.prog (w.forCall tape i) .any w.heap.size f i ∧
      ((s.pre enc C.prog fn conds apart (w.forCall tape i).memory i.args ∧ X (w.forCall tape i).memory i.args) ∧ sizedMet enc C.prog fn (OpenSpec.ofChange s) apart (w.forCall tape i).memory i.args) ∧ a.holds C.prog (lone (Frame.enter C.prog f i.args .normal) [] (w.forCall tape i)))
    (walk : ∀ (W : World) (base : Nat) (args : Array Value) (ds gs : List (DataW H)) (before : List MemPlace),
      (∀ (j : Nat) t v, fn.params[j]? = some t → args[j]? = some v → Value.okWide C.prog W .any base t v) →
      DataW.Whole enc C.prog fn.params.toList s.vars apart W args.toList ds gs before →
      conds.all (PathCond.test C.prog ⟨fn.params.toList, ds, s.plain.varTypes C.prog, gs⟩) = true →
      (DataW.weightsEach C.prog (fn.params.toList ++ s.plain.varTypes C.prog) (ds ++ gs)).all (· ≤ reachBytes) = true → X W args → W.ShapedOpen C.prog →
      a.holds C.prog (lone (Frame.enter C.prog f args .normal) [] W) →
      Calls C.prog f args W fun e V => ∃ v, e = .returned v ∧ s.post enc C.prog fn apart fresh handsOn again W args v V) :
    ReturnsInHanded a C os f .any (fun w args => (s.pre enc C.prog fn conds apart w args ∧ X w args) ∧ sizedMet enc C.prog fn (OpenSpec.ofChange s) apart w args) (s.post enc C.prog fn apart fresh handsOn again) :=
  returnsInHanded_of_calls own started noInit start fun w tape i _ shape _ ok pre holds => by
    obtain ⟨_, _, _, gn, hgn, _, _, _, _, vals⟩ := ok
    obtain rfl : gn = fn := Option.some.inj (hgn.symm.trans hfn)
    obtain ⟨⟨⟨ds, gs, before, whole, cond⟩, x⟩, sized⟩ := pre
    exact (walk (w.forCall tape i) w.heap.size i.args ds gs before vals (DataW.Whole.of_heap (w' := w.forCall tape i) (by rfl) whole) cond (sized.weights whole) (keep _ _ _ (by rfl) x) shape holds).mono
      fun e V ⟨v, he, hp⟩ => by subst he; exact ChangeSpec.post_blind hp
theorem u8_of_wf {n : Int} (h : (Lit.int .u8 n).wf = true) : 0 ≤ n ∧ n < 256 := by
  simp [Lit.wf] at h
  have h1 : IntKind.u8.min = 0 := rfl
  have h2 : IntKind.u8.max = 255 := rfl
  omega

end Go.Proofs.YtincdacickhdkaaGreatDoor

namespace Go.Proofs.YtincdacickhdkaaGreatDoor
open Go.RowKit
set_option maxRecDepth 100000

def basesData : DataW Unit := Lib.tabData .i64 [10, 16]
def namedData (l : List UInt8) (c : Int) (b : Bool) : DataW Unit := .agg [.lit (.string l), .lit (.int .u8 c), .lit (.bool b)]
def namesData : DataW Unit := .agg [namedData [97, 109, 112] 38 true, namedData [108, 116] 60 true, namedData [103, 116] 62 true, namedData [113, 117, 111, 116] 34 true, namedData [97, 112, 111, 115] 39 false]
def synData : DataW Unit := .iface "*errors.errorString" (.ptr (.agg [.lit (.string [105, 110, 118, 97, 108, 105, 100, 32, 115, 121, 110, 116, 97, 120])]))

theorem ent_bases {W : World} (h : Lib.VarReads Tryz.prog W "galliard/entity.bases" basesData) : Lib.TabIs Tryz.prog W "galliard/entity.bases" .i64 [10, 16] := by
  obtain ⟨g, t, cs, fuel, p, hg, ht, hv, hd⟩ := h
  have hg' : Tryz.prog.globalNamed "galliard/entity.bases" = some 5 := by kernel_rfl
  obtain rfl := Option.some.inj (hg'.symm.trans hg)
  have ht' : (Tryz.prog.globals[5]?).map (·.type) = some 43 := by kernel_rfl
  obtain rfl := Option.some.inj (ht'.symm.trans ht)
  have hc := Lib.cells_of_tab Tryz.underlying43 Tryz.underlying3 (by kernel_rfl) (by kernel_rfl) hd
  unfold Lib.TabIs
  rw [hv, ← hc]
/-- A struct of a name, a letter and a mark, that reads so. -/
theorem ent_named {W : World} {fuel : Nat} {cs : List Value} {p : List MemPlace} {l : List UInt8} {c : Int} {b : Bool}
    (h : DataW.trod (fun _ => ()) Tryz.prog W 0 (fun _ => true) false fuel 138 cs = some (namedData l c b, p)) : cs = [.string ⟨l.toArray⟩, .int .u8 c, .bool b] := by
  obtain ⟨xs, n, rfl, hx, hcl, hxl, hall⟩ := DataW.trod_struct Tryz.underlying138 h
  have hc3 : Tryz.prog.cellsOf 138 = 3 := by kernel_rfl
  have hcs : Tryz.prog.cellsOf 9 = 1 := by kernel_rfl
  have hcb : Tryz.prog.cellsOf 5 = 1 := by kernel_rfl
  have hcd : Tryz.prog.cellsOf 4 = 1 := by kernel_rfl
  rw [hc3] at hcl
  have f0 : DataW.trod (fun _ => ()) Tryz.prog W 0 (fun _ => true) false n 9 ((cs.drop 0).take (Tryz.prog.cellsOf 9)) = xs[0]? := hall 0 _ rfl
  have f1 : DataW.trod (fun _ => ()) Tryz.prog W 0 (fun _ => true) false n 5 ((cs.drop 1).take (Tryz.prog.cellsOf 5)) = xs[1]? := hall 1 _ rfl
  have f2 : DataW.trod (fun _ => ()) Tryz.prog W 0 (fun _ => true) false n 4 ((cs.drop 2).take (Tryz.prog.cellsOf 4)) = xs[2]? := hall 2 _ rfl
  rw [hcs] at f0
  rw [hcb] at f1
  rw [hcd] at f2
  have hxl' : xs.length = 3 := by simpa using hxl
  match xs, hxl', cs, hcl with
  | [x0, x1, x2], _, [c0, c1, c2], _ =>
    simp at f0 f1 f2
    obtain ⟨s0, e0, d0, _⟩ := DataW.trod_string Tryz.underlying9 f0
    obtain ⟨n1, e1, d1, _⟩ := DataW.trod_int Tryz.underlying5 f1
    obtain ⟨b2, e2, d2⟩ := DataW.trod_bool Tryz.underlying4 f2
    simp at e0 e1 e2
    subst e0 e1 e2 d0 d1 d2
    unfold namedData at hx
    simp at hx
    obtain ⟨⟨h0, h1, h2⟩, _⟩ := hx
    subst h0 h1 h2
    simp
theorem ent_names {W : World} (h : Lib.VarReads Tryz.prog W "galliard/entity.names" namesData) : ∃ t fr, W.heap[0]? = some (.cells nameCells t fr) := by
  obtain ⟨g, t, cs, fuel, p, hg, ht, hv, hd⟩ := h
  have hg' : Tryz.prog.globalNamed "galliard/entity.names" = some 0 := by kernel_rfl
  obtain rfl := Option.some.inj (hg'.symm.trans hg)
  have ht' : (Tryz.prog.globals[0]?).map (·.type) = some 139 := by kernel_rfl
  obtain rfl := Option.some.inj (ht'.symm.trans ht)
  have hc3 : Tryz.prog.cellsOf 138 = 3 := by kernel_rfl
  have k0 : (cs.toList.drop 0).take 3 = [.string ⟨#[97, 109, 112]⟩, .int .u8 38, .bool true] := by
    obtain ⟨f', d, q, h1, h2⟩ := Lib.array_elem Tryz.underlying139 hd 0 (by omega)
    rw [hc3] at h2
    obtain rfl : namedData [97, 109, 112] 38 true = d := Option.some.inj h1
    exact ent_named h2
  have k1 : (cs.toList.drop 3).take 3 = [.string ⟨#[108, 116]⟩, .int .u8 60, .bool true] := by
    obtain ⟨f', d, q, h1, h2⟩ := Lib.array_elem Tryz.underlying139 hd 1 (by omega)
    rw [hc3] at h2
    obtain rfl : namedData [108, 116] 60 true = d := Option.some.inj h1
    exact ent_named h2
  have k2 : (cs.toList.drop 6).take 3 = [.string ⟨#[103, 116]⟩, .int .u8 62, .bool true] := by
    obtain ⟨f', d, q, h1, h2⟩ := Lib.array_elem Tryz.underlying139 hd 2 (by omega)
    rw [hc3] at h2
    obtain rfl : namedData [103, 116] 62 true = d := Option.some.inj h1
    exact ent_named h2
  have k3 : (cs.toList.drop 9).take 3 = [.string ⟨#[113, 117, 111, 116]⟩, .int .u8 34, .bool true] := by
    obtain ⟨f', d, q, h1, h2⟩ := Lib.array_elem Tryz.underlying139 hd 3 (by omega)
    rw [hc3] at h2
    obtain rfl : namedData [113, 117, 111, 116] 34 true = d := Option.some.inj h1
    exact ent_named h2
  have k4 : (cs.toList.drop 12).take 3 = [.string ⟨#[97, 112, 111, 115]⟩, .int .u8 39, .bool false] := by
    obtain ⟨f', d, q, h1, h2⟩ := Lib.array_elem Tryz.underlying139 hd 4 (by omega)
    rw [hc3] at h2
    obtain rfl : namedData [97, 112, 111, 115] 39 false = d := Option.some.inj h1
    exact ent_named h2
  have hlen : cs.toList.length = 15 := by
    cases fuel with
    | zero => simp [DataW.trod] at hd
    | succ fuel =>
      unfold DataW.trod at hd
      simp only [Tryz.underlying139] at hd
      split at hd
      · rename_i hl
        exact hl.trans (by kernel_rfl)
      · cases hd
  have hcs : cs = nameCells := by
    obtain ⟨L⟩ := cs
    simp only at hlen k0 k1 k2 k3 k4
    match L, hlen with
    | [a0, a1, a2, a3, a4, a5, a6, a7, a8, a9, a10, a11, a12, a13, a14], _ =>
      simp at k0 k1 k2 k3 k4
      obtain ⟨rfl, rfl, rfl⟩ := k0
      obtain ⟨rfl, rfl, rfl⟩ := k1
      obtain ⟨rfl, rfl, rfl⟩ := k2
      obtain ⟨rfl, rfl, rfl⟩ := k3
      obtain ⟨rfl, rfl, rfl⟩ := k4
      rfl
  subst hcs
  unfold World.var? at hv
  rw [hg'] at hv
  simp only [Option.bind_some] at hv
  split at hv
  · rename_i cs' t fr heq
    obtain rfl := Option.some.inj hv
    exact ⟨t, fr, heq⟩
  · cases hv
theorem ent_syn {W : World} (h : Lib.VarReads Tryz.prog W "strconv.ErrSyntax" synData) : ∃ te pe, W.cell? ⟨8, 0, none⟩ = some (.iface te pe) := by
  obtain ⟨g, t, cs, fuel, p, hg, ht, hv, hd⟩ := h
  have hg' : Tryz.prog.globalNamed "strconv.ErrSyntax" = some 8 := by kernel_rfl
  obtain rfl := Option.some.inj (hg'.symm.trans hg)
  have ht' : (Tryz.prog.globals[8]?).map (·.type) = some 104 := by kernel_rfl
  obtain rfl := Option.some.inj (ht'.symm.trans ht)
  obtain ⟨f', u, v, hc, _, _⟩ := iface_of_trod Tryz.underlying104 hd
  refine ⟨u, v, ?_⟩
  have := World.var?_cell hg' hv 0
  rw [this, ← Array.getElem?_toList, hc]; rfl
/-- What the walks of entity ask. -/
theorem entV_of {W : World} (hsh : W.ShapedOpen Tryz.prog) (h1 : Lib.VarReads Tryz.prog W "galliard/entity.names" namesData) (h2 : Lib.VarReads Tryz.prog W "galliard/entity.bases" basesData) (h3 : Lib.VarReads Tryz.prog W "strconv.ErrSyntax" synData) : EntV W := by
  have hb := ent_bases h2
  have hg : Tryz.prog.globalNamed "galliard/entity.bases" = some 5 := by kernel_rfl
  exact ⟨ent_names h1, hb.cell hg 0 (by decide), hb.cell hg 1 (by decide), ent_syn h3, Tryz.laysM145.s1_3 W hsh⟩

end Go.Proofs.YtincdacickhdkaaGreatDoor

namespace Go.Proofs.YtincdacickhdkaaGreatDoor
open Go Go.RowKit Go.ChangeShapes Go.Deep
set_option maxRecDepth 100000

theorem ncell_lt {w : World} {b o : Nat} {v : Value} (h : w.cell? ⟨b, o, none⟩ = some v) : b < w.heap.size := World.block_lt_of_cell? w _ h
/-- Elements one by one are a list of them. -/
theorem nodes_list {P : Nat → Prop} {w : World} {c : Nat → Nat → Value} : ∀ m : Nat, (∀ j, j < m → ∃ x, NodeV P w (.agg #[c j 0, c j 1, c j 2, c j 3, c j 4]) x) → ∃ K : List Nd, K.length = m ∧ ∀ j (h : j < K.length), NodeV P w (.agg #[c j 0, c j 1, c j 2, c j 3, c j 4]) (K[j]'h)
  | 0, _ => ⟨[], rfl, fun j h => absurd h (Nat.not_lt_zero j)⟩
  | m + 1, h => by
    obtain ⟨K, hl, hK⟩ := nodes_list m fun j hj => h j (by omega)
    obtain ⟨x, hx⟩ := h m (by omega)
    refine ⟨K ++ [x], by rw [List.length_append, hl]; rfl, fun j hj => ?_⟩
    by_cases hjm : j < K.length
    · rw [List.getElem_append_left hjm]; exact hK j hjm
    · have e : j = m := by rw [List.length_append] at hj; have : ([x] : List Nd).length = 1 := rfl; omega
      subst e
      rw [List.getElem_append_right (by omega)]
      simp only [List.getElem_singleton]
      exact hx
/-- Attributes one by one are a list of them. -/
theorem atts_list {w : World} {b off : Nat} : ∀ m : Nat, (∀ j, j < m → ∃ n v : ByteArray, w.cell? ⟨b, off + j * 2, none⟩ = some (.string n) ∧ w.cell? ⟨b, off + j * 2 + 1, none⟩ = some (.string v)) →
    ∃ A : List Att, A.length = m ∧ ∀ j (h : j < A.length), w.cell? ⟨b, off + j * 2, none⟩ = some (.string (A[j]'h).1) ∧ w.cell? ⟨b, off + j * 2 + 1, none⟩ = some (.string (A[j]'h).2)
  | 0, _ => ⟨[], rfl, fun j h => absurd h (Nat.not_lt_zero j)⟩
  | m + 1, h => by
    obtain ⟨A, hl, hA⟩ := atts_list m fun j hj => h j (by omega)
    obtain ⟨n, v, hx⟩ := h m (by omega)
    refine ⟨A ++ [(n, v)], by rw [List.length_append, hl]; rfl, fun j hj => ?_⟩
    by_cases hjm : j < A.length
    · rw [List.getElem_append_left hjm]; exact hA j hjm
    · have e : j = m := by rw [List.length_append] at hj; have : ([(n, v)] : List Att).length = 1 := rfl; omega
      subst e
      rw [List.getElem_append_right (by omega)]
      simp only [List.getElem_singleton]
      exact hx
theorem cells_five {cs : List Value} (h : cs.length = 5) : ∃ a b c d e, cs = [a, b, c, d, e] := by
  match cs, h with
  | [a, b, c, d, e], _ => exact ⟨a, b, c, d, e, rfl⟩
theorem atts_trod {H : Type} {enc : TypeId × Value → H} {W : World} {fuel : Nat} {c : Value} {x : DataW H × List MemPlace} (h : DataW.trod enc Tryz.prog W 0 (fun _ => true) true fuel 22 [c] = some x) : ∃ A, AttV (fun _ => True) W c A := by
  rcases open_slice Tryz.underlying22 h with ⟨hcs, hx⟩ | ⟨a, len, cap, m, nn, D, Pl, hcs, _, hl, hm, hmm, hx, hi⟩
  · simp at hcs
    exact ⟨[], none, 0, hcs, fun h => absurd h (Nat.lt_irrefl _)⟩
  · simp at hcs
    subst hcs
    simp only [if_true] at hmm
    have hC : Tryz.prog.cellsOf 48 = 2 := by kernel_rfl
    have hone : Tryz.prog.cellsOf 9 = 1 := by kernel_rfl
    have hget : ∀ i, i < len → ∀ q, q < 2 → ∃ z : ByteArray, W.cell? ((a.add (i * 2)).add q) = some (.string z) := fun i hin q hq => by
      obtain ⟨cs', h1, h2⟩ := hi i (by omega)
      rw [hC] at h1
      obtain ⟨ys, n', _, _, hlen, hyl, hfl⟩ := DataW.trod_struct Tryz.underlying48 h2
      obtain ⟨_, hcl, hat⟩ := World.cells?_some h1
      obtain ⟨y0, y1, rfl⟩ : ∃ y0 y1, ys = [y0, y1] := by
        match ys, hyl with
        | [y0, y1], _ => exact ⟨y0, y1, rfl⟩
      have e0 := hfl 0 _ rfl
      have e1 := hfl 1 _ rfl
      change DataW.trod enc Tryz.prog W 0 (fun _ => true) true n' 9 ((cs'.drop 0).take (Tryz.prog.cellsOf 9)) = some y0 at e0
      change DataW.trod enc Tryz.prog W 0 (fun _ => true) true n' 9 ((cs'.drop 1).take (Tryz.prog.cellsOf 9)) = some y1 at e1
      rw [hone] at e0 e1
      obtain ⟨z0, hz0, _, _⟩ := DataW.trod_string Tryz.underlying9 e0
      obtain ⟨z1, hz1, _, _⟩ := DataW.trod_string Tryz.underlying9 e1
      obtain ⟨c0, c1, rfl⟩ : ∃ c0 c1, cs' = [c0, c1] := by
        match cs', hcl with
        | [c0, c1], _ => exact ⟨c0, c1, rfl⟩
      simp at hz0 hz1
      subst hz0 hz1
      have hc := hat q hq
      match q, hq with
      | 0, _ => exact ⟨z0, hc⟩
      | 1, _ => exact ⟨z1, hc⟩
    by_cases hpos : 0 < len
    · obtain ⟨b, off, spot⟩ := a
      obtain ⟨zz, hzz⟩ := hget 0 hpos 0 (by decide)
      have hspot : spot = none := by simpa [Addr.add] using World.cell?_spot hzz
      subst hspot
      have hc : ∀ i, i < len → ∀ q, q < 2 → ∃ z : ByteArray, W.cell? ⟨b, off + i * 2 + q, none⟩ = some (.string z) := fun i hi q hq => by
        obtain ⟨z, hz⟩ := hget i hi q hq
        rw [Go.WideShapes.add_plain, Go.WideShapes.add_plain] at hz
        exact ⟨z, hz⟩
      obtain ⟨A, hA, hAc⟩ := atts_list (w := W) (b := b) (off := off) len fun j hj => by
        obtain ⟨n, hn⟩ := hc j hj 0 (by decide)
        obtain ⟨v, hv⟩ := hc j hj 1 (by decide)
        exact ⟨n, v, hn, hv⟩
      obtain ⟨z0, hz0⟩ := hc 0 hpos 0 (by decide)
      exact ⟨A, some ⟨b, off, none⟩, cap, by rw [hA], fun _ => ⟨b, off, rfl, trivial, ncell_lt hz0, hAc⟩⟩
    · have e : len = 0 := by omega
      subst e
      exact ⟨[], some a, cap, rfl, fun h => absurd h (Nat.lt_irrefl _)⟩
theorem node_trod {H : Type} {enc : TypeId × Value → H} {W : World} : ∀ (f fuel : Nat), fuel ≤ f → ∀ (cs : List Value) (x : DataW H × List MemPlace), DataW.trod enc Tryz.prog W 0 (fun _ => true) true fuel 25 cs = some x →
    ∃ (c0 c1 c2 c3 c4 : Value) (X : Nd), cs = [c0, c1, c2, c3, c4] ∧ NodeV (fun _ => True) W (.agg #[c0, c1, c2, c3, c4]) X
  | 0, fuel, hf, cs, x, h => by
    obtain ⟨ys, n', hfu, _⟩ := DataW.trod_struct Tryz.underlying25 h
    omega
  | f + 1, fuel, hf, cs, x, h => by
    obtain ⟨ys, n', hfu, _, hlen, hyl, hfl⟩ := DataW.trod_struct Tryz.underlying25 h
    have hC : Tryz.prog.cellsOf 25 = 5 := by kernel_rfl
    have h1s : Tryz.prog.cellsOf 9 = 1 := by kernel_rfl
    have h1a : Tryz.prog.cellsOf 22 = 1 := by kernel_rfl
    have h1n : Tryz.prog.cellsOf 23 = 1 := by kernel_rfl
    rw [hC] at hlen
    obtain ⟨c0, c1, c2, c3, c4, rfl⟩ := cells_five hlen
    obtain ⟨y0, y1, y2, y3, y4, rfl⟩ : ∃ y0 y1 y2 y3 y4, ys = [y0, y1, y2, y3, y4] := by
      match ys, hyl with
      | [y0, y1, y2, y3, y4], _ => exact ⟨y0, y1, y2, y3, y4, rfl⟩
    have e0 := hfl 0 _ rfl
    have e1 := hfl 1 _ rfl
    have e2 := hfl 2 _ rfl
    have e3 := hfl 3 _ rfl
    have e4 := hfl 4 _ rfl
    change DataW.trod enc Tryz.prog W 0 (fun _ => true) true n' 9 (([c0, c1, c2, c3, c4].drop 0).take (Tryz.prog.cellsOf 9)) = some y0 at e0
    change DataW.trod enc Tryz.prog W 0 (fun _ => true) true n' 9 (([c0, c1, c2, c3, c4].drop 1).take (Tryz.prog.cellsOf 9)) = some y1 at e1
    change DataW.trod enc Tryz.prog W 0 (fun _ => true) true n' 22 (([c0, c1, c2, c3, c4].drop 2).take (Tryz.prog.cellsOf 22)) = some y2 at e2
    change DataW.trod enc Tryz.prog W 0 (fun _ => true) true n' 23 (([c0, c1, c2, c3, c4].drop 3).take (Tryz.prog.cellsOf 23)) = some y3 at e3
    change DataW.trod enc Tryz.prog W 0 (fun _ => true) true n' 9 (([c0, c1, c2, c3, c4].drop 4).take (Tryz.prog.cellsOf 9)) = some y4 at e4
    rw [h1s] at e0 e1 e4
    rw [h1a] at e2
    rw [h1n] at e3
    simp only [List.drop_zero, List.drop_succ_cons, List.take_succ_cons, List.take_zero] at e0 e1 e2 e3 e4
    obtain ⟨s0, hs0, _, _⟩ := DataW.trod_string Tryz.underlying9 e0
    obtain ⟨s1, hs1, _, _⟩ := DataW.trod_string Tryz.underlying9 e1
    obtain ⟨s4, hs4, _, _⟩ := DataW.trod_string Tryz.underlying9 e4
    simp at hs0 hs1 hs4
    subst hs0 hs1 hs4
    obtain ⟨A, hA⟩ := atts_trod e2
    refine ⟨.string s0, .string s1, c2, c3, .string s4, ?_⟩
    rcases DataW.trod_slice Tryz.underlying23 e3 with ⟨hcs, _⟩ | ⟨a, len, cap, elems, rest, n2, hn2, hcs, _, _, hl, hm, hel, hi, _⟩
    · simp at hcs
      subst hcs
      exact ⟨.mk s0 s1 A [] s4, rfl, .mk s0 s1 s4 A [] c2 none 0 (fun _ _ => undef) hA (fun h => absurd h (Nat.lt_irrefl _)) (fun j h => absurd h (Nat.not_lt_zero j))⟩
    · simp at hcs
      subst hcs
      rw [hC] at hi
      have hnode : ∀ j, j < len → ∃ c0 c1 c2 c3 c4 X, NodeV (fun _ => True) W (.agg #[c0, c1, c2, c3, c4]) X ∧ ∀ q, q < 5 → W.cell? ((a.add (j * 5)).add q) = [c0, c1, c2, c3, c4][q]? := fun j hj => by
        have h1 := hi j hj
        rw [List.getElem?_eq_getElem (by omega), Option.bind_eq_some_iff] at h1
        obtain ⟨cs', h2, h3⟩ := h1
        obtain ⟨_, hcl, hat⟩ := World.cells?_some h2
        obtain ⟨d0, d1, d2, d3, d4, X, rfl, hX⟩ := node_trod f n2 (by omega) cs' _ h3
        exact ⟨d0, d1, d2, d3, d4, X, hX, hat⟩
      by_cases hpos : 0 < len
      · obtain ⟨b, off, spot⟩ := a
        have hspot : spot = none := by
          obtain ⟨d0, d1, d2, d3, d4, X, _, hq⟩ := hnode 0 hpos
          have := hq 0 (by decide)
          simpa [Addr.add] using World.cell?_spot this
        subst hspot
        have hcell : ∀ j, j < len → ∃ X, NodeV (fun _ => True) W (.agg #[(W.cell? ⟨b, off + j * 5 + 0, none⟩).getD undef, (W.cell? ⟨b, off + j * 5 + 1, none⟩).getD undef, (W.cell? ⟨b, off + j * 5 + 2, none⟩).getD undef, (W.cell? ⟨b, off + j * 5 + 3, none⟩).getD undef, (W.cell? ⟨b, off + j * 5 + 4, none⟩).getD undef]) X ∧
            ∀ q, q < 5 → W.cell? ⟨b, off + j * 5 + q, none⟩ = some ((W.cell? ⟨b, off + j * 5 + q, none⟩).getD undef) := fun j hj => by
          obtain ⟨d0, d1, d2, d3, d4, X, hX, hq⟩ := hnode j hj
          have hq' : ∀ q, q < 5 → W.cell? ⟨b, off + j * 5 + q, none⟩ = [d0, d1, d2, d3, d4][q]? := fun q h => by
            have := hq q h
            rw [Go.WideShapes.add_plain, Go.WideShapes.add_plain] at this
            exact this
          refine ⟨X, ?_, fun q h => ?_⟩
          · rw [hq' 0 (by decide), hq' 1 (by decide), hq' 2 (by decide), hq' 3 (by decide), hq' 4 (by decide)]
            exact hX
          · rw [hq' q h]
            match q, h with
            | 0, _ => rfl
            | 1, _ => rfl
            | 2, _ => rfl
            | 3, _ => rfl
            | 4, _ => rfl
        obtain ⟨K, hK, hKn⟩ := nodes_list (P := fun _ => True) (w := W) (c := fun j q => (W.cell? ⟨b, off + j * 5 + q, none⟩).getD undef) len fun j hj => by
          obtain ⟨X, hX, _⟩ := hcell j hj
          exact ⟨X, hX⟩
        subst hK
        refine ⟨.mk s0 s1 A K s4, rfl, .mk s0 s1 s4 A K c2 (some ⟨b, off, none⟩) cap (fun j q => (W.cell? ⟨b, off + j * 5 + q, none⟩).getD undef) hA (fun _ => ⟨b, off, rfl, trivial, ?_, fun j hj q hq => ?_⟩) hKn⟩
        · obtain ⟨_, _, hc⟩ := hcell 0 hpos
          exact ncell_lt (hc 0 (by decide))
        · obtain ⟨_, _, hc⟩ := hcell j hj
          exact hc q hq
      · have e : len = 0 := by omega
        subst e
        exact ⟨.mk s0 s1 A [] s4, rfl, .mk s0 s1 s4 A [] c2 (some a) cap (fun _ _ => undef) hA (fun h => absurd h (Nat.lt_irrefl _)) (fun j h => absurd h (Nat.not_lt_zero j))⟩
theorem okWide_arr {P : Program} {w : World} {r : Reach} {base n : Nat} {t e : TypeId} {v : Value} (ht : P.underlying t = some (.array n e)) (h : Value.okWide P w r base t v) : ∃ cs, v = .agg cs := by
  unfold Value.okWide at h
  rw [ht] at h
  obtain ⟨cs, h, _⟩ := h
  exact ⟨cs, h⟩
/-- An element that was handed in. -/
theorem node_open {H : Type} {enc : TypeId × Value → H} {W : World} {cs : Array Value} {d : DataW H} {p : List MemPlace} (h : DataW.Trod enc Tryz.prog W 0 (fun _ => true) true 25 (.agg cs) d p) : ∃ X, NodeV (fun _ => True) W (.agg cs) X := by
  obtain ⟨fuel, hf⟩ := h
  obtain ⟨c0, c1, c2, c3, c4, X, hcs, hX⟩ := node_trod fuel fuel (Nat.le_refl _) _ _ hf
  have e : cs = #[c0, c1, c2, c3, c4] := by
    have : cs.toList = [c0, c1, c2, c3, c4] := hcs
    rw [← Array.toArray_toList (xs := cs), this]
  exact ⟨X, by rw [e]; exact hX⟩
/-- A pair of numbers that was handed in. -/
theorem two_open {H : Type} {enc : TypeId × Value → H} {W : World} {cs : Array Value} {d : DataW H} {p : List MemPlace} (h : DataW.Trod enc Tryz.prog W 0 (fun _ => true) true 43 (.agg cs) d p) : ∃ a b : Int, Value.agg cs = .agg #[.int .i64 a, .int .i64 b] := by
  obtain ⟨fuel, hf⟩ := h
  obtain ⟨xs, m, _, _, hlen, hxl, hx⟩ := DataW.trod_array Tryz.underlying43 hf
  have hone : Tryz.prog.cellsOf 3 = 1 := by kernel_rfl
  have hC : Tryz.prog.cellsOf 43 = 2 := by kernel_rfl
  rw [hone] at hx
  rw [hC] at hlen
  obtain ⟨x0, x1, rfl⟩ : ∃ x0 x1, xs = [x0, x1] := by
    match xs, hxl with
    | [x0, x1], _ => exact ⟨x0, x1, rfl⟩
  obtain ⟨z0, hz0, _, _⟩ := DataW.trod_int Tryz.underlying3 (hx 0 (by decide))
  obtain ⟨z1, hz1, _, _⟩ := DataW.trod_int Tryz.underlying3 (hx 1 (by decide))
  have hl : cs.toList.length = 2 := hlen
  obtain ⟨c0, c1, hcs⟩ : ∃ c0 c1, cs.toList = [c0, c1] := by
    match hh : cs.toList, hl with
    | [c0, c1], _ => exact ⟨c0, c1, rfl⟩
  have hcs' : (Value.agg cs).cells.toList = [c0, c1] := hcs
  rw [hcs'] at hz0 hz1
  simp at hz0 hz1
  refine ⟨z0, z1, ?_⟩
  rw [← Array.toArray_toList (xs := cs), hcs, hz0, hz1]

end Go.Proofs.YtincdacickhdkaaGreatDoor
