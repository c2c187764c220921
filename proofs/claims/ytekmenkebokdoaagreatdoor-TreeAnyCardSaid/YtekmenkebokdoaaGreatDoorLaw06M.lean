/-
  The walks of layer 6's laws galliardlaw06.awake and TreeBad.
-/
import Derived.Test.YtekmenkebokdoaaGreatDoorTreeTop
namespace Go.Proofs.YtekmenkebokdoaaGreatDoor
open Go Go.RowKit
set_option maxRecDepth 100000

theorem dparse_ok (s : ByteArray) (x : Nd) (h : parseL (bl s) = .ok x) (w : World) (hE : EntV w) (hT : Tabs w) (hs : s.size ≤ 4000000000) :
    Calls Tryz.prog 9 #[.string s] w fun r w' => ∃ v, r = .returned (.tuple #[v, .int .i64 0, .int .i64 0]) ∧ NodeV (NB w.heap.size none w') w' v x ∧ Below w.heap.size w w' := by
  refine (dparse s w hE hT hs).mono ?_
  rintro r w' ⟨h1 | h1, hb⟩
  · obtain ⟨e, a, h2, _⟩ := h1; rw [h] at h2; cases h2
  · obtain ⟨y, v, h2, h3, h4⟩ := h1; rw [h] at h2; cases h2; exact ⟨v, h3, h4, hb⟩
theorem dparse_bad (s : ByteArray) (e a : Int) (h : parseL (bl s) = .bad e a) (w : World) (hE : EntV w) (hT : Tabs w) (hs : s.size ≤ 4000000000) :
    Calls Tryz.prog 9 #[.string s] w fun r w' => r = .returned (.tuple #[.agg #[.string ⟨#[]⟩, .string ⟨#[]⟩, .slice none 0 0, .slice none 0 0, .string ⟨#[]⟩], .int .i64 a, .int .i64 e]) ∧ Below w.heap.size w w' := by
  refine (dparse s w hE hT hs).mono ?_
  rintro r w' ⟨h1 | h1, hb⟩
  · obtain ⟨e', a', h2, h3⟩ := h1; rw [h] at h2; cases h2; exact ⟨h3, hb⟩
  · obtain ⟨y, v, h2, _⟩ := h1; rw [h] at h2; cases h2
set_option maxHeartbeats 4000000 in
theorem awake06 (w : World) (hE : EntV w) (hT : Tabs w) :
    Calls Tryz.prog 12 #[] w fun e w' => e = .returned (.bool true) ∧ Below w.heap.size w w' := by
  have C1 := Lib.hid (dparse_ok ⟨#[60, 97, 62, 32, 98, 32, 60, 47, 97, 62]⟩ _ awake06a w hE hT (by decide))
  have HE := Lib.hid hE
  have HT := Lib.hid hT
  clear hE hT
  go_enter Tryz.func12, Tryz.ntmps12
  go_wp2_with fail
  refine C1.out.mono ?_
  rintro r w1 ⟨v, rfl, hv, hb1⟩
  obtain ⟨ao, n, cap, a2, n2, c2, rfl⟩ : ∃ ao n cap a2 n2 c2, v = .agg #[.string ⟨#[]⟩, .string ⟨#[97]⟩, .slice ao n cap, .slice a2 n2 c2, .string ⟨#[98]⟩] := by
    cases hv with
    | mk sp nm tx A K va ao cap c ha hk hn => obtain ⟨a1, c1, rfl, _⟩ := ha; exact ⟨_, _, _, _, _, _, rfl⟩
  have hA := hb1.alloc hb1.size (.cells #[.string ⟨#[]⟩, .string ⟨#[97]⟩, .slice ao n cap, .slice a2 n2 c2, .string ⟨#[98]⟩] 25)
  have HA := Lib.hid hA
  have C2 := Lib.hid (dparse_bad ⟨#[60, 97, 62, 60, 98, 62, 60, 47, 97, 62]⟩ _ _ awake06b _ (HE.out.below hA) (HT.out.below hA) (by decide))
  have hX := heap_alloc_new w1 (.cells #[.string ⟨#[]⟩, .string ⟨#[97]⟩, .slice ao n cap, .slice a2 n2 c2, .string ⟨#[98]⟩] 25)
  have HX := Lib.hid hX
  have HXl := Lib.hid (show w1.heap.size < (w1.alloc (.cells #[.string ⟨#[]⟩, .string ⟨#[97]⟩, .slice ao n cap, .slice a2 n2 c2, .string ⟨#[98]⟩] 25)).heap.size by simp)
  clear hv hb1 hA hX C1
  go_wp2_with fail
  refine C2.out.mono ?_
  rintro r w2 ⟨rfl, hb2⟩
  have hb2' := hb2.alloc hb2.size (.cells #[.string ⟨#[]⟩, .string ⟨#[]⟩, .slice none 0 0, .slice none 0 0, .string ⟨#[]⟩] 25)
  have HB := Lib.hid (HA.out.trans (hb2'.mono HA.out.size))
  have k1 := (hb2'.cell (p := ⟨w1.heap.size, 1, none⟩) HXl.out).trans (Lib.cell_of_heap HX.out 1)
  have k4 := (hb2'.cell (p := ⟨w1.heap.size, 4, none⟩) HXl.out).trans (Lib.cell_of_heap HX.out 4)
  simp only [List.getElem?_toArray, List.getElem?_cons_zero, List.getElem?_cons_succ] at k1 k4
  clear hb2 hb2' C2
  go_wp2
  go_ret
  exact ⟨rfl, HB.out⟩

/-! ### TreeBad -/
def tS (k : Nat) : ByteArray := match k with
  | 0 => ⟨#[]⟩
  | 1 => ⟨#[97]⟩
  | 2 => ⟨#[60, 97, 62]⟩
  | 3 => ⟨#[60, 97, 47, 62, 60, 98, 47, 62]⟩
  | 4 => ⟨#[60, 97, 62, 60, 47, 98, 62]⟩
  | 5 => ⟨#[60, 97, 62, 120, 60, 98, 47, 62, 60, 47, 97, 62]⟩
  | 6 => ⟨#[60, 112, 58, 97, 47, 62]⟩
  | 7 => ⟨#[60, 97, 32, 112, 58, 98, 61, 39, 39, 47, 62]⟩
  | 8 => ⟨#[60, 47, 97, 62]⟩
  | 9 => ⟨#[60, 97, 47, 62, 120]⟩
  | 10 => ⟨#[60, 97, 32, 120, 109, 108, 110, 115, 58, 112, 61, 39, 39, 47, 62]⟩
  | 11 => ⟨#[60, 97, 62, 38, 60, 47, 97, 62]⟩
  | 12 => ⟨#[60, 97, 32, 120, 109, 108, 110, 115, 58, 120, 109, 108, 61, 39, 117, 39, 47, 62]⟩
  | 13 => ⟨#[60, 97, 32, 98, 61, 39, 49, 39, 32, 98, 61, 39, 50, 39, 47, 62]⟩
  | 14 => ⟨#[60, 97, 62, 60, 98, 62]⟩
  | _ => ⟨#[60, 97, 62, 0, 60, 47, 97, 62]⟩
def tA (k : Nat) : Int := match k with
  | 0 => 0
  | 1 => 0
  | 2 => 3
  | 3 => 4
  | 4 => 3
  | 5 => 0
  | 6 => 0
  | 7 => 0
  | 8 => 0
  | 9 => 4
  | 10 => 0
  | 11 => 3
  | 12 => 0
  | 13 => 9
  | 14 => 6
  | _ => 3
def tE (k : Nat) : Int := match k with
  | 0 => 3
  | 1 => 3
  | 2 => 3
  | 3 => 3
  | 4 => 3
  | 5 => 3
  | 6 => 3
  | 7 => 3
  | 8 => 3
  | 9 => 3
  | 10 => 3
  | 11 => 3
  | 12 => 3
  | 13 => 7
  | 14 => 3
  | _ => 3
theorem bad06 (k : Nat) (hk : k < 16) : parseL (bl (tS k)) = .bad (tE k) (tA k) := by
  match k, hk with
  | 0, _ => exact (show parseL (bl (tS 0)) = Res.bad (tE 0) (tA 0) by kernel_rfl)
  | 1, _ => exact (show parseL (bl (tS 1)) = Res.bad (tE 1) (tA 1) by kernel_rfl)
  | 2, _ => exact (show parseL (bl (tS 2)) = Res.bad (tE 2) (tA 2) by kernel_rfl)
  | 3, _ => exact (show parseL (bl (tS 3)) = Res.bad (tE 3) (tA 3) by kernel_rfl)
  | 4, _ => exact (show parseL (bl (tS 4)) = Res.bad (tE 4) (tA 4) by kernel_rfl)
  | 5, _ => exact (show parseL (bl (tS 5)) = Res.bad (tE 5) (tA 5) by kernel_rfl)
  | 6, _ => exact (show parseL (bl (tS 6)) = Res.bad (tE 6) (tA 6) by kernel_rfl)
  | 7, _ => exact (show parseL (bl (tS 7)) = Res.bad (tE 7) (tA 7) by kernel_rfl)
  | 8, _ => exact (show parseL (bl (tS 8)) = Res.bad (tE 8) (tA 8) by kernel_rfl)
  | 9, _ => exact (show parseL (bl (tS 9)) = Res.bad (tE 9) (tA 9) by kernel_rfl)
  | 10, _ => exact (show parseL (bl (tS 10)) = Res.bad (tE 10) (tA 10) by kernel_rfl)
  | 11, _ => exact (show parseL (bl (tS 11)) = Res.bad (tE 11) (tA 11) by kernel_rfl)
  | 12, _ => exact (show parseL (bl (tS 12)) = Res.bad (tE 12) (tA 12) by kernel_rfl)
  | 13, _ => exact (show parseL (bl (tS 13)) = Res.bad (tE 13) (tA 13) by kernel_rfl)
  | 14, _ => exact (show parseL (bl (tS 14)) = Res.bad (tE 14) (tA 14) by kernel_rfl)
  | 15, _ => exact (show parseL (bl (tS 15)) = Res.bad (tE 15) (tA 15) by kernel_rfl)
  | k + 16, h => exact absurd h (by omega)
theorem tS_cell (k : Nat) (hk : k < 16) : (#[.string ⟨#[]⟩, .string ⟨#[97]⟩, .string ⟨#[60, 97, 62]⟩, .string ⟨#[60, 97, 47, 62, 60, 98, 47, 62]⟩, .string ⟨#[60, 97, 62, 60, 47, 98, 62]⟩, .string ⟨#[60, 97, 62, 120, 60, 98, 47, 62, 60, 47, 97, 62]⟩, .string ⟨#[60, 112, 58, 97, 47, 62]⟩, .string ⟨#[60, 97, 32, 112, 58, 98, 61, 39, 39, 47, 62]⟩, .string ⟨#[60, 47, 97, 62]⟩, .string ⟨#[60, 97, 47, 62, 120]⟩, .string ⟨#[60, 97, 32, 120, 109, 108, 110, 115, 58, 112, 61, 39, 39, 47, 62]⟩, .string ⟨#[60, 97, 62, 38, 60, 47, 97, 62]⟩, .string ⟨#[60, 97, 32, 120, 109, 108, 110, 115, 58, 120, 109, 108, 61, 39, 117, 39, 47, 62]⟩, .string ⟨#[60, 97, 32, 98, 61, 39, 49, 39, 32, 98, 61, 39, 50, 39, 47, 62]⟩, .string ⟨#[60, 97, 62, 60, 98, 62]⟩, .string ⟨#[60, 97, 62, 0, 60, 47, 97, 62]⟩] : Array Value)[k]? = some (.string (tS k)) := by
  match k, hk with
  | 0, _ => rfl
  | 1, _ => rfl
  | 2, _ => rfl
  | 3, _ => rfl
  | 4, _ => rfl
  | 5, _ => rfl
  | 6, _ => rfl
  | 7, _ => rfl
  | 8, _ => rfl
  | 9, _ => rfl
  | 10, _ => rfl
  | 11, _ => rfl
  | 12, _ => rfl
  | 13, _ => rfl
  | 14, _ => rfl
  | 15, _ => rfl
  | k + 16, h => exact absurd h (by omega)
theorem tA_cell (k : Nat) (hk : k < 16) : (#[.int .i64 0, .int .i64 0, .int .i64 3, .int .i64 4, .int .i64 3, .int .i64 0, .int .i64 0, .int .i64 0, .int .i64 0, .int .i64 4, .int .i64 0, .int .i64 3, .int .i64 0, .int .i64 9, .int .i64 6, .int .i64 3] : Array Value)[k]? = some (.int .i64 (tA k)) := by
  match k, hk with
  | 0, _ => rfl
  | 1, _ => rfl
  | 2, _ => rfl
  | 3, _ => rfl
  | 4, _ => rfl
  | 5, _ => rfl
  | 6, _ => rfl
  | 7, _ => rfl
  | 8, _ => rfl
  | 9, _ => rfl
  | 10, _ => rfl
  | 11, _ => rfl
  | 12, _ => rfl
  | 13, _ => rfl
  | 14, _ => rfl
  | 15, _ => rfl
  | k + 16, h => exact absurd h (by omega)
theorem tE_cell (k : Nat) (hk : k < 16) : (#[.int .i64 3, .int .i64 3, .int .i64 3, .int .i64 3, .int .i64 3, .int .i64 3, .int .i64 3, .int .i64 3, .int .i64 3, .int .i64 3, .int .i64 3, .int .i64 3, .int .i64 3, .int .i64 7, .int .i64 3, .int .i64 3] : Array Value)[k]? = some (.int .i64 (tE k)) := by
  match k, hk with
  | 0, _ => rfl
  | 1, _ => rfl
  | 2, _ => rfl
  | 3, _ => rfl
  | 4, _ => rfl
  | 5, _ => rfl
  | 6, _ => rfl
  | 7, _ => rfl
  | 8, _ => rfl
  | 9, _ => rfl
  | 10, _ => rfl
  | 11, _ => rfl
  | 12, _ => rfl
  | 13, _ => rfl
  | 14, _ => rfl
  | 15, _ => rfl
  | k + 16, h => exact absurd h (by omega)
theorem tS_len (k : Nat) (hk : k < 16) : (tS k).size ≤ 4000000000 := by
  match k, hk with
  | 0, _ => decide
  | 1, _ => decide
  | 2, _ => decide
  | 3, _ => decide
  | 4, _ => decide
  | 5, _ => decide
  | 6, _ => decide
  | 7, _ => decide
  | 8, _ => decide
  | 9, _ => decide
  | 10, _ => decide
  | 11, _ => decide
  | 12, _ => decide
  | 13, _ => decide
  | 14, _ => decide
  | 15, _ => decide
  | k + 16, h => exact absurd h (by omega)
set_option maxHeartbeats 4000000 in
theorem bad06_any (n : Int) (w : World) (hE : EntV w) (hT : Tabs w) :
    Calls Tryz.prog 4 #[.int .i64 n] w fun e w' => e = .returned (.bool true) ∧ Below w.heap.size w w' := by
  obtain ⟨k, hk, hn⟩ := mask_i64 n 4 (by decide) 15 (by decide)
  have hk' : (k : Int) < 16 := by omega
  have hb1 := (Below.refl w.heap.size w).alloc (Nat.le_refl _) (.cells #[.string ⟨#[]⟩, .string ⟨#[97]⟩, .string ⟨#[60, 97, 62]⟩, .string ⟨#[60, 97, 47, 62, 60, 98, 47, 62]⟩, .string ⟨#[60, 97, 62, 60, 47, 98, 62]⟩, .string ⟨#[60, 97, 62, 120, 60, 98, 47, 62, 60, 47, 97, 62]⟩, .string ⟨#[60, 112, 58, 97, 47, 62]⟩, .string ⟨#[60, 97, 32, 112, 58, 98, 61, 39, 39, 47, 62]⟩, .string ⟨#[60, 47, 97, 62]⟩, .string ⟨#[60, 97, 47, 62, 120]⟩, .string ⟨#[60, 97, 32, 120, 109, 108, 110, 115, 58, 112, 61, 39, 39, 47, 62]⟩, .string ⟨#[60, 97, 62, 38, 60, 47, 97, 62]⟩, .string ⟨#[60, 97, 32, 120, 109, 108, 110, 115, 58, 120, 109, 108, 61, 39, 117, 39, 47, 62]⟩, .string ⟨#[60, 97, 32, 98, 61, 39, 49, 39, 32, 98, 61, 39, 50, 39, 47, 62]⟩, .string ⟨#[60, 97, 62, 60, 98, 62]⟩, .string ⟨#[60, 97, 62, 0, 60, 47, 97, 62]⟩] 9)
  have hb2 := hb1.alloc (by simp) (.cells #[.int .i64 0, .int .i64 0, .int .i64 3, .int .i64 4, .int .i64 3, .int .i64 0, .int .i64 0, .int .i64 0, .int .i64 0, .int .i64 4, .int .i64 0, .int .i64 3, .int .i64 0, .int .i64 9, .int .i64 6, .int .i64 3] 3)
  have hb3 := hb2.alloc (by simp; omega) (.cells #[.int .i64 3, .int .i64 3, .int .i64 3, .int .i64 3, .int .i64 3, .int .i64 3, .int .i64 3, .int .i64 3, .int .i64 3, .int .i64 3, .int .i64 3, .int .i64 3, .int .i64 3, .int .i64 7, .int .i64 3, .int .i64 3] 29)
  obtain ⟨R, hRe⟩ : ∃ R, w.heap.size = R := ⟨_, rfl⟩
  obtain ⟨w0, hw0⟩ : ∃ w0, ((w.alloc (.cells #[.string ⟨#[]⟩, .string ⟨#[97]⟩, .string ⟨#[60, 97, 62]⟩, .string ⟨#[60, 97, 47, 62, 60, 98, 47, 62]⟩, .string ⟨#[60, 97, 62, 60, 47, 98, 62]⟩, .string ⟨#[60, 97, 62, 120, 60, 98, 47, 62, 60, 47, 97, 62]⟩, .string ⟨#[60, 112, 58, 97, 47, 62]⟩, .string ⟨#[60, 97, 32, 112, 58, 98, 61, 39, 39, 47, 62]⟩, .string ⟨#[60, 47, 97, 62]⟩, .string ⟨#[60, 97, 47, 62, 120]⟩, .string ⟨#[60, 97, 32, 120, 109, 108, 110, 115, 58, 112, 61, 39, 39, 47, 62]⟩, .string ⟨#[60, 97, 62, 38, 60, 47, 97, 62]⟩, .string ⟨#[60, 97, 32, 120, 109, 108, 110, 115, 58, 120, 109, 108, 61, 39, 117, 39, 47, 62]⟩, .string ⟨#[60, 97, 32, 98, 61, 39, 49, 39, 32, 98, 61, 39, 50, 39, 47, 62]⟩, .string ⟨#[60, 97, 62, 60, 98, 62]⟩, .string ⟨#[60, 97, 62, 0, 60, 47, 97, 62]⟩] 9)).alloc (.cells #[.int .i64 0, .int .i64 0, .int .i64 3, .int .i64 4, .int .i64 3, .int .i64 0, .int .i64 0, .int .i64 0, .int .i64 0, .int .i64 4, .int .i64 0, .int .i64 3, .int .i64 0, .int .i64 9, .int .i64 6, .int .i64 3] 3)).alloc (.cells #[.int .i64 3, .int .i64 3, .int .i64 3, .int .i64 3, .int .i64 3, .int .i64 3, .int .i64 3, .int .i64 3, .int .i64 3, .int .i64 3, .int .i64 3, .int .i64 3, .int .i64 3, .int .i64 7, .int .i64 3, .int .i64 3] 29) = w0 := ⟨_, rfl⟩
  have h0 : w0.cell? ⟨R, k, none⟩ = some (.string (tS k)) := by
    have h : w0.heap[R]? = some (.cells #[.string ⟨#[]⟩, .string ⟨#[97]⟩, .string ⟨#[60, 97, 62]⟩, .string ⟨#[60, 97, 47, 62, 60, 98, 47, 62]⟩, .string ⟨#[60, 97, 62, 60, 47, 98, 62]⟩, .string ⟨#[60, 97, 62, 120, 60, 98, 47, 62, 60, 47, 97, 62]⟩, .string ⟨#[60, 112, 58, 97, 47, 62]⟩, .string ⟨#[60, 97, 32, 112, 58, 98, 61, 39, 39, 47, 62]⟩, .string ⟨#[60, 47, 97, 62]⟩, .string ⟨#[60, 97, 47, 62, 120]⟩, .string ⟨#[60, 97, 32, 120, 109, 108, 110, 115, 58, 112, 61, 39, 39, 47, 62]⟩, .string ⟨#[60, 97, 62, 38, 60, 47, 97, 62]⟩, .string ⟨#[60, 97, 32, 120, 109, 108, 110, 115, 58, 120, 109, 108, 61, 39, 117, 39, 47, 62]⟩, .string ⟨#[60, 97, 32, 98, 61, 39, 49, 39, 32, 98, 61, 39, 50, 39, 47, 62]⟩, .string ⟨#[60, 97, 62, 60, 98, 62]⟩, .string ⟨#[60, 97, 62, 0, 60, 47, 97, 62]⟩] 9 (0, 0)) := by
      rw [← hw0, ← hRe, Below.heap_alloc _ _ _ (by simp; omega), Below.heap_alloc _ _ _ (by simp)]; exact heap_alloc_new w _
    rw [Lib.cell_of_heap h]; exact tS_cell k hk
  have h1 : w0.cell? ⟨R + 1, k, none⟩ = some (.int .i64 (tA k)) := by
    have h : w0.heap[R + 1]? = some (.cells #[.int .i64 0, .int .i64 0, .int .i64 3, .int .i64 4, .int .i64 3, .int .i64 0, .int .i64 0, .int .i64 0, .int .i64 0, .int .i64 4, .int .i64 0, .int .i64 3, .int .i64 0, .int .i64 9, .int .i64 6, .int .i64 3] 3 (0, 0)) := by
      have := heap_alloc_new (w.alloc (.cells #[.string ⟨#[]⟩, .string ⟨#[97]⟩, .string ⟨#[60, 97, 62]⟩, .string ⟨#[60, 97, 47, 62, 60, 98, 47, 62]⟩, .string ⟨#[60, 97, 62, 60, 47, 98, 62]⟩, .string ⟨#[60, 97, 62, 120, 60, 98, 47, 62, 60, 47, 97, 62]⟩, .string ⟨#[60, 112, 58, 97, 47, 62]⟩, .string ⟨#[60, 97, 32, 112, 58, 98, 61, 39, 39, 47, 62]⟩, .string ⟨#[60, 47, 97, 62]⟩, .string ⟨#[60, 97, 47, 62, 120]⟩, .string ⟨#[60, 97, 32, 120, 109, 108, 110, 115, 58, 112, 61, 39, 39, 47, 62]⟩, .string ⟨#[60, 97, 62, 38, 60, 47, 97, 62]⟩, .string ⟨#[60, 97, 32, 120, 109, 108, 110, 115, 58, 120, 109, 108, 61, 39, 117, 39, 47, 62]⟩, .string ⟨#[60, 97, 32, 98, 61, 39, 49, 39, 32, 98, 61, 39, 50, 39, 47, 62]⟩, .string ⟨#[60, 97, 62, 60, 98, 62]⟩, .string ⟨#[60, 97, 62, 0, 60, 47, 97, 62]⟩] 9)) (.cells #[.int .i64 0, .int .i64 0, .int .i64 3, .int .i64 4, .int .i64 3, .int .i64 0, .int .i64 0, .int .i64 0, .int .i64 0, .int .i64 4, .int .i64 0, .int .i64 3, .int .i64 0, .int .i64 9, .int .i64 6, .int .i64 3] 3)
      rw [World.size_alloc, hRe] at this
      rw [← hw0, Below.heap_alloc _ _ _ (by simp; omega)]; exact this
    rw [Lib.cell_of_heap h]; exact tA_cell k hk
  have h2 : w0.cell? ⟨R + 1 + 1, k, none⟩ = some (.int .i64 (tE k)) := by
    have h : w0.heap[R + 1 + 1]? = some (.cells #[.int .i64 3, .int .i64 3, .int .i64 3, .int .i64 3, .int .i64 3, .int .i64 3, .int .i64 3, .int .i64 3, .int .i64 3, .int .i64 3, .int .i64 3, .int .i64 3, .int .i64 3, .int .i64 7, .int .i64 3, .int .i64 3] 29 (0, 0)) := by
      have := heap_alloc_new ((w.alloc (.cells #[.string ⟨#[]⟩, .string ⟨#[97]⟩, .string ⟨#[60, 97, 62]⟩, .string ⟨#[60, 97, 47, 62, 60, 98, 47, 62]⟩, .string ⟨#[60, 97, 62, 60, 47, 98, 62]⟩, .string ⟨#[60, 97, 62, 120, 60, 98, 47, 62, 60, 47, 97, 62]⟩, .string ⟨#[60, 112, 58, 97, 47, 62]⟩, .string ⟨#[60, 97, 32, 112, 58, 98, 61, 39, 39, 47, 62]⟩, .string ⟨#[60, 47, 97, 62]⟩, .string ⟨#[60, 97, 47, 62, 120]⟩, .string ⟨#[60, 97, 32, 120, 109, 108, 110, 115, 58, 112, 61, 39, 39, 47, 62]⟩, .string ⟨#[60, 97, 62, 38, 60, 47, 97, 62]⟩, .string ⟨#[60, 97, 32, 120, 109, 108, 110, 115, 58, 120, 109, 108, 61, 39, 117, 39, 47, 62]⟩, .string ⟨#[60, 97, 32, 98, 61, 39, 49, 39, 32, 98, 61, 39, 50, 39, 47, 62]⟩, .string ⟨#[60, 97, 62, 60, 98, 62]⟩, .string ⟨#[60, 97, 62, 0, 60, 47, 97, 62]⟩] 9)).alloc (.cells #[.int .i64 0, .int .i64 0, .int .i64 3, .int .i64 4, .int .i64 3, .int .i64 0, .int .i64 0, .int .i64 0, .int .i64 0, .int .i64 4, .int .i64 0, .int .i64 3, .int .i64 0, .int .i64 9, .int .i64 6, .int .i64 3] 3)) (.cells #[.int .i64 3, .int .i64 3, .int .i64 3, .int .i64 3, .int .i64 3, .int .i64 3, .int .i64 3, .int .i64 3, .int .i64 3, .int .i64 3, .int .i64 3, .int .i64 3, .int .i64 3, .int .i64 7, .int .i64 3, .int .i64 3] 29)
      rw [World.size_alloc, World.size_alloc, hRe] at this
      rw [← hw0]; exact this
    rw [Lib.cell_of_heap h]; exact tE_cell k hk
  have hs0 : w0.heap.size = R + 3 := by rw [← hw0, ← hRe]; simp
  rw [hw0] at hb3
  have C1 := dparse_bad (tS k) _ _ (bad06 k hk) w0 (hE.below hb3) (hT.below hb3) (tS_len k hk)
  obtain ⟨T, hTe⟩ : ∃ T, tS k = T := ⟨_, rfl⟩
  obtain ⟨E, hEe⟩ : ∃ E, tE k = E := ⟨_, rfl⟩
  obtain ⟨P, hPe⟩ : ∃ P, tA k = P := ⟨_, rfl⟩
  rw [hTe] at h0 C1
  rw [hPe] at h1 C1
  rw [hEe] at h2 C1
  have C1 := Lib.hid C1
  have HE := Lib.hid (hE.below hb3)
  have HT := Lib.hid (hT.below hb3)
  have HB := Lib.hid hb3
  have HW := Lib.hid hw0
  have HS0 := Lib.hid hs0
  have H1 := Lib.hid h1
  have H2 := Lib.hid h2
  clear hE hT hb1 hb2 hb3 hTe hPe hEe hk hs0
  have h0c : (((w.alloc (.cells #[.string ⟨#[]⟩, .string ⟨#[97]⟩, .string ⟨#[60, 97, 62]⟩, .string ⟨#[60, 97, 47, 62, 60, 98, 47, 62]⟩, .string ⟨#[60, 97, 62, 60, 47, 98, 62]⟩, .string ⟨#[60, 97, 62, 120, 60, 98, 47, 62, 60, 47, 97, 62]⟩, .string ⟨#[60, 112, 58, 97, 47, 62]⟩, .string ⟨#[60, 97, 32, 112, 58, 98, 61, 39, 39, 47, 62]⟩, .string ⟨#[60, 47, 97, 62]⟩, .string ⟨#[60, 97, 47, 62, 120]⟩, .string ⟨#[60, 97, 32, 120, 109, 108, 110, 115, 58, 112, 61, 39, 39, 47, 62]⟩, .string ⟨#[60, 97, 62, 38, 60, 47, 97, 62]⟩, .string ⟨#[60, 97, 32, 120, 109, 108, 110, 115, 58, 120, 109, 108, 61, 39, 117, 39, 47, 62]⟩, .string ⟨#[60, 97, 32, 98, 61, 39, 49, 39, 32, 98, 61, 39, 50, 39, 47, 62]⟩, .string ⟨#[60, 97, 62, 60, 98, 62]⟩, .string ⟨#[60, 97, 62, 0, 60, 47, 97, 62]⟩] 9)).alloc (.cells #[.int .i64 0, .int .i64 0, .int .i64 3, .int .i64 4, .int .i64 3, .int .i64 0, .int .i64 0, .int .i64 0, .int .i64 0, .int .i64 4, .int .i64 0, .int .i64 3, .int .i64 0, .int .i64 9, .int .i64 6, .int .i64 3] 3)).alloc (.cells #[.int .i64 3, .int .i64 3, .int .i64 3, .int .i64 3, .int .i64 3, .int .i64 3, .int .i64 3, .int .i64 3, .int .i64 3, .int .i64 3, .int .i64 3, .int .i64 3, .int .i64 3, .int .i64 7, .int .i64 3, .int .i64 3] 29)).cell? ⟨R, k, none⟩ = some (.string T) := by rw [hw0]; exact h0
  have HRe := Lib.hid hRe
  clear hw0 h0 h1 h2
  go_enter Tryz.func4, Tryz.ntmps4
  go_wp2_with fail
  rw [HW.out]
  clear h0c
  refine C1.out.mono ?_
  rintro r w1 ⟨rfl, hb⟩
  have hA := hb.alloc hb.size (.cells #[.string ⟨#[]⟩, .string ⟨#[]⟩, .slice none 0 0, .slice none 0 0, .string ⟨#[]⟩] 25)
  have hX := heap_alloc_new w1 (.cells #[.string ⟨#[]⟩, .string ⟨#[]⟩, .slice none 0 0, .slice none 0 0, .string ⟨#[]⟩] 25)
  have HA := Lib.hid hA
  have HX := Lib.hid hX
  have HXl := Lib.hid (show w1.heap.size < (w1.alloc (.cells #[.string ⟨#[]⟩, .string ⟨#[]⟩, .slice none 0 0, .slice none 0 0, .string ⟨#[]⟩] 25)).heap.size by simp)
  have CA := Lib.hid (awake06 _ (HE.out.below hA) (HT.out.below hA))
  clear hb hA hX C1
  go_wp2_with fail
  refine CA.out.mono ?_
  rintro r w2 ⟨rfl, hb2⟩
  have hB2 := HA.out.trans (hb2.mono HA.out.size)
  have e1 := (hB2.cell (p := ⟨R + 1, k, none⟩) (by have := HS0.out; show R + 1 < _; omega)).trans H1.out
  have e2 := (hB2.cell (p := ⟨R + 1 + 1, k, none⟩) (by have := HS0.out; show R + 1 + 1 < _; omega)).trans H2.out
  have n1 := (hb2.cell (p := ⟨w1.heap.size, 1, none⟩) HXl.out).trans (Lib.cell_of_heap HX.out 1)
  have n2 := (hb2.cell (p := ⟨w1.heap.size, 2, none⟩) HXl.out).trans (Lib.cell_of_heap HX.out 2)
  have n3 := (hb2.cell (p := ⟨w1.heap.size, 3, none⟩) HXl.out).trans (Lib.cell_of_heap HX.out 3)
  simp only [List.getElem?_toArray, List.getElem?_cons_zero, List.getElem?_cons_succ] at n1 n2 n3
  have HB2 := Lib.hid (HB.out.trans (hB2.mono HB.out.size))
  clear hb2 hB2 CA
  go_wp2
  go_ret
  exact ⟨rfl, HB2.out⟩

end Go.Proofs.YtekmenkebokdoaaGreatDoor
