/-
  The walks of layer 2: chars.Start, Part, Blank, Letter, Text, Name, Trim, Empty, Split.
-/
import Derived.Test.YtkpdmbiommaleaaDoorUtfRun
import Derived.Test.YtkpdmbiommaleaaDoorCharsMath
import Derived.Shelf.Strings.SlTrimAscii
import Derived.OwnWalk
namespace Go.Proofs.YtkpdmbiommaleaaDoor
open Go.RowKit

/-! ### one byte -/
/-! ### letters -/
set_option maxHeartbeats 2000000 in
/-- **chars.Letter at every number.** -/
theorem cletter (r : Int) (w : World) :
    Calls Tryd.prog 30 #[.int .i64 r] w fun e w' => e = .returned (.bool (letB r)) ∧ w = w' := by
  have hc : r = 9 ∨ r = 10 ∨ r = 13 ∨ r = 65534 ∨ r = 65535 ∨ (r < 32 ∧ r ≠ 9 ∧ r ≠ 10 ∧ r ≠ 13) ∨ (32 ≤ r ∧ r ≠ 65534 ∧ r ≠ 65535) := by omega
  rcases hc with rfl | rfl | rfl | rfl | rfl | ⟨h, h1, h2, h3⟩ | ⟨h, h1, h2⟩
  · go_enter Tryd.func30, Tryd.ntmps30
    go_wp2
    go_ret
    exact ⟨rfl, rfl⟩
  · go_enter Tryd.func30, Tryd.ntmps30
    go_wp2
    go_ret
    exact ⟨rfl, rfl⟩
  · go_enter Tryd.func30, Tryd.ntmps30
    go_wp2
    go_ret
    exact ⟨rfl, rfl⟩
  · go_enter Tryd.func30, Tryd.ntmps30
    go_wp2
    go_ret
    exact ⟨rfl, rfl⟩
  · go_enter Tryd.func30, Tryd.ntmps30
    go_wp2
    go_ret
    exact ⟨rfl, rfl⟩
  · rw [show letB r = false by rw [letB_not]; omega]
    have e1 : (r == 9) = false := by simp; omega
    have e2 : (r == 10) = false := by simp; omega
    have e3 : (r == 13) = false := by simp; omega
    have e4 : (r == 65534) = false := by simp; omega
    have e5 : (r == 65535) = false := by simp; omega
    clear h1 h2 h3
    go_enter Tryd.func30, Tryd.ntmps30
    go_wp2
    go_ret
    exact ⟨rfl, rfl⟩
  · have e1 : (r == 9) = false := by simp; omega
    have e2 : (r == 10) = false := by simp; omega
    have e3 : (r == 13) = false := by simp; omega
    have e4 : (r == 65534) = false := by simp; omega
    have e5 : (r == 65535) = false := by simp; omega
    have hm : letB r = mayB r := by
      unfold letB mayB
      by_cases hq : (0 ≤ r ∧ r < 55296) ∨ (57343 < r ∧ r ≤ 1114111)
      · rw [decide_eq_true hq]; apply decide_eq_true; omega
      · rw [decide_eq_false hq]; apply decide_eq_false; omega
    rw [hm]
    have C := Lib.hid (fun w => may_any r w)
    generalize mayB r = b at C
    clear h1 h2 hm
    go_enter Tryd.func30, Tryd.ntmps30
    go_wp2_with (go_at_call 38; refine (C.out _).mono ?_; rintro e w' ⟨rfl, rfl⟩)
    go_ret
    exact ⟨rfl, rfl⟩
/-! ### names -/
/-- The library's own variable holds some number. -/
def MaxL (w : World) : Prop := ∃ m : Int, w.cell? ⟨2, 0, none⟩ = some (.int .i64 m)
theorem MaxL.below {w w' : World} (h : MaxL w) (hb : Below w.heap.size w w') : MaxL w' := by
  obtain ⟨m, hm⟩ := h
  exact ⟨m, (hb.cell (World.block_lt_of_cell? _ _ hm)).trans hm⟩
theorem below_drewN (w : World) (n : Nat) : Below w.heap.size w (w.drewN n) := ⟨(Below.refl w.heap.size w).os, (Below.refl w.heap.size w).tape, (Below.refl w.heap.size w).output, (Below.refl w.heap.size w).size, (Below.refl w.heap.size w).block⟩
theorem bl_empty (s : ByteArray) (h : s.size = 0) : s.toList.isEmpty = true := by
  rw [Lib.toList_data, show s.data.toList = [] from List.eq_nil_of_length_eq_zero (by rw [← Lib.size_eq]; exact h)]; rfl
theorem bl_more (s : ByteArray) (h : s.size ≠ 0) : s.toList.isEmpty = false := by
  rw [Lib.toList_data]
  cases e : s.data.toList with
  | nil => exact absurd (by rw [Lib.size_eq, e]; rfl) h
  | cons _ _ => rfl
/-! ### blanks at the ends -/
def trimmed (s : ByteArray) : ByteArray := ⟨(trimL (bl s)).toArray⟩
theorem trimmed_bl (s : ByteArray) : bl (trimmed s) = trimL (bl s) := by simp [bl, trimmed]
theorem trimmed_size (s : ByteArray) : (trimmed s).size ≤ s.size := by
  rw [← bl_size, trimmed_bl, ← bl_size s]; exact trimL_len _
/-! ### a colon -/
def str (l : List UInt8) : ByteArray := ⟨l.toArray⟩
theorem str_bl (l : List UInt8) : bl (str l) = l := by simp [bl, str]
theorem bl_str (s : ByteArray) : str (bl s) = s := Lib.mk_data s
theorem str_size (l : List UInt8) : (str l).size = l.length := by rw [← bl_size, str_bl]
theorem cut_len (l m : List UInt8) : (Lib.cut l m).1.length ≤ l.length ∧ (Lib.cut l m).2.1.length ≤ l.length := by
  unfold Lib.cut
  split
  · simp only [List.length_take, List.length_drop]; omega
  · simp
end Go.Proofs.YtkpdmbiommaleaaDoor
