/-
  The walks of the functions that go letter by letter: utf.run, utf.Bad, utf.Count, galliardref01.Bad.
-/
import Derived.Test.YtkpdmbiommaleaaDoorUtfGet
namespace Go.Proofs.YtkpdmbiommaleaaDoor
open Go.RowKit

theorem bl_length_le (s : ByteArray) (hs : s.size ≤ 9223372036854775807) : (bl s).length ≤ 9223372036854775807 := by rw [bl_size]; exact hs

/-! ### galliardref01.Bad -/
theorem size_from (s : ByteArray) (k : Nat) : (s.extract k s.size).size ≤ s.size := by
  rw [← bl_size, bl_from, List.length_drop, bl_size]; omega
/-! ### small words -/
theorem putS_no (r : Int) (h : mayB r = false) : putS r = ⟨#[]⟩ := by unfold putS; rw [put_nil r h]
theorem bl_append (s t : ByteArray) : bl (s ++ t) = bl s ++ bl t := by unfold bl; simp
theorem min8 (n k : Nat) : ∃ m : Nat, m ≤ n ∧ m ≤ k ∧ (m = n ∨ m = k) ∧ Hid (min (n : Int) (k : Int) = (m : Int)) ∧ Hid (min m n = m) :=
  ⟨min n k, by omega, by omega, by omega, Lib.hid (by omega), Lib.hid (by omega)⟩
theorem cut_bl (s : ByteArray) (m : Nat) : bl (s.extract 0 m) = (bl s).take m := sub_list s m

end Go.Proofs.YtkpdmbiommaleaaDoor
