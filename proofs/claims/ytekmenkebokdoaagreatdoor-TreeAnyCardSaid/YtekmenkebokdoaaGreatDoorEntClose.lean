/-
  The walks of entity.closed, entity.Close and galliardref01.Close.
-/
import Derived.Test.YtekmenkebokdoaaGreatDoorEntOne
import Derived.Test.YtekmenkebokdoaaGreatDoorBuild
import Derived.BigQuiet
import Derived.Deep.QuietTactic
namespace Go.Proofs.YtekmenkebokdoaaGreatDoor
open Go.RowKit
set_option maxRecDepth 100000

/-! ### entity.Close -/
theorem drop_get (s : ByteArray) (k : Nat) (h : k < s.size) : (bl s).drop k = s[k]'h :: (bl s).drop (k + 1) := by
  have hl : k < (bl s).length := by rw [bl_size]; exact h
  rw [List.drop_eq_getElem_cons hl]
  congr 1
theorem take_get (s : ByteArray) (k : Nat) (h : k < s.size) : (bl s).take (k + 1) = (bl s).take k ++ [s[k]'h] := by
  have hl : k < (bl s).length := by rw [bl_size]; exact h
  rw [List.take_succ_eq_append_getElem hl]
  congr 1
theorem take_all (s : ByteArray) : (bl s).take s.size = bl s := List.take_of_length_le (by rw [bl_size]; exact Nat.le_refl _)
end Go.Proofs.YtekmenkebokdoaaGreatDoor
