/-
  The walk of galliardref06.name.
-/
import Derived.Test.YtekmenkebokdoaaGreatDoorNearMath
import Derived.Test.YtekmenkebokdoaaGreatDoorTreeRep
import Derived.Test.YtekmenkebokdoaaGreatDoorUtfRun
import Derived.Deep.LoopGhost
namespace Go.Proofs.YtekmenkebokdoaaGreatDoor
open Go Go.RowKit Go.Lib
set_option maxRecDepth 100000

def nmB (b : Nat) : UInt8 := [97, 98, 90, 95, 48, 45, 46, 57].getD (b % 8) 0
def nmR (l : List UInt8) : List UInt8 := 110 :: (l.take 5).map fun c => nmB c.toNat
def abZ : ByteArray := ⟨#[97, 98, 90, 95, 48, 45, 46, 57]⟩
theorem abZ_at (b : Nat) (h : b % 8 < (⟨#[97, 98, 90, 95, 48, 45, 46, 57]⟩ : ByteArray).size) : (⟨#[97, 98, 90, 95, 48, 45, 46, 57]⟩ : ByteArray)[b % 8]'h = nmB b := by
  unfold nmB
  have h8 : b % 8 < 8 := Nat.mod_lt _ (by decide)
  have key : ∀ i : Fin 8, (⟨#[97, 98, 90, 95, 48, 45, 46, 57]⟩ : ByteArray)[i.val]'i.isLt = ([97, 98, 90, 95, 48, 45, 46, 57] : List UInt8).getD i.val 0 := by decide +kernel
  exact key ⟨b % 8, h8⟩
theorem nm_next {s X : ByteArray} {k : Nat} (hk : k < s.size) (h : bl X = 110 :: (((bl s).take k).map fun c => nmB c.toNat)) : bl (X ++ ⟨#[ub (nmB s[k].toNat).toNat]⟩) = 110 :: (((bl s).take (k + 1)).map fun c => nmB c.toNat) := by
  have hub : ub ((nmB s[k].toNat).toNat : Int) = nmB s[k].toNat := by
    rw [ub_eq (x := ((nmB s[k].toNat).toNat : Int)) (n := (nmB s[k].toNat).toNat) rfl]
    simp
  have hl : k < (bl s).length := by rw [bl_size]; exact hk
  have e : (bl s)[k]'hl = s[k] := rfl
  rw [hub, bl_append, h, List.take_succ_eq_append_getElem hl, List.map_append, e]
  rfl
theorem nm_all {s X : ByteArray} {k : Nat} (h : bl X = 110 :: (((bl s).take k).map fun c => nmB c.toNat)) (hk : ¬ k < s.size ∨ k = 5) (h5 : k ≤ 5) : X = str (nmR (bl s)) := by
  have e : (bl s).take k = (bl s).take 5 := by
    rcases hk with hk | rfl
    · rw [List.take_of_length_le (by rw [bl_size]; omega), List.take_of_length_le (by rw [bl_size]; omega)]
    · rfl
  unfold nmR
  rw [← str_bl_ X, h, e]
set_option maxHeartbeats 4000000 in
theorem name06 (s : ByteArray) (w : World) :
    Calls Tryz.prog 18 #[.string s] w fun e w' => e = .returned (.string (str (nmR (bl s)))) ∧ Below w.heap.size w w' := by
  go_enter Tryz.func18, Tryz.ntmps18
  go_wp2
  go_loopg [3, 4] s.size (fun g out at_ wr => ∃ (k : Nat) (X : ByteArray), g + k = s.size ∧ k ≤ 5 ∧ at_ = .int .i64 k ∧ out = .string X ∧ X.size = k + 1 ∧ Hid (bl X = 110 :: (((bl s).take k).map fun c => nmB c.toNat)) ∧ Below w.heap.size w wr)
  case atStart => exact ⟨0, ⟨#[110]⟩, rfl, by decide, rfl, rfl, by decide, Lib.hid (by simp [bl]), Below.refl _ _⟩
  case round =>
    obtain ⟨k, X, hg, hk5, rfl, rfl, hX, HX, hb⟩ := hrel
    by_cases hk : k < s.size
    · by_cases h5 : k < 5
      · have hk' : (k : Int) < (s.size : Int) := by omega
        have h5' : (k : Int) < 5 := by omega
        have h8 : s[k].toNat % 8 < (⟨#[97, 98, 90, 95, 48, 45, 46, 57]⟩ : ByteArray).size := Nat.mod_lt _ (by decide)
        have CV := conv1 wr ((nmB s[k].toNat).toNat : Int) (by have := (nmB s[k].toNat).toNat_lt; omega)
        rw [← abZ_at s[k].toNat h8] at CV
        have HN := Lib.hid (nm_next hk HX.out)
        rw [← abZ_at s[k].toNat h8] at HN
        generalize ub ((⟨#[97, 98, 90, 95, 48, 45, 46, 57]⟩ : ByteArray)[s[k].toNat % 8]'h8).toNat = c at CV HN
        clear HX
        go_wp2
        go_roundg (s.size - (k + 1))
        case measure => omega
        case rel => exact ⟨k + 1, X ++ ⟨#[c]⟩, by omega, by omega, rfl, rfl, by rw [ByteArray.size_append, hX]; rfl, HN, hb.alloc hb.size _⟩
      · have hk' : (k : Int) < (s.size : Int) := by omega
        have h5' : ¬ (k : Int) < 5 := by omega
        go_wp2
        go_ret
        exact ⟨by rw [← nm_all HX.out (.inr (by omega)) hk5]; rfl, hb⟩
    · have hk' : ¬ (k : Int) < (s.size : Int) := by omega
      go_wp2
      go_ret
      exact ⟨by rw [← nm_all HX.out (.inl hk) hk5]; rfl, hb⟩
theorem nmB_ok (b : Nat) : okN (nmB b) = true := by
  have key : ∀ i : Fin 8, okN (([97, 98, 90, 95, 48, 45, 46, 57] : List UInt8).getD i.val 0) = true := by decide +kernel
  exact key ⟨b % 8, Nat.mod_lt _ (by decide)⟩
theorem nmR_ok (l : List UInt8) : ∀ c ∈ nmR l, okN c = true := by
  intro c hc
  unfold nmR at hc
  rcases List.mem_cons.1 hc with rfl | h
  · decide
  · obtain ⟨x, _, rfl⟩ := List.mem_map.1 h
    exact nmB_ok _
theorem nmR_len (l : List UInt8) : (nmR l).length ≤ 6 := by
  unfold nmR
  rw [List.length_cons, List.length_map, List.length_take]
  omega

/-- An element's value: its attributes and its elements, as they read. -/
theorem parts06 {P : Nat → Prop} {w : World} {v : Value} {x : Nd} (h : NodeV P w v x) : ∃ (sp nm tx : ByteArray) (A : List Att) (K : List Nd) (a1 : Option Addr) (c1 : Nat) (a2 : Option Addr) (c2 : Nat) (c : Nat → Nat → Value),
    v = .agg #[.string sp, .string nm, .slice a1 A.length c1, .slice a2 K.length c2, .string tx] ∧ x = .mk sp nm A K tx ∧
    (0 < A.length → ∃ g o, a1 = some ⟨g, o, none⟩ ∧ P g ∧ g < w.heap.size ∧ ∀ j (h : j < A.length), w.cell? ⟨g, o + j * 2, none⟩ = some (.string (A[j]'h).1) ∧ w.cell? ⟨g, o + j * 2 + 1, none⟩ = some (.string (A[j]'h).2)) ∧
    (0 < K.length → ∃ g o, a2 = some ⟨g, o, none⟩ ∧ P g ∧ g < w.heap.size ∧ ∀ j, j < K.length → ∀ q, q < 5 → w.cell? ⟨g, o + j * 5 + q, none⟩ = some (c j q)) ∧
    (∀ j (h : j < K.length), NodeV P w (.agg #[c j 0, c j 1, c j 2, c j 3, c j 4]) (K[j]'h)) := by
  cases h with
  | mk sp nm tx A K va ao cap c ha hk hn =>
    obtain ⟨a1, c1, rfl, ha⟩ := ha
    exact ⟨sp, nm, tx, A, K, a1, c1, ao, cap, c, rfl, rfl, ha, hk, hn⟩

end Go.Proofs.YtekmenkebokdoaaGreatDoor
