/-
  The walk of galliardref01.Trim: two loops, from both ends.
-/
import Derived.Test.YtekmenkebokdoaaGreatDoorCharsRef
namespace Go.Proofs.YtekmenkebokdoaaGreatDoor
open Go.RowKit
set_option maxRecDepth 100000

theorem trimmed_cut (s : ByteArray) (a b : Nat) (hab : a ≤ b) (hb : b ≤ s.size) (h1 : ∀ j, j < a → blankB (nth (bl s) j : Int) = true) (h2 : a < s.size → blankB (nth (bl s) a : Int) = false)
    (h3 : ∀ j, b ≤ j → j < s.size → blankB (nth (bl s) j : Int) = true) (h4 : a < b → blankB (nth (bl s) (b - 1) : Int) = false) : s.extract a b = trimmed s := by
  have h := trim_cut (bl s) a b hab (by rw [bl_size]; exact hb) h1 (by rw [bl_size]; exact h2) (by rw [bl_size]; exact h3) h4
  rw [Lib.extract_eq]
  unfold trimmed
  rw [h, List.drop_take]; rfl
theorem ext_none (s : ByteArray) (m : Nat) : s.extract m m = ByteArray.empty := by
  rw [Lib.extract_eq, Nat.sub_self, List.take_zero]; rfl
/-- What is known behind the first loop; behind the second one. -/
def Ahead (s : ByteArray) (a : Nat) : Prop := ∀ j, j < a → blankB (nth (bl s) j : Int) = true
def Behind (s : ByteArray) (b : Nat) : Prop := ∀ j, b ≤ j → j < s.size → blankB (nth (bl s) j : Int) = true
def Stands (s : ByteArray) (a : Nat) : Prop := a < s.size → blankB (nth (bl s) a : Int) = false
theorem Ahead.step {s : ByteArray} {a : Nat} (h : Ahead s a) (hc : blankB (nth (bl s) a : Int) = true) : Ahead s (a + 1) := by
  intro j hj
  by_cases e : j = a
  · subst e; exact hc
  · exact h j (by omega)
theorem Behind.step {s : ByteArray} {b : Nat} (h : Behind s (b + 1)) (hc : blankB (nth (bl s) b : Int) = true) : Behind s b := by
  intro j hj hl
  by_cases e : j = b
  · subst e; exact hc
  · exact h j (by omega) hl
set_option maxRecDepth 100000 in
set_option maxHeartbeats 16000000 in
theorem rtrim0 (s : ByteArray) (w : World) (A : ByteArray) (hs : s.size ≤ 9223372036854775807) (HR : Hid (A = trimmed s)) :
    Calls Tryz.prog 20 #[.string s] w fun e w' => e = .returned (.string A) ∧ Below w.heap.size w w' := by
  go_enter Tryz.func20, Tryz.ntmps20
  go_wp2
  go_loop [3] (fun i => ∃ k : Nat, k ≤ s.size ∧ i = .int .i64 k ∧ Hid (Ahead s k)) (fun i => s.size - (intOf i).toNat)
  case atStart => exact ⟨0, by omega, rfl, Lib.hid (fun j h => absurd h (by omega))⟩
  case round =>
    obtain ⟨k, hk, rfl, HK⟩ := hrel
    by_cases hin : k < s.size
    · have hin' : (k : Int) < (s.size : Int) := by omega
      obtain ⟨x, hx⟩ : ∃ x, s[k]'hin = x := ⟨_, rfl⟩
      have hn : nth (bl s) k = x.toNat := by rw [nth_get s k hin, hx]
      obtain ⟨c, hc⟩ : ∃ c : Int, (x.toNat : Int) = c := ⟨_, rfl⟩
      have HNc : Hid ((nth (bl s) k : Int) = c) := Lib.hid (by rw [hn, hc])
      clear hn
      by_cases hbl : c = 32 ∨ c = 9 ∨ c = 10 ∨ c = 13
      · have HN := Lib.hid (HK.out.step (by rw [HNc.out]; exact decide_eq_true hbl))
        clear HK HNc
        rcases hbl with h | h | h | h
        · have q32 : (c == 32) = true := by simp; omega
          have q9 : (c == 9) = false := by simp; omega
          have q10 : (c == 10) = false := by simp; omega
          have q13 : (c == 13) = false := by simp; omega
          clear h
          go_wp2
          go_round
          case rel => exact ⟨k + 1, by omega, by go_num, HN⟩
          case measure => simp [intOf]; omega
        · have q32 : (c == 32) = false := by simp; omega
          have q9 : (c == 9) = true := by simp; omega
          have q10 : (c == 10) = false := by simp; omega
          have q13 : (c == 13) = false := by simp; omega
          clear h
          go_wp2
          go_round
          case rel => exact ⟨k + 1, by omega, by go_num, HN⟩
          case measure => simp [intOf]; omega
        · have q32 : (c == 32) = false := by simp; omega
          have q9 : (c == 9) = false := by simp; omega
          have q10 : (c == 10) = true := by simp; omega
          have q13 : (c == 13) = false := by simp; omega
          clear h
          go_wp2
          go_round
          case rel => exact ⟨k + 1, by omega, by go_num, HN⟩
          case measure => simp [intOf]; omega
        · have q32 : (c == 32) = false := by simp; omega
          have q9 : (c == 9) = false := by simp; omega
          have q10 : (c == 10) = false := by simp; omega
          have q13 : (c == 13) = true := by simp; omega
          clear h
          go_wp2
          go_round
          case rel => exact ⟨k + 1, by omega, by go_num, HN⟩
          case measure => simp [intOf]; omega
      · have HS : Hid (Stands s k) := Lib.hid (fun _ => by rw [HNc.out]; exact decide_eq_false hbl)
        have q32 : (c == 32) = false := by simp; omega
        have q9 : (c == 9) = false := by simp; omega
        have q10 : (c == 10) = false := by simp; omega
        have q13 : (c == 13) = false := by simp; omega
        clear HNc hbl
        go_wp2
        go_loop [4] (fun i => ∃ m : Nat, k ≤ m ∧ m ≤ s.size ∧ i = .int .i64 m ∧ Hid (Behind s m)) (fun i => (intOf i).toNat)
        case atStart => exact ⟨s.size, by omega, by omega, rfl, Lib.hid (fun j h h' => absurd h (by omega))⟩
        case round =>
          obtain ⟨m, hkm, hm, rfl, HM⟩ := hrel
          by_cases hmk : m = k
          · subst hmk
            have HA : Hid (A = s.extract m m) := Lib.hid (HR.out.trans (trimmed_cut s m m (Nat.le_refl _) hm HK.out HS.out HM.out (fun h => absurd h (by omega))).symm)
            clear HR hkm
            go_wp2
            go_ret
            exact ⟨by rw [HA.out]; first | rfl | (rw [ext_none]; rfl), Below.refl _ _⟩
          · obtain ⟨q, rfl⟩ : ∃ q, m = q + 1 := ⟨m - 1, by omega⟩
            have hkq : k ≤ q := by omega
            have hq : q < s.size := by omega
            have hkq' : (k : Int) ≤ (q : Int) := by omega
            have hq' : (q : Int) < (s.size : Int) := by omega
            obtain ⟨y, hy⟩ : ∃ y, s[q]'hq = y := ⟨_, rfl⟩
            have hny : nth (bl s) q = y.toNat := by rw [nth_get s q hq, hy]
            obtain ⟨d, hd⟩ : ∃ d : Int, (y.toNat : Int) = d := ⟨_, rfl⟩
            have HNd : Hid ((nth (bl s) q : Int) = d) := Lib.hid (by rw [hny, hd])
            clear hny hmk
            by_cases hbd : d = 32 ∨ d = 9 ∨ d = 10 ∨ d = 13
            · have HN := Lib.hid (HM.out.step (by rw [HNd.out]; exact decide_eq_true hbd))
              clear HM HNd HR
              rcases hbd with h | h | h | h
              · have p32 : (d == 32) = true := by simp; omega
                have p9 : (d == 9) = false := by simp; omega
                have p10 : (d == 10) = false := by simp; omega
                have p13 : (d == 13) = false := by simp; omega
                clear h
                go_wp2
                go_round
                case rel => exact ⟨q, by omega, by omega, by go_num, HN⟩
                case measure => simp [intOf]
              · have p32 : (d == 32) = false := by simp; omega
                have p9 : (d == 9) = true := by simp; omega
                have p10 : (d == 10) = false := by simp; omega
                have p13 : (d == 13) = false := by simp; omega
                clear h
                go_wp2
                go_round
                case rel => exact ⟨q, by omega, by omega, by go_num, HN⟩
                case measure => simp [intOf]
              · have p32 : (d == 32) = false := by simp; omega
                have p9 : (d == 9) = false := by simp; omega
                have p10 : (d == 10) = true := by simp; omega
                have p13 : (d == 13) = false := by simp; omega
                clear h
                go_wp2
                go_round
                case rel => exact ⟨q, by omega, by omega, by go_num, HN⟩
                case measure => simp [intOf]
              · have p32 : (d == 32) = false := by simp; omega
                have p9 : (d == 9) = false := by simp; omega
                have p10 : (d == 10) = false := by simp; omega
                have p13 : (d == 13) = true := by simp; omega
                clear h
                go_wp2
                go_round
                case rel => exact ⟨q, by omega, by omega, by go_num, HN⟩
                case measure => simp [intOf]
            · have HA : Hid (A = s.extract k (q + 1)) := Lib.hid (HR.out.trans (trimmed_cut s k (q + 1) (by omega) hm HK.out HS.out HM.out (fun _ => by rw [Nat.add_sub_cancel, HNd.out]; exact decide_eq_false hbd)).symm)
              have p32 : (d == 32) = false := by simp; omega
              have p9 : (d == 9) = false := by simp; omega
              have p10 : (d == 10) = false := by simp; omega
              have p13 : (d == 13) = false := by simp; omega
              clear HR HNd HM hbd
              go_wp2
              go_ret
              exact ⟨by rw [HA.out]; first | rfl | (rw [ext_none]; rfl), Below.refl _ _⟩
    · obtain rfl : k = s.size := by omega
      have HS : Hid (Stands s s.size) := Lib.hid (fun h => absurd h (by omega))
      clear hin
      have HA : Hid (A = s.extract s.size s.size) := Lib.hid (HR.out.trans (trimmed_cut s s.size s.size (Nat.le_refl _) (Nat.le_refl _) HK.out HS.out (fun j h h' => absurd h (by omega)) (fun h => absurd h (by omega))).symm)
      go_wp2
      go_loop [4] (fun i => i = .int .i64 s.size) (fun i => 0)
      case atStart => rfl
      case round =>
        obtain rfl := hrel
        go_wp2
        go_ret
        exact ⟨by rw [HA.out]; first | rfl | (rw [ext_none]; rfl), Below.refl _ _⟩
/-- **galliardref01.Trim at every string.** -/
theorem rtrim (s : ByteArray) (w : World) (hs : s.size ≤ 9223372036854775807) :
    Calls Tryz.prog 20 #[.string s] w fun e w' => e = .returned (.string (trimmed s)) ∧ Below w.heap.size w w' :=
  rtrim0 s w _ hs (Lib.hid rfl)

end Go.Proofs.YtekmenkebokdoaaGreatDoor
