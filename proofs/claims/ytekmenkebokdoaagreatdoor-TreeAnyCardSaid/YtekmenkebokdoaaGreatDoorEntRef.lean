/-
  The walks of the document's own answers for layer 3: galliardref01.Close, and the law's digits.
-/
import Derived.Test.YtekmenkebokdoaaGreatDoorEntOpen
import Derived.Test.YtekmenkebokdoaaGreatDoorCharsRef
namespace Go.Proofs.YtekmenkebokdoaaGreatDoor
open Go.RowKit
set_option maxRecDepth 100000

theorem bl_sub (s : ByteArray) (a b : Nat) : bl (s.extract a b) = ((bl s).take b).drop a := by
  unfold bl; rw [Lib.extract_data, List.take_drop]
  by_cases h : a ≤ b
  · rw [show a + (b - a) = b by omega]
  · rw [List.drop_eq_nil_of_le (by rw [List.length_take]; omega), List.drop_eq_nil_of_le (by rw [List.length_take]; omega)]
theorem bl_one (s : ByteArray) (k : Nat) (h : k < s.size) : bl (s.extract k (k + 1)) = [s[k]'h] := by
  rw [bl_sub, take_get s k h, List.drop_append_of_le_length (by rw [List.length_take, bl_size]; omega), List.drop_eq_nil_of_le (by rw [List.length_take, bl_size]; omega)]; rfl
set_option maxRecDepth 100000 in
set_option maxHeartbeats 8000000 in
theorem rclose0 (s : ByteArray) (w : World) (hs : s.size ≤ 4294967296) (A : ByteArray) (HA : Hid (A = str (closeL (bl s)))) :
    Calls Tryz.prog 21 #[.string s] w fun e w' => e = .returned (.string A) ∧ w = w' := by
  go_enter Tryz.func21, Tryz.ntmps21
  go_wp2
  go_loop [3, 4] (fun o i => ∃ (k : Nat) (X : ByteArray), k ≤ s.size ∧ i = .int .i64 k ∧ o = .string X ∧ X.size ≤ 6 * k ∧ Hid (bl X = closeL ((bl s).take k))) (fun _ i => s.size - (intOf i).toNat)
  case atStart => exact ⟨0, ⟨#[]⟩, Nat.zero_le _, rfl, rfl, by decide, Lib.hid (by simp [closeL, bl])⟩
  case round =>
    obtain ⟨k, X, hk, rfl, rfl, hX, HX⟩ := hrel
    by_cases hin : k < s.size
    · have hin' : (k : Int) < (s.size : Int) := by omega
      have htk := take_get s k hin
      obtain ⟨c, hc⟩ : ∃ c, s[k]'hin = c := ⟨_, rfl⟩
      rw [hc] at htk
      have HN : Hid (∀ Y : ByteArray, bl Y = closeB c → bl (X ++ Y) = closeL ((bl s).take (k + 1)) ∧ (X ++ Y).size ≤ 6 * (k + 1)) := Lib.hid (fun Y hY => by
        have h1 : bl (X ++ Y) = bl X ++ bl Y := bl_append X Y
        refine ⟨by rw [htk, closeL_append, closeL_one, h1, HX.out, hY], ?_⟩
        rw [← bl_size, h1, List.length_append, bl_size, hY]
        have := (closeB_len c).1
        omega)
      have HO := Lib.hid (bl_one s k hin)
      rw [hc] at HO
      clear htk
      obtain ⟨d, hd⟩ : ∃ d : Int, (c.toNat : Int) = d := ⟨_, rfl⟩
      by_cases c38 : d = 38
      · have hc' : c = 38 := UInt8.toNat_inj.1 (by show c.toNat = 38; omega)
        have HY := Lib.hid (HN.out ⟨#[38, 97, 109, 112, 59]⟩ (by rw [hc']; rfl))
        have q38 : (d == 38) = true := by simp; omega
        clear hc' HN HO c38
        go_wp2
        go_round
        case rel => exact ⟨k + 1, _, by omega, by go_num, rfl, HY.out.2, Lib.hid HY.out.1⟩
        case measure => simp [intOf]; omega
      by_cases c60 : d = 60
      · have hc' : c = 60 := UInt8.toNat_inj.1 (by show c.toNat = 60; omega)
        have HY := Lib.hid (HN.out ⟨#[38, 108, 116, 59]⟩ (by rw [hc']; rfl))
        have q38 : (d == 38) = false := by simp; omega
        have q60 : (d == 60) = true := by simp; omega
        clear hc' HN HO c60 c38
        go_wp2
        go_round
        case rel => exact ⟨k + 1, _, by omega, by go_num, rfl, HY.out.2, Lib.hid HY.out.1⟩
        case measure => simp [intOf]; omega
      by_cases c62 : d = 62
      · have hc' : c = 62 := UInt8.toNat_inj.1 (by show c.toNat = 62; omega)
        have HY := Lib.hid (HN.out ⟨#[38, 103, 116, 59]⟩ (by rw [hc']; rfl))
        have q38 : (d == 38) = false := by simp; omega
        have q60 : (d == 60) = false := by simp; omega
        have q62 : (d == 62) = true := by simp; omega
        clear hc' HN HO c62 c38 c60
        go_wp2
        go_round
        case rel => exact ⟨k + 1, _, by omega, by go_num, rfl, HY.out.2, Lib.hid HY.out.1⟩
        case measure => simp [intOf]; omega
      by_cases c34 : d = 34
      · have hc' : c = 34 := UInt8.toNat_inj.1 (by show c.toNat = 34; omega)
        have HY := Lib.hid (HN.out ⟨#[38, 113, 117, 111, 116, 59]⟩ (by rw [hc']; rfl))
        have q38 : (d == 38) = false := by simp; omega
        have q60 : (d == 60) = false := by simp; omega
        have q62 : (d == 62) = false := by simp; omega
        have q34 : (d == 34) = true := by simp; omega
        clear hc' HN HO c34 c38 c60 c62
        go_wp2
        go_round
        case rel => exact ⟨k + 1, _, by omega, by go_num, rfl, HY.out.2, Lib.hid HY.out.1⟩
        case measure => simp [intOf]; omega
      by_cases c9 : d = 9
      · have hc' : c = 9 := UInt8.toNat_inj.1 (by show c.toNat = 9; omega)
        have HY := Lib.hid (HN.out ⟨#[38, 35, 57, 59]⟩ (by rw [hc']; rfl))
        have q38 : (d == 38) = false := by simp; omega
        have q60 : (d == 60) = false := by simp; omega
        have q62 : (d == 62) = false := by simp; omega
        have q34 : (d == 34) = false := by simp; omega
        have q9 : (d == 9) = true := by simp; omega
        clear hc' HN HO c9 c38 c60 c62 c34
        go_wp2
        go_round
        case rel => exact ⟨k + 1, _, by omega, by go_num, rfl, HY.out.2, Lib.hid HY.out.1⟩
        case measure => simp [intOf]; omega
      by_cases c10 : d = 10
      · have hc' : c = 10 := UInt8.toNat_inj.1 (by show c.toNat = 10; omega)
        have HY := Lib.hid (HN.out ⟨#[38, 35, 49, 48, 59]⟩ (by rw [hc']; rfl))
        have q38 : (d == 38) = false := by simp; omega
        have q60 : (d == 60) = false := by simp; omega
        have q62 : (d == 62) = false := by simp; omega
        have q34 : (d == 34) = false := by simp; omega
        have q9 : (d == 9) = false := by simp; omega
        have q10 : (d == 10) = true := by simp; omega
        clear hc' HN HO c10 c38 c60 c62 c34 c9
        go_wp2
        go_round
        case rel => exact ⟨k + 1, _, by omega, by go_num, rfl, HY.out.2, Lib.hid HY.out.1⟩
        case measure => simp [intOf]; omega
      by_cases c13 : d = 13
      · have hc' : c = 13 := UInt8.toNat_inj.1 (by show c.toNat = 13; omega)
        have HY := Lib.hid (HN.out ⟨#[38, 35, 49, 51, 59]⟩ (by rw [hc']; rfl))
        have q38 : (d == 38) = false := by simp; omega
        have q60 : (d == 60) = false := by simp; omega
        have q62 : (d == 62) = false := by simp; omega
        have q34 : (d == 34) = false := by simp; omega
        have q9 : (d == 9) = false := by simp; omega
        have q10 : (d == 10) = false := by simp; omega
        have q13 : (d == 13) = true := by simp; omega
        clear hc' HN HO c13 c38 c60 c62 c34 c9 c10
        go_wp2
        go_round
        case rel => exact ⟨k + 1, _, by omega, by go_num, rfl, HY.out.2, Lib.hid HY.out.1⟩
        case measure => simp [intOf]; omega
      have HY := Lib.hid (HN.out (s.extract k (k + 1)) (by rw [HO.out]; exact (closeB_plain c (by omega) (by omega) (by omega) (by omega) (by omega) (by omega) (by omega)).symm))
      have q38 : (d == 38) = false := by simp; omega
      have q60 : (d == 60) = false := by simp; omega
      have q62 : (d == 62) = false := by simp; omega
      have q34 : (d == 34) = false := by simp; omega
      have q9 : (d == 9) = false := by simp; omega
      have q10 : (d == 10) = false := by simp; omega
      have q13 : (d == 13) = false := by simp; omega
      clear HN HO c38 c60 c62 c34 c9 c10 c13
      go_wp2
      go_round
      case rel => exact ⟨k + 1, _, by omega, by go_num, rfl, HY.out.2, Lib.hid HY.out.1⟩
      case measure => simp [intOf]; omega
    · obtain rfl : k = s.size := by omega
      have hA : A = X := by
        have h := HX.out
        rw [take_all] at h
        rw [HA.out, ← h, bl_str]
      subst hA
      clear HA
      go_wp2
      go_ret
      exact ⟨rfl, rfl⟩
/-- **galliardref01.Close at strings that are not too long.** -/
theorem rclose (s : ByteArray) (w : World) (hs : s.size ≤ 4294967296) :
    Calls Tryz.prog 21 #[.string s] w fun e w' => e = .returned (.string (str (closeL (bl s)))) ∧ w = w' :=
  rclose0 s w hs _ (Lib.hid rfl)

/-! ### the law's digits -/
def hexs : ByteArray := ⟨#[48, 49, 50, 51, 52, 53, 54, 55, 56, 57, 97, 98, 99, 100, 101, 102]⟩
theorem hexs_at (x : Nat) (h : x < 16) : hexs.extract x (x + 1) = str [hexD x] := by
  have key : ∀ i : Fin 16, hexs.extract i.val (i.val + 1) = str [hexD i.val] := by decide +kernel
  exact key ⟨x, h⟩
end Go.Proofs.YtekmenkebokdoaaGreatDoor
