/-
  The walks of the document's own answers for layer 3: galliardref01.Close, and the law's digits.
-/
import Derived.Test.YtkpdmbiommaleaaDoorEntOpen
import Derived.Test.YtkpdmbiommaleaaDoorCharsRef
namespace Go.Proofs.YtkpdmbiommaleaaDoor
open Go.RowKit

theorem bl_sub (s : ByteArray) (a b : Nat) : bl (s.extract a b) = ((bl s).take b).drop a := by
  unfold bl; rw [Lib.extract_data, List.take_drop]
  by_cases h : a ≤ b
  · rw [show a + (b - a) = b by omega]
  · rw [List.drop_eq_nil_of_le (by rw [List.length_take]; omega), List.drop_eq_nil_of_le (by rw [List.length_take]; omega)]
theorem bl_one (s : ByteArray) (k : Nat) (h : k < s.size) : bl (s.extract k (k + 1)) = [s[k]'h] := by
  rw [bl_sub, take_get s k h, List.drop_append_of_le_length (by rw [List.length_take, bl_size]; omega), List.drop_eq_nil_of_le (by rw [List.length_take, bl_size]; omega)]; rfl
set_option maxRecDepth 100000 in
set_option maxHeartbeats 8000000 in
theorem rclose0 (s : ByteArray) (w : World) (hs : s.size ≤ 4294967296) (A : ByteArray) (HA : Hid (A = str (closeL (bl s)))) :
    Calls Tryd.prog 9 #[.string s] w fun e w' => e = .returned (.string A) ∧ w = w' := by
  go_enter Tryd.func9, Tryd.ntmps9
  go_wp2
  go_loop [3, 4] (fun o i => ∃ (k : Nat) (X : ByteArray), k ≤ s.size ∧ i = .int .i64 k ∧ o = .string X ∧ X.size ≤ 6 * k ∧ Hid (bl X = closeL ((bl s).take k))) (fun _ i => s.size - (intOf i).toNat)
  case atStart => exact ⟨0, ⟨#[]⟩, Nat.zero_le _, rfl, rfl, by decide, Lib.hid (by simp [closeL, bl])⟩
  case round =>
    obtain ⟨k, X, hk, rfl, rfl, hX, HX⟩ := hrel
    by_cases hin : k < s.size
    · have hin' : (k : Int) < (s.size : Int) := by omega
      have htk := take_get s k hin
      obtain ⟨c, hc⟩ : ∃ c, s[k]'hin = c := ⟨_, rfl⟩
      rw [hc] at htk
      have HN : Hid (∀ Y : ByteArray, bl Y = closeB c → bl (X ++ Y) = closeL ((bl s).take (k + 1)) ∧ (X ++ Y).size ≤ 6 * (k + 1)) := Lib.hid (fun Y hY => by
        have h1 : bl (X ++ Y) = bl X ++ bl Y := bl_append X Y
        refine ⟨by rw [htk, closeL_append, closeL_one, h1, HX.out, hY], ?_⟩
        rw [← bl_size, h1, List.length_append, bl_size, hY]
        have := (closeB_len c).1
        omega)
      have HO := Lib.hid (bl_one s k hin)
      rw [hc] at HO
      clear htk
      obtain ⟨d, hd⟩ : ∃ d : Int, (c.toNat : Int) = d := ⟨_, rfl⟩
      by_cases c38 : d = 38
      · have hc' : c = 38 := UInt8.toNat_inj.1 (by show c.toNat = 38; omega)
        have HY := Lib.hid (HN.out ⟨#[38, 97, 109, 112, 59]⟩ (by rw [hc']; rfl))
        have q38 : (d == 38) = true := by simp; omega
        clear hc' HN HO c38
        go_wp2
        go_round
        case rel => exact ⟨k + 1, _, by omega, by go_num, rfl, HY.out.2, Lib.hid HY.out.1⟩
        case measure => simp [intOf]; omega
      by_cases c60 : d = 60
      · have hc' : c = 60 := UInt8.toNat_inj.1 (by show c.toNat = 60; omega)
        have HY := Lib.hid (HN.out ⟨#[38, 108, 116, 59]⟩ (by rw [hc']; rfl))
        have q38 : (d == 38) = false := by simp; omega
        have q60 : (d == 60) = true := by simp; omega
        clear hc' HN HO c60 c38
        go_wp2
        go_round
        case rel => exact ⟨k + 1, _, by omega, by go_num, rfl, HY.out.2, Lib.hid HY.out.1⟩
        case measure => simp [intOf]; omega
      by_cases c62 : d = 62
      · have hc' : c = 62 := UInt8.toNat_inj.1 (by show c.toNat = 62; omega)
        have HY := Lib.hid (HN.out ⟨#[38, 103, 116, 59]⟩ (by rw [hc']; rfl))
        have q38 : (d == 38) = false := by simp; omega
        have q60 : (d == 60) = false := by simp; omega
        have q62 : (d == 62) = true := by simp; omega
        clear hc' HN HO c62 c38 c60
        go_wp2
        go_round
        case rel => exact ⟨k + 1, _, by omega, by go_num, rfl, HY.out.2, Lib.hid HY.out.1⟩
        case measure => simp [intOf]; omega
      by_cases c34 : d = 34
      · have hc' : c = 34 := UInt8.toNat_inj.1 (by show c.toNat = 34; omega)
        have HY := Lib.hid (HN.out ⟨#[38, 113, 117, 111, 116, 59]⟩ (by rw [hc']; rfl))
        have q38 : (d == 38) = false := by simp; omega
        have q60 : (d == 60) = false := by simp; omega
        have q62 : (d == 62) = false := by simp; omega
        have q34 : (d == 34) = true := by simp; omega
        clear hc' HN HO c34 c38 c60 c62
        go_wp2
        go_round
        case rel => exact ⟨k + 1, _, by omega, by go_num, rfl, HY.out.2, Lib.hid HY.out.1⟩
        case measure => simp [intOf]; omega
      by_cases c9 : d = 9
      · have hc' : c = 9 := UInt8.toNat_inj.1 (by show c.toNat = 9; omega)
        have HY := Lib.hid (HN.out ⟨#[38, 35, 57, 59]⟩ (by rw [hc']; rfl))
        have q38 : (d == 38) = false := by simp; omega
        have q60 : (d == 60) = false := by simp; omega
        have q62 : (d == 62) = false := by simp; omega
        have q34 : (d == 34) = false := by simp; omega
        have q9 : (d == 9) = true := by simp; omega
        clear hc' HN HO c9 c38 c60 c62 c34
        go_wp2
        go_round
        case rel => exact ⟨k + 1, _, by omega, by go_num, rfl, HY.out.2, Lib.hid HY.out.1⟩
        case measure => simp [intOf]; omega
      by_cases c10 : d = 10
      · have hc' : c = 10 := UInt8.toNat_inj.1 (by show c.toNat = 10; omega)
        have HY := Lib.hid (HN.out ⟨#[38, 35, 49, 48, 59]⟩ (by rw [hc']; rfl))
        have q38 : (d == 38) = false := by simp; omega
        have q60 : (d == 60) = false := by simp; omega
        have q62 : (d == 62) = false := by simp; omega
        have q34 : (d == 34) = false := by simp; omega
        have q9 : (d == 9) = false := by simp; omega
        have q10 : (d == 10) = true := by simp; omega
        clear hc' HN HO c10 c38 c60 c62 c34 c9
        go_wp2
        go_round
        case rel => exact ⟨k + 1, _, by omega, by go_num, rfl, HY.out.2, Lib.hid HY.out.1⟩
        case measure => simp [intOf]; omega
      by_cases c13 : d = 13
      · have hc' : c = 13 := UInt8.toNat_inj.1 (by show c.toNat = 13; omega)
        have HY := Lib.hid (HN.out ⟨#[38, 35, 49, 51, 59]⟩ (by rw [hc']; rfl))
        have q38 : (d == 38) = false := by simp; omega
        have q60 : (d == 60) = false := by simp; omega
        have q62 : (d == 62) = false := by simp; omega
        have q34 : (d == 34) = false := by simp; omega
        have q9 : (d == 9) = false := by simp; omega
        have q10 : (d == 10) = false := by simp; omega
        have q13 : (d == 13) = true := by simp; omega
        clear hc' HN HO c13 c38 c60 c62 c34 c9 c10
        go_wp2
        go_round
        case rel => exact ⟨k + 1, _, by omega, by go_num, rfl, HY.out.2, Lib.hid HY.out.1⟩
        case measure => simp [intOf]; omega
      have HY := Lib.hid (HN.out (s.extract k (k + 1)) (by rw [HO.out]; exact (closeB_plain c (by omega) (by omega) (by omega) (by omega) (by omega) (by omega) (by omega)).symm))
      have q38 : (d == 38) = false := by simp; omega
      have q60 : (d == 60) = false := by simp; omega
      have q62 : (d == 62) = false := by simp; omega
      have q34 : (d == 34) = false := by simp; omega
      have q9 : (d == 9) = false := by simp; omega
      have q10 : (d == 10) = false := by simp; omega
      have q13 : (d == 13) = false := by simp; omega
      clear HN HO c38 c60 c62 c34 c9 c10 c13
      go_wp2
      go_round
      case rel => exact ⟨k + 1, _, by omega, by go_num, rfl, HY.out.2, Lib.hid HY.out.1⟩
      case measure => simp [intOf]; omega
    · obtain rfl : k = s.size := by omega
      have hA : A = X := by
        have h := HX.out
        rw [take_all] at h
        rw [HA.out, ← h, bl_str]
      subst hA
      clear HA
      go_wp2
      go_ret
      exact ⟨rfl, rfl⟩
/-- **galliardref01.Close at strings that are not too long.** -/
theorem rclose (s : ByteArray) (w : World) (hs : s.size ≤ 4294967296) :
    Calls Tryd.prog 9 #[.string s] w fun e w' => e = .returned (.string (str (closeL (bl s)))) ∧ w = w' :=
  rclose0 s w hs _ (Lib.hid rfl)

/-! ### the law's digits -/
theorem str_append (a b : List UInt8) : str a ++ str b = str (a ++ b) := by
  rw [← bl_str (str a ++ str b), bl_append, str_bl, str_bl]
set_option maxHeartbeats 2000000 in
theorem lnum_lo (n : Nat) (w : World) (h : n < 10) :
    Calls Tryd.prog 12 #[.int .i64 n] w fun e w' => e = .returned (.string ⟨#[ub (48 + n)]⟩) ∧ Below w.heap.size w w' := by
  have k := conv1 w (48 + n) (by omega)
  have h' : (n : Int) < 10 := by omega
  clear h
  go_enter Tryd.func12, Tryd.ntmps12
  go_wp2
  go_ret
  exact ⟨rfl, (Below.refl _ _).alloc (Nat.le_refl _) _⟩
set_option maxHeartbeats 2000000 in
theorem lnum_hi (n : Nat) (hn : n ≤ 1000000000) (w : World) (h : ¬ n < 10) (A B : ByteArray) (hA : A.size ≤ 100) (hB : B.size ≤ 100)
    (CA : Hid (∀ w, Calls Tryd.prog 12 #[.int .i64 ((n : Int) / 10)] w fun e w' => e = .returned (.string A) ∧ Below w.heap.size w w'))
    (CB : Hid (∀ w, Calls Tryd.prog 12 #[.int .i64 ((n : Int) % 10)] w fun e w' => e = .returned (.string B) ∧ Below w.heap.size w w')) :
    Calls Tryd.prog 12 #[.int .i64 n] w fun e w' => e = .returned (.string (A ++ B)) ∧ Below w.heap.size w w' := by
  have h' : ¬ (n : Int) < 10 := by omega
  have h'' : (n : Int) ≤ 1000000000 := by omega
  clear h hn
  go_enter Tryd.func12, Tryd.ntmps12
  go_wp2_with fail
  refine (CA.out _).mono ?_
  rintro e w1 ⟨rfl, hb1⟩
  go_wp2_with fail
  refine (CB.out _).mono ?_
  rintro e w2 ⟨rfl, hb2⟩
  have hb3 := hb1.trans (hb2.mono hb1.size)
  clear hb1 hb2
  go_wp2_with fail
  go_ret
  exact ⟨rfl, hb3⟩
theorem lnum_one (n : Nat) (w : World) (h : n < 10) :
    Calls Tryd.prog 12 #[.int .i64 n] w fun e w' => e = .returned (.string (str (decB n))) ∧ Below w.heap.size w w' := by
  rw [decB_lo n h]
  have : str [UInt8.ofNat (48 + n)] = ⟨#[ub (48 + n)]⟩ := by rw [ub_eq (x := 48 + (n : Int)) (n := 48 + n) (by omega)]; rfl
  rw [this]; exact lnum_lo n w h
theorem lnum (n : Nat) (hn : n ≤ 1000000000) (w : World) :
    Calls Tryd.prog 12 #[.int .i64 n] w fun e w' => e = .returned (.string (str (decB n))) ∧ Below w.heap.size w w' := by
  induction n using Nat.strongRecOn generalizing w with
  | ind n ih =>
    by_cases h : n < 10
    · exact lnum_one n w h
    · rw [decB_hi n h]
      have e1 : ((n / 10 : Nat) : Int) = (n : Int) / 10 := by omega
      have e2 : ((n % 10 : Nat) : Int) = (n : Int) % 10 := by omega
      have ca := fun w => ih (n / 10) (by omega) (by omega) w
      have cb := fun w => lnum_one (n % 10) w (by omega)
      rw [e1] at ca
      rw [e2] at cb
      have hl := decB_len 9 (n / 10) (by omega)
      have key := lnum_hi n hn w h (str (decB (n / 10))) (str (decB (n % 10))) (by rw [str_size]; omega) (by rw [str_size, decB_lo _ (by omega)]; simp) (Lib.hid ca) (Lib.hid cb)
      rw [str_append, decB_lo (n % 10) (by omega)] at key
      exact key

def hexs : ByteArray := ⟨#[48, 49, 50, 51, 52, 53, 54, 55, 56, 57, 97, 98, 99, 100, 101, 102]⟩
theorem hexs_at (x : Nat) (h : x < 16) : hexs.extract x (x + 1) = str [hexD x] := by
  have key : ∀ i : Fin 16, hexs.extract i.val (i.val + 1) = str [hexD i.val] := by decide +kernel
  exact key ⟨x, h⟩
set_option maxHeartbeats 2000000 in
theorem lhex_lo (n : Nat) (w : World) (h : n < 16) :
    Calls Tryd.prog 14 #[.int .i64 n] w fun e w' => e = .returned (.string (str [hexD n])) ∧ ∃ k, w' = w.drewN k := by
  have H := Lib.hid (hexs_at n h)
  have h' : (n : Int) < 16 := by omega
  clear h
  go_enter Tryd.func14, Tryd.ntmps14
  go_wp2
  go_ret
  exact ⟨by rw [← H.out]; rfl, 0, rfl⟩
set_option maxHeartbeats 2000000 in
theorem lhex_hi (n : Nat) (hn : n ≤ 1000000000) (w : World) (h : ¬ n < 16) (A : ByteArray) (hA : A.size ≤ 100)
    (CA : Hid (∀ w, Calls Tryd.prog 14 #[.int .i64 ((n : Int) / 16)] w fun e w' => e = .returned (.string A) ∧ ∃ k, w' = w.drewN k)) :
    Calls Tryd.prog 14 #[.int .i64 n] w fun e w' => e = .returned (.string (A ++ str [hexD (n % 16)])) ∧ ∃ k, w' = w.drewN k := by
  have h' : ¬ (n : Int) < 16 := by omega
  have h'' : (n : Int) ≤ 1000000000 := by omega
  have hr0 : 0 ≤ (n : Int) % 16 := by omega
  have hr1 : (n : Int) % 16 < 16 := by omega
  have H := Lib.hid (hexs_at (n % 16) (by omega))
  clear h hn
  go_enter Tryd.func14, Tryd.ntmps14
  go_wp2
  go_quiet ((go_at_call 14; exact Calls.quiet_of (CA.out _)))
  go_wp2
  go_ret
  exact ⟨by rw [← H.out]; rfl, nq, rfl⟩
theorem lhex (n : Nat) (hn : n ≤ 1000000000) (w : World) :
    Calls Tryd.prog 14 #[.int .i64 n] w fun e w' => e = .returned (.string (str (hexB n))) ∧ ∃ k, w' = w.drewN k := by
  induction n using Nat.strongRecOn generalizing w with
  | ind n ih =>
    by_cases h : n < 16
    · rw [hexB_lo n h]; exact lhex_lo n w h
    · rw [hexB_hi n h]
      have e1 : ((n / 16 : Nat) : Int) = (n : Int) / 16 := by omega
      have ca := fun w => ih (n / 16) (by omega) (by omega) w
      rw [e1] at ca
      have hl := hexB_len 9 (n / 16) (by omega)
      have key := lhex_hi n hn w h (str (hexB (n / 16))) (by rw [str_size]; omega) (Lib.hid ca)
      rw [str_append] at key
      exact key

end Go.Proofs.YtkpdmbiommaleaaDoor
