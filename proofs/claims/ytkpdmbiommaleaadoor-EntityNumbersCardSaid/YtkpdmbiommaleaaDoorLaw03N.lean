/-
  The walk of layer 3's law galliardlaw03.EntityNumbers.
-/
import Derived.Test.YtkpdmbiommaleaaDoorLaw03W
import Derived.Laws.BitsLemmas
namespace Go.Proofs.YtkpdmbiommaleaaDoor
open Go.RowKit

theorem i64_and21 (n : Int) : bits .and .i64 n 2097151 = n % 2097152 := by
  have hM : (BitVec.ofInt 64 2097151).toNat = 2 ^ 21 - 1 := by decide
  have key : (BitVec.ofInt 64 n &&& BitVec.ofInt 64 2097151).toNat = (n % ((2 ^ 64 : Nat) : Int)).toNat % 2 ^ 21 := by
    rw [BitVec.toNat_and, BitVec.toNat_ofInt, hM, Nat.and_two_pow_sub_one_eq_mod]
  show IntKind.i64.wrap ((BitVec.ofInt 64 n &&& BitVec.ofInt 64 2097151).toNat : Nat) = n % 2097152
  rw [key, IntKind.wrap_i64]
  omega
set_option maxRecDepth 100000 in
set_option maxHeartbeats 8000000 in
theorem nums_yes (n : Int) (K : Nat) (P D H : ByteArray) (w : World) (HE : Hid (EntV w)) (HK : Hid (bits .and .i64 n 2097151 = (K : Int))) (hK : (K : Int) ≤ 2097151) (hD : D.size ≤ 10) (hH : H.size ≤ 10) (hP : P.toList.isEmpty = false) (tx : Int) (htx : tx < 0) (h0 : (0 : Int) < (K : Int)) (h0b : ((K : Int) == 0) = false)
    (CP : Hid (∀ w, Calls Tryd.prog 10 #[.int .i64 K] w fun e w' => e = .returned (.string P) ∧ Below w.heap.size w w'))
    (CT : Hid (∀ w, Calls Tryd.prog 11 #[.string P] w fun e w' => e = .returned (.int .i64 tx) ∧ Below w.heap.size w w'))
    (CN : Hid (∀ w, Calls Tryd.prog 12 #[.int .i64 K] w fun e w' => e = .returned (.string D) ∧ Below w.heap.size w w'))
    (CH : Hid (∀ w, Calls Tryd.prog 14 #[.int .i64 K] w fun e w' => e = .returned (.string H) ∧ ∃ k, w' = w.drewN k))
    (CO : Hid (∀ w, EntV w → Calls Tryd.prog 6 #[.string (⟨#[38, 35]⟩ ++ D ++ ⟨#[59]⟩)] w fun e w' => e = .returned (.tuple #[.string P, .int .i64 (-1)]) ∧ Below w.heap.size w w'))
    (C1 : Hid (∀ w, EntV w → Calls Tryd.prog 13 #[.string (⟨#[35]⟩ ++ D)] w fun e w' => e = .returned (.int .i64 K) ∧ Below w.heap.size w w'))
    (C2 : Hid (∀ w, EntV w → Calls Tryd.prog 13 #[.string (⟨#[35, 120]⟩ ++ H)] w fun e w' => e = .returned (.int .i64 K) ∧ Below w.heap.size w w')) :
    Calls Tryd.prog 4 #[.int .i64 n] w fun e w' => e = .returned (.bool true) ∧ Below w.heap.size w w' := by
  have hK0 : (0 : Int) ≤ (K : Int) := by omega
  go_enter Tryd.func4, Tryd.ntmps4
  go_wp2_with fail
  rw [HK.out]
  refine (CP.out _).mono ?_
  rintro e w1 ⟨rfl, hz⟩
  go_wp2_with fail
  refine (CT.out _).mono ?_
  rintro e w2 ⟨rfl, hb⟩
  have hy := hz.trans (hb.mono hz.size)
  clear hz hb
  have hz := hy
  clear hy
  go_wp2_with fail
  refine (CN.out _).mono ?_
  rintro e w3 ⟨rfl, hb⟩
  have hy := hz.trans (hb.mono hz.size)
  clear hz hb
  have hz := hy
  clear hy
  go_wp2_with fail
  refine (CO.out _ (HE.out.below hz)).mono ?_
  rintro e w4 ⟨rfl, hb⟩
  have hy := hz.trans (hb.mono hz.size)
  clear hz hb
  have hz := hy
  clear hy
  go_wp2_with fail
  refine (awake03 _ (HE.out.below hz)).mono ?_
  rintro e w5 ⟨rfl, hb⟩
  have hy := hz.trans (hb.mono hz.size)
  clear hz hb
  have hz := hy
  clear hy
  go_wp2_with fail
  refine (CN.out _).mono ?_
  rintro e w6 ⟨rfl, hb⟩
  have hy := hz.trans (hb.mono hz.size)
  clear hz hb
  have hz := hy
  clear hy
  go_wp2_with fail
  refine (C1.out _ (HE.out.below hz)).mono ?_
  rintro e w7 ⟨rfl, hb⟩
  have hy := hz.trans (hb.mono hz.size)
  clear hz hb
  have hz := hy
  clear hy
  go_wp2_with fail
  refine (CH.out _).mono ?_
  rintro e w8 ⟨rfl, q, rfl⟩
  have hy := hz.trans ((below_drewN _ q).mono hz.size)
  clear hz
  have hz := hy
  clear hy
  go_wp2_with fail
  refine (C2.out _ (HE.out.below hz)).mono ?_
  rintro e w9 ⟨rfl, hb⟩
  have hy := hz.trans (hb.mono hz.size)
  clear hz hb
  have hz := hy
  clear hy
  go_wp2_with fail
  refine (CP.out _).mono ?_
  rintro e w10 ⟨rfl, hb⟩
  have hy := hz.trans (hb.mono hz.size)
  clear hz hb
  have hz := hy
  clear hy
  go_wp2_with fail
  go_ret
  exact ⟨rfl, hz⟩
set_option maxRecDepth 100000 in
set_option maxHeartbeats 8000000 in
theorem nums_mid (n : Int) (K : Nat) (P D H : ByteArray) (w : World) (HE : Hid (EntV w)) (HK : Hid (bits .and .i64 n 2097151 = (K : Int))) (hK : (K : Int) ≤ 2097151) (hD : D.size ≤ 10) (hH : H.size ≤ 10) (hP : P.toList.isEmpty = false) (tx : Int) (htx : decide (tx < 0) = false)
    (CP : Hid (∀ w, Calls Tryd.prog 10 #[.int .i64 K] w fun e w' => e = .returned (.string P) ∧ Below w.heap.size w w'))
    (CT : Hid (∀ w, Calls Tryd.prog 11 #[.string P] w fun e w' => e = .returned (.int .i64 tx) ∧ Below w.heap.size w w'))
    (CN : Hid (∀ w, Calls Tryd.prog 12 #[.int .i64 K] w fun e w' => e = .returned (.string D) ∧ Below w.heap.size w w'))
    (CH : Hid (∀ w, Calls Tryd.prog 14 #[.int .i64 K] w fun e w' => e = .returned (.string H) ∧ ∃ k, w' = w.drewN k))
    (CO : Hid (∀ w, EntV w → Calls Tryd.prog 6 #[.string (⟨#[38, 35]⟩ ++ D ++ ⟨#[59]⟩)] w fun e w' => e = .returned (.tuple #[.string ⟨#[]⟩, .int .i64 0]) ∧ Below w.heap.size w w'))
    (C1 : Hid (∀ w, EntV w → Calls Tryd.prog 13 #[.string (⟨#[35]⟩ ++ D)] w fun e w' => e = .returned (.int .i64 0) ∧ Below w.heap.size w w'))
    (C2 : Hid (∀ w, EntV w → Calls Tryd.prog 13 #[.string (⟨#[35, 120]⟩ ++ H)] w fun e w' => e = .returned (.int .i64 0) ∧ Below w.heap.size w w')) :
    Calls Tryd.prog 4 #[.int .i64 n] w fun e w' => e = .returned (.bool true) ∧ Below w.heap.size w w' := by
  have hK0 : (0 : Int) ≤ (K : Int) := by omega
  go_enter Tryd.func4, Tryd.ntmps4
  go_wp2_with fail
  rw [HK.out]
  refine (CP.out _).mono ?_
  rintro e w1 ⟨rfl, hz⟩
  go_wp2_with fail
  refine (CT.out _).mono ?_
  rintro e w2 ⟨rfl, hb⟩
  have hy := hz.trans (hb.mono hz.size)
  clear hz hb
  have hz := hy
  clear hy
  go_wp2_with fail
  refine (CN.out _).mono ?_
  rintro e w3 ⟨rfl, hb⟩
  have hy := hz.trans (hb.mono hz.size)
  clear hz hb
  have hz := hy
  clear hy
  go_wp2_with fail
  refine (CO.out _ (HE.out.below hz)).mono ?_
  rintro e w4 ⟨rfl, hb⟩
  have hy := hz.trans (hb.mono hz.size)
  clear hz hb
  have hz := hy
  clear hy
  go_wp2_with fail
  refine (awake03 _ (HE.out.below hz)).mono ?_
  rintro e w5 ⟨rfl, hb⟩
  have hy := hz.trans (hb.mono hz.size)
  clear hz hb
  have hz := hy
  clear hy
  go_wp2_with fail
  refine (CN.out _).mono ?_
  rintro e w6 ⟨rfl, hb⟩
  have hy := hz.trans (hb.mono hz.size)
  clear hz hb
  have hz := hy
  clear hy
  go_wp2_with fail
  refine (C1.out _ (HE.out.below hz)).mono ?_
  rintro e w7 ⟨rfl, hb⟩
  have hy := hz.trans (hb.mono hz.size)
  clear hz hb
  have hz := hy
  clear hy
  go_wp2_with fail
  refine (CH.out _).mono ?_
  rintro e w8 ⟨rfl, q, rfl⟩
  have hy := hz.trans ((below_drewN _ q).mono hz.size)
  clear hz
  have hz := hy
  clear hy
  go_wp2_with fail
  refine (C2.out _ (HE.out.below hz)).mono ?_
  rintro e w9 ⟨rfl, hb⟩
  have hy := hz.trans (hb.mono hz.size)
  clear hz hb
  have hz := hy
  clear hy
  go_wp2_with fail
  go_ret
  exact ⟨rfl, hz⟩
set_option maxRecDepth 100000 in
set_option maxHeartbeats 8000000 in
theorem nums_none (n : Int) (K : Nat) (P D H : ByteArray) (w : World) (HE : Hid (EntV w)) (HK : Hid (bits .and .i64 n 2097151 = (K : Int))) (hK : (K : Int) ≤ 2097151) (hD : D.size ≤ 10) (hH : H.size ≤ 10) (hP : P = ⟨#[]⟩)
    (CP : Hid (∀ w, Calls Tryd.prog 10 #[.int .i64 K] w fun e w' => e = .returned (.string P) ∧ Below w.heap.size w w'))
    (CN : Hid (∀ w, Calls Tryd.prog 12 #[.int .i64 K] w fun e w' => e = .returned (.string D) ∧ Below w.heap.size w w'))
    (CH : Hid (∀ w, Calls Tryd.prog 14 #[.int .i64 K] w fun e w' => e = .returned (.string H) ∧ ∃ k, w' = w.drewN k))
    (CO : Hid (∀ w, EntV w → Calls Tryd.prog 6 #[.string (⟨#[38, 35]⟩ ++ D ++ ⟨#[59]⟩)] w fun e w' => e = .returned (.tuple #[.string ⟨#[]⟩, .int .i64 0]) ∧ Below w.heap.size w w'))
    (C1 : Hid (∀ w, EntV w → Calls Tryd.prog 13 #[.string (⟨#[35]⟩ ++ D)] w fun e w' => e = .returned (.int .i64 0) ∧ Below w.heap.size w w'))
    (C2 : Hid (∀ w, EntV w → Calls Tryd.prog 13 #[.string (⟨#[35, 120]⟩ ++ H)] w fun e w' => e = .returned (.int .i64 0) ∧ Below w.heap.size w w')) :
    Calls Tryd.prog 4 #[.int .i64 n] w fun e w' => e = .returned (.bool true) ∧ Below w.heap.size w w' := by
  subst hP
  have hK0 : (0 : Int) ≤ (K : Int) := by omega
  go_enter Tryd.func4, Tryd.ntmps4
  go_wp2_with fail
  rw [HK.out]
  refine (CP.out _).mono ?_
  rintro e w1 ⟨rfl, hz⟩
  go_wp2_with fail
  refine (CN.out _).mono ?_
  rintro e w2 ⟨rfl, hb⟩
  have hy := hz.trans (hb.mono hz.size)
  clear hz hb
  have hz := hy
  clear hy
  go_wp2_with fail
  refine (CO.out _ (HE.out.below hz)).mono ?_
  rintro e w3 ⟨rfl, hb⟩
  have hy := hz.trans (hb.mono hz.size)
  clear hz hb
  have hz := hy
  clear hy
  go_wp2_with fail
  refine (awake03 _ (HE.out.below hz)).mono ?_
  rintro e w4 ⟨rfl, hb⟩
  have hy := hz.trans (hb.mono hz.size)
  clear hz hb
  have hz := hy
  clear hy
  go_wp2_with fail
  refine (CN.out _).mono ?_
  rintro e w5 ⟨rfl, hb⟩
  have hy := hz.trans (hb.mono hz.size)
  clear hz hb
  have hz := hy
  clear hy
  go_wp2_with fail
  refine (C1.out _ (HE.out.below hz)).mono ?_
  rintro e w6 ⟨rfl, hb⟩
  have hy := hz.trans (hb.mono hz.size)
  clear hz hb
  have hz := hy
  clear hy
  go_wp2_with fail
  refine (CH.out _).mono ?_
  rintro e w7 ⟨rfl, q, rfl⟩
  have hy := hz.trans ((below_drewN _ q).mono hz.size)
  clear hz
  have hz := hy
  clear hy
  go_wp2_with fail
  refine (C2.out _ (HE.out.below hz)).mono ?_
  rintro e w8 ⟨rfl, hb⟩
  have hy := hz.trans (hb.mono hz.size)
  clear hz hb
  have hz := hy
  clear hy
  go_wp2_with fail
  go_ret
  exact ⟨rfl, hz⟩

/-- **The law EntityNumbers.** -/
theorem nums_any (n : Int) (w : World) (hE : EntV w) :
    Calls Tryd.prog 4 #[.int .i64 n] w fun e w' => e = .returned (.bool true) ∧ Below w.heap.size w w' := by
  obtain ⟨K, hK, hKm⟩ : ∃ K : Nat, bits .and .i64 n 2097151 = (K : Int) ∧ K ≤ 2097151 := ⟨(n % 2097152).toNat, by rw [i64_and21]; omega, by omega⟩
  have hl := decB_len 6 K (by omega)
  have hh := hexB_len 5 K (by omega)
  have hDs : (str (decB K)).size ≤ 10 := by rw [str_size]; omega
  have hHs : (str (hexB K)).size ≤ 10 := by rw [str_size]; omega
  have b1 : bl ((⟨#[35]⟩ : ByteArray) ++ str (decB K)) = 35 :: decB K := by rw [bl_append, str_bl]; rfl
  have b2 : bl ((⟨#[35, 120]⟩ : ByteArray) ++ str (hexB K)) = 35 :: 120 :: hexB K := by rw [bl_append, str_bl]; rfl
  have b3 : bl ((⟨#[38, 35]⟩ : ByteArray) ++ str (decB K) ++ ⟨#[59]⟩) = 38 :: 35 :: decB K ++ [59] := by rw [bl_append, bl_append, str_bl]; rfl
  have s3 : ((⟨#[38, 35]⟩ : ByteArray) ++ str (decB K) ++ ⟨#[59]⟩).size ≤ 1000 := by rw [← bl_size, b3]; simp; omega
  have o3 := open_dec K (by omega)
  have cp := fun w => rput (K : Int) w
  have ct := fun w => rtext (putS K) w (by rw [putS_size]; have := put_len (K : Int); omega)
  have htx : bl (putS K) = put K := by unfold bl; exact putS_list K
  rw [htx] at ct
  have cn := fun w => lnum K (by omega) w
  have ch := fun w => lhex K (by omega) w
  have c1 : ∀ A, wantV K = A → ∀ w, EntV w → Calls Tryd.prog 13 #[.string (⟨#[35]⟩ ++ str (decB K))] w fun e w' => e = .returned (.int .i64 A) ∧ Below w.heap.size w w' := fun A hA w h => eone_at _ A (by rw [b1, one_dec K (by omega), hA]) w h
  have c2 : ∀ A, wantV K = A → ∀ w, EntV w → Calls Tryd.prog 13 #[.string (⟨#[35, 120]⟩ ++ str (hexB K))] w fun e w' => e = .returned (.int .i64 A) ∧ Below w.heap.size w w' := fun A hA w h => eone_at _ A (by rw [b2, one_hex K (by omega), hA]) w h
  have ne : mayB K = true → (putS K).toList.isEmpty = false := fun h => bl_more _ (by rw [putS_size]; have := put_pos K h; omega)
  cases hlet : letB K with
  | true =>
    have hm := let_may _ hlet
    have hw : wantV K = K := by unfold wantV; rw [if_pos hlet]
    have hK0 : (K : Int) ≠ 0 := by rintro h; rw [h] at hlet; exact absurd hlet (by decide)
    have ht := (textL_put K hm).2 hlet
    rw [hw, if_neg hK0] at o3
    exact nums_yes n K (putS K) _ _ w (Lib.hid hE) (Lib.hid hK) (by omega) hDs hHs (ne hm) _ ht (by omega) (by simp; omega) (Lib.hid cp) (Lib.hid ct) (Lib.hid cn) (Lib.hid ch)
      (Lib.hid fun w h => eopen_at _ (putS K) (-1) (by rw [b3, o3, htx]) s3 w h) (Lib.hid (c1 _ hw)) (Lib.hid (c2 _ hw))
  | false =>
    have hw : wantV K = 0 := by unfold wantV; rw [if_neg (by rw [hlet]; decide)]
    rw [hw, if_pos rfl] at o3
    have co := Lib.hid (fun w h => eopen_at _ ⟨#[]⟩ 0 (by rw [b3, o3]; rfl) s3 w h)
    cases hm : mayB K with
    | true =>
      have ht : ¬ textL (put K) < 0 := fun h => by have := (textL_put K hm).1 h; rw [hlet] at this; cases this
      exact nums_mid n K (putS K) _ _ w (Lib.hid hE) (Lib.hid hK) (by omega) hDs hHs (ne hm) _ (decide_eq_false ht) (Lib.hid cp) (Lib.hid ct) (Lib.hid cn) (Lib.hid ch) co (Lib.hid (c1 _ hw)) (Lib.hid (c2 _ hw))
    | false =>
      exact nums_none n K (putS K) _ _ w (Lib.hid hE) (Lib.hid hK) (by omega) hDs hHs (putS_no _ hm) (Lib.hid cp) (Lib.hid cn) (Lib.hid ch) co (Lib.hid (c1 _ hw)) (Lib.hid (c2 _ hw))

end Go.Proofs.YtkpdmbiommaleaaDoor
