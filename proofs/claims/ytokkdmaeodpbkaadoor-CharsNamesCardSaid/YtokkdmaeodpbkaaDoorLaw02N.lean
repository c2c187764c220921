/-
  The walk of layer 2's law galliardlaw02.CharsNames.
-/
import Derived.Test.YtokkdmaeodpbkaaDoorLaw02W
namespace Go.Proofs.YtokkdmaeodpbkaaDoor
open Go.RowKit

set_option maxRecDepth 100000 in
set_option maxHeartbeats 8000000 in
theorem names_yes (s t A B S Wt Rt : ByteArray) (m n p : Nat) (Na Nr : Bool) (w : World) (HT : Hid (Tabs w)) (HM : Hid (MaxL w)) (hm1 : m ≤ s.size) (hm3 : min (s.size : Int) 64 = (m : Int)) (hm4 : min m s.size = m)
    (hn1 : n ≤ t.size) (hn3 : min (t.size : Int) 20 = (n : Int)) (hn4 : min n t.size = n) (hm2 : m ≤ 64) (hn2 : n ≤ 20) (HA : Hid (s.extract 0 m = A)) (HBt : Hid (t.extract 0 n = B)) (hA : A.size ≤ 64) (hS : S.size ≤ 85) (hp : p < S.size) (hpA : p ≤ A.size)
    (HS : Hid (A ++ ⟨#[58]⟩ ++ B = S)) (HS1 : Hid (A.size + 1 + B.size = S.size)) (HW : Hid (A.extract 0 p = Wt)) (HR : Hid (S.extract (p + 1) S.size = Rt)) (HP : Hid (colonAt (bl A) = p))
    (CS : Hid (∀ w, Tabs w → MaxL w → Calls Tryd.prog 11 #[.string (A ++ ⟨#[58]⟩ ++ B)] w fun e w' => e = .returned (.tuple #[.string Wt, .string Rt, .bool Nr]) ∧ Below w.heap.size w w'))
    (CW : Hid (∀ w, Tabs w → MaxL w → Calls Tryd.prog 11 #[.string Wt] w fun e w' => e = .returned (.tuple #[.string ⟨#[]⟩, .string Wt, .bool true]) ∧ Below w.heap.size w w'))
    (CA : Hid (∀ w, Tabs w → Calls Tryd.prog 12 #[.string A] w fun e w' => e = .returned (.bool Na) ∧ Below w.heap.size w w'))
    (CRA : Hid (∀ w, Calls Tryd.prog 13 #[.string A] w fun e w' => e = .returned (.bool Na) ∧ Below w.heap.size w w'))
    (CRW : Hid (∀ w, Calls Tryd.prog 13 #[.string Wt] w fun e w' => e = .returned (.bool true) ∧ Below w.heap.size w w'))
    (CRR : Hid (∀ w, Calls Tryd.prog 13 #[.string Rt] w fun e w' => e = .returned (.bool Nr) ∧ Below w.heap.size w w')) :
    Calls Tryd.prog 4 #[.string s, .string t] w fun e w' => e = .returned (.bool true) ∧ Below w.heap.size w w' := by
  go_enter Tryd.func4, Tryd.ntmps4
  go_wp2_with fail
  go_quiet (fail)
  go_wp2_with fail
  rw [HA.out, HBt.out]
  clear hm3 hn3 hm4 hn4 hm1 hn1 hm2 hn2
  refine (CS.out _ (HT.out.below (below_drewN w nq)) (HM.out.below (below_drewN w nq))).mono ?_
  rintro e w1 ⟨rfl, hb1⟩
  have hb1' : Below w.heap.size w w1 := (below_drewN w nq).trans hb1
  clear hb1
  go_wp2_with fail
  obtain ⟨wo, rfl⟩ : ∃ wo : World, wo = w1 := ⟨_, rfl⟩
  go_loop [10] (fun i => ∃ k : Nat, k ≤ A.size ∧ i = .int .i64 k ∧ Hid (colonAt (bl A) = k + colonAt ((bl A).drop k))) (fun i => A.size - (intOf i).toNat)
  case atStart => exact ⟨0, by omega, rfl, Lib.hid (by simp)⟩
  case round =>
    obtain ⟨k, hk, rfl, HK⟩ := hrel
    by_cases hin : k < A.size
    · have hin' : (k : Int) < (A.size : Int) := by omega
      obtain ⟨x, hx⟩ : ∃ x, A[k]'hin = x := ⟨_, rfl⟩
      have hn : nth (bl A) k = x.toNat := by rw [nth_get A k hin, hx]
      by_cases hc : x.toNat = 58
      · obtain rfl : k = p := (colon_off _ k (by rw [bl_size]; exact hin) (by rw [hn]; exact hc) HK.out).symm.trans HP.out
        have q1 : ((x.toNat : Int) == 58) = true := by simp; omega
        have q2 : ((x.toNat : Int) != 58) = false := by simp; omega
        have hS := HS.out
        have hW := HW.out
        have hR := HR.out
        have hs1 := HS1.out
        clear hc hn HK
        go_wp2_with fail
        go_quiet (fail)
        go_wp2_with fail
        clear hS hW hR
        have hb2 : Below w.heap.size w (wo.drewN nq) := hb1'.trans ((below_drewN wo nq).mono hb1'.size)
        clear hb1'
        refine (CW.out _ (HT.out.below hb2) (HM.out.below hb2)).mono ?_
        rintro e v1 ⟨rfl, hv1⟩
        have hz1 := hb2.trans (hv1.mono hb2.size)
        clear hb2 hv1
        go_wp2_with fail
        refine (awake02 _ (HT.out.below hz1) (HM.out.below hz1)).mono ?_
        rintro e v2 ⟨rfl, hv2⟩
        have hz2 := hz1.trans (hv2.mono hz1.size)
        clear hz1 hv2
        go_wp2_with fail
        refine (CA.out _ (HT.out.below hz2)).mono ?_
        rintro e v3 ⟨rfl, hv3⟩
        have hz3 := hz2.trans (hv3.mono hz2.size)
        clear hz2 hv3
        go_wp2_with fail
        refine (CRA.out _).mono ?_
        rintro e v4 ⟨rfl, hv4⟩
        have hz4 := hz3.trans (hv4.mono hz3.size)
        clear hz3 hv4
        go_wp2_with fail
        refine (CRW.out _).mono ?_
        rintro e v5 ⟨rfl, hv5⟩
        have hz5 := hz4.trans (hv5.mono hz4.size)
        clear hz4 hv5
        go_wp2_with fail
        refine (CRR.out _).mono ?_
        rintro e v6 ⟨rfl, hv6⟩
        have hz6 := hz5.trans (hv6.mono hz5.size)
        clear hz5 hv6
        go_wp2_with fail
        refine (CRW.out _).mono ?_
        rintro e v7 ⟨rfl, hv7⟩
        have hz7 := hz6.trans (hv7.mono hz6.size)
        clear hz6 hv7
        go_wp2_with fail
        go_ret
        exact ⟨rfl, hz7⟩
      · have HN := Lib.hid (colon_on _ k (by rw [bl_size]; exact hin) (by rw [hn]; exact hc) HK.out)
        have q1 : ((x.toNat : Int) == 58) = false := by simp; omega
        have q2 : ((x.toNat : Int) != 58) = true := by simp; omega
        clear hc hn HK
        go_wp2_with fail
        go_round
        case rel => exact ⟨k + 1, by omega, by go_num, HN⟩
        case measure => simp [intOf]; omega
    · obtain rfl : k = p := (colon_end _ k (by rw [bl_size]; omega) HK.out).symm.trans HP.out
      have hS := HS.out
      have hW := HW.out
      have hR := HR.out
      have hs1 := HS1.out
      clear HK
      go_wp2_with fail
      go_quiet (fail)
      go_wp2_with fail
      clear hS hW hR
      have hb2 : Below w.heap.size w (wo.drewN nq) := hb1'.trans ((below_drewN wo nq).mono hb1'.size)
      clear hb1'
      refine (CW.out _ (HT.out.below hb2) (HM.out.below hb2)).mono ?_
      rintro e v1 ⟨rfl, hv1⟩
      have hz1 := hb2.trans (hv1.mono hb2.size)
      clear hb2 hv1
      go_wp2_with fail
      refine (awake02 _ (HT.out.below hz1) (HM.out.below hz1)).mono ?_
      rintro e v2 ⟨rfl, hv2⟩
      have hz2 := hz1.trans (hv2.mono hz1.size)
      clear hz1 hv2
      go_wp2_with fail
      refine (CA.out _ (HT.out.below hz2)).mono ?_
      rintro e v3 ⟨rfl, hv3⟩
      have hz3 := hz2.trans (hv3.mono hz2.size)
      clear hz2 hv3
      go_wp2_with fail
      refine (CRA.out _).mono ?_
      rintro e v4 ⟨rfl, hv4⟩
      have hz4 := hz3.trans (hv4.mono hz3.size)
      clear hz3 hv4
      go_wp2_with fail
      refine (CRW.out _).mono ?_
      rintro e v5 ⟨rfl, hv5⟩
      have hz5 := hz4.trans (hv5.mono hz4.size)
      clear hz4 hv5
      go_wp2_with fail
      refine (CRR.out _).mono ?_
      rintro e v6 ⟨rfl, hv6⟩
      have hz6 := hz5.trans (hv6.mono hz5.size)
      clear hz5 hv6
      go_wp2_with fail
      refine (CRW.out _).mono ?_
      rintro e v7 ⟨rfl, hv7⟩
      have hz7 := hz6.trans (hv7.mono hz6.size)
      clear hz6 hv7
      go_wp2_with fail
      go_ret
      exact ⟨rfl, hz7⟩
set_option maxRecDepth 100000 in
set_option maxHeartbeats 8000000 in
theorem names_no (s t A B S Wt Rt : ByteArray) (m n p : Nat) (Na : Bool) (w : World) (HT : Hid (Tabs w)) (HM : Hid (MaxL w)) (hm1 : m ≤ s.size) (hm3 : min (s.size : Int) 64 = (m : Int)) (hm4 : min m s.size = m)
    (hn1 : n ≤ t.size) (hn3 : min (t.size : Int) 20 = (n : Int)) (hn4 : min n t.size = n) (hm2 : m ≤ 64) (hn2 : n ≤ 20) (HA : Hid (s.extract 0 m = A)) (HBt : Hid (t.extract 0 n = B)) (hA : A.size ≤ 64) (hS : S.size ≤ 85) (hp : p < S.size) (hpA : p ≤ A.size)
    (HS : Hid (A ++ ⟨#[58]⟩ ++ B = S)) (HS1 : Hid (A.size + 1 + B.size = S.size)) (HW : Hid (A.extract 0 p = Wt)) (HR : Hid (S.extract (p + 1) S.size = Rt)) (HP : Hid (colonAt (bl A) = p))
    (CS : Hid (∀ w, Tabs w → MaxL w → Calls Tryd.prog 11 #[.string (A ++ ⟨#[58]⟩ ++ B)] w fun e w' => e = .returned (.tuple #[.string Wt, .string Rt, .bool false]) ∧ Below w.heap.size w w'))
    (CW : Hid (∀ w, Tabs w → MaxL w → Calls Tryd.prog 11 #[.string Wt] w fun e w' => e = .returned (.tuple #[.string ⟨#[]⟩, .string Wt, .bool false]) ∧ Below w.heap.size w w'))
    (CA : Hid (∀ w, Tabs w → Calls Tryd.prog 12 #[.string A] w fun e w' => e = .returned (.bool Na) ∧ Below w.heap.size w w'))
    (CRA : Hid (∀ w, Calls Tryd.prog 13 #[.string A] w fun e w' => e = .returned (.bool Na) ∧ Below w.heap.size w w'))
    (CRW : Hid (∀ w, Calls Tryd.prog 13 #[.string Wt] w fun e w' => e = .returned (.bool false) ∧ Below w.heap.size w w')) :
    Calls Tryd.prog 4 #[.string s, .string t] w fun e w' => e = .returned (.bool true) ∧ Below w.heap.size w w' := by
  go_enter Tryd.func4, Tryd.ntmps4
  go_wp2_with fail
  go_quiet (fail)
  go_wp2_with fail
  rw [HA.out, HBt.out]
  clear hm3 hn3 hm4 hn4 hm1 hn1 hm2 hn2
  refine (CS.out _ (HT.out.below (below_drewN w nq)) (HM.out.below (below_drewN w nq))).mono ?_
  rintro e w1 ⟨rfl, hb1⟩
  have hb1' : Below w.heap.size w w1 := (below_drewN w nq).trans hb1
  clear hb1
  go_wp2_with fail
  obtain ⟨wo, rfl⟩ : ∃ wo : World, wo = w1 := ⟨_, rfl⟩
  go_loop [10] (fun i => ∃ k : Nat, k ≤ A.size ∧ i = .int .i64 k ∧ Hid (colonAt (bl A) = k + colonAt ((bl A).drop k))) (fun i => A.size - (intOf i).toNat)
  case atStart => exact ⟨0, by omega, rfl, Lib.hid (by simp)⟩
  case round =>
    obtain ⟨k, hk, rfl, HK⟩ := hrel
    by_cases hin : k < A.size
    · have hin' : (k : Int) < (A.size : Int) := by omega
      obtain ⟨x, hx⟩ : ∃ x, A[k]'hin = x := ⟨_, rfl⟩
      have hn : nth (bl A) k = x.toNat := by rw [nth_get A k hin, hx]
      by_cases hc : x.toNat = 58
      · obtain rfl : k = p := (colon_off _ k (by rw [bl_size]; exact hin) (by rw [hn]; exact hc) HK.out).symm.trans HP.out
        have q1 : ((x.toNat : Int) == 58) = true := by simp; omega
        have q2 : ((x.toNat : Int) != 58) = false := by simp; omega
        have hS := HS.out
        have hW := HW.out
        have hR := HR.out
        have hs1 := HS1.out
        clear hc hn HK
        go_wp2_with fail
        go_quiet (fail)
        go_wp2_with fail
        clear hS hW hR
        have hb2 : Below w.heap.size w (wo.drewN nq) := hb1'.trans ((below_drewN wo nq).mono hb1'.size)
        clear hb1'
        refine (CW.out _ (HT.out.below hb2) (HM.out.below hb2)).mono ?_
        rintro e v1 ⟨rfl, hv1⟩
        have hz1 := hb2.trans (hv1.mono hb2.size)
        clear hb2 hv1
        go_wp2_with fail
        refine (awake02 _ (HT.out.below hz1) (HM.out.below hz1)).mono ?_
        rintro e v2 ⟨rfl, hv2⟩
        have hz2 := hz1.trans (hv2.mono hz1.size)
        clear hz1 hv2
        go_wp2_with fail
        refine (CA.out _ (HT.out.below hz2)).mono ?_
        rintro e v3 ⟨rfl, hv3⟩
        have hz3 := hz2.trans (hv3.mono hz2.size)
        clear hz2 hv3
        go_wp2_with fail
        refine (CRA.out _).mono ?_
        rintro e v4 ⟨rfl, hv4⟩
        have hz4 := hz3.trans (hv4.mono hz3.size)
        clear hz3 hv4
        go_wp2_with fail
        refine (CRW.out _).mono ?_
        rintro e v5 ⟨rfl, hv5⟩
        have hz5 := hz4.trans (hv5.mono hz4.size)
        clear hz4 hv5
        go_wp2_with fail
        refine (CRW.out _).mono ?_
        rintro e v6 ⟨rfl, hv6⟩
        have hz6 := hz5.trans (hv6.mono hz5.size)
        clear hz5 hv6
        go_wp2_with fail
        go_ret
        exact ⟨rfl, hz6⟩
      · have HN := Lib.hid (colon_on _ k (by rw [bl_size]; exact hin) (by rw [hn]; exact hc) HK.out)
        have q1 : ((x.toNat : Int) == 58) = false := by simp; omega
        have q2 : ((x.toNat : Int) != 58) = true := by simp; omega
        clear hc hn HK
        go_wp2_with fail
        go_round
        case rel => exact ⟨k + 1, by omega, by go_num, HN⟩
        case measure => simp [intOf]; omega
    · obtain rfl : k = p := (colon_end _ k (by rw [bl_size]; omega) HK.out).symm.trans HP.out
      have hS := HS.out
      have hW := HW.out
      have hR := HR.out
      have hs1 := HS1.out
      clear HK
      go_wp2_with fail
      go_quiet (fail)
      go_wp2_with fail
      clear hS hW hR
      have hb2 : Below w.heap.size w (wo.drewN nq) := hb1'.trans ((below_drewN wo nq).mono hb1'.size)
      clear hb1'
      refine (CW.out _ (HT.out.below hb2) (HM.out.below hb2)).mono ?_
      rintro e v1 ⟨rfl, hv1⟩
      have hz1 := hb2.trans (hv1.mono hb2.size)
      clear hb2 hv1
      go_wp2_with fail
      refine (awake02 _ (HT.out.below hz1) (HM.out.below hz1)).mono ?_
      rintro e v2 ⟨rfl, hv2⟩
      have hz2 := hz1.trans (hv2.mono hz1.size)
      clear hz1 hv2
      go_wp2_with fail
      refine (CA.out _ (HT.out.below hz2)).mono ?_
      rintro e v3 ⟨rfl, hv3⟩
      have hz3 := hz2.trans (hv3.mono hz2.size)
      clear hz2 hv3
      go_wp2_with fail
      refine (CRA.out _).mono ?_
      rintro e v4 ⟨rfl, hv4⟩
      have hz4 := hz3.trans (hv4.mono hz3.size)
      clear hz3 hv4
      go_wp2_with fail
      refine (CRW.out _).mono ?_
      rintro e v5 ⟨rfl, hv5⟩
      have hz5 := hz4.trans (hv5.mono hz4.size)
      clear hz4 hv5
      go_wp2_with fail
      refine (CRW.out _).mono ?_
      rintro e v6 ⟨rfl, hv6⟩
      have hz6 := hz5.trans (hv6.mono hz5.size)
      clear hz5 hv6
      go_wp2_with fail
      go_ret
      exact ⟨rfl, hz6⟩

/-- **The law CharsNames.** -/
theorem names_any (s t : ByteArray) (w : World) (hT : Tabs w) (hM : MaxL w) :
    Calls Tryd.prog 4 #[.string s, .string t] w fun e w' => e = .returned (.bool true) ∧ Below w.heap.size w w' := by
  obtain ⟨m, hm1, hm2, _, Hm3, Hm4⟩ := min8 s.size 64
  obtain ⟨n, hn1, hn2, _, Hn3, Hn4⟩ := min8 t.size 20
  obtain ⟨A, hA⟩ : ∃ A, s.extract 0 m = A := ⟨_, rfl⟩
  obtain ⟨B, hB⟩ : ∃ B, t.extract 0 n = B := ⟨_, rfl⟩
  have hAs : A.size = m := by rw [← bl_size, ← hA, cut_bl, List.length_take, bl_size]; omega
  have hBs : B.size = n := by rw [← bl_size, ← hB, cut_bl, List.length_take, bl_size]; omega
  obtain ⟨S, hS⟩ : ∃ S, A ++ (⟨#[58]⟩ : ByteArray) ++ B = S := ⟨_, rfl⟩
  have hSl : bl S = bl A ++ 58 :: bl B := by rw [← hS, bl_append, bl_append, List.append_assoc]; rfl
  have hSs : A.size + 1 + B.size = S.size := by rw [← bl_size S, hSl, List.length_append, List.length_cons, bl_size, bl_size]; omega
  obtain ⟨p, hp⟩ : ∃ p, colonAt (bl A) = p := ⟨_, rfl⟩
  have hpA : p ≤ A.size := by rw [← hp, ← bl_size]; exact colonAt_le _
  have hW : A.extract 0 p = str ((bl A).take (colonAt (bl A))) := by rw [← bl_str (A.extract 0 p), cut_bl, hp]
  have hR : S.extract (p + 1) S.size = str ((bl A ++ 58 :: bl B).drop (colonAt (bl A) + 1)) := by rw [← bl_str (S.extract (p + 1) S.size), bl_from, hp, hSl]
  have hWs : (str ((bl A).take (colonAt (bl A)))).size ≤ 64 := by rw [str_size, List.length_take, bl_size]; omega
  have hRs : (str ((bl A ++ 58 :: bl B).drop (colonAt (bl A) + 1))).size ≤ 85 := by
    rw [str_size, List.length_drop, ← hSl, bl_size]; omega
  have cs := fun w (h : Tabs w) (h' : MaxL w) => csplit S w (by omega) h h'
  rw [hSl, split_colon] at cs
  have cw := fun w (h : Tabs w) (h' : MaxL w) => csplit (str ((bl A).take (colonAt (bl A)))) w (by omega) h h'
  rw [str_bl, split_none _ (colonAt_take _)] at cw
  simp only at cs cw
  have crw := fun w => rname (str ((bl A).take (colonAt (bl A)))) w (by omega)
  have crr := fun w => rname (str ((bl A ++ 58 :: bl B).drop (colonAt (bl A) + 1))) w (by omega)
  rw [str_bl] at crw crr
  have ca := fun w (h : Tabs w) => cname A w (by omega) h
  have cra := fun w => rname A w (by omega)
  rw [← hS] at cs
  have hs : str [] = (⟨#[]⟩ : ByteArray) := rfl
  rw [hs] at cw
  generalize str ((bl A).take (colonAt (bl A))) = Wt at *
  generalize str ((bl A ++ 58 :: bl B).drop (colonAt (bl A) + 1)) = Rt at *
  generalize nameL ((bl A).take (colonAt (bl A))) = Nw at *
  generalize nameL ((bl A ++ 58 :: bl B).drop (colonAt (bl A) + 1)) = Nr at *
  generalize nameL (bl A) = Na at *
  cases Nw with
  | true =>
    exact names_yes s t A B S Wt Rt m n p Na Nr w (Lib.hid hT) (Lib.hid hM) hm1 Hm3.out Hm4.out hn1 Hn3.out Hn4.out hm2 hn2 (Lib.hid hA) (Lib.hid hB) (by omega) (by omega) (by omega) hpA (Lib.hid hS) (Lib.hid hSs) (Lib.hid hW) (Lib.hid hR) (Lib.hid hp) (Lib.hid cs) (Lib.hid cw) (Lib.hid ca) (Lib.hid cra) (Lib.hid crw) (Lib.hid crr)
  | false =>
    exact names_no s t A B S Wt Rt m n p Na w (Lib.hid hT) (Lib.hid hM) hm1 Hm3.out Hm4.out hn1 Hn3.out Hn4.out hm2 hn2 (Lib.hid hA) (Lib.hid hB) (by omega) (by omega) (by omega) hpA (Lib.hid hS) (Lib.hid hSs) (Lib.hid hW) (Lib.hid hR) (Lib.hid hp) (Lib.hid cs) (Lib.hid cw) (Lib.hid ca) (Lib.hid cra) (Lib.hid crw)

end Go.Proofs.YtokkdmaeodpbkaaDoor
