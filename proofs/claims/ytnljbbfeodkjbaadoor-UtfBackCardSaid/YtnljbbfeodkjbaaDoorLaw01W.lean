/-
  The walks of layer 1's laws: galliardlaw01.UtfBack, UtfGet, UtfBad.
-/
import Derived.Test.YtnljbbfeodkjbaaDoorUtfRun
namespace Go.Proofs.YtnljbbfeodkjbaaDoor
open Go.RowKit

theorem putS_no (r : Int) (h : mayB r = false) : putS r = ⟨#[]⟩ := by unfold putS; rw [put_nil r h]
theorem bl_append (s t : ByteArray) : bl (s ++ t) = bl s ++ bl t := by unfold bl; simp
theorem min8 (n k : Nat) : ∃ m : Nat, m ≤ n ∧ m ≤ k ∧ (m = n ∨ m = k) ∧ Hid (min (n : Int) (k : Int) = (m : Int)) ∧ Hid (min m n = m) :=
  ⟨min n k, by omega, by omega, by omega, Lib.hid (by omega), Lib.hid (by omega)⟩
theorem cut_bl (s : ByteArray) (m : Nat) : bl (s.extract 0 m) = (bl s).take m := sub_list s m
set_option maxRecDepth 100000 in
set_option maxHeartbeats 2000000 in
theorem back_yes (r : Int) (more : ByteArray) (w : World) (hT : Tabs w) (h : mayB r = true) :
    Calls Tryd.prog 3 #[.int .i64 r, .string more] w fun e w' => e = .returned (.bool true) ∧ Below w.heap.size w w' := by
  have HT := Lib.hid hT; clear hT
  obtain ⟨m, hm1, hm2, _, Hm3, Hm4⟩ := min8 more.size 8
  have hm3 : min (more.size : Int) 8 = (m : Int) := Hm3.out
  have hm4 := Hm4.out
  obtain ⟨P, hP⟩ : ∃ P, putS r = P := ⟨_, rfl⟩
  have hPs : P.size ≤ 4 := by rw [← hP, putS_size]; exact put_len r
  have c1 : ∀ w, Calls Tryd.prog 6 #[.int .i64 r] w fun e w' => e = .returned (.string P) ∧ Below w.heap.size w w' := fun w => by rw [← hP]; exact rput r w
  have c2 : ∀ w, Tabs w → Calls Tryd.prog 7 #[.string (more.extract 0 m ++ P), .int .i64 m] w fun e w' => e = .returned (.tuple #[.int .i64 r, .int .i64 P.size]) ∧ Below w.heap.size w w' := fun w hT => by
    have c := uget (more.extract 0 m ++ P) m w hT
    have hl : ((bl more).take m).length = m := by rw [List.length_take, bl_size]; omega
    rw [getAt_nat, bl_append, cut_bl, List.drop_left' hl, ← hP, show bl (putS r) = put r from putS_list r, show put r = put r ++ [] by simp, gl_put r h, ← putS_size, hP] at c
    exact c
  have c3 : ∀ w, Calls Tryd.prog 10 #[.int .i64 r] w fun e w' => e = .returned (.string P) ∧ w = w' := fun w => by rw [← hP]; exact uput r w
  have c4 : ∀ w, Calls Tryd.prog 11 #[.int .i64 r] w fun e w' => e = .returned (.int .i64 P.size) ∧ w = w' := fun w => by rw [← hP]; exact usize r w
  have C1 := Lib.hid c1; clear c1
  have C2 := Lib.hid c2; clear c2
  have C3 := Lib.hid c3; clear c3
  have C4 := Lib.hid c4; clear c4
  have C5 := Lib.hid (fun w => may_yes r w h)
  have hPe : P.toList.isEmpty = false := by
    have hp1 := put_pos r h
    rw [Lib.toList_data, ← hP, putS_list]
    cases hq : put r with
    | nil => rw [hq] at hp1; simp at hp1
    | cons _ _ => rfl
  clear h hP
  go_enter Tryd.func3, Tryd.ntmps3
  go_wp2_with fail
  refine (C1.out _).mono ?_
  rintro e w1 ⟨rfl, hb1⟩
  go_wp2_with fail
  refine (C2.out _ (HT.out.below hb1)).mono ?_
  rintro e w2 ⟨rfl, hb2⟩
  have hb2' := hb1.trans (hb2.mono hb1.size)
  clear hb1 hb2
  go_wp2_with fail
  refine (awake01 _ (HT.out.below hb2')).mono ?_
  rintro e w3 ⟨rfl, hb3⟩
  have hb3' := hb2'.trans (hb3.mono hb2'.size)
  clear hb2' hb3
  go_wp2_with fail
  refine (C5.out _).mono ?_
  rintro e w4 ⟨rfl, rfl⟩
  go_wp2_with fail
  refine (C3.out _).mono ?_
  rintro e w4 ⟨rfl, rfl⟩
  go_wp2_with fail
  refine (C4.out _).mono ?_
  rintro e w4 ⟨rfl, rfl⟩
  go_wp2_with fail
  go_ret
  exact ⟨rfl, hb3'⟩

set_option maxRecDepth 100000 in
set_option maxHeartbeats 2000000 in
theorem back_lo (r : Int) (more : ByteArray) (w : World) (hT : Tabs w) (hr : r < 0) :
    Calls Tryd.prog 3 #[.int .i64 r, .string more] w fun e w' => e = .returned (.bool true) ∧ Below w.heap.size w w' := by
  have h : mayB r = false := by unfold mayB; simp; omega
  have HT := Lib.hid hT; clear hT
  obtain ⟨m, hm1, hm2, _, Hm3, Hm4⟩ := min8 more.size 8
  have hm3 : min (more.size : Int) 8 = (m : Int) := Hm3.out
  have hm4 := Hm4.out
  obtain ⟨P, hP⟩ : ∃ P, putS r = P := ⟨_, rfl⟩
  have hPs : P.size ≤ 4 := by rw [← hP, putS_size]; exact put_len r
  have c1 : ∀ w, Calls Tryd.prog 6 #[.int .i64 r] w fun e w' => e = .returned (.string P) ∧ Below w.heap.size w w' := fun w => by rw [← hP]; exact rput r w
  obtain ⟨X, N, c2⟩ : ∃ X N, ∀ w, Tabs w → Calls Tryd.prog 7 #[.string (more.extract 0 m ++ P), .int .i64 m] w fun e w' => e = .returned (.tuple #[.int .i64 X, .int .i64 N]) ∧ Below w.heap.size w w' :=
    ⟨_, _, fun w hT => uget (more.extract 0 m ++ P) m w hT⟩
  have c3 : ∀ w, Calls Tryd.prog 10 #[.int .i64 r] w fun e w' => e = .returned (.string P) ∧ w = w' := fun w => by rw [← hP]; exact uput r w
  have c4 : ∀ w, Calls Tryd.prog 11 #[.int .i64 r] w fun e w' => e = .returned (.int .i64 P.size) ∧ w = w' := fun w => by rw [← hP]; exact usize r w
  have C1 := Lib.hid c1; clear c1
  have C2 := Lib.hid c2; clear c2
  have C3 := Lib.hid c3; clear c3
  have C4 := Lib.hid c4; clear c4
  have C5 := Lib.hid (fun w => may_no r w h)
  have hPe : P.toList.isEmpty = true := by
    rw [Lib.toList_data, ← hP, putS_list, put_nil r h]; rfl
  clear h hP
  go_enter Tryd.func3, Tryd.ntmps3
  go_wp2_with fail
  refine (C1.out _).mono ?_
  rintro e w1 ⟨rfl, hb1⟩
  go_wp2_with fail
  refine (C2.out _ (HT.out.below hb1)).mono ?_
  rintro e w2 ⟨rfl, hb2⟩
  have hb2' := hb1.trans (hb2.mono hb1.size)
  clear hb1 hb2
  go_wp2_with fail
  refine (awake01 _ (HT.out.below hb2')).mono ?_
  rintro e w3 ⟨rfl, hb3⟩
  have hb3' := hb2'.trans (hb3.mono hb2'.size)
  clear hb2' hb3
  go_wp2_with fail
  refine (C5.out _).mono ?_
  rintro e w4 ⟨rfl, rfl⟩
  go_wp2_with fail
  refine (C3.out _).mono ?_
  rintro e w4 ⟨rfl, rfl⟩
  go_wp2_with fail
  refine (C4.out _).mono ?_
  rintro e w4 ⟨rfl, rfl⟩
  go_wp2_with fail
  go_ret
  exact ⟨rfl, hb3'⟩
set_option maxRecDepth 100000 in
set_option maxHeartbeats 2000000 in
theorem back_hi (r : Int) (more : ByteArray) (w : World) (hT : Tabs w) (hr : 1114111 < r) :
    Calls Tryd.prog 3 #[.int .i64 r, .string more] w fun e w' => e = .returned (.bool true) ∧ Below w.heap.size w w' := by
  have h : mayB r = false := by unfold mayB; simp; omega
  have HT := Lib.hid hT; clear hT
  obtain ⟨m, hm1, hm2, _, Hm3, Hm4⟩ := min8 more.size 8
  have hm3 : min (more.size : Int) 8 = (m : Int) := Hm3.out
  have hm4 := Hm4.out
  obtain ⟨P, hP⟩ : ∃ P, putS r = P := ⟨_, rfl⟩
  have hPs : P.size ≤ 4 := by rw [← hP, putS_size]; exact put_len r
  have c1 : ∀ w, Calls Tryd.prog 6 #[.int .i64 r] w fun e w' => e = .returned (.string P) ∧ Below w.heap.size w w' := fun w => by rw [← hP]; exact rput r w
  obtain ⟨X, N, c2⟩ : ∃ X N, ∀ w, Tabs w → Calls Tryd.prog 7 #[.string (more.extract 0 m ++ P), .int .i64 m] w fun e w' => e = .returned (.tuple #[.int .i64 X, .int .i64 N]) ∧ Below w.heap.size w w' :=
    ⟨_, _, fun w hT => uget (more.extract 0 m ++ P) m w hT⟩
  have c3 : ∀ w, Calls Tryd.prog 10 #[.int .i64 r] w fun e w' => e = .returned (.string P) ∧ w = w' := fun w => by rw [← hP]; exact uput r w
  have c4 : ∀ w, Calls Tryd.prog 11 #[.int .i64 r] w fun e w' => e = .returned (.int .i64 P.size) ∧ w = w' := fun w => by rw [← hP]; exact usize r w
  have C1 := Lib.hid c1; clear c1
  have C2 := Lib.hid c2; clear c2
  have C3 := Lib.hid c3; clear c3
  have C4 := Lib.hid c4; clear c4
  have C5 := Lib.hid (fun w => may_no r w h)
  have hPe : P.toList.isEmpty = true := by
    rw [Lib.toList_data, ← hP, putS_list, put_nil r h]; rfl
  clear h hP
  have f1 : ¬ r < 0 := by omega
  go_enter Tryd.func3, Tryd.ntmps3
  go_wp2_with fail
  refine (C1.out _).mono ?_
  rintro e w1 ⟨rfl, hb1⟩
  go_wp2_with fail
  refine (C2.out _ (HT.out.below hb1)).mono ?_
  rintro e w2 ⟨rfl, hb2⟩
  have hb2' := hb1.trans (hb2.mono hb1.size)
  clear hb1 hb2
  go_wp2_with fail
  refine (awake01 _ (HT.out.below hb2')).mono ?_
  rintro e w3 ⟨rfl, hb3⟩
  have hb3' := hb2'.trans (hb3.mono hb2'.size)
  clear hb2' hb3
  go_wp2_with fail
  refine (C5.out _).mono ?_
  rintro e w4 ⟨rfl, rfl⟩
  go_wp2_with fail
  refine (C3.out _).mono ?_
  rintro e w4 ⟨rfl, rfl⟩
  go_wp2_with fail
  refine (C4.out _).mono ?_
  rintro e w4 ⟨rfl, rfl⟩
  go_wp2_with fail
  go_ret
  exact ⟨rfl, hb3'⟩
set_option maxRecDepth 100000 in
set_option maxHeartbeats 2000000 in
theorem back_half (r : Int) (more : ByteArray) (w : World) (hT : Tabs w) (hr : 55296 ≤ r) (hr' : r ≤ 57343) :
    Calls Tryd.prog 3 #[.int .i64 r, .string more] w fun e w' => e = .returned (.bool true) ∧ Below w.heap.size w w' := by
  have h : mayB r = false := by unfold mayB; simp; omega
  have HT := Lib.hid hT; clear hT
  obtain ⟨m, hm1, hm2, _, Hm3, Hm4⟩ := min8 more.size 8
  have hm3 : min (more.size : Int) 8 = (m : Int) := Hm3.out
  have hm4 := Hm4.out
  obtain ⟨P, hP⟩ : ∃ P, putS r = P := ⟨_, rfl⟩
  have hPs : P.size ≤ 4 := by rw [← hP, putS_size]; exact put_len r
  have c1 : ∀ w, Calls Tryd.prog 6 #[.int .i64 r] w fun e w' => e = .returned (.string P) ∧ Below w.heap.size w w' := fun w => by rw [← hP]; exact rput r w
  obtain ⟨X, N, c2⟩ : ∃ X N, ∀ w, Tabs w → Calls Tryd.prog 7 #[.string (more.extract 0 m ++ P), .int .i64 m] w fun e w' => e = .returned (.tuple #[.int .i64 X, .int .i64 N]) ∧ Below w.heap.size w w' :=
    ⟨_, _, fun w hT => uget (more.extract 0 m ++ P) m w hT⟩
  have c3 : ∀ w, Calls Tryd.prog 10 #[.int .i64 r] w fun e w' => e = .returned (.string P) ∧ w = w' := fun w => by rw [← hP]; exact uput r w
  have c4 : ∀ w, Calls Tryd.prog 11 #[.int .i64 r] w fun e w' => e = .returned (.int .i64 P.size) ∧ w = w' := fun w => by rw [← hP]; exact usize r w
  have C1 := Lib.hid c1; clear c1
  have C2 := Lib.hid c2; clear c2
  have C3 := Lib.hid c3; clear c3
  have C4 := Lib.hid c4; clear c4
  have C5 := Lib.hid (fun w => may_no r w h)
  have hPe : P.toList.isEmpty = true := by
    rw [Lib.toList_data, ← hP, putS_list, put_nil r h]; rfl
  clear h hP
  have f1 : ¬ r < 0 := by omega
  have f2 : ¬ 1114111 < r := by omega
  go_enter Tryd.func3, Tryd.ntmps3
  go_wp2_with fail
  refine (C1.out _).mono ?_
  rintro e w1 ⟨rfl, hb1⟩
  go_wp2_with fail
  refine (C2.out _ (HT.out.below hb1)).mono ?_
  rintro e w2 ⟨rfl, hb2⟩
  have hb2' := hb1.trans (hb2.mono hb1.size)
  clear hb1 hb2
  go_wp2_with fail
  refine (awake01 _ (HT.out.below hb2')).mono ?_
  rintro e w3 ⟨rfl, hb3⟩
  have hb3' := hb2'.trans (hb3.mono hb2'.size)
  clear hb2' hb3
  go_wp2_with fail
  refine (C5.out _).mono ?_
  rintro e w4 ⟨rfl, rfl⟩
  go_wp2_with fail
  refine (C3.out _).mono ?_
  rintro e w4 ⟨rfl, rfl⟩
  go_wp2_with fail
  refine (C4.out _).mono ?_
  rintro e w4 ⟨rfl, rfl⟩
  go_wp2_with fail
  go_ret
  exact ⟨rfl, hb3'⟩
/-- **The law UtfBack.** -/
theorem back_any (r : Int) (more : ByteArray) (w : World) (hT : Tabs w) :
    Calls Tryd.prog 3 #[.int .i64 r, .string more] w fun e w' => e = .returned (.bool true) ∧ Below w.heap.size w w' := by
  cases h : mayB r with
  | true => exact back_yes r more w hT h
  | false =>
    have h' : r < 0 ∨ 1114111 < r ∨ (55296 ≤ r ∧ r ≤ 57343) := by unfold mayB at h; have := of_decide_eq_false h; omega
    rcases h' with h' | h' | h'
    · exact back_lo r more w hT h'
    · exact back_hi r more w hT h'
    · exact back_half r more w hT h'.1 h'.2

/-! ### UtfGet -/
set_option maxHeartbeats 2000000 in
theorem get_out (s : ByteArray) (k : Int) (w : World) (hT : Tabs w) (h : k < 0 ∨ 12 ≤ k ∨ (s.size : Int) ≤ k) :
    Calls Tryd.prog 4 #[.string s, .int .i64 k] w fun e w' => e = .returned (.bool true) ∧ Below w.heap.size w w' := by
  have HT := Lib.hid hT; clear hT
  obtain ⟨m, hm1, hm2, hm0, Hm3, Hm4⟩ := min8 s.size 12
  have hm3 : min (s.size : Int) 12 = (m : Int) := Hm3.out
  have hm4 := Hm4.out
  have hmk : k < 0 ∨ (m : Int) ≤ k := by omega
  clear h
  have c2 : ∀ w, Tabs w → Calls Tryd.prog 7 #[.string (s.extract 0 m), .int .i64 k] w fun e w' => e = .returned (.tuple #[.int .i64 0, .int .i64 0]) ∧ Below w.heap.size w w' := fun w hT => by
    have c := uget (s.extract 0 m) k w hT
    rw [getAt_out] at c
    · exact c
    · rw [cut_bl, List.length_take, bl_size]; omega
  have C2 := Lib.hid c2; clear c2
  rcases hmk with hk | hk
  · go_enter Tryd.func4, Tryd.ntmps4
    go_wp2_with fail
    refine (C2.out _ HT.out).mono ?_
    rintro e w1 ⟨rfl, hb1⟩
    go_wp2_with fail
    refine (awake01 _ (HT.out.below hb1)).mono ?_
    rintro e w3 ⟨rfl, hb3⟩
    go_wp2_with fail
    go_ret
    exact ⟨rfl, hb1.trans (hb3.mono hb1.size)⟩
  · have h0 : 0 ≤ k := by omega
    go_enter Tryd.func4, Tryd.ntmps4
    go_wp2_with fail
    refine (C2.out _ HT.out).mono ?_
    rintro e w1 ⟨rfl, hb1⟩
    go_wp2_with fail
    refine (awake01 _ (HT.out.below hb1)).mono ?_
    rintro e w3 ⟨rfl, hb3⟩
    go_wp2_with fail
    go_ret
    exact ⟨rfl, hb1.trans (hb3.mono hb1.size)⟩

set_option maxHeartbeats 2000000 in
theorem get_in (s : ByteArray) (k : Nat) (w : World) (hT : Tabs w) (h : k < 12) (h' : k < s.size) :
    Calls Tryd.prog 4 #[.string s, .int .i64 k] w fun e w' => e = .returned (.bool true) ∧ Below w.heap.size w w' := by
  have HT := Lib.hid hT; clear hT
  obtain ⟨m, hm1, hm2, hm0, Hm3, Hm4⟩ := min8 s.size 12
  have hm3 : min (s.size : Int) 12 = (m : Int) := Hm3.out
  have hm4 := Hm4.out
  have hmk : k < m := by omega
  have Hmk := Lib.hid hmk
  clear hm0 h h' hmk
  obtain ⟨T, hTe⟩ : ∃ T, s.extract 0 m = T := ⟨_, rfl⟩
  have hTs : T.size = m := by
    rw [← bl_size, ← hTe, cut_bl, List.length_take, bl_size]; omega
  obtain ⟨X, N, c1, c2⟩ : ∃ X N, (∀ w, Tabs w → Calls Tryd.prog 7 #[.string T, .int .i64 k] w fun e w' => e = .returned (.tuple #[.int .i64 X, .int .i64 N]) ∧ Below w.heap.size w w') ∧
      (∀ w, Calls Tryd.prog 12 #[.string (T.extract k T.size)] w fun e w' => e = .returned (.tuple #[.int .i64 X, .int .i64 N]) ∧ Below w.heap.size w w') :=
    ⟨_, _, fun w hT => uget_in T k w (by rw [hTs]; exact Hmk.out) hT, fun w => by rw [← bl_from]; exact rget _ w (Nat.le_trans (size_from T k) (by omega))⟩
  have C1 := Lib.hid c1; clear c1
  have C2 := Lib.hid c2; clear c2
  have hk1 : (k : Int) < (T.size : Int) := by rw [hTs]; have := Hmk.out; omega
  have hT12 : T.size ≤ 12 := by omega
  have HTe := Lib.hid hTe
  clear hTs hTe
  go_enter Tryd.func4, Tryd.ntmps4
  go_wp2_with fail
  rw [HTe.out]
  refine (C1.out _ HT.out).mono ?_
  rintro e w1 ⟨rfl, hb1⟩
  go_wp2_with fail
  refine (C2.out _).mono ?_
  rintro e w2 ⟨rfl, hb2⟩
  have hb2' := hb1.trans (hb2.mono hb1.size)
  clear hb1 hb2
  go_wp2_with fail
  refine (awake01 _ (HT.out.below hb2')).mono ?_
  rintro e w3 ⟨rfl, hb3⟩
  have hb3' := hb2'.trans (hb3.mono hb2'.size)
  clear hb2' hb3
  go_wp2_with fail
  go_ret
  exact ⟨rfl, hb3'⟩
/-- **The law UtfGet.** -/
theorem get_any (s : ByteArray) (k : Int) (w : World) (hT : Tabs w) :
    Calls Tryd.prog 4 #[.string s, .int .i64 k] w fun e w' => e = .returned (.bool true) ∧ Below w.heap.size w w' := by
  by_cases h : k < 0 ∨ 12 ≤ k ∨ (s.size : Int) ≤ k
  · exact get_out s k w hT h
  · obtain ⟨n, rfl⟩ := Int.eq_ofNat_of_zero_le (by omega : 0 ≤ k)
    exact get_in s n w hT (by omega) (by omega)

/-! ### UtfBad -/
set_option maxHeartbeats 2000000 in
/-- **The law UtfBad.** -/
theorem bad_any (s : ByteArray) (w : World) (hT : Tabs w) :
    Calls Tryd.prog 5 #[.string s] w fun e w' => e = .returned (.bool true) ∧ Below w.heap.size w w' := by
  have HT := Lib.hid hT; clear hT
  obtain ⟨m, hm1, hm2, hm0, Hm3, Hm4⟩ := min8 s.size 40
  have hm3 : min (s.size : Int) 40 = (m : Int) := Hm3.out
  have hm4 := Hm4.out
  clear hm0
  obtain ⟨T, hTe⟩ : ∃ T, s.extract 0 m = T := ⟨_, rfl⟩
  have hTs : T.size = m := by
    rw [← bl_size, ← hTe, cut_bl, List.length_take, bl_size]; omega
  have hT40 : T.size ≤ 40 := by omega
  have hTm : T.size ≤ 9223372036854775807 := by omega
  have HTm := Lib.hid hTm; clear hTm
  have CB := Lib.hid (fun w (h : Tabs w) => ubad T w HTm.out h)
  have CR := Lib.hid (fun w => rbad T w HTm.out)
  have CN := Lib.hid (fun w (h : Tabs w) => ucount T w HTm.out h)
  have HTe := Lib.hid hTe
  have HBS := Lib.hid (bl_size T)
  clear hTs hTe
  go_enter Tryd.func5, Tryd.ntmps5
  go_wp2_with fail
  rw [HTe.out]
  go_loopg [4, 5] T.size (fun g c e wr => ∃ (n k : Nat), g + k = T.size ∧ c = .int .i64 n ∧ e = .int .i64 k ∧ Below w.heap.size w wr ∧ Hid (Gone (bl T) n k))
  case atStart => exact ⟨0, 0, rfl, rfl, rfl, Below.refl _ _, Lib.hid (Gone.start _)⟩
  case round =>
    obtain ⟨n, k, hg, rfl, rfl, hb, HK⟩ := hrel
    by_cases hin : (k : Int) < (T.size : Int)
    · have c := rget (T.extract k T.size) wr (Nat.le_trans (size_from T k) HTm.out)
      rw [bl_from] at c
      have hp := gl_pos ((bl T).drop k)
      have hle := HK.out.2.1
      obtain ⟨X, hX⟩ : ∃ X, (gl ((bl T).drop k)).1 = X := ⟨_, rfl⟩
      obtain ⟨Y, hY⟩ : ∃ Y, (gl ((bl T).drop k)).2 = Y := ⟨_, rfl⟩
      rw [hX, hY] at c
      have hdl : ((bl T).drop k).length = T.size - k := by rw [List.length_drop, HBS.out]
      rw [hdl, hY] at hp
      have C := Lib.hid c; clear c
      have HY := Lib.hid hY; clear hY
      clear hX hdl
      have hy0 := hp.1
      have hy1 : Y ≤ T.size - k := by have := hp.2.1; omega
      clear hp
      by_cases hz : Y = 0
      · have HR := Lib.hid (HK.out.stop (by rw [HY.out]; exact hz))
        have hzb : (Y == 0) = true := by simp [hz]
        clear hz
        go_wp2_with (go_at_call 12; refine C.out.mono ?_; rintro e w1 ⟨rfl, hb1⟩)
        refine (awake01 _ (HT.out.below (hb.trans (hb1.mono hb.size)))).mono ?_
        rintro e w2 ⟨rfl, hb2⟩
        have hb2' := (hb.trans (hb1.mono hb.size)).trans (hb2.mono (hb.trans (hb1.mono hb.size)).size)
        clear hb2
        go_wp2_with fail
        refine (CB.out _ (HT.out.below hb2')).mono ?_
        rintro e w3 ⟨rfl, hb3⟩
        have hb3' := hb2'.trans (hb3.mono hb2'.size)
        clear hb2' hb3
        go_wp2_with fail
        refine (CR.out _).mono ?_
        rintro e w4 ⟨rfl, hb4⟩
        have hb4' := hb3'.trans (hb4.mono hb3'.size)
        clear hb3' hb4
        go_wp2_with fail
        refine (CN.out _ (HT.out.below hb4')).mono ?_
        rintro e w5 ⟨rfl, hb5⟩
        have hb5' := hb4'.trans (hb5.mono hb4'.size)
        clear hb4' hb5
        rw [HR.out]
        go_wp2_with fail
        go_ret
        exact ⟨rfl, hb5'⟩
      · have hzb : (Y == 0) = false := by simp [hz]
        have hst := HK.out.step (by rw [HY.out]; exact hz)
        rw [HY.out] at hst
        have HS := Lib.hid hst; clear hst
        have hyp : 1 ≤ Y := by omega
        clear hz
        go_wp2_with (go_at_call 12; refine C.out.mono ?_; rintro e w1 ⟨rfl, hb1⟩)
        go_roundg (T.size - (k + Y.toNat))
        case measure => omega
        case rel => exact ⟨n + 1, k + Y.toNat, by omega, by go_num, congrArg (Value.int .i64) (by omega), hb.trans (hb1.mono hb.size), HS⟩
    · have HR := Lib.hid (HK.out.whole (by rw [HBS.out]; omega))
      go_wp2_with fail
      refine (awake01 _ (HT.out.below hb)).mono ?_
      rintro e w2 ⟨rfl, hb2⟩
      have hb2' := (hb).trans (hb2.mono (hb).size)
      clear hb2
      go_wp2_with fail
      refine (CB.out _ (HT.out.below hb2')).mono ?_
      rintro e w3 ⟨rfl, hb3⟩
      have hb3' := hb2'.trans (hb3.mono hb2'.size)
      clear hb2' hb3
      go_wp2_with fail
      refine (CR.out _).mono ?_
      rintro e w4 ⟨rfl, hb4⟩
      have hb4' := hb3'.trans (hb4.mono hb3'.size)
      clear hb3' hb4
      go_wp2_with fail
      refine (CN.out _ (HT.out.below hb4')).mono ?_
      rintro e w5 ⟨rfl, hb5⟩
      have hb5' := hb4'.trans (hb5.mono hb4'.size)
      clear hb4' hb5
      rw [HR.out]
      go_wp2_with fail
      go_ret
      exact ⟨rfl, hb5'⟩

end Go.Proofs.YtnljbbfeodkjbaaDoor
