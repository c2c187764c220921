/-
  The walks of layer 2's laws: galliardlaw02.CharsLetters, CharsNames, CharsBlanks.
-/
import Derived.Test.YtokkdmaeodpbkaaDoorCharsTrim
namespace Go.Proofs.YtokkdmaeodpbkaaDoor
open Go.RowKit

/-! ### galliardlaw02.awake -/
set_option maxRecDepth 100000 in
set_option maxHeartbeats 2000000 in
theorem awake02 (w : World) (hT : Tabs w) (hM : MaxL w) :
    Calls Tryd.prog 8 #[] w fun e w' => e = .returned (.bool true) ∧ Below w.heap.size w w' := by
  have HT := Lib.hid hT; clear hT
  have HM := Lib.hid hM; clear hM
  have c1 : ∀ w, Tabs w → MaxL w → Calls Tryd.prog 11 #[.string ⟨#[97, 58, 98]⟩] w fun e w' => e = .returned (.tuple #[.string ⟨#[97]⟩, .string ⟨#[98]⟩, .bool true]) ∧ Below w.heap.size w w' :=
    fun w h h' => csplit ⟨#[97, 58, 98]⟩ w (by decide) h h'
  have c2 : ∀ w, Tabs w → Calls Tryd.prog 12 #[.string ⟨#[120, 45, 49]⟩] w fun e w' => e = .returned (.bool true) ∧ Below w.heap.size w w' := fun w h => cname ⟨#[120, 45, 49]⟩ w (by decide) h
  have c3 : ∀ w, Tabs w → Calls Tryd.prog 12 #[.string ⟨#[49, 120]⟩] w fun e w' => e = .returned (.bool false) ∧ Below w.heap.size w w' := fun w h => cname ⟨#[49, 120]⟩ w (by decide) h
  have c4 : ∀ w, Calls Tryd.prog 14 #[.string ⟨#[32, 97, 32]⟩] w fun e w' => e = .returned (.string ⟨#[97]⟩) ∧ Below w.heap.size w w' := fun w => ctrim ⟨#[32, 97, 32]⟩ w (by decide)
  have C1 := Lib.hid c1; clear c1
  have C2 := Lib.hid c2; clear c2
  have C3 := Lib.hid c3; clear c3
  have C4 := Lib.hid c4; clear c4
  go_enter Tryd.func8, Tryd.ntmps8
  go_wp2_with fail
  refine (C1.out _ HT.out HM.out).mono ?_
  rintro e w1 ⟨rfl, hb1⟩
  go_wp2_with fail
  refine (C2.out _ (HT.out.below hb1)).mono ?_
  rintro e w2 ⟨rfl, hb2⟩
  have hb2' := hb1.trans (hb2.mono hb1.size)
  clear hb1 hb2
  go_wp2_with fail
  refine (C3.out _ (HT.out.below hb2')).mono ?_
  rintro e w3 ⟨rfl, hb3⟩
  have hb3' := hb2'.trans (hb3.mono hb2'.size)
  clear hb2' hb3
  go_wp2_with fail
  refine (C4.out _).mono ?_
  rintro e w4 ⟨rfl, hb4⟩
  have hb4' := hb3'.trans (hb4.mono hb3'.size)
  clear hb3' hb4
  go_wp2
  go_ret
  exact ⟨rfl, hb4'⟩

/-! ### CharsLetters -/
theorem letB_may {r : Int} (h : letB r = true) : mayB r = true := by
  rw [letB_iff] at h; rw [mayB_iff]; omega
set_option maxRecDepth 100000 in
set_option maxHeartbeats 4000000 in
theorem letters_any (r : Int) (s : ByteArray) (w : World) (hT : Tabs w) (hM : MaxL w) :
    Calls Tryd.prog 3 #[.int .i64 r, .string s] w fun e w' => e = .returned (.bool true) ∧ Below w.heap.size w w' := by
  have HT := Lib.hid hT; clear hT
  have HM := Lib.hid hM; clear hM
  obtain ⟨m, hm1, hm2, _, Hm3, Hm4⟩ := min8 s.size 40
  have hm3 : min (s.size : Int) 40 = (m : Int) := Hm3.out
  have hm4 := Hm4.out
  obtain ⟨T, hTe⟩ : ∃ T, s.extract 0 m = T := ⟨_, rfl⟩
  have hTs : T.size = m := by
    rw [← bl_size, ← hTe, cut_bl, List.length_take, bl_size]; omega
  have HTe := Lib.hid hTe
  have hTm : T.size ≤ 9223372036854775807 := by omega
  obtain ⟨P, hP⟩ : ∃ P, putS r = P := ⟨_, rfl⟩
  have hPs : P.size ≤ 9223372036854775807 := by rw [← hP, putS_size]; have := put_len r; omega
  have CP := Lib.hid (fun w => rput r w)
  rw [hP] at CP
  have CT := Lib.hid (fun w => rtext P w hPs)
  have CL := Lib.hid (fun w => cletter r w)
  have CX := Lib.hid (fun w (h : Tabs w) => ctext T w hTm h)
  have CY := Lib.hid (fun w => rtext T w hTm)
  generalize textL (bl T) = Z at CX CY
  clear hTe hTs hTm hPs
  cases hmy : mayB r with
  | false =>
    have hl : letB r = false := by
      cases h : letB r with
      | false => rfl
      | true => rw [letB_may h] at hmy; cases hmy
    rw [hl] at CL
    have hPe : P.toList.isEmpty = true := by rw [Lib.toList_data, ← hP, putS_list, put_nil r hmy]; rfl
    clear hl hmy hP
    go_enter Tryd.func3, Tryd.ntmps3
    go_wp2_with fail
    refine (CP.out _).mono ?_
    rintro e w1 ⟨rfl, hb1⟩
    go_wp2_with fail
    rw [HTe.out]
    refine (awake02 _ (HT.out.below hb1) (HM.out.below hb1)).mono ?_
    rintro e w2 ⟨rfl, hb2⟩
    have hb2' := hb1.trans (hb2.mono hb1.size)
    clear hb1 hb2
    go_wp2_with fail
    refine (CL.out _).mono ?_
    rintro e w3 ⟨rfl, rfl⟩
    go_wp2_with fail
    refine (CX.out _ (HT.out.below hb2')).mono ?_
    rintro e w3 ⟨rfl, hb3⟩
    have hb3' := hb2'.trans (hb3.mono hb2'.size)
    clear hb2' hb3
    go_wp2_with fail
    refine (CY.out _).mono ?_
    rintro e w4 ⟨rfl, hb4⟩
    have hb4' := hb3'.trans (hb4.mono hb3'.size)
    clear hb3' hb4
    go_wp2_with fail
    go_ret
    exact ⟨rfl, hb4'⟩
  | true =>
    have hPe : P.toList.isEmpty = false := by
      have hp1 := put_pos r hmy
      rw [Lib.toList_data, ← hP, putS_list]
      cases hq : put r with
      | nil => rw [hq] at hp1; simp at hp1
      | cons _ _ => rfl
    have hiff := textL_put r hmy
    rw [show put r = bl P by rw [← hP]; exact (putS_list r).symm] at hiff
    generalize textL (bl P) = Q at CT hiff
    have hd : decide (Q < 0) = letB r := by
      cases h : letB r with
      | true => exact decide_eq_true (hiff.2 h)
      | false => exact decide_eq_false fun h' => by rw [hiff.1 h'] at h; cases h
    clear hiff hmy hP
    generalize letB r = b at CL hd
    go_enter Tryd.func3, Tryd.ntmps3
    go_wp2_with fail
    refine (CP.out _).mono ?_
    rintro e w1 ⟨rfl, hb1⟩
    go_wp2_with fail
    refine (CP.out _).mono ?_
    rintro e w1a ⟨rfl, hb1a⟩
    have hb1' := hb1.trans (hb1a.mono hb1.size)
    clear hb1 hb1a
    go_wp2_with fail
    refine (CT.out _).mono ?_
    rintro e w1b ⟨rfl, hb1b⟩
    have hb1'' := hb1'.trans (hb1b.mono hb1'.size)
    clear hb1' hb1b
    go_wp2_with fail
    rw [HTe.out]
    refine (awake02 _ (HT.out.below hb1'') (HM.out.below hb1'')).mono ?_
    rintro e w2 ⟨rfl, hb2⟩
    have hb2' := hb1''.trans (hb2.mono hb1''.size)
    clear hb1'' hb2
    go_wp2_with fail
    refine (CL.out _).mono ?_
    rintro e w3 ⟨rfl, rfl⟩
    go_wp2_with fail
    refine (CX.out _ (HT.out.below hb2')).mono ?_
    rintro e w3 ⟨rfl, hb3⟩
    have hb3' := hb2'.trans (hb3.mono hb2'.size)
    clear hb2' hb3
    go_wp2_with fail
    refine (CY.out _).mono ?_
    rintro e w4 ⟨rfl, hb4⟩
    have hb4' := hb3'.trans (hb4.mono hb3'.size)
    clear hb3' hb4
    go_wp2_with fail
    go_ret
    exact ⟨rfl, hb4'⟩

/-! ### CharsBlanks -/
theorem bad_two (c : Int) (h0 : 0 ≤ c) (h1 : c < 128) : badL [97, ub c] = -1 := by
  have p2 : put c = [ub c] := put_f1 c ⟨h0, h1⟩
  have g1 : gl [97, ub c] = (97, 1) := gl_put 97 rfl [ub c]
  have g2 : gl [ub c] = (c, 1) := by
    have := gl_put c (by rw [mayB_iff]; omega) []
    rw [p2] at this; exact this
  have r0 : runL [] = (0, 0) := rfl
  have r2 : runL [ub c] = (1, 1) := by rw [runL_step _ (by rw [g2]; simp), g2]; rfl
  have r1 : runL [97, ub c] = (2, 2) := by
    rw [runL_step _ (by rw [g1]; decide), g1]
    simp only [Int.toNat_one, List.drop_succ_cons, List.drop_zero, r2]
  unfold badL
  rw [r1, if_neg (by simp)]
theorem name_two (c : Int) (h0 : 0 ≤ c) (h1 : c < 256) : (nameL [97, ub c] || decide (128 ≤ c)) = partB c := by
  by_cases h : c < 128
  · rw [decide_eq_false (by omega), Bool.or_false]
    unfold nameL
    have hu := ub_toNat ⟨h0, h1⟩
    cases hp : partB c with
    | true =>
      apply decide_eq_true
      refine ⟨by simp, by simp, rfl, ?_, by rw [bad_two c h0 h]; decide⟩
      intro d hd
      rcases List.mem_cons.1 hd with e | hd
      · subst e; rfl
      · rcases List.mem_cons.1 hd with e | hd
        · subst e; rw [hu]; exact hp
        · cases hd
    | false =>
      apply decide_eq_false
      rintro ⟨_, _, _, h4, _⟩
      have := h4 (ub c) (by simp)
      rw [hu, hp] at this; cases this
  · rw [decide_eq_true (by omega), Bool.or_true]
    unfold partB; symm; apply decide_eq_true; omega
theorem cblank' (c : Int) (h0 : 0 ≤ c) (h1 : c < 256) (w : World) :
    Calls Tryd.prog 17 #[.int .u8 c] w fun e w' => e = .returned (.bool (blankB c)) ∧ w = w' := by
  have h := cblank (ub c) w
  rw [ub_toNat ⟨h0, h1⟩] at h
  exact h
/-- What the law's walk knows of a byte. -/
structure BlankKnown (s T Z : ByteArray) (c : Int) (m : Nat) (N b p st : Bool) : Prop where
  T_eq : s.extract 0 m = T
  CN : ∀ w, Calls Tryd.prog 13 #[.string ((⟨#[97]⟩ : ByteArray) ++ (⟨#[ub c]⟩ : ByteArray))] w fun e w' => e = .returned (.bool N) ∧ Below w.heap.size w w'
  CT : ∀ w, Calls Tryd.prog 14 #[.string T] w fun e w' => e = .returned (.string Z) ∧ Below w.heap.size w w'
  CR : ∀ w, Calls Tryd.prog 15 #[.string T] w fun e w' => e = .returned (.string Z) ∧ Below w.heap.size w w'
  CE : ∀ w, Calls Tryd.prog 16 #[.string T] w fun e w' => e = .returned (.bool Z.toList.isEmpty) ∧ Below w.heap.size w w'
  CB : ∀ w, Calls Tryd.prog 17 #[.int .u8 c] w fun e w' => e = .returned (.bool b) ∧ w = w'
  CP : ∀ w, Calls Tryd.prog 18 #[.int .u8 c] w fun e w' => e = .returned (.bool p) ∧ w = w'
  CS : ∀ w, Calls Tryd.prog 19 #[.int .u8 c] w fun e w' => e = .returned (.bool st) ∧ w = w'
set_option maxRecDepth 100000 in
set_option maxHeartbeats 4000000 in
theorem blanks_b32 (s T Z : ByteArray) (c : Int) (m : Nat) (w : World) (hT : Tabs w) (hM : MaxL w) (h0 : 0 ≤ c) (h1 : c < 256) (hm1 : m ≤ s.size) (hm3 : min (s.size : Int) 30 = (m : Int))
    (h : c = 32) (H : BlankKnown s T Z c m false true false false) :
    Calls Tryd.prog 5 #[.string s, .int .u8 c] w fun e w' => e = .returned (.bool true) ∧ Below w.heap.size w w' := by
  have HT := Lib.hid hT; clear hT
  have HM := Lib.hid hM; clear hM
  have HTe := Lib.hid H.T_eq
  have CN := Lib.hid H.CN
  have CT := Lib.hid H.CT
  have CR := Lib.hid H.CR
  have CE := Lib.hid H.CE
  have CB := Lib.hid H.CB
  have CP := Lib.hid H.CP
  have CS := Lib.hid H.CS
  clear H
  have kc := conv1 w c ⟨h0, h1⟩
  have f0 : (c == 32) = true := by simp; omega
  have f1 : (c == 9) = false := by simp; omega
  have f2 : (c == 10) = false := by simp; omega
  have f3 : (c == 13) = false := by simp; omega
  have f4 : decide (128 ≤ c) = false := decide_eq_false (by omega)
  clear h
  go_enter Tryd.func5, Tryd.ntmps5
  go_wp2_with fail
  refine (CN.out _).mono ?_
  rintro e w1 ⟨rfl, hb1⟩
  have hb1' := ((Below.refl _ _).alloc (Nat.le_refl _) _).trans (hb1.mono (by simp))
  clear hb1
  go_wp2_with fail
  rw [HTe.out]
  refine (awake02 _ (HT.out.below hb1') (HM.out.below hb1')).mono ?_
  rintro e w2 ⟨rfl, hb2⟩
  have hb2' := hb1'.trans (hb2.mono hb1'.size)
  clear hb1' hb2
  go_wp2_with fail
  refine (CT.out _).mono ?_
  rintro e w3 ⟨rfl, hb3⟩
  have hb3' := hb2'.trans (hb3.mono hb2'.size)
  clear hb2' hb3
  go_wp2_with fail
  refine (CR.out _).mono ?_
  rintro e w4 ⟨rfl, hb4⟩
  have hb4' := hb3'.trans (hb4.mono hb3'.size)
  clear hb3' hb4
  go_wp2_with fail
  refine (CE.out _).mono ?_
  rintro e w5 ⟨rfl, hb5⟩
  have hb5' := hb4'.trans (hb5.mono hb4'.size)
  clear hb4' hb5
  go_wp2_with fail
  refine (CR.out _).mono ?_
  rintro e w6 ⟨rfl, hb6⟩
  have hb6' := hb5'.trans (hb6.mono hb5'.size)
  clear hb5' hb6
  go_wp2_with fail
  refine (CB.out _).mono ?_
  rintro e w7 ⟨rfl, rfl⟩
  go_wp2_with fail
  refine (CP.out _).mono ?_
  rintro e w8 ⟨rfl, rfl⟩
  go_wp2_with fail
  refine (CS.out _).mono ?_
  rintro e w9 ⟨rfl, rfl⟩
  go_wp2_with fail
  go_ret
  exact ⟨rfl, hb6'⟩
set_option maxRecDepth 100000 in
set_option maxHeartbeats 4000000 in
theorem blanks_b9 (s T Z : ByteArray) (c : Int) (m : Nat) (w : World) (hT : Tabs w) (hM : MaxL w) (h0 : 0 ≤ c) (h1 : c < 256) (hm1 : m ≤ s.size) (hm3 : min (s.size : Int) 30 = (m : Int))
    (h : c = 9) (H : BlankKnown s T Z c m false true false false) :
    Calls Tryd.prog 5 #[.string s, .int .u8 c] w fun e w' => e = .returned (.bool true) ∧ Below w.heap.size w w' := by
  have HT := Lib.hid hT; clear hT
  have HM := Lib.hid hM; clear hM
  have HTe := Lib.hid H.T_eq
  have CN := Lib.hid H.CN
  have CT := Lib.hid H.CT
  have CR := Lib.hid H.CR
  have CE := Lib.hid H.CE
  have CB := Lib.hid H.CB
  have CP := Lib.hid H.CP
  have CS := Lib.hid H.CS
  clear H
  have kc := conv1 w c ⟨h0, h1⟩
  have f0 : (c == 32) = false := by simp; omega
  have f1 : (c == 9) = true := by simp; omega
  have f2 : (c == 10) = false := by simp; omega
  have f3 : (c == 13) = false := by simp; omega
  have f4 : decide (128 ≤ c) = false := decide_eq_false (by omega)
  clear h
  go_enter Tryd.func5, Tryd.ntmps5
  go_wp2_with fail
  refine (CN.out _).mono ?_
  rintro e w1 ⟨rfl, hb1⟩
  have hb1' := ((Below.refl _ _).alloc (Nat.le_refl _) _).trans (hb1.mono (by simp))
  clear hb1
  go_wp2_with fail
  rw [HTe.out]
  refine (awake02 _ (HT.out.below hb1') (HM.out.below hb1')).mono ?_
  rintro e w2 ⟨rfl, hb2⟩
  have hb2' := hb1'.trans (hb2.mono hb1'.size)
  clear hb1' hb2
  go_wp2_with fail
  refine (CT.out _).mono ?_
  rintro e w3 ⟨rfl, hb3⟩
  have hb3' := hb2'.trans (hb3.mono hb2'.size)
  clear hb2' hb3
  go_wp2_with fail
  refine (CR.out _).mono ?_
  rintro e w4 ⟨rfl, hb4⟩
  have hb4' := hb3'.trans (hb4.mono hb3'.size)
  clear hb3' hb4
  go_wp2_with fail
  refine (CE.out _).mono ?_
  rintro e w5 ⟨rfl, hb5⟩
  have hb5' := hb4'.trans (hb5.mono hb4'.size)
  clear hb4' hb5
  go_wp2_with fail
  refine (CR.out _).mono ?_
  rintro e w6 ⟨rfl, hb6⟩
  have hb6' := hb5'.trans (hb6.mono hb5'.size)
  clear hb5' hb6
  go_wp2_with fail
  refine (CB.out _).mono ?_
  rintro e w7 ⟨rfl, rfl⟩
  go_wp2_with fail
  refine (CP.out _).mono ?_
  rintro e w8 ⟨rfl, rfl⟩
  go_wp2_with fail
  refine (CS.out _).mono ?_
  rintro e w9 ⟨rfl, rfl⟩
  go_wp2_with fail
  go_ret
  exact ⟨rfl, hb6'⟩
set_option maxRecDepth 100000 in
set_option maxHeartbeats 4000000 in
theorem blanks_b10 (s T Z : ByteArray) (c : Int) (m : Nat) (w : World) (hT : Tabs w) (hM : MaxL w) (h0 : 0 ≤ c) (h1 : c < 256) (hm1 : m ≤ s.size) (hm3 : min (s.size : Int) 30 = (m : Int))
    (h : c = 10) (H : BlankKnown s T Z c m false true false false) :
    Calls Tryd.prog 5 #[.string s, .int .u8 c] w fun e w' => e = .returned (.bool true) ∧ Below w.heap.size w w' := by
  have HT := Lib.hid hT; clear hT
  have HM := Lib.hid hM; clear hM
  have HTe := Lib.hid H.T_eq
  have CN := Lib.hid H.CN
  have CT := Lib.hid H.CT
  have CR := Lib.hid H.CR
  have CE := Lib.hid H.CE
  have CB := Lib.hid H.CB
  have CP := Lib.hid H.CP
  have CS := Lib.hid H.CS
  clear H
  have kc := conv1 w c ⟨h0, h1⟩
  have f0 : (c == 32) = false := by simp; omega
  have f1 : (c == 9) = false := by simp; omega
  have f2 : (c == 10) = true := by simp; omega
  have f3 : (c == 13) = false := by simp; omega
  have f4 : decide (128 ≤ c) = false := decide_eq_false (by omega)
  clear h
  go_enter Tryd.func5, Tryd.ntmps5
  go_wp2_with fail
  refine (CN.out _).mono ?_
  rintro e w1 ⟨rfl, hb1⟩
  have hb1' := ((Below.refl _ _).alloc (Nat.le_refl _) _).trans (hb1.mono (by simp))
  clear hb1
  go_wp2_with fail
  rw [HTe.out]
  refine (awake02 _ (HT.out.below hb1') (HM.out.below hb1')).mono ?_
  rintro e w2 ⟨rfl, hb2⟩
  have hb2' := hb1'.trans (hb2.mono hb1'.size)
  clear hb1' hb2
  go_wp2_with fail
  refine (CT.out _).mono ?_
  rintro e w3 ⟨rfl, hb3⟩
  have hb3' := hb2'.trans (hb3.mono hb2'.size)
  clear hb2' hb3
  go_wp2_with fail
  refine (CR.out _).mono ?_
  rintro e w4 ⟨rfl, hb4⟩
  have hb4' := hb3'.trans (hb4.mono hb3'.size)
  clear hb3' hb4
  go_wp2_with fail
  refine (CE.out _).mono ?_
  rintro e w5 ⟨rfl, hb5⟩
  have hb5' := hb4'.trans (hb5.mono hb4'.size)
  clear hb4' hb5
  go_wp2_with fail
  refine (CR.out _).mono ?_
  rintro e w6 ⟨rfl, hb6⟩
  have hb6' := hb5'.trans (hb6.mono hb5'.size)
  clear hb5' hb6
  go_wp2_with fail
  refine (CB.out _).mono ?_
  rintro e w7 ⟨rfl, rfl⟩
  go_wp2_with fail
  refine (CP.out _).mono ?_
  rintro e w8 ⟨rfl, rfl⟩
  go_wp2_with fail
  refine (CS.out _).mono ?_
  rintro e w9 ⟨rfl, rfl⟩
  go_wp2_with fail
  go_ret
  exact ⟨rfl, hb6'⟩
set_option maxRecDepth 100000 in
set_option maxHeartbeats 4000000 in
theorem blanks_b13 (s T Z : ByteArray) (c : Int) (m : Nat) (w : World) (hT : Tabs w) (hM : MaxL w) (h0 : 0 ≤ c) (h1 : c < 256) (hm1 : m ≤ s.size) (hm3 : min (s.size : Int) 30 = (m : Int))
    (h : c = 13) (H : BlankKnown s T Z c m false true false false) :
    Calls Tryd.prog 5 #[.string s, .int .u8 c] w fun e w' => e = .returned (.bool true) ∧ Below w.heap.size w w' := by
  have HT := Lib.hid hT; clear hT
  have HM := Lib.hid hM; clear hM
  have HTe := Lib.hid H.T_eq
  have CN := Lib.hid H.CN
  have CT := Lib.hid H.CT
  have CR := Lib.hid H.CR
  have CE := Lib.hid H.CE
  have CB := Lib.hid H.CB
  have CP := Lib.hid H.CP
  have CS := Lib.hid H.CS
  clear H
  have kc := conv1 w c ⟨h0, h1⟩
  have f0 : (c == 32) = false := by simp; omega
  have f1 : (c == 9) = false := by simp; omega
  have f2 : (c == 10) = false := by simp; omega
  have f3 : (c == 13) = true := by simp; omega
  have f4 : decide (128 ≤ c) = false := decide_eq_false (by omega)
  clear h
  go_enter Tryd.func5, Tryd.ntmps5
  go_wp2_with fail
  refine (CN.out _).mono ?_
  rintro e w1 ⟨rfl, hb1⟩
  have hb1' := ((Below.refl _ _).alloc (Nat.le_refl _) _).trans (hb1.mono (by simp))
  clear hb1
  go_wp2_with fail
  rw [HTe.out]
  refine (awake02 _ (HT.out.below hb1') (HM.out.below hb1')).mono ?_
  rintro e w2 ⟨rfl, hb2⟩
  have hb2' := hb1'.trans (hb2.mono hb1'.size)
  clear hb1' hb2
  go_wp2_with fail
  refine (CT.out _).mono ?_
  rintro e w3 ⟨rfl, hb3⟩
  have hb3' := hb2'.trans (hb3.mono hb2'.size)
  clear hb2' hb3
  go_wp2_with fail
  refine (CR.out _).mono ?_
  rintro e w4 ⟨rfl, hb4⟩
  have hb4' := hb3'.trans (hb4.mono hb3'.size)
  clear hb3' hb4
  go_wp2_with fail
  refine (CE.out _).mono ?_
  rintro e w5 ⟨rfl, hb5⟩
  have hb5' := hb4'.trans (hb5.mono hb4'.size)
  clear hb4' hb5
  go_wp2_with fail
  refine (CR.out _).mono ?_
  rintro e w6 ⟨rfl, hb6⟩
  have hb6' := hb5'.trans (hb6.mono hb5'.size)
  clear hb5' hb6
  go_wp2_with fail
  refine (CB.out _).mono ?_
  rintro e w7 ⟨rfl, rfl⟩
  go_wp2_with fail
  refine (CP.out _).mono ?_
  rintro e w8 ⟨rfl, rfl⟩
  go_wp2_with fail
  refine (CS.out _).mono ?_
  rintro e w9 ⟨rfl, rfl⟩
  go_wp2_with fail
  go_ret
  exact ⟨rfl, hb6'⟩
set_option maxRecDepth 100000 in
set_option maxHeartbeats 4000000 in
theorem blanks_none (s T Z : ByteArray) (c : Int) (m : Nat) (w : World) (hT : Tabs w) (hM : MaxL w) (h0 : 0 ≤ c) (h1 : c < 256) (hm1 : m ≤ s.size) (hm3 : min (s.size : Int) 30 = (m : Int))
    (h : c ≠ 32 ∧ c ≠ 9 ∧ c ≠ 10 ∧ c ≠ 13 ∧ c < 128) (H : BlankKnown s T Z c m false false false false) :
    Calls Tryd.prog 5 #[.string s, .int .u8 c] w fun e w' => e = .returned (.bool true) ∧ Below w.heap.size w w' := by
  have HT := Lib.hid hT; clear hT
  have HM := Lib.hid hM; clear hM
  have HTe := Lib.hid H.T_eq
  have CN := Lib.hid H.CN
  have CT := Lib.hid H.CT
  have CR := Lib.hid H.CR
  have CE := Lib.hid H.CE
  have CB := Lib.hid H.CB
  have CP := Lib.hid H.CP
  have CS := Lib.hid H.CS
  clear H
  have kc := conv1 w c ⟨h0, h1⟩
  have f0 : (c == 32) = false := by simp; omega
  have f1 : (c == 9) = false := by simp; omega
  have f2 : (c == 10) = false := by simp; omega
  have f3 : (c == 13) = false := by simp; omega
  have f4 : decide (128 ≤ c) = false := decide_eq_false (by omega)
  clear h
  go_enter Tryd.func5, Tryd.ntmps5
  go_wp2_with fail
  refine (CN.out _).mono ?_
  rintro e w1 ⟨rfl, hb1⟩
  have hb1' := ((Below.refl _ _).alloc (Nat.le_refl _) _).trans (hb1.mono (by simp))
  clear hb1
  go_wp2_with fail
  rw [HTe.out]
  refine (awake02 _ (HT.out.below hb1') (HM.out.below hb1')).mono ?_
  rintro e w2 ⟨rfl, hb2⟩
  have hb2' := hb1'.trans (hb2.mono hb1'.size)
  clear hb1' hb2
  go_wp2_with fail
  refine (CT.out _).mono ?_
  rintro e w3 ⟨rfl, hb3⟩
  have hb3' := hb2'.trans (hb3.mono hb2'.size)
  clear hb2' hb3
  go_wp2_with fail
  refine (CR.out _).mono ?_
  rintro e w4 ⟨rfl, hb4⟩
  have hb4' := hb3'.trans (hb4.mono hb3'.size)
  clear hb3' hb4
  go_wp2_with fail
  refine (CE.out _).mono ?_
  rintro e w5 ⟨rfl, hb5⟩
  have hb5' := hb4'.trans (hb5.mono hb4'.size)
  clear hb4' hb5
  go_wp2_with fail
  refine (CR.out _).mono ?_
  rintro e w6 ⟨rfl, hb6⟩
  have hb6' := hb5'.trans (hb6.mono hb5'.size)
  clear hb5' hb6
  go_wp2_with fail
  refine (CB.out _).mono ?_
  rintro e w7 ⟨rfl, rfl⟩
  go_wp2_with fail
  refine (CP.out _).mono ?_
  rintro e w8 ⟨rfl, rfl⟩
  go_wp2_with fail
  refine (CS.out _).mono ?_
  rintro e w9 ⟨rfl, rfl⟩
  go_wp2_with fail
  go_ret
  exact ⟨rfl, hb6'⟩
set_option maxRecDepth 100000 in
set_option maxHeartbeats 4000000 in
theorem blanks_let (s T Z : ByteArray) (c : Int) (m : Nat) (w : World) (hT : Tabs w) (hM : MaxL w) (h0 : 0 ≤ c) (h1 : c < 256) (hm1 : m ≤ s.size) (hm3 : min (s.size : Int) 30 = (m : Int))
    (h : 58 ≤ c ∧ c < 128) (H : BlankKnown s T Z c m true false true true) :
    Calls Tryd.prog 5 #[.string s, .int .u8 c] w fun e w' => e = .returned (.bool true) ∧ Below w.heap.size w w' := by
  have HT := Lib.hid hT; clear hT
  have HM := Lib.hid hM; clear hM
  have HTe := Lib.hid H.T_eq
  have CN := Lib.hid H.CN
  have CT := Lib.hid H.CT
  have CR := Lib.hid H.CR
  have CE := Lib.hid H.CE
  have CB := Lib.hid H.CB
  have CP := Lib.hid H.CP
  have CS := Lib.hid H.CS
  clear H
  have kc := conv1 w c ⟨h0, h1⟩
  have f0 : (c == 32) = false := by simp; omega
  have f1 : (c == 9) = false := by simp; omega
  have f2 : (c == 10) = false := by simp; omega
  have f3 : (c == 13) = false := by simp; omega
  have f4 : 48 ≤ c := by omega
  have f5 : decide (c ≤ 57) = false := decide_eq_false (by omega)
  have f6 : (c == 45) = false := by simp; omega
  have f7 : (c == 46) = false := by simp; omega
  clear h
  go_enter Tryd.func5, Tryd.ntmps5
  go_wp2_with fail
  refine (CN.out _).mono ?_
  rintro e w1 ⟨rfl, hb1⟩
  have hb1' := ((Below.refl _ _).alloc (Nat.le_refl _) _).trans (hb1.mono (by simp))
  clear hb1
  go_wp2_with fail
  rw [HTe.out]
  refine (awake02 _ (HT.out.below hb1') (HM.out.below hb1')).mono ?_
  rintro e w2 ⟨rfl, hb2⟩
  have hb2' := hb1'.trans (hb2.mono hb1'.size)
  clear hb1' hb2
  go_wp2_with fail
  refine (CT.out _).mono ?_
  rintro e w3 ⟨rfl, hb3⟩
  have hb3' := hb2'.trans (hb3.mono hb2'.size)
  clear hb2' hb3
  go_wp2_with fail
  refine (CR.out _).mono ?_
  rintro e w4 ⟨rfl, hb4⟩
  have hb4' := hb3'.trans (hb4.mono hb3'.size)
  clear hb3' hb4
  go_wp2_with fail
  refine (CE.out _).mono ?_
  rintro e w5 ⟨rfl, hb5⟩
  have hb5' := hb4'.trans (hb5.mono hb4'.size)
  clear hb4' hb5
  go_wp2_with fail
  refine (CR.out _).mono ?_
  rintro e w6 ⟨rfl, hb6⟩
  have hb6' := hb5'.trans (hb6.mono hb5'.size)
  clear hb5' hb6
  go_wp2_with fail
  refine (CB.out _).mono ?_
  rintro e w7 ⟨rfl, rfl⟩
  go_wp2_with fail
  refine (CP.out _).mono ?_
  rintro e w8 ⟨rfl, rfl⟩
  go_wp2_with fail
  refine (CS.out _).mono ?_
  rintro e w9 ⟨rfl, rfl⟩
  go_wp2_with fail
  go_ret
  exact ⟨rfl, hb6'⟩
set_option maxRecDepth 100000 in
set_option maxHeartbeats 4000000 in
theorem blanks_hiy (s T Z : ByteArray) (c : Int) (m : Nat) (w : World) (hT : Tabs w) (hM : MaxL w) (h0 : 0 ≤ c) (h1 : c < 256) (hm1 : m ≤ s.size) (hm3 : min (s.size : Int) 30 = (m : Int))
    (h : 128 ≤ c) (H : BlankKnown s T Z c m true false true true) :
    Calls Tryd.prog 5 #[.string s, .int .u8 c] w fun e w' => e = .returned (.bool true) ∧ Below w.heap.size w w' := by
  have HT := Lib.hid hT; clear hT
  have HM := Lib.hid hM; clear hM
  have HTe := Lib.hid H.T_eq
  have CN := Lib.hid H.CN
  have CT := Lib.hid H.CT
  have CR := Lib.hid H.CR
  have CE := Lib.hid H.CE
  have CB := Lib.hid H.CB
  have CP := Lib.hid H.CP
  have CS := Lib.hid H.CS
  clear H
  have kc := conv1 w c ⟨h0, h1⟩
  have f0 : (c == 32) = false := by simp; omega
  have f1 : (c == 9) = false := by simp; omega
  have f2 : (c == 10) = false := by simp; omega
  have f3 : (c == 13) = false := by simp; omega
  have f4 : 48 ≤ c := by omega
  have f5 : decide (c ≤ 57) = false := decide_eq_false (by omega)
  have f6 : (c == 45) = false := by simp; omega
  have f7 : (c == 46) = false := by simp; omega
  clear h
  go_enter Tryd.func5, Tryd.ntmps5
  go_wp2_with fail
  refine (CN.out _).mono ?_
  rintro e w1 ⟨rfl, hb1⟩
  have hb1' := ((Below.refl _ _).alloc (Nat.le_refl _) _).trans (hb1.mono (by simp))
  clear hb1
  go_wp2_with fail
  rw [HTe.out]
  refine (awake02 _ (HT.out.below hb1') (HM.out.below hb1')).mono ?_
  rintro e w2 ⟨rfl, hb2⟩
  have hb2' := hb1'.trans (hb2.mono hb1'.size)
  clear hb1' hb2
  go_wp2_with fail
  refine (CT.out _).mono ?_
  rintro e w3 ⟨rfl, hb3⟩
  have hb3' := hb2'.trans (hb3.mono hb2'.size)
  clear hb2' hb3
  go_wp2_with fail
  refine (CR.out _).mono ?_
  rintro e w4 ⟨rfl, hb4⟩
  have hb4' := hb3'.trans (hb4.mono hb3'.size)
  clear hb3' hb4
  go_wp2_with fail
  refine (CE.out _).mono ?_
  rintro e w5 ⟨rfl, hb5⟩
  have hb5' := hb4'.trans (hb5.mono hb4'.size)
  clear hb4' hb5
  go_wp2_with fail
  refine (CR.out _).mono ?_
  rintro e w6 ⟨rfl, hb6⟩
  have hb6' := hb5'.trans (hb6.mono hb5'.size)
  clear hb5' hb6
  go_wp2_with fail
  refine (CB.out _).mono ?_
  rintro e w7 ⟨rfl, rfl⟩
  go_wp2_with fail
  refine (CP.out _).mono ?_
  rintro e w8 ⟨rfl, rfl⟩
  go_wp2_with fail
  refine (CS.out _).mono ?_
  rintro e w9 ⟨rfl, rfl⟩
  go_wp2_with fail
  go_ret
  exact ⟨rfl, hb6'⟩
set_option maxRecDepth 100000 in
set_option maxHeartbeats 4000000 in
theorem blanks_hin (s T Z : ByteArray) (c : Int) (m : Nat) (w : World) (hT : Tabs w) (hM : MaxL w) (h0 : 0 ≤ c) (h1 : c < 256) (hm1 : m ≤ s.size) (hm3 : min (s.size : Int) 30 = (m : Int))
    (h : 128 ≤ c) (H : BlankKnown s T Z c m false false true true) :
    Calls Tryd.prog 5 #[.string s, .int .u8 c] w fun e w' => e = .returned (.bool true) ∧ Below w.heap.size w w' := by
  have HT := Lib.hid hT; clear hT
  have HM := Lib.hid hM; clear hM
  have HTe := Lib.hid H.T_eq
  have CN := Lib.hid H.CN
  have CT := Lib.hid H.CT
  have CR := Lib.hid H.CR
  have CE := Lib.hid H.CE
  have CB := Lib.hid H.CB
  have CP := Lib.hid H.CP
  have CS := Lib.hid H.CS
  clear H
  have kc := conv1 w c ⟨h0, h1⟩
  have f0 : (c == 32) = false := by simp; omega
  have f1 : (c == 9) = false := by simp; omega
  have f2 : (c == 10) = false := by simp; omega
  have f3 : (c == 13) = false := by simp; omega
  have f4 : 48 ≤ c := by omega
  have f5 : 128 ≤ c := by omega
  have f6 : decide (c ≤ 57) = false := decide_eq_false (by omega)
  have f7 : (c == 45) = false := by simp; omega
  have f8 : (c == 46) = false := by simp; omega
  clear h
  go_enter Tryd.func5, Tryd.ntmps5
  go_wp2_with fail
  refine (CN.out _).mono ?_
  rintro e w1 ⟨rfl, hb1⟩
  have hb1' := ((Below.refl _ _).alloc (Nat.le_refl _) _).trans (hb1.mono (by simp))
  clear hb1
  go_wp2_with fail
  rw [HTe.out]
  refine (awake02 _ (HT.out.below hb1') (HM.out.below hb1')).mono ?_
  rintro e w2 ⟨rfl, hb2⟩
  have hb2' := hb1'.trans (hb2.mono hb1'.size)
  clear hb1' hb2
  go_wp2_with fail
  refine (CT.out _).mono ?_
  rintro e w3 ⟨rfl, hb3⟩
  have hb3' := hb2'.trans (hb3.mono hb2'.size)
  clear hb2' hb3
  go_wp2_with fail
  refine (CR.out _).mono ?_
  rintro e w4 ⟨rfl, hb4⟩
  have hb4' := hb3'.trans (hb4.mono hb3'.size)
  clear hb3' hb4
  go_wp2_with fail
  refine (CE.out _).mono ?_
  rintro e w5 ⟨rfl, hb5⟩
  have hb5' := hb4'.trans (hb5.mono hb4'.size)
  clear hb4' hb5
  go_wp2_with fail
  refine (CR.out _).mono ?_
  rintro e w6 ⟨rfl, hb6⟩
  have hb6' := hb5'.trans (hb6.mono hb5'.size)
  clear hb5' hb6
  go_wp2_with fail
  refine (CB.out _).mono ?_
  rintro e w7 ⟨rfl, rfl⟩
  go_wp2_with fail
  refine (CP.out _).mono ?_
  rintro e w8 ⟨rfl, rfl⟩
  go_wp2_with fail
  refine (CS.out _).mono ?_
  rintro e w9 ⟨rfl, rfl⟩
  go_wp2_with fail
  go_ret
  exact ⟨rfl, hb6'⟩
set_option maxRecDepth 100000 in
set_option maxHeartbeats 4000000 in
theorem blanks_dig (s T Z : ByteArray) (c : Int) (m : Nat) (w : World) (hT : Tabs w) (hM : MaxL w) (h0 : 0 ≤ c) (h1 : c < 256) (hm1 : m ≤ s.size) (hm3 : min (s.size : Int) 30 = (m : Int))
    (h : 48 ≤ c ∧ c ≤ 57) (H : BlankKnown s T Z c m true false true false) :
    Calls Tryd.prog 5 #[.string s, .int .u8 c] w fun e w' => e = .returned (.bool true) ∧ Below w.heap.size w w' := by
  have HT := Lib.hid hT; clear hT
  have HM := Lib.hid hM; clear hM
  have HTe := Lib.hid H.T_eq
  have CN := Lib.hid H.CN
  have CT := Lib.hid H.CT
  have CR := Lib.hid H.CR
  have CE := Lib.hid H.CE
  have CB := Lib.hid H.CB
  have CP := Lib.hid H.CP
  have CS := Lib.hid H.CS
  clear H
  have kc := conv1 w c ⟨h0, h1⟩
  have f0 : (c == 32) = false := by simp; omega
  have f1 : (c == 9) = false := by simp; omega
  have f2 : (c == 10) = false := by simp; omega
  have f3 : (c == 13) = false := by simp; omega
  have f4 : 48 ≤ c := by omega
  have f5 : c ≤ 57 := by omega
  have f6 : (c == 45) = false := by simp; omega
  have f7 : (c == 46) = false := by simp; omega
  clear h
  go_enter Tryd.func5, Tryd.ntmps5
  go_wp2_with fail
  refine (CN.out _).mono ?_
  rintro e w1 ⟨rfl, hb1⟩
  have hb1' := ((Below.refl _ _).alloc (Nat.le_refl _) _).trans (hb1.mono (by simp))
  clear hb1
  go_wp2_with fail
  rw [HTe.out]
  refine (awake02 _ (HT.out.below hb1') (HM.out.below hb1')).mono ?_
  rintro e w2 ⟨rfl, hb2⟩
  have hb2' := hb1'.trans (hb2.mono hb1'.size)
  clear hb1' hb2
  go_wp2_with fail
  refine (CT.out _).mono ?_
  rintro e w3 ⟨rfl, hb3⟩
  have hb3' := hb2'.trans (hb3.mono hb2'.size)
  clear hb2' hb3
  go_wp2_with fail
  refine (CR.out _).mono ?_
  rintro e w4 ⟨rfl, hb4⟩
  have hb4' := hb3'.trans (hb4.mono hb3'.size)
  clear hb3' hb4
  go_wp2_with fail
  refine (CE.out _).mono ?_
  rintro e w5 ⟨rfl, hb5⟩
  have hb5' := hb4'.trans (hb5.mono hb4'.size)
  clear hb4' hb5
  go_wp2_with fail
  refine (CR.out _).mono ?_
  rintro e w6 ⟨rfl, hb6⟩
  have hb6' := hb5'.trans (hb6.mono hb5'.size)
  clear hb5' hb6
  go_wp2_with fail
  refine (CB.out _).mono ?_
  rintro e w7 ⟨rfl, rfl⟩
  go_wp2_with fail
  refine (CP.out _).mono ?_
  rintro e w8 ⟨rfl, rfl⟩
  go_wp2_with fail
  refine (CS.out _).mono ?_
  rintro e w9 ⟨rfl, rfl⟩
  go_wp2_with fail
  go_ret
  exact ⟨rfl, hb6'⟩
set_option maxRecDepth 100000 in
set_option maxHeartbeats 4000000 in
theorem blanks_dash (s T Z : ByteArray) (c : Int) (m : Nat) (w : World) (hT : Tabs w) (hM : MaxL w) (h0 : 0 ≤ c) (h1 : c < 256) (hm1 : m ≤ s.size) (hm3 : min (s.size : Int) 30 = (m : Int))
    (h : c = 45) (H : BlankKnown s T Z c m true false true false) :
    Calls Tryd.prog 5 #[.string s, .int .u8 c] w fun e w' => e = .returned (.bool true) ∧ Below w.heap.size w w' := by
  have HT := Lib.hid hT; clear hT
  have HM := Lib.hid hM; clear hM
  have HTe := Lib.hid H.T_eq
  have CN := Lib.hid H.CN
  have CT := Lib.hid H.CT
  have CR := Lib.hid H.CR
  have CE := Lib.hid H.CE
  have CB := Lib.hid H.CB
  have CP := Lib.hid H.CP
  have CS := Lib.hid H.CS
  clear H
  have kc := conv1 w c ⟨h0, h1⟩
  have f0 : (c == 32) = false := by simp; omega
  have f1 : (c == 9) = false := by simp; omega
  have f2 : (c == 10) = false := by simp; omega
  have f3 : (c == 13) = false := by simp; omega
  have f4 : decide (48 ≤ c) = false := decide_eq_false (by omega)
  have f5 : (c == 45) = true := by simp; omega
  have f6 : (c == 46) = false := by simp; omega
  clear h
  go_enter Tryd.func5, Tryd.ntmps5
  go_wp2_with fail
  refine (CN.out _).mono ?_
  rintro e w1 ⟨rfl, hb1⟩
  have hb1' := ((Below.refl _ _).alloc (Nat.le_refl _) _).trans (hb1.mono (by simp))
  clear hb1
  go_wp2_with fail
  rw [HTe.out]
  refine (awake02 _ (HT.out.below hb1') (HM.out.below hb1')).mono ?_
  rintro e w2 ⟨rfl, hb2⟩
  have hb2' := hb1'.trans (hb2.mono hb1'.size)
  clear hb1' hb2
  go_wp2_with fail
  refine (CT.out _).mono ?_
  rintro e w3 ⟨rfl, hb3⟩
  have hb3' := hb2'.trans (hb3.mono hb2'.size)
  clear hb2' hb3
  go_wp2_with fail
  refine (CR.out _).mono ?_
  rintro e w4 ⟨rfl, hb4⟩
  have hb4' := hb3'.trans (hb4.mono hb3'.size)
  clear hb3' hb4
  go_wp2_with fail
  refine (CE.out _).mono ?_
  rintro e w5 ⟨rfl, hb5⟩
  have hb5' := hb4'.trans (hb5.mono hb4'.size)
  clear hb4' hb5
  go_wp2_with fail
  refine (CR.out _).mono ?_
  rintro e w6 ⟨rfl, hb6⟩
  have hb6' := hb5'.trans (hb6.mono hb5'.size)
  clear hb5' hb6
  go_wp2_with fail
  refine (CB.out _).mono ?_
  rintro e w7 ⟨rfl, rfl⟩
  go_wp2_with fail
  refine (CP.out _).mono ?_
  rintro e w8 ⟨rfl, rfl⟩
  go_wp2_with fail
  refine (CS.out _).mono ?_
  rintro e w9 ⟨rfl, rfl⟩
  go_wp2_with fail
  go_ret
  exact ⟨rfl, hb6'⟩
set_option maxRecDepth 100000 in
set_option maxHeartbeats 4000000 in
theorem blanks_dot (s T Z : ByteArray) (c : Int) (m : Nat) (w : World) (hT : Tabs w) (hM : MaxL w) (h0 : 0 ≤ c) (h1 : c < 256) (hm1 : m ≤ s.size) (hm3 : min (s.size : Int) 30 = (m : Int))
    (h : c = 46) (H : BlankKnown s T Z c m true false true false) :
    Calls Tryd.prog 5 #[.string s, .int .u8 c] w fun e w' => e = .returned (.bool true) ∧ Below w.heap.size w w' := by
  have HT := Lib.hid hT; clear hT
  have HM := Lib.hid hM; clear hM
  have HTe := Lib.hid H.T_eq
  have CN := Lib.hid H.CN
  have CT := Lib.hid H.CT
  have CR := Lib.hid H.CR
  have CE := Lib.hid H.CE
  have CB := Lib.hid H.CB
  have CP := Lib.hid H.CP
  have CS := Lib.hid H.CS
  clear H
  have kc := conv1 w c ⟨h0, h1⟩
  have f0 : (c == 32) = false := by simp; omega
  have f1 : (c == 9) = false := by simp; omega
  have f2 : (c == 10) = false := by simp; omega
  have f3 : (c == 13) = false := by simp; omega
  have f4 : decide (48 ≤ c) = false := decide_eq_false (by omega)
  have f5 : (c == 45) = false := by simp; omega
  have f6 : (c == 46) = true := by simp; omega
  clear h
  go_enter Tryd.func5, Tryd.ntmps5
  go_wp2_with fail
  refine (CN.out _).mono ?_
  rintro e w1 ⟨rfl, hb1⟩
  have hb1' := ((Below.refl _ _).alloc (Nat.le_refl _) _).trans (hb1.mono (by simp))
  clear hb1
  go_wp2_with fail
  rw [HTe.out]
  refine (awake02 _ (HT.out.below hb1') (HM.out.below hb1')).mono ?_
  rintro e w2 ⟨rfl, hb2⟩
  have hb2' := hb1'.trans (hb2.mono hb1'.size)
  clear hb1' hb2
  go_wp2_with fail
  refine (CT.out _).mono ?_
  rintro e w3 ⟨rfl, hb3⟩
  have hb3' := hb2'.trans (hb3.mono hb2'.size)
  clear hb2' hb3
  go_wp2_with fail
  refine (CR.out _).mono ?_
  rintro e w4 ⟨rfl, hb4⟩
  have hb4' := hb3'.trans (hb4.mono hb3'.size)
  clear hb3' hb4
  go_wp2_with fail
  refine (CE.out _).mono ?_
  rintro e w5 ⟨rfl, hb5⟩
  have hb5' := hb4'.trans (hb5.mono hb4'.size)
  clear hb4' hb5
  go_wp2_with fail
  refine (CR.out _).mono ?_
  rintro e w6 ⟨rfl, hb6⟩
  have hb6' := hb5'.trans (hb6.mono hb5'.size)
  clear hb5' hb6
  go_wp2_with fail
  refine (CB.out _).mono ?_
  rintro e w7 ⟨rfl, rfl⟩
  go_wp2_with fail
  refine (CP.out _).mono ?_
  rintro e w8 ⟨rfl, rfl⟩
  go_wp2_with fail
  refine (CS.out _).mono ?_
  rintro e w9 ⟨rfl, rfl⟩
  go_wp2_with fail
  go_ret
  exact ⟨rfl, hb6'⟩
/-- **The law CharsBlanks.** -/
theorem blanks_any (s : ByteArray) (c : Int) (w : World) (hT : Tabs w) (hM : MaxL w) (h0 : 0 ≤ c) (h1 : c < 256) :
    Calls Tryd.prog 5 #[.string s, .int .u8 c] w fun e w' => e = .returned (.bool true) ∧ Below w.heap.size w w' := by
  obtain ⟨m, hm1, hm2, _, Hm3, _⟩ := min8 s.size 30
  have hm3 : min (s.size : Int) 30 = (m : Int) := Hm3.out
  obtain ⟨T, hTe⟩ : ∃ T, s.extract 0 m = T := ⟨_, rfl⟩
  have hTs : T.size = m := by
    rw [← bl_size, ← hTe, cut_bl, List.length_take, bl_size]; omega
  have hTm : T.size ≤ 9223372036854775807 := by omega
  have hbl : bl ((⟨#[97]⟩ : ByteArray) ++ (⟨#[ub c]⟩ : ByteArray)) = [97, ub c] := by rw [bl_append]; rfl
  have cn := fun w => rname ((⟨#[97]⟩ : ByteArray) ++ (⟨#[ub c]⟩ : ByteArray)) w (by rw [← bl_size, hbl]; simp)
  rw [hbl] at cn
  have hn2 := name_two c h0 h1
  have H : BlankKnown s T (trimmed T) c m (nameL [97, ub c]) (blankB c) (partB c) (startB c) := ⟨hTe, cn, fun w => ctrim T w hTm, fun w => rtrim T w hTm, fun w => cempty T w hTm, fun w => cblank' c h0 h1 w, fun w => cpart c w h0 h1, fun w => cstart c w h0 h1⟩
  generalize nameL [97, ub c] = N at H hn2
  by_cases h9 : c = 32 ∨ c = 9 ∨ c = 10 ∨ c = 13
  · have hp : partB c = false := by unfold partB; apply decide_eq_false; omega
    rw [show blankB c = true from decide_eq_true h9, hp, show startB c = false by unfold startB; apply decide_eq_false; omega] at H
    rw [hp, decide_eq_false (by omega), Bool.or_false] at hn2
    subst hn2
    rcases h9 with h | h | h | h
    · exact blanks_b32 s T _ c m w hT hM h0 h1 hm1 hm3 h H
    · exact blanks_b9 s T _ c m w hT hM h0 h1 hm1 hm3 h H
    · exact blanks_b10 s T _ c m w hT hM h0 h1 hm1 hm3 h H
    · exact blanks_b13 s T _ c m w hT hM h0 h1 hm1 hm3 h H
  rw [show blankB c = false from decide_eq_false h9] at H
  by_cases hs : (97 ≤ c ∧ c ≤ 122) ∨ (65 ≤ c ∧ c ≤ 90) ∨ c = 95 ∨ 128 ≤ c
  · have hsb : startB c = true := decide_eq_true hs
    rw [hsb, start_part hsb] at H
    rw [start_part hsb] at hn2
    by_cases h8 : 128 ≤ c
    · cases N with
      | true => exact blanks_hiy s T _ c m w hT hM h0 h1 hm1 hm3 h8 H
      | false => exact blanks_hin s T _ c m w hT hM h0 h1 hm1 hm3 h8 H
    · rw [decide_eq_false h8, Bool.or_false] at hn2
      subst hn2
      exact blanks_let s T _ c m w hT hM h0 h1 hm1 hm3 (by omega) H
  rw [show startB c = false from decide_eq_false hs, ] at H
  by_cases hd : (48 ≤ c ∧ c ≤ 57) ∨ c = 45 ∨ c = 46
  · have hp : partB c = true := by unfold partB; apply decide_eq_true; omega
    rw [hp] at H
    rw [hp, decide_eq_false (by omega), Bool.or_false] at hn2
    subst hn2
    rcases hd with h | h | h
    · exact blanks_dig s T _ c m w hT hM h0 h1 hm1 hm3 h H
    · exact blanks_dash s T _ c m w hT hM h0 h1 hm1 hm3 h H
    · exact blanks_dot s T _ c m w hT hM h0 h1 hm1 hm3 h H
  · have hp : partB c = false := by unfold partB; apply decide_eq_false; omega
    rw [hp] at H
    rw [hp, decide_eq_false (by omega), Bool.or_false] at hn2
    subst hn2
    exact blanks_none s T _ c m w hT hM h0 h1 hm1 hm3 (by omega) H

end Go.Proofs.YtokkdmaeodpbkaaDoor
