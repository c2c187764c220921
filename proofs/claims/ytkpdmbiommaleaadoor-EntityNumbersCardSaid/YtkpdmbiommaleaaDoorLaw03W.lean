/-
  The walks of layer 3's laws galliardlaw03.awake, EntityBack and EntityNumbers.
-/
import Derived.Test.YtkpdmbiommaleaaDoorEntRef
import Derived.OwnWalk
namespace Go.Proofs.YtkpdmbiommaleaaDoor
open Go.RowKit

/-- A text that is opened, in closed form. -/
theorem eopen_at (s : ByteArray) (T : ByteArray) (B : Int) (h : openL (bl s) = (bl T, B)) (hs : s.size ≤ 1000) (w : World) (HE : EntV w) :
    Calls Tryd.prog 6 #[.string s] w fun e w' => e = .returned (.tuple #[.string T, .int .i64 B]) ∧ Below w.heap.size w w' := by
  have c := eopen s w (Lib.hid HE) (by omega)
  rw [h] at c
  simp only at c
  rw [bl_str] at c
  exact c
theorem eclose_at (s : ByteArray) (T : ByteArray) (h : closeL (bl s) = bl T) (hs : s.size ≤ 1000) (w : World) (HE : EntV w) :
    Calls Tryd.prog 7 #[.string s] w fun e w' => e = .returned (.string T) ∧ Below w.heap.size w w' := by
  have c := eclose s w (Lib.hid HE) (by omega)
  rw [h, bl_str] at c
  exact c
theorem eone_at (s : ByteArray) (A : Int) (h : oneL (bl s) = A) (w : World) (HE : EntV w) :
    Calls Tryd.prog 13 #[.string s] w fun e w' => e = .returned (.int .i64 A) ∧ Below w.heap.size w w' := by
  have c := eone s w (Lib.hid HE)
  rw [h] at c
  exact c
set_option maxHeartbeats 4000000 in
theorem awake03 (w : World) (HE : EntV w) :
    Calls Tryd.prog 8 #[] w fun e w' => e = .returned (.bool true) ∧ Below w.heap.size w w' := by
  have C1 := Lib.hid (eopen_at ⟨#[97, 38, 97, 109, 112, 59, 38, 35, 120, 54, 50, 59]⟩ ⟨#[97, 38, 98]⟩ (-1) (by decide +kernel) (by decide) w HE)
  have C2 := Lib.hid (fun w => eopen_at ⟨#[120, 38, 121]⟩ ⟨#[]⟩ 1 (by decide +kernel) (by decide) w)
  have C3 := Lib.hid (fun w => eclose_at ⟨#[60]⟩ ⟨#[38, 108, 116, 59]⟩ (by decide +kernel) (by decide) w)
  have HE := Lib.hid HE
  go_enter Tryd.func8, Tryd.ntmps8
  go_wp2_with fail
  refine C1.out.mono ?_
  rintro e w1 ⟨rfl, hb1⟩
  go_wp2_with fail
  refine (C2.out _ (HE.out.below hb1)).mono ?_
  rintro e w2 ⟨rfl, hb2⟩
  have hz2 := hb1.trans (hb2.mono hb1.size)
  clear hb1 hb2
  go_wp2_with fail
  refine (C3.out _ (HE.out.below hz2)).mono ?_
  rintro e w3 ⟨rfl, hb3⟩
  have hz3 := hz2.trans (hb3.mono hz2.size)
  clear hz2 hb3
  go_wp2_with fail
  go_ret
  exact ⟨rfl, hz3⟩

set_option maxHeartbeats 4000000 in
theorem back03 (s T X : ByteArray) (m : Nat) (w : World) (HE : Hid (EntV w)) (hm1 : m ≤ s.size) (hm3 : min (s.size : Int) 40 = (m : Int)) (HT : Hid (s.extract 0 m = T))
    (CC : Hid (∀ w, EntV w → Calls Tryd.prog 7 #[.string T] w fun e w' => e = .returned (.string X) ∧ Below w.heap.size w w'))
    (CR : Hid (∀ w, Calls Tryd.prog 9 #[.string T] w fun e w' => e = .returned (.string X) ∧ w = w'))
    (CO : Hid (∀ w, EntV w → Calls Tryd.prog 6 #[.string X] w fun e w' => e = .returned (.tuple #[.string T, .int .i64 (-1)]) ∧ Below w.heap.size w w')) :
    Calls Tryd.prog 3 #[.string s] w fun e w' => e = .returned (.bool true) ∧ Below w.heap.size w w' := by
  go_enter Tryd.func3, Tryd.ntmps3
  go_wp2_with fail
  rw [HT.out]
  clear hm1 hm3
  refine (CC.out _ HE.out).mono ?_
  rintro e w1 ⟨rfl, hb1⟩
  go_wp2_with fail
  refine (CO.out _ (HE.out.below hb1)).mono ?_
  rintro e w2 ⟨rfl, hb2⟩
  have hz2 := hb1.trans (hb2.mono hb1.size)
  clear hb1 hb2
  go_wp2_with fail
  refine (awake03 _ (HE.out.below hz2)).mono ?_
  rintro e w3 ⟨rfl, hb3⟩
  have hz3 := hz2.trans (hb3.mono hz2.size)
  clear hz2 hb3
  go_wp2_with fail
  refine (CC.out _ (HE.out.below hz3)).mono ?_
  rintro e w4 ⟨rfl, hb4⟩
  have hz4 := hz3.trans (hb4.mono hz3.size)
  clear hz3 hb4
  go_wp2_with fail
  refine (CR.out _).mono ?_
  rintro e w5 ⟨rfl, rfl⟩
  go_wp2_with fail
  go_ret
  exact ⟨rfl, hz4⟩
/-- **The law EntityBack.** -/
theorem back_any (s : ByteArray) (w : World) (hE : EntV w) :
    Calls Tryd.prog 3 #[.string s] w fun e w' => e = .returned (.bool true) ∧ Below w.heap.size w w' := by
  obtain ⟨m, hm1, hm2, _, Hm3, _⟩ := min8 s.size 40
  obtain ⟨T, hT⟩ : ∃ T, s.extract 0 m = T := ⟨_, rfl⟩
  have hTs : T.size ≤ 40 := by rw [← bl_size, ← hT, cut_bl, List.length_take, bl_size]; omega
  have hXs : (str (closeL (bl T))).size ≤ 240 := by rw [str_size]; have := closeL_len (bl T); rw [bl_size] at this; omega
  refine back03 s T (str (closeL (bl T))) m w (Lib.hid hE) hm1 Hm3.out (Lib.hid hT) (Lib.hid fun w h => eclose T w (Lib.hid h) (by omega)) (Lib.hid fun w => rclose T w (by omega)) (Lib.hid fun w h => ?_)
  exact eopen_at _ T (-1) (by rw [str_bl, openL_closeL]) (by omega) w h

end Go.Proofs.YtkpdmbiommaleaaDoor
