/-
  The walks of the document's own answers for layer 2: galliardref01.Text, Name, Trim.
-/
import Derived.Test.YtkpkekmofidajaaGreatDoorChars
namespace Go.Proofs.YtkpkekmofidajaaGreatDoor
open Go.RowKit
set_option maxRecDepth 100000

/-! ### galliardref01.Text -/
set_option maxRecDepth 100000 in
set_option maxHeartbeats 4000000 in
theorem rtext0 (s : ByteArray) (w : World) (A : Int) (hs : s.size ≤ 9223372036854775807) (HR : Hid (A = textL (bl s))) :
    Calls Tryz.prog 21 #[.string s] w fun e w' => e = .returned (.int .i64 A) ∧ Below w.heap.size w w' := by
  have HBS := Lib.hid (bl_size s)
  go_enter Tryz.func21, Tryz.ntmps21
  go_wp2
  go_loopg [3] s.size (fun g e wr => ∃ k : Nat, g + k = s.size ∧ e = .int .i64 k ∧ Below w.heap.size w wr ∧ Hid (Went (bl s) k))
  case atStart => exact ⟨0, rfl, rfl, Below.refl _ _, Lib.hid (Went.start _)⟩
  case round =>
    obtain ⟨k, hg, rfl, hb, HK⟩ := hrel
    by_cases hin : (k : Int) < (s.size : Int)
    · have c := rget (s.extract k s.size) wr (Nat.le_trans (size_from s k) hs)
      rw [bl_from] at c
      have hp := gl_pos ((bl s).drop k)
      have hst := @Went.step (bl s) k HK.out
      have hsp := HK.out.stop
      have hlp := let_pos ((bl s).drop k)
      have hmy := gl_may ((bl s).drop k)
      obtain ⟨X, hX⟩ : ∃ X, (gl ((bl s).drop k)).1 = X := ⟨_, rfl⟩
      obtain ⟨Y, hY⟩ : ∃ Y, (gl ((bl s).drop k)).2 = Y := ⟨_, rfl⟩
      rw [hX, hY] at c hlp hmy
      rw [hX] at hsp hst
      rw [hY] at hst
      have hdl : ((bl s).drop k).length = s.size - k := by rw [List.length_drop, HBS.out]
      rw [hdl, hY] at hp
      have hX0 : Y = 0 → X = 0 := fun h => by have := congrArg Prod.fst (hp.2.2.2 h); rw [hX] at this; exact this
      have C := Lib.hid c; clear c
      clear hX hdl hY
      have hy0 := hp.1
      have hy1 : Y ≤ s.size - k := by have := hp.2.1; omega
      clear hp
      cases hl : letB X with
      | false =>
        have hA : A = k := HR.out.trans (hsp hl (by rw [HBS.out]; omega))
        subst hA
        rw [letB_not] at hl
        have hcs : Y = 0 ∨ (Y ≠ 0 ∧ X < 9) ∨ (Y ≠ 0 ∧ 11 ≤ X ∧ X ≤ 12) ∨ (Y ≠ 0 ∧ 14 ≤ X ∧ X < 32) ∨ (Y ≠ 0 ∧ X = 65534) ∨ (Y ≠ 0 ∧ X = 65535) := by
          by_cases hz : Y = 0
          · exact .inl hz
          · have hm := (mayB_iff X).1 (hmy hz)
            omega
        clear hl hlp hst hsp HR hmy hX0
        rcases hcs with hz | ⟨hz, h⟩ | ⟨hz, h, h'⟩ | ⟨hz, h, h'⟩ | ⟨hz, h⟩ | ⟨hz, h⟩
        · have hzb : (Y == 0) = true := by simp [hz]
          clear hz
          go_wp2_with (go_at_call 20; refine C.out.mono ?_; rintro e w1 ⟨rfl, hb1⟩)
          go_ret
          exact ⟨rfl, hb.trans (hb1.mono hb.size)⟩
        · have hzb : (Y == 0) = false := by simp [hz]
          have e1 : (X == 9) = false := by simp; omega
          have e2 : (X == 10) = false := by simp; omega
          have e3 : (X == 13) = false := by simp; omega
          have n1 : (X != 9) = true := by simp; omega
          have n2 : (X != 10) = true := by simp; omega
          have n3 : (X != 13) = true := by simp; omega
          have h32 : X < 32 := by omega
          clear hz
          go_wp2_with (go_at_call 20; refine C.out.mono ?_; rintro e w1 ⟨rfl, hb1⟩)
          go_ret
          exact ⟨rfl, hb.trans (hb1.mono hb.size)⟩
        · have hzb : (Y == 0) = false := by simp [hz]
          have e1 : (X == 9) = false := by simp; omega
          have e2 : (X == 10) = false := by simp; omega
          have e3 : (X == 13) = false := by simp; omega
          have n1 : (X != 9) = true := by simp; omega
          have n2 : (X != 10) = true := by simp; omega
          have n3 : (X != 13) = true := by simp; omega
          have h32 : X < 32 := by omega
          clear hz
          go_wp2_with (go_at_call 20; refine C.out.mono ?_; rintro e w1 ⟨rfl, hb1⟩)
          go_ret
          exact ⟨rfl, hb.trans (hb1.mono hb.size)⟩
        · have hzb : (Y == 0) = false := by simp [hz]
          have e1 : (X == 9) = false := by simp; omega
          have e2 : (X == 10) = false := by simp; omega
          have e3 : (X == 13) = false := by simp; omega
          have n1 : (X != 9) = true := by simp; omega
          have n2 : (X != 10) = true := by simp; omega
          have n3 : (X != 13) = true := by simp; omega
          clear hz
          go_wp2_with (go_at_call 20; refine C.out.mono ?_; rintro e w1 ⟨rfl, hb1⟩)
          go_ret
          exact ⟨rfl, hb.trans (hb1.mono hb.size)⟩
        · have hzb : (Y == 0) = false := by simp [hz]
          clear hz
          subst h
          go_wp2_with (go_at_call 20; refine C.out.mono ?_; rintro e w1 ⟨rfl, hb1⟩)
          go_ret
          exact ⟨rfl, hb.trans (hb1.mono hb.size)⟩
        · have hzb : (Y == 0) = false := by simp [hz]
          clear hz
          subst h
          go_wp2_with (go_at_call 20; refine C.out.mono ?_; rintro e w1 ⟨rfl, hb1⟩)
          go_ret
          exact ⟨rfl, hb.trans (hb1.mono hb.size)⟩
      | true =>
        have HS := Lib.hid (hst hl)
        have hyp := hlp hl
        have hzb : (Y == 0) = false := by simp; omega
        rw [letB_iff] at hl
        have hcs : X = 9 ∨ X = 10 ∨ X = 13 ∨ (32 ≤ X ∧ X ≠ 65534 ∧ X ≠ 65535) := by omega
        clear hl hlp hst hsp hmy hX0
        rcases hcs with rfl | rfl | rfl | ⟨h, h1, h2⟩
        · go_wp2_with (go_at_call 20; refine C.out.mono ?_; rintro e w1 ⟨rfl, hb1⟩)
          go_roundg (s.size - (k + Y.toNat))
          case measure => omega
          case rel => exact ⟨k + Y.toNat, by omega, congrArg (Value.int .i64) (by omega), hb.trans (hb1.mono hb.size), HS⟩
        · go_wp2_with (go_at_call 20; refine C.out.mono ?_; rintro e w1 ⟨rfl, hb1⟩)
          go_roundg (s.size - (k + Y.toNat))
          case measure => omega
          case rel => exact ⟨k + Y.toNat, by omega, congrArg (Value.int .i64) (by omega), hb.trans (hb1.mono hb.size), HS⟩
        · go_wp2_with (go_at_call 20; refine C.out.mono ?_; rintro e w1 ⟨rfl, hb1⟩)
          go_roundg (s.size - (k + Y.toNat))
          case measure => omega
          case rel => exact ⟨k + Y.toNat, by omega, congrArg (Value.int .i64) (by omega), hb.trans (hb1.mono hb.size), HS⟩
        · have e4 : (X == 65534) = false := by simp; omega
          have e5 : (X == 65535) = false := by simp; omega
          have d1 : decide (X < 32) = false := decide_eq_false (by omega)
          clear h1 h2
          go_wp2_with (go_at_call 20; refine C.out.mono ?_; rintro e w1 ⟨rfl, hb1⟩)
          go_roundg (s.size - (k + Y.toNat))
          case measure => omega
          case rel => exact ⟨k + Y.toNat, by omega, congrArg (Value.int .i64) (by omega), hb.trans (hb1.mono hb.size), HS⟩
    · have hA : A = -1 := HR.out.trans (HK.out.whole (by rw [HBS.out]; omega))
      subst hA
      clear HR
      go_wp2
      go_ret
      exact ⟨rfl, hb⟩
/-- **galliardref01.Text at every string.** -/
theorem rtext (s : ByteArray) (w : World) (hs : s.size ≤ 9223372036854775807) :
    Calls Tryz.prog 21 #[.string s] w fun e w' => e = .returned (.int .i64 (textL (bl s))) ∧ Below w.heap.size w w' :=
  rtext0 s w _ hs (Lib.hid rfl)

/-! ### galliardref01.Name -/
end Go.Proofs.YtkpkekmofidajaaGreatDoor
