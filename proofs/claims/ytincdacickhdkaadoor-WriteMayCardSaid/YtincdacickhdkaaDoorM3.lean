/-
  The walks of the document's own answers for layer 2: galliardref01.Text, Name, Trim.
  The walk of galliardref01.Trim: two loops, from both ends.
-/
import Derived.Test.YtincdacickhdkaaDoorM2
namespace Go.Proofs.YtincdacickhdkaaDoor
open Go.RowKit
set_option maxRecDepth 100000

/-! ### galliardref01.Text -/
set_option maxRecDepth 100000 in
set_option maxHeartbeats 4000000 in
theorem rtext0 (s : ByteArray) (w : World) (A : Int) (hs : s.size ≤ 9223372036854775807) (HR : Hid (A = textL (bl s))) :
    Calls Tryd.prog 6 #[.string s] w fun e w' => e = .returned (.int .i64 A) ∧ Below w.heap.size w w' := by
  have HBS := Lib.hid (bl_size s)
  go_enter Tryd.func6, Tryd.ntmps6
  go_wp2
  go_loopg [3] s.size (fun g e wr => ∃ k : Nat, g + k = s.size ∧ e = .int .i64 k ∧ Below w.heap.size w wr ∧ Hid (Went (bl s) k))
  case atStart => exact ⟨0, rfl, rfl, Below.refl _ _, Lib.hid (Went.start _)⟩
  case round =>
    obtain ⟨k, hg, rfl, hb, HK⟩ := hrel
    by_cases hin : (k : Int) < (s.size : Int)
    · have c := rget (s.extract k s.size) wr (Nat.le_trans (size_from s k) hs)
      rw [bl_from] at c
      have hp := gl_pos ((bl s).drop k)
      have hst := @Went.step (bl s) k HK.out
      have hsp := HK.out.stop
      have hlp := let_pos ((bl s).drop k)
      have hmy := gl_may ((bl s).drop k)
      obtain ⟨X, hX⟩ : ∃ X, (gl ((bl s).drop k)).1 = X := ⟨_, rfl⟩
      obtain ⟨Y, hY⟩ : ∃ Y, (gl ((bl s).drop k)).2 = Y := ⟨_, rfl⟩
      rw [hX, hY] at c hlp hmy
      rw [hX] at hsp hst
      rw [hY] at hst
      have hdl : ((bl s).drop k).length = s.size - k := by rw [List.length_drop, HBS.out]
      rw [hdl, hY] at hp
      have hX0 : Y = 0 → X = 0 := fun h => by have := congrArg Prod.fst (hp.2.2.2 h); rw [hX] at this; exact this
      have C := Lib.hid c; clear c
      clear hX hdl hY
      have hy0 := hp.1
      have hy1 : Y ≤ s.size - k := by have := hp.2.1; omega
      clear hp
      cases hl : letB X with
      | false =>
        have hA : A = k := HR.out.trans (hsp hl (by rw [HBS.out]; omega))
        subst hA
        rw [letB_not] at hl
        have hcs : Y = 0 ∨ (Y ≠ 0 ∧ X < 9) ∨ (Y ≠ 0 ∧ 11 ≤ X ∧ X ≤ 12) ∨ (Y ≠ 0 ∧ 14 ≤ X ∧ X < 32) ∨ (Y ≠ 0 ∧ X = 65534) ∨ (Y ≠ 0 ∧ X = 65535) := by
          by_cases hz : Y = 0
          · exact .inl hz
          · have hm := (mayB_iff X).1 (hmy hz)
            omega
        clear hl hlp hst hsp HR hmy hX0
        rcases hcs with hz | ⟨hz, h⟩ | ⟨hz, h, h'⟩ | ⟨hz, h, h'⟩ | ⟨hz, h⟩ | ⟨hz, h⟩
        · have hzb : (Y == 0) = true := by simp [hz]
          clear hz
          go_wp2_with (go_at_call 14; refine C.out.mono ?_; rintro e w1 ⟨rfl, hb1⟩)
          go_ret
          exact ⟨rfl, hb.trans (hb1.mono hb.size)⟩
        · have hzb : (Y == 0) = false := by simp [hz]
          have e1 : (X == 9) = false := by simp; omega
          have e2 : (X == 10) = false := by simp; omega
          have e3 : (X == 13) = false := by simp; omega
          have n1 : (X != 9) = true := by simp; omega
          have n2 : (X != 10) = true := by simp; omega
          have n3 : (X != 13) = true := by simp; omega
          have h32 : X < 32 := by omega
          clear hz
          go_wp2_with (go_at_call 14; refine C.out.mono ?_; rintro e w1 ⟨rfl, hb1⟩)
          go_ret
          exact ⟨rfl, hb.trans (hb1.mono hb.size)⟩
        · have hzb : (Y == 0) = false := by simp [hz]
          have e1 : (X == 9) = false := by simp; omega
          have e2 : (X == 10) = false := by simp; omega
          have e3 : (X == 13) = false := by simp; omega
          have n1 : (X != 9) = true := by simp; omega
          have n2 : (X != 10) = true := by simp; omega
          have n3 : (X != 13) = true := by simp; omega
          have h32 : X < 32 := by omega
          clear hz
          go_wp2_with (go_at_call 14; refine C.out.mono ?_; rintro e w1 ⟨rfl, hb1⟩)
          go_ret
          exact ⟨rfl, hb.trans (hb1.mono hb.size)⟩
        · have hzb : (Y == 0) = false := by simp [hz]
          have e1 : (X == 9) = false := by simp; omega
          have e2 : (X == 10) = false := by simp; omega
          have e3 : (X == 13) = false := by simp; omega
          have n1 : (X != 9) = true := by simp; omega
          have n2 : (X != 10) = true := by simp; omega
          have n3 : (X != 13) = true := by simp; omega
          clear hz
          go_wp2_with (go_at_call 14; refine C.out.mono ?_; rintro e w1 ⟨rfl, hb1⟩)
          go_ret
          exact ⟨rfl, hb.trans (hb1.mono hb.size)⟩
        · have hzb : (Y == 0) = false := by simp [hz]
          clear hz
          subst h
          go_wp2_with (go_at_call 14; refine C.out.mono ?_; rintro e w1 ⟨rfl, hb1⟩)
          go_ret
          exact ⟨rfl, hb.trans (hb1.mono hb.size)⟩
        · have hzb : (Y == 0) = false := by simp [hz]
          clear hz
          subst h
          go_wp2_with (go_at_call 14; refine C.out.mono ?_; rintro e w1 ⟨rfl, hb1⟩)
          go_ret
          exact ⟨rfl, hb.trans (hb1.mono hb.size)⟩
      | true =>
        have HS := Lib.hid (hst hl)
        have hyp := hlp hl
        have hzb : (Y == 0) = false := by simp; omega
        rw [letB_iff] at hl
        have hcs : X = 9 ∨ X = 10 ∨ X = 13 ∨ (32 ≤ X ∧ X ≠ 65534 ∧ X ≠ 65535) := by omega
        clear hl hlp hst hsp hmy hX0
        rcases hcs with rfl | rfl | rfl | ⟨h, h1, h2⟩
        · go_wp2_with (go_at_call 14; refine C.out.mono ?_; rintro e w1 ⟨rfl, hb1⟩)
          go_roundg (s.size - (k + Y.toNat))
          case measure => omega
          case rel => exact ⟨k + Y.toNat, by omega, congrArg (Value.int .i64) (by omega), hb.trans (hb1.mono hb.size), HS⟩
        · go_wp2_with (go_at_call 14; refine C.out.mono ?_; rintro e w1 ⟨rfl, hb1⟩)
          go_roundg (s.size - (k + Y.toNat))
          case measure => omega
          case rel => exact ⟨k + Y.toNat, by omega, congrArg (Value.int .i64) (by omega), hb.trans (hb1.mono hb.size), HS⟩
        · go_wp2_with (go_at_call 14; refine C.out.mono ?_; rintro e w1 ⟨rfl, hb1⟩)
          go_roundg (s.size - (k + Y.toNat))
          case measure => omega
          case rel => exact ⟨k + Y.toNat, by omega, congrArg (Value.int .i64) (by omega), hb.trans (hb1.mono hb.size), HS⟩
        · have e4 : (X == 65534) = false := by simp; omega
          have e5 : (X == 65535) = false := by simp; omega
          have d1 : decide (X < 32) = false := decide_eq_false (by omega)
          clear h1 h2
          go_wp2_with (go_at_call 14; refine C.out.mono ?_; rintro e w1 ⟨rfl, hb1⟩)
          go_roundg (s.size - (k + Y.toNat))
          case measure => omega
          case rel => exact ⟨k + Y.toNat, by omega, congrArg (Value.int .i64) (by omega), hb.trans (hb1.mono hb.size), HS⟩
    · have hA : A = -1 := HR.out.trans (HK.out.whole (by rw [HBS.out]; omega))
      subst hA
      clear HR
      go_wp2
      go_ret
      exact ⟨rfl, hb⟩
/-- **galliardref01.Text at every string.** -/
theorem rtext (s : ByteArray) (w : World) (hs : s.size ≤ 9223372036854775807) :
    Calls Tryd.prog 6 #[.string s] w fun e w' => e = .returned (.int .i64 (textL (bl s))) ∧ Below w.heap.size w w' :=
  rtext0 s w _ hs (Lib.hid rfl)

/-! ### galliardref01.Name -/
set_option maxRecDepth 100000 in
set_option maxHeartbeats 16000000 in
theorem rname0 (s : ByteArray) (w : World) (A : Bool) (hs : s.size ≤ 9223372036854775807) (HR : Hid (A = nameL (bl s))) :
    Calls Tryd.prog 5 #[.string s] w fun e w' => e = .returned (.bool A) ∧ Below w.heap.size w w' := by
  have HBS := Lib.hid (bl_size s)
  by_cases h0 : s.size = 0
  · have hA : A = false := HR.out.trans (name_none _ (.inl (by rw [HBS.out]; exact h0)))
    subst hA
    have hemp := bl_empty s h0
    clear h0 HR HBS
    go_enter Tryd.func5, Tryd.ntmps5
    go_wp2
    go_ret
    exact ⟨rfl, Below.refl _ _⟩
  have hemp := bl_more s h0
  by_cases h60 : 60 < s.size
  · have hA : A = false := HR.out.trans (name_none _ (.inr (.inl (by rw [HBS.out]; exact h60))))
    subst hA
    have h60' : (60 : Int) < (s.size : Int) := by omega
    clear h60 h0 HR HBS
    go_enter Tryd.func5, Tryd.ntmps5
    go_wp2
    go_ret
    exact ⟨rfl, Below.refl _ _⟩
  have h60' : decide ((60 : Int) < (s.size : Int)) = false := decide_eq_false (by omega)
  have h61 : (s.size : Int) ≤ 60 := by omega
  have Hn0 := Lib.hid h0
  have H60 := Lib.hid h60
  clear h0 h60
  have CB := Lib.hid (rbad s w hs)
  by_cases hbad : 0 ≤ badL (bl s)
  · have hA : A = false := HR.out.trans (name_none _ (.inr (.inr (.inr hbad))))
    subst hA
    generalize badL (bl s) = B at CB hbad
    clear HR HBS
    go_enter Tryd.func5, Tryd.ntmps5
    go_wp2_with (go_at_call 13; refine CB.out.mono ?_; rintro e w1 ⟨rfl, hb1⟩)
    go_ret
    exact ⟨rfl, hb1⟩
  obtain ⟨B, hB⟩ : ∃ B, badL (bl s) = B := ⟨_, rfl⟩
  have HB : Hid (badL (bl s) < 0) := Lib.hid (by omega)
  rw [hB] at CB hbad
  clear hB
  have hbad' : decide (0 ≤ B) = false := decide_eq_false hbad
  clear hbad
  go_enter Tryd.func5, Tryd.ntmps5
  go_wp2_with (go_at_call 13; refine CB.out.mono ?_; rintro e w1 ⟨rfl, hb1⟩)
  go_loop [3] (fun i => ∃ k : Nat, k ≤ s.size ∧ i = .int .i64 k ∧ Hid (Parts (bl s) k ∧ (0 < k → startB (nth (bl s) 0) = true))) (fun i => s.size - (intOf i).toNat)
  case atStart => exact ⟨0, by omega, rfl, Lib.hid ⟨Parts.start _, fun h => absurd h (by omega)⟩⟩
  case round =>
    obtain ⟨k, hk, rfl, HK⟩ := hrel
    by_cases hin : k < s.size
    · have hin' : (k : Int) < (s.size : Int) := by omega
      obtain ⟨x, hx⟩ : ∃ x, s[k]'hin = x := ⟨_, rfl⟩
      have hn : nth (bl s) k = x.toNat := by rw [nth_get s k hin, hx]
      obtain ⟨c, hc⟩ : ∃ c : Int, (x.toNat : Int) = c := ⟨_, rfl⟩
      have l0 : 0 ≤ c := by omega
      have l1 : c < 256 := by have := UInt8.toNat_lt x; omega
      have HNc : Hid ((nth (bl s) k : Int) = c) := Lib.hid (by rw [hn, hc])
      clear hn
      by_cases hstart : (97 ≤ c ∧ c ≤ 122) ∨ (65 ≤ c ∧ c ≤ 90) ∨ c = 95 ∨ 128 ≤ c
      · have hsb : startB c = true := decide_eq_true hstart
        have HN : Hid (Parts (bl s) (k + 1) ∧ (0 < k + 1 → startB (nth (bl s) 0) = true)) := Lib.hid ⟨HK.out.1.step (by rw [HNc.out]; exact start_part hsb), fun _ => by
          rcases Nat.eq_zero_or_pos k with h | h
          · subst h; rw [HNc.out]; exact hsb
          · exact HK.out.2 h⟩
        clear HR HK hsb
        rcases hstart with ⟨h, h'⟩ | ⟨h, h'⟩ | h | h
        · clear HNc
          have d0 : 97 ≤ c := by omega
          have d1 : c ≤ 122 := by omega
          have d2 : 65 ≤ c := by omega
          have d3 : decide (c ≤ 90) = false := decide_eq_false (by omega)
          have d4 : decide (128 ≤ c) = false := decide_eq_false (by omega)
          have d5 : 48 ≤ c := by omega
          have d6 : decide (c ≤ 57) = false := decide_eq_false (by omega)
          have q95 : (c == 95) = false := by simp; omega
          have q45 : (c == 45) = false := by simp; omega
          have q46 : (c == 46) = false := by simp; omega
          go_wp2
          go_round
          case rel => exact ⟨k + 1, by omega, by go_num, HN⟩
          case measure => simp [intOf]; omega
        · clear HNc
          have d0 : decide (97 ≤ c) = false := decide_eq_false (by omega)
          have d1 : c ≤ 122 := by omega
          have d2 : 65 ≤ c := by omega
          have d3 : c ≤ 90 := by omega
          have d4 : decide (128 ≤ c) = false := decide_eq_false (by omega)
          have d5 : 48 ≤ c := by omega
          have d6 : decide (c ≤ 57) = false := decide_eq_false (by omega)
          have q95 : (c == 95) = false := by simp; omega
          have q45 : (c == 45) = false := by simp; omega
          have q46 : (c == 46) = false := by simp; omega
          go_wp2
          go_round
          case rel => exact ⟨k + 1, by omega, by go_num, HN⟩
          case measure => simp [intOf]; omega
        · clear HNc
          have d0 : decide (97 ≤ c) = false := decide_eq_false (by omega)
          have d1 : c ≤ 122 := by omega
          have d2 : 65 ≤ c := by omega
          have d3 : decide (c ≤ 90) = false := decide_eq_false (by omega)
          have d4 : decide (128 ≤ c) = false := decide_eq_false (by omega)
          have d5 : 48 ≤ c := by omega
          have d6 : decide (c ≤ 57) = false := decide_eq_false (by omega)
          have q95 : (c == 95) = true := by simp; omega
          have q45 : (c == 45) = false := by simp; omega
          have q46 : (c == 46) = false := by simp; omega
          go_wp2
          go_round
          case rel => exact ⟨k + 1, by omega, by go_num, HN⟩
          case measure => simp [intOf]; omega
        · clear HNc
          have d0 : 97 ≤ c := by omega
          have d1 : decide (c ≤ 122) = false := decide_eq_false (by omega)
          have d2 : 65 ≤ c := by omega
          have d3 : decide (c ≤ 90) = false := decide_eq_false (by omega)
          have d4 : 128 ≤ c := by omega
          have d5 : 48 ≤ c := by omega
          have d6 : decide (c ≤ 57) = false := decide_eq_false (by omega)
          have q95 : (c == 95) = false := by simp; omega
          have q45 : (c == 45) = false := by simp; omega
          have q46 : (c == 46) = false := by simp; omega
          go_wp2
          go_round
          case rel => exact ⟨k + 1, by omega, by go_num, HN⟩
          case measure => simp [intOf]; omega
      have hns : startB c = false := decide_eq_false hstart
      by_cases hk0 : k = 0
      · have hA : A = false := HR.out.trans (name_none _ (.inr (.inr (.inl (by subst hk0; rw [HNc.out]; exact hns)))))
        subst hA
        have hkz : ((k : Int) == 0) = true := by simp; omega
        have hr : (0 ≤ c ∧ c ≤ 44) ∨ c = 45 ∨ c = 46 ∨ c = 47 ∨ (48 ≤ c ∧ c ≤ 57) ∨ (58 ≤ c ∧ c ≤ 64) ∨ (91 ≤ c ∧ c ≤ 94) ∨ c = 96 ∨ (123 ≤ c ∧ c ≤ 127) := by omega
        clear HR HK hns hstart hk0
        rcases hr with ⟨h, h'⟩ | h | h | h | ⟨h, h'⟩ | ⟨h, h'⟩ | ⟨h, h'⟩ | h | ⟨h, h'⟩
        · clear HNc
          have d0 : decide (97 ≤ c) = false := decide_eq_false (by omega)
          have d1 : c ≤ 122 := by omega
          have d2 : decide (65 ≤ c) = false := decide_eq_false (by omega)
          have d3 : c ≤ 90 := by omega
          have d4 : decide (128 ≤ c) = false := decide_eq_false (by omega)
          have d5 : decide (48 ≤ c) = false := decide_eq_false (by omega)
          have d6 : c ≤ 57 := by omega
          have q95 : (c == 95) = false := by simp; omega
          have q45 : (c == 45) = false := by simp; omega
          have q46 : (c == 46) = false := by simp; omega
          go_wp2
          go_ret
          exact ⟨rfl, hb1⟩
        · clear HNc
          have d0 : decide (97 ≤ c) = false := decide_eq_false (by omega)
          have d1 : c ≤ 122 := by omega
          have d2 : decide (65 ≤ c) = false := decide_eq_false (by omega)
          have d3 : c ≤ 90 := by omega
          have d4 : decide (128 ≤ c) = false := decide_eq_false (by omega)
          have d5 : decide (48 ≤ c) = false := decide_eq_false (by omega)
          have d6 : c ≤ 57 := by omega
          have q95 : (c == 95) = false := by simp; omega
          have q45 : (c == 45) = true := by simp; omega
          have q46 : (c == 46) = false := by simp; omega
          go_wp2
          go_ret
          exact ⟨rfl, hb1⟩
        · clear HNc
          have d0 : decide (97 ≤ c) = false := decide_eq_false (by omega)
          have d1 : c ≤ 122 := by omega
          have d2 : decide (65 ≤ c) = false := decide_eq_false (by omega)
          have d3 : c ≤ 90 := by omega
          have d4 : decide (128 ≤ c) = false := decide_eq_false (by omega)
          have d5 : decide (48 ≤ c) = false := decide_eq_false (by omega)
          have d6 : c ≤ 57 := by omega
          have q95 : (c == 95) = false := by simp; omega
          have q45 : (c == 45) = false := by simp; omega
          have q46 : (c == 46) = true := by simp; omega
          go_wp2
          go_ret
          exact ⟨rfl, hb1⟩
        · clear HNc
          have d0 : decide (97 ≤ c) = false := decide_eq_false (by omega)
          have d1 : c ≤ 122 := by omega
          have d2 : decide (65 ≤ c) = false := decide_eq_false (by omega)
          have d3 : c ≤ 90 := by omega
          have d4 : decide (128 ≤ c) = false := decide_eq_false (by omega)
          have d5 : decide (48 ≤ c) = false := decide_eq_false (by omega)
          have d6 : c ≤ 57 := by omega
          have q95 : (c == 95) = false := by simp; omega
          have q45 : (c == 45) = false := by simp; omega
          have q46 : (c == 46) = false := by simp; omega
          go_wp2
          go_ret
          exact ⟨rfl, hb1⟩
        · clear HNc
          have d0 : decide (97 ≤ c) = false := decide_eq_false (by omega)
          have d1 : c ≤ 122 := by omega
          have d2 : decide (65 ≤ c) = false := decide_eq_false (by omega)
          have d3 : c ≤ 90 := by omega
          have d4 : decide (128 ≤ c) = false := decide_eq_false (by omega)
          have d5 : 48 ≤ c := by omega
          have d6 : c ≤ 57 := by omega
          have q95 : (c == 95) = false := by simp; omega
          have q45 : (c == 45) = false := by simp; omega
          have q46 : (c == 46) = false := by simp; omega
          go_wp2
          go_ret
          exact ⟨rfl, hb1⟩
        · clear HNc
          have d0 : decide (97 ≤ c) = false := decide_eq_false (by omega)
          have d1 : c ≤ 122 := by omega
          have d2 : decide (65 ≤ c) = false := decide_eq_false (by omega)
          have d3 : c ≤ 90 := by omega
          have d4 : decide (128 ≤ c) = false := decide_eq_false (by omega)
          have d5 : 48 ≤ c := by omega
          have d6 : decide (c ≤ 57) = false := decide_eq_false (by omega)
          have q95 : (c == 95) = false := by simp; omega
          have q45 : (c == 45) = false := by simp; omega
          have q46 : (c == 46) = false := by simp; omega
          go_wp2
          go_ret
          exact ⟨rfl, hb1⟩
        · clear HNc
          have d0 : decide (97 ≤ c) = false := decide_eq_false (by omega)
          have d1 : c ≤ 122 := by omega
          have d2 : 65 ≤ c := by omega
          have d3 : decide (c ≤ 90) = false := decide_eq_false (by omega)
          have d4 : decide (128 ≤ c) = false := decide_eq_false (by omega)
          have d5 : 48 ≤ c := by omega
          have d6 : decide (c ≤ 57) = false := decide_eq_false (by omega)
          have q95 : (c == 95) = false := by simp; omega
          have q45 : (c == 45) = false := by simp; omega
          have q46 : (c == 46) = false := by simp; omega
          go_wp2
          go_ret
          exact ⟨rfl, hb1⟩
        · clear HNc
          have d0 : decide (97 ≤ c) = false := decide_eq_false (by omega)
          have d1 : c ≤ 122 := by omega
          have d2 : 65 ≤ c := by omega
          have d3 : decide (c ≤ 90) = false := decide_eq_false (by omega)
          have d4 : decide (128 ≤ c) = false := decide_eq_false (by omega)
          have d5 : 48 ≤ c := by omega
          have d6 : decide (c ≤ 57) = false := decide_eq_false (by omega)
          have q95 : (c == 95) = false := by simp; omega
          have q45 : (c == 45) = false := by simp; omega
          have q46 : (c == 46) = false := by simp; omega
          go_wp2
          go_ret
          exact ⟨rfl, hb1⟩
        · clear HNc
          have d0 : 97 ≤ c := by omega
          have d1 : decide (c ≤ 122) = false := decide_eq_false (by omega)
          have d2 : 65 ≤ c := by omega
          have d3 : decide (c ≤ 90) = false := decide_eq_false (by omega)
          have d4 : decide (128 ≤ c) = false := decide_eq_false (by omega)
          have d5 : 48 ≤ c := by omega
          have d6 : decide (c ≤ 57) = false := decide_eq_false (by omega)
          have q95 : (c == 95) = false := by simp; omega
          have q45 : (c == 45) = false := by simp; omega
          have q46 : (c == 46) = false := by simp; omega
          go_wp2
          go_ret
          exact ⟨rfl, hb1⟩
      have hkz : ((k : Int) == 0) = false := by simp; omega
      by_cases hpart : (48 ≤ c ∧ c ≤ 57) ∨ c = 45 ∨ c = 46
      · have HN : Hid (Parts (bl s) (k + 1) ∧ (0 < k + 1 → startB (nth (bl s) 0) = true)) := Lib.hid ⟨HK.out.1.step (by rw [HNc.out]; unfold partB; apply decide_eq_true; omega), fun _ => HK.out.2 (by omega)⟩
        clear HR HK hns hstart hk0
        rcases hpart with ⟨h, h'⟩ | h | h
        · clear HNc
          have d0 : decide (97 ≤ c) = false := decide_eq_false (by omega)
          have d1 : c ≤ 122 := by omega
          have d2 : decide (65 ≤ c) = false := decide_eq_false (by omega)
          have d3 : c ≤ 90 := by omega
          have d4 : decide (128 ≤ c) = false := decide_eq_false (by omega)
          have d5 : 48 ≤ c := by omega
          have d6 : c ≤ 57 := by omega
          have q95 : (c == 95) = false := by simp; omega
          have q45 : (c == 45) = false := by simp; omega
          have q46 : (c == 46) = false := by simp; omega
          go_wp2
          go_round
          case rel => exact ⟨k + 1, by omega, by go_num, HN⟩
          case measure => simp [intOf]; omega
        · clear HNc
          have d0 : decide (97 ≤ c) = false := decide_eq_false (by omega)
          have d1 : c ≤ 122 := by omega
          have d2 : decide (65 ≤ c) = false := decide_eq_false (by omega)
          have d3 : c ≤ 90 := by omega
          have d4 : decide (128 ≤ c) = false := decide_eq_false (by omega)
          have d5 : decide (48 ≤ c) = false := decide_eq_false (by omega)
          have d6 : c ≤ 57 := by omega
          have q95 : (c == 95) = false := by simp; omega
          have q45 : (c == 45) = true := by simp; omega
          have q46 : (c == 46) = false := by simp; omega
          go_wp2
          go_round
          case rel => exact ⟨k + 1, by omega, by go_num, HN⟩
          case measure => simp [intOf]; omega
        · clear HNc
          have d0 : decide (97 ≤ c) = false := decide_eq_false (by omega)
          have d1 : c ≤ 122 := by omega
          have d2 : decide (65 ≤ c) = false := decide_eq_false (by omega)
          have d3 : c ≤ 90 := by omega
          have d4 : decide (128 ≤ c) = false := decide_eq_false (by omega)
          have d5 : decide (48 ≤ c) = false := decide_eq_false (by omega)
          have d6 : c ≤ 57 := by omega
          have q95 : (c == 95) = false := by simp; omega
          have q45 : (c == 45) = false := by simp; omega
          have q46 : (c == 46) = true := by simp; omega
          go_wp2
          go_round
          case rel => exact ⟨k + 1, by omega, by go_num, HN⟩
          case measure => simp [intOf]; omega
      · have hA : A = false := HR.out.trans (name_bad _ k (by rw [HBS.out]; exact hin) (by rw [HNc.out]; unfold partB; apply decide_eq_false; omega))
        subst hA
        have hr : (0 ≤ c ∧ c ≤ 44) ∨ c = 47 ∨ (58 ≤ c ∧ c ≤ 64) ∨ (91 ≤ c ∧ c ≤ 94) ∨ c = 96 ∨ (123 ≤ c ∧ c ≤ 127) := by omega
        clear HR HK hns hstart hk0 hpart
        rcases hr with ⟨h, h'⟩ | h | ⟨h, h'⟩ | ⟨h, h'⟩ | h | ⟨h, h'⟩
        · clear HNc
          have d0 : decide (97 ≤ c) = false := decide_eq_false (by omega)
          have d1 : c ≤ 122 := by omega
          have d2 : decide (65 ≤ c) = false := decide_eq_false (by omega)
          have d3 : c ≤ 90 := by omega
          have d4 : decide (128 ≤ c) = false := decide_eq_false (by omega)
          have d5 : decide (48 ≤ c) = false := decide_eq_false (by omega)
          have d6 : c ≤ 57 := by omega
          have q95 : (c == 95) = false := by simp; omega
          have q45 : (c == 45) = false := by simp; omega
          have q46 : (c == 46) = false := by simp; omega
          go_wp2
          go_ret
          exact ⟨rfl, hb1⟩
        · clear HNc
          have d0 : decide (97 ≤ c) = false := decide_eq_false (by omega)
          have d1 : c ≤ 122 := by omega
          have d2 : decide (65 ≤ c) = false := decide_eq_false (by omega)
          have d3 : c ≤ 90 := by omega
          have d4 : decide (128 ≤ c) = false := decide_eq_false (by omega)
          have d5 : decide (48 ≤ c) = false := decide_eq_false (by omega)
          have d6 : c ≤ 57 := by omega
          have q95 : (c == 95) = false := by simp; omega
          have q45 : (c == 45) = false := by simp; omega
          have q46 : (c == 46) = false := by simp; omega
          go_wp2
          go_ret
          exact ⟨rfl, hb1⟩
        · clear HNc
          have d0 : decide (97 ≤ c) = false := decide_eq_false (by omega)
          have d1 : c ≤ 122 := by omega
          have d2 : decide (65 ≤ c) = false := decide_eq_false (by omega)
          have d3 : c ≤ 90 := by omega
          have d4 : decide (128 ≤ c) = false := decide_eq_false (by omega)
          have d5 : 48 ≤ c := by omega
          have d6 : decide (c ≤ 57) = false := decide_eq_false (by omega)
          have q95 : (c == 95) = false := by simp; omega
          have q45 : (c == 45) = false := by simp; omega
          have q46 : (c == 46) = false := by simp; omega
          go_wp2
          go_ret
          exact ⟨rfl, hb1⟩
        · clear HNc
          have d0 : decide (97 ≤ c) = false := decide_eq_false (by omega)
          have d1 : c ≤ 122 := by omega
          have d2 : 65 ≤ c := by omega
          have d3 : decide (c ≤ 90) = false := decide_eq_false (by omega)
          have d4 : decide (128 ≤ c) = false := decide_eq_false (by omega)
          have d5 : 48 ≤ c := by omega
          have d6 : decide (c ≤ 57) = false := decide_eq_false (by omega)
          have q95 : (c == 95) = false := by simp; omega
          have q45 : (c == 45) = false := by simp; omega
          have q46 : (c == 46) = false := by simp; omega
          go_wp2
          go_ret
          exact ⟨rfl, hb1⟩
        · clear HNc
          have d0 : decide (97 ≤ c) = false := decide_eq_false (by omega)
          have d1 : c ≤ 122 := by omega
          have d2 : 65 ≤ c := by omega
          have d3 : decide (c ≤ 90) = false := decide_eq_false (by omega)
          have d4 : decide (128 ≤ c) = false := decide_eq_false (by omega)
          have d5 : 48 ≤ c := by omega
          have d6 : decide (c ≤ 57) = false := decide_eq_false (by omega)
          have q95 : (c == 95) = false := by simp; omega
          have q45 : (c == 45) = false := by simp; omega
          have q46 : (c == 46) = false := by simp; omega
          go_wp2
          go_ret
          exact ⟨rfl, hb1⟩
        · clear HNc
          have d0 : 97 ≤ c := by omega
          have d1 : decide (c ≤ 122) = false := decide_eq_false (by omega)
          have d2 : 65 ≤ c := by omega
          have d3 : decide (c ≤ 90) = false := decide_eq_false (by omega)
          have d4 : decide (128 ≤ c) = false := decide_eq_false (by omega)
          have d5 : 48 ≤ c := by omega
          have d6 : decide (c ≤ 57) = false := decide_eq_false (by omega)
          have q95 : (c == 95) = false := by simp; omega
          have q45 : (c == 45) = false := by simp; omega
          have q46 : (c == 46) = false := by simp; omega
          go_wp2
          go_ret
          exact ⟨rfl, hb1⟩
    · obtain rfl : k = s.size := by omega
      have hA : A = true := HR.out.trans ((name_yes _ (by rw [HBS.out]; exact Hn0.out) (by rw [HBS.out]; have := H60.out; omega) (HK.out.2 (by have := Hn0.out; omega)) (by rw [HBS.out]; exact HK.out.1)).trans (decide_eq_true HB.out))
      subst hA
      clear HR hk hin
      go_wp2
      go_ret
      exact ⟨rfl, hb1⟩
/-- **galliardref01.Name at every string.** -/
theorem rname (s : ByteArray) (w : World) (hs : s.size ≤ 9223372036854775807) :
    Calls Tryd.prog 5 #[.string s] w fun e w' => e = .returned (.bool (nameL (bl s))) ∧ Below w.heap.size w w' :=
  rname0 s w _ hs (Lib.hid rfl)

end Go.Proofs.YtincdacickhdkaaDoor
namespace Go.Proofs.YtincdacickhdkaaDoor
open Go.RowKit
set_option maxRecDepth 100000

theorem trimmed_cut (s : ByteArray) (a b : Nat) (hab : a ≤ b) (hb : b ≤ s.size) (h1 : ∀ j, j < a → blankB (nth (bl s) j : Int) = true) (h2 : a < s.size → blankB (nth (bl s) a : Int) = false)
    (h3 : ∀ j, b ≤ j → j < s.size → blankB (nth (bl s) j : Int) = true) (h4 : a < b → blankB (nth (bl s) (b - 1) : Int) = false) : s.extract a b = trimmed s := by
  have h := trim_cut (bl s) a b hab (by rw [bl_size]; exact hb) h1 (by rw [bl_size]; exact h2) (by rw [bl_size]; exact h3) h4
  rw [Lib.extract_eq]
  unfold trimmed
  rw [h, List.drop_take]; rfl
theorem ext_none (s : ByteArray) (m : Nat) : s.extract m m = ByteArray.empty := by
  rw [Lib.extract_eq, Nat.sub_self, List.take_zero]; rfl
/-- What is known behind the first loop; behind the second one. -/
def Ahead (s : ByteArray) (a : Nat) : Prop := ∀ j, j < a → blankB (nth (bl s) j : Int) = true
def Behind (s : ByteArray) (b : Nat) : Prop := ∀ j, b ≤ j → j < s.size → blankB (nth (bl s) j : Int) = true
def Stands (s : ByteArray) (a : Nat) : Prop := a < s.size → blankB (nth (bl s) a : Int) = false
theorem Ahead.step {s : ByteArray} {a : Nat} (h : Ahead s a) (hc : blankB (nth (bl s) a : Int) = true) : Ahead s (a + 1) := by
  intro j hj
  by_cases e : j = a
  · subst e; exact hc
  · exact h j (by omega)
theorem Behind.step {s : ByteArray} {b : Nat} (h : Behind s (b + 1)) (hc : blankB (nth (bl s) b : Int) = true) : Behind s b := by
  intro j hj hl
  by_cases e : j = b
  · subst e; exact hc
  · exact h j (by omega) hl
set_option maxRecDepth 100000 in
set_option maxHeartbeats 16000000 in
theorem rtrim0 (s : ByteArray) (w : World) (A : ByteArray) (hs : s.size ≤ 9223372036854775807) (HR : Hid (A = trimmed s)) :
    Calls Tryd.prog 7 #[.string s] w fun e w' => e = .returned (.string A) ∧ Below w.heap.size w w' := by
  go_enter Tryd.func7, Tryd.ntmps7
  go_wp2
  go_loop [3] (fun i => ∃ k : Nat, k ≤ s.size ∧ i = .int .i64 k ∧ Hid (Ahead s k)) (fun i => s.size - (intOf i).toNat)
  case atStart => exact ⟨0, by omega, rfl, Lib.hid (fun j h => absurd h (by omega))⟩
  case round =>
    obtain ⟨k, hk, rfl, HK⟩ := hrel
    by_cases hin : k < s.size
    · have hin' : (k : Int) < (s.size : Int) := by omega
      obtain ⟨x, hx⟩ : ∃ x, s[k]'hin = x := ⟨_, rfl⟩
      have hn : nth (bl s) k = x.toNat := by rw [nth_get s k hin, hx]
      obtain ⟨c, hc⟩ : ∃ c : Int, (x.toNat : Int) = c := ⟨_, rfl⟩
      have HNc : Hid ((nth (bl s) k : Int) = c) := Lib.hid (by rw [hn, hc])
      clear hn
      by_cases hbl : c = 32 ∨ c = 9 ∨ c = 10 ∨ c = 13
      · have HN := Lib.hid (HK.out.step (by rw [HNc.out]; exact decide_eq_true hbl))
        clear HK HNc
        rcases hbl with h | h | h | h
        · have q32 : (c == 32) = true := by simp; omega
          have q9 : (c == 9) = false := by simp; omega
          have q10 : (c == 10) = false := by simp; omega
          have q13 : (c == 13) = false := by simp; omega
          clear h
          go_wp2
          go_round
          case rel => exact ⟨k + 1, by omega, by go_num, HN⟩
          case measure => simp [intOf]; omega
        · have q32 : (c == 32) = false := by simp; omega
          have q9 : (c == 9) = true := by simp; omega
          have q10 : (c == 10) = false := by simp; omega
          have q13 : (c == 13) = false := by simp; omega
          clear h
          go_wp2
          go_round
          case rel => exact ⟨k + 1, by omega, by go_num, HN⟩
          case measure => simp [intOf]; omega
        · have q32 : (c == 32) = false := by simp; omega
          have q9 : (c == 9) = false := by simp; omega
          have q10 : (c == 10) = true := by simp; omega
          have q13 : (c == 13) = false := by simp; omega
          clear h
          go_wp2
          go_round
          case rel => exact ⟨k + 1, by omega, by go_num, HN⟩
          case measure => simp [intOf]; omega
        · have q32 : (c == 32) = false := by simp; omega
          have q9 : (c == 9) = false := by simp; omega
          have q10 : (c == 10) = false := by simp; omega
          have q13 : (c == 13) = true := by simp; omega
          clear h
          go_wp2
          go_round
          case rel => exact ⟨k + 1, by omega, by go_num, HN⟩
          case measure => simp [intOf]; omega
      · have HS : Hid (Stands s k) := Lib.hid (fun _ => by rw [HNc.out]; exact decide_eq_false hbl)
        have q32 : (c == 32) = false := by simp; omega
        have q9 : (c == 9) = false := by simp; omega
        have q10 : (c == 10) = false := by simp; omega
        have q13 : (c == 13) = false := by simp; omega
        clear HNc hbl
        go_wp2
        go_loop [4] (fun i => ∃ m : Nat, k ≤ m ∧ m ≤ s.size ∧ i = .int .i64 m ∧ Hid (Behind s m)) (fun i => (intOf i).toNat)
        case atStart => exact ⟨s.size, by omega, by omega, rfl, Lib.hid (fun j h h' => absurd h (by omega))⟩
        case round =>
          obtain ⟨m, hkm, hm, rfl, HM⟩ := hrel
          by_cases hmk : m = k
          · subst hmk
            have HA : Hid (A = s.extract m m) := Lib.hid (HR.out.trans (trimmed_cut s m m (Nat.le_refl _) hm HK.out HS.out HM.out (fun h => absurd h (by omega))).symm)
            clear HR hkm
            go_wp2
            go_ret
            exact ⟨by rw [HA.out]; first | rfl | (rw [ext_none]; rfl), Below.refl _ _⟩
          · obtain ⟨q, rfl⟩ : ∃ q, m = q + 1 := ⟨m - 1, by omega⟩
            have hkq : k ≤ q := by omega
            have hq : q < s.size := by omega
            have hkq' : (k : Int) ≤ (q : Int) := by omega
            have hq' : (q : Int) < (s.size : Int) := by omega
            obtain ⟨y, hy⟩ : ∃ y, s[q]'hq = y := ⟨_, rfl⟩
            have hny : nth (bl s) q = y.toNat := by rw [nth_get s q hq, hy]
            obtain ⟨d, hd⟩ : ∃ d : Int, (y.toNat : Int) = d := ⟨_, rfl⟩
            have HNd : Hid ((nth (bl s) q : Int) = d) := Lib.hid (by rw [hny, hd])
            clear hny hmk
            by_cases hbd : d = 32 ∨ d = 9 ∨ d = 10 ∨ d = 13
            · have HN := Lib.hid (HM.out.step (by rw [HNd.out]; exact decide_eq_true hbd))
              clear HM HNd HR
              rcases hbd with h | h | h | h
              · have p32 : (d == 32) = true := by simp; omega
                have p9 : (d == 9) = false := by simp; omega
                have p10 : (d == 10) = false := by simp; omega
                have p13 : (d == 13) = false := by simp; omega
                clear h
                go_wp2
                go_round
                case rel => exact ⟨q, by omega, by omega, by go_num, HN⟩
                case measure => simp [intOf]
              · have p32 : (d == 32) = false := by simp; omega
                have p9 : (d == 9) = true := by simp; omega
                have p10 : (d == 10) = false := by simp; omega
                have p13 : (d == 13) = false := by simp; omega
                clear h
                go_wp2
                go_round
                case rel => exact ⟨q, by omega, by omega, by go_num, HN⟩
                case measure => simp [intOf]
              · have p32 : (d == 32) = false := by simp; omega
                have p9 : (d == 9) = false := by simp; omega
                have p10 : (d == 10) = true := by simp; omega
                have p13 : (d == 13) = false := by simp; omega
                clear h
                go_wp2
                go_round
                case rel => exact ⟨q, by omega, by omega, by go_num, HN⟩
                case measure => simp [intOf]
              · have p32 : (d == 32) = false := by simp; omega
                have p9 : (d == 9) = false := by simp; omega
                have p10 : (d == 10) = false := by simp; omega
                have p13 : (d == 13) = true := by simp; omega
                clear h
                go_wp2
                go_round
                case rel => exact ⟨q, by omega, by omega, by go_num, HN⟩
                case measure => simp [intOf]
            · have HA : Hid (A = s.extract k (q + 1)) := Lib.hid (HR.out.trans (trimmed_cut s k (q + 1) (by omega) hm HK.out HS.out HM.out (fun _ => by rw [Nat.add_sub_cancel, HNd.out]; exact decide_eq_false hbd)).symm)
              have p32 : (d == 32) = false := by simp; omega
              have p9 : (d == 9) = false := by simp; omega
              have p10 : (d == 10) = false := by simp; omega
              have p13 : (d == 13) = false := by simp; omega
              clear HR HNd HM hbd
              go_wp2
              go_ret
              exact ⟨by rw [HA.out]; first | rfl | (rw [ext_none]; rfl), Below.refl _ _⟩
    · obtain rfl : k = s.size := by omega
      have HS : Hid (Stands s s.size) := Lib.hid (fun h => absurd h (by omega))
      clear hin
      have HA : Hid (A = s.extract s.size s.size) := Lib.hid (HR.out.trans (trimmed_cut s s.size s.size (Nat.le_refl _) (Nat.le_refl _) HK.out HS.out (fun j h h' => absurd h (by omega)) (fun h => absurd h (by omega))).symm)
      go_wp2
      go_loop [4] (fun i => i = .int .i64 s.size) (fun i => 0)
      case atStart => rfl
      case round =>
        obtain rfl := hrel
        go_wp2
        go_ret
        exact ⟨by rw [HA.out]; first | rfl | (rw [ext_none]; rfl), Below.refl _ _⟩
/-- **galliardref01.Trim at every string.** -/
theorem rtrim (s : ByteArray) (w : World) (hs : s.size ≤ 9223372036854775807) :
    Calls Tryd.prog 7 #[.string s] w fun e w' => e = .returned (.string (trimmed s)) ∧ Below w.heap.size w w' :=
  rtrim0 s w _ hs (Lib.hid rfl)

end Go.Proofs.YtincdacickhdkaaDoor
