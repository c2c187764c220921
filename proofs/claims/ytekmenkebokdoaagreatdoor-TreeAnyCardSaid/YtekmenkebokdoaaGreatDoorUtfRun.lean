/-
  The walks of the functions that go letter by letter: utf.run, utf.Bad, utf.Count, galliardref01.Bad.
-/
import Derived.Test.YtekmenkebokdoaaGreatDoorUtfGet
namespace Go.Proofs.YtekmenkebokdoaaGreatDoor
open Go.RowKit
set_option maxRecDepth 100000

theorem bl_length_le (s : ByteArray) (hs : s.size ≤ 9223372036854775807) : (bl s).length ≤ 9223372036854775807 := by rw [bl_size]; exact hs

set_option maxHeartbeats 1000000 in
theorem urun0 (s : ByteArray) (w : World) (A B : Int) (hs : s.size ≤ 9223372036854775807) (hT : Tabs w)
    (HR : Hid (A = (runL (bl s)).1 ∧ B = (runL (bl s)).2)) :
    Calls Tryz.prog 40 #[.string s] w fun e w' => e = .returned (.tuple #[.int .i64 A, .int .i64 B]) ∧ Below w.heap.size w w' := by
  have HBS := Lib.hid (bl_size s)
  have HT := Lib.hid hT; clear hT
  go_enter Tryz.func40, Tryz.ntmps40
  go_wp2
  go_loopg [2, 3] s.size (fun g c e wr => ∃ (n k : Nat), g + k = s.size ∧ c = .int .i64 n ∧ e = .int .i64 k ∧ Below w.heap.size w wr ∧ Hid (Gone (bl s) n k))
  case atStart => exact ⟨0, 0, rfl, rfl, rfl, Below.refl _ _, Lib.hid (Gone.start _)⟩
  case round =>
    obtain ⟨n, k, hg, rfl, rfl, hb, HK⟩ := hrel
    by_cases hin : (k : Int) < (s.size : Int)
    · have hTr : Tabs wr := HT.out.below hb
      have c := uget_in s k wr (by omega) hTr
      have hp := gl_pos ((bl s).drop k)
      have hle := HK.out.2.1
      obtain ⟨X, hX⟩ : ∃ X, (gl ((bl s).drop k)).1 = X := ⟨_, rfl⟩
      obtain ⟨Y, hY⟩ : ∃ Y, (gl ((bl s).drop k)).2 = Y := ⟨_, rfl⟩
      rw [hX, hY] at c
      have hdl : ((bl s).drop k).length = s.size - k := by rw [List.length_drop, HBS.out]
      rw [hdl, hY] at hp
      have C := Lib.hid c; clear c
      have HY := Lib.hid hY; clear hY
      clear hX hdl hTr
      have hy0 := hp.1
      have hy1 : Y ≤ s.size - k := by have := hp.2.1; omega
      clear hp
      by_cases hz : Y = 0
      · have hA : A = n ∧ B = k := by
          have := HK.out.stop (by rw [HY.out]; exact hz)
          have hr := HR.out
          rw [this] at hr
          exact hr
        obtain ⟨rfl, rfl⟩ := hA
        have hzb : (Y == 0) = true := by simp [hz]
        clear hz
        go_wp2_with (go_at_call 46; refine C.out.mono ?_; rintro e w1 ⟨rfl, hb1⟩)
        go_ret2
        exact ⟨rfl, hb.trans (hb1.mono hb.size)⟩
      · have hzb : (Y == 0) = false := by simp [hz]
        have hst := HK.out.step (by rw [HY.out]; exact hz)
        rw [HY.out] at hst
        have HS := Lib.hid hst; clear hst
        have hyp : 1 ≤ Y := by omega
        clear hz
        go_wp2_with (go_at_call 46; refine C.out.mono ?_; rintro e w1 ⟨rfl, hb1⟩)
        go_roundg (s.size - (k + Y.toNat))
        case measure => omega
        case rel => exact ⟨n + 1, k + Y.toNat, by omega, by go_num, congrArg (Value.int .i64) (by omega), hb.trans (hb1.mono hb.size), HS⟩
    · have hA : A = n ∧ B = k := by
        have := HK.out.whole (by rw [HBS.out]; omega)
        have hr := HR.out
        rw [this] at hr
        exact hr
      obtain ⟨rfl, rfl⟩ := hA
      go_wp2
      go_ret2
      exact ⟨rfl, hb⟩
theorem urun (s : ByteArray) (w : World) (hs : s.size ≤ 9223372036854775807) (hT : Tabs w) :
    Calls Tryz.prog 40 #[.string s] w fun e w' => e = .returned (.tuple #[.int .i64 (runL (bl s)).1, .int .i64 (runL (bl s)).2]) ∧ Below w.heap.size w w' :=
  urun0 s w _ _ hs hT (Lib.hid ⟨rfl, rfl⟩)
/-- **utf.Bad at every string.** -/
theorem ubad (s : ByteArray) (w : World) (hs : s.size ≤ 9223372036854775807) (hT : Tabs w) :
    Calls Tryz.prog 33 #[.string s] w fun e w' => e = .returned (.int .i64 (badL (bl s))) ∧ Below w.heap.size w w' := by
  have c := urun s w hs hT
  clear hT
  unfold badL
  rw [bl_size]
  obtain ⟨n, hn⟩ : ∃ n, (runL (bl s)).1 = n := ⟨_, rfl⟩
  obtain ⟨k, hk⟩ : ∃ n, (runL (bl s)).2 = n := ⟨_, rfl⟩
  rw [hn, hk] at c
  rw [hk]
  have C := Lib.hid c
  clear hn hk c
  by_cases h : k < s.size
  · rw [if_pos h]
    go_enter Tryz.func33, Tryz.ntmps33
    go_wp2_with (go_at_call 40; refine C.out.mono ?_; rintro e w1 ⟨rfl, hb1⟩)
    go_ret
    exact ⟨rfl, hb1⟩
  · rw [if_neg h]
    go_enter Tryz.func33, Tryz.ntmps33
    go_wp2_with (go_at_call 40; refine C.out.mono ?_; rintro e w1 ⟨rfl, hb1⟩)
    go_ret
    exact ⟨rfl, hb1⟩

/-! ### galliardref01.Bad -/
theorem size_from (s : ByteArray) (k : Nat) : (s.extract k s.size).size ≤ s.size := by
  rw [← bl_size, bl_from, List.length_drop, bl_size]; omega
set_option maxHeartbeats 1000000 in
theorem rbad0 (s : ByteArray) (w : World) (A : Int) (hs : s.size ≤ 9223372036854775807) (HR : Hid (A = badL (bl s))) :
    Calls Tryz.prog 29 #[.string s] w fun e w' => e = .returned (.int .i64 A) ∧ Below w.heap.size w w' := by
  have HBS := Lib.hid (bl_size s)
  go_enter Tryz.func29, Tryz.ntmps29
  go_wp2
  go_loopg [3] s.size (fun g e wr => ∃ (n k : Nat), g + k = s.size ∧ e = .int .i64 k ∧ Below w.heap.size w wr ∧ Hid (Gone (bl s) n k))
  case atStart => exact ⟨0, 0, rfl, rfl, Below.refl _ _, Lib.hid (Gone.start _)⟩
  case round =>
    obtain ⟨n, k, hg, rfl, hb, HK⟩ := hrel
    by_cases hin : (k : Int) < (s.size : Int)
    · have c := rget (s.extract k s.size) wr (Nat.le_trans (size_from s k) hs)
      rw [bl_from] at c
      have hp := gl_pos ((bl s).drop k)
      obtain ⟨X, hX⟩ : ∃ X, (gl ((bl s).drop k)).1 = X := ⟨_, rfl⟩
      obtain ⟨Y, hY⟩ : ∃ Y, (gl ((bl s).drop k)).2 = Y := ⟨_, rfl⟩
      rw [hX, hY] at c
      have hdl : ((bl s).drop k).length = s.size - k := by rw [List.length_drop, HBS.out]
      rw [hdl, hY] at hp
      have C := Lib.hid c; clear c
      have HY := Lib.hid hY; clear hY
      clear hX hdl
      have hy0 := hp.1
      have hy1 : Y ≤ s.size - k := by have := hp.2.1; omega
      clear hp
      by_cases hz : Y = 0
      · have hA : A = k := by
          have := HK.out.stop (by rw [HY.out]; exact hz)
          have hr := HR.out
          unfold badL at hr
          rw [this, if_pos (by rw [HBS.out]; simp only; omega)] at hr
          exact hr
        subst hA
        have hzb : (Y == 0) = true := by simp [hz]
        clear hz
        go_wp2_with (go_at_call 30; refine C.out.mono ?_; rintro e w1 ⟨rfl, hb1⟩)
        go_ret
        exact ⟨rfl, hb.trans (hb1.mono hb.size)⟩
      · have hzb : (Y == 0) = false := by simp [hz]
        have hst := HK.out.step (by rw [HY.out]; exact hz)
        rw [HY.out] at hst
        have HS := Lib.hid hst; clear hst
        have hyp : 1 ≤ Y := by omega
        clear hz
        go_wp2_with (go_at_call 30; refine C.out.mono ?_; rintro e w1 ⟨rfl, hb1⟩)
        go_roundg (s.size - (k + Y.toNat))
        case measure => omega
        case rel => exact ⟨n + 1, k + Y.toNat, by omega, congrArg (Value.int .i64) (by omega), hb.trans (hb1.mono hb.size), HS⟩
    · have hA : A = -1 := by
        have := HK.out.whole (by rw [HBS.out]; omega)
        have hr := HR.out
        unfold badL at hr
        rw [this, if_neg (by rw [HBS.out]; simp only; omega)] at hr
        exact hr
      subst hA
      go_wp2
      go_ret
      exact ⟨rfl, hb⟩
theorem rbad (s : ByteArray) (w : World) (hs : s.size ≤ 9223372036854775807) :
    Calls Tryz.prog 29 #[.string s] w fun e w' => e = .returned (.int .i64 (badL (bl s))) ∧ Below w.heap.size w w' :=
  rbad0 s w _ hs (Lib.hid rfl)

/-! ### small words -/
theorem putS_no (r : Int) (h : mayB r = false) : putS r = ⟨#[]⟩ := by unfold putS; rw [put_nil r h]
theorem min8 (n k : Nat) : ∃ m : Nat, m ≤ n ∧ m ≤ k ∧ (m = n ∨ m = k) ∧ Hid (min (n : Int) (k : Int) = (m : Int)) ∧ Hid (min m n = m) :=
  ⟨min n k, by omega, by omega, by omega, Lib.hid (by omega), Lib.hid (by omega)⟩
theorem cut_bl (s : ByteArray) (m : Nat) : bl (s.extract 0 m) = (bl s).take m := sub_list s m

end Go.Proofs.YtekmenkebokdoaaGreatDoor
