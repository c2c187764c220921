/-
  The walks of the functions that read letters: galliardref01.Get, utf.Get.
-/
import Derived.Test.YtekmenkebokdoaaGreatDoorUtfPut
import Derived.Test.YtekmenkebokdoaaGreatDoorShelf
import Derived.Deep.QuietTactic
import Derived.BigQuiet
import Derived.Deep.RegionWith
import Derived.Deep.LoopGhost
import Derived.Deep.Cut
import Derived.Deep.CutRange
import Derived.Lib.IndexBytes
namespace Go.Proofs.YtekmenkebokdoaaGreatDoor
open Go.RowKit
set_option maxRecDepth 100000

/-- The two tables of unicode/utf8. -/
def Tabs (w : World) : Prop := Lib.Utf8Tabs 0 1 w
theorem Tabs.below {w w' : World} (h : Tabs w) (hb : Below w.heap.size w w') : Tabs w' := Utf8Tabs_below h hb

/-! ### utf.Get -/
/-- A string's bytes. -/
theorem bl_from (s : ByteArray) (a : Nat) : bl (s.extract a s.size) = (bl s).drop a := Lib.extract_to_end s a
set_option maxHeartbeats 400000 in
theorem uget_lo (s : ByteArray) (k : Int) (w : World) (h : k < 0) :
    Calls Tryz.prog 46 #[.string s, .int .i64 k] w fun e w' => e = .returned (.tuple #[.int .i64 0, .int .i64 0]) ∧ Below w.heap.size w w' := by
  go_enter Tryz.func46, Tryz.ntmps46
  go_wp2
  go_ret2
  exact ⟨rfl, Below.refl _ _⟩
set_option maxHeartbeats 400000 in
theorem uget_hi (s : ByteArray) (k : Int) (w : World) (h0 : 0 ≤ k) (h : (s.size : Int) ≤ k) :
    Calls Tryz.prog 46 #[.string s, .int .i64 k] w fun e w' => e = .returned (.tuple #[.int .i64 0, .int .i64 0]) ∧ Below w.heap.size w w' := by
  go_enter Tryz.func46, Tryz.ntmps46
  go_wp2
  go_ret2
  exact ⟨rfl, Below.refl _ _⟩
theorem decodeN_le (n b0 b1 b2 b3 : Nat) (h0 : b0 < 256) : (Lib.decodeN n b0 b1 b2 b3).1 ≤ 2097152 := by
  unfold Lib.decodeN
  repeat' split
  all_goals (simp; try omega)
theorem decodeGo_le (s : ByteArray) (h : bl s ≠ []) : (Lib.decodeGo s).1 ≤ 2097152 := by
  rw [decodeGo_list s h]; exact decodeN_le _ _ _ _ _ (nth_lt _ _)
def okA (R N : Nat) : Int := if R = 65533 ∧ N = 1 then 0 else R
def okB (R N : Nat) : Int := if R = 65533 ∧ N = 1 then 0 else N
theorem okP_eq (d : Nat × Nat) : okP d = (okA d.1 d.2, okB d.1 d.2) := by
  unfold okP okA okB; split <;> rfl
set_option maxHeartbeats 400000 in
theorem uget_in0 (s : ByteArray) (k : Nat) (w : World) (h : k < s.size) (R N : Nat) (hR : R ≤ 2097152)
    (C : Hid (Calls Tryz.prog 59 #[.string (s.extract k s.size)] w fun e w' => e = .returned (.tuple #[.int .i32 R, .int .i64 N]) ∧ Below w.heap.size w w')) :
    Calls Tryz.prog 46 #[.string s, .int .i64 k] w fun e w' => e = .returned (.tuple #[.int .i64 (okA R N), .int .i64 (okB R N)]) ∧ Below w.heap.size w w' := by
  have hko : (k : Int) < (s.size : Int) := by omega
  by_cases h1 : R = 65533
  · by_cases h2 : N = 1
    · rw [show okA R N = 0 by unfold okA; rw [if_pos ⟨h1, h2⟩], show okB R N = 0 by unfold okB; rw [if_pos ⟨h1, h2⟩]]
      have b1 : ((R : Int) == 65533) = true := by simp; omega
      have b2 : ((N : Int) == 1) = true := by simp; omega
      clear h1 h2
      go_enter Tryz.func46, Tryz.ntmps46
      go_wp2_with (go_at_call 59; refine C.out.mono ?_; rintro e w' ⟨rfl, hb⟩)
      go_ret2
      exact ⟨rfl, hb⟩
    · rw [show okA R N = R by unfold okA; rw [if_neg (fun h => h2 h.2)], show okB R N = N by unfold okB; rw [if_neg (fun h => h2 h.2)]]
      have b1 : ((R : Int) == 65533) = true := by simp; omega
      have b2 : ((N : Int) == 1) = false := by simp; omega
      clear h1 h2
      go_enter Tryz.func46, Tryz.ntmps46
      go_wp2_with (go_at_call 59; refine C.out.mono ?_; rintro e w' ⟨rfl, hb⟩)
      go_ret2
      exact ⟨rfl, hb⟩
  · rw [show okA R N = R by unfold okA; rw [if_neg (fun h => h1 h.1)], show okB R N = N by unfold okB; rw [if_neg (fun h => h1 h.1)]]
    have b1 : ((R : Int) == 65533) = false := by simp; omega
    clear h1
    go_enter Tryz.func46, Tryz.ntmps46
    go_wp2_with (go_at_call 59; refine C.out.mono ?_; rintro e w' ⟨rfl, hb⟩)
    go_ret2
    exact ⟨rfl, hb⟩
theorem uget_in (s : ByteArray) (k : Nat) (w : World) (h : k < s.size) (hT : Tabs w) :
    Calls Tryz.prog 46 #[.string s, .int .i64 k] w fun e w' => e = .returned (.tuple #[.int .i64 (gl ((bl s).drop k)).1, .int .i64 (gl ((bl s).drop k)).2]) ∧ Below w.heap.size w w' := by
  have hne : bl (s.extract k s.size) ≠ [] := by
    intro he
    have := congrArg List.length he
    rw [bl_from, List.length_drop, bl_size] at this
    simp at this; omega
  have hg := gl_decodeGo (s.extract k s.size) hne
  have hl := decodeGo_le (s.extract k s.size) hne
  rw [← bl_from, show gl (bl (s.extract k s.size)) = okP (Lib.decodeGo (s.extract k s.size)) from hg, okP_eq]
  exact uget_in0 s k w h _ _ hl (Lib.hid (Tryz.utf8_DecodeRuneInString (s.extract k s.size) w hT))
/-- **utf.Get at every string and place.** -/
def getAt (l : List UInt8) (k : Int) : Int × Int := if k < 0 then (0, 0) else gl (l.drop k.toNat)
theorem getAt_nat (l : List UInt8) (k : Nat) : getAt l k = gl (l.drop k) := by unfold getAt; rw [if_neg (by omega)]; rfl
theorem getAt_out (l : List UInt8) (k : Int) (h : k < 0 ∨ (l.length : Int) ≤ k) : getAt l k = (0, 0) := by
  unfold getAt
  by_cases h0 : k < 0
  · rw [if_pos h0]
  · rw [if_neg h0, List.drop_eq_nil_of_le (by omega), gl_nil]
theorem uget (s : ByteArray) (k : Int) (w : World) (hT : Tabs w) :
    Calls Tryz.prog 46 #[.string s, .int .i64 k] w fun e w' => e = .returned (.tuple #[.int .i64 (getAt (bl s) k).1, .int .i64 (getAt (bl s) k).2]) ∧ Below w.heap.size w w' := by
  by_cases h0 : k < 0
  · rw [getAt_out _ _ (.inl h0)]; exact uget_lo s k w h0
  by_cases h1 : (s.size : Int) ≤ k
  · rw [getAt_out _ _ (.inr (by rw [bl_size]; exact h1))]; exact uget_hi s k w (by omega) h1
  obtain ⟨n, rfl⟩ := Int.eq_ofNat_of_zero_le (by omega : 0 ≤ k)
  rw [getAt_nat]
  exact uget_in s n w (by omega) hT

/-! ### galliardref01.Get -/
theorem sub_list (s : ByteArray) (n : Nat) : (s.extract 0 n).data.toList = (bl s).take n := by
  rw [Lib.extract_data]; rfl
theorem str_eq (c : Int) (s : ByteArray) (k : Nat) : ((putS c).toList == (s.extract 0 k).toList) = decide (put c = (bl s).take k) := by
  rw [Lib.toList_data, Lib.toList_data, sub_list, putS_list]
  by_cases h : put c = (bl s).take k
  · rw [decide_eq_true h]; simp [h]
  · rw [decide_eq_false h]; simp [h]
theorem nth_get (s : ByteArray) (i : Nat) (h : i < s.size) : nth (bl s) i = (s[i]'h).toNat := by
  unfold nth
  rw [show (bl s).getD i 0 = s.get! i from (get!_list s i).symm, Utf8W.get!_of_lt s i h]
set_option maxRecDepth 100000 in
set_option maxHeartbeats 4000000 in
theorem rget0 (s : ByteArray) (w : World) (A B : Int) (hs : s.size ≤ 9223372036854775807) (HG : Hid ((A, B) = refFrom 4 1 (bl s))) :
    Calls Tryz.prog 30 #[.string s] w fun e w' => e = .returned (.tuple #[.int .i64 A, .int .i64 B]) ∧ Below w.heap.size w w' := by
  have hbs := bl_size s
  have HBS := Lib.hid hbs; clear hbs
  go_enter Tryz.func30, Tryz.ntmps30
  go_wp2
  go_loopg [4] 5 (fun g i wr => ∃ k : Nat, g + k = 6 ∧ (1 ≤ k ∧ k ≤ 5) ∧ i = .int .i64 k ∧ Below w.heap.size w wr ∧ Hid ((A, B) = refFrom (5 - k) k (bl s)))
  case atStart => exact ⟨1, rfl, by omega, rfl, Below.refl _ _, HG⟩
  case round =>
    obtain ⟨k, hg, hk1, rfl, hb, HK⟩ := hrel
    clear HG
    by_cases hout : ¬ (k ≤ 4 ∧ k ≤ s.size)
    · have he := HK.out
      have hz : refFrom (5 - k) k (bl s) = (0, 0) := by
        by_cases h5 : k = 5
        · subst h5; rfl
        · exact refFrom_out _ _ _ (by rw [HBS.out]; omega)
      rw [hz] at he
      have hA := congrArg Prod.fst he
      have hB := congrArg Prod.snd he
      simp only at hA hB
      subst hA; subst hB
      clear he hz
      by_cases h5 : k = 5
      · subst h5
        go_wp2
        go_ret2
        exact ⟨rfl, hb⟩
      · have h6 : (k : Int) ≤ 4 := by omega
        have h7 : ¬ ((k : Int) ≤ (s.size : Int)) := by omega
        clear hout h5
        go_wp2
        go_ret2
        exact ⟨rfl, hb⟩
    have hin : k ≤ 4 ∧ k ≤ s.size := Decidable.not_not.1 hout
    clear hout
    by_cases e1 : k = 1
    · subst e1
      obtain ⟨_, hin⟩ := hin
      obtain ⟨x0, hx0⟩ : ∃ x, s[0]'(by omega) = x := ⟨_, rfl⟩
      have hc : candN 1 (bl s) = (x0.toNat : Int) := by
        show cand1 (nth (bl s) 0) = _
        rw [nth_get s 0 (by omega), hx0]; rfl
      have HC := Lib.hid hc; clear hc
      have l0 : (x0.toNat : Int) < 256 := by have := UInt8.toNat_lt x0; omega
      have b0 : (0 : Int) < (s.size : Int) := by omega
      have bk : (1 : Int) ≤ (s.size : Int) := by omega
      go_wp2
      go_cut [79] from 6 to 81 (fun b wx => b = .bool (decide (put ((x0.toNat : Int)) = (bl s).take 1)) ∧ Below wr.heap.size wr wx)
      case first =>
        go_region_with (go_at_call 39; refine (rput _ _).mono ?_; rintro e w1 ⟨rfl, hb1⟩)
        go_wp2_with fail
        go_meet
        exact ⟨by rw [str_eq], ⟨hb1.os, hb1.tape, hb1.output, hb1.size, hb1.block⟩⟩
      case rest =>
        obtain ⟨rfl, hb1⟩ := hcut
        have hbw : Below w.heap.size w wc := hb.trans (hb1.mono hb.size)
        by_cases hm : put ((x0.toNat : Int)) = (bl s).take 1
        · rw [decide_eq_true hm]
          have he := HK.out.trans (refFrom_hit _ 1 (bl s) (by rw [HBS.out]; omega) (by rw [HC.out]; exact hm))
          rw [HC.out] at he
          have hA := congrArg Prod.fst he
          have hB := congrArg Prod.snd he
          simp only at hA hB
          subst hA; subst hB
          clear he hm
          go_wp2
          go_ret2
          exact ⟨rfl, hbw⟩
        · rw [decide_eq_false hm]
          have he := HK.out.trans (refFrom_miss _ 1 (bl s) (by rw [HBS.out]; omega) (by rw [HC.out]; exact hm))
          have HE := Lib.hid he; clear he hm
          go_wp2
          go_roundg 4
          case measure => omega
          case rel => exact ⟨2, by omega, by omega, by go_num, hbw, HE⟩
    by_cases e2 : k = 2
    · subst e2
      obtain ⟨_, hin⟩ := hin
      obtain ⟨x0, hx0⟩ : ∃ x, s[0]'(by omega) = x := ⟨_, rfl⟩
      obtain ⟨x1, hx1⟩ : ∃ x, s[1]'(by omega) = x := ⟨_, rfl⟩
      have hc : candN 2 (bl s) = ((x0.toNat : Int) - 192) * 64 + x1.toNat - 128 := by
        show cand2 (nth (bl s) 0) (nth (bl s) 1) = _
        rw [nth_get s 0 (by omega), hx0, nth_get s 1 (by omega), hx1]; rfl
      have HC := Lib.hid hc; clear hc
      have l0 : (x0.toNat : Int) < 256 := by have := UInt8.toNat_lt x0; omega
      have l1 : (x1.toNat : Int) < 256 := by have := UInt8.toNat_lt x1; omega
      have b0 : (0 : Int) < (s.size : Int) := by omega
      have b1 : (1 : Int) < (s.size : Int) := by omega
      have bk : (2 : Int) ≤ (s.size : Int) := by omega
      go_wp2
      go_quiet (fail)
      go_wp2_with fail
      go_cut [79] from 6 to 81 (fun b wx => b = .bool (decide (put (((x0.toNat : Int) - 192) * 64 + x1.toNat - 128) = (bl s).take 2)) ∧ Below wr.heap.size wr wx)
      case first =>
        go_region_with (go_at_call 39; refine (rput _ _).mono ?_; rintro e w1 ⟨rfl, hb1⟩)
        go_wp2_with fail
        go_meet
        exact ⟨by rw [str_eq], ⟨hb1.os, hb1.tape, hb1.output, hb1.size, hb1.block⟩⟩
      case rest =>
        obtain ⟨rfl, hb1⟩ := hcut
        have hbw : Below w.heap.size w wc := hb.trans (hb1.mono hb.size)
        by_cases hm : put (((x0.toNat : Int) - 192) * 64 + x1.toNat - 128) = (bl s).take 2
        · rw [decide_eq_true hm]
          have he := HK.out.trans (refFrom_hit _ 2 (bl s) (by rw [HBS.out]; omega) (by rw [HC.out]; exact hm))
          rw [HC.out] at he
          have hA := congrArg Prod.fst he
          have hB := congrArg Prod.snd he
          simp only at hA hB
          subst hA; subst hB
          clear he hm
          go_wp2
          go_ret2
          exact ⟨rfl, hbw⟩
        · rw [decide_eq_false hm]
          have he := HK.out.trans (refFrom_miss _ 2 (bl s) (by rw [HBS.out]; omega) (by rw [HC.out]; exact hm))
          have HE := Lib.hid he; clear he hm
          go_wp2
          go_roundg 3
          case measure => omega
          case rel => exact ⟨3, by omega, by omega, by go_num, hbw, HE⟩
    by_cases e3 : k = 3
    · subst e3
      obtain ⟨_, hin⟩ := hin
      obtain ⟨x0, hx0⟩ : ∃ x, s[0]'(by omega) = x := ⟨_, rfl⟩
      obtain ⟨x1, hx1⟩ : ∃ x, s[1]'(by omega) = x := ⟨_, rfl⟩
      obtain ⟨x2, hx2⟩ : ∃ x, s[2]'(by omega) = x := ⟨_, rfl⟩
      have hc : candN 3 (bl s) = ((x0.toNat : Int) - 224) * 4096 + ((x1.toNat : Int) - 128) * 64 + x2.toNat - 128 := by
        show cand3 (nth (bl s) 0) (nth (bl s) 1) (nth (bl s) 2) = _
        rw [nth_get s 0 (by omega), hx0, nth_get s 1 (by omega), hx1, nth_get s 2 (by omega), hx2]; rfl
      have HC := Lib.hid hc; clear hc
      have l0 : (x0.toNat : Int) < 256 := by have := UInt8.toNat_lt x0; omega
      have l1 : (x1.toNat : Int) < 256 := by have := UInt8.toNat_lt x1; omega
      have l2 : (x2.toNat : Int) < 256 := by have := UInt8.toNat_lt x2; omega
      have b0 : (0 : Int) < (s.size : Int) := by omega
      have b1 : (1 : Int) < (s.size : Int) := by omega
      have b2 : (2 : Int) < (s.size : Int) := by omega
      have bk : (3 : Int) ≤ (s.size : Int) := by omega
      go_wp2
      go_quiet (fail)
      go_wp2_with fail
      go_cut [79] from 6 to 81 (fun b wx => b = .bool (decide (put (((x0.toNat : Int) - 224) * 4096 + ((x1.toNat : Int) - 128) * 64 + x2.toNat - 128) = (bl s).take 3)) ∧ Below wr.heap.size wr wx)
      case first =>
        go_region_with (go_at_call 39; refine (rput _ _).mono ?_; rintro e w1 ⟨rfl, hb1⟩)
        go_wp2_with fail
        go_meet
        exact ⟨by rw [str_eq], ⟨hb1.os, hb1.tape, hb1.output, hb1.size, hb1.block⟩⟩
      case rest =>
        obtain ⟨rfl, hb1⟩ := hcut
        have hbw : Below w.heap.size w wc := hb.trans (hb1.mono hb.size)
        by_cases hm : put (((x0.toNat : Int) - 224) * 4096 + ((x1.toNat : Int) - 128) * 64 + x2.toNat - 128) = (bl s).take 3
        · rw [decide_eq_true hm]
          have he := HK.out.trans (refFrom_hit _ 3 (bl s) (by rw [HBS.out]; omega) (by rw [HC.out]; exact hm))
          rw [HC.out] at he
          have hA := congrArg Prod.fst he
          have hB := congrArg Prod.snd he
          simp only at hA hB
          subst hA; subst hB
          clear he hm
          go_wp2
          go_ret2
          exact ⟨rfl, hbw⟩
        · rw [decide_eq_false hm]
          have he := HK.out.trans (refFrom_miss _ 3 (bl s) (by rw [HBS.out]; omega) (by rw [HC.out]; exact hm))
          have HE := Lib.hid he; clear he hm
          go_wp2
          go_roundg 2
          case measure => omega
          case rel => exact ⟨4, by omega, by omega, by go_num, hbw, HE⟩
    · obtain rfl : k = 4 := by omega
      obtain ⟨_, hin⟩ := hin
      obtain ⟨x0, hx0⟩ : ∃ x, s[0]'(by omega) = x := ⟨_, rfl⟩
      obtain ⟨x1, hx1⟩ : ∃ x, s[1]'(by omega) = x := ⟨_, rfl⟩
      obtain ⟨x2, hx2⟩ : ∃ x, s[2]'(by omega) = x := ⟨_, rfl⟩
      obtain ⟨x3, hx3⟩ : ∃ x, s[3]'(by omega) = x := ⟨_, rfl⟩
      have hc : candN 4 (bl s) = ((x0.toNat : Int) - 240) * 262144 + ((x1.toNat : Int) - 128) * 4096 + ((x2.toNat : Int) - 128) * 64 + x3.toNat - 128 := by
        show cand4 (nth (bl s) 0) (nth (bl s) 1) (nth (bl s) 2) (nth (bl s) 3) = _
        rw [nth_get s 0 (by omega), hx0, nth_get s 1 (by omega), hx1, nth_get s 2 (by omega), hx2, nth_get s 3 (by omega), hx3]; rfl
      have HC := Lib.hid hc; clear hc
      have l0 : (x0.toNat : Int) < 256 := by have := UInt8.toNat_lt x0; omega
      have l1 : (x1.toNat : Int) < 256 := by have := UInt8.toNat_lt x1; omega
      have l2 : (x2.toNat : Int) < 256 := by have := UInt8.toNat_lt x2; omega
      have l3 : (x3.toNat : Int) < 256 := by have := UInt8.toNat_lt x3; omega
      have b0 : (0 : Int) < (s.size : Int) := by omega
      have b1 : (1 : Int) < (s.size : Int) := by omega
      have b2 : (2 : Int) < (s.size : Int) := by omega
      have b3 : (3 : Int) < (s.size : Int) := by omega
      have bk : (4 : Int) ≤ (s.size : Int) := by omega
      go_wp2
      go_quiet (fail)
      go_wp2_with fail
      go_cut [79] from 6 to 81 (fun b wx => b = .bool (decide (put (((x0.toNat : Int) - 240) * 262144 + ((x1.toNat : Int) - 128) * 4096 + ((x2.toNat : Int) - 128) * 64 + x3.toNat - 128) = (bl s).take 4)) ∧ Below wr.heap.size wr wx)
      case first =>
        go_region_with (go_at_call 39; refine (rput _ _).mono ?_; rintro e w1 ⟨rfl, hb1⟩)
        go_wp2_with fail
        go_meet
        exact ⟨by rw [str_eq], ⟨hb1.os, hb1.tape, hb1.output, hb1.size, hb1.block⟩⟩
      case rest =>
        obtain ⟨rfl, hb1⟩ := hcut
        have hbw : Below w.heap.size w wc := hb.trans (hb1.mono hb.size)
        by_cases hm : put (((x0.toNat : Int) - 240) * 262144 + ((x1.toNat : Int) - 128) * 4096 + ((x2.toNat : Int) - 128) * 64 + x3.toNat - 128) = (bl s).take 4
        · rw [decide_eq_true hm]
          have he := HK.out.trans (refFrom_hit _ 4 (bl s) (by rw [HBS.out]; omega) (by rw [HC.out]; exact hm))
          rw [HC.out] at he
          have hA := congrArg Prod.fst he
          have hB := congrArg Prod.snd he
          simp only at hA hB
          subst hA; subst hB
          clear he hm
          go_wp2
          go_ret2
          exact ⟨rfl, hbw⟩
        · rw [decide_eq_false hm]
          have he := HK.out.trans (refFrom_miss _ 4 (bl s) (by rw [HBS.out]; omega) (by rw [HC.out]; exact hm))
          have HE := Lib.hid he; clear he hm
          go_wp2
          go_roundg 1
          case measure => omega
          case rel => exact ⟨5, by omega, by omega, by go_num, hbw, HE⟩
/-- **galliardref01.Get at every string.** -/
theorem rget (s : ByteArray) (w : World) (hs : s.size ≤ 9223372036854775807) :
    Calls Tryz.prog 30 #[.string s] w fun e w' => e = .returned (.tuple #[.int .i64 (gl (bl s)).1, .int .i64 (gl (bl s)).2]) ∧ Below w.heap.size w w' :=
  rget0 s w _ _ hs (Lib.hid (gl_from (bl s)))

end Go.Proofs.YtekmenkebokdoaaGreatDoor
