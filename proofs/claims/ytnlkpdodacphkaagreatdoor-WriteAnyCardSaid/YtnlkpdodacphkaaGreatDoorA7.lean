/-
  The walks of the functions that read letters: galliardref01.Get, utf.Get.
  The walks of the functions that go letter by letter: utf.run, utf.Bad, utf.Count, galliardref01.Bad.
  The walks of layer 2: chars.Start, Part, Blank, Letter, Text, Name, Trim, Empty, Split.
  The walks of the document's own answers for layer 2: galliardref01.Text, Name, Trim.
  The walk of galliardref01.Trim: two loops, from both ends.
-/
import Derived.Test.YtnlkpdodacphkaaGreatDoorA6
import Derived.Deep.QuietTactic
import Derived.BigQuiet
import Derived.Deep.RegionWith
import Derived.Deep.LoopGhost
import Derived.Deep.Cut
import Derived.Deep.CutRange
import Derived.Lib.IndexBytes
import Derived.Test.YtnlkpdodacphkaaGreatDoorA1
import Derived.Shelf.Strings.SlTrimAscii
import Derived.OwnWalk
namespace Go.Proofs.YtnlkpdodacphkaaGreatDoor
open Go.RowKit
set_option maxRecDepth 100000

/-- The two tables of unicode/utf8. -/
def Tabs (w : World) : Prop := Lib.Utf8Tabs 3 4 w
theorem Tabs.below {w w' : World} (h : Tabs w) (hb : Below w.heap.size w w') : Tabs w' := Utf8Tabs_below h hb

/-! ### utf.Get -/
/-- A string's bytes. -/
theorem bl_from (s : ByteArray) (a : Nat) : bl (s.extract a s.size) = (bl s).drop a := Lib.extract_to_end s a
theorem decodeN_le (n b0 b1 b2 b3 : Nat) (h0 : b0 < 256) : (Lib.decodeN n b0 b1 b2 b3).1 ≤ 2097152 := by
  unfold Lib.decodeN
  repeat' split
  all_goals (simp; try omega)
theorem decodeGo_le (s : ByteArray) (h : bl s ≠ []) : (Lib.decodeGo s).1 ≤ 2097152 := by
  rw [decodeGo_list s h]; exact decodeN_le _ _ _ _ _ (nth_lt _ _)
def okA (R N : Nat) : Int := if R = 65533 ∧ N = 1 then 0 else R
def okB (R N : Nat) : Int := if R = 65533 ∧ N = 1 then 0 else N
theorem okP_eq (d : Nat × Nat) : okP d = (okA d.1 d.2, okB d.1 d.2) := by
  unfold okP okA okB; split <;> rfl
set_option maxHeartbeats 400000 in
theorem uget_in0 (s : ByteArray) (k : Nat) (w : World) (h : k < s.size) (R N : Nat) (hR : R ≤ 2097152)
    (C : Hid (Calls Tryz.prog 126 #[.string (s.extract k s.size)] w fun e w' => e = .returned (.tuple #[.int .i32 R, .int .i64 N]) ∧ Below w.heap.size w w')) :
    Calls Tryz.prog 95 #[.string s, .int .i64 k] w fun e w' => e = .returned (.tuple #[.int .i64 (okA R N), .int .i64 (okB R N)]) ∧ Below w.heap.size w w' := by
  have hko : (k : Int) < (s.size : Int) := by omega
  by_cases h1 : R = 65533
  · by_cases h2 : N = 1
    · rw [show okA R N = 0 by unfold okA; rw [if_pos ⟨h1, h2⟩], show okB R N = 0 by unfold okB; rw [if_pos ⟨h1, h2⟩]]
      have b1 : ((R : Int) == 65533) = true := by simp; omega
      have b2 : ((N : Int) == 1) = true := by simp; omega
      clear h1 h2
      go_enter Tryz.func95, Tryz.ntmps95
      go_wp2_with (go_at_call 126; refine C.out.mono ?_; rintro e w' ⟨rfl, hb⟩)
      go_ret2
      exact ⟨rfl, hb⟩
    · rw [show okA R N = R by unfold okA; rw [if_neg (fun h => h2 h.2)], show okB R N = N by unfold okB; rw [if_neg (fun h => h2 h.2)]]
      have b1 : ((R : Int) == 65533) = true := by simp; omega
      have b2 : ((N : Int) == 1) = false := by simp; omega
      clear h1 h2
      go_enter Tryz.func95, Tryz.ntmps95
      go_wp2_with (go_at_call 126; refine C.out.mono ?_; rintro e w' ⟨rfl, hb⟩)
      go_ret2
      exact ⟨rfl, hb⟩
  · rw [show okA R N = R by unfold okA; rw [if_neg (fun h => h1 h.1)], show okB R N = N by unfold okB; rw [if_neg (fun h => h1 h.1)]]
    have b1 : ((R : Int) == 65533) = false := by simp; omega
    clear h1
    go_enter Tryz.func95, Tryz.ntmps95
    go_wp2_with (go_at_call 126; refine C.out.mono ?_; rintro e w' ⟨rfl, hb⟩)
    go_ret2
    exact ⟨rfl, hb⟩
theorem uget_in (s : ByteArray) (k : Nat) (w : World) (h : k < s.size) (hT : Tabs w) :
    Calls Tryz.prog 95 #[.string s, .int .i64 k] w fun e w' => e = .returned (.tuple #[.int .i64 (gl ((bl s).drop k)).1, .int .i64 (gl ((bl s).drop k)).2]) ∧ Below w.heap.size w w' := by
  have hne : bl (s.extract k s.size) ≠ [] := by
    intro he
    have := congrArg List.length he
    rw [bl_from, List.length_drop, bl_size] at this
    simp at this; omega
  have hg := gl_decodeGo (s.extract k s.size) hne
  have hl := decodeGo_le (s.extract k s.size) hne
  rw [← bl_from, show gl (bl (s.extract k s.size)) = okP (Lib.decodeGo (s.extract k s.size)) from hg, okP_eq]
  exact uget_in0 s k w h _ _ hl (Lib.hid (Tryz.utf8_DecodeRuneInString (s.extract k s.size) w hT))
/-! ### galliardref01.Get -/
theorem sub_list (s : ByteArray) (n : Nat) : (s.extract 0 n).data.toList = (bl s).take n := by
  rw [Lib.extract_data]; rfl
theorem str_eq (c : Int) (s : ByteArray) (k : Nat) : ((putS c).toList == (s.extract 0 k).toList) = decide (put c = (bl s).take k) := by
  rw [Lib.toList_data, Lib.toList_data, sub_list, putS_list]
  by_cases h : put c = (bl s).take k
  · rw [decide_eq_true h]; simp [h]
  · rw [decide_eq_false h]; simp [h]
theorem nth_get (s : ByteArray) (i : Nat) (h : i < s.size) : nth (bl s) i = (s[i]'h).toNat := by
  unfold nth
  rw [show (bl s).getD i 0 = s.get! i from (get!_list s i).symm, Utf8W.get!_of_lt s i h]
set_option maxRecDepth 100000 in
set_option maxHeartbeats 4000000 in
theorem rget0 (s : ByteArray) (w : World) (A B : Int) (hs : s.size ≤ 9223372036854775807) (HG : Hid ((A, B) = refFrom 4 1 (bl s))) :
    Calls Tryz.prog 40 #[.string s] w fun e w' => e = .returned (.tuple #[.int .i64 A, .int .i64 B]) ∧ Below w.heap.size w w' := by
  have hbs := bl_size s
  have HBS := Lib.hid hbs; clear hbs
  go_enter Tryz.func40, Tryz.ntmps40
  go_wp2
  go_loopg [4] 5 (fun g i wr => ∃ k : Nat, g + k = 6 ∧ (1 ≤ k ∧ k ≤ 5) ∧ i = .int .i64 k ∧ Below w.heap.size w wr ∧ Hid ((A, B) = refFrom (5 - k) k (bl s)))
  case atStart => exact ⟨1, rfl, by omega, rfl, Below.refl _ _, HG⟩
  case round =>
    obtain ⟨k, hg, hk1, rfl, hb, HK⟩ := hrel
    clear HG
    by_cases hout : ¬ (k ≤ 4 ∧ k ≤ s.size)
    · have he := HK.out
      have hz : refFrom (5 - k) k (bl s) = (0, 0) := by
        by_cases h5 : k = 5
        · subst h5; rfl
        · exact refFrom_out _ _ _ (by rw [HBS.out]; omega)
      rw [hz] at he
      have hA := congrArg Prod.fst he
      have hB := congrArg Prod.snd he
      simp only at hA hB
      subst hA; subst hB
      clear he hz
      by_cases h5 : k = 5
      · subst h5
        go_wp2
        go_ret2
        exact ⟨rfl, hb⟩
      · have h6 : (k : Int) ≤ 4 := by omega
        have h7 : ¬ ((k : Int) ≤ (s.size : Int)) := by omega
        clear hout h5
        go_wp2
        go_ret2
        exact ⟨rfl, hb⟩
    have hin : k ≤ 4 ∧ k ≤ s.size := Decidable.not_not.1 hout
    clear hout
    by_cases e1 : k = 1
    · subst e1
      obtain ⟨_, hin⟩ := hin
      obtain ⟨x0, hx0⟩ : ∃ x, s[0]'(by omega) = x := ⟨_, rfl⟩
      have hc : candN 1 (bl s) = (x0.toNat : Int) := by
        show cand1 (nth (bl s) 0) = _
        rw [nth_get s 0 (by omega), hx0]; rfl
      have HC := Lib.hid hc; clear hc
      have l0 : (x0.toNat : Int) < 256 := by have := UInt8.toNat_lt x0; omega
      have b0 : (0 : Int) < (s.size : Int) := by omega
      have bk : (1 : Int) ≤ (s.size : Int) := by omega
      go_wp2
      go_cut [79] from 6 to 81 (fun b wx => b = .bool (decide (put ((x0.toNat : Int)) = (bl s).take 1)) ∧ Below wr.heap.size wr wx)
      case first =>
        go_region_with (go_at_call 65; refine (rput _ _).mono ?_; rintro e w1 ⟨rfl, hb1⟩)
        go_wp2_with fail
        go_meet
        exact ⟨by rw [str_eq], ⟨hb1.os, hb1.tape, hb1.output, hb1.size, hb1.block⟩⟩
      case rest =>
        obtain ⟨rfl, hb1⟩ := hcut
        have hbw : Below w.heap.size w wc := hb.trans (hb1.mono hb.size)
        by_cases hm : put ((x0.toNat : Int)) = (bl s).take 1
        · rw [decide_eq_true hm]
          have he := HK.out.trans (refFrom_hit _ 1 (bl s) (by rw [HBS.out]; omega) (by rw [HC.out]; exact hm))
          rw [HC.out] at he
          have hA := congrArg Prod.fst he
          have hB := congrArg Prod.snd he
          simp only at hA hB
          subst hA; subst hB
          clear he hm
          go_wp2
          go_ret2
          exact ⟨rfl, hbw⟩
        · rw [decide_eq_false hm]
          have he := HK.out.trans (refFrom_miss _ 1 (bl s) (by rw [HBS.out]; omega) (by rw [HC.out]; exact hm))
          have HE := Lib.hid he; clear he hm
          go_wp2
          go_roundg 4
          case measure => omega
          case rel => exact ⟨2, by omega, by omega, by go_num, hbw, HE⟩
    by_cases e2 : k = 2
    · subst e2
      obtain ⟨_, hin⟩ := hin
      obtain ⟨x0, hx0⟩ : ∃ x, s[0]'(by omega) = x := ⟨_, rfl⟩
      obtain ⟨x1, hx1⟩ : ∃ x, s[1]'(by omega) = x := ⟨_, rfl⟩
      have hc : candN 2 (bl s) = ((x0.toNat : Int) - 192) * 64 + x1.toNat - 128 := by
        show cand2 (nth (bl s) 0) (nth (bl s) 1) = _
        rw [nth_get s 0 (by omega), hx0, nth_get s 1 (by omega), hx1]; rfl
      have HC := Lib.hid hc; clear hc
      have l0 : (x0.toNat : Int) < 256 := by have := UInt8.toNat_lt x0; omega
      have l1 : (x1.toNat : Int) < 256 := by have := UInt8.toNat_lt x1; omega
      have b0 : (0 : Int) < (s.size : Int) := by omega
      have b1 : (1 : Int) < (s.size : Int) := by omega
      have bk : (2 : Int) ≤ (s.size : Int) := by omega
      go_wp2
      go_quiet (fail)
      go_wp2_with fail
      go_cut [79] from 6 to 81 (fun b wx => b = .bool (decide (put (((x0.toNat : Int) - 192) * 64 + x1.toNat - 128) = (bl s).take 2)) ∧ Below wr.heap.size wr wx)
      case first =>
        go_region_with (go_at_call 65; refine (rput _ _).mono ?_; rintro e w1 ⟨rfl, hb1⟩)
        go_wp2_with fail
        go_meet
        exact ⟨by rw [str_eq], ⟨hb1.os, hb1.tape, hb1.output, hb1.size, hb1.block⟩⟩
      case rest =>
        obtain ⟨rfl, hb1⟩ := hcut
        have hbw : Below w.heap.size w wc := hb.trans (hb1.mono hb.size)
        by_cases hm : put (((x0.toNat : Int) - 192) * 64 + x1.toNat - 128) = (bl s).take 2
        · rw [decide_eq_true hm]
          have he := HK.out.trans (refFrom_hit _ 2 (bl s) (by rw [HBS.out]; omega) (by rw [HC.out]; exact hm))
          rw [HC.out] at he
          have hA := congrArg Prod.fst he
          have hB := congrArg Prod.snd he
          simp only at hA hB
          subst hA; subst hB
          clear he hm
          go_wp2
          go_ret2
          exact ⟨rfl, hbw⟩
        · rw [decide_eq_false hm]
          have he := HK.out.trans (refFrom_miss _ 2 (bl s) (by rw [HBS.out]; omega) (by rw [HC.out]; exact hm))
          have HE := Lib.hid he; clear he hm
          go_wp2
          go_roundg 3
          case measure => omega
          case rel => exact ⟨3, by omega, by omega, by go_num, hbw, HE⟩
    by_cases e3 : k = 3
    · subst e3
      obtain ⟨_, hin⟩ := hin
      obtain ⟨x0, hx0⟩ : ∃ x, s[0]'(by omega) = x := ⟨_, rfl⟩
      obtain ⟨x1, hx1⟩ : ∃ x, s[1]'(by omega) = x := ⟨_, rfl⟩
      obtain ⟨x2, hx2⟩ : ∃ x, s[2]'(by omega) = x := ⟨_, rfl⟩
      have hc : candN 3 (bl s) = ((x0.toNat : Int) - 224) * 4096 + ((x1.toNat : Int) - 128) * 64 + x2.toNat - 128 := by
        show cand3 (nth (bl s) 0) (nth (bl s) 1) (nth (bl s) 2) = _
        rw [nth_get s 0 (by omega), hx0, nth_get s 1 (by omega), hx1, nth_get s 2 (by omega), hx2]; rfl
      have HC := Lib.hid hc; clear hc
      have l0 : (x0.toNat : Int) < 256 := by have := UInt8.toNat_lt x0; omega
      have l1 : (x1.toNat : Int) < 256 := by have := UInt8.toNat_lt x1; omega
      have l2 : (x2.toNat : Int) < 256 := by have := UInt8.toNat_lt x2; omega
      have b0 : (0 : Int) < (s.size : Int) := by omega
      have b1 : (1 : Int) < (s.size : Int) := by omega
      have b2 : (2 : Int) < (s.size : Int) := by omega
      have bk : (3 : Int) ≤ (s.size : Int) := by omega
      go_wp2
      go_quiet (fail)
      go_wp2_with fail
      go_cut [79] from 6 to 81 (fun b wx => b = .bool (decide (put (((x0.toNat : Int) - 224) * 4096 + ((x1.toNat : Int) - 128) * 64 + x2.toNat - 128) = (bl s).take 3)) ∧ Below wr.heap.size wr wx)
      case first =>
        go_region_with (go_at_call 65; refine (rput _ _).mono ?_; rintro e w1 ⟨rfl, hb1⟩)
        go_wp2_with fail
        go_meet
        exact ⟨by rw [str_eq], ⟨hb1.os, hb1.tape, hb1.output, hb1.size, hb1.block⟩⟩
      case rest =>
        obtain ⟨rfl, hb1⟩ := hcut
        have hbw : Below w.heap.size w wc := hb.trans (hb1.mono hb.size)
        by_cases hm : put (((x0.toNat : Int) - 224) * 4096 + ((x1.toNat : Int) - 128) * 64 + x2.toNat - 128) = (bl s).take 3
        · rw [decide_eq_true hm]
          have he := HK.out.trans (refFrom_hit _ 3 (bl s) (by rw [HBS.out]; omega) (by rw [HC.out]; exact hm))
          rw [HC.out] at he
          have hA := congrArg Prod.fst he
          have hB := congrArg Prod.snd he
          simp only at hA hB
          subst hA; subst hB
          clear he hm
          go_wp2
          go_ret2
          exact ⟨rfl, hbw⟩
        · rw [decide_eq_false hm]
          have he := HK.out.trans (refFrom_miss _ 3 (bl s) (by rw [HBS.out]; omega) (by rw [HC.out]; exact hm))
          have HE := Lib.hid he; clear he hm
          go_wp2
          go_roundg 2
          case measure => omega
          case rel => exact ⟨4, by omega, by omega, by go_num, hbw, HE⟩
    · obtain rfl : k = 4 := by omega
      obtain ⟨_, hin⟩ := hin
      obtain ⟨x0, hx0⟩ : ∃ x, s[0]'(by omega) = x := ⟨_, rfl⟩
      obtain ⟨x1, hx1⟩ : ∃ x, s[1]'(by omega) = x := ⟨_, rfl⟩
      obtain ⟨x2, hx2⟩ : ∃ x, s[2]'(by omega) = x := ⟨_, rfl⟩
      obtain ⟨x3, hx3⟩ : ∃ x, s[3]'(by omega) = x := ⟨_, rfl⟩
      have hc : candN 4 (bl s) = ((x0.toNat : Int) - 240) * 262144 + ((x1.toNat : Int) - 128) * 4096 + ((x2.toNat : Int) - 128) * 64 + x3.toNat - 128 := by
        show cand4 (nth (bl s) 0) (nth (bl s) 1) (nth (bl s) 2) (nth (bl s) 3) = _
        rw [nth_get s 0 (by omega), hx0, nth_get s 1 (by omega), hx1, nth_get s 2 (by omega), hx2, nth_get s 3 (by omega), hx3]; rfl
      have HC := Lib.hid hc; clear hc
      have l0 : (x0.toNat : Int) < 256 := by have := UInt8.toNat_lt x0; omega
      have l1 : (x1.toNat : Int) < 256 := by have := UInt8.toNat_lt x1; omega
      have l2 : (x2.toNat : Int) < 256 := by have := UInt8.toNat_lt x2; omega
      have l3 : (x3.toNat : Int) < 256 := by have := UInt8.toNat_lt x3; omega
      have b0 : (0 : Int) < (s.size : Int) := by omega
      have b1 : (1 : Int) < (s.size : Int) := by omega
      have b2 : (2 : Int) < (s.size : Int) := by omega
      have b3 : (3 : Int) < (s.size : Int) := by omega
      have bk : (4 : Int) ≤ (s.size : Int) := by omega
      go_wp2
      go_quiet (fail)
      go_wp2_with fail
      go_cut [79] from 6 to 81 (fun b wx => b = .bool (decide (put (((x0.toNat : Int) - 240) * 262144 + ((x1.toNat : Int) - 128) * 4096 + ((x2.toNat : Int) - 128) * 64 + x3.toNat - 128) = (bl s).take 4)) ∧ Below wr.heap.size wr wx)
      case first =>
        go_region_with (go_at_call 65; refine (rput _ _).mono ?_; rintro e w1 ⟨rfl, hb1⟩)
        go_wp2_with fail
        go_meet
        exact ⟨by rw [str_eq], ⟨hb1.os, hb1.tape, hb1.output, hb1.size, hb1.block⟩⟩
      case rest =>
        obtain ⟨rfl, hb1⟩ := hcut
        have hbw : Below w.heap.size w wc := hb.trans (hb1.mono hb.size)
        by_cases hm : put (((x0.toNat : Int) - 240) * 262144 + ((x1.toNat : Int) - 128) * 4096 + ((x2.toNat : Int) - 128) * 64 + x3.toNat - 128) = (bl s).take 4
        · rw [decide_eq_true hm]
          have he := HK.out.trans (refFrom_hit _ 4 (bl s) (by rw [HBS.out]; omega) (by rw [HC.out]; exact hm))
          rw [HC.out] at he
          have hA := congrArg Prod.fst he
          have hB := congrArg Prod.snd he
          simp only at hA hB
          subst hA; subst hB
          clear he hm
          go_wp2
          go_ret2
          exact ⟨rfl, hbw⟩
        · rw [decide_eq_false hm]
          have he := HK.out.trans (refFrom_miss _ 4 (bl s) (by rw [HBS.out]; omega) (by rw [HC.out]; exact hm))
          have HE := Lib.hid he; clear he hm
          go_wp2
          go_roundg 1
          case measure => omega
          case rel => exact ⟨5, by omega, by omega, by go_num, hbw, HE⟩
/-- **galliardref01.Get at every string.** -/
theorem rget (s : ByteArray) (w : World) (hs : s.size ≤ 9223372036854775807) :
    Calls Tryz.prog 40 #[.string s] w fun e w' => e = .returned (.tuple #[.int .i64 (gl (bl s)).1, .int .i64 (gl (bl s)).2]) ∧ Below w.heap.size w w' :=
  rget0 s w _ _ hs (Lib.hid (gl_from (bl s)))

end Go.Proofs.YtnlkpdodacphkaaGreatDoor
namespace Go.Proofs.YtnlkpdodacphkaaGreatDoor
open Go.RowKit
set_option maxRecDepth 100000

set_option maxHeartbeats 1000000 in
theorem urun0 (s : ByteArray) (w : World) (A B : Int) (hs : s.size ≤ 9223372036854775807) (hT : Tabs w)
    (HR : Hid (A = (runL (bl s)).1 ∧ B = (runL (bl s)).2)) :
    Calls Tryz.prog 66 #[.string s] w fun e w' => e = .returned (.tuple #[.int .i64 A, .int .i64 B]) ∧ Below w.heap.size w w' := by
  have HBS := Lib.hid (bl_size s)
  have HT := Lib.hid hT; clear hT
  go_enter Tryz.func66, Tryz.ntmps66
  go_wp2
  go_loopg [2, 3] s.size (fun g c e wr => ∃ (n k : Nat), g + k = s.size ∧ c = .int .i64 n ∧ e = .int .i64 k ∧ Below w.heap.size w wr ∧ Hid (Gone (bl s) n k))
  case atStart => exact ⟨0, 0, rfl, rfl, rfl, Below.refl _ _, Lib.hid (Gone.start _)⟩
  case round =>
    obtain ⟨n, k, hg, rfl, rfl, hb, HK⟩ := hrel
    by_cases hin : (k : Int) < (s.size : Int)
    · have hTr : Tabs wr := HT.out.below hb
      have c := uget_in s k wr (by omega) hTr
      have hp := gl_pos ((bl s).drop k)
      have hle := HK.out.2.1
      obtain ⟨X, hX⟩ : ∃ X, (gl ((bl s).drop k)).1 = X := ⟨_, rfl⟩
      obtain ⟨Y, hY⟩ : ∃ Y, (gl ((bl s).drop k)).2 = Y := ⟨_, rfl⟩
      rw [hX, hY] at c
      have hdl : ((bl s).drop k).length = s.size - k := by rw [List.length_drop, HBS.out]
      rw [hdl, hY] at hp
      have C := Lib.hid c; clear c
      have HY := Lib.hid hY; clear hY
      clear hX hdl hTr
      have hy0 := hp.1
      have hy1 : Y ≤ s.size - k := by have := hp.2.1; omega
      clear hp
      by_cases hz : Y = 0
      · have hA : A = n ∧ B = k := by
          have := HK.out.stop (by rw [HY.out]; exact hz)
          have hr := HR.out
          rw [this] at hr
          exact hr
        obtain ⟨rfl, rfl⟩ := hA
        have hzb : (Y == 0) = true := by simp [hz]
        clear hz
        go_wp2_with (go_at_call 95; refine C.out.mono ?_; rintro e w1 ⟨rfl, hb1⟩)
        go_ret2
        exact ⟨rfl, hb.trans (hb1.mono hb.size)⟩
      · have hzb : (Y == 0) = false := by simp [hz]
        have hst := HK.out.step (by rw [HY.out]; exact hz)
        rw [HY.out] at hst
        have HS := Lib.hid hst; clear hst
        have hyp : 1 ≤ Y := by omega
        clear hz
        go_wp2_with (go_at_call 95; refine C.out.mono ?_; rintro e w1 ⟨rfl, hb1⟩)
        go_roundg (s.size - (k + Y.toNat))
        case measure => omega
        case rel => exact ⟨n + 1, k + Y.toNat, by omega, by go_num, congrArg (Value.int .i64) (by omega), hb.trans (hb1.mono hb.size), HS⟩
    · have hA : A = n ∧ B = k := by
        have := HK.out.whole (by rw [HBS.out]; omega)
        have hr := HR.out
        rw [this] at hr
        exact hr
      obtain ⟨rfl, rfl⟩ := hA
      go_wp2
      go_ret2
      exact ⟨rfl, hb⟩
theorem urun (s : ByteArray) (w : World) (hs : s.size ≤ 9223372036854775807) (hT : Tabs w) :
    Calls Tryz.prog 66 #[.string s] w fun e w' => e = .returned (.tuple #[.int .i64 (runL (bl s)).1, .int .i64 (runL (bl s)).2]) ∧ Below w.heap.size w w' :=
  urun0 s w _ _ hs hT (Lib.hid ⟨rfl, rfl⟩)
/-- **utf.Bad at every string.** -/
theorem ubad (s : ByteArray) (w : World) (hs : s.size ≤ 9223372036854775807) (hT : Tabs w) :
    Calls Tryz.prog 43 #[.string s] w fun e w' => e = .returned (.int .i64 (badL (bl s))) ∧ Below w.heap.size w w' := by
  have c := urun s w hs hT
  clear hT
  unfold badL
  rw [bl_size]
  obtain ⟨n, hn⟩ : ∃ n, (runL (bl s)).1 = n := ⟨_, rfl⟩
  obtain ⟨k, hk⟩ : ∃ n, (runL (bl s)).2 = n := ⟨_, rfl⟩
  rw [hn, hk] at c
  rw [hk]
  have C := Lib.hid c
  clear hn hk c
  by_cases h : k < s.size
  · rw [if_pos h]
    go_enter Tryz.func43, Tryz.ntmps43
    go_wp2_with (go_at_call 66; refine C.out.mono ?_; rintro e w1 ⟨rfl, hb1⟩)
    go_ret
    exact ⟨rfl, hb1⟩
  · rw [if_neg h]
    go_enter Tryz.func43, Tryz.ntmps43
    go_wp2_with (go_at_call 66; refine C.out.mono ?_; rintro e w1 ⟨rfl, hb1⟩)
    go_ret
    exact ⟨rfl, hb1⟩

/-! ### galliardref01.Bad -/
theorem size_from (s : ByteArray) (k : Nat) : (s.extract k s.size).size ≤ s.size := by
  rw [← bl_size, bl_from, List.length_drop, bl_size]; omega
/-! ### small words -/
theorem min8 (n k : Nat) : ∃ m : Nat, m ≤ n ∧ m ≤ k ∧ (m = n ∨ m = k) ∧ Hid (min (n : Int) (k : Int) = (m : Int)) ∧ Hid (min m n = m) :=
  ⟨min n k, by omega, by omega, by omega, Lib.hid (by omega), Lib.hid (by omega)⟩
end Go.Proofs.YtnlkpdodacphkaaGreatDoor
namespace Go.Proofs.YtnlkpdodacphkaaGreatDoor
open Go.RowKit
set_option maxRecDepth 100000

/-! ### one byte -/
set_option maxHeartbeats 1000000 in
theorem cstart_yes (c : Int) (w : World) (h : (97 ≤ c ∧ c ≤ 122) ∨ (65 ≤ c ∧ c ≤ 90) ∨ c = 95 ∨ (128 ≤ c ∧ c < 256)) :
    Calls Tryz.prog 111 #[.int .u8 c] w fun e w' => e = .returned (.bool true) ∧ w = w' := by
  rcases h with ⟨h1, h2⟩ | ⟨h1, h2⟩ | rfl | ⟨h1, h2⟩
  · go_enter Tryz.func111, Tryz.ntmps111
    go_wp2
    go_ret
    exact ⟨rfl, rfl⟩
  · have h3 : ¬ 97 ≤ c := by omega
    go_enter Tryz.func111, Tryz.ntmps111
    go_wp2
    go_ret
    exact ⟨rfl, rfl⟩
  · go_enter Tryz.func111, Tryz.ntmps111
    go_wp2
    go_ret
    exact ⟨rfl, rfl⟩
  · have h3 : ¬ c ≤ 122 := by omega
    have h4 : ¬ c ≤ 90 := by omega
    have h5 : (c == 95) = false := by simp; omega
    go_enter Tryz.func111, Tryz.ntmps111
    go_wp2
    go_ret
    exact ⟨rfl, rfl⟩
set_option maxHeartbeats 1000000 in
theorem cstart_no (c : Int) (w : World) (h0 : 0 ≤ c) (h : c < 65 ∨ (91 ≤ c ∧ c ≤ 94) ∨ c = 96 ∨ (123 ≤ c ∧ c ≤ 127)) :
    Calls Tryz.prog 111 #[.int .u8 c] w fun e w' => e = .returned (.bool false) ∧ w = w' := by
  have h5 : (c == 95) = false := by simp; omega
  have d1 : decide (128 ≤ c) = false := decide_eq_false (by omega)
  rcases h with h1 | ⟨h1, h2⟩ | rfl | ⟨h1, h2⟩
  · go_enter Tryz.func111, Tryz.ntmps111
    go_wp2
    go_ret
    exact ⟨rfl, rfl⟩
  · have d2 : decide (c ≤ 90) = false := decide_eq_false (by omega)
    go_enter Tryz.func111, Tryz.ntmps111
    go_wp2
    go_ret
    exact ⟨rfl, rfl⟩
  · go_enter Tryz.func111, Tryz.ntmps111
    go_wp2
    go_ret
    exact ⟨rfl, rfl⟩
  · have d2 : decide (c ≤ 90) = false := decide_eq_false (by omega)
    have d3 : decide (c ≤ 122) = false := decide_eq_false (by omega)
    go_enter Tryz.func111, Tryz.ntmps111
    go_wp2
    go_ret
    exact ⟨rfl, rfl⟩
/-- **chars.Start at every byte.** -/
theorem cstart (c : Int) (w : World) (h0 : 0 ≤ c) (h1 : c < 256) :
    Calls Tryz.prog 111 #[.int .u8 c] w fun e w' => e = .returned (.bool (startB c)) ∧ w = w' := by
  cases h : startB c with
  | true => unfold startB at h; have := of_decide_eq_true h; exact cstart_yes c w (by omega)
  | false => unfold startB at h; have := of_decide_eq_false h; exact cstart_no c w h0 (by omega)
set_option maxHeartbeats 1000000 in
/-- **chars.Part at every byte.** -/
theorem cpart (c : Int) (w : World) (h0 : 0 ≤ c) (h1 : c < 256) :
    Calls Tryz.prog 112 #[.int .u8 c] w fun e w' => e = .returned (.bool (partB c)) ∧ w = w' := by
  by_cases hs : startB c = true
  · have C := Lib.hid (fun w => cstart c w h0 h1)
    rw [start_part hs]
    rw [hs] at C
    clear hs
    go_enter Tryz.func112, Tryz.ntmps112
    go_wp2_with (go_at_call 111; refine (C.out _).mono ?_; rintro e w' ⟨rfl, rfl⟩)
    go_ret
    exact ⟨rfl, rfl⟩
  · have hs' : startB c = false := by simpa using hs
    have C := Lib.hid (fun w => cstart c w h0 h1)
    rw [hs'] at C
    have hr : ¬ ((97 ≤ c ∧ c ≤ 122) ∨ (65 ≤ c ∧ c ≤ 90) ∨ c = 95 ∨ 128 ≤ c) := by unfold startB at hs'; exact of_decide_eq_false hs'
    clear hs hs'
    have hc : c < 45 ∨ c = 45 ∨ c = 46 ∨ c = 47 ∨ (48 ≤ c ∧ c ≤ 57) ∨ 58 ≤ c := by omega
    rcases hc with h | rfl | rfl | rfl | ⟨h, h'⟩ | h
    · rw [show partB c = false by unfold partB; apply decide_eq_false; omega]
      have h5 : (c == 45) = false := by simp; omega
      have h6 : (c == 46) = false := by simp; omega
      clear hr
      go_enter Tryz.func112, Tryz.ntmps112
      go_wp2_with (go_at_call 111; refine (C.out _).mono ?_; rintro e w' ⟨rfl, rfl⟩)
      go_ret
      exact ⟨rfl, rfl⟩
    · clear hr
      go_enter Tryz.func112, Tryz.ntmps112
      go_wp2_with (go_at_call 111; refine (C.out _).mono ?_; rintro e w' ⟨rfl, rfl⟩)
      go_ret
      exact ⟨rfl, rfl⟩
    · clear hr
      go_enter Tryz.func112, Tryz.ntmps112
      go_wp2_with (go_at_call 111; refine (C.out _).mono ?_; rintro e w' ⟨rfl, rfl⟩)
      go_ret
      exact ⟨rfl, rfl⟩
    · clear hr
      go_enter Tryz.func112, Tryz.ntmps112
      go_wp2_with (go_at_call 111; refine (C.out _).mono ?_; rintro e w' ⟨rfl, rfl⟩)
      go_ret
      exact ⟨rfl, rfl⟩
    · rw [show partB c = true by unfold partB; apply decide_eq_true; omega]
      clear hr
      go_enter Tryz.func112, Tryz.ntmps112
      go_wp2_with (go_at_call 111; refine (C.out _).mono ?_; rintro e w' ⟨rfl, rfl⟩)
      go_ret
      exact ⟨rfl, rfl⟩
    · rw [show partB c = false by unfold partB; apply decide_eq_false; omega]
      have h5 : (c == 45) = false := by simp; omega
      have h6 : (c == 46) = false := by simp; omega
      have d1 : decide (c ≤ 57) = false := decide_eq_false (by omega)
      clear hr
      go_enter Tryz.func112, Tryz.ntmps112
      go_wp2_with (go_at_call 111; refine (C.out _).mono ?_; rintro e w' ⟨rfl, rfl⟩)
      go_ret
      exact ⟨rfl, rfl⟩
set_option maxHeartbeats 1000000 in
/-- **chars.Blank at every byte.** -/
theorem cblank (c : UInt8) (w : World) :
    Calls Tryz.prog 175 #[.int .u8 (c.toNat : Int)] w fun e w' => e = .returned (.bool (blankB (c.toNat : Int))) ∧ w = w' := by
  have hb := indexByte_blank c
  have hi := Tryz.strings_IndexByte ⟨#[32, 9, 10, 13]⟩ (c.toNat : Int) w
  have hc : ((c.toNat : Int).toNat.toUInt8) = c := by simp
  rw [hc] at hi
  change Calls _ _ _ _ (fun e w' => e = .returned (.int .i64 (Lib.indexByte blanks c)) ∧ w' = w) at hi
  obtain ⟨n, hn⟩ : ∃ n, Lib.indexByte blanks c = n := ⟨_, rfl⟩
  rw [hn] at hi hb
  have C := Lib.hid hi
  clear hi hn hc
  by_cases h : 0 ≤ n
  · rw [hb.1 h]
    clear hb
    go_enter Tryz.func175, Tryz.ntmps175
    go_wp2_with (go_at_call 191; refine C.out.mono ?_; rintro e w' ⟨rfl, rfl⟩)
    go_ret
    exact ⟨rfl, rfl⟩
  · rw [show blankB (c.toNat : Int) = false by cases hq : blankB (c.toNat : Int) with
      | false => rfl
      | true => exact absurd (hb.2 hq) h]
    have d1 : decide (0 ≤ n) = false := decide_eq_false h
    clear hb
    go_enter Tryz.func175, Tryz.ntmps175
    go_wp2_with (go_at_call 191; refine C.out.mono ?_; rintro e w' ⟨rfl, rfl⟩)
    go_ret
    exact ⟨rfl, rfl⟩

/-! ### letters -/
set_option maxHeartbeats 2000000 in
/-- **chars.Letter at every number.** -/
theorem cletter (r : Int) (w : World) :
    Calls Tryz.prog 137 #[.int .i64 r] w fun e w' => e = .returned (.bool (letB r)) ∧ w = w' := by
  have hc : r = 9 ∨ r = 10 ∨ r = 13 ∨ r = 65534 ∨ r = 65535 ∨ (r < 32 ∧ r ≠ 9 ∧ r ≠ 10 ∧ r ≠ 13) ∨ (32 ≤ r ∧ r ≠ 65534 ∧ r ≠ 65535) := by omega
  rcases hc with rfl | rfl | rfl | rfl | rfl | ⟨h, h1, h2, h3⟩ | ⟨h, h1, h2⟩
  · go_enter Tryz.func137, Tryz.ntmps137
    go_wp2
    go_ret
    exact ⟨rfl, rfl⟩
  · go_enter Tryz.func137, Tryz.ntmps137
    go_wp2
    go_ret
    exact ⟨rfl, rfl⟩
  · go_enter Tryz.func137, Tryz.ntmps137
    go_wp2
    go_ret
    exact ⟨rfl, rfl⟩
  · go_enter Tryz.func137, Tryz.ntmps137
    go_wp2
    go_ret
    exact ⟨rfl, rfl⟩
  · go_enter Tryz.func137, Tryz.ntmps137
    go_wp2
    go_ret
    exact ⟨rfl, rfl⟩
  · rw [show letB r = false by rw [letB_not]; omega]
    have e1 : (r == 9) = false := by simp; omega
    have e2 : (r == 10) = false := by simp; omega
    have e3 : (r == 13) = false := by simp; omega
    have e4 : (r == 65534) = false := by simp; omega
    have e5 : (r == 65535) = false := by simp; omega
    clear h1 h2 h3
    go_enter Tryz.func137, Tryz.ntmps137
    go_wp2
    go_ret
    exact ⟨rfl, rfl⟩
  · have e1 : (r == 9) = false := by simp; omega
    have e2 : (r == 10) = false := by simp; omega
    have e3 : (r == 13) = false := by simp; omega
    have e4 : (r == 65534) = false := by simp; omega
    have e5 : (r == 65535) = false := by simp; omega
    have hm : letB r = mayB r := by
      unfold letB mayB
      by_cases hq : (0 ≤ r ∧ r < 55296) ∨ (57343 < r ∧ r ≤ 1114111)
      · rw [decide_eq_true hq]; apply decide_eq_true; omega
      · rw [decide_eq_false hq]; apply decide_eq_false; omega
    rw [hm]
    have C := Lib.hid (fun w => may_any r w)
    generalize mayB r = b at C
    clear h1 h2 hm
    go_enter Tryz.func137, Tryz.ntmps137
    go_wp2_with (go_at_call 165; refine (C.out _).mono ?_; rintro e w' ⟨rfl, rfl⟩)
    go_ret
    exact ⟨rfl, rfl⟩
set_option maxHeartbeats 2000000 in
theorem ctext0 (s : ByteArray) (w : World) (A : Int) (hs : s.size ≤ 9223372036854775807) (hT : Tabs w) (HR : Hid (A = textL (bl s))) :
    Calls Tryz.prog 113 #[.string s] w fun e w' => e = .returned (.int .i64 A) ∧ Below w.heap.size w w' := by
  have HBS := Lib.hid (bl_size s)
  have HT := Lib.hid hT; clear hT
  go_enter Tryz.func113, Tryz.ntmps113
  go_wp2
  go_loopg [3] s.size (fun g e wr => ∃ k : Nat, g + k = s.size ∧ e = .int .i64 k ∧ Below w.heap.size w wr ∧ Hid (Went (bl s) k))
  case atStart => exact ⟨0, rfl, rfl, Below.refl _ _, Lib.hid (Went.start _)⟩
  case round =>
    obtain ⟨k, hg, rfl, hb, HK⟩ := hrel
    by_cases hin : (k : Int) < (s.size : Int)
    · have hTr : Tabs wr := HT.out.below hb
      have c := uget_in s k wr (by omega) hTr
      have hp := gl_pos ((bl s).drop k)
      have hst := @Went.step (bl s) k HK.out
      have hsp := HK.out.stop
      have hlp := let_pos ((bl s).drop k)
      obtain ⟨X, hX⟩ : ∃ X, (gl ((bl s).drop k)).1 = X := ⟨_, rfl⟩
      obtain ⟨Y, hY⟩ : ∃ Y, (gl ((bl s).drop k)).2 = Y := ⟨_, rfl⟩
      rw [hX, hY] at c hlp
      rw [hX] at hsp hst
      rw [hY] at hst
      have hdl : ((bl s).drop k).length = s.size - k := by rw [List.length_drop, HBS.out]
      rw [hdl, hY] at hp
      have C := Lib.hid c; clear c
      have CL := Lib.hid (fun w => cletter X w)
      clear hX hdl hTr hY
      have hy0 := hp.1
      have hy1 : Y ≤ s.size - k := by have := hp.2.1; omega
      clear hp
      cases hl : letB X with
      | false =>
        have hA : A = k := HR.out.trans (hsp hl (by rw [HBS.out]; omega))
        rw [hl] at CL
        subst hA
        clear hl hlp hst hsp HR
        go_wp2_with (first | (go_at_call 95; refine C.out.mono ?_; rintro e w1 ⟨rfl, hb1⟩) | (go_at_call 137; refine (CL.out _).mono ?_; rintro e w1 ⟨rfl, rfl⟩))
        go_ret
        exact ⟨rfl, hb.trans (hb1.mono hb.size)⟩
      | true =>
        have HS := Lib.hid (hst hl)
        rw [hl] at CL
        have hyp := hlp hl
        clear hl hlp hst hsp
        go_wp2_with (first | (go_at_call 95; refine C.out.mono ?_; rintro e w1 ⟨rfl, hb1⟩) | (go_at_call 137; refine (CL.out _).mono ?_; rintro e w1 ⟨rfl, rfl⟩))
        go_roundg (s.size - (k + Y.toNat))
        case measure => omega
        case rel => exact ⟨k + Y.toNat, by omega, congrArg (Value.int .i64) (by omega), hb.trans (hb1.mono hb.size), HS⟩
    · have hA : A = -1 := HR.out.trans (HK.out.whole (by rw [HBS.out]; omega))
      subst hA
      clear HR
      go_wp2
      go_ret
      exact ⟨rfl, hb⟩
/-- **chars.Text at every string.** -/
theorem ctext (s : ByteArray) (w : World) (hs : s.size ≤ 9223372036854775807) (hT : Tabs w) :
    Calls Tryz.prog 113 #[.string s] w fun e w' => e = .returned (.int .i64 (textL (bl s))) ∧ Below w.heap.size w w' :=
  ctext0 s w _ hs hT (Lib.hid rfl)

/-! ### names -/
/-- The library's own variable holds some number. -/
def MaxL (w : World) : Prop := ∃ m : Int, w.cell? ⟨2, 0, none⟩ = some (.int .i64 m)
theorem MaxL.below {w w' : World} (h : MaxL w) (hb : Below w.heap.size w w') : MaxL w' := by
  obtain ⟨m, hm⟩ := h
  exact ⟨m, (hb.cell (World.block_lt_of_cell? _ _ hm)).trans hm⟩
theorem below_drewN (w : World) (n : Nat) : Below w.heap.size w (w.drewN n) := ⟨(Below.refl w.heap.size w).os, (Below.refl w.heap.size w).tape, (Below.refl w.heap.size w).output, (Below.refl w.heap.size w).size, (Below.refl w.heap.size w).block⟩
theorem bl_empty (s : ByteArray) (h : s.size = 0) : s.toList.isEmpty = true := by
  rw [Lib.toList_data, show s.data.toList = [] from List.eq_nil_of_length_eq_zero (by rw [← Lib.size_eq]; exact h)]; rfl
theorem bl_more (s : ByteArray) (h : s.size ≠ 0) : s.toList.isEmpty = false := by
  rw [Lib.toList_data]
  cases e : s.data.toList with
  | nil => exact absurd (by rw [Lib.size_eq, e]; rfl) h
  | cons _ _ => rfl
set_option maxRecDepth 100000 in
set_option maxHeartbeats 2000000 in
theorem cname0 (s : ByteArray) (w : World) (A : Bool) (hs : s.size ≤ 9223372036854775807) (hT : Tabs w) (HR : Hid (A = nameL (bl s))) :
    Calls Tryz.prog 78 #[.string s] w fun e w' => e = .returned (.bool A) ∧ Below w.heap.size w w' := by
  have HBS := Lib.hid (bl_size s)
  have HT := Lib.hid hT; clear hT
  by_cases h0 : s.size = 0
  · have hA : A = false := HR.out.trans (name_none _ (.inl (by rw [HBS.out]; exact h0)))
    subst hA
    have hemp := bl_empty s h0
    clear h0 HR HBS
    go_enter Tryz.func78, Tryz.ntmps78
    go_wp2
    go_ret
    exact ⟨rfl, Below.refl _ _⟩
  have hemp := bl_more s h0
  by_cases h60 : 60 < s.size
  · have hA : A = false := HR.out.trans (name_none _ (.inr (.inl (by rw [HBS.out]; exact h60))))
    subst hA
    have h60' : (60 : Int) < (s.size : Int) := by omega
    clear h60 h0 HR HBS
    go_enter Tryz.func78, Tryz.ntmps78
    go_wp2
    go_ret
    exact ⟨rfl, Below.refl _ _⟩
  have h60' : decide ((60 : Int) < (s.size : Int)) = false := decide_eq_false (by omega)
  have h61 : (s.size : Int) ≤ 60 := by omega
  have h01 : (0 : Int) < (s.size : Int) := by omega
  have Hn0 := Lib.hid h0
  have H60 := Lib.hid h60
  have h02 : 0 < s.size := by omega
  clear h0 h60
  obtain ⟨x0, hx0⟩ : ∃ x, s[0]'h02 = x := ⟨_, rfl⟩
  have hn0 : nth (bl s) 0 = x0.toNat := by rw [nth_get s 0 h02, hx0]
  have l0 : (x0.toNat : Int) < 256 := by have := UInt8.toNat_lt x0; omega
  have CS := Lib.hid (fun w => cstart (x0.toNat : Int) w (by omega) l0)
  cases hst : startB (x0.toNat : Int) with
  | false =>
    have hA : A = false := HR.out.trans (name_none _ (.inr (.inr (.inl (by rw [hn0]; exact hst)))))
    subst hA
    rw [hst] at CS
    clear HR hst hn0
    go_enter Tryz.func78, Tryz.ntmps78
    go_wp2_with (go_at_call 111; refine (CS.out _).mono ?_; rintro e w' ⟨rfl, rfl⟩)
    go_ret
    exact ⟨rfl, Below.refl _ _⟩
  | true =>
    have HS : Hid (startB (nth (bl s) 0) = true) := Lib.hid (by rw [hn0]; exact hst)
    rw [hst] at CS
    clear hst hn0
    go_enter Tryz.func78, Tryz.ntmps78
    go_wp2_with (go_at_call 111; refine (CS.out _).mono ?_; rintro e w' ⟨rfl, rfl⟩)
    go_loop [19] (fun i => ∃ k : Nat, k ≤ s.size ∧ i = .int .i64 k ∧ Hid (Parts (bl s) k)) (fun i => s.size - (intOf i).toNat)
    case atStart => exact ⟨0, by omega, rfl, Lib.hid (Parts.start _)⟩
    case round =>
      obtain ⟨k, hk, rfl, HK⟩ := hrel
      by_cases hin : k < s.size
      · have hin' : (k : Int) < (s.size : Int) := by omega
        obtain ⟨x, hx⟩ : ∃ x, s[k]'hin = x := ⟨_, rfl⟩
        have hn : nth (bl s) k = x.toNat := by rw [nth_get s k hin, hx]
        have l1 : (x.toNat : Int) < 256 := by have := UInt8.toNat_lt x; omega
        have CP := Lib.hid (fun w => cpart (x.toNat : Int) w (by omega) l1)
        cases hp : partB (x.toNat : Int) with
        | false =>
          have hA : A = false := HR.out.trans (name_bad _ k (by rw [HBS.out]; exact hin) (by rw [hn]; exact hp))
          subst hA
          rw [hp] at CP
          clear HR hp hn
          go_wp2_with (go_at_call 112; refine (CP.out _).mono ?_; rintro e w' ⟨rfl, rfl⟩)
          go_ret
          exact ⟨rfl, Below.refl _ _⟩
        | true =>
          have HN := Lib.hid (HK.out.step (by rw [hn]; exact hp))
          rw [hp] at CP
          clear hp hn
          go_wp2_with (go_at_call 112; refine (CP.out _).mono ?_; rintro e w' ⟨rfl, rfl⟩)
          go_round
          case rel => exact ⟨k + 1, by omega, by go_num, HN⟩
          case measure => simp [intOf]; omega
      · obtain rfl : k = s.size := by omega
        have hA : A = decide (badL (bl s) < 0) := HR.out.trans (name_yes _ (by rw [HBS.out]; exact Hn0.out) (by rw [HBS.out]; have := H60.out; omega) HS.out (by rw [HBS.out]; exact HK.out))
        have c := ubad s w hs HT.out
        generalize badL (bl s) = B at hA c
        subst hA
        have C := Lib.hid c
        clear c HR hk hin
        go_wp2_with (go_at_call 43; refine C.out.mono ?_; rintro e w' ⟨rfl, hb⟩)
        go_ret
        exact ⟨rfl, hb⟩
/-- **chars.Name at every string.** -/
theorem cname (s : ByteArray) (w : World) (hs : s.size ≤ 9223372036854775807) (hT : Tabs w) :
    Calls Tryz.prog 78 #[.string s] w fun e w' => e = .returned (.bool (nameL (bl s))) ∧ Below w.heap.size w w' :=
  cname0 s w _ hs hT (Lib.hid rfl)

/-! ### blanks at the ends -/
set_option maxHeartbeats 1000000 in
/-- **chars.Trim at every string.** -/
theorem ctrim (s : ByteArray) (w : World) (hs : s.size ≤ 9223372036854775807) :
    Calls Tryz.prog 81 #[.string s] w fun e w' => e = .returned (.string (trimmed s)) ∧ Below w.heap.size w w' := by
  have hcon := Any.strings_Trim_laid Tryz.lays160 (by kernel_rfl) s ⟨#[32, 9, 10, 13]⟩ w hs (by decide) (ascii_of_all (by decide))
  change Calls Tryz.prog 116 _ _ (fun e w' => e = .returned (.string (trimmed s)) ∧ Below w.heap.size w w') at hcon
  generalize trimmed s = r at hcon ⊢
  have C := Lib.hid hcon; clear hcon
  go_enter Tryz.func81, Tryz.ntmps81
  go_wp2_with (go_at_call 116; refine C.out.mono ?_; rintro e w' ⟨rfl, hb⟩)
  go_ret
  exact ⟨rfl, hb⟩
set_option maxHeartbeats 1000000 in
/-- **chars.Empty at every string.** -/
theorem cempty (s : ByteArray) (w : World) (hs : s.size ≤ 9223372036854775807) :
    Calls Tryz.prog 68 #[.string s] w fun e w' => e = .returned (.bool (trimmed s).toList.isEmpty) ∧ Below w.heap.size w w' := by
  have C := Lib.hid (ctrim s w hs)
  generalize trimmed s = r at C ⊢
  go_enter Tryz.func68, Tryz.ntmps68
  go_wp2_with (go_at_call 81; refine C.out.mono ?_; rintro e w' ⟨rfl, hb⟩)
  go_ret
  exact ⟨rfl, hb⟩

/-! ### a colon -/
theorem cut_len (l m : List UInt8) : (Lib.cut l m).1.length ≤ l.length ∧ (Lib.cut l m).2.1.length ≤ l.length := by
  unfold Lib.cut
  split
  · simp only [List.length_take, List.length_drop]; omega
  · simp
set_option maxHeartbeats 2000000 in
/-- **chars.Split at strings that are not too long.** -/
theorem csplit (s : ByteArray) (w : World) (hs : s.size < 4294967281) (hT : Tabs w) (hM : MaxL w) :
    Calls Tryz.prog 131 #[.string s] w fun e w' => e = .returned (.tuple #[.string (str (splitL (bl s)).1), .string (str (splitL (bl s)).2.1), .bool (splitL (bl s)).2.2]) ∧ Below w.heap.size w w' := by
  have HT := Lib.hid hT; clear hT
  obtain ⟨m, hm⟩ := hM
  have hcut := Tryz.strings_Cut s ⟨#[58]⟩ m w hs hm
  have hl := cut_len (bl s) [58]
  rw [bl_size] at hl
  unfold splitL
  change Calls _ _ _ _ (fun e w' => e = .returned (.tuple #[.string (str (Lib.cut (bl s) [58]).1), .string (str (Lib.cut (bl s) [58]).2.1), .bool (Lib.cut (bl s) [58]).2.2]) ∧ ∃ n, w' = w.drewN n) at hcut
  generalize Lib.cut (bl s) [58] = C at hcut hl ⊢
  obtain ⟨p, r, b⟩ := C
  simp only at hl hcut ⊢
  have hpm : (str p).size ≤ 9223372036854775807 := by rw [str_size]; omega
  have hrm : (str r).size ≤ 9223372036854775807 := by rw [str_size]; omega
  have HC := Lib.hid hcut
  have CP := Lib.hid (fun w (h : Tabs w) => cname (str p) w hpm h)
  have CR := Lib.hid (fun w (h : Tabs w) => cname (str r) w hrm h)
  have CS := Lib.hid (fun w (h : Tabs w) => cname s w (by omega) h)
  have Hbl := Lib.hid (bl_str s)
  rw [str_bl] at CP CR
  clear hcut hl hm hpm hrm
  cases b with
  | false =>
    rw [if_neg (by decide)]
    simp only
    rw [bl_str]
    generalize nameL (bl s) = B at CS
    go_enter Tryz.func131, Tryz.ntmps131
    go_wp2_with (first | (go_at_call 162; refine HC.out.mono ?_; rintro e w' ⟨rfl, n, rfl⟩) | (go_at_call 78; refine (CS.out _ (HT.out.below (below_drewN w n))).mono ?_; rintro e w' ⟨rfl, hb⟩))
    go_ret3
    exact ⟨rfl, (below_drewN w n).trans hb⟩
  | true =>
    rw [if_pos rfl]
    cases hp : nameL p with
    | false =>
      rw [hp] at CP
      clear hp
      go_enter Tryz.func131, Tryz.ntmps131
      go_wp2_with (first | (go_at_call 162; refine HC.out.mono ?_; rintro e w' ⟨rfl, n, rfl⟩) | (go_at_call 78; refine (CP.out _ (HT.out.below (below_drewN w n))).mono ?_; rintro e w' ⟨rfl, hb⟩))
      go_ret3
      exact ⟨rfl, (below_drewN w n).trans hb⟩
    | true =>
      rw [hp] at CP
      clear hp
      generalize nameL r = B at CR
      go_enter Tryz.func131, Tryz.ntmps131
      go_wp2_with (go_at_call 162; refine HC.out.mono ?_; rintro e w' ⟨rfl, n, rfl⟩)
      refine (CP.out _ (HT.out.below (below_drewN w n))).mono ?_
      rintro e w1 ⟨rfl, hb⟩
      have hb' : Below w.heap.size w w1 := (below_drewN w n).trans hb
      clear hb
      go_wp2_with fail
      refine (CR.out _ (HT.out.below hb')).mono ?_
      rintro e w2 ⟨rfl, hb2⟩
      have hb2' := hb'.trans (hb2.mono hb'.size)
      clear hb' hb2
      go_wp2_with fail
      go_ret3
      exact ⟨rfl, hb2'⟩

end Go.Proofs.YtnlkpdodacphkaaGreatDoor
namespace Go.Proofs.YtnlkpdodacphkaaGreatDoor
open Go.RowKit
set_option maxRecDepth 100000

/-! ### galliardref01.Text -/
set_option maxRecDepth 100000 in
set_option maxHeartbeats 4000000 in
theorem rtext0 (s : ByteArray) (w : World) (A : Int) (hs : s.size ≤ 9223372036854775807) (HR : Hid (A = textL (bl s))) :
    Calls Tryz.prog 41 #[.string s] w fun e w' => e = .returned (.int .i64 A) ∧ Below w.heap.size w w' := by
  have HBS := Lib.hid (bl_size s)
  go_enter Tryz.func41, Tryz.ntmps41
  go_wp2
  go_loopg [3] s.size (fun g e wr => ∃ k : Nat, g + k = s.size ∧ e = .int .i64 k ∧ Below w.heap.size w wr ∧ Hid (Went (bl s) k))
  case atStart => exact ⟨0, rfl, rfl, Below.refl _ _, Lib.hid (Went.start _)⟩
  case round =>
    obtain ⟨k, hg, rfl, hb, HK⟩ := hrel
    by_cases hin : (k : Int) < (s.size : Int)
    · have c := rget (s.extract k s.size) wr (Nat.le_trans (size_from s k) hs)
      rw [bl_from] at c
      have hp := gl_pos ((bl s).drop k)
      have hst := @Went.step (bl s) k HK.out
      have hsp := HK.out.stop
      have hlp := let_pos ((bl s).drop k)
      have hmy := gl_may ((bl s).drop k)
      obtain ⟨X, hX⟩ : ∃ X, (gl ((bl s).drop k)).1 = X := ⟨_, rfl⟩
      obtain ⟨Y, hY⟩ : ∃ Y, (gl ((bl s).drop k)).2 = Y := ⟨_, rfl⟩
      rw [hX, hY] at c hlp hmy
      rw [hX] at hsp hst
      rw [hY] at hst
      have hdl : ((bl s).drop k).length = s.size - k := by rw [List.length_drop, HBS.out]
      rw [hdl, hY] at hp
      have hX0 : Y = 0 → X = 0 := fun h => by have := congrArg Prod.fst (hp.2.2.2 h); rw [hX] at this; exact this
      have C := Lib.hid c; clear c
      clear hX hdl hY
      have hy0 := hp.1
      have hy1 : Y ≤ s.size - k := by have := hp.2.1; omega
      clear hp
      cases hl : letB X with
      | false =>
        have hA : A = k := HR.out.trans (hsp hl (by rw [HBS.out]; omega))
        subst hA
        rw [letB_not] at hl
        have hcs : Y = 0 ∨ (Y ≠ 0 ∧ X < 9) ∨ (Y ≠ 0 ∧ 11 ≤ X ∧ X ≤ 12) ∨ (Y ≠ 0 ∧ 14 ≤ X ∧ X < 32) ∨ (Y ≠ 0 ∧ X = 65534) ∨ (Y ≠ 0 ∧ X = 65535) := by
          by_cases hz : Y = 0
          · exact .inl hz
          · have hm := (mayB_iff X).1 (hmy hz)
            omega
        clear hl hlp hst hsp HR hmy hX0
        rcases hcs with hz | ⟨hz, h⟩ | ⟨hz, h, h'⟩ | ⟨hz, h, h'⟩ | ⟨hz, h⟩ | ⟨hz, h⟩
        · have hzb : (Y == 0) = true := by simp [hz]
          clear hz
          go_wp2_with (go_at_call 40; refine C.out.mono ?_; rintro e w1 ⟨rfl, hb1⟩)
          go_ret
          exact ⟨rfl, hb.trans (hb1.mono hb.size)⟩
        · have hzb : (Y == 0) = false := by simp [hz]
          have e1 : (X == 9) = false := by simp; omega
          have e2 : (X == 10) = false := by simp; omega
          have e3 : (X == 13) = false := by simp; omega
          have n1 : (X != 9) = true := by simp; omega
          have n2 : (X != 10) = true := by simp; omega
          have n3 : (X != 13) = true := by simp; omega
          have h32 : X < 32 := by omega
          clear hz
          go_wp2_with (go_at_call 40; refine C.out.mono ?_; rintro e w1 ⟨rfl, hb1⟩)
          go_ret
          exact ⟨rfl, hb.trans (hb1.mono hb.size)⟩
        · have hzb : (Y == 0) = false := by simp [hz]
          have e1 : (X == 9) = false := by simp; omega
          have e2 : (X == 10) = false := by simp; omega
          have e3 : (X == 13) = false := by simp; omega
          have n1 : (X != 9) = true := by simp; omega
          have n2 : (X != 10) = true := by simp; omega
          have n3 : (X != 13) = true := by simp; omega
          have h32 : X < 32 := by omega
          clear hz
          go_wp2_with (go_at_call 40; refine C.out.mono ?_; rintro e w1 ⟨rfl, hb1⟩)
          go_ret
          exact ⟨rfl, hb.trans (hb1.mono hb.size)⟩
        · have hzb : (Y == 0) = false := by simp [hz]
          have e1 : (X == 9) = false := by simp; omega
          have e2 : (X == 10) = false := by simp; omega
          have e3 : (X == 13) = false := by simp; omega
          have n1 : (X != 9) = true := by simp; omega
          have n2 : (X != 10) = true := by simp; omega
          have n3 : (X != 13) = true := by simp; omega
          clear hz
          go_wp2_with (go_at_call 40; refine C.out.mono ?_; rintro e w1 ⟨rfl, hb1⟩)
          go_ret
          exact ⟨rfl, hb.trans (hb1.mono hb.size)⟩
        · have hzb : (Y == 0) = false := by simp [hz]
          clear hz
          subst h
          go_wp2_with (go_at_call 40; refine C.out.mono ?_; rintro e w1 ⟨rfl, hb1⟩)
          go_ret
          exact ⟨rfl, hb.trans (hb1.mono hb.size)⟩
        · have hzb : (Y == 0) = false := by simp [hz]
          clear hz
          subst h
          go_wp2_with (go_at_call 40; refine C.out.mono ?_; rintro e w1 ⟨rfl, hb1⟩)
          go_ret
          exact ⟨rfl, hb.trans (hb1.mono hb.size)⟩
      | true =>
        have HS := Lib.hid (hst hl)
        have hyp := hlp hl
        have hzb : (Y == 0) = false := by simp; omega
        rw [letB_iff] at hl
        have hcs : X = 9 ∨ X = 10 ∨ X = 13 ∨ (32 ≤ X ∧ X ≠ 65534 ∧ X ≠ 65535) := by omega
        clear hl hlp hst hsp hmy hX0
        rcases hcs with rfl | rfl | rfl | ⟨h, h1, h2⟩
        · go_wp2_with (go_at_call 40; refine C.out.mono ?_; rintro e w1 ⟨rfl, hb1⟩)
          go_roundg (s.size - (k + Y.toNat))
          case measure => omega
          case rel => exact ⟨k + Y.toNat, by omega, congrArg (Value.int .i64) (by omega), hb.trans (hb1.mono hb.size), HS⟩
        · go_wp2_with (go_at_call 40; refine C.out.mono ?_; rintro e w1 ⟨rfl, hb1⟩)
          go_roundg (s.size - (k + Y.toNat))
          case measure => omega
          case rel => exact ⟨k + Y.toNat, by omega, congrArg (Value.int .i64) (by omega), hb.trans (hb1.mono hb.size), HS⟩
        · go_wp2_with (go_at_call 40; refine C.out.mono ?_; rintro e w1 ⟨rfl, hb1⟩)
          go_roundg (s.size - (k + Y.toNat))
          case measure => omega
          case rel => exact ⟨k + Y.toNat, by omega, congrArg (Value.int .i64) (by omega), hb.trans (hb1.mono hb.size), HS⟩
        · have e4 : (X == 65534) = false := by simp; omega
          have e5 : (X == 65535) = false := by simp; omega
          have d1 : decide (X < 32) = false := decide_eq_false (by omega)
          clear h1 h2
          go_wp2_with (go_at_call 40; refine C.out.mono ?_; rintro e w1 ⟨rfl, hb1⟩)
          go_roundg (s.size - (k + Y.toNat))
          case measure => omega
          case rel => exact ⟨k + Y.toNat, by omega, congrArg (Value.int .i64) (by omega), hb.trans (hb1.mono hb.size), HS⟩
    · have hA : A = -1 := HR.out.trans (HK.out.whole (by rw [HBS.out]; omega))
      subst hA
      clear HR
      go_wp2
      go_ret
      exact ⟨rfl, hb⟩
/-- **galliardref01.Text at every string.** -/
theorem rtext (s : ByteArray) (w : World) (hs : s.size ≤ 9223372036854775807) :
    Calls Tryz.prog 41 #[.string s] w fun e w' => e = .returned (.int .i64 (textL (bl s))) ∧ Below w.heap.size w w' :=
  rtext0 s w _ hs (Lib.hid rfl)

/-! ### galliardref01.Name -/
end Go.Proofs.YtnlkpdodacphkaaGreatDoor
namespace Go.Proofs.YtnlkpdodacphkaaGreatDoor
open Go.RowKit
set_option maxRecDepth 100000

theorem trimmed_cut (s : ByteArray) (a b : Nat) (hab : a ≤ b) (hb : b ≤ s.size) (h1 : ∀ j, j < a → blankB (nth (bl s) j : Int) = true) (h2 : a < s.size → blankB (nth (bl s) a : Int) = false)
    (h3 : ∀ j, b ≤ j → j < s.size → blankB (nth (bl s) j : Int) = true) (h4 : a < b → blankB (nth (bl s) (b - 1) : Int) = false) : s.extract a b = trimmed s := by
  have h := trim_cut (bl s) a b hab (by rw [bl_size]; exact hb) h1 (by rw [bl_size]; exact h2) (by rw [bl_size]; exact h3) h4
  rw [Lib.extract_eq]
  unfold trimmed
  rw [h, List.drop_take]; rfl
theorem ext_none (s : ByteArray) (m : Nat) : s.extract m m = ByteArray.empty := by
  rw [Lib.extract_eq, Nat.sub_self, List.take_zero]; rfl
/-- What is known behind the first loop; behind the second one. -/
def Ahead (s : ByteArray) (a : Nat) : Prop := ∀ j, j < a → blankB (nth (bl s) j : Int) = true
def Behind (s : ByteArray) (b : Nat) : Prop := ∀ j, b ≤ j → j < s.size → blankB (nth (bl s) j : Int) = true
def Stands (s : ByteArray) (a : Nat) : Prop := a < s.size → blankB (nth (bl s) a : Int) = false
theorem Ahead.step {s : ByteArray} {a : Nat} (h : Ahead s a) (hc : blankB (nth (bl s) a : Int) = true) : Ahead s (a + 1) := by
  intro j hj
  by_cases e : j = a
  · subst e; exact hc
  · exact h j (by omega)
theorem Behind.step {s : ByteArray} {b : Nat} (h : Behind s (b + 1)) (hc : blankB (nth (bl s) b : Int) = true) : Behind s b := by
  intro j hj hl
  by_cases e : j = b
  · subst e; exact hc
  · exact h j (by omega) hl
set_option maxRecDepth 100000 in
set_option maxHeartbeats 16000000 in
theorem rtrim0 (s : ByteArray) (w : World) (A : ByteArray) (hs : s.size ≤ 9223372036854775807) (HR : Hid (A = trimmed s)) :
    Calls Tryz.prog 25 #[.string s] w fun e w' => e = .returned (.string A) ∧ Below w.heap.size w w' := by
  go_enter Tryz.func25, Tryz.ntmps25
  go_wp2
  go_loop [3] (fun i => ∃ k : Nat, k ≤ s.size ∧ i = .int .i64 k ∧ Hid (Ahead s k)) (fun i => s.size - (intOf i).toNat)
  case atStart => exact ⟨0, by omega, rfl, Lib.hid (fun j h => absurd h (by omega))⟩
  case round =>
    obtain ⟨k, hk, rfl, HK⟩ := hrel
    by_cases hin : k < s.size
    · have hin' : (k : Int) < (s.size : Int) := by omega
      obtain ⟨x, hx⟩ : ∃ x, s[k]'hin = x := ⟨_, rfl⟩
      have hn : nth (bl s) k = x.toNat := by rw [nth_get s k hin, hx]
      obtain ⟨c, hc⟩ : ∃ c : Int, (x.toNat : Int) = c := ⟨_, rfl⟩
      have HNc : Hid ((nth (bl s) k : Int) = c) := Lib.hid (by rw [hn, hc])
      clear hn
      by_cases hbl : c = 32 ∨ c = 9 ∨ c = 10 ∨ c = 13
      · have HN := Lib.hid (HK.out.step (by rw [HNc.out]; exact decide_eq_true hbl))
        clear HK HNc
        rcases hbl with h | h | h | h
        · have q32 : (c == 32) = true := by simp; omega
          have q9 : (c == 9) = false := by simp; omega
          have q10 : (c == 10) = false := by simp; omega
          have q13 : (c == 13) = false := by simp; omega
          clear h
          go_wp2
          go_round
          case rel => exact ⟨k + 1, by omega, by go_num, HN⟩
          case measure => simp [intOf]; omega
        · have q32 : (c == 32) = false := by simp; omega
          have q9 : (c == 9) = true := by simp; omega
          have q10 : (c == 10) = false := by simp; omega
          have q13 : (c == 13) = false := by simp; omega
          clear h
          go_wp2
          go_round
          case rel => exact ⟨k + 1, by omega, by go_num, HN⟩
          case measure => simp [intOf]; omega
        · have q32 : (c == 32) = false := by simp; omega
          have q9 : (c == 9) = false := by simp; omega
          have q10 : (c == 10) = true := by simp; omega
          have q13 : (c == 13) = false := by simp; omega
          clear h
          go_wp2
          go_round
          case rel => exact ⟨k + 1, by omega, by go_num, HN⟩
          case measure => simp [intOf]; omega
        · have q32 : (c == 32) = false := by simp; omega
          have q9 : (c == 9) = false := by simp; omega
          have q10 : (c == 10) = false := by simp; omega
          have q13 : (c == 13) = true := by simp; omega
          clear h
          go_wp2
          go_round
          case rel => exact ⟨k + 1, by omega, by go_num, HN⟩
          case measure => simp [intOf]; omega
      · have HS : Hid (Stands s k) := Lib.hid (fun _ => by rw [HNc.out]; exact decide_eq_false hbl)
        have q32 : (c == 32) = false := by simp; omega
        have q9 : (c == 9) = false := by simp; omega
        have q10 : (c == 10) = false := by simp; omega
        have q13 : (c == 13) = false := by simp; omega
        clear HNc hbl
        go_wp2
        go_loop [4] (fun i => ∃ m : Nat, k ≤ m ∧ m ≤ s.size ∧ i = .int .i64 m ∧ Hid (Behind s m)) (fun i => (intOf i).toNat)
        case atStart => exact ⟨s.size, by omega, by omega, rfl, Lib.hid (fun j h h' => absurd h (by omega))⟩
        case round =>
          obtain ⟨m, hkm, hm, rfl, HM⟩ := hrel
          by_cases hmk : m = k
          · subst hmk
            have HA : Hid (A = s.extract m m) := Lib.hid (HR.out.trans (trimmed_cut s m m (Nat.le_refl _) hm HK.out HS.out HM.out (fun h => absurd h (by omega))).symm)
            clear HR hkm
            go_wp2
            go_ret
            exact ⟨by rw [HA.out]; first | rfl | (rw [ext_none]; rfl), Below.refl _ _⟩
          · obtain ⟨q, rfl⟩ : ∃ q, m = q + 1 := ⟨m - 1, by omega⟩
            have hkq : k ≤ q := by omega
            have hq : q < s.size := by omega
            have hkq' : (k : Int) ≤ (q : Int) := by omega
            have hq' : (q : Int) < (s.size : Int) := by omega
            obtain ⟨y, hy⟩ : ∃ y, s[q]'hq = y := ⟨_, rfl⟩
            have hny : nth (bl s) q = y.toNat := by rw [nth_get s q hq, hy]
            obtain ⟨d, hd⟩ : ∃ d : Int, (y.toNat : Int) = d := ⟨_, rfl⟩
            have HNd : Hid ((nth (bl s) q : Int) = d) := Lib.hid (by rw [hny, hd])
            clear hny hmk
            by_cases hbd : d = 32 ∨ d = 9 ∨ d = 10 ∨ d = 13
            · have HN := Lib.hid (HM.out.step (by rw [HNd.out]; exact decide_eq_true hbd))
              clear HM HNd HR
              rcases hbd with h | h | h | h
              · have p32 : (d == 32) = true := by simp; omega
                have p9 : (d == 9) = false := by simp; omega
                have p10 : (d == 10) = false := by simp; omega
                have p13 : (d == 13) = false := by simp; omega
                clear h
                go_wp2
                go_round
                case rel => exact ⟨q, by omega, by omega, by go_num, HN⟩
                case measure => simp [intOf]
              · have p32 : (d == 32) = false := by simp; omega
                have p9 : (d == 9) = true := by simp; omega
                have p10 : (d == 10) = false := by simp; omega
                have p13 : (d == 13) = false := by simp; omega
                clear h
                go_wp2
                go_round
                case rel => exact ⟨q, by omega, by omega, by go_num, HN⟩
                case measure => simp [intOf]
              · have p32 : (d == 32) = false := by simp; omega
                have p9 : (d == 9) = false := by simp; omega
                have p10 : (d == 10) = true := by simp; omega
                have p13 : (d == 13) = false := by simp; omega
                clear h
                go_wp2
                go_round
                case rel => exact ⟨q, by omega, by omega, by go_num, HN⟩
                case measure => simp [intOf]
              · have p32 : (d == 32) = false := by simp; omega
                have p9 : (d == 9) = false := by simp; omega
                have p10 : (d == 10) = false := by simp; omega
                have p13 : (d == 13) = true := by simp; omega
                clear h
                go_wp2
                go_round
                case rel => exact ⟨q, by omega, by omega, by go_num, HN⟩
                case measure => simp [intOf]
            · have HA : Hid (A = s.extract k (q + 1)) := Lib.hid (HR.out.trans (trimmed_cut s k (q + 1) (by omega) hm HK.out HS.out HM.out (fun _ => by rw [Nat.add_sub_cancel, HNd.out]; exact decide_eq_false hbd)).symm)
              have p32 : (d == 32) = false := by simp; omega
              have p9 : (d == 9) = false := by simp; omega
              have p10 : (d == 10) = false := by simp; omega
              have p13 : (d == 13) = false := by simp; omega
              clear HR HNd HM hbd
              go_wp2
              go_ret
              exact ⟨by rw [HA.out]; first | rfl | (rw [ext_none]; rfl), Below.refl _ _⟩
    · obtain rfl : k = s.size := by omega
      have HS : Hid (Stands s s.size) := Lib.hid (fun h => absurd h (by omega))
      clear hin
      have HA : Hid (A = s.extract s.size s.size) := Lib.hid (HR.out.trans (trimmed_cut s s.size s.size (Nat.le_refl _) (Nat.le_refl _) HK.out HS.out (fun j h h' => absurd h (by omega)) (fun h => absurd h (by omega))).symm)
      go_wp2
      go_loop [4] (fun i => i = .int .i64 s.size) (fun i => 0)
      case atStart => rfl
      case round =>
        obtain rfl := hrel
        go_wp2
        go_ret
        exact ⟨by rw [HA.out]; first | rfl | (rw [ext_none]; rfl), Below.refl _ _⟩
/-- **galliardref01.Trim at every string.** -/
theorem rtrim (s : ByteArray) (w : World) (hs : s.size ≤ 9223372036854775807) :
    Calls Tryz.prog 25 #[.string s] w fun e w' => e = .returned (.string (trimmed s)) ∧ Below w.heap.size w w' :=
  rtrim0 s w _ hs (Lib.hid rfl)

end Go.Proofs.YtnlkpdodacphkaaGreatDoor
