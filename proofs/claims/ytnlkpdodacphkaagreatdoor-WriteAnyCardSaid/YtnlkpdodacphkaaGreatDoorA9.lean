/-
  The walks of entity.closed, entity.Close and galliardref01.Close.
  The walk of entity.Open.
  A scanner in memory, and the walks of scan's small methods: Wrong, Err, At, stands, skip, must, while, letters, opened, name.
  The walks of the document's own answers for layer 3: galliardref01.Close, and the law's digits.
-/
import Derived.Test.YtnlkpdodacphkaaGreatDoorA8
import Derived.BigQuiet
import Derived.Deep.QuietTactic
import Derived.Test.YtnlkpdodacphkaaGreatDoorA2
import Derived.OwnWalk
import Derived.IntWalk
import Derived.Test.YtnlkpdodacphkaaGreatDoorA7
namespace Go.Proofs.YtnlkpdodacphkaaGreatDoor
open Go.RowKit
set_option maxRecDepth 100000

set_option maxRecDepth 100000 in
set_option maxHeartbeats 4000000 in
theorem eclosed_9 (w : World) :
    Calls Tryz.prog 109 #[.int .u8 9] w fun e w' => e = .returned (.string ⟨#[38, 35, 57, 59]⟩) ∧ Below w.heap.size w w' := by
  have C : Hid (Calls Tryz.prog 136 #[.int .i64 9] w fun e w' => e = .returned (.string ⟨#[57]⟩) ∧ w = w') :=
    Lib.hid ((Tryz.strconv_Itoa_small 9 (by omega) w).mono fun e w' h => ⟨h.1.trans (by rw [show Lib.decDigits 9 = [57] by decide +kernel]), h.2.symm⟩)
  go_enter Tryz.func109, Tryz.ntmps109
  go_wp2_with (go_at_call 136; refine C.out.mono ?_; rintro e w' ⟨rfl, rfl⟩)
  go_ret
  exact ⟨rfl, Below.refl _ _⟩
set_option maxRecDepth 100000 in
set_option maxHeartbeats 4000000 in
theorem eclosed_10 (w : World) :
    Calls Tryz.prog 109 #[.int .u8 10] w fun e w' => e = .returned (.string ⟨#[38, 35, 49, 48, 59]⟩) ∧ Below w.heap.size w w' := by
  have C : Hid (Calls Tryz.prog 136 #[.int .i64 10] w fun e w' => e = .returned (.string ⟨#[49, 48]⟩) ∧ w = w') :=
    Lib.hid ((Tryz.strconv_Itoa_small 10 (by omega) w).mono fun e w' h => ⟨h.1.trans (by rw [show Lib.decDigits 10 = [49, 48] by decide +kernel]), h.2.symm⟩)
  go_enter Tryz.func109, Tryz.ntmps109
  go_wp2_with (go_at_call 136; refine C.out.mono ?_; rintro e w' ⟨rfl, rfl⟩)
  go_ret
  exact ⟨rfl, Below.refl _ _⟩
set_option maxRecDepth 100000 in
set_option maxHeartbeats 4000000 in
theorem eclosed_13 (w : World) :
    Calls Tryz.prog 109 #[.int .u8 13] w fun e w' => e = .returned (.string ⟨#[38, 35, 49, 51, 59]⟩) ∧ Below w.heap.size w w' := by
  have C : Hid (Calls Tryz.prog 136 #[.int .i64 13] w fun e w' => e = .returned (.string ⟨#[49, 51]⟩) ∧ w = w') :=
    Lib.hid ((Tryz.strconv_Itoa_small 13 (by omega) w).mono fun e w' h => ⟨h.1.trans (by rw [show Lib.decDigits 13 = [49, 51] by decide +kernel]), h.2.symm⟩)
  go_enter Tryz.func109, Tryz.ntmps109
  go_wp2_with (go_at_call 136; refine C.out.mono ?_; rintro e w' ⟨rfl, rfl⟩)
  go_ret
  exact ⟨rfl, Below.refl _ _⟩
set_option maxRecDepth 100000 in
set_option maxHeartbeats 4000000 in
theorem eclosed_38 (w : World) (HE : Hid (EntV w)) :
    Calls Tryz.prog 109 #[.int .u8 38] w fun e w' => e = .returned (.string ⟨#[38, 97, 109, 112, 59]⟩) ∧ Below w.heap.size w w' := by
  obtain ⟨tt, fr, hg⟩ := HE.out.names
  have i0 : ∀ w, (Instr.index 216 (.agg nameCells) (.int .i64 0)).run Tryz.prog w = .ok (.agg #[.string ⟨#[97, 109, 112]⟩, .int .u8 38, .bool true]) w := fun _ => by kernel_rfl
  go_enter Tryz.func109, Tryz.ntmps109
  go_wp2_with (refine wpList_load_row rfl 216 _ rfl 0 rfl tt _ fr _ hg Tryz.underlying216 rfl (by kernel_rfl) ?_)
  clear hg
  go_loopg [16] 0 (fun g i wr => ∃ k : Nat, g + k = 0 ∧ i = .int .i64 k ∧ Below w.heap.size w wr)
  case atStart => exact ⟨0, rfl, rfl, Below.refl _ _⟩
  case round =>
    obtain ⟨k, hg, rfl, hb⟩ := hrel
    have hk : k = 0 := by omega
    obtain rfl := hk
    · clear hg
      go_wp2
      go_ret
      exact ⟨rfl, hb.alloc hb.size _⟩
set_option maxRecDepth 100000 in
set_option maxHeartbeats 4000000 in
theorem eclosed_60 (w : World) (HE : Hid (EntV w)) :
    Calls Tryz.prog 109 #[.int .u8 60] w fun e w' => e = .returned (.string ⟨#[38, 108, 116, 59]⟩) ∧ Below w.heap.size w w' := by
  obtain ⟨tt, fr, hg⟩ := HE.out.names
  have i0 : ∀ w, (Instr.index 216 (.agg nameCells) (.int .i64 0)).run Tryz.prog w = .ok (.agg #[.string ⟨#[97, 109, 112]⟩, .int .u8 38, .bool true]) w := fun _ => by kernel_rfl
  have i1 : ∀ w, (Instr.index 216 (.agg nameCells) (.int .i64 1)).run Tryz.prog w = .ok (.agg #[.string ⟨#[108, 116]⟩, .int .u8 60, .bool true]) w := fun _ => by kernel_rfl
  go_enter Tryz.func109, Tryz.ntmps109
  go_wp2_with (refine wpList_load_row rfl 216 _ rfl 0 rfl tt _ fr _ hg Tryz.underlying216 rfl (by kernel_rfl) ?_)
  clear hg
  go_loopg [16] 1 (fun g i wr => ∃ k : Nat, g + k = 1 ∧ i = .int .i64 k ∧ Below w.heap.size w wr)
  case atStart => exact ⟨0, rfl, rfl, Below.refl _ _⟩
  case round =>
    obtain ⟨k, hg, rfl, hb⟩ := hrel
    have hk : k = 0 ∨ k = 1 := by omega
    rcases hk with rfl | rfl
    · go_wp2
      go_roundg 0
      case measure => omega
      case rel => exact ⟨1, by omega, by go_num, hb.alloc hb.size _⟩
    · clear hg
      go_wp2
      go_ret
      exact ⟨rfl, hb.alloc hb.size _⟩
set_option maxRecDepth 100000 in
set_option maxHeartbeats 4000000 in
theorem eclosed_62 (w : World) (HE : Hid (EntV w)) :
    Calls Tryz.prog 109 #[.int .u8 62] w fun e w' => e = .returned (.string ⟨#[38, 103, 116, 59]⟩) ∧ Below w.heap.size w w' := by
  obtain ⟨tt, fr, hg⟩ := HE.out.names
  have i0 : ∀ w, (Instr.index 216 (.agg nameCells) (.int .i64 0)).run Tryz.prog w = .ok (.agg #[.string ⟨#[97, 109, 112]⟩, .int .u8 38, .bool true]) w := fun _ => by kernel_rfl
  have i1 : ∀ w, (Instr.index 216 (.agg nameCells) (.int .i64 1)).run Tryz.prog w = .ok (.agg #[.string ⟨#[108, 116]⟩, .int .u8 60, .bool true]) w := fun _ => by kernel_rfl
  have i2 : ∀ w, (Instr.index 216 (.agg nameCells) (.int .i64 2)).run Tryz.prog w = .ok (.agg #[.string ⟨#[103, 116]⟩, .int .u8 62, .bool true]) w := fun _ => by kernel_rfl
  go_enter Tryz.func109, Tryz.ntmps109
  go_wp2_with (refine wpList_load_row rfl 216 _ rfl 0 rfl tt _ fr _ hg Tryz.underlying216 rfl (by kernel_rfl) ?_)
  clear hg
  go_loopg [16] 2 (fun g i wr => ∃ k : Nat, g + k = 2 ∧ i = .int .i64 k ∧ Below w.heap.size w wr)
  case atStart => exact ⟨0, rfl, rfl, Below.refl _ _⟩
  case round =>
    obtain ⟨k, hg, rfl, hb⟩ := hrel
    have hk : k = 0 ∨ k = 1 ∨ k = 2 := by omega
    rcases hk with rfl | rfl | rfl
    · go_wp2
      go_roundg 1
      case measure => omega
      case rel => exact ⟨1, by omega, by go_num, hb.alloc hb.size _⟩
    · go_wp2
      go_roundg 0
      case measure => omega
      case rel => exact ⟨2, by omega, by go_num, hb.alloc hb.size _⟩
    · clear hg
      go_wp2
      go_ret
      exact ⟨rfl, hb.alloc hb.size _⟩
set_option maxRecDepth 100000 in
set_option maxHeartbeats 4000000 in
theorem eclosed_34 (w : World) (HE : Hid (EntV w)) :
    Calls Tryz.prog 109 #[.int .u8 34] w fun e w' => e = .returned (.string ⟨#[38, 113, 117, 111, 116, 59]⟩) ∧ Below w.heap.size w w' := by
  obtain ⟨tt, fr, hg⟩ := HE.out.names
  have i0 : ∀ w, (Instr.index 216 (.agg nameCells) (.int .i64 0)).run Tryz.prog w = .ok (.agg #[.string ⟨#[97, 109, 112]⟩, .int .u8 38, .bool true]) w := fun _ => by kernel_rfl
  have i1 : ∀ w, (Instr.index 216 (.agg nameCells) (.int .i64 1)).run Tryz.prog w = .ok (.agg #[.string ⟨#[108, 116]⟩, .int .u8 60, .bool true]) w := fun _ => by kernel_rfl
  have i2 : ∀ w, (Instr.index 216 (.agg nameCells) (.int .i64 2)).run Tryz.prog w = .ok (.agg #[.string ⟨#[103, 116]⟩, .int .u8 62, .bool true]) w := fun _ => by kernel_rfl
  have i3 : ∀ w, (Instr.index 216 (.agg nameCells) (.int .i64 3)).run Tryz.prog w = .ok (.agg #[.string ⟨#[113, 117, 111, 116]⟩, .int .u8 34, .bool true]) w := fun _ => by kernel_rfl
  go_enter Tryz.func109, Tryz.ntmps109
  go_wp2_with (refine wpList_load_row rfl 216 _ rfl 0 rfl tt _ fr _ hg Tryz.underlying216 rfl (by kernel_rfl) ?_)
  clear hg
  go_loopg [16] 3 (fun g i wr => ∃ k : Nat, g + k = 3 ∧ i = .int .i64 k ∧ Below w.heap.size w wr)
  case atStart => exact ⟨0, rfl, rfl, Below.refl _ _⟩
  case round =>
    obtain ⟨k, hg, rfl, hb⟩ := hrel
    have hk : k = 0 ∨ k = 1 ∨ k = 2 ∨ k = 3 := by omega
    rcases hk with rfl | rfl | rfl | rfl
    · go_wp2
      go_roundg 2
      case measure => omega
      case rel => exact ⟨1, by omega, by go_num, hb.alloc hb.size _⟩
    · go_wp2
      go_roundg 1
      case measure => omega
      case rel => exact ⟨2, by omega, by go_num, hb.alloc hb.size _⟩
    · go_wp2
      go_roundg 0
      case measure => omega
      case rel => exact ⟨3, by omega, by go_num, hb.alloc hb.size _⟩
    · clear hg
      go_wp2
      go_ret
      exact ⟨rfl, hb.alloc hb.size _⟩
set_option maxRecDepth 100000 in
set_option maxHeartbeats 4000000 in
theorem eclosed_none (c : Int) (w : World) (HE : Hid (EntV w)) (h9 : (c == 9) = false) (h10 : (c == 10) = false) (h13 : (c == 13) = false) (h38 : ((38 : Int) == c) = false) (h60 : ((60 : Int) == c) = false) (h62 : ((62 : Int) == c) = false) (h34 : ((34 : Int) == c) = false) :
    Calls Tryz.prog 109 #[.int .u8 c] w fun e w' => e = .returned (.string ⟨#[]⟩) ∧ Below w.heap.size w w' := by
  obtain ⟨tt, fr, hg⟩ := HE.out.names
  have i0 : ∀ w, (Instr.index 216 (.agg nameCells) (.int .i64 0)).run Tryz.prog w = .ok (.agg #[.string ⟨#[97, 109, 112]⟩, .int .u8 38, .bool true]) w := fun _ => by kernel_rfl
  have i1 : ∀ w, (Instr.index 216 (.agg nameCells) (.int .i64 1)).run Tryz.prog w = .ok (.agg #[.string ⟨#[108, 116]⟩, .int .u8 60, .bool true]) w := fun _ => by kernel_rfl
  have i2 : ∀ w, (Instr.index 216 (.agg nameCells) (.int .i64 2)).run Tryz.prog w = .ok (.agg #[.string ⟨#[103, 116]⟩, .int .u8 62, .bool true]) w := fun _ => by kernel_rfl
  have i3 : ∀ w, (Instr.index 216 (.agg nameCells) (.int .i64 3)).run Tryz.prog w = .ok (.agg #[.string ⟨#[113, 117, 111, 116]⟩, .int .u8 34, .bool true]) w := fun _ => by kernel_rfl
  have i4 : ∀ w, (Instr.index 216 (.agg nameCells) (.int .i64 4)).run Tryz.prog w = .ok (.agg #[.string ⟨#[97, 112, 111, 115]⟩, .int .u8 39, .bool false]) w := fun _ => by kernel_rfl
  go_enter Tryz.func109, Tryz.ntmps109
  go_wp2_with (refine wpList_load_row rfl 216 _ rfl 0 rfl tt _ fr _ hg Tryz.underlying216 rfl (by kernel_rfl) ?_)
  clear hg
  go_loopg [16] 5 (fun g i wr => ∃ k : Nat, g + k = 5 ∧ i = .int .i64 k ∧ Below w.heap.size w wr)
  case atStart => exact ⟨0, rfl, rfl, Below.refl _ _⟩
  case round =>
    obtain ⟨k, hg, rfl, hb⟩ := hrel
    have hk : k = 0 ∨ k = 1 ∨ k = 2 ∨ k = 3 ∨ k = 4 ∨ k = 5 := by omega
    rcases hk with rfl | rfl | rfl | rfl | rfl | rfl
    · go_wp2
      go_roundg 4
      case measure => omega
      case rel => exact ⟨1, by omega, by go_num, hb.alloc hb.size _⟩
    · go_wp2
      go_roundg 3
      case measure => omega
      case rel => exact ⟨2, by omega, by go_num, hb.alloc hb.size _⟩
    · go_wp2
      go_roundg 2
      case measure => omega
      case rel => exact ⟨3, by omega, by go_num, hb.alloc hb.size _⟩
    · go_wp2
      go_roundg 1
      case measure => omega
      case rel => exact ⟨4, by omega, by go_num, hb.alloc hb.size _⟩
    · go_wp2
      go_roundg 0
      case measure => omega
      case rel => exact ⟨5, by omega, by go_num, hb.alloc hb.size _⟩
    · clear hg
      go_wp2
      go_ret
      exact ⟨rfl, hb⟩
/-- **entity.closed at every byte.** -/
theorem eclosed (c : UInt8) (w : World) (HE : Hid (EntV w)) : ∃ X : ByteArray,
    (Calls Tryz.prog 109 #[.int .u8 (c.toNat : Int)] w fun e w' => e = .returned (.string X) ∧ Below w.heap.size w w') ∧
    ((X.toList.isEmpty = false ∧ bl X = closeB c) ∨ (X = ⟨#[]⟩ ∧ closeB c = [c])) := by
  by_cases c38 : c.toNat = 38
  · obtain rfl : c = 38 := UInt8.toNat_inj.1 c38
    exact ⟨⟨#[38, 97, 109, 112, 59]⟩, eclosed_38 w HE, .inl ⟨by rw [Lib.toList_data]; rfl, rfl⟩⟩
  by_cases c60 : c.toNat = 60
  · obtain rfl : c = 60 := UInt8.toNat_inj.1 c60
    exact ⟨⟨#[38, 108, 116, 59]⟩, eclosed_60 w HE, .inl ⟨by rw [Lib.toList_data]; rfl, rfl⟩⟩
  by_cases c62 : c.toNat = 62
  · obtain rfl : c = 62 := UInt8.toNat_inj.1 c62
    exact ⟨⟨#[38, 103, 116, 59]⟩, eclosed_62 w HE, .inl ⟨by rw [Lib.toList_data]; rfl, rfl⟩⟩
  by_cases c34 : c.toNat = 34
  · obtain rfl : c = 34 := UInt8.toNat_inj.1 c34
    exact ⟨⟨#[38, 113, 117, 111, 116, 59]⟩, eclosed_34 w HE, .inl ⟨by rw [Lib.toList_data]; rfl, rfl⟩⟩
  by_cases c9 : c.toNat = 9
  · obtain rfl : c = 9 := UInt8.toNat_inj.1 c9
    exact ⟨⟨#[38, 35, 57, 59]⟩, eclosed_9 w, .inl ⟨by rw [Lib.toList_data]; rfl, rfl⟩⟩
  by_cases c10 : c.toNat = 10
  · obtain rfl : c = 10 := UInt8.toNat_inj.1 c10
    exact ⟨⟨#[38, 35, 49, 48, 59]⟩, eclosed_10 w, .inl ⟨by rw [Lib.toList_data]; rfl, rfl⟩⟩
  by_cases c13 : c.toNat = 13
  · obtain rfl : c = 13 := UInt8.toNat_inj.1 c13
    exact ⟨⟨#[38, 35, 49, 51, 59]⟩, eclosed_13 w, .inl ⟨by rw [Lib.toList_data]; rfl, rfl⟩⟩
  refine ⟨⟨#[]⟩, eclosed_none c.toNat w HE ?_ ?_ ?_ ?_ ?_ ?_ ?_, .inr ⟨rfl, closeB_plain c c38 c60 c62 c34 c9 c10 c13⟩⟩
  all_goals (simp; omega)

/-! ### entity.Close -/
theorem take_get (s : ByteArray) (k : Nat) (h : k < s.size) : (bl s).take (k + 1) = (bl s).take k ++ [s[k]'h] := by
  have hl : k < (bl s).length := by rw [bl_size]; exact h
  rw [List.take_succ_eq_append_getElem hl]
  congr 1
theorem take_all (s : ByteArray) : (bl s).take s.size = bl s := List.take_of_length_le (by rw [bl_size]; exact Nat.le_refl _)
set_option maxRecDepth 100000 in
set_option maxHeartbeats 4000000 in
theorem eclose0 (s : ByteArray) (w : World) (HE : Hid (EntV w)) (hs : s.size ≤ 4294967296) (A : ByteArray) (HA : Hid (A = str (closeL (bl s)))) :
    Calls Tryz.prog 77 #[.string s] w fun e w' => e = .returned (.string A) ∧ Below w.heap.size w w' := by
  go_enter Tryz.func77, Tryz.ntmps77
  go_wp2
  go_loopg [8] s.size (fun g i wr => ∃ k : Nat, g + k = s.size ∧ i = .int .i64 k ∧ Bl w.heap.size w.heap.size (closeL ((bl s).take k)) wr ∧ Below w.heap.size w wr)
  case atStart => exact ⟨0, rfl, rfl, bl_new w, (Below.refl _ _).alloc (Nat.le_refl _) _⟩
  case round =>
    obtain ⟨k, hg, rfl, hB, hb⟩ := hrel
    by_cases hin : k < s.size
    · have hin' : (k : Int) < (s.size : Int) := by omega
      have htk := take_get s k hin
      have hlen : (closeL ((bl s).take k)).length ≤ 6 * k := by
        have := closeL_len ((bl s).take k)
        rw [List.length_take] at this
        omega
      obtain ⟨c, hc⟩ : ∃ c, s[k]'hin = c := ⟨_, rfl⟩
      rw [hc] at htk
      obtain ⟨X, hX, hcase⟩ := eclosed c wr (Lib.hid (HE.out.below hb))
      have CX := Lib.hid hX
      have HB := Lib.hid hB
      clear hX hB
      rcases hcase with ⟨hne, hXc⟩ | ⟨rfl, hXc⟩
      · have HXc := Lib.hid hXc
        have Htk := Lib.hid htk
        have hXs : X.size ≤ 6 := by rw [← bl_size, hXc]; exact (closeB_len c).1
        clear hXc htk
        go_wp2_with (go_at_call 109; refine CX.out.mono ?_; rintro e w1 ⟨rfl, hb1⟩)
        have C2 := Lib.hid (lstring _ _ _ X w1 (HB.out.below hb1) (by omega))
        refine C2.out.mono ?_
        rintro e w2 ⟨rfl, h2, hb2⟩
        have hb3 : Below w.heap.size w w2 := (hb.trans (hb1.mono hb.size)).trans hb2
        have h2' : Bl w.heap.size w.heap.size (closeL ((bl s).take (k + 1))) w2 := by rw [Htk.out, closeL_append, closeL_one, ← HXc.out]; exact h2
        clear hb hb1 hb2 h2
        go_wp2
        go_roundg (s.size - (k + 1))
        case measure => omega
        case rel => exact ⟨k + 1, by omega, by go_num, h2', hb3⟩
      · have HXc := Lib.hid hXc
        have Htk := Lib.hid htk
        clear hXc htk
        go_wp2_with (go_at_call 109; refine CX.out.mono ?_; rintro e w1 ⟨rfl, hb1⟩)
        have C2 := Lib.hid (lbyte _ _ _ c w1 (HB.out.below hb1) (by omega))
        refine C2.out.mono ?_
        rintro e w2 ⟨rfl, h2, hb2⟩
        have hb3 : Below w.heap.size w w2 := (hb.trans (hb1.mono hb.size)).trans hb2
        have h2' : Bl w.heap.size w.heap.size (closeL ((bl s).take (k + 1))) w2 := by rw [Htk.out, closeL_append, closeL_one, HXc.out]; exact h2
        clear hb hb1 hb2 h2
        go_wp2
        go_roundg (s.size - (k + 1))
        case measure => omega
        case rel => exact ⟨k + 1, by omega, by go_num, h2', hb3⟩
    · obtain rfl : k = s.size := by omega
      have hA : A = str (closeL ((bl s).take s.size)) := by rw [take_all]; exact HA.out
      subst hA
      have C := Lib.hid (lout _ _ _ wr hB)
      clear hB HA
      go_wp2_with (go_at_call 31; refine C.out.mono ?_; rintro e w1 ⟨rfl, hb1⟩)
      go_ret
      exact ⟨rfl, hb.trans hb1⟩
/-- **entity.Close at strings that are not too long.** -/
theorem eclose (s : ByteArray) (w : World) (HE : Hid (EntV w)) (hs : s.size ≤ 4294967296) :
    Calls Tryz.prog 77 #[.string s] w fun e w' => e = .returned (.string (str (closeL (bl s)))) ∧ Below w.heap.size w w' :=
  eclose0 s w HE hs _ (Lib.hid rfl)

end Go.Proofs.YtnlkpdodacphkaaGreatDoor
namespace Go.Proofs.YtnlkpdodacphkaaGreatDoor
open Go.RowKit
set_option maxRecDepth 100000

/-! ### up to a semicolon -/
theorem prefix_semi (c : UInt8) (l : List UInt8) : List.isPrefixOf [59] (c :: l) = (59 == c) := by simp [List.isPrefixOf]
theorem index_semi : ∀ l : List UInt8, Lib.index l [59] = if semi l < l.length then (semi l : Int) else -1
  | [] => rfl
  | c :: l => by
    unfold Lib.index
    rw [prefix_semi]
    by_cases h : c = 59
    · subst h; rw [semi_hit]; simp
    · have hne : ¬ ((59 : UInt8) == c) = true := by simp; exact fun e => h e.symm
      rw [semi_miss c l h, if_neg hne, index_semi l, List.length_cons]
      by_cases h2 : semi l < l.length
      · rw [if_pos h2, if_pos (show semi l + 1 < l.length + 1 by omega), if_neg (show ¬ (((semi l : Int) == -1) = true) by simp)]; simp
      · rw [if_neg h2, if_neg (show ¬ semi l + 1 < l.length + 1 by omega)]; rfl
theorem cut_semi (l : List UInt8) : Lib.cut l [59] = if semi l < l.length then (l.take (semi l), l.drop (semi l + 1), true) else (l, [], false) := by
  unfold Lib.cut
  rw [index_semi]
  by_cases h : semi l < l.length
  · rw [if_pos h, if_pos (by omega), if_pos h]; rfl
  · rw [if_neg h, if_neg (by decide), if_neg h]
theorem bl_ext (s : ByteArray) (k : Nat) : bl (s.extract k s.size) = (bl s).drop k := bl_from s k

set_option maxRecDepth 100000 in
set_option maxHeartbeats 8000000 in
theorem eopen0 (s : ByteArray) (w : World) (HE : Hid (EntV w)) (hs : s.size ≤ 4294967280) (A : List UInt8) (B : Int) (HA : Hid (openL (bl s) = (A, B))) :
    Calls Tryz.prog 194 #[.string s] w fun e w' => e = .returned (.tuple #[.string (str A), .int .i64 B]) ∧ Below w.heap.size w w' := by
  have HBS := Lib.hid (bl_size s)
  go_enter Tryz.func194, Tryz.ntmps194
  go_wp2
  go_loopg [5] s.size (fun g i wr => ∃ (k : Nat) (done : List UInt8), g + k = s.size ∧ i = .int .i64 k ∧ done.length ≤ 2 * k ∧ Hid (Bl w.heap.size w.heap.size done wr) ∧ Below w.heap.size w wr ∧ Hid (Opens (bl s) done k))
  case atStart => exact ⟨0, [], rfl, rfl, by simp, Lib.hid (bl_new w), (Below.refl _ _).alloc (Nat.le_refl _) _, Lib.hid (Opens.start _)⟩
  case round =>
    obtain ⟨k, done, hg, rfl, hdl, HB, hb, HK⟩ := hrel
    by_cases hin : k < s.size
    · have hin' : (k : Int) < (s.size : Int) := by omega
      obtain ⟨c, hc⟩ : ∃ c, s[k]'hin = c := ⟨_, rfl⟩
      have hn : nth (bl s) k = c.toNat := by rw [nth_get s k hin, hc]
      have hkl : k < (bl s).length := by rw [HBS.out]; exact hin
      by_cases h38 : c.toNat = 38
      · have q1 : ((c.toNat : Int) == 38) = true := by simp; omega
        have q2 : ((c.toNat : Int) != 38) = false := by simp; omega
        have hE := HE.out.below hb
        obtain ⟨m, hm⟩ := hE.maxl
        have hcut := Tryz.strings_Cut (s.extract (k + 1) s.size) ⟨#[59]⟩ m wr (by have := size_from s (k + 1); omega) hm
        change Calls _ _ _ _ (fun e w' => e = .returned (.tuple #[.string (str (Lib.cut (bl (s.extract (k + 1) s.size)) [59]).1), .string (str (Lib.cut (bl (s.extract (k + 1) s.size)) [59]).2.1), .bool (Lib.cut (bl (s.extract (k + 1) s.size)) [59]).2.2]) ∧ ∃ n, w' = wr.drewN n) at hcut
        rw [bl_ext, cut_semi] at hcut
        have hdrop : ((bl s).drop (k + 1)).length = s.size - (k + 1) := by rw [List.length_drop, HBS.out]
        have hsl := semi_le ((bl s).drop (k + 1))
        rw [hdrop] at hsl hcut
        have hkn := (hn.trans h38)
        have hstep := HK.out.step hkl hkn
        have hnone := HK.out.none hkl hkn
        rw [HBS.out] at hstep hnone
        have hone := fun (X : ByteArray) (wx : World) (hx : Below w.heap.size w wx) => eone X wx (Lib.hid (HE.out.below hx))
        obtain ⟨D, hD⟩ : ∃ D, (bl s).drop (k + 1) = D := ⟨_, rfl⟩
        obtain ⟨M, hM⟩ : ∃ M, within (bl s) k = M := ⟨_, rfl⟩
        have hM' : D.take (semi D) = M := by rw [← hM, ← hD]; rfl
        rw [hD] at hcut hsl hdrop hstep hnone
        rw [hM] at hstep hnone
        obtain ⟨Z, hZ⟩ : ∃ Z, semi D = Z := ⟨_, rfl⟩
        rw [hZ] at hcut hsl hstep hnone hM'
        by_cases ha : Z < s.size - (k + 1)
        · rw [if_pos ha] at hcut
          simp only at hcut
          rw [hM'] at hcut
          have hMs : M.length = Z := by rw [← hM', List.length_take, hdrop]; omega
          have hSs : (str M).size = Z := by rw [str_size, hMs]
          generalize str (D.drop (Z + 1)) = R at hcut
          have C1 := Lib.hid hcut
          have hx := fun n => hone (str M) (wr.drewN n) (hb.trans ((below_drewN wr n).mono hb.size))
          rw [str_bl] at hx
          have hr := oneL_range M
          have hlet := oneL_let M
          obtain ⟨X, hX⟩ : ∃ X, oneL M = X := ⟨_, rfl⟩
          rw [hX] at hx hr hlet hstep hnone
          have C2 := Lib.hid hx
          have HMs := Lib.hid hSs
          by_cases h0 : X = 0
          · have hA := HA.out.symm.trans (hnone (by rintro ⟨_, h⟩; exact h h0))
            injection hA with hA1 hA2
            subst hA1 hA2 h0
            clear hstep hnone hone hcut hx hr hlet hX hSs hMs hM hM' hZ hD hdrop hsl hkn hn hm hE h38 hkl HA ha
            go_wp2_with (go_at_call 162; refine C1.out.mono ?_; rintro e w1 ⟨rfl, n, rfl⟩)
            refine (C2.out n).mono ?_
            rintro e w2 ⟨rfl, hb2⟩
            have hb3 := (hb.trans ((below_drewN wr n).mono hb.size)).trans (hb2.mono (hb.trans ((below_drewN wr n).mono hb.size)).size)
            clear hb hb2
            go_wp2_with fail
            go_ret2
            exact ⟨rfl, hb3⟩
          · have HN := Lib.hid (hstep (by omega) h0)
            have hmay := let_may X (hlet h0)
            have hxb : (X == 0) = false := by simp; exact h0
            have hX0 := hr.1
            have hX1 := hr.2
            have CR := Lib.hid (fun w1 (h : Bl w.heap.size w.heap.size done w1) => lrune _ _ done X hmay w1 h (by omega))
            have hpl := put_len X
            clear hstep hnone hone hcut hx hr hlet hX hSs hMs hM hM' hZ hD hdrop hkn hn hm hE h38 hkl HA h0 hmay
            go_wp2_with (go_at_call 162; refine C1.out.mono ?_; rintro e w1 ⟨rfl, n, rfl⟩)
            refine (C2.out n).mono ?_
            rintro e w2 ⟨rfl, hb2⟩
            have HB2 := Lib.hid ((HB.out.below (below_drewN wr n)).below hb2)
            have hb3 := (hb.trans ((below_drewN wr n).mono hb.size)).trans (hb2.mono (hb.trans ((below_drewN wr n).mono hb.size)).size)
            clear hb hb2
            go_wp2_with fail
            refine (CR.out w2 HB2.out).mono ?_
            rintro e w3 ⟨rfl, h3, hb4⟩
            have H3 := Lib.hid h3
            have hb5 := hb3.trans hb4
            have hSs := HMs.out
            clear hb3 hb4 h3
            go_wp2_with fail
            go_roundg (s.size - (k + Z + 2))
            case measure => omega
            case rel => exact ⟨k + Z + 2, done ++ put X, by omega, congrArg (Value.int .i64) (by omega), by rw [List.length_append]; omega, H3, hb5, HN⟩
        · rw [if_neg ha] at hcut
          simp only at hcut
          have hA := HA.out.symm.trans (hnone (by rintro ⟨h, _⟩; exact ha (by omega)))
          injection hA with hA1 hA2
          subst hA1 hA2
          have C1 := Lib.hid hcut
          have hx := fun n => hone (str D) (wr.drewN n) (hb.trans ((below_drewN wr n).mono hb.size))
          rw [str_bl] at hx
          generalize oneL D = X at hx
          have C2 := Lib.hid hx
          clear hstep hnone hone hcut hx hM hM' hZ hD hdrop hsl hkn hn hm hE h38 hkl HA ha
          go_wp2_with (go_at_call 162; refine C1.out.mono ?_; rintro e w1 ⟨rfl, n, rfl⟩)
          refine (C2.out n).mono ?_
          rintro e w2 ⟨rfl, hb2⟩
          have hb3 := (hb.trans ((below_drewN wr n).mono hb.size)).trans (hb2.mono (hb.trans ((below_drewN wr n).mono hb.size)).size)
          clear hb hb2
          go_wp2_with fail
          go_ret2
          exact ⟨rfl, hb3⟩
      · have q1 : ((c.toNat : Int) == 38) = false := by simp; omega
        have q2 : ((c.toNat : Int) != 38) = true := by simp; omega
        have HN := Lib.hid (HK.out.plain hkl c hn.symm h38)
        have C := Lib.hid (lbyte _ _ done c wr HB.out (by omega))
        clear hn hkl h38 HA
        go_wp2_with (go_at_call 110; refine C.out.mono ?_; rintro e w1 ⟨rfl, h1, hb1⟩)
        have hb2 := hb.trans hb1
        have H1 := Lib.hid h1
        clear hb hb1 h1
        go_wp2
        go_roundg (s.size - (k + 1))
        case measure => omega
        case rel => exact ⟨k + 1, done ++ [c], by omega, by go_num, by rw [List.length_append]; simp; omega, H1, hb2, HN⟩
    · obtain rfl : k = s.size := by omega
      have hA := HA.out.symm.trans (HK.out.whole (by rw [HBS.out]; exact Nat.le_refl _))
      injection hA with hA1 hA2
      subst hA1 hA2
      have C := Lib.hid (lout _ _ A wr HB.out)
      clear HA
      go_wp2_with (go_at_call 31; refine C.out.mono ?_; rintro e w1 ⟨rfl, hb1⟩)
      go_ret2
      exact ⟨rfl, hb.trans hb1⟩
/-- **entity.Open at strings that are not too long.** -/
theorem eopen (s : ByteArray) (w : World) (HE : Hid (EntV w)) (hs : s.size ≤ 4294967280) :
    Calls Tryz.prog 194 #[.string s] w fun e w' => e = .returned (.tuple #[.string (str (openL (bl s)).1), .int .i64 (openL (bl s)).2]) ∧ Below w.heap.size w w' :=
  eopen0 s w HE hs _ _ (Lib.hid rfl)

end Go.Proofs.YtnlkpdodacphkaaGreatDoor
namespace Go.Proofs.YtnlkpdodacphkaaGreatDoor
open Go.RowKit
set_option maxRecDepth 100000

/-! ### what changes, and what does not -/
/-- Of what was there only block b may have changed. -/
structure Only (b : Nat) (w w' : World) : Prop where
  os : w'.os = w.os
  tape : w'.tape = w.tape
  output : w'.output = w.output
  size : w.heap.size ≤ w'.heap.size
  block : ∀ k, k < w.heap.size → k ≠ b → w'.heap[k]? = w.heap[k]?
theorem Only.refl (b : Nat) (w : World) : Only b w w := ⟨rfl, rfl, rfl, Nat.le_refl _, fun _ _ _ => rfl⟩
theorem Only.trans {b : Nat} {x y z : World} (h : Only b x y) (k : Only b y z) : Only b x z :=
  ⟨k.os.trans h.os, k.tape.trans h.tape, k.output.trans h.output, Nat.le_trans h.size k.size, fun i hi hb => (k.block i (Nat.lt_of_lt_of_le hi h.size) hb).trans (h.block i hi hb)⟩
theorem Only.of {b : Nat} {w w' : World} (h : Below w.heap.size w w') : Only b w w' := ⟨h.os, h.tape, h.output, h.size, fun k hk _ => h.block k hk⟩
theorem Only.below {b B : Nat} {w w' : World} (h : Only b w w') (hB : B ≤ b) (hw : B ≤ w.heap.size) : Below B w w' := ⟨h.os, h.tape, h.output, h.size, fun k hk => h.block k (by omega) (by omega)⟩
theorem Only.set (b o : Nat) (w : World) (v : Value) : Only b w (w.setCell ⟨b, o, none⟩ v) := ⟨rfl, rfl, rfl, by simp [World.setCell], fun k _ hb => Below.heap_setCell _ _ _ _ hb⟩
theorem Only.alloc (b : Nat) (w : World) (o : Obj) : Only b w (w.alloc o) := Only.of ((Below.refl _ _).alloc (Nat.le_refl _) _)
theorem Only.drewN (b : Nat) (w : World) (n : Nat) : Only b w (w.drewN n) := Only.of (below_drewN w n)

/-- What the package-level variables hold lies below B, and is as it was. -/
def Glob (B : Nat) (w : World) : Prop := ∃ w0, w0.heap.size = B ∧ EntV w0 ∧ Tabs w0 ∧ Below B w0 w
theorem Glob.start {w : World} (h : EntV w) (k : Tabs w) : Glob w.heap.size w := ⟨w, rfl, h, k, Below.refl _ _⟩
theorem Glob.ent {B : Nat} {w : World} (h : Glob B w) : EntV w := by obtain ⟨w0, rfl, h1, _, h3⟩ := h; exact h1.below h3
theorem Glob.tabs {B : Nat} {w : World} (h : Glob B w) : Tabs w := by obtain ⟨w0, rfl, _, h2, h3⟩ := h; exact h2.below h3
theorem Glob.le {B : Nat} {w : World} (h : Glob B w) : B ≤ w.heap.size := by obtain ⟨w0, rfl, _, _, h3⟩ := h; exact h3.size
theorem Glob.step {B : Nat} {w w' : World} (h : Glob B w) (hb : Below B w w') : Glob B w' := by obtain ⟨w0, h0, h1, h2, h3⟩ := h; exact ⟨w0, h0, h1, h2, h3.trans hb⟩

/-- A scanner over a text, in block b. -/
structure Sc (B b : Nat) (s : ByteArray) (σ : St) (w : World) : Prop where
  base : B ≤ b
  len : s.size ≤ 4000000000
  pos : σ.pos ≤ s.size
  glob : Glob B w
  heap : w.heap[b]? = some (.cells #[.string s, .int .i64 σ.pos, .int .i64 σ.err, .int .i64 σ.wrg] 108 (0, 0))
theorem Sc.lt {B b : Nat} {s : ByteArray} {σ : St} {w : World} (h : Sc B b s σ w) : b < w.heap.size := (Array.getElem?_eq_some_iff.1 h.heap).1
theorem Sc.c0 {B b : Nat} {s : ByteArray} {σ : St} {w : World} (h : Sc B b s σ w) : w.cell? ⟨b, 0, none⟩ = some (.string s) := by rw [Lib.cell_of_heap h.heap]; rfl
theorem Sc.c1 {B b : Nat} {s : ByteArray} {σ : St} {w : World} (h : Sc B b s σ w) : w.cell? ⟨b, 1, none⟩ = some (.int .i64 σ.pos) := by rw [Lib.cell_of_heap h.heap]; rfl
theorem Sc.c2 {B b : Nat} {s : ByteArray} {σ : St} {w : World} (h : Sc B b s σ w) : w.cell? ⟨b, 2, none⟩ = some (.int .i64 σ.err) := by rw [Lib.cell_of_heap h.heap]; rfl
theorem Sc.c3 {B b : Nat} {s : ByteArray} {σ : St} {w : World} (h : Sc B b s σ w) : w.cell? ⟨b, 3, none⟩ = some (.int .i64 σ.wrg) := by rw [Lib.cell_of_heap h.heap]; rfl
theorem Sc.fz {B b : Nat} {s : ByteArray} {σ : St} {w : World} (h : Sc B b s σ w) (o : Nat) : w.frozen? ⟨b, o, none⟩ = false := Lib.frozen_of_heap h.heap o
theorem Sc.step {B b : Nat} {s : ByteArray} {σ : St} {w w' : World} (h : Sc B b s σ w) (hb : Below w.heap.size w w') : Sc B b s σ w' :=
  ⟨h.base, h.len, h.pos, h.glob.step (hb.mono h.glob.le), by rw [hb.block _ h.lt]; exact h.heap⟩
theorem heap_set {w : World} {b o : Nat} {cs : Array Value} {t : TypeId} {z : Nat × Nat} (v : Value) (h : w.heap[b]? = some (.cells cs t z)) : (w.setCell ⟨b, o, none⟩ v).heap[b]? = some (.cells (cs.setIfInBounds o v) t z) := by
  simp only [World.setCell, Array.getElem?_modify, if_true, h, Option.map_some]
  rfl
theorem Sc.go {B b : Nat} {s : ByteArray} {σ : St} {w : World} (h : Sc B b s σ w) (p : Nat) (hp : p ≤ s.size) : Sc B b s (go_ σ p) (w.setCell ⟨b, 1, none⟩ (.int .i64 p)) :=
  ⟨h.base, h.len, hp, h.glob.step ((Only.set b 1 w _).below h.base h.glob.le), by rw [heap_set _ h.heap]; rfl⟩
theorem Sc.wrong {B b : Nat} {s : ByteArray} {σ : St} {w : World} (h : Sc B b s σ w) (e a : Int) : Sc B b s ⟨σ.pos, e, a⟩ ((w.setCell ⟨b, 2, none⟩ (.int .i64 e)).setCell ⟨b, 3, none⟩ (.int .i64 a)) :=
  ⟨h.base, h.len, h.pos, (h.glob.step ((Only.set b 2 w _).below h.base h.glob.le)).step ((Only.set b 3 _ _).below h.base (by simpa [World.setCell] using h.glob.le)), by rw [heap_set _ (heap_set _ h.heap)]; rfl⟩

set_option maxHeartbeats 1000000 in
theorem swrong0 (B b : Nat) (s : ByteArray) (σ : St) (w : World) (h : Sc B b s σ w) (e a : Int) (he : e ≠ 0) (h0 : σ.err = 0) :
    Calls Tryz.prog 42 #[.pointer (some ⟨b, 0, none⟩), .int .i64 e, .int .i64 a] w fun r w' => r = .returned (.tuple #[]) ∧ Sc B b s ⟨σ.pos, e, a⟩ w' ∧ Only b w w' := by
  have c2 := h.c2
  rw [h0] at c2
  have f2 := h.fz 2
  have f3 := h.fz 3
  have q : (e == 0) = false := by simp [he]
  have c3 := h.c3
  have H := Lib.hid h
  clear h he h0
  go_enter Tryz.func42, Tryz.ntmps42
  go_wp2
  go_end0
  exact ⟨rfl, H.out.wrong e a, (Only.set b 2 w _).trans (Only.set b 3 _ _)⟩
set_option maxHeartbeats 1000000 in
theorem swrong1 (B b : Nat) (s : ByteArray) (σ : St) (w : World) (h : Sc B b s σ w) (e a : Int) (h0 : σ.err ≠ 0) :
    Calls Tryz.prog 42 #[.pointer (some ⟨b, 0, none⟩), .int .i64 e, .int .i64 a] w fun r w' => r = .returned (.tuple #[]) ∧ w = w' := by
  have c2 := h.c2
  have q : (σ.err != 0) = true := by simp [h0]
  clear h h0
  go_enter Tryz.func42, Tryz.ntmps42
  go_wp2
  (try simp only [Exit.inBlock, Exit.then])
  refine bodyPost_ret (results_none rfl _ _ _) rfl ?_
  exact ⟨rfl, rfl⟩
/-- **(*Scanner).Wrong.** -/
theorem swrong (B b : Nat) (s : ByteArray) (σ : St) (w : World) (h : Sc B b s σ w) (e a : Int) (he : e ≠ 0) :
    Calls Tryz.prog 42 #[.pointer (some ⟨b, 0, none⟩), .int .i64 e, .int .i64 a] w fun r w' => r = .returned (.tuple #[]) ∧ Sc B b s (wrongS e a σ) w' ∧ Only b w w' := by
  unfold wrongS
  by_cases h0 : σ.err = 0
  · rw [if_pos h0]; exact swrong0 B b s σ w h e a he h0
  · rw [if_neg h0]
    refine (swrong1 B b s σ w h e a h0).mono ?_
    rintro r w' ⟨rfl, rfl⟩
    exact ⟨rfl, h, Only.refl _ _⟩
set_option maxHeartbeats 1000000 in
theorem serr (B b : Nat) (s : ByteArray) (σ : St) (w : World) (h : Sc B b s σ w) :
    Calls Tryz.prog 97 #[.pointer (some ⟨b, 0, none⟩)] w fun r w' => r = .returned (.int .i64 σ.err) ∧ w = w' := by
  have c2 := h.c2
  clear h
  go_enter Tryz.func97, Tryz.ntmps97
  go_wp2
  go_ret
  exact ⟨rfl, rfl⟩
def atS (σ : St) : Int := if σ.err = 0 then σ.pos else σ.wrg
set_option maxHeartbeats 1000000 in
theorem sat (B b : Nat) (s : ByteArray) (σ : St) (w : World) (h : Sc B b s σ w) :
    Calls Tryz.prog 98 #[.pointer (some ⟨b, 0, none⟩)] w fun r w' => r = .returned (.int .i64 (atS σ)) ∧ w = w' := by
  unfold atS
  by_cases h0 : σ.err = 0
  · rw [if_pos h0]
    have c2 := h.c2
    rw [h0] at c2
    have c1 := h.c1
    clear h h0
    go_enter Tryz.func98, Tryz.ntmps98
    go_wp2
    go_ret
    exact ⟨rfl, rfl⟩
  · rw [if_neg h0]
    have c2 := h.c2
    have q : (σ.err != 0) = true := by simp [h0]
    have c3 := h.c3
    clear h h0
    go_enter Tryz.func98, Tryz.ntmps98
    go_wp2
    go_ret
    exact ⟨rfl, rfl⟩
/-! ### stands, skip, must -/
set_option maxHeartbeats 2000000 in
theorem sstands (B b : Nat) (s p : ByteArray) (σ : St) (w : World) (h : Sc B b s σ w) :
    Calls Tryz.prog 150 #[.pointer (some ⟨b, 0, none⟩), .string p] w fun r w' => r = .returned (.bool (standsS (bl p) (bl s) σ)) ∧ ∃ n, w' = w.drewN n := by
  have c0 := h.c0
  have c1 := h.c1
  have hp := h.pos
  have hp' : (σ.pos : Int) ≤ (s.size : Int) := by omega
  have C := Lib.hid (Tryz.strings_HasPrefix (s.extract σ.pos s.size) p)
  have E : Lib.hasPrefix (s.extract σ.pos s.size).data.toList p.data.toList = standsS (bl p) (bl s) σ := by
    show List.isPrefixOf p.data.toList (bl (s.extract σ.pos s.size)) = _
    rw [bl_from]; rfl
  rw [E] at C
  generalize standsS (bl p) (bl s) σ = A at C ⊢
  clear h E
  go_enter Tryz.func150, Tryz.ntmps150
  go_wp2
  go_quiet ((go_at_call 73; exact Calls.quiet_of_same (C.out _)))
  go_wp2
  go_ret
  exact ⟨rfl, _, rfl⟩
/-- stands, of a world that is a variable. -/
theorem sstands_at (B b : Nat) (s p : ByteArray) (σ : St) (w : World) (h : Sc B b s σ w) (A : Bool) (hA : standsS (bl p) (bl s) σ = A) :
    Calls Tryz.prog 150 #[.pointer (some ⟨b, 0, none⟩), .string p] w fun r w' => r = .returned (.bool A) ∧ Sc B b s σ w' ∧ Below w.heap.size w w' := by
  refine (sstands B b s p σ w h).mono ?_
  rintro r w' ⟨rfl, n, rfl⟩
  exact ⟨by rw [hA], h.step (below_drewN w n), below_drewN w n⟩
set_option maxHeartbeats 2000000 in
theorem sskip_yes (B b : Nat) (s p : ByteArray) (σ : St) (w : World) (h : Sc B b s σ w) (hs : standsS (bl p) (bl s) σ = true) (hp0 : bl p ≠ []) :
    Calls Tryz.prog 156 #[.pointer (some ⟨b, 0, none⟩), .string p] w fun r w' => r = .returned (.bool true) ∧ Sc B b s (go_ σ (σ.pos + p.size)) w' ∧ Only b w w' := by
  have C := sstands B b s p σ w h
  rw [hs] at C
  have C := Lib.hid C
  have hl := stands_len hs hp0
  rw [bl_size, bl_size] at hl
  have hln := h.len
  have c1 := fun n => (h.step (below_drewN w n)).c1
  have f1 := fun n => (h.step (below_drewN w n)).fz 1
  have H := Lib.hid (fun n => (h.step (below_drewN w n)).go (σ.pos + p.size) hl)
  clear h hs hp0
  go_enter Tryz.func156, Tryz.ntmps156
  go_wp2_with fail
  refine C.out.mono ?_
  rintro e w1 ⟨rfl, n, rfl⟩
  have c1 := c1 n
  have f1 := f1 n
  have H := Lib.hid (H.out n)
  go_wp2
  go_ret
  exact ⟨rfl, H.out, (Only.drewN b w n).trans (Only.set b 1 _ _)⟩
set_option maxHeartbeats 2000000 in
theorem sskip_no (B b : Nat) (s p : ByteArray) (σ : St) (w : World) (h : Sc B b s σ w) (hs : standsS (bl p) (bl s) σ = false) :
    Calls Tryz.prog 156 #[.pointer (some ⟨b, 0, none⟩), .string p] w fun r w' => r = .returned (.bool false) ∧ ∃ n, w' = w.drewN n := by
  have C := sstands B b s p σ w h
  rw [hs] at C
  have C := Lib.hid C
  clear h hs
  go_enter Tryz.func156, Tryz.ntmps156
  go_wp2_with fail
  refine C.out.mono ?_
  rintro e w1 ⟨rfl, n, rfl⟩
  go_wp2
  go_ret
  exact ⟨rfl, _, rfl⟩
/-- **(*Scanner).skip.** -/
theorem sskip (B b : Nat) (s p : ByteArray) (σ : St) (w : World) (h : Sc B b s σ w) (hp0 : bl p ≠ []) :
    Calls Tryz.prog 156 #[.pointer (some ⟨b, 0, none⟩), .string p] w fun r w' => r = .returned (.bool (standsS (bl p) (bl s) σ)) ∧ Sc B b s (skipS (bl p) (bl s) σ) w' ∧ Only b w w' := by
  unfold skipS
  cases hs : standsS (bl p) (bl s) σ with
  | true =>
    rw [if_pos rfl, bl_size]
    exact sskip_yes B b s p σ w h hs hp0
  | false =>
    rw [if_neg (by decide)]
    refine (sskip_no B b s p σ w h hs).mono ?_
    rintro r w' ⟨rfl, n, rfl⟩
    exact ⟨rfl, h.step (below_drewN w n), Only.drewN b w n⟩
set_option maxHeartbeats 2000000 in
theorem smust_yes (B b : Nat) (s p : ByteArray) (σ' : St) (w : World) (C : Hid (Calls Tryz.prog 156 #[.pointer (some ⟨b, 0, none⟩), .string p] w fun r w' => r = .returned (.bool true) ∧ Sc B b s σ' w' ∧ Only b w w')) :
    Calls Tryz.prog 176 #[.pointer (some ⟨b, 0, none⟩), .string p] w fun r w' => r = .returned (.tuple #[]) ∧ Sc B b s σ' w' ∧ Only b w w' := by
  go_enter Tryz.func176, Tryz.ntmps176
  go_wp2_with fail
  refine C.out.mono ?_
  rintro e w1 ⟨rfl, h1, h2⟩
  go_wp2
  go_end0
  exact ⟨rfl, h1, h2⟩
set_option maxHeartbeats 2000000 in
theorem smust_no (B b : Nat) (s p : ByteArray) (σ : St) (w : World) (h : Sc B b s σ w) (C : Hid (Calls Tryz.prog 156 #[.pointer (some ⟨b, 0, none⟩), .string p] w fun r w' => r = .returned (.bool false) ∧ ∃ n, w' = w.drewN n)) :
    Calls Tryz.prog 176 #[.pointer (some ⟨b, 0, none⟩), .string p] w fun r w' => r = .returned (.tuple #[]) ∧ Sc B b s (wrongS 3 σ.pos σ) w' ∧ Only b w w' := by
  have c1 := fun n => (h.step (below_drewN w n)).c1
  have H := Lib.hid (fun n => h.step (below_drewN w n))
  clear h
  go_enter Tryz.func176, Tryz.ntmps176
  go_wp2_with fail
  refine C.out.mono ?_
  rintro e w1 ⟨rfl, n, rfl⟩
  have c1 := c1 n
  have C2 := Lib.hid (swrong B b s σ _ (H.out n) 3 σ.pos (by decide))
  go_wp2_with fail
  refine C2.out.mono ?_
  rintro e w1 ⟨rfl, h1, h2⟩
  go_wp2
  go_end0
  exact ⟨rfl, h1, (Only.drewN b w n).trans h2⟩
/-- **(*Scanner).must.** -/
theorem smust (B b : Nat) (s p : ByteArray) (σ : St) (w : World) (h : Sc B b s σ w) (hp0 : bl p ≠ []) :
    Calls Tryz.prog 176 #[.pointer (some ⟨b, 0, none⟩), .string p] w fun r w' => r = .returned (.tuple #[]) ∧ Sc B b s (mustS (bl p) (bl s) σ) w' ∧ Only b w w' := by
  unfold mustS
  cases hs : standsS (bl p) (bl s) σ with
  | true =>
    rw [if_pos rfl, bl_size]
    exact smust_yes B b s p _ w (Lib.hid (sskip_yes B b s p σ w h hs hp0))
  | false =>
    rw [if_neg (by decide)]
    exact smust_no B b s p σ w h (Lib.hid (sskip_no B b s p σ w h hs))

/-! ### letters, opened -/
set_option maxHeartbeats 2000000 in
theorem sletters_hit (B b : Nat) (s x : ByteArray) (σ : St) (w : World) (a : Nat) (A : Nat) (hA : a + A ≤ 9000000000) (h : Sc B b s σ w)
    (C : Hid (Calls Tryz.prog 113 #[.string x] w fun e w' => e = .returned (.int .i64 A) ∧ Below w.heap.size w w')) :
    Calls Tryz.prog 172 #[.pointer (some ⟨b, 0, none⟩), .string x, .int .i64 a] w fun r w' => r = .returned (.tuple #[]) ∧ Sc B b s (wrongS 3 (a + A) σ) w' ∧ Only b w w' := by
  have H := Lib.hid h
  clear h
  go_enter Tryz.func172, Tryz.ntmps172
  go_wp2_with fail
  refine C.out.mono ?_
  rintro e w1 ⟨rfl, hb⟩
  have C2 := Lib.hid (swrong B b s σ _ (H.out.step hb) 3 (a + A) (by decide))
  go_wp2_with fail
  refine C2.out.mono ?_
  rintro e w2 ⟨rfl, h1, h2⟩
  go_wp2
  go_end0
  exact ⟨rfl, h1, (Only.of hb).trans h2⟩
set_option maxHeartbeats 2000000 in
theorem sletters_miss (b : Nat) (x : ByteArray) (w : World) (a : Nat)
    (C : Hid (Calls Tryz.prog 113 #[.string x] w fun e w' => e = .returned (.int .i64 (-1)) ∧ Below w.heap.size w w')) :
    Calls Tryz.prog 172 #[.pointer (some ⟨b, 0, none⟩), .string x, .int .i64 a] w fun r w' => r = .returned (.tuple #[]) ∧ Below w.heap.size w w' := by
  go_enter Tryz.func172, Tryz.ntmps172
  go_wp2_with fail
  refine C.out.mono ?_
  rintro e w1 ⟨rfl, hb⟩
  go_wp2
  go_end0
  exact ⟨rfl, hb⟩
theorem textL_neg (x : List UInt8) (h : ¬ 0 ≤ textL x) : textL x = -1 := by
  unfold textL at h ⊢
  split
  · rename_i hh; rw [if_pos hh] at h; omega
  · rfl
/-- **(*Scanner).letters.** -/
theorem sletters (B b : Nat) (s x : ByteArray) (σ : St) (w : World) (a : Nat) (hA : a + x.size ≤ 9000000000) (h : Sc B b s σ w) :
    Calls Tryz.prog 172 #[.pointer (some ⟨b, 0, none⟩), .string x, .int .i64 a] w fun r w' => r = .returned (.tuple #[]) ∧ Sc B b s (lettersS (bl x) a σ) w' ∧ Only b w w' := by
  have c := ctext x w (by omega) h.glob.tabs
  unfold lettersS
  by_cases h0 : 0 ≤ textL (bl x)
  · rw [if_pos h0]
    have hl := textL_lt (bl x) h0
    rw [bl_size] at hl
    obtain ⟨A, hA'⟩ : ∃ A : Nat, textL (bl x) = A := ⟨(textL (bl x)).toNat, by omega⟩
    rw [hA'] at c hl ⊢
    exact sletters_hit B b s x σ w a A (by omega) h (Lib.hid c)
  · rw [if_neg h0]
    rw [textL_neg _ h0] at c
    refine (sletters_miss b x w a (Lib.hid c)).mono ?_
    rintro r w' ⟨rfl, hb⟩
    exact ⟨rfl, h.step hb, Only.of hb⟩
set_option maxHeartbeats 2000000 in
theorem sopened_hit (B b : Nat) (s x X : ByteArray) (σ1 : St) (w : World) (a : Nat) (A : Nat) (hA : a + A ≤ 9000000000)
    (C : Hid (Calls Tryz.prog 172 #[.pointer (some ⟨b, 0, none⟩), .string x, .int .i64 a] w fun r w' => r = .returned (.tuple #[]) ∧ Sc B b s σ1 w' ∧ Only b w w'))
    (CO : Hid (∀ w, EntV w → Calls Tryz.prog 194 #[.string x] w fun e w' => e = .returned (.tuple #[.string X, .int .i64 A]) ∧ Below w.heap.size w w')) :
    Calls Tryz.prog 179 #[.pointer (some ⟨b, 0, none⟩), .string x, .int .i64 a] w fun r w' => r = .returned (.string X) ∧ Sc B b s (wrongS 3 (a + A) σ1) w' ∧ Only b w w' := by
  go_enter Tryz.func179, Tryz.ntmps179
  go_wp2_with fail
  refine C.out.mono ?_
  rintro e w1 ⟨rfl, h1, h2⟩
  have H := Lib.hid h1
  have C2 := Lib.hid (CO.out w1 h1.glob.ent)
  clear h1
  go_wp2_with fail
  refine C2.out.mono ?_
  rintro e w2 ⟨rfl, hb⟩
  have C3 := Lib.hid (swrong B b s σ1 _ (H.out.step hb) 3 (a + A) (by decide))
  go_wp2_with fail
  refine C3.out.mono ?_
  rintro e w3 ⟨rfl, h3, h4⟩
  go_wp2
  go_ret
  exact ⟨rfl, h3, (h2.trans (Only.of hb)).trans h4⟩
set_option maxHeartbeats 2000000 in
theorem sopened_miss (B b : Nat) (s x X : ByteArray) (σ1 : St) (w : World) (a : Nat)
    (C : Hid (Calls Tryz.prog 172 #[.pointer (some ⟨b, 0, none⟩), .string x, .int .i64 a] w fun r w' => r = .returned (.tuple #[]) ∧ Sc B b s σ1 w' ∧ Only b w w'))
    (CO : Hid (∀ w, EntV w → Calls Tryz.prog 194 #[.string x] w fun e w' => e = .returned (.tuple #[.string X, .int .i64 (-1)]) ∧ Below w.heap.size w w')) :
    Calls Tryz.prog 179 #[.pointer (some ⟨b, 0, none⟩), .string x, .int .i64 a] w fun r w' => r = .returned (.string X) ∧ Sc B b s σ1 w' ∧ Only b w w' := by
  go_enter Tryz.func179, Tryz.ntmps179
  go_wp2_with fail
  refine C.out.mono ?_
  rintro e w1 ⟨rfl, h1, h2⟩
  have H := Lib.hid h1
  have C2 := Lib.hid (CO.out w1 h1.glob.ent)
  clear h1
  go_wp2_with fail
  refine C2.out.mono ?_
  rintro e w2 ⟨rfl, hb⟩
  go_wp2
  go_ret
  exact ⟨rfl, H.out.step hb, h2.trans (Only.of hb)⟩
theorem openL_neg (x : List UInt8) (h : ¬ 0 ≤ (openL x).2) : (openL x).2 = -1 := by
  have := openF_lt x.length x [] 0
  unfold openL at h ⊢
  rcases this with h1 | h1 <;> omega
/-- **(*Scanner).opened.** -/
theorem sopened (B b : Nat) (s x : ByteArray) (σ : St) (w : World) (a : Nat) (hx : x.size ≤ 4294967280) (hA : a + x.size ≤ 9000000000) (h : Sc B b s σ w) :
    Calls Tryz.prog 179 #[.pointer (some ⟨b, 0, none⟩), .string x, .int .i64 a] w fun r w' => r = .returned (.string (str (openL (bl x)).1)) ∧ Sc B b s (openedS (bl x) a σ) w' ∧ Only b w w' := by
  have c := Lib.hid (sletters B b s x σ w a hA h)
  have co := fun w (h : EntV w) => eopen x w (Lib.hid h) hx
  unfold openedS
  by_cases h0 : 0 ≤ (openL (bl x)).2
  · rw [if_pos h0]
    have hl := openL_lt (bl x) h0
    rw [bl_size] at hl
    obtain ⟨A, hA'⟩ : ∃ A : Nat, (openL (bl x)).2 = A := ⟨(openL (bl x)).2.toNat, by omega⟩
    rw [hA'] at co hl ⊢
    exact sopened_hit B b s x _ _ w a A (by omega) c (Lib.hid co)
  · rw [if_neg h0]
    rw [openL_neg _ h0] at co
    exact sopened_miss B b s x _ _ w a c (Lib.hid co)

end Go.Proofs.YtnlkpdodacphkaaGreatDoor
namespace Go.Proofs.YtnlkpdodacphkaaGreatDoor
open Go.RowKit
set_option maxRecDepth 100000

theorem bl_sub (s : ByteArray) (a b : Nat) : bl (s.extract a b) = ((bl s).take b).drop a := by
  unfold bl; rw [Lib.extract_data, List.take_drop]
  by_cases h : a ≤ b
  · rw [show a + (b - a) = b by omega]
  · rw [List.drop_eq_nil_of_le (by rw [List.length_take]; omega), List.drop_eq_nil_of_le (by rw [List.length_take]; omega)]
theorem bl_one (s : ByteArray) (k : Nat) (h : k < s.size) : bl (s.extract k (k + 1)) = [s[k]'h] := by
  rw [bl_sub, take_get s k h, List.drop_append_of_le_length (by rw [List.length_take, bl_size]; omega), List.drop_eq_nil_of_le (by rw [List.length_take, bl_size]; omega)]; rfl
set_option maxRecDepth 100000 in
set_option maxHeartbeats 8000000 in
theorem rclose0 (s : ByteArray) (w : World) (hs : s.size ≤ 4294967296) (A : ByteArray) (HA : Hid (A = str (closeL (bl s)))) :
    Calls Tryz.prog 22 #[.string s] w fun e w' => e = .returned (.string A) ∧ w = w' := by
  go_enter Tryz.func22, Tryz.ntmps22
  go_wp2
  go_loop [3, 4] (fun o i => ∃ (k : Nat) (X : ByteArray), k ≤ s.size ∧ i = .int .i64 k ∧ o = .string X ∧ X.size ≤ 6 * k ∧ Hid (bl X = closeL ((bl s).take k))) (fun _ i => s.size - (intOf i).toNat)
  case atStart => exact ⟨0, ⟨#[]⟩, Nat.zero_le _, rfl, rfl, by decide, Lib.hid (by simp [closeL, bl])⟩
  case round =>
    obtain ⟨k, X, hk, rfl, rfl, hX, HX⟩ := hrel
    by_cases hin : k < s.size
    · have hin' : (k : Int) < (s.size : Int) := by omega
      have htk := take_get s k hin
      obtain ⟨c, hc⟩ : ∃ c, s[k]'hin = c := ⟨_, rfl⟩
      rw [hc] at htk
      have HN : Hid (∀ Y : ByteArray, bl Y = closeB c → bl (X ++ Y) = closeL ((bl s).take (k + 1)) ∧ (X ++ Y).size ≤ 6 * (k + 1)) := Lib.hid (fun Y hY => by
        have h1 : bl (X ++ Y) = bl X ++ bl Y := bl_append X Y
        refine ⟨by rw [htk, closeL_append, closeL_one, h1, HX.out, hY], ?_⟩
        rw [← bl_size, h1, List.length_append, bl_size, hY]
        have := (closeB_len c).1
        omega)
      have HO := Lib.hid (bl_one s k hin)
      rw [hc] at HO
      clear htk
      obtain ⟨d, hd⟩ : ∃ d : Int, (c.toNat : Int) = d := ⟨_, rfl⟩
      by_cases c38 : d = 38
      · have hc' : c = 38 := UInt8.toNat_inj.1 (by show c.toNat = 38; omega)
        have HY := Lib.hid (HN.out ⟨#[38, 97, 109, 112, 59]⟩ (by rw [hc']; rfl))
        have q38 : (d == 38) = true := by simp; omega
        clear hc' HN HO c38
        go_wp2
        go_round
        case rel => exact ⟨k + 1, _, by omega, by go_num, rfl, HY.out.2, Lib.hid HY.out.1⟩
        case measure => simp [intOf]; omega
      by_cases c60 : d = 60
      · have hc' : c = 60 := UInt8.toNat_inj.1 (by show c.toNat = 60; omega)
        have HY := Lib.hid (HN.out ⟨#[38, 108, 116, 59]⟩ (by rw [hc']; rfl))
        have q38 : (d == 38) = false := by simp; omega
        have q60 : (d == 60) = true := by simp; omega
        clear hc' HN HO c60 c38
        go_wp2
        go_round
        case rel => exact ⟨k + 1, _, by omega, by go_num, rfl, HY.out.2, Lib.hid HY.out.1⟩
        case measure => simp [intOf]; omega
      by_cases c62 : d = 62
      · have hc' : c = 62 := UInt8.toNat_inj.1 (by show c.toNat = 62; omega)
        have HY := Lib.hid (HN.out ⟨#[38, 103, 116, 59]⟩ (by rw [hc']; rfl))
        have q38 : (d == 38) = false := by simp; omega
        have q60 : (d == 60) = false := by simp; omega
        have q62 : (d == 62) = true := by simp; omega
        clear hc' HN HO c62 c38 c60
        go_wp2
        go_round
        case rel => exact ⟨k + 1, _, by omega, by go_num, rfl, HY.out.2, Lib.hid HY.out.1⟩
        case measure => simp [intOf]; omega
      by_cases c34 : d = 34
      · have hc' : c = 34 := UInt8.toNat_inj.1 (by show c.toNat = 34; omega)
        have HY := Lib.hid (HN.out ⟨#[38, 113, 117, 111, 116, 59]⟩ (by rw [hc']; rfl))
        have q38 : (d == 38) = false := by simp; omega
        have q60 : (d == 60) = false := by simp; omega
        have q62 : (d == 62) = false := by simp; omega
        have q34 : (d == 34) = true := by simp; omega
        clear hc' HN HO c34 c38 c60 c62
        go_wp2
        go_round
        case rel => exact ⟨k + 1, _, by omega, by go_num, rfl, HY.out.2, Lib.hid HY.out.1⟩
        case measure => simp [intOf]; omega
      by_cases c9 : d = 9
      · have hc' : c = 9 := UInt8.toNat_inj.1 (by show c.toNat = 9; omega)
        have HY := Lib.hid (HN.out ⟨#[38, 35, 57, 59]⟩ (by rw [hc']; rfl))
        have q38 : (d == 38) = false := by simp; omega
        have q60 : (d == 60) = false := by simp; omega
        have q62 : (d == 62) = false := by simp; omega
        have q34 : (d == 34) = false := by simp; omega
        have q9 : (d == 9) = true := by simp; omega
        clear hc' HN HO c9 c38 c60 c62 c34
        go_wp2
        go_round
        case rel => exact ⟨k + 1, _, by omega, by go_num, rfl, HY.out.2, Lib.hid HY.out.1⟩
        case measure => simp [intOf]; omega
      by_cases c10 : d = 10
      · have hc' : c = 10 := UInt8.toNat_inj.1 (by show c.toNat = 10; omega)
        have HY := Lib.hid (HN.out ⟨#[38, 35, 49, 48, 59]⟩ (by rw [hc']; rfl))
        have q38 : (d == 38) = false := by simp; omega
        have q60 : (d == 60) = false := by simp; omega
        have q62 : (d == 62) = false := by simp; omega
        have q34 : (d == 34) = false := by simp; omega
        have q9 : (d == 9) = false := by simp; omega
        have q10 : (d == 10) = true := by simp; omega
        clear hc' HN HO c10 c38 c60 c62 c34 c9
        go_wp2
        go_round
        case rel => exact ⟨k + 1, _, by omega, by go_num, rfl, HY.out.2, Lib.hid HY.out.1⟩
        case measure => simp [intOf]; omega
      by_cases c13 : d = 13
      · have hc' : c = 13 := UInt8.toNat_inj.1 (by show c.toNat = 13; omega)
        have HY := Lib.hid (HN.out ⟨#[38, 35, 49, 51, 59]⟩ (by rw [hc']; rfl))
        have q38 : (d == 38) = false := by simp; omega
        have q60 : (d == 60) = false := by simp; omega
        have q62 : (d == 62) = false := by simp; omega
        have q34 : (d == 34) = false := by simp; omega
        have q9 : (d == 9) = false := by simp; omega
        have q10 : (d == 10) = false := by simp; omega
        have q13 : (d == 13) = true := by simp; omega
        clear hc' HN HO c13 c38 c60 c62 c34 c9 c10
        go_wp2
        go_round
        case rel => exact ⟨k + 1, _, by omega, by go_num, rfl, HY.out.2, Lib.hid HY.out.1⟩
        case measure => simp [intOf]; omega
      have HY := Lib.hid (HN.out (s.extract k (k + 1)) (by rw [HO.out]; exact (closeB_plain c (by omega) (by omega) (by omega) (by omega) (by omega) (by omega) (by omega)).symm))
      have q38 : (d == 38) = false := by simp; omega
      have q60 : (d == 60) = false := by simp; omega
      have q62 : (d == 62) = false := by simp; omega
      have q34 : (d == 34) = false := by simp; omega
      have q9 : (d == 9) = false := by simp; omega
      have q10 : (d == 10) = false := by simp; omega
      have q13 : (d == 13) = false := by simp; omega
      clear HN HO c38 c60 c62 c34 c9 c10 c13
      go_wp2
      go_round
      case rel => exact ⟨k + 1, _, by omega, by go_num, rfl, HY.out.2, Lib.hid HY.out.1⟩
      case measure => simp [intOf]; omega
    · obtain rfl : k = s.size := by omega
      have hA : A = X := by
        have h := HX.out
        rw [take_all] at h
        rw [HA.out, ← h, bl_str]
      subst hA
      clear HA
      go_wp2
      go_ret
      exact ⟨rfl, rfl⟩
/-- **galliardref01.Close at strings that are not too long.** -/
theorem rclose (s : ByteArray) (w : World) (hs : s.size ≤ 4294967296) :
    Calls Tryz.prog 22 #[.string s] w fun e w' => e = .returned (.string (str (closeL (bl s)))) ∧ w = w' :=
  rclose0 s w hs _ (Lib.hid rfl)

/-! ### the law's digits -/
end Go.Proofs.YtnlkpdodacphkaaGreatDoor
