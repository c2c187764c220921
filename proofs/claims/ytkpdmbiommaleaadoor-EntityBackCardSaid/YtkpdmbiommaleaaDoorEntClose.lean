/-
  The walks of entity.closed, entity.Close and galliardref01.Close.
-/
import Derived.Test.YtkpdmbiommaleaaDoorEntOne
import Derived.Test.YtkpdmbiommaleaaDoorBuild
import Derived.BigQuiet
import Derived.Deep.QuietTactic
namespace Go.Proofs.YtkpdmbiommaleaaDoor
open Go.RowKit

set_option maxRecDepth 100000 in
set_option maxHeartbeats 4000000 in
theorem eclosed_9 (w : World) :
    Calls Tryd.prog 19 #[.int .u8 9] w fun e w' => e = .returned (.string ⟨#[38, 35, 57, 59]⟩) ∧ Below w.heap.size w w' := by
  have C : Hid (Calls Tryd.prog 27 #[.int .i64 9] w fun e w' => e = .returned (.string ⟨#[57]⟩) ∧ w = w') :=
    Lib.hid ((Tryd.strconv_Itoa_small 9 (by omega) w).mono fun e w' h => ⟨h.1.trans (by rw [show Lib.decDigits 9 = [57] by decide +kernel]), h.2.symm⟩)
  go_enter Tryd.func19, Tryd.ntmps19
  go_wp2_with (go_at_call 27; refine C.out.mono ?_; rintro e w' ⟨rfl, rfl⟩)
  go_ret
  exact ⟨rfl, Below.refl _ _⟩
set_option maxRecDepth 100000 in
set_option maxHeartbeats 4000000 in
theorem eclosed_10 (w : World) :
    Calls Tryd.prog 19 #[.int .u8 10] w fun e w' => e = .returned (.string ⟨#[38, 35, 49, 48, 59]⟩) ∧ Below w.heap.size w w' := by
  have C : Hid (Calls Tryd.prog 27 #[.int .i64 10] w fun e w' => e = .returned (.string ⟨#[49, 48]⟩) ∧ w = w') :=
    Lib.hid ((Tryd.strconv_Itoa_small 10 (by omega) w).mono fun e w' h => ⟨h.1.trans (by rw [show Lib.decDigits 10 = [49, 48] by decide +kernel]), h.2.symm⟩)
  go_enter Tryd.func19, Tryd.ntmps19
  go_wp2_with (go_at_call 27; refine C.out.mono ?_; rintro e w' ⟨rfl, rfl⟩)
  go_ret
  exact ⟨rfl, Below.refl _ _⟩
set_option maxRecDepth 100000 in
set_option maxHeartbeats 4000000 in
theorem eclosed_13 (w : World) :
    Calls Tryd.prog 19 #[.int .u8 13] w fun e w' => e = .returned (.string ⟨#[38, 35, 49, 51, 59]⟩) ∧ Below w.heap.size w w' := by
  have C : Hid (Calls Tryd.prog 27 #[.int .i64 13] w fun e w' => e = .returned (.string ⟨#[49, 51]⟩) ∧ w = w') :=
    Lib.hid ((Tryd.strconv_Itoa_small 13 (by omega) w).mono fun e w' h => ⟨h.1.trans (by rw [show Lib.decDigits 13 = [49, 51] by decide +kernel]), h.2.symm⟩)
  go_enter Tryd.func19, Tryd.ntmps19
  go_wp2_with (go_at_call 27; refine C.out.mono ?_; rintro e w' ⟨rfl, rfl⟩)
  go_ret
  exact ⟨rfl, Below.refl _ _⟩
set_option maxRecDepth 100000 in
set_option maxHeartbeats 4000000 in
theorem eclosed_38 (w : World) (HE : Hid (EntV w)) :
    Calls Tryd.prog 19 #[.int .u8 38] w fun e w' => e = .returned (.string ⟨#[38, 97, 109, 112, 59]⟩) ∧ Below w.heap.size w w' := by
  obtain ⟨tt, fr, hg⟩ := HE.out.names
  have i0 : ∀ w, (Instr.index 51 (.agg nameCells) (.int .i64 0)).run Tryd.prog w = .ok (.agg #[.string ⟨#[97, 109, 112]⟩, .int .u8 38, .bool true]) w := fun _ => by kernel_rfl
  go_enter Tryd.func19, Tryd.ntmps19
  go_wp2_with (refine wpList_load_row rfl 51 _ rfl 0 rfl tt _ fr _ hg Tryd.underlying51 rfl (by kernel_rfl) ?_)
  clear hg
  go_loopg [16] 0 (fun g i wr => ∃ k : Nat, g + k = 0 ∧ i = .int .i64 k ∧ Below w.heap.size w wr)
  case atStart => exact ⟨0, rfl, rfl, Below.refl _ _⟩
  case round =>
    obtain ⟨k, hg, rfl, hb⟩ := hrel
    have hk : k = 0 := by omega
    obtain rfl := hk
    · clear hg
      go_wp2
      go_ret
      exact ⟨rfl, hb.alloc hb.size _⟩
set_option maxRecDepth 100000 in
set_option maxHeartbeats 4000000 in
theorem eclosed_60 (w : World) (HE : Hid (EntV w)) :
    Calls Tryd.prog 19 #[.int .u8 60] w fun e w' => e = .returned (.string ⟨#[38, 108, 116, 59]⟩) ∧ Below w.heap.size w w' := by
  obtain ⟨tt, fr, hg⟩ := HE.out.names
  have i0 : ∀ w, (Instr.index 51 (.agg nameCells) (.int .i64 0)).run Tryd.prog w = .ok (.agg #[.string ⟨#[97, 109, 112]⟩, .int .u8 38, .bool true]) w := fun _ => by kernel_rfl
  have i1 : ∀ w, (Instr.index 51 (.agg nameCells) (.int .i64 1)).run Tryd.prog w = .ok (.agg #[.string ⟨#[108, 116]⟩, .int .u8 60, .bool true]) w := fun _ => by kernel_rfl
  go_enter Tryd.func19, Tryd.ntmps19
  go_wp2_with (refine wpList_load_row rfl 51 _ rfl 0 rfl tt _ fr _ hg Tryd.underlying51 rfl (by kernel_rfl) ?_)
  clear hg
  go_loopg [16] 1 (fun g i wr => ∃ k : Nat, g + k = 1 ∧ i = .int .i64 k ∧ Below w.heap.size w wr)
  case atStart => exact ⟨0, rfl, rfl, Below.refl _ _⟩
  case round =>
    obtain ⟨k, hg, rfl, hb⟩ := hrel
    have hk : k = 0 ∨ k = 1 := by omega
    rcases hk with rfl | rfl
    · go_wp2
      go_roundg 0
      case measure => omega
      case rel => exact ⟨1, by omega, by go_num, hb.alloc hb.size _⟩
    · clear hg
      go_wp2
      go_ret
      exact ⟨rfl, hb.alloc hb.size _⟩
set_option maxRecDepth 100000 in
set_option maxHeartbeats 4000000 in
theorem eclosed_62 (w : World) (HE : Hid (EntV w)) :
    Calls Tryd.prog 19 #[.int .u8 62] w fun e w' => e = .returned (.string ⟨#[38, 103, 116, 59]⟩) ∧ Below w.heap.size w w' := by
  obtain ⟨tt, fr, hg⟩ := HE.out.names
  have i0 : ∀ w, (Instr.index 51 (.agg nameCells) (.int .i64 0)).run Tryd.prog w = .ok (.agg #[.string ⟨#[97, 109, 112]⟩, .int .u8 38, .bool true]) w := fun _ => by kernel_rfl
  have i1 : ∀ w, (Instr.index 51 (.agg nameCells) (.int .i64 1)).run Tryd.prog w = .ok (.agg #[.string ⟨#[108, 116]⟩, .int .u8 60, .bool true]) w := fun _ => by kernel_rfl
  have i2 : ∀ w, (Instr.index 51 (.agg nameCells) (.int .i64 2)).run Tryd.prog w = .ok (.agg #[.string ⟨#[103, 116]⟩, .int .u8 62, .bool true]) w := fun _ => by kernel_rfl
  go_enter Tryd.func19, Tryd.ntmps19
  go_wp2_with (refine wpList_load_row rfl 51 _ rfl 0 rfl tt _ fr _ hg Tryd.underlying51 rfl (by kernel_rfl) ?_)
  clear hg
  go_loopg [16] 2 (fun g i wr => ∃ k : Nat, g + k = 2 ∧ i = .int .i64 k ∧ Below w.heap.size w wr)
  case atStart => exact ⟨0, rfl, rfl, Below.refl _ _⟩
  case round =>
    obtain ⟨k, hg, rfl, hb⟩ := hrel
    have hk : k = 0 ∨ k = 1 ∨ k = 2 := by omega
    rcases hk with rfl | rfl | rfl
    · go_wp2
      go_roundg 1
      case measure => omega
      case rel => exact ⟨1, by omega, by go_num, hb.alloc hb.size _⟩
    · go_wp2
      go_roundg 0
      case measure => omega
      case rel => exact ⟨2, by omega, by go_num, hb.alloc hb.size _⟩
    · clear hg
      go_wp2
      go_ret
      exact ⟨rfl, hb.alloc hb.size _⟩
set_option maxRecDepth 100000 in
set_option maxHeartbeats 4000000 in
theorem eclosed_34 (w : World) (HE : Hid (EntV w)) :
    Calls Tryd.prog 19 #[.int .u8 34] w fun e w' => e = .returned (.string ⟨#[38, 113, 117, 111, 116, 59]⟩) ∧ Below w.heap.size w w' := by
  obtain ⟨tt, fr, hg⟩ := HE.out.names
  have i0 : ∀ w, (Instr.index 51 (.agg nameCells) (.int .i64 0)).run Tryd.prog w = .ok (.agg #[.string ⟨#[97, 109, 112]⟩, .int .u8 38, .bool true]) w := fun _ => by kernel_rfl
  have i1 : ∀ w, (Instr.index 51 (.agg nameCells) (.int .i64 1)).run Tryd.prog w = .ok (.agg #[.string ⟨#[108, 116]⟩, .int .u8 60, .bool true]) w := fun _ => by kernel_rfl
  have i2 : ∀ w, (Instr.index 51 (.agg nameCells) (.int .i64 2)).run Tryd.prog w = .ok (.agg #[.string ⟨#[103, 116]⟩, .int .u8 62, .bool true]) w := fun _ => by kernel_rfl
  have i3 : ∀ w, (Instr.index 51 (.agg nameCells) (.int .i64 3)).run Tryd.prog w = .ok (.agg #[.string ⟨#[113, 117, 111, 116]⟩, .int .u8 34, .bool true]) w := fun _ => by kernel_rfl
  go_enter Tryd.func19, Tryd.ntmps19
  go_wp2_with (refine wpList_load_row rfl 51 _ rfl 0 rfl tt _ fr _ hg Tryd.underlying51 rfl (by kernel_rfl) ?_)
  clear hg
  go_loopg [16] 3 (fun g i wr => ∃ k : Nat, g + k = 3 ∧ i = .int .i64 k ∧ Below w.heap.size w wr)
  case atStart => exact ⟨0, rfl, rfl, Below.refl _ _⟩
  case round =>
    obtain ⟨k, hg, rfl, hb⟩ := hrel
    have hk : k = 0 ∨ k = 1 ∨ k = 2 ∨ k = 3 := by omega
    rcases hk with rfl | rfl | rfl | rfl
    · go_wp2
      go_roundg 2
      case measure => omega
      case rel => exact ⟨1, by omega, by go_num, hb.alloc hb.size _⟩
    · go_wp2
      go_roundg 1
      case measure => omega
      case rel => exact ⟨2, by omega, by go_num, hb.alloc hb.size _⟩
    · go_wp2
      go_roundg 0
      case measure => omega
      case rel => exact ⟨3, by omega, by go_num, hb.alloc hb.size _⟩
    · clear hg
      go_wp2
      go_ret
      exact ⟨rfl, hb.alloc hb.size _⟩
set_option maxRecDepth 100000 in
set_option maxHeartbeats 4000000 in
theorem eclosed_none (c : Int) (w : World) (HE : Hid (EntV w)) (h9 : (c == 9) = false) (h10 : (c == 10) = false) (h13 : (c == 13) = false) (h38 : ((38 : Int) == c) = false) (h60 : ((60 : Int) == c) = false) (h62 : ((62 : Int) == c) = false) (h34 : ((34 : Int) == c) = false) :
    Calls Tryd.prog 19 #[.int .u8 c] w fun e w' => e = .returned (.string ⟨#[]⟩) ∧ Below w.heap.size w w' := by
  obtain ⟨tt, fr, hg⟩ := HE.out.names
  have i0 : ∀ w, (Instr.index 51 (.agg nameCells) (.int .i64 0)).run Tryd.prog w = .ok (.agg #[.string ⟨#[97, 109, 112]⟩, .int .u8 38, .bool true]) w := fun _ => by kernel_rfl
  have i1 : ∀ w, (Instr.index 51 (.agg nameCells) (.int .i64 1)).run Tryd.prog w = .ok (.agg #[.string ⟨#[108, 116]⟩, .int .u8 60, .bool true]) w := fun _ => by kernel_rfl
  have i2 : ∀ w, (Instr.index 51 (.agg nameCells) (.int .i64 2)).run Tryd.prog w = .ok (.agg #[.string ⟨#[103, 116]⟩, .int .u8 62, .bool true]) w := fun _ => by kernel_rfl
  have i3 : ∀ w, (Instr.index 51 (.agg nameCells) (.int .i64 3)).run Tryd.prog w = .ok (.agg #[.string ⟨#[113, 117, 111, 116]⟩, .int .u8 34, .bool true]) w := fun _ => by kernel_rfl
  have i4 : ∀ w, (Instr.index 51 (.agg nameCells) (.int .i64 4)).run Tryd.prog w = .ok (.agg #[.string ⟨#[97, 112, 111, 115]⟩, .int .u8 39, .bool false]) w := fun _ => by kernel_rfl
  go_enter Tryd.func19, Tryd.ntmps19
  go_wp2_with (refine wpList_load_row rfl 51 _ rfl 0 rfl tt _ fr _ hg Tryd.underlying51 rfl (by kernel_rfl) ?_)
  clear hg
  go_loopg [16] 5 (fun g i wr => ∃ k : Nat, g + k = 5 ∧ i = .int .i64 k ∧ Below w.heap.size w wr)
  case atStart => exact ⟨0, rfl, rfl, Below.refl _ _⟩
  case round =>
    obtain ⟨k, hg, rfl, hb⟩ := hrel
    have hk : k = 0 ∨ k = 1 ∨ k = 2 ∨ k = 3 ∨ k = 4 ∨ k = 5 := by omega
    rcases hk with rfl | rfl | rfl | rfl | rfl | rfl
    · go_wp2
      go_roundg 4
      case measure => omega
      case rel => exact ⟨1, by omega, by go_num, hb.alloc hb.size _⟩
    · go_wp2
      go_roundg 3
      case measure => omega
      case rel => exact ⟨2, by omega, by go_num, hb.alloc hb.size _⟩
    · go_wp2
      go_roundg 2
      case measure => omega
      case rel => exact ⟨3, by omega, by go_num, hb.alloc hb.size _⟩
    · go_wp2
      go_roundg 1
      case measure => omega
      case rel => exact ⟨4, by omega, by go_num, hb.alloc hb.size _⟩
    · go_wp2
      go_roundg 0
      case measure => omega
      case rel => exact ⟨5, by omega, by go_num, hb.alloc hb.size _⟩
    · clear hg
      go_wp2
      go_ret
      exact ⟨rfl, hb⟩
/-- **entity.closed at every byte.** -/
theorem eclosed (c : UInt8) (w : World) (HE : Hid (EntV w)) : ∃ X : ByteArray,
    (Calls Tryd.prog 19 #[.int .u8 (c.toNat : Int)] w fun e w' => e = .returned (.string X) ∧ Below w.heap.size w w') ∧
    ((X.toList.isEmpty = false ∧ bl X = closeB c) ∨ (X = ⟨#[]⟩ ∧ closeB c = [c])) := by
  by_cases c38 : c.toNat = 38
  · obtain rfl : c = 38 := UInt8.toNat_inj.1 c38
    exact ⟨⟨#[38, 97, 109, 112, 59]⟩, eclosed_38 w HE, .inl ⟨by rw [Lib.toList_data]; rfl, rfl⟩⟩
  by_cases c60 : c.toNat = 60
  · obtain rfl : c = 60 := UInt8.toNat_inj.1 c60
    exact ⟨⟨#[38, 108, 116, 59]⟩, eclosed_60 w HE, .inl ⟨by rw [Lib.toList_data]; rfl, rfl⟩⟩
  by_cases c62 : c.toNat = 62
  · obtain rfl : c = 62 := UInt8.toNat_inj.1 c62
    exact ⟨⟨#[38, 103, 116, 59]⟩, eclosed_62 w HE, .inl ⟨by rw [Lib.toList_data]; rfl, rfl⟩⟩
  by_cases c34 : c.toNat = 34
  · obtain rfl : c = 34 := UInt8.toNat_inj.1 c34
    exact ⟨⟨#[38, 113, 117, 111, 116, 59]⟩, eclosed_34 w HE, .inl ⟨by rw [Lib.toList_data]; rfl, rfl⟩⟩
  by_cases c9 : c.toNat = 9
  · obtain rfl : c = 9 := UInt8.toNat_inj.1 c9
    exact ⟨⟨#[38, 35, 57, 59]⟩, eclosed_9 w, .inl ⟨by rw [Lib.toList_data]; rfl, rfl⟩⟩
  by_cases c10 : c.toNat = 10
  · obtain rfl : c = 10 := UInt8.toNat_inj.1 c10
    exact ⟨⟨#[38, 35, 49, 48, 59]⟩, eclosed_10 w, .inl ⟨by rw [Lib.toList_data]; rfl, rfl⟩⟩
  by_cases c13 : c.toNat = 13
  · obtain rfl : c = 13 := UInt8.toNat_inj.1 c13
    exact ⟨⟨#[38, 35, 49, 51, 59]⟩, eclosed_13 w, .inl ⟨by rw [Lib.toList_data]; rfl, rfl⟩⟩
  refine ⟨⟨#[]⟩, eclosed_none c.toNat w HE ?_ ?_ ?_ ?_ ?_ ?_ ?_, .inr ⟨rfl, closeB_plain c c38 c60 c62 c34 c9 c10 c13⟩⟩
  all_goals (simp; omega)

/-! ### entity.Close -/
theorem drop_get (s : ByteArray) (k : Nat) (h : k < s.size) : (bl s).drop k = s[k]'h :: (bl s).drop (k + 1) := by
  have hl : k < (bl s).length := by rw [bl_size]; exact h
  rw [List.drop_eq_getElem_cons hl]
  congr 1
theorem take_get (s : ByteArray) (k : Nat) (h : k < s.size) : (bl s).take (k + 1) = (bl s).take k ++ [s[k]'h] := by
  have hl : k < (bl s).length := by rw [bl_size]; exact h
  rw [List.take_succ_eq_append_getElem hl]
  congr 1
theorem take_all (s : ByteArray) : (bl s).take s.size = bl s := List.take_of_length_le (by rw [bl_size]; exact Nat.le_refl _)
set_option maxRecDepth 100000 in
set_option maxHeartbeats 4000000 in
theorem eclose0 (s : ByteArray) (w : World) (HE : Hid (EntV w)) (hs : s.size ≤ 4294967296) (A : ByteArray) (HA : Hid (A = str (closeL (bl s)))) :
    Calls Tryd.prog 7 #[.string s] w fun e w' => e = .returned (.string A) ∧ Below w.heap.size w w' := by
  go_enter Tryd.func7, Tryd.ntmps7
  go_wp2
  go_loopg [8] s.size (fun g i wr => ∃ k : Nat, g + k = s.size ∧ i = .int .i64 k ∧ Bl w.heap.size w.heap.size (closeL ((bl s).take k)) wr ∧ Below w.heap.size w wr)
  case atStart => exact ⟨0, rfl, rfl, bl_new w, (Below.refl _ _).alloc (Nat.le_refl _) _⟩
  case round =>
    obtain ⟨k, hg, rfl, hB, hb⟩ := hrel
    by_cases hin : k < s.size
    · have hin' : (k : Int) < (s.size : Int) := by omega
      have htk := take_get s k hin
      have hlen : (closeL ((bl s).take k)).length ≤ 6 * k := by
        have := closeL_len ((bl s).take k)
        rw [List.length_take] at this
        omega
      obtain ⟨c, hc⟩ : ∃ c, s[k]'hin = c := ⟨_, rfl⟩
      rw [hc] at htk
      obtain ⟨X, hX, hcase⟩ := eclosed c wr (Lib.hid (HE.out.below hb))
      have CX := Lib.hid hX
      have HB := Lib.hid hB
      clear hX hB
      rcases hcase with ⟨hne, hXc⟩ | ⟨rfl, hXc⟩
      · have HXc := Lib.hid hXc
        have Htk := Lib.hid htk
        have hXs : X.size ≤ 6 := by rw [← bl_size, hXc]; exact (closeB_len c).1
        clear hXc htk
        go_wp2_with (go_at_call 19; refine CX.out.mono ?_; rintro e w1 ⟨rfl, hb1⟩)
        have C2 := Lib.hid (lstring _ _ _ X w1 (HB.out.below hb1) (by omega))
        refine C2.out.mono ?_
        rintro e w2 ⟨rfl, h2, hb2⟩
        have hb3 : Below w.heap.size w w2 := (hb.trans (hb1.mono hb.size)).trans hb2
        have h2' : Bl w.heap.size w.heap.size (closeL ((bl s).take (k + 1))) w2 := by rw [Htk.out, closeL_append, closeL_one, ← HXc.out]; exact h2
        clear hb hb1 hb2 h2
        go_wp2
        go_roundg (s.size - (k + 1))
        case measure => omega
        case rel => exact ⟨k + 1, by omega, by go_num, h2', hb3⟩
      · have HXc := Lib.hid hXc
        have Htk := Lib.hid htk
        clear hXc htk
        go_wp2_with (go_at_call 19; refine CX.out.mono ?_; rintro e w1 ⟨rfl, hb1⟩)
        have C2 := Lib.hid (lbyte _ _ _ c w1 (HB.out.below hb1) (by omega))
        refine C2.out.mono ?_
        rintro e w2 ⟨rfl, h2, hb2⟩
        have hb3 : Below w.heap.size w w2 := (hb.trans (hb1.mono hb.size)).trans hb2
        have h2' : Bl w.heap.size w.heap.size (closeL ((bl s).take (k + 1))) w2 := by rw [Htk.out, closeL_append, closeL_one, HXc.out]; exact h2
        clear hb hb1 hb2 h2
        go_wp2
        go_roundg (s.size - (k + 1))
        case measure => omega
        case rel => exact ⟨k + 1, by omega, by go_num, h2', hb3⟩
    · obtain rfl : k = s.size := by omega
      have hA : A = str (closeL ((bl s).take s.size)) := by rw [take_all]; exact HA.out
      subst hA
      have C := Lib.hid (lout _ _ _ wr hB)
      clear hB HA
      go_wp2_with (go_at_call 18; refine C.out.mono ?_; rintro e w1 ⟨rfl, hb1⟩)
      go_ret
      exact ⟨rfl, hb.trans hb1⟩
/-- **entity.Close at strings that are not too long.** -/
theorem eclose (s : ByteArray) (w : World) (HE : Hid (EntV w)) (hs : s.size ≤ 4294967296) :
    Calls Tryd.prog 7 #[.string s] w fun e w' => e = .returned (.string (str (closeL (bl s)))) ∧ Below w.heap.size w w' :=
  eclose0 s w HE hs _ (Lib.hid rfl)

end Go.Proofs.YtkpdmbiommaleaaDoor
