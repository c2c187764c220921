/-
  The walk of entity.One.
-/
import Derived.Test.YtekmenkebokdoaaGreatDoorEntNum
import Derived.Deep.LoopGhost
import Derived.Laws.Rows
namespace Go.Proofs.YtekmenkebokdoaaGreatDoor
open Go.RowKit
set_option maxRecDepth 100000

theorem enum10 (s : ByteArray) (w : World) (HE : Hid (EntV w)) :
    Calls Tryz.prog 136 #[.string s, .int .i64 0] w fun e w' => e = .returned (.int .i64 (numL 10 (bl s))) ∧ Below w.heap.size w w' :=
  enum0 0 10 (.inl ⟨rfl, rfl⟩) s w HE _ (Lib.hid rfl)
theorem enum16 (s : ByteArray) (w : World) (HE : Hid (EntV w)) :
    Calls Tryz.prog 136 #[.string s, .int .i64 1] w fun e w' => e = .returned (.int .i64 (numL 16 (bl s))) ∧ Below w.heap.size w w' :=
  enum0 1 16 (.inr ⟨rfl, rfl⟩) s w HE _ (Lib.hid rfl)
theorem prefix_two (l : List UInt8) (h : Lib.hasPrefix l [35, 120] = true) : ∃ r, l = 35 :: 120 :: r := by
  match l, h with
  | [], h => simp [Lib.hasPrefix, List.isPrefixOf] at h
  | [c], h => simp [Lib.hasPrefix, List.isPrefixOf] at h
  | c :: d :: r, h =>
    simp [Lib.hasPrefix, List.isPrefixOf] at h
    exact ⟨r, by rw [← h.1, ← h.2]⟩
theorem prefix_hash (l : List UInt8) (h : Lib.hasPrefix l [35] = true) : ∃ r, l = 35 :: r := by
  match l, h with
  | [], h => simp [Lib.hasPrefix, List.isPrefixOf] at h
  | c :: r, h =>
    simp [Lib.hasPrefix, List.isPrefixOf] at h
    exact ⟨r, by rw [← h]⟩
theorem tl_eq (k : Nat) (s : ByteArray) (h : bl s = nm k) : s.toList = nm k := by rw [Lib.toList_data]; exact h

theorem tl_ne (k : Nat) (s : ByteArray) (h : ¬ bl s = nm k) : (nm k == s.toList) = false := by
  rw [Lib.toList_data]
  exact beq_eq_false_iff_ne.2 fun e => h e.symm

set_option maxRecDepth 100000 in
set_option maxHeartbeats 4000000 in
/-- **entity.One at every string.** -/
theorem eone0 (s : ByteArray) (w : World) (HE : Hid (EntV w)) (A : Int) (HA : Hid (A = oneL (bl s))) :
    Calls Tryz.prog 130 #[.string s] w fun e w' => e = .returned (.int .i64 A) ∧ Below w.heap.size w w' := by
  have c1 := Tryz.strings_CutPrefix s ⟨#[35, 120]⟩ w
  have c2 := Tryz.strings_CutPrefix s ⟨#[35]⟩ w
  change Calls _ _ _ _ (fun e w' => e = .returned (.tuple #[.string ⟨(Lib.trimPrefix (bl s) [35, 120]).toArray⟩, .bool (Lib.hasPrefix (bl s) [35, 120])]) ∧ w' = w) at c1
  change Calls _ _ _ _ (fun e w' => e = .returned (.tuple #[.string ⟨(Lib.trimPrefix (bl s) [35]).toArray⟩, .bool (Lib.hasPrefix (bl s) [35])]) ∧ w' = w) at c2
  cases h1 : Lib.hasPrefix (bl s) [35, 120] with
  | true =>
    obtain ⟨r, hr⟩ := prefix_two _ h1
    have ht : Lib.trimPrefix (bl s) [35, 120] = r := by unfold Lib.trimPrefix; rw [if_pos h1, hr]; rfl
    rw [h1, ht] at c1
    have hA : A = numL 16 r := by rw [HA.out, hr]; rfl
    subst hA
    have C1 := Lib.hid c1
    have C2 := enum16 ⟨r.toArray⟩ w HE
    rw [show bl (⟨r.toArray⟩ : ByteArray) = r by simp [bl]] at C2
    have C2 := Lib.hid C2
    clear c1 c2 h1 hr ht HA
    generalize numL 16 r = A at C2
    go_enter Tryz.func130, Tryz.ntmps130
    go_wp2_with (first | (go_at_call 90; refine C1.out.mono ?_; rintro e w' ⟨rfl, rfl⟩) | (go_at_call 136; refine C2.out.mono ?_; rintro e w' ⟨rfl, hb⟩))
    go_ret
    exact ⟨rfl, hb⟩
  | false =>
    have ht : Lib.trimPrefix (bl s) [35, 120] = bl s := by unfold Lib.trimPrefix; rw [h1]; rfl
    rw [h1, ht] at c1
    cases h2 : Lib.hasPrefix (bl s) [35] with
    | true =>
      obtain ⟨r, hr⟩ := prefix_hash _ h2
      have ht2 : Lib.trimPrefix (bl s) [35] = r := by unfold Lib.trimPrefix; rw [if_pos h2, hr]; rfl
      rw [h2, ht2] at c2
      have hA : A = numL 10 r := by rw [HA.out, hr]; exact one_ten r (by rw [hr] at h1; exact h1)
      subst hA
      have C1 := Lib.hid c1
      have C2 := Lib.hid c2
      have C3 := enum10 ⟨r.toArray⟩ w HE
      rw [show bl (⟨r.toArray⟩ : ByteArray) = r by simp [bl]] at C3
      have C3 := Lib.hid C3
      clear c1 c2 h1 h2 hr ht ht2 HA
      generalize numL 10 r = A at C3
      go_enter Tryz.func130, Tryz.ntmps130
      go_wp2_with fail
      refine C1.out.mono ?_
      rintro e w' ⟨rfl, hw⟩
      obtain rfl := hw.symm
      clear hw
      go_wp2_with fail
      refine C2.out.mono ?_
      rintro e w' ⟨rfl, hw⟩
      obtain rfl := hw.symm
      clear hw
      go_wp2_with fail
      refine C3.out.mono ?_
      rintro e w1 ⟨rfl, hb⟩
      go_wp2_with fail
      go_ret
      exact ⟨rfl, hb⟩
    | false =>
      have ht2 : Lib.trimPrefix (bl s) [35] = bl s := by unfold Lib.trimPrefix; rw [h2]; rfl
      rw [h2, ht2] at c2
      have hA := HA.out
      rw [one_name (bl s) h2] at hA
      have HA := Lib.hid hA
      have C1 := Lib.hid c1
      have C2 := Lib.hid c2
      obtain ⟨tt, fr, hg⟩ := HE.out.names
      clear c1 c2 h1 h2 ht ht2 hA
      have i0 : ∀ w, (Instr.index 153 (.agg nameCells) (.int .i64 0)).run Tryz.prog w = .ok (.agg #[.string ⟨#[97, 109, 112]⟩, .int .u8 38, .bool true]) w := fun _ => by kernel_rfl
      have i1 : ∀ w, (Instr.index 153 (.agg nameCells) (.int .i64 1)).run Tryz.prog w = .ok (.agg #[.string ⟨#[108, 116]⟩, .int .u8 60, .bool true]) w := fun _ => by kernel_rfl
      have i2 : ∀ w, (Instr.index 153 (.agg nameCells) (.int .i64 2)).run Tryz.prog w = .ok (.agg #[.string ⟨#[103, 116]⟩, .int .u8 62, .bool true]) w := fun _ => by kernel_rfl
      have i3 : ∀ w, (Instr.index 153 (.agg nameCells) (.int .i64 3)).run Tryz.prog w = .ok (.agg #[.string ⟨#[113, 117, 111, 116]⟩, .int .u8 34, .bool true]) w := fun _ => by kernel_rfl
      have i4 : ∀ w, (Instr.index 153 (.agg nameCells) (.int .i64 4)).run Tryz.prog w = .ok (.agg #[.string ⟨#[97, 112, 111, 115]⟩, .int .u8 39, .bool false]) w := fun _ => by kernel_rfl
      go_enter Tryz.func130, Tryz.ntmps130
      go_wp2_with fail
      refine C1.out.mono ?_
      rintro e w' ⟨rfl, hw⟩
      obtain rfl := hw.symm
      clear hw
      go_wp2_with fail
      refine C2.out.mono ?_
      rintro e w' ⟨rfl, hw⟩
      obtain rfl := hw.symm
      clear hw
      go_wp2_with (refine wpList_load_row rfl 153 _ rfl 3 rfl tt _ fr _ hg Tryz.underlying153 rfl (by kernel_rfl) ?_)
      clear hg
      go_loopg [26] 5 (fun g i wr => ∃ k : Nat, g + k = 5 ∧ i = .int .i64 k ∧ Below w.heap.size w wr ∧ Hid (Misses (bl s) k))
      case atStart => exact ⟨0, rfl, rfl, Below.refl _ _, Lib.hid (Misses.start _)⟩
      case round =>
        obtain ⟨k, hg, rfl, hb, HK⟩ := hrel
        have hk : k = 0 ∨ k = 1 ∨ k = 2 ∨ k = 3 ∨ k = 4 ∨ k = 5 := by omega
        rcases hk with rfl | rfl | rfl | rfl | rfl | rfl
        · by_cases hn : bl s = nm 0
          · have hA := HA.out
            rw [hn, nameV_hit 0 (by omega)] at hA
            replace hA : A = 38 := hA
            subst hA
            have e1 : s.toList = [97, 109, 112] := tl_eq 0 s hn
            clear hn HA hg
            go_wp2
            go_ret
            exact ⟨rfl, hb.alloc hb.size _⟩
          · have HN := Lib.hid (HK.out.step hn)
            have e1 : ([97, 109, 112] == s.toList) = false := tl_ne 0 s hn
            clear hn
            go_wp2
            go_roundg 4
            case measure => omega
            case rel => exact ⟨1, by omega, by go_num, hb.alloc hb.size _, HN⟩
        · by_cases hn : bl s = nm 1
          · have hA := HA.out
            rw [hn, nameV_hit 1 (by omega)] at hA
            replace hA : A = 60 := hA
            subst hA
            have e1 : s.toList = [108, 116] := tl_eq 1 s hn
            clear hn HA hg
            go_wp2
            go_ret
            exact ⟨rfl, hb.alloc hb.size _⟩
          · have HN := Lib.hid (HK.out.step hn)
            have e1 : ([108, 116] == s.toList) = false := tl_ne 1 s hn
            clear hn
            go_wp2
            go_roundg 3
            case measure => omega
            case rel => exact ⟨2, by omega, by go_num, hb.alloc hb.size _, HN⟩
        · by_cases hn : bl s = nm 2
          · have hA := HA.out
            rw [hn, nameV_hit 2 (by omega)] at hA
            replace hA : A = 62 := hA
            subst hA
            have e1 : s.toList = [103, 116] := tl_eq 2 s hn
            clear hn HA hg
            go_wp2
            go_ret
            exact ⟨rfl, hb.alloc hb.size _⟩
          · have HN := Lib.hid (HK.out.step hn)
            have e1 : ([103, 116] == s.toList) = false := tl_ne 2 s hn
            clear hn
            go_wp2
            go_roundg 2
            case measure => omega
            case rel => exact ⟨3, by omega, by go_num, hb.alloc hb.size _, HN⟩
        · by_cases hn : bl s = nm 3
          · have hA := HA.out
            rw [hn, nameV_hit 3 (by omega)] at hA
            replace hA : A = 34 := hA
            subst hA
            have e1 : s.toList = [113, 117, 111, 116] := tl_eq 3 s hn
            clear hn HA hg
            go_wp2
            go_ret
            exact ⟨rfl, hb.alloc hb.size _⟩
          · have HN := Lib.hid (HK.out.step hn)
            have e1 : ([113, 117, 111, 116] == s.toList) = false := tl_ne 3 s hn
            clear hn
            go_wp2
            go_roundg 1
            case measure => omega
            case rel => exact ⟨4, by omega, by go_num, hb.alloc hb.size _, HN⟩
        · by_cases hn : bl s = nm 4
          · have hA := HA.out
            rw [hn, nameV_hit 4 (by omega)] at hA
            replace hA : A = 39 := hA
            subst hA
            have e1 : s.toList = [97, 112, 111, 115] := tl_eq 4 s hn
            clear hn HA hg
            go_wp2
            go_ret
            exact ⟨rfl, hb.alloc hb.size _⟩
          · have HN := Lib.hid (HK.out.step hn)
            have e1 : ([97, 112, 111, 115] == s.toList) = false := tl_ne 4 s hn
            clear hn
            go_wp2
            go_roundg 0
            case measure => omega
            case rel => exact ⟨5, by omega, by go_num, hb.alloc hb.size _, HN⟩
        · have hA : A = 0 := HA.out.trans HK.out.none
          subst hA
          clear HA hg
          go_wp2
          go_ret
          exact ⟨rfl, hb⟩
/-- **entity.One.** -/
theorem eone (s : ByteArray) (w : World) (HE : Hid (EntV w)) :
    Calls Tryz.prog 130 #[.string s] w fun e w' => e = .returned (.int .i64 (oneL (bl s))) ∧ Below w.heap.size w w' :=
  eone0 s w HE _ (Lib.hid rfl)

end Go.Proofs.YtekmenkebokdoaaGreatDoor
