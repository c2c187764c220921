/-
  The walks of layer 2: chars.Start, Part, Blank, Letter, Text, Name, Trim, Empty, Split.
-/
import Derived.Test.YtjmpgefjoopigaaDoorUtfRun
import Derived.Test.YtjmpgefjoopigaaDoorCharsMath
import Derived.Shelf.Strings.SlTrimAscii
import Derived.OwnWalk
namespace Go.Proofs.YtjmpgefjoopigaaDoor
open Go.RowKit
set_option maxRecDepth 100000

/-! ### one byte -/
set_option maxHeartbeats 1000000 in
theorem cstart_yes (c : Int) (w : World) (h : (97 ≤ c ∧ c ≤ 122) ∨ (65 ≤ c ∧ c ≤ 90) ∨ c = 95 ∨ (128 ≤ c ∧ c < 256)) :
    Calls Tryd.prog 29 #[.int .u8 c] w fun e w' => e = .returned (.bool true) ∧ w = w' := by
  rcases h with ⟨h1, h2⟩ | ⟨h1, h2⟩ | rfl | ⟨h1, h2⟩
  · go_enter Tryd.func29, Tryd.ntmps29
    go_wp2
    go_ret
    exact ⟨rfl, rfl⟩
  · have h3 : ¬ 97 ≤ c := by omega
    go_enter Tryd.func29, Tryd.ntmps29
    go_wp2
    go_ret
    exact ⟨rfl, rfl⟩
  · go_enter Tryd.func29, Tryd.ntmps29
    go_wp2
    go_ret
    exact ⟨rfl, rfl⟩
  · have h3 : ¬ c ≤ 122 := by omega
    have h4 : ¬ c ≤ 90 := by omega
    have h5 : (c == 95) = false := by simp; omega
    go_enter Tryd.func29, Tryd.ntmps29
    go_wp2
    go_ret
    exact ⟨rfl, rfl⟩
set_option maxHeartbeats 1000000 in
theorem cstart_no (c : Int) (w : World) (h0 : 0 ≤ c) (h : c < 65 ∨ (91 ≤ c ∧ c ≤ 94) ∨ c = 96 ∨ (123 ≤ c ∧ c ≤ 127)) :
    Calls Tryd.prog 29 #[.int .u8 c] w fun e w' => e = .returned (.bool false) ∧ w = w' := by
  have h5 : (c == 95) = false := by simp; omega
  have d1 : decide (128 ≤ c) = false := decide_eq_false (by omega)
  rcases h with h1 | ⟨h1, h2⟩ | rfl | ⟨h1, h2⟩
  · go_enter Tryd.func29, Tryd.ntmps29
    go_wp2
    go_ret
    exact ⟨rfl, rfl⟩
  · have d2 : decide (c ≤ 90) = false := decide_eq_false (by omega)
    go_enter Tryd.func29, Tryd.ntmps29
    go_wp2
    go_ret
    exact ⟨rfl, rfl⟩
  · go_enter Tryd.func29, Tryd.ntmps29
    go_wp2
    go_ret
    exact ⟨rfl, rfl⟩
  · have d2 : decide (c ≤ 90) = false := decide_eq_false (by omega)
    have d3 : decide (c ≤ 122) = false := decide_eq_false (by omega)
    go_enter Tryd.func29, Tryd.ntmps29
    go_wp2
    go_ret
    exact ⟨rfl, rfl⟩
/-- **chars.Start at every byte.** -/
theorem cstart (c : Int) (w : World) (h0 : 0 ≤ c) (h1 : c < 256) :
    Calls Tryd.prog 29 #[.int .u8 c] w fun e w' => e = .returned (.bool (startB c)) ∧ w = w' := by
  cases h : startB c with
  | true => unfold startB at h; have := of_decide_eq_true h; exact cstart_yes c w (by omega)
  | false => unfold startB at h; have := of_decide_eq_false h; exact cstart_no c w h0 (by omega)
set_option maxHeartbeats 1000000 in
/-- **chars.Part at every byte.** -/
theorem cpart (c : Int) (w : World) (h0 : 0 ≤ c) (h1 : c < 256) :
    Calls Tryd.prog 30 #[.int .u8 c] w fun e w' => e = .returned (.bool (partB c)) ∧ w = w' := by
  by_cases hs : startB c = true
  · have C := Lib.hid (fun w => cstart c w h0 h1)
    rw [start_part hs]
    rw [hs] at C
    clear hs
    go_enter Tryd.func30, Tryd.ntmps30
    go_wp2_with (go_at_call 29; refine (C.out _).mono ?_; rintro e w' ⟨rfl, rfl⟩)
    go_ret
    exact ⟨rfl, rfl⟩
  · have hs' : startB c = false := by simpa using hs
    have C := Lib.hid (fun w => cstart c w h0 h1)
    rw [hs'] at C
    have hr : ¬ ((97 ≤ c ∧ c ≤ 122) ∨ (65 ≤ c ∧ c ≤ 90) ∨ c = 95 ∨ 128 ≤ c) := by unfold startB at hs'; exact of_decide_eq_false hs'
    clear hs hs'
    have hc : c < 45 ∨ c = 45 ∨ c = 46 ∨ c = 47 ∨ (48 ≤ c ∧ c ≤ 57) ∨ 58 ≤ c := by omega
    rcases hc with h | rfl | rfl | rfl | ⟨h, h'⟩ | h
    · rw [show partB c = false by unfold partB; apply decide_eq_false; omega]
      have h5 : (c == 45) = false := by simp; omega
      have h6 : (c == 46) = false := by simp; omega
      clear hr
      go_enter Tryd.func30, Tryd.ntmps30
      go_wp2_with (go_at_call 29; refine (C.out _).mono ?_; rintro e w' ⟨rfl, rfl⟩)
      go_ret
      exact ⟨rfl, rfl⟩
    · clear hr
      go_enter Tryd.func30, Tryd.ntmps30
      go_wp2_with (go_at_call 29; refine (C.out _).mono ?_; rintro e w' ⟨rfl, rfl⟩)
      go_ret
      exact ⟨rfl, rfl⟩
    · clear hr
      go_enter Tryd.func30, Tryd.ntmps30
      go_wp2_with (go_at_call 29; refine (C.out _).mono ?_; rintro e w' ⟨rfl, rfl⟩)
      go_ret
      exact ⟨rfl, rfl⟩
    · clear hr
      go_enter Tryd.func30, Tryd.ntmps30
      go_wp2_with (go_at_call 29; refine (C.out _).mono ?_; rintro e w' ⟨rfl, rfl⟩)
      go_ret
      exact ⟨rfl, rfl⟩
    · rw [show partB c = true by unfold partB; apply decide_eq_true; omega]
      clear hr
      go_enter Tryd.func30, Tryd.ntmps30
      go_wp2_with (go_at_call 29; refine (C.out _).mono ?_; rintro e w' ⟨rfl, rfl⟩)
      go_ret
      exact ⟨rfl, rfl⟩
    · rw [show partB c = false by unfold partB; apply decide_eq_false; omega]
      have h5 : (c == 45) = false := by simp; omega
      have h6 : (c == 46) = false := by simp; omega
      have d1 : decide (c ≤ 57) = false := decide_eq_false (by omega)
      clear hr
      go_enter Tryd.func30, Tryd.ntmps30
      go_wp2_with (go_at_call 29; refine (C.out _).mono ?_; rintro e w' ⟨rfl, rfl⟩)
      go_ret
      exact ⟨rfl, rfl⟩
/-! ### letters -/
/-! ### names -/
/-- The library's own variable holds some number. -/
def MaxL (w : World) : Prop := ∃ m : Int, w.cell? ⟨0, 0, none⟩ = some (.int .i64 m)
theorem MaxL.below {w w' : World} (h : MaxL w) (hb : Below w.heap.size w w') : MaxL w' := by
  obtain ⟨m, hm⟩ := h
  exact ⟨m, (hb.cell (World.block_lt_of_cell? _ _ hm)).trans hm⟩
theorem below_drewN (w : World) (n : Nat) : Below w.heap.size w (w.drewN n) := ⟨(Below.refl w.heap.size w).os, (Below.refl w.heap.size w).tape, (Below.refl w.heap.size w).output, (Below.refl w.heap.size w).size, (Below.refl w.heap.size w).block⟩
theorem bl_empty (s : ByteArray) (h : s.size = 0) : s.toList.isEmpty = true := by
  rw [Lib.toList_data, show s.data.toList = [] from List.eq_nil_of_length_eq_zero (by rw [← Lib.size_eq]; exact h)]; rfl
theorem bl_more (s : ByteArray) (h : s.size ≠ 0) : s.toList.isEmpty = false := by
  rw [Lib.toList_data]
  cases e : s.data.toList with
  | nil => exact absurd (by rw [Lib.size_eq, e]; rfl) h
  | cons _ _ => rfl
set_option maxRecDepth 100000 in
set_option maxHeartbeats 2000000 in
theorem cname0 (s : ByteArray) (w : World) (A : Bool) (hs : s.size ≤ 9223372036854775807) (hT : Tabs w) (HR : Hid (A = nameL (bl s))) :
    Calls Tryd.prog 25 #[.string s] w fun e w' => e = .returned (.bool A) ∧ Below w.heap.size w w' := by
  have HBS := Lib.hid (bl_size s)
  have HT := Lib.hid hT; clear hT
  by_cases h0 : s.size = 0
  · have hA : A = false := HR.out.trans (name_none _ (.inl (by rw [HBS.out]; exact h0)))
    subst hA
    have hemp := bl_empty s h0
    clear h0 HR HBS
    go_enter Tryd.func25, Tryd.ntmps25
    go_wp2
    go_ret
    exact ⟨rfl, Below.refl _ _⟩
  have hemp := bl_more s h0
  by_cases h60 : 60 < s.size
  · have hA : A = false := HR.out.trans (name_none _ (.inr (.inl (by rw [HBS.out]; exact h60))))
    subst hA
    have h60' : (60 : Int) < (s.size : Int) := by omega
    clear h60 h0 HR HBS
    go_enter Tryd.func25, Tryd.ntmps25
    go_wp2
    go_ret
    exact ⟨rfl, Below.refl _ _⟩
  have h60' : decide ((60 : Int) < (s.size : Int)) = false := decide_eq_false (by omega)
  have h61 : (s.size : Int) ≤ 60 := by omega
  have h01 : (0 : Int) < (s.size : Int) := by omega
  have Hn0 := Lib.hid h0
  have H60 := Lib.hid h60
  have h02 : 0 < s.size := by omega
  clear h0 h60
  obtain ⟨x0, hx0⟩ : ∃ x, s[0]'h02 = x := ⟨_, rfl⟩
  have hn0 : nth (bl s) 0 = x0.toNat := by rw [nth_get s 0 h02, hx0]
  have l0 : (x0.toNat : Int) < 256 := by have := UInt8.toNat_lt x0; omega
  have CS := Lib.hid (fun w => cstart (x0.toNat : Int) w (by omega) l0)
  cases hst : startB (x0.toNat : Int) with
  | false =>
    have hA : A = false := HR.out.trans (name_none _ (.inr (.inr (.inl (by rw [hn0]; exact hst)))))
    subst hA
    rw [hst] at CS
    clear HR hst hn0
    go_enter Tryd.func25, Tryd.ntmps25
    go_wp2_with (go_at_call 29; refine (CS.out _).mono ?_; rintro e w' ⟨rfl, rfl⟩)
    go_ret
    exact ⟨rfl, Below.refl _ _⟩
  | true =>
    have HS : Hid (startB (nth (bl s) 0) = true) := Lib.hid (by rw [hn0]; exact hst)
    rw [hst] at CS
    clear hst hn0
    go_enter Tryd.func25, Tryd.ntmps25
    go_wp2_with (go_at_call 29; refine (CS.out _).mono ?_; rintro e w' ⟨rfl, rfl⟩)
    go_loop [19] (fun i => ∃ k : Nat, k ≤ s.size ∧ i = .int .i64 k ∧ Hid (Parts (bl s) k)) (fun i => s.size - (intOf i).toNat)
    case atStart => exact ⟨0, by omega, rfl, Lib.hid (Parts.start _)⟩
    case round =>
      obtain ⟨k, hk, rfl, HK⟩ := hrel
      by_cases hin : k < s.size
      · have hin' : (k : Int) < (s.size : Int) := by omega
        obtain ⟨x, hx⟩ : ∃ x, s[k]'hin = x := ⟨_, rfl⟩
        have hn : nth (bl s) k = x.toNat := by rw [nth_get s k hin, hx]
        have l1 : (x.toNat : Int) < 256 := by have := UInt8.toNat_lt x; omega
        have CP := Lib.hid (fun w => cpart (x.toNat : Int) w (by omega) l1)
        cases hp : partB (x.toNat : Int) with
        | false =>
          have hA : A = false := HR.out.trans (name_bad _ k (by rw [HBS.out]; exact hin) (by rw [hn]; exact hp))
          subst hA
          rw [hp] at CP
          clear HR hp hn
          go_wp2_with (go_at_call 30; refine (CP.out _).mono ?_; rintro e w' ⟨rfl, rfl⟩)
          go_ret
          exact ⟨rfl, Below.refl _ _⟩
        | true =>
          have HN := Lib.hid (HK.out.step (by rw [hn]; exact hp))
          rw [hp] at CP
          clear hp hn
          go_wp2_with (go_at_call 30; refine (CP.out _).mono ?_; rintro e w' ⟨rfl, rfl⟩)
          go_round
          case rel => exact ⟨k + 1, by omega, by go_num, HN⟩
          case measure => simp [intOf]; omega
      · obtain rfl : k = s.size := by omega
        have hA : A = decide (badL (bl s) < 0) := HR.out.trans (name_yes _ (by rw [HBS.out]; exact Hn0.out) (by rw [HBS.out]; have := H60.out; omega) HS.out (by rw [HBS.out]; exact HK.out))
        have c := ubad s w hs HT.out
        generalize badL (bl s) = B at hA c
        subst hA
        have C := Lib.hid c
        clear c HR hk hin
        go_wp2_with (go_at_call 31; refine C.out.mono ?_; rintro e w' ⟨rfl, hb⟩)
        go_ret
        exact ⟨rfl, hb⟩
/-- **chars.Name at every string.** -/
theorem cname (s : ByteArray) (w : World) (hs : s.size ≤ 9223372036854775807) (hT : Tabs w) :
    Calls Tryd.prog 25 #[.string s] w fun e w' => e = .returned (.bool (nameL (bl s))) ∧ Below w.heap.size w w' :=
  cname0 s w _ hs hT (Lib.hid rfl)

/-! ### blanks at the ends -/
def trimmed (s : ByteArray) : ByteArray := ⟨(trimL (bl s)).toArray⟩
theorem trimmed_bl (s : ByteArray) : bl (trimmed s) = trimL (bl s) := by simp [bl, trimmed]
theorem trimmed_size (s : ByteArray) : (trimmed s).size ≤ s.size := by
  rw [← bl_size, trimmed_bl, ← bl_size s]; exact trimL_len _
/-! ### a colon -/
def str (l : List UInt8) : ByteArray := ⟨l.toArray⟩
theorem str_bl (l : List UInt8) : bl (str l) = l := by simp [bl, str]
theorem bl_str (s : ByteArray) : str (bl s) = s := Lib.mk_data s
theorem str_size (l : List UInt8) : (str l).size = l.length := by rw [← bl_size, str_bl]
theorem cut_len (l m : List UInt8) : (Lib.cut l m).1.length ≤ l.length ∧ (Lib.cut l m).2.1.length ≤ l.length := by
  unfold Lib.cut
  split
  · simp only [List.length_take, List.length_drop]; omega
  · simp
set_option maxHeartbeats 2000000 in
/-- **chars.Split at strings that are not too long.** -/
theorem csplit (s : ByteArray) (w : World) (hs : s.size < 4294967281) (hT : Tabs w) (hM : MaxL w) :
    Calls Tryd.prog 19 #[.string s] w fun e w' => e = .returned (.tuple #[.string (str (splitL (bl s)).1), .string (str (splitL (bl s)).2.1), .bool (splitL (bl s)).2.2]) ∧ Below w.heap.size w w' := by
  have HT := Lib.hid hT; clear hT
  obtain ⟨m, hm⟩ := hM
  have hcut := Tryd.strings_Cut s ⟨#[58]⟩ m w hs hm
  have hl := cut_len (bl s) [58]
  rw [bl_size] at hl
  unfold splitL
  change Calls _ _ _ _ (fun e w' => e = .returned (.tuple #[.string (str (Lib.cut (bl s) [58]).1), .string (str (Lib.cut (bl s) [58]).2.1), .bool (Lib.cut (bl s) [58]).2.2]) ∧ ∃ n, w' = w.drewN n) at hcut
  generalize Lib.cut (bl s) [58] = C at hcut hl ⊢
  obtain ⟨p, r, b⟩ := C
  simp only at hl hcut ⊢
  have hpm : (str p).size ≤ 9223372036854775807 := by rw [str_size]; omega
  have hrm : (str r).size ≤ 9223372036854775807 := by rw [str_size]; omega
  have HC := Lib.hid hcut
  have CP := Lib.hid (fun w (h : Tabs w) => cname (str p) w hpm h)
  have CR := Lib.hid (fun w (h : Tabs w) => cname (str r) w hrm h)
  have CS := Lib.hid (fun w (h : Tabs w) => cname s w (by omega) h)
  have Hbl := Lib.hid (bl_str s)
  rw [str_bl] at CP CR
  clear hcut hl hm hpm hrm
  cases b with
  | false =>
    rw [if_neg (by decide)]
    simp only
    rw [bl_str]
    generalize nameL (bl s) = B at CS
    go_enter Tryd.func19, Tryd.ntmps19
    go_wp2_with (first | (go_at_call 24; refine HC.out.mono ?_; rintro e w' ⟨rfl, n, rfl⟩) | (go_at_call 25; refine (CS.out _ (HT.out.below (below_drewN w n))).mono ?_; rintro e w' ⟨rfl, hb⟩))
    go_ret3
    exact ⟨rfl, (below_drewN w n).trans hb⟩
  | true =>
    rw [if_pos rfl]
    cases hp : nameL p with
    | false =>
      rw [hp] at CP
      clear hp
      go_enter Tryd.func19, Tryd.ntmps19
      go_wp2_with (first | (go_at_call 24; refine HC.out.mono ?_; rintro e w' ⟨rfl, n, rfl⟩) | (go_at_call 25; refine (CP.out _ (HT.out.below (below_drewN w n))).mono ?_; rintro e w' ⟨rfl, hb⟩))
      go_ret3
      exact ⟨rfl, (below_drewN w n).trans hb⟩
    | true =>
      rw [hp] at CP
      clear hp
      generalize nameL r = B at CR
      go_enter Tryd.func19, Tryd.ntmps19
      go_wp2_with (go_at_call 24; refine HC.out.mono ?_; rintro e w' ⟨rfl, n, rfl⟩)
      refine (CP.out _ (HT.out.below (below_drewN w n))).mono ?_
      rintro e w1 ⟨rfl, hb⟩
      have hb' : Below w.heap.size w w1 := (below_drewN w n).trans hb
      clear hb
      go_wp2_with fail
      refine (CR.out _ (HT.out.below hb')).mono ?_
      rintro e w2 ⟨rfl, hb2⟩
      have hb2' := hb'.trans (hb2.mono hb'.size)
      clear hb' hb2
      go_wp2_with fail
      go_ret3
      exact ⟨rfl, hb2'⟩

end Go.Proofs.YtjmpgefjoopigaaDoor
