/-
  The walks of layer 4's laws galliardlaw04.awake and ScanAny.
-/
import Derived.Test.YtkpkekmofidajaaGreatDoorScanNew
import Derived.Test.YtkpkekmofidajaaGreatDoorScanMathA
namespace Go.Proofs.YtkpkekmofidajaaGreatDoor
open Go.RowKit
set_option maxRecDepth 100000

theorem Only.belowOf {b B : Nat} {w0 w w' : World} (h : Only b w w') (hB : B ≤ b) (hb : Below B w0 w) (h0 : w0.heap.size = B) : Below B w0 w' := hb.trans (h.below hB (by rw [← h0]; exact hb.size))
set_option maxHeartbeats 4000000 in
theorem awake04 (w : World) (hE : EntV w) (hT : Tabs w) :
    Calls Tryz.prog 11 #[] w fun e w' => e = .returned (.bool true) ∧ Below w.heap.size w w' := by
  have C1 := Lib.hid (snew ⟨#[60, 97, 32, 98, 61, 39, 99, 39, 47, 62]⟩ w hE hT (by decide))
  clear hE hT
  go_enter Tryz.func11, Tryz.ntmps11
  go_wp2_with fail
  refine C1.out.mono ?_
  rintro r w1 ⟨b, hb, rfl, hS, hB⟩
  have hbl : bl ⟨#[60, 97, 32, 98, 61, 39, 99, 39, 47, 62]⟩ = [60, 97, 32, 98, 61, 39, 99, 39, 47, 62] := rfl
  rw [hbl, awake_new] at hS
  have C2 := snext _ b _ _ w1 hS
  rw [hbl, awake_next, awake_st] at C2
  have HS := Lib.hid hS
  have HB := Lib.hid hB
  have C2 := Lib.hid C2
  have Hb := Lib.hid hb
  clear hb hS hB hbl C1
  go_wp2_with fail
  refine C2.out.mono ?_
  rintro r w2 ⟨x, rfl, ⟨v, rfl, hrows, hfresh⟩, h3, o3⟩
  obtain ⟨g, cap, rfl, hg, hcell⟩ : ∃ g cap, v = .slice (some ⟨g, 0, none⟩) 1 cap ∧ g < w2.heap.size ∧ w2.cell? ⟨g, 1, none⟩ = some (.string ⟨#[99]⟩) := by
    rcases hrows.1 with ⟨h, _⟩ | ⟨g, cap, h, hg, hc⟩
    · cases h
    · exact ⟨g, cap, h, hg, (hc 0 (by decide)).2⟩
  have HB2 := Lib.hid (o3.belowOf h3.base HB.out rfl)
  have cg := ((Below.refl w2.heap.size w2).alloc (Nat.le_refl _) (.cells #[.int .i64 3, .string ⟨#[97]⟩, .slice (some ⟨g, 0, none⟩) 1 cap, .string ⟨#[]⟩, .int .i64 0] 27)).cell (p := ⟨g, 1, none⟩) hg
  rw [hcell] at cg
  have HE2 := Lib.hid (serr _ b _ _ _ (h3.step ((Below.refl _ _).alloc (Nat.le_refl _) (.cells #[.int .i64 3, .string ⟨#[97]⟩, .slice (some ⟨g, 0, none⟩) 1 cap, .string ⟨#[]⟩, .int .i64 0] 27))))
  have e1 : str ([97] : List UInt8) = ⟨#[97]⟩ := rfl
  have e2 : str ([] : List UInt8) = ⟨#[]⟩ := rfl
  have hsz := h3.glob.le
  have hsz := Lib.hid hsz
  clear hrows hfresh h3 o3 hcell hg C2 HS HB
  simp only [e1, e2]
  clear e1 e2
  go_wp2_with fail
  refine HE2.out.mono ?_
  rintro r w3 ⟨rfl, rfl⟩
  go_wp2
  go_ret
  exact ⟨rfl, HB2.out.alloc hsz.out _⟩

/-! ### ScanAny -/
/-- What the loop over pieces keeps. -/
def AnR (b : Nat) (T : ByteArray) (w : World) (g : Nat) (at_ i : Value) (wr : World) : Prop :=
  ∃ (σ : St) (k : Nat) (a : Int), g + k = 100 ∧ i = .int .i64 k ∧ at_ = .int .i64 a ∧ -1 ≤ a ∧ a + 1 ≤ σ.pos ∧ a < T.size ∧ k ≤ a + 1 ∧ Any_ T.size σ ∧ Sc w.heap.size b T σ wr ∧ Below w.heap.size w wr
theorem atS_ok {σ : St} (h : σ.err = 0) : atS σ = σ.pos := by unfold atS; rw [if_pos h]
theorem atS_bad {σ : St} (h : σ.err ≠ 0) : atS σ = σ.wrg := by unfold atS; rw [if_neg h]
set_option maxHeartbeats 6000000 in
theorem any04 (s T : ByteArray) (m : Nat) (w : World) (hE : EntV w) (hT : Tabs w) (hm1 : m ≤ s.size) (hm3 : min (s.size : Int) 80 = (m : Int)) (HT : Hid (s.extract 0 m = T)) (hTs : T.size ≤ 80) :
    Calls Tryz.prog 5 #[.string s] w fun e w' => e = .returned (.bool true) ∧ Below w.heap.size w w' := by
  have C1 := Lib.hid (snew T w hE hT (by omega))
  have HE := Lib.hid hE
  have HTb := Lib.hid hT
  clear hE hT
  go_enter Tryz.func5, Tryz.ntmps5
  go_wp2_with fail
  rw [HT.out]
  clear hm1 hm3
  refine C1.out.mono ?_
  rintro r w1 ⟨b, hb, rfl, hS, hB⟩
  have HS := Lib.hid hS
  have HB := Lib.hid hB
  have HN := Lib.hid (new_any (bl T) (by rw [bl_size]; omega))
  have hBb := hS.base
  clear hb hS hB C1
  go_wp2_with fail
  go_loopg [5, 6] 100 (fun g at_ i wr => AnR b T w g at_ i wr)
  case atStart => exact ⟨_, 0, -1, rfl, rfl, rfl, by decide, by rw [HN.out.2]; decide, by omega, by decide, by have := HN.out.1; rw [bl_size] at this; exact this, HS.out, HB.out⟩
  case round =>
    obtain ⟨σ, k, a, hg, rfl, rfl, ha1, ha2, ha3, ha4, hA, hSc, hBw⟩ := hrel
    have hk : k < 100 := by omega
    have hk' : (k : Int) < 100 := by omega
    have hn := next_any (bl T) σ (by rw [bl_size]; exact hA)
    have C := snext _ b _ _ wr hSc
    obtain ⟨Q, hQ⟩ : ∃ Q, nextP (bl T) σ = Q := ⟨_, rfl⟩
    obtain ⟨σ', hσ⟩ : ∃ σ', nextS (bl T) σ = σ' := ⟨_, rfl⟩
    rw [hQ, hσ] at hn C
    rw [bl_size] at hn
    obtain ⟨kd, nm, at', tx, A⟩ := Q
    have hn1 := hn.1
    have hn2 : kd = 0 → σ'.err = 0 → σ'.pos = T.size := hn.2.1
    have hn3 : kd ≠ 0 → (σ.pos : Int) ≤ A ∧ A < σ'.pos ∧ A < T.size := hn.2.2
    have C : Calls Tryz.prog 8 #[.pointer (some ⟨b, 0, none⟩)] wr fun r w' => ∃ v, r = .returned (.agg #[.int .i64 kd, .string (str nm), v, .string (str tx), .int .i64 A]) ∧ (∃ ao mm cap, v = .slice ao mm cap) ∧ Sc w.heap.size b T σ' w' ∧ Below w.heap.size w w' :=
      C.mono fun r w' ⟨x, hx, ⟨v, hv, hr, _⟩, h3, o3⟩ => ⟨v, by rw [hx, hv], rows_form hr, h3, o3.belowOf hBb hBw rfl⟩
    have C := Lib.hid C
    have HN1 := Lib.hid hn1
    clear hQ hσ hn hn1 hSc hBw hA
    by_cases hkd : kd = 0
    · subst hkd
      have HN2 := Lib.hid (hn2 rfl)
      clear hn2 hn3
      go_wp2_with fail
      refine C.out.mono ?_
      rintro r w2 ⟨v, rfl, ⟨ao, mm, cap, rfl⟩, h3, hb3⟩
      have HS3 := Lib.hid (h3.step ((Below.refl _ _).alloc (Nat.le_refl _) (.cells #[.int .i64 0, .string (str nm), .slice ao mm cap, .string (str tx), .int .i64 A] 27)))
      have HB3 := Lib.hid (hb3.alloc hb3.size (.cells #[.int .i64 0, .string (str nm), .slice ao mm cap, .string (str tx), .int .i64 A] 27))
      clear h3 hb3 C
      have CE := serr _ b T _ _ HS3.out
      by_cases herr : σ'.err = 0
      · rw [herr] at CE
        have CE := Lib.hid CE
        go_wp2_with fail
        refine CE.out.mono ?_
        rintro r w3 ⟨rfl, rfl⟩
        have CA := Lib.hid (awake04 _ (HE.out.below HB3.out) (HTb.out.below HB3.out))
        go_wp2_with fail
        refine CA.out.mono ?_
        rintro r w4 ⟨rfl, hb4⟩
        have HS4 := Lib.hid (HS3.out.step hb4)
        have HB4 := Lib.hid (HB3.out.trans (hb4.mono HB3.out.size))
        clear hb4 CA CE
        have CT := sat _ b T _ _ HS4.out
        rw [atS_ok herr, HN2.out herr] at CT
        have CT := Lib.hid CT
        clear herr
        go_wp2_with fail
        refine CT.out.mono ?_
        rintro r w5 ⟨rfl, rfl⟩
        go_wp2
        go_ret
        exact ⟨rfl, HB4.out⟩
      · have q1 : (σ'.err == 0) = false := by simp [herr]
        obtain ⟨he3, hw0, hw1⟩ : (σ'.err = 2 ∨ σ'.err = 3 ∨ σ'.err = 7) ∧ 0 ≤ σ'.wrg ∧ σ'.wrg ≤ T.size := by
          rcases HN1.out with h | h
          · exact ⟨by rcases h.err with h1 | h1 | h1; exact absurd h1 herr; exact .inr (.inl h1); exact .inr (.inr h1), h.lo, h.hi⟩
          · exact ⟨.inl h.1, h.2.2.1, h.2.2.2⟩
        obtain ⟨E, hEe⟩ : ∃ E, σ'.err = E := ⟨_, rfl⟩
        obtain ⟨W, hWe⟩ : ∃ W, σ'.wrg = W := ⟨_, rfl⟩
        have hat : atS σ' = W := by rw [atS_bad herr, hWe]
        rw [hEe] at CE q1 he3
        rw [hWe] at hw0 hw1
        have CE := Lib.hid CE
        have CE2 := Lib.hid (fun w1 (h : Sc w.heap.size b T σ' w1) => by have c := serr _ b T _ w1 h; rw [hEe] at c; exact c)
        have CT2 := Lib.hid (fun w1 (h : Sc w.heap.size b T σ' w1) => by have c := sat _ b T _ w1 h; rw [hat] at c; exact c)
        clear hEe hWe hat herr
        have CA := Lib.hid (awake04 _ (HE.out.below HB3.out) (HTb.out.below HB3.out))
        rcases he3 with rfl | rfl | rfl
        all_goals
          go_wp2_with fail
          refine CE.out.mono ?_
          rintro r w3 ⟨rfl, rfl⟩
          go_wp2_with fail
          refine CA.out.mono ?_
          rintro r w4 ⟨rfl, hb4⟩
          have HS4 := Lib.hid (HS3.out.step hb4)
          have HB4 := Lib.hid (HB3.out.trans (hb4.mono HB3.out.size))
          clear hb4
          go_wp2_with fail
          refine (CT2.out w4 HS4.out).mono ?_
          rintro r w5 ⟨rfl, rfl⟩
          go_wp2_with fail
          refine (CT2.out w4 HS4.out).mono ?_
          rintro r w5 ⟨rfl, rfl⟩
          go_wp2_with fail
          refine (CE2.out w4 HS4.out).mono ?_
          rintro r w5 ⟨rfl, rfl⟩
          go_wp2_with (refine (CE2.out w4 HS4.out).mono ?_; rintro r w5 ⟨rfl, rfl⟩)
          go_ret
          exact ⟨rfl, HB4.out⟩
    · have hn3 := hn3 hkd
      have q1 : (kd == 0) = false := by simp [hkd]
      have q2 : decide (A ≤ a) = false := decide_eq_false (by omega)
      have q3 : decide ((T.size : Int) ≤ A) = false := decide_eq_false (by omega)
      clear hn2
      go_wp2_with fail
      refine C.out.mono ?_
      rintro r w2 ⟨v, rfl, ⟨ao, mm, cap, rfl⟩, h3, hb3⟩
      have HS3 := Lib.hid (h3.step ((Below.refl _ _).alloc (Nat.le_refl _) (.cells #[.int .i64 kd, .string (str nm), .slice ao mm cap, .string (str tx), .int .i64 A] 27)))
      have HB3 := Lib.hid (hb3.alloc hb3.size (.cells #[.int .i64 kd, .string (str nm), .slice ao mm cap, .string (str tx), .int .i64 A] 27))
      clear h3 hb3 C
      go_wp2
      go_roundg (100 - (k + 1))
      case measure => omega
      case rel => exact ⟨σ', k + 1, A, by omega, by go_num, rfl, by omega, by omega, by omega, by omega, HN1.out, HS3.out, HB3.out⟩
/-- **The law ScanAny.** -/
theorem any_any (s : ByteArray) (w : World) (hE : EntV w) (hT : Tabs w) :
    Calls Tryz.prog 5 #[.string s] w fun e w' => e = .returned (.bool true) ∧ Below w.heap.size w w' := by
  obtain ⟨m, hm1, hm2, _, Hm3, _⟩ := min8 s.size 80
  obtain ⟨T, hT'⟩ : ∃ T, s.extract 0 m = T := ⟨_, rfl⟩
  have hTs : T.size ≤ 80 := by rw [← bl_size, ← hT', cut_bl, List.length_take, bl_size]; omega
  exact any04 s T m w hE hT hm1 Hm3.out (Lib.hid hT') hTs

end Go.Proofs.YtkpkekmofidajaaGreatDoor
