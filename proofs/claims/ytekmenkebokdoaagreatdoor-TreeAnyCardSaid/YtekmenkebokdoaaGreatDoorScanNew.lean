/-
  The walks of (*Scanner).passAll, Next, and of New.
-/
import Derived.Test.YtekmenkebokdoaaGreatDoorScanNext
import Derived.Test.YtekmenkebokdoaaGreatDoorScanPass
namespace Go.Proofs.YtekmenkebokdoaaGreatDoor
open Go.RowKit
set_option maxRecDepth 100000

theorem pass_pos (b e : List UInt8) (may : List UInt8 → Bool) (D : List UInt8) (σ : St) (hb : σ.pos + b.length ≤ D.length) : (passS b e may D σ).err ≠ 0 ∨ (σ.pos + b.length ≤ (passS b e may D σ).pos ∧ (passS b e may D σ).err = σ.err) := by
  unfold passS
  by_cases h : (passC b e D σ).2.2 = true ∧ may (passC b e D σ).1 = true
  · rw [if_pos h]
    right
    have hlen := cut_len (D.drop (σ.pos + b.length)) e
    rw [List.length_drop] at hlen
    have hY : (passC b e D σ).2.1.length ≤ D.length - (σ.pos + b.length) := hlen.2
    refine ⟨?_, rfl⟩
    show _ ≤ D.length - _
    omega
  · rw [if_neg h]
    left
    exact wrong_err _ _ _ (by decide)
/-- What the loop of passAll keeps. -/
def PaR (B b : Nat) (s : ByteArray) (Z : St) (w : World) (g : Nat) (wr : World) : Prop :=
  ∃ σr, 1 ≤ g ∧ (σr.err = 0 → s.size + 1 ≤ g + σr.pos) ∧ passF g (bl s) σr = Z ∧ Sc B b s σr wr ∧ Only b w wr
set_option maxHeartbeats 2000000 in
theorem spassAll0 (B b : Nat) (s : ByteArray) (σ : St) (w : World) (hS : Sc B b s σ w) (Z : St) (hZ : passF (s.size + 1) (bl s) σ = Z) :
    Calls Tryz.prog 60 #[.pointer (some ⟨b, 0, none⟩)] w fun r w' => r = .returned (.tuple #[]) ∧ Sc B b s Z w' ∧ Only b w w' := by
  have H := Lib.hid hS
  have HZ := Lib.hid hZ
  clear hS hZ
  go_enter Tryz.func60, Tryz.ntmps60
  go_wp2
  go_loopg [] (s.size + 1) (fun g wr => PaR B b s Z w g wr)
  case atStart => exact ⟨σ, by omega, fun _ => by omega, HZ.out, H.out, Only.refl _ _⟩
  case round =>
    obtain ⟨σr, hg, hm, hs, hS, hO⟩ := hrel
    obtain ⟨f, rfl⟩ : ∃ f, gk = f + 1 := ⟨gk - 1, by omega⟩
    have HS := Lib.hid hS
    have HO := Lib.hid hO
    have HM := Lib.hid hm
    clear hS hO hm
    unfold passF at hs
    by_cases herr : σr.err = 0
    · have c2 := HS.out.c2
      rw [herr] at c2
      rw [if_pos herr] at hs
      have HE := Lib.hid herr
      clear herr
      cases s1 : standsS bCom (bl s) σr with
      | true =>
        rw [if_pos s1] at hs
        have hb1 := stands_len s1 (by decide)
        rw [bl_size] at hb1
        have hb2 : bCom.length = 4 := rfl
        have hpp := pass_pos bCom eCom mayC (bl s) σr (by rw [bl_size]; exact hb1)
        have C1 := Lib.hid (sstands_at B b s ⟨#[60, 33, 45, 45]⟩ σr wr HS.out true s1)
        have C2 := Lib.hid (fun w1 (h : Sc B b s σr w1) => spass B b s ⟨#[60, 33, 45, 45]⟩ ⟨#[45, 45, 62]⟩ bCom eCom rfl rfl σr w1 h s1 (by decide) _ mayC enters_com (fun X w hX hg => may_com X hX w hg.ent.maxl))
        have hgo : ∀ w2, Sc B b s (passS bCom eCom mayC (bl s) σr) w2 → Only b w w2 → PaR B b s Z w f w2 := fun w2 h2 o2 =>
          ⟨_, by have := HM.out HE.out; omega, fun h => by rcases hpp with hp | hp; exact absurd h hp; have := HM.out HE.out; omega, hs, h2, o2⟩
        have hgo := Lib.hid hgo
        clear s1 hs hb1 hb2 hpp hg
        go_wp2_with fail
        refine C1.out.mono ?_
        rintro r w1 ⟨rfl, h1, hb1⟩
        have HS1 := Lib.hid h1
        have HO1 := Lib.hid (HO.out.trans (Only.of (b := b) hb1))
        clear h1 hb1 C1 c2 HS HO
        go_wp2_with fail
        refine (C2.out w1 HS1.out).mono ?_
        rintro r w2 ⟨rfl, h2, o2⟩
        have hgo2 := hgo.out w2 h2 (HO1.out.trans o2)
        clear h2 o2 C2
        go_wp2
        go_roundg f
        case measure => omega
        case rel => exact hgo2
      | false =>
        rw [if_neg (by rw [s1]; decide)] at hs
        have C1 := Lib.hid (sstands_at B b s ⟨#[60, 33, 45, 45]⟩ σr wr HS.out false s1)
        clear s1
        cases s2 : standsS bHint (bl s) σr with
        | true =>
          rw [if_pos s2] at hs
          have hb1 := stands_len s2 (by decide)
          rw [bl_size] at hb1
          have hb2 : bHint.length = 2 := rfl
          have hpp := pass_pos bHint eHint mayH (bl s) σr (by rw [bl_size]; exact hb1)
          have C2 := Lib.hid (fun w1 (h : Sc B b s σr w1) => sstands_at B b s ⟨#[60, 63]⟩ σr w1 h true s2)
          have C3 := Lib.hid (fun w1 (h : Sc B b s σr w1) => spass B b s ⟨#[60, 63]⟩ ⟨#[63, 62]⟩ bHint eHint rfl rfl σr w1 h s2 (by decide) _ mayH enters_hint (fun X w _ _ => may_hint (str X) w))
          have hgo : ∀ w2, Sc B b s (passS bHint eHint mayH (bl s) σr) w2 → Only b w w2 → PaR B b s Z w f w2 := fun w2 h2 o2 =>
            ⟨_, by have := HM.out HE.out; omega, fun h => by rcases hpp with hp | hp; exact absurd h hp; have := HM.out HE.out; omega, hs, h2, o2⟩
          have hgo := Lib.hid hgo
          clear s2 hs hb1 hb2 hpp hg
          go_wp2_with fail
          refine C1.out.mono ?_
          rintro r w1 ⟨rfl, h1, hb1⟩
          have HS1 := Lib.hid h1
          have HO1 := Lib.hid (HO.out.trans (Only.of (b := b) hb1))
          clear h1 hb1 C1 c2 HS HO
          go_wp2_with fail
          refine (C2.out w1 HS1.out).mono ?_
          rintro r w2 ⟨rfl, h2, hb2⟩
          have HS2 := Lib.hid h2
          have HO2 := Lib.hid (HO1.out.trans (Only.of (b := b) hb2))
          clear h2 hb2 C2 HS1 HO1
          go_wp2_with fail
          refine (C3.out w2 HS2.out).mono ?_
          rintro r w3 ⟨rfl, h3, o3⟩
          have hgo2 := hgo.out w3 h3 (HO2.out.trans o3)
          clear h3 o3 C3
          go_wp2
          go_roundg f
          case measure => omega
          case rel => exact hgo2
        | false =>
          rw [if_neg (by rw [s2]; decide)] at hs
          have C2 := Lib.hid (fun w1 (h : Sc B b s σr w1) => sstands_at B b s ⟨#[60, 63]⟩ σr w1 h false s2)
          have HX := Lib.hid hs
          clear s2 hg hs
          go_wp2_with fail
          refine C1.out.mono ?_
          rintro r w1 ⟨rfl, h1, hb1⟩
          have HS1 := Lib.hid h1
          have HO1 := Lib.hid (HO.out.trans (Only.of (b := b) hb1))
          clear h1 hb1 C1 c2 HS HO
          go_wp2_with fail
          refine (C2.out w1 HS1.out).mono ?_
          rintro r w2 ⟨rfl, h2, hb2⟩
          go_wp2
          (try simp only [Exit.inBlock, Exit.then])
          refine bodyPost_ret (results_none rfl _ _ _) rfl ?_
          exact ⟨rfl, by rw [← HX.out]; exact h2, HO1.out.trans (Only.of hb2)⟩
    · have c2 := HS.out.c2
      have q : (σr.err == 0) = false := by simp [herr]
      rw [if_neg herr] at hs
      have HX := Lib.hid hs
      clear herr hs
      go_wp2
      go_end0
      exact ⟨rfl, by rw [← HX.out]; exact HS.out, HO.out⟩
/-- **(*Scanner).passAll.** -/
theorem spassAll (B b : Nat) (s : ByteArray) (σ : St) (w : World) (hS : Sc B b s σ w) :
    Calls Tryz.prog 60 #[.pointer (some ⟨b, 0, none⟩)] w fun r w' => r = .returned (.tuple #[]) ∧ Sc B b s (passAllS (bl s) σ) w' ∧ Only b w w' := by
  unfold passAllS
  rw [bl_size]
  exact spassAll0 B b s σ w hS _ rfl

/-! ### Next -/
set_option maxHeartbeats 4000000 in
theorem snext0 (B b : Nat) (s : ByteArray) (σ σ1 : St) (w : World) (hS : Sc B b s σ w) (Q : Pc) (σ2 : St) (F : Pc) (G : St)
    (C1 : Hid (∀ w, Sc B b s σ w → Calls Tryz.prog 60 #[.pointer (some ⟨b, 0, none⟩)] w fun r w' => r = .returned (.tuple #[]) ∧ Sc B b s σ1 w' ∧ Only b w w'))
    (C2 : Hid (∀ w, Sc B b s σ1 w → Calls Tryz.prog 61 #[.pointer (some ⟨b, 0, none⟩)] w (Gives B b s w Q σ2)))
    (hF : Hid (F = if σ1.err = 0 ∧ σ1.pos < s.size then if σ2.err = 0 then Q else pc0 else pc0)) (hG : Hid (G = if σ1.err = 0 ∧ σ1.pos < s.size then σ2 else σ1)) :
    Calls Tryz.prog 47 #[.pointer (some ⟨b, 0, none⟩)] w (Gives B b s w F G) := by
  have HS := Lib.hid (hS.step ((Below.refl _ _).alloc (Nat.le_refl _) (.cells #[.int .i64 0, .string ⟨#[]⟩, .slice none 0 0, .string ⟨#[]⟩, .int .i64 0] 74)))
  have HO := Lib.hid (Only.alloc b w (.cells #[.int .i64 0, .string ⟨#[]⟩, .slice none 0 0, .string ⟨#[]⟩, .int .i64 0] 74))
  have HR := Lib.hid (heap_alloc_new w (.cells #[.int .i64 0, .string ⟨#[]⟩, .slice none 0 0, .string ⟨#[]⟩, .int .i64 0] 74))
  have hbR : b < w.heap.size := hS.lt
  have hBb := hS.base
  have hln := hS.len
  clear hS
  go_enter Tryz.func47, Tryz.ntmps47
  go_wp2_with fail
  obtain ⟨R, hRe⟩ : ∃ R, w.heap.size = R := ⟨_, rfl⟩
  rw [hRe] at HR hbR ⊢
  have HRe := Lib.hid hRe
  clear hRe
  generalize w.alloc (.cells #[.int .i64 0, .string ⟨#[]⟩, .slice none 0 0, .string ⟨#[]⟩, .int .i64 0] 74) = w0 at HS HO HR ⊢
  refine (C1.out w0 HS.out).mono ?_
  rintro r w1 ⟨rfl, h1, o1⟩
  have HS1 := Lib.hid h1
  have HO1 := Lib.hid (HO.out.trans o1)
  have HR1 := Lib.hid (o1.heap HR.out (by omega))
  clear h1 o1 C1 HS HO HR
  have c0 := HS1.out.c0
  have c1 := HS1.out.c1
  have c2 := HS1.out.c2
  have hps := HS1.out.pos
  by_cases herr : σ1.err = 0
  · rw [herr] at c2
    have HE := Lib.hid herr
    clear herr
    by_cases hin : σ1.pos < s.size
    · have q : ((σ1.pos : Int) == (s.size : Int)) = false := by simp; omega
      have hF2 := Lib.hid (hF.out.trans (by rw [if_pos ⟨HE.out, hin⟩]))
      have hG2 := Lib.hid (hG.out.trans (by rw [if_pos ⟨HE.out, hin⟩]))
      clear hF hG
      go_wp2
      go_quiet (fail)
      have HS2 := Lib.hid (HS1.out.step (below_drewN w1 nq))
      have HO2 := Lib.hid (HO1.out.trans (Only.drewN b w1 nq))
      have HR2 := Lib.hid ((Only.drewN b w1 nq).heap HR1.out (by omega))
      clear HS1 HO1 HR1 c0 c1 c2
      generalize w1.drewN nq = w2 at HS2 HO2 HR2 ⊢
      go_wp2_with fail
      refine (C2.out w2 HS2.out).mono ?_
      rintro r w3 ⟨x, rfl, ⟨v, rfl, hrows, hfresh⟩, h3, o3⟩
      obtain ⟨ao, m, cap, rfl⟩ := rows_form hrows
      have hRw := (Array.getElem?_eq_some_iff.1 HR2.out).1
      have hRw3 := Nat.lt_of_lt_of_le hRw o3.size
      have HRW := Lib.hid (hrows.heap (w' := w3.alloc (.cells #[.int .i64 Q.kind, .string (str Q.name), .slice ao m cap, .string (str Q.text), .int .i64 Q.at_] 74)) (by simp) (fun g o n c hv => by
        rcases hrows.1 with ⟨_, he⟩ | ⟨g', cap', he, hg', _⟩
        · rw [he] at hv; simp at hv
        · rw [he] at hv; injection hv with e1; injection e1 with e2; injection e2 with e3; subst e3; exact Below.heap_alloc _ _ _ hg'))
      have HFR := Lib.hid (fun g o n c (hv : Value.slice ao m cap = .slice (some ⟨g, o, none⟩) n c) => Nat.lt_of_lt_of_le hRw (hfresh g o n c hv))
      have HS3 := Lib.hid (h3.step ((Below.refl _ _).alloc (Nat.le_refl _) (.cells #[.int .i64 Q.kind, .string (str Q.name), .slice ao m cap, .string (str Q.text), .int .i64 Q.at_] 74)))
      have HO3 := Lib.hid ((HO2.out.trans o3).trans (Only.alloc b w3 (.cells #[.int .i64 Q.kind, .string (str Q.name), .slice ao m cap, .string (str Q.text), .int .i64 Q.at_] 74)))
      have HR3 := Lib.hid ((Only.alloc b w3 (.cells #[.int .i64 Q.kind, .string (str Q.name), .slice ao m cap, .string (str Q.text), .int .i64 Q.at_] 74)).heap (o3.heap HR2.out (by omega)) (by omega))
      have HP3 := Lib.hid (heap_alloc_new w3 (.cells #[.int .i64 Q.kind, .string (str Q.name), .slice ao m cap, .string (str Q.text), .int .i64 Q.at_] 74))
      clear hrows hfresh h3 o3 C2 HS2 HO2 HR2 hRw
      go_upto_region 7 with (fail)
      obtain ⟨P, hPe⟩ : ∃ P, w3.heap.size = P := ⟨_, rfl⟩
      rw [hPe] at HP3 hRw3 ⊢
      clear hPe
      generalize w3.alloc (.cells #[.int .i64 Q.kind, .string (str Q.name), .slice ao m cap, .string (str Q.text), .int .i64 Q.at_] 74) = w4 at HS3 HO3 HR3 HP3 HRW ⊢
      have c2 := HS3.out.c2
      by_cases herr2 : σ2.err = 0
      · rw [herr2] at c2
        have hF3 := Lib.hid (hF2.out.trans (by rw [if_pos herr2]))
        clear hF2 herr2
        have r0 := Lib.cell_of_heap HR3.out 0
        have r1 := Lib.cell_of_heap HR3.out 1
        have r2 := Lib.cell_of_heap HR3.out 2
        have r3 := Lib.cell_of_heap HR3.out 3
        have r4 := Lib.cell_of_heap HR3.out 4
        have f0 := Lib.frozen_of_heap HR3.out 0
        have f1 := Lib.frozen_of_heap HR3.out 1
        have f2 := Lib.frozen_of_heap HR3.out 2
        have f3 := Lib.frozen_of_heap HR3.out 3
        have f4 := Lib.frozen_of_heap HR3.out 4
        simp only [List.getElem?_toArray, List.getElem?_cons_zero, List.getElem?_cons_succ] at r0 r1 r2 r3 r4
        have p0 := Lib.cell_of_heap HP3.out 0
        have p1 := Lib.cell_of_heap HP3.out 1
        have p2 := Lib.cell_of_heap HP3.out 2
        have p3 := Lib.cell_of_heap HP3.out 3
        have p4 := Lib.cell_of_heap HP3.out 4
        simp only [List.getElem?_toArray, List.getElem?_cons_zero, List.getElem?_cons_succ] at p0 p1 p2 p3 p4
        go_wp2
        rw [hF3.out, hG2.out]
        refine bodyPost_ret (res_piece _ rfl _ R rfl _ _ _ _ _ _ 74 (0, 0) (st5_heap HR3.out _ _ _ _ _)) rfl ⟨_, rfl, ⟨_, rfl, ?_, ?_⟩, ?_, ?_⟩
        · exact HRW.out.st5 (fun g o n c hv => by have := HFR.out g o n c hv; omega) _ _ _ _ _
        · intro g o n c hv
          have := HFR.out g o n c hv
          have := HRe.out
          omega
        · exact st5_sc HS3.out (by omega) (by omega) _ _ _ _ _
        · exact st5_only HO3.out (by have := HRe.out; omega) _ _ _ _ _
      · have q2 : (σ2.err != 0) = true := by simp [herr2]
        have q3 : (σ2.err == 0) = false := by simp [herr2]
        have hF3 := Lib.hid (hF2.out.trans (by rw [if_neg herr2]))
        clear hF2 herr2
        have r0 := Lib.cell_of_heap HR3.out 0
        have r1 := Lib.cell_of_heap HR3.out 1
        have r2 := Lib.cell_of_heap HR3.out 2
        have r3 := Lib.cell_of_heap HR3.out 3
        have r4 := Lib.cell_of_heap HR3.out 4
        have f0 := Lib.frozen_of_heap HR3.out 0
        have f1 := Lib.frozen_of_heap HR3.out 1
        have f2 := Lib.frozen_of_heap HR3.out 2
        have f3 := Lib.frozen_of_heap HR3.out 3
        have f4 := Lib.frozen_of_heap HR3.out 4
        simp only [List.getElem?_toArray, List.getElem?_cons_zero, List.getElem?_cons_succ] at r0 r1 r2 r3 r4
        go_wp2
        rw [hF3.out, hG2.out]
        refine bodyPost_ret (res_piece _ rfl _ R rfl _ _ _ _ _ _ 74 (0, 0) (st5_heap HR3.out _ _ _ _ _)) rfl ⟨_, rfl, ⟨_, rfl, rowsB_nil b _, fresh_nil _⟩, ?_, ?_⟩
        · exact st5_sc HS3.out (by omega) (by omega) _ _ _ _ _
        · exact st5_only HO3.out (by have := HRe.out; omega) _ _ _ _ _
    · have q : ((σ1.pos : Int) == (s.size : Int)) = true := by simp; omega
      have hF2 := Lib.hid (hF.out.trans (by rw [if_neg (fun h => hin h.2)]))
      have hG2 := Lib.hid (hG.out.trans (by rw [if_neg (fun h => hin h.2)]))
      clear hF hG C2 hin
      have r0 := Lib.cell_of_heap HR1.out 0
      have r1 := Lib.cell_of_heap HR1.out 1
      have r2 := Lib.cell_of_heap HR1.out 2
      have r3 := Lib.cell_of_heap HR1.out 3
      have r4 := Lib.cell_of_heap HR1.out 4
      have f0 := Lib.frozen_of_heap HR1.out 0
      have f1 := Lib.frozen_of_heap HR1.out 1
      have f2 := Lib.frozen_of_heap HR1.out 2
      have f3 := Lib.frozen_of_heap HR1.out 3
      have f4 := Lib.frozen_of_heap HR1.out 4
      simp only [List.getElem?_toArray, List.getElem?_cons_zero, List.getElem?_cons_succ] at r0 r1 r2 r3 r4
      go_wp2
      go_quiet (fail)
      go_wp2
      rw [hF2.out, hG2.out]
      refine bodyPost_ret (res_piece _ rfl _ R rfl _ _ _ _ _ _ 74 (0, 0) (st5_heap ((Only.drewN b w1 nq).heap HR1.out (by omega)) _ _ _ _ _)) rfl ⟨_, rfl, ⟨_, rfl, rowsB_nil b _, fresh_nil _⟩, ?_, ?_⟩
      · exact st5_sc (HS1.out.step (below_drewN w1 nq)) (by omega) (by omega) _ _ _ _ _
      · exact st5_only (HO1.out.trans (Only.drewN b w1 nq)) (by have := HRe.out; omega) _ _ _ _ _
  · have q2 : (σ1.err != 0) = true := by simp [herr]
    have q3 : (σ1.err == 0) = false := by simp [herr]
    have hF2 := Lib.hid (hF.out.trans (by rw [if_neg (fun h => herr h.1)]))
    have hG2 := Lib.hid (hG.out.trans (by rw [if_neg (fun h => herr h.1)]))
    clear hF hG C2 herr
    have r0 := Lib.cell_of_heap HR1.out 0
    have r1 := Lib.cell_of_heap HR1.out 1
    have r2 := Lib.cell_of_heap HR1.out 2
    have r3 := Lib.cell_of_heap HR1.out 3
    have r4 := Lib.cell_of_heap HR1.out 4
    have f0 := Lib.frozen_of_heap HR1.out 0
    have f1 := Lib.frozen_of_heap HR1.out 1
    have f2 := Lib.frozen_of_heap HR1.out 2
    have f3 := Lib.frozen_of_heap HR1.out 3
    have f4 := Lib.frozen_of_heap HR1.out 4
    simp only [List.getElem?_toArray, List.getElem?_cons_zero, List.getElem?_cons_succ] at r0 r1 r2 r3 r4
    go_wp2
    go_quiet (fail)
    go_wp2
    rw [hF2.out, hG2.out]
    refine bodyPost_ret (res_piece _ rfl _ R rfl _ _ _ _ _ _ 74 (0, 0) (st5_heap ((Only.drewN b w1 nq).heap HR1.out (by omega)) _ _ _ _ _)) rfl ⟨_, rfl, ⟨_, rfl, rowsB_nil b _, fresh_nil _⟩, ?_, ?_⟩
    · exact st5_sc (HS1.out.step (below_drewN w1 nq)) (by omega) (by omega) _ _ _ _ _
    · exact st5_only (HO1.out.trans (Only.drewN b w1 nq)) (by have := HRe.out; omega) _ _ _ _ _
/-- **(*Scanner).Next.** -/
theorem snext (B b : Nat) (s : ByteArray) (σ : St) (w : World) (hS : Sc B b s σ w) :
    Calls Tryz.prog 47 #[.pointer (some ⟨b, 0, none⟩)] w (Gives B b s w (nextP (bl s) σ) (nextS (bl s) σ)) := by
  have C1 := Lib.hid fun w h => spassAll B b s σ w h
  have C2 := Lib.hid fun w h => spiece B b s (passAllS (bl s) σ) w h
  unfold nextP nextS
  generalize passAllS (bl s) σ = σ1 at C1 C2 ⊢
  obtain ⟨Y, hY⟩ : ∃ Y, pieceS (bl s) σ1 = Y := ⟨_, rfl⟩
  rw [hY] at C2 ⊢
  obtain ⟨Q, σ2⟩ := Y
  rw [bl_size]
  exact snext0 B b s σ σ1 w hS Q σ2 _ _ C1 C2 (Lib.hid rfl) (Lib.hid rfl)

/-! ### New -/
/-- A new scanner: in the next block, at the start. -/
def News (s : ByteArray) (w : World) (r : Ending) (w' : World) : Prop := ∃ b, b = w.heap.size ∧ r = .returned (.pointer (some ⟨b, 0, none⟩)) ∧ Sc w.heap.size b s (newS (bl s)) w' ∧ Below w.heap.size w w'
set_option maxHeartbeats 2000000 in
theorem snew (s : ByteArray) (w : World) (hE : EntV w) (hT : Tabs w) (hs : s.size ≤ 4000000000) :
    Calls Tryz.prog 23 #[.string s] w (News s w) := by
  have hb0 := (Below.refl w.heap.size w).alloc (Nat.le_refl _) (.cells #[.string s, .int .i64 0, .int .i64 0, .int .i64 0] 65)
  have HS := Lib.hid (show Sc w.heap.size w.heap.size s ⟨0, 0, 0⟩ (w.alloc (.cells #[.string s, .int .i64 0, .int .i64 0, .int .i64 0] 65)) from
    ⟨Nat.le_refl _, hs, Nat.zero_le _, (Glob.start hE hT).step hb0, heap_alloc_new w _⟩)
  have HB := Lib.hid hb0
  have HT1 := Lib.hid (hT.below hb0)
  clear hE hT hb0
  have hbs := bl_size s
  by_cases hbig : 200000 < s.size
  · have hN : newS (bl s) = wrongS 5 200000 ⟨0, 0, 0⟩ := by unfold newS; rw [if_pos (by rw [hbs]; exact hbig)]; rfl
    have hN := Lib.hid hN
    have hbig' : (200000 : Int) < (s.size : Int) := by omega
    clear hbs
    go_enter Tryz.func23, Tryz.ntmps23
    go_wp2_with fail
    have C := Lib.hid (swrong w.heap.size w.heap.size s ⟨0, 0, 0⟩ _ HS.out 5 200000 (by decide))
    refine C.out.mono ?_
    rintro r w1 ⟨rfl, h1, o1⟩
    go_wp2
    go_ret
    exact ⟨_, rfl, rfl, by rw [hN.out]; exact h1, HB.out.trans (o1.below (Nat.le_refl _) (by simp))⟩
  · have hbig' : decide ((200000 : Int) < (s.size : Int)) = false := decide_eq_false (by omega)
    have CB := ubad s (w.alloc (.cells #[.string s, .int .i64 0, .int .i64 0, .int .i64 0] 65)) (by omega) HT1.out
    obtain ⟨A, hA⟩ : ∃ A, badL (bl s) = A := ⟨_, rfl⟩
    rw [hA] at CB
    have CB := Lib.hid CB
    by_cases hbad : 0 ≤ A
    · have hN : newS (bl s) = wrongS 2 A ⟨0, 0, 0⟩ := by unfold newS; rw [if_neg (by rw [hbs]; exact hbig), hA, if_pos hbad]; rfl
      have hN := Lib.hid hN
      clear hbs hA
      go_enter Tryz.func23, Tryz.ntmps23
      go_wp2_with fail
      refine CB.out.mono ?_
      rintro r w1 ⟨rfl, hb1⟩
      have HS1 := Lib.hid (HS.out.step hb1)
      have HB1 := Lib.hid (HB.out.trans (hb1.mono (by simp)))
      clear hb1 CB HS HB
      have C := Lib.hid (swrong w.heap.size w.heap.size s ⟨0, 0, 0⟩ _ HS1.out 2 A (by decide))
      go_wp2_with fail
      refine C.out.mono ?_
      rintro r w2 ⟨rfl, h2, o2⟩
      go_wp2
      go_ret
      exact ⟨_, rfl, rfl, by rw [hN.out]; exact h2, HB1.out.trans (o2.below (Nat.le_refl _) HB1.out.size)⟩
    · have hN : newS (bl s) = ⟨0, 0, 0⟩ := by unfold newS; rw [if_neg (by rw [hbs]; exact hbig), hA, if_neg hbad]
      have hN := Lib.hid hN
      have hbad' : decide (0 ≤ A) = false := decide_eq_false hbad
      clear hbs hA hbad
      go_enter Tryz.func23, Tryz.ntmps23
      go_wp2_with fail
      refine CB.out.mono ?_
      rintro r w1 ⟨rfl, hb1⟩
      have HS1 := Lib.hid (HS.out.step hb1)
      have HB1 := Lib.hid (HB.out.trans (hb1.mono (by simp)))
      clear hb1 CB HS HB
      go_wp2
      go_ret
      exact ⟨_, rfl, rfl, by rw [hN.out]; exact HS1.out, HB1.out⟩

end Go.Proofs.YtekmenkebokdoaaGreatDoor
