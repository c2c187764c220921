/-
  The walks of (*Scanner).passAll, Next, and of New.
  The walks of toldOf, (*Spaces).know.
  The walk of (*Spaces).Enter.
  The walks of slices.IndexFunc and slices.DeleteFunc at tellings, where those to go stand behind those to stay.
-/
import Derived.Test.YtincdacickhdkaaGreatDoorW10
import Derived.Test.YtincdacickhdkaaGreatDoorW5
import Derived.Test.YtincdacickhdkaaGreatDoorW2
import Derived.Deep.RegionLaw
import Derived.RegionTactic
import Derived.OwnWalk
import Derived.Deep.CutBlock
import Derived.Deep.DeepCutAuto
import Derived.Deep.LoopGhost
import Derived.IntWalk
import Derived.Laws.IdiomCopy
import Derived.BigQuiet
namespace Go.Proofs.YtincdacickhdkaaGreatDoor
open Go.RowKit
set_option maxRecDepth 100000

theorem pass_pos (b e : List UInt8) (may : List UInt8 → Bool) (D : List UInt8) (σ : St) (hb : σ.pos + b.length ≤ D.length) : (passS b e may D σ).err ≠ 0 ∨ (σ.pos + b.length ≤ (passS b e may D σ).pos ∧ (passS b e may D σ).err = σ.err) := by
  unfold passS
  by_cases h : (passC b e D σ).2.2 = true ∧ may (passC b e D σ).1 = true
  · rw [if_pos h]
    right
    have hlen := cut_len (D.drop (σ.pos + b.length)) e
    rw [List.length_drop] at hlen
    have hY : (passC b e D σ).2.1.length ≤ D.length - (σ.pos + b.length) := hlen.2
    refine ⟨?_, rfl⟩
    show _ ≤ D.length - _
    omega
  · rw [if_neg h]
    left
    exact wrong_err _ _ _ (by decide)
/-- What the loop of passAll keeps. -/
def PaR (B b : Nat) (s : ByteArray) (Z : St) (w : World) (g : Nat) (wr : World) : Prop :=
  ∃ σr, 1 ≤ g ∧ (σr.err = 0 → s.size + 1 ≤ g + σr.pos) ∧ passF g (bl s) σr = Z ∧ Sc B b s σr wr ∧ Only b w wr
set_option maxHeartbeats 2000000 in
theorem spassAll0 (B b : Nat) (s : ByteArray) (σ : St) (w : World) (hS : Sc B b s σ w) (Z : St) (hZ : passF (s.size + 1) (bl s) σ = Z) :
    Calls Tryz.prog 87 #[.pointer (some ⟨b, 0, none⟩)] w fun r w' => r = .returned (.tuple #[]) ∧ Sc B b s Z w' ∧ Only b w w' := by
  have H := Lib.hid hS
  have HZ := Lib.hid hZ
  clear hS hZ
  go_enter Tryz.func87, Tryz.ntmps87
  go_wp2
  go_loopg [] (s.size + 1) (fun g wr => PaR B b s Z w g wr)
  case atStart => exact ⟨σ, by omega, fun _ => by omega, HZ.out, H.out, Only.refl _ _⟩
  case round =>
    obtain ⟨σr, hg, hm, hs, hS, hO⟩ := hrel
    obtain ⟨f, rfl⟩ : ∃ f, gk = f + 1 := ⟨gk - 1, by omega⟩
    have HS := Lib.hid hS
    have HO := Lib.hid hO
    have HM := Lib.hid hm
    clear hS hO hm
    unfold passF at hs
    by_cases herr : σr.err = 0
    · have c2 := HS.out.c2
      rw [herr] at c2
      rw [if_pos herr] at hs
      have HE := Lib.hid herr
      clear herr
      cases s1 : standsS bCom (bl s) σr with
      | true =>
        rw [if_pos s1] at hs
        have hb1 := stands_len s1 (by decide)
        rw [bl_size] at hb1
        have hb2 : bCom.length = 4 := rfl
        have hpp := pass_pos bCom eCom mayC (bl s) σr (by rw [bl_size]; exact hb1)
        have C1 := Lib.hid (sstands_at B b s ⟨#[60, 33, 45, 45]⟩ σr wr HS.out true s1)
        have C2 := Lib.hid (fun w1 (h : Sc B b s σr w1) => spass B b s ⟨#[60, 33, 45, 45]⟩ ⟨#[45, 45, 62]⟩ bCom eCom rfl rfl σr w1 h s1 (by decide) _ mayC enters_com (fun X w hX hg => may_com X hX w hg.ent.maxl))
        have hgo : ∀ w2, Sc B b s (passS bCom eCom mayC (bl s) σr) w2 → Only b w w2 → PaR B b s Z w f w2 := fun w2 h2 o2 =>
          ⟨_, by have := HM.out HE.out; omega, fun h => by rcases hpp with hp | hp; exact absurd h hp; have := HM.out HE.out; omega, hs, h2, o2⟩
        have hgo := Lib.hid hgo
        clear s1 hs hb1 hb2 hpp hg
        go_wp2_with fail
        refine C1.out.mono ?_
        rintro r w1 ⟨rfl, h1, hb1⟩
        have HS1 := Lib.hid h1
        have HO1 := Lib.hid (HO.out.trans (Only.of (b := b) hb1))
        clear h1 hb1 C1 c2 HS HO
        go_wp2_with fail
        refine (C2.out w1 HS1.out).mono ?_
        rintro r w2 ⟨rfl, h2, o2⟩
        have hgo2 := hgo.out w2 h2 (HO1.out.trans o2)
        clear h2 o2 C2
        go_wp2
        go_roundg f
        case measure => omega
        case rel => exact hgo2
      | false =>
        rw [if_neg (by rw [s1]; decide)] at hs
        have C1 := Lib.hid (sstands_at B b s ⟨#[60, 33, 45, 45]⟩ σr wr HS.out false s1)
        clear s1
        cases s2 : standsS bHint (bl s) σr with
        | true =>
          rw [if_pos s2] at hs
          have hb1 := stands_len s2 (by decide)
          rw [bl_size] at hb1
          have hb2 : bHint.length = 2 := rfl
          have hpp := pass_pos bHint eHint mayH (bl s) σr (by rw [bl_size]; exact hb1)
          have C2 := Lib.hid (fun w1 (h : Sc B b s σr w1) => sstands_at B b s ⟨#[60, 63]⟩ σr w1 h true s2)
          have C3 := Lib.hid (fun w1 (h : Sc B b s σr w1) => spass B b s ⟨#[60, 63]⟩ ⟨#[63, 62]⟩ bHint eHint rfl rfl σr w1 h s2 (by decide) _ mayH enters_hint (fun X w _ _ => may_hint (str X) w))
          have hgo : ∀ w2, Sc B b s (passS bHint eHint mayH (bl s) σr) w2 → Only b w w2 → PaR B b s Z w f w2 := fun w2 h2 o2 =>
            ⟨_, by have := HM.out HE.out; omega, fun h => by rcases hpp with hp | hp; exact absurd h hp; have := HM.out HE.out; omega, hs, h2, o2⟩
          have hgo := Lib.hid hgo
          clear s2 hs hb1 hb2 hpp hg
          go_wp2_with fail
          refine C1.out.mono ?_
          rintro r w1 ⟨rfl, h1, hb1⟩
          have HS1 := Lib.hid h1
          have HO1 := Lib.hid (HO.out.trans (Only.of (b := b) hb1))
          clear h1 hb1 C1 c2 HS HO
          go_wp2_with fail
          refine (C2.out w1 HS1.out).mono ?_
          rintro r w2 ⟨rfl, h2, hb2⟩
          have HS2 := Lib.hid h2
          have HO2 := Lib.hid (HO1.out.trans (Only.of (b := b) hb2))
          clear h2 hb2 C2 HS1 HO1
          go_wp2_with fail
          refine (C3.out w2 HS2.out).mono ?_
          rintro r w3 ⟨rfl, h3, o3⟩
          have hgo2 := hgo.out w3 h3 (HO2.out.trans o3)
          clear h3 o3 C3
          go_wp2
          go_roundg f
          case measure => omega
          case rel => exact hgo2
        | false =>
          rw [if_neg (by rw [s2]; decide)] at hs
          have C2 := Lib.hid (fun w1 (h : Sc B b s σr w1) => sstands_at B b s ⟨#[60, 63]⟩ σr w1 h false s2)
          have HX := Lib.hid hs
          clear s2 hg hs
          go_wp2_with fail
          refine C1.out.mono ?_
          rintro r w1 ⟨rfl, h1, hb1⟩
          have HS1 := Lib.hid h1
          have HO1 := Lib.hid (HO.out.trans (Only.of (b := b) hb1))
          clear h1 hb1 C1 c2 HS HO
          go_wp2_with fail
          refine (C2.out w1 HS1.out).mono ?_
          rintro r w2 ⟨rfl, h2, hb2⟩
          go_wp2
          (try simp only [Exit.inBlock, Exit.then])
          refine bodyPost_ret (results_none rfl _ _ _) rfl ?_
          exact ⟨rfl, by rw [← HX.out]; exact h2, HO1.out.trans (Only.of hb2)⟩
    · have c2 := HS.out.c2
      have q : (σr.err == 0) = false := by simp [herr]
      rw [if_neg herr] at hs
      have HX := Lib.hid hs
      clear herr hs
      go_wp2
      go_end0
      exact ⟨rfl, by rw [← HX.out]; exact HS.out, HO.out⟩
/-- **(*Scanner).passAll.** -/
theorem spassAll (B b : Nat) (s : ByteArray) (σ : St) (w : World) (hS : Sc B b s σ w) :
    Calls Tryz.prog 87 #[.pointer (some ⟨b, 0, none⟩)] w fun r w' => r = .returned (.tuple #[]) ∧ Sc B b s (passAllS (bl s) σ) w' ∧ Only b w w' := by
  unfold passAllS
  rw [bl_size]
  exact spassAll0 B b s σ w hS _ rfl

/-! ### Next -/
set_option maxHeartbeats 4000000 in
theorem snext0 (B b : Nat) (s : ByteArray) (σ σ1 : St) (w : World) (hS : Sc B b s σ w) (Q : Pc) (σ2 : St) (F : Pc) (G : St)
    (C1 : Hid (∀ w, Sc B b s σ w → Calls Tryz.prog 87 #[.pointer (some ⟨b, 0, none⟩)] w fun r w' => r = .returned (.tuple #[]) ∧ Sc B b s σ1 w' ∧ Only b w w'))
    (C2 : Hid (∀ w, Sc B b s σ1 w → Calls Tryz.prog 88 #[.pointer (some ⟨b, 0, none⟩)] w (Gives B b s w Q σ2)))
    (hF : Hid (F = if σ1.err = 0 ∧ σ1.pos < s.size then if σ2.err = 0 then Q else pc0 else pc0)) (hG : Hid (G = if σ1.err = 0 ∧ σ1.pos < s.size then σ2 else σ1)) :
    Calls Tryz.prog 65 #[.pointer (some ⟨b, 0, none⟩)] w (Gives B b s w F G) := by
  have HS := Lib.hid (hS.step ((Below.refl _ _).alloc (Nat.le_refl _) (.cells #[.int .i64 0, .string ⟨#[]⟩, .slice none 0 0, .string ⟨#[]⟩, .int .i64 0] 81)))
  have HO := Lib.hid (Only.alloc b w (.cells #[.int .i64 0, .string ⟨#[]⟩, .slice none 0 0, .string ⟨#[]⟩, .int .i64 0] 81))
  have HR := Lib.hid (heap_alloc_new w (.cells #[.int .i64 0, .string ⟨#[]⟩, .slice none 0 0, .string ⟨#[]⟩, .int .i64 0] 81))
  have hbR : b < w.heap.size := hS.lt
  have hBb := hS.base
  have hln := hS.len
  clear hS
  go_enter Tryz.func65, Tryz.ntmps65
  go_wp2_with fail
  obtain ⟨R, hRe⟩ : ∃ R, w.heap.size = R := ⟨_, rfl⟩
  rw [hRe] at HR hbR ⊢
  have HRe := Lib.hid hRe
  clear hRe
  generalize w.alloc (.cells #[.int .i64 0, .string ⟨#[]⟩, .slice none 0 0, .string ⟨#[]⟩, .int .i64 0] 81) = w0 at HS HO HR ⊢
  refine (C1.out w0 HS.out).mono ?_
  rintro r w1 ⟨rfl, h1, o1⟩
  have HS1 := Lib.hid h1
  have HO1 := Lib.hid (HO.out.trans o1)
  have HR1 := Lib.hid (o1.heap HR.out (by omega))
  clear h1 o1 C1 HS HO HR
  have c0 := HS1.out.c0
  have c1 := HS1.out.c1
  have c2 := HS1.out.c2
  have hps := HS1.out.pos
  by_cases herr : σ1.err = 0
  · rw [herr] at c2
    have HE := Lib.hid herr
    clear herr
    by_cases hin : σ1.pos < s.size
    · have q : ((σ1.pos : Int) == (s.size : Int)) = false := by simp; omega
      have hF2 := Lib.hid (hF.out.trans (by rw [if_pos ⟨HE.out, hin⟩]))
      have hG2 := Lib.hid (hG.out.trans (by rw [if_pos ⟨HE.out, hin⟩]))
      clear hF hG
      go_wp2
      go_quiet (fail)
      have HS2 := Lib.hid (HS1.out.step (below_drewN w1 nq))
      have HO2 := Lib.hid (HO1.out.trans (Only.drewN b w1 nq))
      have HR2 := Lib.hid ((Only.drewN b w1 nq).heap HR1.out (by omega))
      clear HS1 HO1 HR1 c0 c1 c2
      generalize w1.drewN nq = w2 at HS2 HO2 HR2 ⊢
      go_wp2_with fail
      refine (C2.out w2 HS2.out).mono ?_
      rintro r w3 ⟨x, rfl, ⟨v, rfl, hrows, hfresh⟩, h3, o3⟩
      obtain ⟨ao, m, cap, rfl⟩ := rows_form hrows
      have hRw := (Array.getElem?_eq_some_iff.1 HR2.out).1
      have hRw3 := Nat.lt_of_lt_of_le hRw o3.size
      have HRW := Lib.hid (hrows.heap (w' := w3.alloc (.cells #[.int .i64 Q.kind, .string (str Q.name), .slice ao m cap, .string (str Q.text), .int .i64 Q.at_] 81)) (by simp) (fun g o n c hv => by
        rcases hrows.1 with ⟨_, he⟩ | ⟨g', cap', he, hg', _⟩
        · rw [he] at hv; simp at hv
        · rw [he] at hv; injection hv with e1; injection e1 with e2; injection e2 with e3; subst e3; exact Below.heap_alloc _ _ _ hg'))
      have HFR := Lib.hid (fun g o n c (hv : Value.slice ao m cap = .slice (some ⟨g, o, none⟩) n c) => Nat.lt_of_lt_of_le hRw (hfresh g o n c hv))
      have HS3 := Lib.hid (h3.step ((Below.refl _ _).alloc (Nat.le_refl _) (.cells #[.int .i64 Q.kind, .string (str Q.name), .slice ao m cap, .string (str Q.text), .int .i64 Q.at_] 81)))
      have HO3 := Lib.hid ((HO2.out.trans o3).trans (Only.alloc b w3 (.cells #[.int .i64 Q.kind, .string (str Q.name), .slice ao m cap, .string (str Q.text), .int .i64 Q.at_] 81)))
      have HR3 := Lib.hid ((Only.alloc b w3 (.cells #[.int .i64 Q.kind, .string (str Q.name), .slice ao m cap, .string (str Q.text), .int .i64 Q.at_] 81)).heap (o3.heap HR2.out (by omega)) (by omega))
      have HP3 := Lib.hid (heap_alloc_new w3 (.cells #[.int .i64 Q.kind, .string (str Q.name), .slice ao m cap, .string (str Q.text), .int .i64 Q.at_] 81))
      clear hrows hfresh h3 o3 C2 HS2 HO2 HR2 hRw
      go_upto_region 7 with (fail)
      obtain ⟨P, hPe⟩ : ∃ P, w3.heap.size = P := ⟨_, rfl⟩
      rw [hPe] at HP3 hRw3 ⊢
      clear hPe
      generalize w3.alloc (.cells #[.int .i64 Q.kind, .string (str Q.name), .slice ao m cap, .string (str Q.text), .int .i64 Q.at_] 81) = w4 at HS3 HO3 HR3 HP3 HRW ⊢
      have c2 := HS3.out.c2
      by_cases herr2 : σ2.err = 0
      · rw [herr2] at c2
        have hF3 := Lib.hid (hF2.out.trans (by rw [if_pos herr2]))
        clear hF2 herr2
        have r0 := Lib.cell_of_heap HR3.out 0
        have r1 := Lib.cell_of_heap HR3.out 1
        have r2 := Lib.cell_of_heap HR3.out 2
        have r3 := Lib.cell_of_heap HR3.out 3
        have r4 := Lib.cell_of_heap HR3.out 4
        have f0 := Lib.frozen_of_heap HR3.out 0
        have f1 := Lib.frozen_of_heap HR3.out 1
        have f2 := Lib.frozen_of_heap HR3.out 2
        have f3 := Lib.frozen_of_heap HR3.out 3
        have f4 := Lib.frozen_of_heap HR3.out 4
        simp only [List.getElem?_toArray, List.getElem?_cons_zero, List.getElem?_cons_succ] at r0 r1 r2 r3 r4
        have p0 := Lib.cell_of_heap HP3.out 0
        have p1 := Lib.cell_of_heap HP3.out 1
        have p2 := Lib.cell_of_heap HP3.out 2
        have p3 := Lib.cell_of_heap HP3.out 3
        have p4 := Lib.cell_of_heap HP3.out 4
        simp only [List.getElem?_toArray, List.getElem?_cons_zero, List.getElem?_cons_succ] at p0 p1 p2 p3 p4
        go_wp2
        rw [hF3.out, hG2.out]
        refine bodyPost_ret (res_piece _ rfl _ R rfl _ _ _ _ _ _ 81 (0, 0) (st5_heap HR3.out _ _ _ _ _)) rfl ⟨_, rfl, ⟨_, rfl, ?_, ?_⟩, ?_, ?_⟩
        · exact HRW.out.st5 (fun g o n c hv => by have := HFR.out g o n c hv; omega) _ _ _ _ _
        · intro g o n c hv
          have := HFR.out g o n c hv
          have := HRe.out
          omega
        · exact st5_sc HS3.out (by omega) (by omega) _ _ _ _ _
        · exact st5_only HO3.out (by have := HRe.out; omega) _ _ _ _ _
      · have q2 : (σ2.err != 0) = true := by simp [herr2]
        have q3 : (σ2.err == 0) = false := by simp [herr2]
        have hF3 := Lib.hid (hF2.out.trans (by rw [if_neg herr2]))
        clear hF2 herr2
        have r0 := Lib.cell_of_heap HR3.out 0
        have r1 := Lib.cell_of_heap HR3.out 1
        have r2 := Lib.cell_of_heap HR3.out 2
        have r3 := Lib.cell_of_heap HR3.out 3
        have r4 := Lib.cell_of_heap HR3.out 4
        have f0 := Lib.frozen_of_heap HR3.out 0
        have f1 := Lib.frozen_of_heap HR3.out 1
        have f2 := Lib.frozen_of_heap HR3.out 2
        have f3 := Lib.frozen_of_heap HR3.out 3
        have f4 := Lib.frozen_of_heap HR3.out 4
        simp only [List.getElem?_toArray, List.getElem?_cons_zero, List.getElem?_cons_succ] at r0 r1 r2 r3 r4
        go_wp2
        rw [hF3.out, hG2.out]
        refine bodyPost_ret (res_piece _ rfl _ R rfl _ _ _ _ _ _ 81 (0, 0) (st5_heap HR3.out _ _ _ _ _)) rfl ⟨_, rfl, ⟨_, rfl, rowsB_nil b _, fresh_nil _⟩, ?_, ?_⟩
        · exact st5_sc HS3.out (by omega) (by omega) _ _ _ _ _
        · exact st5_only HO3.out (by have := HRe.out; omega) _ _ _ _ _
    · have q : ((σ1.pos : Int) == (s.size : Int)) = true := by simp; omega
      have hF2 := Lib.hid (hF.out.trans (by rw [if_neg (fun h => hin h.2)]))
      have hG2 := Lib.hid (hG.out.trans (by rw [if_neg (fun h => hin h.2)]))
      clear hF hG C2 hin
      have r0 := Lib.cell_of_heap HR1.out 0
      have r1 := Lib.cell_of_heap HR1.out 1
      have r2 := Lib.cell_of_heap HR1.out 2
      have r3 := Lib.cell_of_heap HR1.out 3
      have r4 := Lib.cell_of_heap HR1.out 4
      have f0 := Lib.frozen_of_heap HR1.out 0
      have f1 := Lib.frozen_of_heap HR1.out 1
      have f2 := Lib.frozen_of_heap HR1.out 2
      have f3 := Lib.frozen_of_heap HR1.out 3
      have f4 := Lib.frozen_of_heap HR1.out 4
      simp only [List.getElem?_toArray, List.getElem?_cons_zero, List.getElem?_cons_succ] at r0 r1 r2 r3 r4
      go_wp2
      go_quiet (fail)
      go_wp2
      rw [hF2.out, hG2.out]
      refine bodyPost_ret (res_piece _ rfl _ R rfl _ _ _ _ _ _ 81 (0, 0) (st5_heap ((Only.drewN b w1 nq).heap HR1.out (by omega)) _ _ _ _ _)) rfl ⟨_, rfl, ⟨_, rfl, rowsB_nil b _, fresh_nil _⟩, ?_, ?_⟩
      · exact st5_sc (HS1.out.step (below_drewN w1 nq)) (by omega) (by omega) _ _ _ _ _
      · exact st5_only (HO1.out.trans (Only.drewN b w1 nq)) (by have := HRe.out; omega) _ _ _ _ _
  · have q2 : (σ1.err != 0) = true := by simp [herr]
    have q3 : (σ1.err == 0) = false := by simp [herr]
    have hF2 := Lib.hid (hF.out.trans (by rw [if_neg (fun h => herr h.1)]))
    have hG2 := Lib.hid (hG.out.trans (by rw [if_neg (fun h => herr h.1)]))
    clear hF hG C2 herr
    have r0 := Lib.cell_of_heap HR1.out 0
    have r1 := Lib.cell_of_heap HR1.out 1
    have r2 := Lib.cell_of_heap HR1.out 2
    have r3 := Lib.cell_of_heap HR1.out 3
    have r4 := Lib.cell_of_heap HR1.out 4
    have f0 := Lib.frozen_of_heap HR1.out 0
    have f1 := Lib.frozen_of_heap HR1.out 1
    have f2 := Lib.frozen_of_heap HR1.out 2
    have f3 := Lib.frozen_of_heap HR1.out 3
    have f4 := Lib.frozen_of_heap HR1.out 4
    simp only [List.getElem?_toArray, List.getElem?_cons_zero, List.getElem?_cons_succ] at r0 r1 r2 r3 r4
    go_wp2
    go_quiet (fail)
    go_wp2
    rw [hF2.out, hG2.out]
    refine bodyPost_ret (res_piece _ rfl _ R rfl _ _ _ _ _ _ 81 (0, 0) (st5_heap ((Only.drewN b w1 nq).heap HR1.out (by omega)) _ _ _ _ _)) rfl ⟨_, rfl, ⟨_, rfl, rowsB_nil b _, fresh_nil _⟩, ?_, ?_⟩
    · exact st5_sc (HS1.out.step (below_drewN w1 nq)) (by omega) (by omega) _ _ _ _ _
    · exact st5_only (HO1.out.trans (Only.drewN b w1 nq)) (by have := HRe.out; omega) _ _ _ _ _
/-- **(*Scanner).Next.** -/
theorem snext (B b : Nat) (s : ByteArray) (σ : St) (w : World) (hS : Sc B b s σ w) :
    Calls Tryz.prog 65 #[.pointer (some ⟨b, 0, none⟩)] w (Gives B b s w (nextP (bl s) σ) (nextS (bl s) σ)) := by
  have C1 := Lib.hid fun w h => spassAll B b s σ w h
  have C2 := Lib.hid fun w h => spiece B b s (passAllS (bl s) σ) w h
  unfold nextP nextS
  generalize passAllS (bl s) σ = σ1 at C1 C2 ⊢
  obtain ⟨Y, hY⟩ : ∃ Y, pieceS (bl s) σ1 = Y := ⟨_, rfl⟩
  rw [hY] at C2 ⊢
  obtain ⟨Q, σ2⟩ := Y
  rw [bl_size]
  exact snext0 B b s σ σ1 w hS Q σ2 _ _ C1 C2 (Lib.hid rfl) (Lib.hid rfl)

/-! ### New -/
/-- A new scanner: in the next block, at the start. -/
def News (s : ByteArray) (w : World) (r : Ending) (w' : World) : Prop := ∃ b, b = w.heap.size ∧ r = .returned (.pointer (some ⟨b, 0, none⟩)) ∧ Sc w.heap.size b s (newS (bl s)) w' ∧ Below w.heap.size w w'
set_option maxHeartbeats 2000000 in
theorem snew (s : ByteArray) (w : World) (hE : EntV w) (hT : Tabs w) (hs : s.size ≤ 4000000000) :
    Calls Tryz.prog 24 #[.string s] w (News s w) := by
  have hb0 := (Below.refl w.heap.size w).alloc (Nat.le_refl _) (.cells #[.string s, .int .i64 0, .int .i64 0, .int .i64 0] 72)
  have HS := Lib.hid (show Sc w.heap.size w.heap.size s ⟨0, 0, 0⟩ (w.alloc (.cells #[.string s, .int .i64 0, .int .i64 0, .int .i64 0] 72)) from
    ⟨Nat.le_refl _, hs, Nat.zero_le _, (Glob.start hE hT).step hb0, heap_alloc_new w _⟩)
  have HB := Lib.hid hb0
  have HT1 := Lib.hid (hT.below hb0)
  clear hE hT hb0
  have hbs := bl_size s
  by_cases hbig : 200000 < s.size
  · have hN : newS (bl s) = wrongS 5 200000 ⟨0, 0, 0⟩ := by unfold newS; rw [if_pos (by rw [hbs]; exact hbig)]; rfl
    have hN := Lib.hid hN
    have hbig' : (200000 : Int) < (s.size : Int) := by omega
    clear hbs
    go_enter Tryz.func24, Tryz.ntmps24
    go_wp2_with fail
    have C := Lib.hid (swrong w.heap.size w.heap.size s ⟨0, 0, 0⟩ _ HS.out 5 200000 (by decide))
    refine C.out.mono ?_
    rintro r w1 ⟨rfl, h1, o1⟩
    go_wp2
    go_ret
    exact ⟨_, rfl, rfl, by rw [hN.out]; exact h1, HB.out.trans (o1.below (Nat.le_refl _) (by simp))⟩
  · have hbig' : decide ((200000 : Int) < (s.size : Int)) = false := decide_eq_false (by omega)
    have CB := ubad s (w.alloc (.cells #[.string s, .int .i64 0, .int .i64 0, .int .i64 0] 72)) (by omega) HT1.out
    obtain ⟨A, hA⟩ : ∃ A, badL (bl s) = A := ⟨_, rfl⟩
    rw [hA] at CB
    have CB := Lib.hid CB
    by_cases hbad : 0 ≤ A
    · have hN : newS (bl s) = wrongS 2 A ⟨0, 0, 0⟩ := by unfold newS; rw [if_neg (by rw [hbs]; exact hbig), hA, if_pos hbad]; rfl
      have hN := Lib.hid hN
      clear hbs hA
      go_enter Tryz.func24, Tryz.ntmps24
      go_wp2_with fail
      refine CB.out.mono ?_
      rintro r w1 ⟨rfl, hb1⟩
      have HS1 := Lib.hid (HS.out.step hb1)
      have HB1 := Lib.hid (HB.out.trans (hb1.mono (by simp)))
      clear hb1 CB HS HB
      have C := Lib.hid (swrong w.heap.size w.heap.size s ⟨0, 0, 0⟩ _ HS1.out 2 A (by decide))
      go_wp2_with fail
      refine C.out.mono ?_
      rintro r w2 ⟨rfl, h2, o2⟩
      go_wp2
      go_ret
      exact ⟨_, rfl, rfl, by rw [hN.out]; exact h2, HB1.out.trans (o2.below (Nat.le_refl _) HB1.out.size)⟩
    · have hN : newS (bl s) = ⟨0, 0, 0⟩ := by unfold newS; rw [if_neg (by rw [hbs]; exact hbig), hA, if_neg hbad]
      have hN := Lib.hid hN
      have hbad' : decide (0 ≤ A) = false := decide_eq_false hbad
      clear hbs hA hbad
      go_enter Tryz.func24, Tryz.ntmps24
      go_wp2_with fail
      refine CB.out.mono ?_
      rintro r w1 ⟨rfl, hb1⟩
      have HS1 := Lib.hid (HS.out.step hb1)
      have HB1 := Lib.hid (HB.out.trans (hb1.mono (by simp)))
      clear hb1 CB HS HB
      go_wp2
      go_ret
      exact ⟨_, rfl, rfl, by rw [hN.out]; exact HS1.out, HB1.out⟩

end Go.Proofs.YtincdacickhdkaaGreatDoor
namespace Go.Proofs.YtincdacickhdkaaGreatDoor
open Go Go.RowKit
set_option maxRecDepth 100000

theorem tl_of {a b : ByteArray} (h : a = b) (l : List UInt8) (hb : b.data.toList = l) : a.toList = l := by rw [h, Lib.toList_data]; exact hb
theorem tl_nq {a b : ByteArray} (h : a ≠ b) (l : List UInt8) (hb : b.data.toList = l) : (a.toList == l) = false := by
  rw [← hb, ← Lib.toList_data, tl_beq]
  exact decide_eq_false h
set_option maxHeartbeats 1000000 in
theorem ptold (n : ByteArray) (w : World) :
    Calls Tryz.prog 89 #[.string n] w fun r w' => r = .returned (.tuple #[.string (tellS n).1, .bool (tellS n).2]) ∧ w' = w := by
  have C := Tryz.strings_CutPrefix n ⟨#[120, 109, 108, 110, 115, 58]⟩ w
  unfold tellS
  by_cases h : n = bXmlns
  · rw [if_pos h]
    have q := tl_of h [120, 109, 108, 110, 115] rfl
    clear C h
    go_enter Tryz.func89, Tryz.ntmps89
    go_wp2
    go_ret2
    exact ⟨rfl, rfl⟩
  · rw [if_neg h]
    have q := tl_nq h [120, 109, 108, 110, 115] rfl
    change Calls _ _ _ _ (fun e w' => e = .returned (.tuple #[.string ⟨(Lib.trimPrefix n.data.toList bXmlnsC.data.toList).toArray⟩, .bool (Lib.hasPrefix n.data.toList bXmlnsC.data.toList)]) ∧ w' = w) at C
    generalize Lib.hasPrefix n.data.toList bXmlnsC.data.toList = A at C ⊢
    generalize (⟨(Lib.trimPrefix n.data.toList bXmlnsC.data.toList).toArray⟩ : ByteArray) = X at C ⊢
    have C := Lib.hid C
    clear h
    go_enter Tryz.func89, Tryz.ntmps89
    go_wp2_with (go_at_call 118; refine C.out.mono ?_; rintro e w' ⟨rfl, rfl⟩)
    go_ret2
    exact ⟨rfl, rfl⟩

/-! ### know -/
theorem tell_info : (Tryz.prog.info? 75).map (fun i => (i.zero, i.size, i.bytes)) = some (some (.agg #[.string ⟨#[]⟩, .string ⟨#[]⟩, .int .i64 0]), 3, 40) := by kernel_rfl
set_option maxHeartbeats 1000000 in
theorem pknow_form (b : Nat) (p s : ByteArray) (w : World) (h : p = bXml ∨ p = bXmlns ∨ (p ≠ bNone ∧ s = bNone)) :
    Calls Tryz.prog 90 #[.pointer (some ⟨b, 0, none⟩), .string p, .string s] w fun r w' => r = .returned (.int .i64 3) ∧ w' = w := by
  by_cases h1 : p = bXml
  · have q1 := tl_of h1 [120, 109, 108] rfl
    clear h h1
    go_enter Tryz.func90, Tryz.ntmps90
    go_wp2
    go_ret
    exact ⟨rfl, rfl⟩
  · have q1 := tl_nq h1 [120, 109, 108] rfl
    by_cases h2 : p = bXmlns
    · have q2 := tl_of h2 [120, 109, 108, 110, 115] rfl
      clear h h1 h2
      go_enter Tryz.func90, Tryz.ntmps90
      go_wp2
      go_ret
      exact ⟨rfl, rfl⟩
    · have q2 := tl_nq h2 [120, 109, 108, 110, 115] rfl
      have h3 : p ≠ bNone ∧ s = bNone := by
        rcases h with h | h | h
        · exact absurd h h1
        · exact absurd h h2
        · exact h
      have q3 := tl_nq h3.1 [] rfl
      have q4 := tl_of h3.2 [] rfl
      clear h h1 h2 h3
      go_enter Tryz.func90, Tryz.ntmps90
      go_wp2
      go_ret
      exact ⟨rfl, rfl⟩

set_option maxHeartbeats 1000000 in
theorem pknow_big (B b d : Nat) (L : List Tell) (p s : ByteArray) (w : World) (hS : Sp B b d L w) (h : ¬ (p = bXml ∨ p = bXmlns ∨ (p ≠ bNone ∧ s = bNone))) (hL : 100 ≤ L.length) :
    Calls Tryz.prog 90 #[.pointer (some ⟨b, 0, none⟩), .string p, .string s] w fun r w' => r = .returned (.int .i64 5) ∧ w' = w := by
  have q1 := tl_nq (fun e => h (.inl e)) [120, 109, 108] rfl
  have q2 := tl_nq (fun e => h (.inr (.inl e))) [120, 109, 108, 110, 115] rfl
  obtain ⟨_, k, cap, hb, _⟩ := hS
  have c1 := Lib.cell_of_heap hb 1
  simp only [List.getElem?_toArray, List.getElem?_cons_zero, List.getElem?_cons_succ] at c1
  have hLi : (100 : Int) ≤ (L.length : Int) := by omega
  by_cases h3 : p = bNone
  · have q3 := tl_of h3 [] rfl
    clear h hb h3 hL
    go_enter Tryz.func90, Tryz.ntmps90
    go_wp2
    go_ret
    exact ⟨rfl, rfl⟩
  · have q3 := tl_nq h3 [] rfl
    have q4 := tl_nq (fun e => h (.inr (.inr ⟨h3, e⟩))) [] rfl
    clear h hb h3 hL
    go_enter Tryz.func90, Tryz.ntmps90
    go_wp2
    go_ret
    exact ⟨rfl, rfl⟩

set_option maxHeartbeats 4000000 in
theorem pknow_ok (B b d : Nat) (L : List Tell) (p s : ByteArray) (w : World) (hS : Sp B b d L w) (h : ¬ (p = bXml ∨ p = bXmlns ∨ (p ≠ bNone ∧ s = bNone))) (hL : L.length < 100) :
    Calls Tryz.prog 90 #[.pointer (some ⟨b, 0, none⟩), .string p, .string s] w fun r w' => r = .returned (.int .i64 0) ∧ Sp B b d (L ++ [⟨p, s, d⟩]) w' ∧ Below B w w' ∧ Apart w w' := by
  have q1 := tl_nq (fun e => h (.inl e)) [120, 109, 108] rfl
  have q2 := tl_nq (fun e => h (.inr (.inl e))) [120, 109, 108, 110, 115] rfl
  have q3 : (p.toList == []) = true ∨ (p.toList == []) = false ∧ (s.toList == []) = false := by
    by_cases h3 : p = bNone
    · left; rw [tl_of h3 [] rfl]; rfl
    · exact .inr ⟨tl_nq h3 [] rfl, tl_nq (fun e => h (.inr (.inr ⟨h3, e⟩))) [] rfl⟩
  have hbl := hS.lt
  have hbase := hS.base
  obtain ⟨_, k, cap, hb, ho⟩ := hS
  have hbk : b ≠ k := own_block_ne ho hb (by decide)
  have c0 := Lib.cell_of_heap hb 0
  have c1 := Lib.cell_of_heap hb 1
  have f1 := Lib.frozen_of_heap hb 1
  simp only [List.getElem?_toArray, List.getElem?_cons_zero, List.getElem?_cons_succ] at c0 c1
  have hLi : ¬ (100 : Int) ≤ (L.length : Int) := by omega
  have HB := Lib.hid hb
  have HO := Lib.hid ho
  clear h hb ho
  go_enter Tryz.func90, Tryz.ntmps90
  obtain ⟨i0, hi, hz0, hz1, hz2⟩ := info_parts tell_info
  have HI := Lib.hid hi
  have HI0 := Lib.hid hz0
  have HI1 := Lib.hid hz1
  have HI2 := Lib.hid hz2
  clear hi hz0 hz1 hz2
  have HX : Hid (∀ (gg cap' : Nat) (w7 : World), w7.ownsRow B 75 3 (.slice (some ⟨gg, 0, none⟩) (L.length + 1) cap') (L.length + 1) (cellsT L ++ [.string p, .string s, .int .i64 d]) → (w.alloc (.cells #[.string p, .string s, .int .i64 d] 75)).grownBy w7 (some k) →
      w7.cell? ⟨b, 1, none⟩ = some (.slice (some ⟨k, 0, none⟩) L.length cap) ∧ w7.frozen? ⟨b, 1, none⟩ = false ∧
      Hid (Sp B b d (L ++ [⟨p, s, d⟩]) (w7.setCell ⟨b, 1, none⟩ (.slice (some ⟨gg, 0, none⟩) (L.length + 1) cap')) ∧ Below B w (w7.setCell ⟨b, 1, none⟩ (.slice (some ⟨gg, 0, none⟩) (L.length + 1) cap')) ∧ Apart w (w7.setCell ⟨b, 1, none⟩ (.slice (some ⟨gg, 0, none⟩) (L.length + 1) cap')))) := by
    refine Lib.hid fun gg cap' w7 hown7 hgrow => ?_
    have hB1 := (Below.refl w.heap.size w).alloc (Nat.le_refl _) (.cells #[.string p, .string s, .int .i64 d] 75)
    have hb1 := (hB1.block b hbl).trans HB.out
    have hs1 := hB1.size
    have hb7 := (hgrow.block b (by omega) (by intro e; exact hbk (by cases e; rfl))).trans hb1
    have hkB := (HO.out.lt k rfl).1
    have p7 := Sp.put (L := L ++ [⟨p, s, d⟩]) (n := L.length + 1) (by simp) hbase hb7 (by rw [cellsT_app]; exact hown7)
    refine ⟨by rw [Lib.cell_of_heap hb7]; rfl, Lib.frozen_of_heap hb7 1, Lib.hid ⟨p7.1, ((hB1.mono (by omega)).grown hgrow (by omega) (fun j e => by cases e; exact hkB)).trans p7.2.1, ((Apart.of hB1).trans (Apart.grown hgrow (fun j e => ?_))).trans p7.2.2⟩⟩
    cases e
    rcases (HO.out.alloc (.cells #[.string p, .string s, .int .i64 d] 75)).2 with ⟨h', _⟩ | ⟨g', cap', cur, h', _, hg', _⟩
    · simp at h'
    · simp only [Value.slice.injEq, Option.some.injEq, Addr.mk.injEq, and_true, true_and] at h'
      obtain ⟨rfl, rfl⟩ := h'
      exact ⟨_, _, _, hg', .inl rfl⟩
  rcases q3 with q3 | ⟨q3, q4⟩
  · go_upto_region 7 with (fail)
    go_region_law (
       refine step_append_lies _ (by rfl) _ _ _ (by rfl) B 75 i0 _ 3 40 Tryz.underlying76 HI.out HI0.out HI1.out HI2.out rfl (by omega) (.slice (some ⟨k, 0, none⟩) L.length cap) L.length (cellsT L) (by rfl) (HO.out.alloc _)
         ⟨w.heap.size, 0, none⟩ 1 1 [.string p, .string s, .int .i64 d] (by rfl) (by rfl) (World.news_of_block (cs := #[.string p, .string s, .int .i64 d]) (t := 75) (fr := (0, 0)) (heap_alloc_new w _)) (by simp [Value.oneCell'])
         (by omega) (by unfold maxLen; omega) (by omega) (by simp; omega) (w.heap.size + 1) (by simp) ?_
       intro gg cap' w7 hown7 hgrow hat hlt
       have hx7 := HX.out gg cap' w7 hown7 ⟨hgrow.os, hgrow.tape, hgrow.output, hgrow.size, hgrow.block⟩
       have k7 := hx7.1
       have g7 := hx7.2.1
       have H7 := hx7.2.2)
    all_goals
      clear hgrow hown7 k7 g7 hx7
      go_wp2
      go_ret
      exact ⟨rfl, H7.out⟩
  · go_upto_region 7 with (fail)
    go_region_law (
       refine step_append_lies _ (by rfl) _ _ _ (by rfl) B 75 i0 _ 3 40 Tryz.underlying76 HI.out HI0.out HI1.out HI2.out rfl (by omega) (.slice (some ⟨k, 0, none⟩) L.length cap) L.length (cellsT L) (by rfl) (HO.out.alloc _)
         ⟨w.heap.size, 0, none⟩ 1 1 [.string p, .string s, .int .i64 d] (by rfl) (by rfl) (World.news_of_block (cs := #[.string p, .string s, .int .i64 d]) (t := 75) (fr := (0, 0)) (heap_alloc_new w _)) (by simp [Value.oneCell'])
         (by omega) (by unfold maxLen; omega) (by omega) (by simp; omega) (w.heap.size + 1) (by simp) ?_
       intro gg cap' w7 hown7 hgrow hat hlt
       have hx7 := HX.out gg cap' w7 hown7 ⟨hgrow.os, hgrow.tape, hgrow.output, hgrow.size, hgrow.block⟩
       have k7 := hx7.1
       have g7 := hx7.2.1
       have H7 := hx7.2.2)
    all_goals
      clear hgrow hown7 k7 g7 hx7
      go_wp2
      go_ret
      exact ⟨rfl, H7.out⟩

/-- **(*Spaces).know.** -/
theorem pknow (B b d : Nat) (L : List Tell) (p s : ByteArray) (w : World) (hS : Sp B b d L w) :
    Calls Tryz.prog 90 #[.pointer (some ⟨b, 0, none⟩), .string p, .string s] w fun r w' => r = .returned (.int .i64 (knowE L p s)) ∧ Sp B b d (if knowE L p s = 0 then L ++ [⟨p, s, d⟩] else L) w' ∧ Below B w w' ∧ Apart w w' := by
  unfold knowE
  by_cases h : p = bXml ∨ p = bXmlns ∨ (p ≠ bNone ∧ s = bNone)
  · rw [if_pos h, if_neg (by decide)]
    exact (pknow_form b p s w h).mono fun r w' ⟨hr, hw⟩ => by subst hw; exact ⟨hr, hS, Below.refl _ _, Apart.refl _⟩
  · rw [if_neg h]
    by_cases hL : 100 ≤ L.length
    · rw [if_pos hL, if_neg (by decide)]
      exact (pknow_big B b d L p s w hS h hL).mono fun r w' ⟨hr, hw⟩ => by subst hw; exact ⟨hr, hS, Below.refl _ _, Apart.refl _⟩
    · rw [if_neg hL, if_pos rfl]
      exact pknow_ok B b d L p s w hS h (by omega)

end Go.Proofs.YtincdacickhdkaaGreatDoor
namespace Go.Proofs.YtincdacickhdkaaGreatDoor
open Go Go.RowKit
set_option maxRecDepth 100000

theorem att_info : (Tryz.prog.info? 48).map (fun i => (i.zero, i.size, i.bytes)) = some (some (.agg #[.string ⟨#[]⟩, .string ⟨#[]⟩]), 2, 32) := by kernel_rfl
/-- Block g holds attributes, from its beginning on. -/
def AttrsAt (w : World) (g : Nat) (A : List Att) : Prop := ∃ cs z, w.heap[g]? = some (.cells cs 48 z) ∧ ∀ j, j < A.length * 2 → cs[j]? = (cellsA A)[j]?
theorem AttrsAt.apart {w w' : World} {g : Nat} {A : List Att} (h : AttrsAt w g A) (ha : Apart w w') : AttrsAt w' g A := by
  obtain ⟨cs, z, h1, h2⟩ := h
  exact ⟨cs, z, ha.heap h1 (by decide) (by decide), h2⟩
theorem AttrsAt.cells {w : World} {g : Nat} {A : List Att} (h : AttrsAt w g A) (j : Nat) (hj : j < A.length) : w.cell? ⟨g, j * 2, none⟩ = some (.string (A[j]'hj).1) ∧ w.cell? ⟨g, j * 2 + 1, none⟩ = some (.string (A[j]'hj).2) := by
  obtain ⟨cs, z, h1, h2⟩ := h
  refine ⟨?_, ?_⟩
  · rw [Lib.cell_of_heap h1, h2 _ (by omega)]; exact cellsA_get A j hj 0 (by decide)
  · rw [Lib.cell_of_heap h1, h2 _ (by omega)]; exact cellsA_get A j hj 1 (by decide)
theorem AttrsAt.new (w : World) (cs : Array Value) (A : List Att) (h : cs.toList = cellsA A) : AttrsAt (w.alloc (.cells cs 48)) w.heap.size A :=
  ⟨cs, (0, 0), heap_alloc_new w _, fun j _ => by rw [← h]; simp⟩
theorem AttrsAt.own {w : World} {base g n cap : Nat} {A : List Att} (h : w.ownsRow base 48 2 (.slice (some ⟨g, 0, none⟩) n cap) n (cellsA A)) (hn : A.length = n) : AttrsAt w g A := by
  subst hn
  rcases h.2 with ⟨h', _⟩ | ⟨g', cap', cur, h', _, hg, _, _, _, ht⟩
  · simp at h'
  · simp only [Value.slice.injEq, Option.some.injEq, Addr.mk.injEq, and_true, true_and] at h'
    obtain ⟨rfl, rfl⟩ := h'
    exact ⟨cur, (0, 0), hg, fun j hj => by rw [← ht, List.getElem?_take, if_pos hj]; simp⟩
/-- What the loop of Enter keeps. -/
structure EnR (B b d : Nat) (A : List Att) (L : List Tell) (w : World) (j : Nat) (v : Value) (R : List Att) (L' : List Tell) (wr : World) : Prop where
  le : j ≤ A.length
  same : enterL d (A.drop j) R L' = enterL d A [] L
  sp : Sp B b d L' wr
  below : Below B w wr
  apart : Apart w wr
  own : wr.ownsRow w.heap.size 48 2 v R.length (cellsA R)
  few : R.length ≤ j
  hB : B ≤ w.heap.size
/-- What Enter leaves. -/
def EnterGives (B b d : Nat) (w : World) (Z : List Att × Int × List Tell) (r : Ending) (w' : World) : Prop :=
  ∃ v, r = .returned (.tuple #[v, .int .i64 Z.2.1]) ∧ w'.ownsRow w.heap.size 48 2 v Z.1.length (cellsA Z.1) ∧ Sp B b d Z.2.2 w' ∧ Below B w w' ∧ Apart w w'

theorem Sp.grown {B b d : Nat} {L : List Tell} {w w' : World} {row : Option Nat} (h : Sp B b d L w) (hg : w.grownBy w' row) (hr : ∀ r, row = some r → ¬ IsT w.heap[r]?) : Sp B b d L w' := by
  have hl := h.lt
  obtain ⟨h0, k, cap, hb, ho⟩ := h
  have hk : IsT w.heap[k]? := by
    rcases ho.2 with ⟨h', _⟩ | ⟨g', cap', cur, h', _, hg', _⟩
    · simp at h'
    · simp only [Value.slice.injEq, Option.some.injEq, Addr.mk.injEq, and_true, true_and] at h'
      obtain ⟨rfl, rfl⟩ := h'
      exact ⟨_, _, _, hg', .inl rfl⟩
  refine ⟨h0, k, cap, (hg.block b hl (fun e => hr b e.symm ⟨_, _, _, hb, .inr rfl⟩)).trans hb, ho.kept hg (.inr fun e => hr k e.symm hk)⟩
theorem Apart.grownNew {w x y : World} {row : Option Nat} (h : Apart w x) (hg : x.grownBy y row) (hr : ∀ r, row = some r → w.heap.size ≤ r) : Apart w y :=
  ⟨Nat.le_trans h.size hg.size, fun j hj hn => (hg.block j (Nat.lt_of_lt_of_le hj h.size) (fun e => by have := hr j e.symm; omega)).trans (h.block j hj hn)⟩
theorem EnR.app {B b d j : Nat} {A R : List Att} {L L' : List Tell} {w w3 w7 : World} {u v : Value} {x : Att} {o : Obj} (h : EnR B b d A L w j u R L' w3) (hj : j < A.length) (hn : enterL d (A.drop (j + 1)) (R ++ [x]) L' = enterL d A [] L)
    (hg : (w3.alloc o).grownBy w7 u.ownBlock) (hown : w7.ownsRow w.heap.size 48 2 v (R.length + 1) (cellsA R ++ [.string x.1, .string x.2])) : EnR B b d A L w (j + 1) v (R ++ [x]) L' w7 := by
  have hB1 := (Below.refl w3.heap.size w3).alloc (Nat.le_refl _) o
  have hlt : ∀ r, u.ownBlock = some r → w.heap.size ≤ r := fun r e => (h.own.lt r e).1
  have hk : ∀ r, u.ownBlock = some r → ¬ IsT (w3.alloc o).heap[r]? := by
    intro r e
    rcases (h.own.alloc o).2 with ⟨rfl, _⟩ | ⟨g', cap', cur, rfl, _, hg', _⟩
    · simp [Value.ownBlock] at e
    · simp only [Value.ownBlock, Option.some.injEq] at e
      subst e
      exact not_IsT hg' (by decide) (by decide)
  have hB := h.hB
  have hs := h.apart.size
  have hs1 := hB1.size
  exact ⟨hj, hn, (h.sp.step hB1).grown hg hk, (h.below.trans (hB1.mono (by omega))).grown hg (by omega) (fun r e => by have := hlt r e; omega), (h.apart.trans (Apart.of hB1)).grownNew hg hlt,
    by rw [List.length_append, cellsA_app]; exact hown, by rw [List.length_append]; have := h.few; simp; omega, hB⟩
theorem EnR.known {B b d j : Nat} {A R : List Att} {L L' L'' : List Tell} {w w3 w7 : World} {u : Value} (h : EnR B b d A L w j u R L' w3) (hj : j < A.length) (hn : enterL d (A.drop (j + 1)) R L'' = enterL d A [] L)
    (hs : Sp B b d L'' w7) (hb : Below B w3 w7) (ha : Apart w3 w7) : EnR B b d A L w (j + 1) u R L'' w7 :=
  ⟨hj, hn, hs, h.below.trans hb, h.apart.trans ha, ha.owns h.own (by decide) (by decide), by have := h.few; omega, h.hB⟩

set_option maxHeartbeats 4000000 in
theorem penter0 (B b d g cap : Nat) (A : List Att) (L : List Tell) (Z : List Att × Int × List Tell) (w : World) (hS : Sp B b d L w) (hd : d ≤ 100000) (hA : AttrsAt w g A) (hAl : A.length ≤ 1000) (hZ : enterL (d + 1) A [] L = Z) :
    Calls Tryz.prog 69 #[.pointer (some ⟨b, 0, none⟩), .slice (some ⟨g, 0, none⟩) A.length cap] w (EnterGives B b (d + 1) w Z) := by
  have hbl := hS.lt
  have hbase := hS.base
  have hR0 : ∀ w1, w1 = w.setCell ⟨b, 0, none⟩ (.int .i64 ((d : Int) + 1)) → EnR B b (d + 1) A L w 0 (.slice none 0 0) [] L w1 := by
    rintro w1 rfl
    obtain ⟨_, k, cap', hb, ho⟩ := hS
    have hbk : b ≠ k := own_block_ne ho hb (by decide)
    exact ⟨Nat.zero_le _, by simp, ⟨hbase, k, cap', heap_put _ hb, ownsRow_setCell_other ho (a := ⟨b, 0, none⟩) (by intro e; exact hbk (by cases e; rfl)) _⟩, (Below.refl B w).setCell (p := ⟨b, 0, none⟩) hbase _, Apart.set hb (.inr rfl) _ _, World.ownsRow_nil _ _ _ _, Nat.le_refl _, by omega⟩
  obtain ⟨_, k, cap', hb, ho⟩ := hS
  have c0 := Lib.cell_of_heap hb 0
  have f0 := Lib.frozen_of_heap hb 0
  simp only [List.getElem?_toArray, List.getElem?_cons_zero] at c0
  have hdi : (d : Int) ≤ 100000 := by omega
  have HR0 := Lib.hid (hR0 _ rfl)
  have HA := Lib.hid hA
  have HZ := Lib.hid hZ
  clear hR0 hb ho hA hZ
  obtain ⟨i0, hi, hz0, hz1, hz2⟩ := info_parts att_info
  have HI := Lib.hid hi
  have HI0 := Lib.hid hz0
  have HI1 := Lib.hid hz1
  have HI2 := Lib.hid hz2
  clear hi hz0 hz1 hz2
  go_enter Tryz.func69, Tryz.ntmps69
  go_wp2
  go_loopg [6, 23] A.length (fun gh rest cnt wr => ∃ j v R L', gh + j = A.length ∧ rest = v ∧ cnt = .int .i64 (j : Nat) ∧ EnR B b (d + 1) A L w j v R L' wr)
  case atStart => exact ⟨0, _, [], L, by omega, rfl, rfl, HR0.out⟩
  case round =>
    obtain ⟨j, v, R, L', hg, hv, rfl, hrel⟩ := hrel
    obtain ⟨ao, cp, rfl⟩ : ∃ ao cp, v = .slice ao R.length cp := by
      rcases hrel.own.2 with ⟨hv, h0⟩ | ⟨g', cap', cur, hv, _⟩
      · exact ⟨none, 0, by rw [hv, h0]⟩
      · exact ⟨_, _, hv⟩
    subst hv
    have hsame := hrel.same
    by_cases hj : j < A.length
    · have hAw := HA.out.apart hrel.apart
      obtain ⟨a0, a1⟩ := hAw.cells j hj
      obtain ⟨x, hx⟩ : ∃ x, A[j]'hj = x := ⟨_, rfl⟩
      rw [hx] at a0 a1
      have hdrop : A.drop j = x :: A.drop (j + 1) := by rw [List.drop_eq_getElem_cons hj, hx]
      rw [hdrop, HZ.out] at hsame
      unfold enterL at hsame
      obtain ⟨nm, vl⟩ := x
      simp only at a0 a1 hsame
      have hji : (j : Int) < (A.length : Int) := by omega
      have C1 := ptold nm
      have hB3 := (Below.refl wr.heap.size wr).alloc (Nat.le_refl _) (.cells #[.string nm, .string vl] 48)
      have hS3 := hrel.sp.step hB3
      have hR3 : EnR B b (d + 1) A L w j (.slice ao R.length cp) R L' (wr.alloc (.cells #[.string nm, .string vl] 48)) :=
        ⟨hrel.le, hrel.same, hS3, hrel.below.trans (hB3.mono (by have := hrel.sp.lt; have := hrel.sp.base; omega)), hrel.apart.trans (Apart.of hB3), own_kept hrel.own hB3, hrel.few, hrel.hB⟩
      obtain ⟨⟨P, T⟩, hT⟩ : ∃ PT, tellS nm = PT := ⟨_, rfl⟩
      rw [hT] at hsame C1
      simp only at hsame C1
      have C1 := Lib.hid C1
      have HB := Lib.hid (heap_alloc_new wr (.cells #[.string nm, .string vl] 48))
      clear hT hAw hx hdrop hB3 hS3 hrel
      cases T with
      | false =>
        rw [if_pos rfl] at hsame
        have HR3 := Lib.hid hR3
        have HS := Lib.hid (hsame.trans HZ.out.symm)
        clear hsame hR3
        have hR1000 : R.length ≤ 1000 := by have := HR3.out.few; omega
        have hsz := Lib.hid HR3.out.apart.size
        have hsz3 : w.heap.size ≤ wr.heap.size + 1 := by have := hsz.out; simpa using this
        have happ := Lib.hid (fun (w7 : World) (v : Value) hg hown => HR3.out.app (v := v) (w7 := w7) (x := (nm, vl)) (o := .cells #[.string nm, .string vl] 48) hj HS.out hg hown)
        have HO := Lib.hid HR3.out.own
        have hj1 := Lib.hid (show gk - 1 + (j + 1) = A.length by omega)
        have hj2 := Lib.hid (show gk - 1 < gk by omega)
        have hRl : (R ++ [(nm, vl)]).length = R.length + 1 := by simp
        clear HS HR3 hj hg
        go_wp2_with fail
        refine (C1.out _).mono ?_
        rintro r w4 ⟨rfl, rfl⟩
        clear C1
        go_wp2_with (
          at_builtin
          refine wpList_append_lies _ (by rfl) _ _ _ (by rfl) w.heap.size 48 i0 _ 2 32 Tryz.underlying22 HI.out HI0.out HI1.out HI2.out rfl (by omega) (.slice ao R.length cp) R.length (cellsA R) (by rfl) (HO.out.alloc _)
            ⟨wr.heap.size + 1, 0, none⟩ 1 1 [.string nm, .string vl] (by rfl) (by rfl) (World.news_of_block (cs := #[.string nm, .string vl]) (t := 48) (fr := (0, 0)) (by have := heap_alloc_new (wr.alloc (.cells #[.string nm, .string vl] 48)) (.cells #[.string nm, .string vl] 48); rw [World.size_alloc] at this; exact this)) (by simp [Value.oneCell'])
            (by omega) (by unfold maxLen; omega) (by omega) (by simp; omega) (wr.heap.size + 1 + 1) (by simp) ?_
          intro gg cap' w7 hown7 hgrow hat hlt)
        have H7 := Lib.hid (happ.out _ _ hgrow hown7)
        clear hown7 hgrow hat hlt
        go_roundg (gk - 1)
        case measure => exact hj2.out
        case rel => exact ⟨j + 1, _, R ++ [(nm, vl)], L', hj1.out, by first | rfl | rw [hRl], by simp, H7.out⟩
      | true =>
        rw [if_neg (by decide)] at hsame
        have hcells : (wr.alloc (.cells #[.string nm, .string vl] 48)).cell? ⟨wr.heap.size, 1, none⟩ = some (.string vl) := by rw [Lib.cell_of_heap HB.out]; rfl
        obtain ⟨E, hE⟩ : ∃ E, knowE L' P vl = E := ⟨_, rfl⟩
        have C2 := pknow B b (d + 1) L' P vl _ hR3.sp
        rw [hE] at hsame C2
        have hj1 := Lib.hid (show gk - 1 + (j + 1) = A.length by omega)
        have hj2 := Lib.hid (show gk - 1 < gk by omega)
        by_cases hE0 : E = 0
        · subst hE0
          rw [if_pos rfl] at hsame C2
          have C2 := Lib.hid C2
          have happ := Lib.hid (fun (w7 : World) hs hb ha => hR3.known (w7 := w7) hj (hsame.trans HZ.out.symm) hs hb ha)
          clear hsame hE hR3 hj hg
          go_wp2_with fail
          refine (C1.out _).mono ?_
          rintro r w4 ⟨rfl, rfl⟩
          go_wp2_with fail
          refine C2.out.mono ?_
          rintro r w5 ⟨rfl, h5, hb5, ha5⟩
          have H7 := Lib.hid (happ.out _ h5 hb5 ha5)
          clear h5 hb5 ha5 C2
          go_wp2
          go_roundg (gk - 1)
          case measure => exact hj2.out
          case rel => exact ⟨j + 1, _, R, _, hj1.out, rfl, by simp, H7.out⟩
        · rw [if_neg hE0] at hsame C2
          have C2 := Lib.hid C2
          have HS : Hid (([], E, L') = Z) := Lib.hid hsame
          have q : (E == 0) = false := beq_eq_false_iff_ne.2 hE0
          have q' : (E != 0) = true := by simp [hE0]
          have HR := Lib.hid hR3
          clear hsame hE hR3 hj hg hE0
          go_wp2_with fail
          refine (C1.out _).mono ?_
          rintro r w4 ⟨rfl, rfl⟩
          go_wp2_with fail
          refine C2.out.mono ?_
          rintro r w5 ⟨rfl, h5, hb5, ha5⟩
          have H7 := Lib.hid (And.intro h5 (And.intro (HR.out.below.trans hb5) (HR.out.apart.trans ha5)))
          clear h5 hb5 ha5 C2
          go_wp2
          go_ret2
          exact ⟨.slice none 0 0, by rw [← HS.out]; rfl, by rw [← HS.out]; exact World.ownsRow_nil _ _ _ _, by rw [← HS.out]; exact H7.out.1, H7.out.2.1, H7.out.2.2⟩
    · obtain rfl : j = A.length := by have := hrel.le; omega
      have HR := Lib.hid hrel
      have HS : Hid ((R, 0, L') = Z) := Lib.hid (by rw [List.drop_length] at hsame; rw [← HZ.out, ← hsame]; rfl)
      clear hsame hrel hg
      go_wp2
      go_ret2
      exact ⟨.slice ao R.length cp, by rw [← HS.out]; rfl, by rw [← HS.out]; exact HR.out.own, by rw [← HS.out]; exact HR.out.sp, HR.out.below, HR.out.apart⟩

/-- **(*Spaces).Enter.** -/
theorem penter (B b d g cap : Nat) (A : List Att) (L : List Tell) (w : World) (hS : Sp B b d L w) (hd : d ≤ 100000) (hA : AttrsAt w g A) (hAl : A.length ≤ 1000) :
    Calls Tryz.prog 69 #[.pointer (some ⟨b, 0, none⟩), .slice (some ⟨g, 0, none⟩) A.length cap] w (EnterGives B b (d + 1) w (enterL (d + 1) A [] L)) :=
  penter0 B b d g cap A L _ w hS hd hA hAl rfl

end Go.Proofs.YtincdacickhdkaaGreatDoor
namespace Go.Proofs.YtincdacickhdkaaGreatDoor
open Go Go.RowKit
set_option maxRecDepth 100000

theorem setCells_heap {b : Nat} {t : TypeId} {z : Nat × Nat} : ∀ (vs : List Value) (o : Nat) (w : World) (cs : Array Value), w.heap[b]? = some (.cells cs t z) →
    ∃ cs', (w.setCells b o vs).heap[b]? = some (.cells cs' t z) ∧ cs'.size = cs.size ∧ ∀ j, j < o → cs'[j]? = cs[j]?
  | [], _, _, cs, h => ⟨cs, h, rfl, fun _ _ => rfl⟩
  | v :: vs, o, w, cs, h => by
    obtain ⟨cs', h1, h2, h3⟩ := setCells_heap vs (o + 1) (w.setCell ⟨b, o, none⟩ v) _ (heap_put v h)
    refine ⟨cs', h1, by rw [h2]; simp, fun j hj => ?_⟩
    rw [h3 j (by omega), Array.getElem?_setIfInBounds_ne (by omega)]
theorem setCells_grown (b : Nat) : ∀ (vs : List Value) (o : Nat) (w : World), w.grownBy (w.setCells b o vs) (some b)
  | [], _, _ => ⟨rfl, rfl, rfl, Nat.le_refl _, fun _ _ _ => rfl⟩
  | v :: vs, o, w => by
    have ih := setCells_grown b vs (o + 1) (w.setCell ⟨b, o, none⟩ v)
    have e : (w.setCell ⟨b, o, none⟩ v).heap.size = w.heap.size := by simp [World.setCell]
    exact ⟨ih.os, ih.tape, ih.output, by rw [← e]; exact ih.size, fun j hj hne => (ih.block j (by omega) hne).trans (Below.heap_setCell _ _ _ _ (fun e' => hne (by rw [e'])))⟩
theorem grown_trans {a b c : World} {row : Option Nat} (h : a.grownBy b row) (k : b.grownBy c row) : a.grownBy c row :=
  ⟨k.os.trans h.os, k.tape.trans h.tape, k.output.trans h.output, Nat.le_trans h.size k.size, fun j hj hne => (k.block j (Nat.lt_of_lt_of_le hj h.size) hne).trans (h.block j hj hne)⟩
theorem grown_of_below {w w' : World} (h : Below w.heap.size w w') (row : Option Nat) : w.grownBy w' row := ⟨h.os, h.tape, h.output, h.size, fun j hj _ => h.block j hj⟩
/-- The first ones of a row, behind a clearing of the others. -/
theorem own_cleared {w : World} {base g n cap : Nat} {e : TypeId} {z : Nat} {xs : List Value} (h : w.ownsRow base e z (.slice (some ⟨g, 0, none⟩) n cap) n xs) (m : Nat) (hm : m ≤ n) (vs : List Value) :
    (w.setCells g (m * z) vs).ownsRow base e z (.slice (some ⟨g, 0, none⟩) m cap) m (xs.take (m * z)) := by
  have hmz : m * z ≤ n * z := Nat.mul_le_mul_right z hm
  refine ⟨by rw [List.length_take, h.1]; omega, .inr ?_⟩
  rcases h.2 with ⟨h', _⟩ | ⟨g', cap', cur, h', hb, hg, hnc, hcm, hcs, ht⟩
  · simp at h'
  · simp only [Value.slice.injEq, Option.some.injEq, Addr.mk.injEq, and_true, true_and] at h'
    obtain ⟨rfl, rfl⟩ := h'
    obtain ⟨cs', h1, h2, h3⟩ := setCells_heap vs (m * z) w cur hg
    refine ⟨g, cap, cs', rfl, hb, h1, Nat.le_trans hm hnc, hcm, by rw [h2]; exact hcs, ?_⟩
    rw [← ht, List.take_take, Nat.min_eq_left hmz]
    apply List.ext_getElem?
    intro i
    rw [List.getElem?_take, List.getElem?_take]
    by_cases hi : i < m * z
    · rw [if_pos hi, if_pos hi, Array.getElem?_toList, Array.getElem?_toList]
      exact h3 i hi
    · rw [if_neg hi, if_neg hi]
theorem cellsT_take (L : List Tell) (m : Nat) (hm : m ≤ L.length) : (cellsT L).take (m * 3) = cellsT (L.take m) := by
  have h : cellsT L = cellsT (L.take m) ++ cellsT (L.drop m) := by rw [← cellsT_app, List.take_append_drop]
  have hl : (cellsT (L.take m)).length = m * 3 := by rw [cellsT_len, List.length_take, Nat.min_eq_left hm]
  rw [h, ← hl]
  exact List.take_left
/-- clear at tellings. -/
theorem run_clear_tells (w : World) (ty : TypeId) (b o n c : Nat) (hn : 0 < n) (hc : ∀ j, j < n * 3 → (w.cell? ⟨b, o + j, none⟩).isSome = true) (hf : ∀ j, j < n * 3 → w.frozen? ⟨b, o + j, none⟩ = false) :
    ∃ vs, (Builtin.clear_ #[76] ty #[.slice (some ⟨b, o, none⟩) n c]).run Tryz.prog w = .ok (.tuple #[]) (w.setCells b o vs) := by
  have hv : (zeroValue 75).run Tryz.prog w = .ok (.agg #[.string ⟨#[]⟩, .string ⟨#[]⟩, .int .i64 0]) w := Tryz.zeroValue75 w
  obtain ⟨vs, hvs⟩ : ∃ vs, (Builtin.zeroCells (#[.string ⟨#[]⟩, .string ⟨#[]⟩, .int .i64 0] : Array Value) n).toList = vs := ⟨_, rfl⟩
  have hlen : vs.length = n * 3 := by rw [← hvs]; simp [Builtin.zeroCells]
  have hone : ∀ v ∈ vs, v.oneCell' = true := by
    intro v hv'
    rw [← hvs] at hv'
    simp [Builtin.zeroCells] at hv'
    obtain ⟨i, hi, rfl⟩ := hv'
    have h3 : i % 3 < 3 := Nat.mod_lt _ (by decide)
    generalize i % 3 = r at h3
    match r, h3 with
    | 0, _ => rfl
    | 1, _ => rfl
    | 2, _ => rfl
    | r + 3, h => omega
  have hst := run_storeCells_cells (P := Tryz.prog) b o vs 0 w (by rw [hlen]; simpa using hc) (by rw [hlen]; simpa using hf) hone
  simp only [Nat.add_zero] at hst
  obtain ⟨m, rfl⟩ : ∃ m, n = m + 1 := ⟨n - 1, by omega⟩
  refine ⟨vs, ?_⟩
  simp [Builtin.clear_, run_underlying Tryz.underlying76, hv, Value.cells, hvs, hst]

set_option maxHeartbeats 1000000 in
/-- The function that Leave hands on. -/
theorem pcl (q b dd : Nat) (p s : ByteArray) (d : Nat) (w : World) (hq : q < w.heap.size) (hb : b < w.heap.size) (cq : w.cell? ⟨q, 0, none⟩ = some (.pointer (some ⟨b, 0, none⟩))) (cb : w.cell? ⟨b, 0, none⟩ = some (.int .i64 dd)) :
    Calls Tryz.prog 72 #[.agg #[.string p, .string s, .int .i64 d], .pointer (some ⟨q, 0, none⟩)] w fun r w' => r = .returned (.bool (decide (dd < d))) ∧ Below w.heap.size w w' := by
  have hB1 := (Below.refl w.heap.size w).alloc (Nat.le_refl _) (.cells #[.string p, .string s, .int .i64 d] 75)
  have cq1 := (hB1.cell (p := ⟨q, 0, none⟩) hq).trans cq
  have cb1 := (hB1.cell (p := ⟨b, 0, none⟩) hb).trans cb
  have H := Lib.hid hB1
  clear cq cb hB1
  go_enter Tryz.func72, Tryz.ntmps72
  go_wp2
  go_quiet (fail)
  go_wp2
  go_ret
  exact ⟨rfl, H.out.trans (below_drew_n _ _ nq)⟩

set_option maxHeartbeats 2000000 in
/-- slices.IndexFunc: the first one of those to go. -/
theorem pidx (q b k cap dd : Nat) (L : List Tell) (m : Nat) (x : Int) (w : World) (hx : x = if m = L.length then -1 else (m : Int)) (hq : q < w.heap.size) (hb : b < w.heap.size) (hk : k < w.heap.size) (hlen : L.length ≤ 1000) (hm : m ≤ L.length)
    (cq : w.cell? ⟨q, 0, none⟩ = some (.pointer (some ⟨b, 0, none⟩))) (cb : w.cell? ⟨b, 0, none⟩ = some (.int .i64 dd))
    (hc : ∀ j (h : j < L.length), w.cell? ⟨k, j * 3, none⟩ = some (.string (L[j]'h).p) ∧ w.cell? ⟨k, j * 3 + 1, none⟩ = some (.string (L[j]'h).s) ∧ w.cell? ⟨k, j * 3 + 2, none⟩ = some (.int .i64 (L[j]'h).d))
    (h1 : ∀ j (h : j < L.length), j < m → (L[j]'h).d ≤ dd) (h2 : ∀ j (h : j < L.length), m ≤ j → dd < (L[j]'h).d) :
    Calls Tryz.prog 93 #[.slice (some ⟨k, 0, none⟩) L.length cap, .func (.func 72) #[] #[.pointer (some ⟨q, 0, none⟩)]] w fun r w' => r = .returned (.int .i64 x) ∧ Below w.heap.size w w' := by
  have HX := Lib.hid hx
  clear hx
  have HC := Lib.hid hc
  have H1 := Lib.hid h1
  have H2 := Lib.hid h2
  have HQ := Lib.hid cq
  have HB := Lib.hid cb
  clear hc h1 h2 cq cb
  go_enter Tryz.func93, Tryz.ntmps93
  go_wp2
  go_loopg [8] (m + 1) (fun g i wr => ∃ j : Nat, g + j = m + 1 ∧ j ≤ m ∧ i = .int .i64 j ∧ Below w.heap.size w wr)
  case atStart => exact ⟨0, rfl, Nat.zero_le _, rfl, Below.refl _ _⟩
  case round =>
    obtain ⟨j, hg, hj, rfl, hBw⟩ := hrel
    by_cases hlt : j < L.length
    · obtain ⟨b0, b1, b2⟩ := HC.out j hlt
      have c0 := (hBw.cell (p := ⟨k, j * 3, none⟩) hk).trans b0
      have c1 := (hBw.cell (p := ⟨k, j * 3 + 1, none⟩) hk).trans b1
      have c2 := (hBw.cell (p := ⟨k, j * 3 + 2, none⟩) hk).trans b2
      clear b0 b1 b2
      have C := fun p s d => pcl q b dd p s d wr (Nat.lt_of_lt_of_le hq hBw.size) (Nat.lt_of_lt_of_le hb hBw.size) ((hBw.cell (p := ⟨q, 0, none⟩) hq).trans HQ.out) ((hBw.cell (p := ⟨b, 0, none⟩) hb).trans HB.out)
      have hltz : (j : Int) < (L.length : Int) := by omega
      have HW := Lib.hid hBw
      clear hBw
      by_cases hjm : j < m
      · have hd := H1.out j hlt hjm
        obtain ⟨t, ht⟩ : ∃ t, L[j]'hlt = t := ⟨_, rfl⟩
        rw [ht] at c0 c1 c2 hd
        have C := C t.p t.s t.d
        rw [decide_eq_false (by omega)] at C
        have C := Lib.hid C
        have hf := Lib.hid (show (m + 1 - (j + 1)) + (j + 1) = m + 1 by omega)
        have hjm := Lib.hid hjm
        clear ht hd hlt hj
        go_wp2_with fail
        refine C.out.mono ?_
        rintro r w2 ⟨rfl, hB2⟩
        have HW2 := Lib.hid (HW.out.trans (hB2.mono HW.out.size))
        clear hB2 C
        go_wp2
        go_roundg (m + 1 - (j + 1))
        case measure => have := hjm.out; omega
        case rel => exact ⟨j + 1, hf.out, hjm.out, by simp, HW2.out⟩
      · have hd := H2.out j hlt (by omega)
        obtain ⟨t, ht⟩ : ∃ t, L[j]'hlt = t := ⟨_, rfl⟩
        rw [ht] at c0 c1 c2 hd
        have C := C t.p t.s t.d
        rw [decide_eq_true (by omega)] at C
        have C := Lib.hid C
        obtain rfl : j = m := by omega
        have hR := Lib.hid (show x = j by rw [HX.out, if_neg (by omega)])
        clear ht hd hlt hj hjm
        go_wp2_with fail
        refine C.out.mono ?_
        rintro r w2 ⟨rfl, hB2⟩
        have HW2 := Lib.hid (HW.out.trans (hB2.mono HW.out.size))
        clear hB2 C
        go_wp2
        go_ret
        exact ⟨by rw [hR.out]; rfl, HW2.out⟩
    · obtain rfl : j = L.length := by omega
      have hR := Lib.hid (show x = -1 by rw [HX.out, if_pos (by omega)])
      have HW := Lib.hid hBw
      clear hBw hj hg
      go_wp2
      go_ret
      exact ⟨by rw [hR.out]; rfl, HW.out⟩

set_option maxHeartbeats 4000000 in
/-- slices.DeleteFunc: those to go stand behind those to stay. -/
theorem pdel (B q b k cap dd : Nat) (L : List Tell) (m : Nat) (w : World) (hq : q < w.heap.size) (hb : b < w.heap.size) (hlen : L.length ≤ 1000) (hm : m ≤ L.length)
    (cq : w.cell? ⟨q, 0, none⟩ = some (.pointer (some ⟨b, 0, none⟩))) (cb : w.cell? ⟨b, 0, none⟩ = some (.int .i64 dd))
    (ho : w.ownsRow B 75 3 (.slice (some ⟨k, 0, none⟩) L.length cap) L.length (cellsT L))
    (h1 : ∀ j (h : j < L.length), j < m → (L[j]'h).d ≤ dd) (h2 : ∀ j (h : j < L.length), m ≤ j → dd < (L[j]'h).d) :
    Calls Tryz.prog 71 #[.slice (some ⟨k, 0, none⟩) L.length cap, .func (.func 72) #[] #[.pointer (some ⟨q, 0, none⟩)]] w fun r w' =>
      r = .returned (.slice (some ⟨k, 0, none⟩) m cap) ∧ w'.ownsRow B 75 3 (.slice (some ⟨k, 0, none⟩) m cap) m (cellsT (L.take m)) ∧ w.grownBy w' (some k) := by
  have hk : k < w.heap.size := (ho.lt k rfl).2
  have hcap : L.length ≤ cap := by
    rcases ho.2 with ⟨h', _⟩ | ⟨g', cap', cur, h', _, _, hnc, _⟩
    · simp at h'
    · simp only [Value.slice.injEq, Option.some.injEq, Addr.mk.injEq, and_true, true_and] at h'
      obtain ⟨rfl, rfl⟩ := h'
      exact hnc
  obtain ⟨x, hx⟩ : ∃ x : Int, x = if m = L.length then -1 else (m : Int) := ⟨_, rfl⟩
  have hc := fun j h => row_cells ho j h
  have C1 := Lib.hid (pidx q b k cap dd L m x w hx hq hb hk hlen hm cq cb hc h1 h2)
  have HO := Lib.hid ho
  have HC := Lib.hid hc
  have H2 := Lib.hid h2
  have HQ := Lib.hid cq
  have HB := Lib.hid cb
  clear ho hc h1 h2 cq cb
  by_cases hml : m = L.length
  · rw [if_pos hml] at hx
    subst hml hx
    go_enter Tryz.func71, Tryz.ntmps71
    go_wp2_with fail
    refine C1.out.mono ?_
    rintro r w1 ⟨rfl, hB1⟩
    go_wp2
    go_ret
    exact ⟨rfl, by rw [List.take_length]; exact own_kept HO.out hB1, grown_of_below hB1 _⟩
  · rw [if_neg hml] at hx
    subst hx
    have hne : ((m : Int) == -1) = false := beq_eq_false_iff_ne.2 (by omega)
    have hlt : (m : Int) < (L.length : Int) := by omega
    go_enter Tryz.func71, Tryz.ntmps71
    go_wp2_with fail
    refine C1.out.mono ?_
    rintro r w1 ⟨rfl, hB1⟩
    clear C1
    go_wp2
    go_loopg [5, 6] (L.length) (fun g x5 i wr => ∃ j : Nat, L.length - j ≤ g ∧ j ≤ L.length ∧ m < j ∧ x5 = .int .i64 m ∧ i = .int .i64 j ∧ Below w.heap.size w wr)
    case atStart => exact ⟨m + 1, by omega, by omega, by omega, rfl, by simp, hB1⟩
    case round =>
      obtain ⟨j, hg, hjl, hmj, rfl, rfl, hBw⟩ := hrel
      by_cases hjl' : j < L.length
      · obtain ⟨b0, b1, b2⟩ := HC.out j hjl'
        have c0 := (hBw.cell (p := ⟨k, j * 3, none⟩) hk).trans b0
        have c1 := (hBw.cell (p := ⟨k, j * 3 + 1, none⟩) hk).trans b1
        have c2 := (hBw.cell (p := ⟨k, j * 3 + 2, none⟩) hk).trans b2
        have hd := H2.out j hjl' (by omega)
        clear b0 b1 b2
        obtain ⟨t, ht⟩ : ∃ t, L[j]'hjl' = t := ⟨_, rfl⟩
        rw [ht] at c0 c1 c2 hd
        have hB2 := hBw.alloc hBw.size (.cells #[.string t.p, .string t.s, .int .i64 t.d] 75)
        have C := pcl q b dd t.p t.s t.d (wr.alloc (.cells #[.string t.p, .string t.s, .int .i64 t.d] 75)) (Nat.lt_of_lt_of_le hq hB2.size) (Nat.lt_of_lt_of_le hb hB2.size) ((hB2.cell (p := ⟨q, 0, none⟩) hq).trans HQ.out) ((hB2.cell (p := ⟨b, 0, none⟩) hb).trans HB.out)
        rw [decide_eq_true hd] at C
        have C := Lib.hid C
        have hltz : (j : Int) < (L.length : Int) := by omega
        have HW := Lib.hid hB2
        have hnum := Lib.hid (show j + 1 ≤ L.length ∧ m < j + 1 ∧ L.length - (j + 1) < gk by omega)
        clear hBw hB2 ht hd hjl' hjl hmj hg hlt
        go_wp2_with fail
        refine C.out.mono ?_
        rintro r w2 ⟨rfl, hB2⟩
        have HW2 := Lib.hid (HW.out.trans (hB2.mono HW.out.size))
        clear hB2 C
        go_wp2
        go_roundg (L.length - (j + 1))
        case measure => exact hnum.out.2.2
        case rel => exact ⟨j + 1, Nat.le_refl _, hnum.out.1, hnum.out.2.1, rfl, by simp, HW2.out⟩
      · obtain rfl : j = L.length := by omega
        have ho := own_kept HO.out hBw
        have hsp : ∀ i, i < (L.length - m) * 3 → (wr.cell? ⟨k, m * 3 + i, none⟩).isSome = true := fun i hi => by
          rw [ho.cellAt _ (by omega), List.getElem?_eq_getElem (by rw [cellsT_len]; omega)]; rfl
        have hcl := fun ty => run_clear_tells wr ty k (m * 3) (L.length - m) (cap - m) (by omega) hsp (fun i _ => ho.frozenAt _)
        have HOC := Lib.hid (fun vs => own_cleared ho m hm vs)
        have HW := Lib.hid hBw
        have e1 : (L.length : Int) - (m : Int) = ((L.length - m : Nat) : Int) := by omega
        have e2 : (cap : Int) - (m : Int) = ((cap - m : Nat) : Int) := by omega
        have hmc : (m : Int) ≤ (cap : Int) := by omega
        have hmcn : ¬ cap = m := by omega
        have hml' : (m : Int) ≤ (L.length : Int) := by omega
        have hlc : (L.length : Int) ≤ (cap : Int) := by omega
        obtain ⟨vs, hvs⟩ := hcl 0
        clear ho hsp hcl hBw hg hjl
        go_wp2
        go_ret
        exact ⟨rfl, by rw [← cellsT_take L m hm]; exact HOC.out vs, grown_trans (grown_of_below HW.out _) (setCells_grown k vs _ _)⟩

end Go.Proofs.YtincdacickhdkaaGreatDoor
