/-
  The walk of the law SpacePlays.
-/
import Derived.Test.YtjmpgefjoopigaaDoorSpacePl
namespace Go.Proofs.YtjmpgefjoopigaaDoor
open Go Go.RowKit
set_option maxRecDepth 100000

set_option maxHeartbeats 8000000 in
theorem plays05 (ao : Option Addr) (n cap : Nat) (w : World) (hT : Tabs w) (hM : MaxL w) (hn : n ≤ maxLen) (hA : ActsIn w ao n) :
    Calls Tryd.prog 3 #[.slice ao n cap] w fun e w' => e = .returned (.bool true) ∧ Below w.heap.size w w' := by
  have HT := Lib.hid hT
  have HM := Lib.hid hM
  have C1 := Lib.hid (pnew w)
  have HA := Lib.hid hA
  have hn' : (n : Int) ≤ 9223372036854775807 := by unfold maxLen at hn; omega
  clear hT hM hA hn
  go_enter Tryd.func3, Tryd.ntmps3
  go_wp2_with fail
  refine C1.out.mono ?_
  rintro r w1 ⟨b, rfl, hS, hB⟩
  have HR0 := Lib.hid (PlR.first hS hB)
  clear hS hB C1
  go_wp2_with fail
  go_loopg [4, 5] 30 (fun g mv i wr => ∃ (j d : Nat) (L : List Tell) (M : List Row3), g + j = 30 ∧ i = .int .i64 j ∧ d ≤ j ∧ PlR b w d L M mv wr)
  case atStart => exact ⟨0, 0, _, _, rfl, rfl, Nat.le_refl _, HR0.out⟩
  case round =>
    obtain ⟨j, d, L, M, hg, hi, hdj, hR⟩ := hrel
    subst hi
    obtain ⟨gh0, hgh⟩ : ∃ gh0, gh0 = gk := ⟨_, rfl⟩
    rw [← hgh] at hg
    by_cases hj : j < n
    · have hji : (j : Int) < (n : Int) := by omega
      by_cases hj30 : j < 30
      · have hji30 : (j : Int) < 30 := by omega
        obtain ⟨la, lo, hao, hla, hcells⟩ := HA.out (by omega)
        subst hao
        obtain ⟨z, hz⟩ := hcells j hj 0 (by decide)
        obtain ⟨x, hx⟩ : ∃ x : Nat, bits .and .i64 z 3 = (x : Int) := by
          obtain ⟨x, _, h⟩ := mask_any z 2 (by decide) 3 (by decide)
          exact ⟨x, h⟩
        have c0 : wr.cell? ⟨la, lo + j * 4, none⟩ = some (.int .i64 z) := (hR.below.cell (p := ⟨la, lo + j * 4, none⟩) hla).trans hz
        have hf := hR.stk.facts
        obtain ⟨g, cp, hmv, hg1, hg2⟩ := hR.own.form (by omega)
        obtain ⟨mn, hml⟩ : ∃ mn, M.length = mn := ⟨_, rfl⟩
        rw [hml] at hmv
        subst hmv
        have hmd : mn = d + 1 := hml.symm.trans hf.1
        have hj1 := Lib.hid (show gh0 - 1 + (j + 1) = 30 ∧ gh0 - 1 < gk by omega)
        by_cases hx3 : x = 3
        · have q3 : ((x : Int) == 3) = true := by simp; omega
          -- an element ends
          by_cases hd0 : d = 0
          · have hmvi : ¬ (1 : Int) < (mn : Int) := by omega
            have CL := pleave_out w.heap.size b L wr (by have := hR.sp; rw [hd0] at this; exact this)
            have CL := Lib.hid CL
            have HRk := Lib.hid hR
            have hmn : (mn : Int) - 1 = (d : Int) := by omega
            have hd1 := Lib.hid (show d ≤ j + 1 by omega)
            have hd64 : (d : Int) ≤ 100 := by omega
            have HML := Lib.hid hml
            clear hf hR hml hmd hg hdj hz hd0
            go_wp2_with fail
            refine CL.out.mono ?_
            rintro r wC ⟨rfl, hS2, hB2⟩
            have HC := Lib.hid (PlR.step HRk.out hB2)
            clear hS2 hB2 CL HRk c0 hcells hx3 hx q3
            go_wp2_with fail
            have hfC := HC.out.stk.facts
            obtain ⟨M', T, hMT, hrow⟩ := hfC.2.2.2
            have hMl : M'.length = d := by have := hfC.1; rw [hMT, List.length_append] at this; simpa using this
            have hL92 : L.length ≤ 1000 := by have := hfC.2.1; omega
            have hcC : ∀ q, q < 3 → wC.cell? ⟨g, d * 3 + q, none⟩ = some (.string (T q)) := fun q hq => by
              have ho := HC.out.own
              rw [HML.out] at ho
              rw [ho.cellAt _ (by have := HML.out; have := hfC.1; omega), hMT, ← hMl]
              exact rowsC_last M' T q hq
            have HCC := Lib.hid hcC
            have HROW := Lib.hid hrow
            have hgC : g < wC.heap.size := (HC.out.own.lt g rfl).2
            clear hfC hMT hcC hrow hMl
            go_loopg [13] 3 (fun gh kv wx => ∃ kk : Nat, gh + kk = 3 ∧ kv = .int .i64 kk ∧ Below wC.heap.size wC wx)
            case atStart => exact ⟨0, rfl, rfl, Below.refl _ _⟩
            case round =>
              obtain ⟨kk, hgk, hkv, hBx⟩ := hrel
              subst hkv
              by_cases hk3 : kk < 3
              · have hk3i : (kk : Int) < 3 := by omega
                have hb1 := (Below.refl wr.heap.size wr).alloc (Nat.le_refl _) (.cells #[.string ⟨#[]⟩, .string ⟨#[112]⟩, .string ⟨#[113]⟩] 9)
                have c1 : (wr.alloc (.cells #[.string ⟨#[]⟩, .string ⟨#[112]⟩, .string ⟨#[113]⟩] 9)).cell? ⟨wr.heap.size, kk, none⟩ = some (.string (preP kk)) := by
                  rw [Lib.cell_of_heap (heap_alloc_new wr _)]; exact pre_cells kk hk3
                have hSp := (HC.out.sp.step hBx).step hb1
                have CO := pof _ _ _ _ (preP kk) _ hSp hL92
                rw [HROW.out.1 kk hk3] at CO
                have HBx := Lib.hid (hBx.trans (hb1.mono hBx.size))
                have MC := Lib.hid (fun wz (h : Below wC.heap.size wC wz) => (h.cell (p := ⟨g, d * 3 + kk, none⟩) hgC).trans (HCC.out kk hk3))
                obtain ⟨P, hP⟩ : ∃ P, preP kk = P := ⟨_, rfl⟩
                obtain ⟨TT, hTT⟩ : ∃ TT, T kk = TT := ⟨_, rfl⟩
                rw [hP] at c1 CO
                rw [hTT] at CO MC
                have hgk1 := Lib.hid (show gk - 1 + (kk + 1) = 3 ∧ gk - 1 < gk by omega)
                by_cases hTb : TT = bNo
                · rw [if_pos hTb] at CO
                  have CO := Lib.hid CO
                  have qT := tl_of hTb [110, 111, 110, 101] rfl
                  clear hP hTT hb1 hSp hgk hBx hTb
                  go_wp2_with fail
                  refine CO.out.mono ?_
                  rintro r wz ⟨rfl, hbz⟩
                  have HBz := Lib.hid (HBx.out.trans (hbz.mono HBx.out.size))
                  have m0 := MC.out wz HBz.out
                  clear hbz CO c1
                  go_wp2
                  go_roundg (gk - 1)
                  case measure => exact hgk1.out.2
                  case rel => exact ⟨kk + 1, hgk1.out.1, by simp, HBz.out⟩
                · rw [if_neg hTb] at CO
                  have CO := Lib.hid CO
                  have qT := tl_ne hTb [110, 111, 110, 101] rfl
                  clear hP hTT hb1 hSp hgk hBx hTb
                  go_wp2_with fail
                  refine CO.out.mono ?_
                  rintro r wz ⟨rfl, hbz⟩
                  have HBz := Lib.hid (HBx.out.trans (hbz.mono HBx.out.size))
                  have m0 := MC.out wz HBz.out
                  clear hbz CO c1
                  go_wp2
                  go_roundg (gk - 1)
                  case measure => exact hgk1.out.2
                  case rel => exact ⟨kk + 1, hgk1.out.1, by simp, HBz.out⟩
              · obtain rfl : kk = 3 := by omega
                have HR := Lib.hid (PlR.step HC.out hBx)
                have CD := Lib.hid (pdepth _ _ _ _ wr HR.out.sp)
                have hd64' : (0 : Int) ≤ (d : Int) := by omega
                clear hgk hBx hk3
                go_wp2_with fail
                refine CD.out.mono ?_
                rintro r wz ⟨rfl, hwz⟩
                subst hwz
                clear CD
                go_wp2
                go_roundg (gh0 - 1)
                case measure => exact hj1.out.2
                case rel => exact ⟨j + 1, d, L, M, hj1.out.1, by simp, hd1.out, HR.out⟩
          · obtain ⟨d0, rfl⟩ : ∃ d0, d = d0 + 1 := ⟨d - 1, by omega⟩
            obtain ⟨n0, hn0, hb1, hb2, hstk⟩ := hR.stk.back
            have CL := pleave w.heap.size b d0 L n0 wr hR.sp (by omega) (by have := hf.2.1; omega) hn0 hb1 hb2
            obtain ⟨L2, hL2⟩ : ∃ L2, L.take n0 = L2 := ⟨_, rfl⟩
            obtain ⟨M2, hM2⟩ : ∃ M2, M.take (d0 + 1) = M2 := ⟨_, rfl⟩
            rw [hL2] at CL hstk
            rw [hM2] at hstk
            obtain ⟨m1, hm1⟩ : ∃ m1, m1 = d0 + 1 := ⟨_, rfl⟩
            have hcp : mn ≤ cp := by
              rcases hR.own.2 with ⟨h', _⟩ | ⟨g', cap', cur, h', _, _, hnc, _⟩
              · simp at h'
              · simp only [Value.slice.injEq, Option.some.injEq, Addr.mk.injEq, and_true] at h'
                obtain ⟨rfl, h2, rfl⟩ := h'
                omega
            have hmvi : (1 : Int) < (mn : Int) := by omega
            have hmn : (mn : Int) - 1 = (m1 : Int) := by omega
            have hmc : (m1 : Int) ≤ (cp : Int) := by omega
            have hm10 : (0 : Int) ≤ (m1 : Int) := by omega
            have hm164 : (m1 : Int) ≤ 100 := by omega
            have HPL := Lib.hid (fun wC (hS2 : Sp w.heap.size b d0 L2 wC) (hB2 : Below w.heap.size wr wC) (hA2 : Apart wr wC) =>
              (show PlR b w d0 L2 M2 (.slice (some ⟨g, 0, none⟩) m1 cp) wC from ⟨hstk, hS2, hR.below.trans hB2, by
                have ho := hA2.owns hR.own (by decide) (by decide)
                rw [hml] at ho
                have ho2 := own_take ho m1 (by omega)
                have hM2l : M2.length = m1 := by rw [← hM2, List.length_take, hml]; omega
                rw [hM2l, show rowsC M2 = (rowsC M).take (m1 * 3) from by rw [← hM2, ← hm1]; exact (rowsC_take M m1 (by omega)).symm]
                exact ho2⟩))
            have HML := Lib.hid (show M2.length = m1 by rw [← hM2, List.length_take, hml]; omega)
            have CL := Lib.hid CL
            have hd1 := Lib.hid (show d0 ≤ j + 1 by omega)
            have hd64 : (d0 : Int) ≤ 100 := by omega
            have hmn2 : (m1 : Int) - 1 = (d0 : Int) := by omega
            clear hf hR hml hmd hg hdj hz hd0 hn0 hb1 hb2 hstk hL2 hM2 hm1 hcp
            go_wp2_with fail
            refine CL.out.mono ?_
            rintro r wC ⟨rfl, hS2, hB2, hA2⟩
            have HC := Lib.hid (HPL.out wC hS2 hB2 hA2)
            clear hS2 hB2 hA2 CL HPL c0 hcells hx3 hx q3
            go_wp2_with fail
            have hfC := HC.out.stk.facts
            obtain ⟨M', T, hMT, hrow⟩ := hfC.2.2.2
            have hMl : M'.length = d0 := by have := hfC.1; rw [hMT, List.length_append] at this; simpa using this
            have hL92 : L2.length ≤ 1000 := by have := hfC.2.1; omega
            have hcC : ∀ q, q < 3 → wC.cell? ⟨g, d0 * 3 + q, none⟩ = some (.string (T q)) := fun q hq => by
              have ho := HC.out.own
              rw [HML.out] at ho
              rw [ho.cellAt _ (by have := HML.out; have := hfC.1; omega), hMT, ← hMl]
              exact rowsC_last M' T q hq
            have HCC := Lib.hid hcC
            have HROW := Lib.hid hrow
            have hgC : g < wC.heap.size := (HC.out.own.lt g rfl).2
            clear hfC hMT hcC hrow hMl
            go_loopg [13] 3 (fun gh kv wx => ∃ kk : Nat, gh + kk = 3 ∧ kv = .int .i64 kk ∧ Below wC.heap.size wC wx)
            case atStart => exact ⟨0, rfl, rfl, Below.refl _ _⟩
            case round =>
              obtain ⟨kk, hgk, hkv, hBx⟩ := hrel
              subst hkv
              by_cases hk3 : kk < 3
              · have hk3i : (kk : Int) < 3 := by omega
                have hb1 := (Below.refl wr.heap.size wr).alloc (Nat.le_refl _) (.cells #[.string ⟨#[]⟩, .string ⟨#[112]⟩, .string ⟨#[113]⟩] 9)
                have c1 : (wr.alloc (.cells #[.string ⟨#[]⟩, .string ⟨#[112]⟩, .string ⟨#[113]⟩] 9)).cell? ⟨wr.heap.size, kk, none⟩ = some (.string (preP kk)) := by
                  rw [Lib.cell_of_heap (heap_alloc_new wr _)]; exact pre_cells kk hk3
                have hSp := (HC.out.sp.step hBx).step hb1
                have CO := pof _ _ _ _ (preP kk) _ hSp hL92
                rw [HROW.out.1 kk hk3] at CO
                have HBx := Lib.hid (hBx.trans (hb1.mono hBx.size))
                have MC := Lib.hid (fun wz (h : Below wC.heap.size wC wz) => (h.cell (p := ⟨g, d0 * 3 + kk, none⟩) hgC).trans (HCC.out kk hk3))
                obtain ⟨P, hP⟩ : ∃ P, preP kk = P := ⟨_, rfl⟩
                obtain ⟨TT, hTT⟩ : ∃ TT, T kk = TT := ⟨_, rfl⟩
                rw [hP] at c1 CO
                rw [hTT] at CO MC
                have hgk1 := Lib.hid (show gk - 1 + (kk + 1) = 3 ∧ gk - 1 < gk by omega)
                by_cases hTb : TT = bNo
                · rw [if_pos hTb] at CO
                  have CO := Lib.hid CO
                  have qT := tl_of hTb [110, 111, 110, 101] rfl
                  clear hP hTT hb1 hSp hgk hBx hTb
                  go_wp2_with fail
                  refine CO.out.mono ?_
                  rintro r wz ⟨rfl, hbz⟩
                  have HBz := Lib.hid (HBx.out.trans (hbz.mono HBx.out.size))
                  have m0 := MC.out wz HBz.out
                  clear hbz CO c1
                  go_wp2
                  go_roundg (gk - 1)
                  case measure => exact hgk1.out.2
                  case rel => exact ⟨kk + 1, hgk1.out.1, by simp, HBz.out⟩
                · rw [if_neg hTb] at CO
                  have CO := Lib.hid CO
                  have qT := tl_ne hTb [110, 111, 110, 101] rfl
                  clear hP hTT hb1 hSp hgk hBx hTb
                  go_wp2_with fail
                  refine CO.out.mono ?_
                  rintro r wz ⟨rfl, hbz⟩
                  have HBz := Lib.hid (HBx.out.trans (hbz.mono HBx.out.size))
                  have m0 := MC.out wz HBz.out
                  clear hbz CO c1
                  go_wp2
                  go_roundg (gk - 1)
                  case measure => exact hgk1.out.2
                  case rel => exact ⟨kk + 1, hgk1.out.1, by simp, HBz.out⟩
              · obtain rfl : kk = 3 := by omega
                have HR := Lib.hid (PlR.step HC.out hBx)
                have CD := Lib.hid (pdepth _ _ _ _ wr HR.out.sp)
                have hd64' : (0 : Int) ≤ (d0 : Int) := by omega
                clear hgk hBx hk3
                go_wp2_with fail
                refine CD.out.mono ?_
                rintro r wz ⟨rfl, hwz⟩
                subst hwz
                clear CD
                go_wp2
                go_roundg (gh0 - 1)
                case measure => exact hj1.out.2
                case rel => exact ⟨j + 1, d0, L2, M2, hj1.out.1, by simp, hd1.out, HR.out⟩
        · have q3 : ((x : Int) == 3) = false := by simp; omega
          -- an element begins
          obtain ⟨M', T, hMT, hrow⟩ := hf.2.2.2
          have hMl : M'.length = d := by have := hf.1; rw [hMT, List.length_append] at this; simpa using this
          have hL92 : L.length ≤ 2 + 3 * d := hf.2.1
          have hcC : ∀ q, q < 3 → wr.cell? ⟨g, d * 3 + q, none⟩ = some (.string (T q)) := fun q hq => by
            have ho := hR.own
            rw [hml] at ho
            rw [ho.cellAt _ (by omega), hMT, ← hMl]
            exact rowsC_last M' T q hq
          have k0 := hcC 0 (by decide)
          have k1 := hcC 1 (by decide)
          have k2 := hcC 2 (by decide)
          rw [Nat.add_zero] at k0
          obtain ⟨zf, vf, hv⟩ : ∃ (zf : Nat → Int) (vf : Nat → Nat), ∀ q, q < 3 → w.cell? ⟨la, lo + j * 4 + 1 + q, none⟩ = some (.int .i64 (zf q)) ∧ bits .and .i64 (zf q) 7 = (vf q : Int) ∧ vf q < 8 := by
            have h0 : ∀ q, ∃ zv : Int × Nat, q < 3 → w.cell? ⟨la, lo + j * 4 + 1 + q, none⟩ = some (.int .i64 zv.1) ∧ bits .and .i64 zv.1 7 = (zv.2 : Int) ∧ zv.2 < 8 := fun q => by
              by_cases hq : q < 3
              · obtain ⟨zq, hzq⟩ := hcells j hj (1 + q) (by omega)
                obtain ⟨v, hv, hb⟩ := mask_any zq 3 (by decide) 7 (by decide)
                exact ⟨(zq, v), fun _ => ⟨by rw [← hzq, Nat.add_assoc], hb, hv⟩⟩
              · exact ⟨(0, 0), fun h => absurd h hq⟩
            obtain ⟨f, hf⟩ := Classical.axiomOfChoice h0
            exact ⟨fun q => (f q).1, fun q => (f q).2, fun q hq => hf q hq⟩
          have hmn : (mn : Int) - 1 = (d : Int) := by omega
          have hd64 : (d : Int) ≤ 100 := by omega
          have hmn2 : (mn : Int) ≤ 100 := by omega
          have HV := Lib.hid hv
          obtain ⟨i0, hi, hz0, hz1, hz2⟩ := info_parts att_info
          have HI := Lib.hid hi
          have HI0 := Lib.hid hz0
          have HI1 := Lib.hid hz1
          have HI2 := Lib.hid hz2
          clear hi hz0 hz1 hz2
          obtain ⟨i1, hi, hz0, hz1, hz2⟩ := info_parts row_info
          have HJ := Lib.hid hi
          have HJ0 := Lib.hid hz0
          have HJ1 := Lib.hid hz1
          have HJ2 := Lib.hid hz2
          clear hi hz0 hz1 hz2
          have HST := Lib.hid (LpB.start T vf hR)
          have hstk : Hid (Stk d L (M' ++ [T])) := Lib.hid (by rw [← hMT]; exact hR.stk)
          have HMD := Lib.hid hmd
          have HMT := Lib.hid hMT
          have HML0 := Lib.hid hml
          have HROW0 := Lib.hid hrow
          obtain ⟨Q, hQ⟩ : ∃ Q, wr.heap.size = Q := ⟨_, rfl⟩
          rw [hQ] at HST
          clear hR hv hf hcells hcC hMT hrow hmd hml hMl hz HA
          go_wp2_with fail
          clear k0 k1 k2 c0 hg2 hQ
          go_loopg [7, 8] 3 (fun gh av kv wx => ∃ k : Nat, gh + k = 3 ∧ kv = .int .i64 k ∧ LpB b Q d g mn cp w L M T vf k k av wx)
          case atStart => exact ⟨0, rfl, rfl, HST.out⟩
          case round =>
            obtain ⟨k, hgk, hkv, hP⟩ := hrel
            subst hkv
            obtain ⟨ga, ca, hav, hga1, hga2⟩ := hP.att.form (attK_pos vf k)
            obtain ⟨al, hal⟩ : ∃ al, (attK vf k).length = al := ⟨_, rfl⟩
            rw [hal] at hav
            subst hav
            by_cases hk : k < 3
            · have hki : (k : Int) < 3 := by omega
              obtain ⟨hz, hvb, hv8⟩ := HV.out k hk
              have z0 := (hP.row.below.cell (p := ⟨la, lo + j * 4 + 1 + k, none⟩) hla).trans hz
              obtain ⟨zk, hzk⟩ : ∃ zk, zf k = zk := ⟨_, rfl⟩
              obtain ⟨vk, hvk⟩ : ∃ vk, vf k = vk := ⟨_, rfl⟩
              rw [hzk] at z0 hvb
              rw [hvk] at hvb hv8
              have hgk1 := Lib.hid (show gk - 1 + (k + 1) = 3 ∧ gk - 1 < gk by omega)
              by_cases hv4 : vk < 4
              · have hv4i : (vk : Int) < 4 := by omega
                have hP2 := Lib.hid (hP.skip (by rw [hvk]; unfold wantU; rw [if_pos hv4]))
                clear hP hz hzk hvk hgk hv4
                go_wp2
                go_roundg (gk - 1)
                case measure => exact hgk1.out.2
                case rel => exact ⟨k + 1, hgk1.out.1, by simp, hP2.out⟩
              · have hv4i : ¬ (vk : Int) < 4 := by omega
                obtain ⟨xk, hxk⟩ : ∃ xk, vk = xk + 4 := ⟨vk - 4, by omega⟩
                have hwu : wantU (vf k) = some (uS xk) := by rw [hvk]; unfold wantU; rw [if_neg hv4, hxk]; rfl
                have hxi : (vk : Int) - 4 = (xk : Int) := by omega
                have hx4 : (xk : Int) < 4 := by omega
                have hal4 : al ≤ 4 := by rw [← hal]; have := attK_len vf k; omega
                have hb1 := (Below.refl wr.heap.size wr).alloc (Nat.le_refl _) (.cells #[.string ⟨#[117, 97]⟩, .string ⟨#[117, 98]⟩, .string ⟨#[117, 99]⟩, .string ⟨#[117, 100]⟩] 9)
                have u0 : (wr.alloc (.cells #[.string ⟨#[117, 97]⟩, .string ⟨#[117, 98]⟩, .string ⟨#[117, 99]⟩, .string ⟨#[117, 100]⟩] 9)).cell? ⟨wr.heap.size, xk, none⟩ = some (.string (uS xk)) := by
                  rw [Lib.cell_of_heap (heap_alloc_new wr _)]; exact u_cells xk (by omega)
                have HP1 := Lib.hid (hP.step hb1)
                obtain ⟨u, hu⟩ : ∃ u, uS xk = u := ⟨_, rfl⟩
                rw [hu] at u0 hwu
                have HWU := Lib.hid hwu
                have HAL := Lib.hid hal
                clear hP hz hzk hvk hgk hv4 hb1 hu hxk hwu hal
                go_upto_region 17 with (fail)
                generalize (wr.alloc (.cells #[.string ⟨#[117, 97]⟩, .string ⟨#[117, 98]⟩, .string ⟨#[117, 99]⟩, .string ⟨#[117, 100]⟩] 9)) = w5 at HP1 u0 ⊢
                clear u0 z0 hvb hxi hx4 hv4i hv8
                have n0 : w5.cell? ⟨Q + 1, k, none⟩ = some (.string (nowK T vf k k)) := by rw [Lib.cell_of_heap HP1.out.now]; exact now_cells _ _ _ k hk
                have n1 := Lib.frozen_of_heap HP1.out.now k
                have HP2 := Lib.hid (HP1.out.put hk HWU.out)
                clear HP1
                go_upto_region 18 with (fail)
                generalize w5.setCell ⟨Q + 1, k, none⟩ (.string u) = w6 at HP2 ⊢
                clear n0 n1
                have hb6 := (Below.refl w6.heap.size w6).alloc (Nat.le_refl _) (.cells #[.string ⟨#[120, 109, 108, 110, 115]⟩, .string ⟨#[120, 109, 108, 110, 115, 58, 112]⟩, .string ⟨#[120, 109, 108, 110, 115, 58, 113]⟩] 9)
                have n2 : (w6.alloc (.cells #[.string ⟨#[120, 109, 108, 110, 115]⟩, .string ⟨#[120, 109, 108, 110, 115, 58, 112]⟩, .string ⟨#[120, 109, 108, 110, 115, 58, 113]⟩] 9)).cell? ⟨w6.heap.size, k, none⟩ = some (.string (nameP k)) := by
                  rw [Lib.cell_of_heap (heap_alloc_new w6 _)]; exact name_cells k hk
                have hO := HP2.out.att
                rw [HAL.out] at hO
                have HO := Lib.hid hO
                have hQ6 := Lib.hid (show Q ≤ w6.heap.size by have := (Array.getElem?_eq_some_iff.1 HP2.out.now).1; omega)
                have HAP := Lib.hid (fun (w7 : World) (gg cap' : Nat) hg hown => HP2.out.app (x := .slice (some ⟨gg, 0, none⟩) (al + 1) cap') (w7 := w7) (o1 := .cells #[.string ⟨#[120, 109, 108, 110, 115]⟩, .string ⟨#[120, 109, 108, 110, 115, 58, 112]⟩, .string ⟨#[120, 109, 108, 110, 115, 58, 113]⟩] 9) (o2 := .cells #[.string (nameP k), .string u] 31) HWU.out hg (by rw [HAL.out]; exact hown))
                obtain ⟨NN, hNN⟩ : ∃ NN, nameP k = NN := ⟨_, rfl⟩
                rw [hNN] at n2 HAP
                have hQ6' := hQ6.out
                clear hO hb6 hNN HP2 HWU HAL
                go_wp2_with (
                  at_builtin
                  refine wpList_append_lies _ (by rfl) _ _ _ (by rfl) Q 31 i0 _ 2 32 Tryd.underlying32 HI.out HI0.out HI1.out HI2.out rfl (by omega) (.slice (some ⟨ga, 0, none⟩) al ca) al (cellsA (attK vf k)) (by rfl) ((HO.out.alloc _).alloc _)
                    ⟨w6.heap.size + 1, 0, none⟩ 1 1 [.string NN, .string u] (by rfl) (by rfl) (World.news_of_block (cs := #[.string NN, .string u]) (t := 31) (fr := (0, 0)) (by have := heap_alloc_new (w6.alloc (.cells #[.string ⟨#[120, 109, 108, 110, 115]⟩, .string ⟨#[120, 109, 108, 110, 115, 58, 112]⟩, .string ⟨#[120, 109, 108, 110, 115, 58, 113]⟩] 9)) (.cells #[.string NN, .string u] 31); rw [World.size_alloc] at this; exact this)) (by simp [Value.oneCell'])
                    (by omega) (by unfold maxLen; omega) (by omega) (by simp; omega) (w6.heap.size + 1 + 1) (by simp) ?_
                  intro gg cap' w7 hown7 hgrow hat hlt)
                have H7 := Lib.hid (HAP.out _ _ _ hgrow hown7)
                clear hown7 hgrow hat hlt n2
                go_roundg (gk - 1)
                case measure => exact hgk1.out.2
                case rel => exact ⟨k + 1, hgk1.out.1, by simp, H7.out⟩
            · obtain rfl : k = 3 := by omega
              -- behind the loop
              have t0 := Lib.cell_of_heap hP.now 0
              have t1 := Lib.cell_of_heap hP.now 1
              have t2 := Lib.cell_of_heap hP.now 2
              simp only [List.getElem?_toArray, List.getElem?_cons_zero, List.getElem?_cons_succ] at t0 t1 t2
              have hO := hP.row.own
              rw [HML0.out] at hO
              have HO := Lib.hid hO
              have HP := Lib.hid hP
              have HPU := Lib.hid (fun (w7 : World) (gg cp' : Nat) hg hown => HP.out.push (gg := gg) (cp' := cp') (w7 := w7) (o := .cells #[.string (nowK T vf 3 0), .string (nowK T vf 3 1), .string (nowK T vf 3 2)] 25) hg hown)
              have hwr := hP.row.below.size
              obtain ⟨X0, hX0⟩ : ∃ X0, nowK T vf 3 0 = X0 := ⟨_, rfl⟩
              obtain ⟨X1, hX1⟩ : ∃ X1, nowK T vf 3 1 = X1 := ⟨_, rfl⟩
              obtain ⟨X2, hX2⟩ : ∃ X2, nowK T vf 3 2 = X2 := ⟨_, rfl⟩
              rw [hX0] at t0 HPU
              rw [hX1] at t1 HPU
              rw [hX2] at t2 HPU
              clear hP hO hX0 hX1 hX2 hgk hk HP
              go_wp2_with (
                at_builtin
                refine wpList_append_lies _ (by rfl) _ _ _ (by rfl) w.heap.size 25 i1 _ 3 48 Tryd.underlying26 HJ.out HJ0.out HJ1.out HJ2.out rfl (by omega) (.slice (some ⟨g, 0, none⟩) mn cp) mn (rowsC M) (by rfl) (HO.out.alloc _)
                  ⟨wr.heap.size, 0, none⟩ 1 1 [.string X0, .string X1, .string X2] (by rfl) (by rfl) (World.news_of_block (cs := #[.string X0, .string X1, .string X2]) (t := 25) (fr := (0, 0)) (heap_alloc_new wr _)) (by simp [Value.oneCell'])
                  (by omega) (by unfold maxLen; omega) (by omega) (by simp; omega) (wr.heap.size + 1) (by simp) ?_
                intro gg cp2 w7 hown7 hgrow hat hlt)
              have hE7 := HPU.out _ _ _ hgrow hown7
              have CE := penter w.heap.size b d ga ca (attK vf 3) L w7 hE7.sp (by omega) (AttrsAt.own (base := Q) (n := al) (by have h := hE7.att; rw [hal] at h; exact h) hal) (by have := attK_len vf 3; omega)
              rw [enter_att (d + 1) vf L 3 (Nat.le_refl _) (by omega), hal] at CE
              have KE := Lib.hid CE
              have HE7 := Lib.hid hE7
              obtain ⟨m1, hm1⟩ : ∃ m1, mn + 1 = m1 := ⟨_, rfl⟩
              rw [hm1] at HE7 ⊢
              clear hown7 hgrow hat hlt CE hE7 HPU HO t0 t1 t2
              refine KE.out.mono ?_
              rintro r wC ⟨v, rfl, hown, hS2, hB2, hA2⟩
              obtain ⟨go, co, rfl, _⟩ := hown.form (show 0 < 1 by decide)
              have o0 : wC.cell? ⟨go, 0, none⟩ = some (.string ⟨#[120]⟩) := (row_cellsA (L := [(⟨#[120]⟩, ⟨#[121]⟩)]) hown 0 (by decide)).1
              obtain ⟨d1, hd1e⟩ : ∃ d1, d + 1 = d1 := ⟨_, rfl⟩
              have hm2 : m1 = d + 2 := by have := HMD.out; omega
              have hE8 := HE7.out
              rw [HMT.out] at hE8
              have HC := Lib.hid (hE8.enter hstk.out hm2 hS2 hB2 hA2)
              have HML := Lib.hid (show (M' ++ [T] ++ [nowK T vf 3]).length = m1 by rw [← HMT.out, List.length_append, HML0.out]; exact hm1)
              obtain ⟨L2, hL2⟩ : ∃ L2, L ++ newK vf (d + 1) 3 = L2 := ⟨_, rfl⟩
              obtain ⟨M2, hM2⟩ : ∃ M2, M' ++ [T] ++ [nowK T vf 3] = M2 := ⟨_, rfl⟩
              rw [hM2] at HML HC
              rw [hL2] at HC
              rw [hd1e] at HC
              have hd1 := Lib.hid (show d1 ≤ j + 1 by omega)
              have hmnC : (m1 : Int) - 1 = (d1 : Int) := by omega
              have hd641 : (d1 : Int) ≤ 100 := by omega
              have hm164 : (m1 : Int) ≤ 100 := by omega
              clear hown hS2 hB2 hA2 hE8 hL2 hM2 hd1e hm2 hm1 KE HE7 hstk HML0 HMT HMD HST HV hmn hd64 hmn2 hL92 hdj
              go_wp2_with fail
              have hfC := HC.out.stk.facts
              obtain ⟨M', T, hMT, hrow⟩ := hfC.2.2.2
              have hMl : M'.length = d1 := by have := hfC.1; rw [hMT, List.length_append] at this; simpa using this
              have hL92 : L2.length ≤ 1000 := by have := hfC.2.1; omega
              have hcC : ∀ q, q < 3 → wC.cell? ⟨gg, d1 * 3 + q, none⟩ = some (.string (T q)) := fun q hq => by
                have ho := HC.out.own
                rw [HML.out] at ho
                rw [ho.cellAt _ (by have := HML.out; have := hfC.1; omega), hMT, ← hMl]
                exact rowsC_last M' T q hq
              have HCC := Lib.hid hcC
              have HROW := Lib.hid hrow
              have hgC : gg < wC.heap.size := (HC.out.own.lt gg rfl).2
              clear hfC hMT hcC hrow hMl
              go_loopg [13] 3 (fun gh kv wx => ∃ kk : Nat, gh + kk = 3 ∧ kv = .int .i64 kk ∧ Below wC.heap.size wC wx)
              case atStart => exact ⟨0, rfl, rfl, Below.refl _ _⟩
              case round =>
                obtain ⟨kk, hgk, hkv, hBx⟩ := hrel
                subst hkv
                by_cases hk3 : kk < 3
                · have hk3i : (kk : Int) < 3 := by omega
                  have hb1 := (Below.refl wr.heap.size wr).alloc (Nat.le_refl _) (.cells #[.string ⟨#[]⟩, .string ⟨#[112]⟩, .string ⟨#[113]⟩] 9)
                  have c1 : (wr.alloc (.cells #[.string ⟨#[]⟩, .string ⟨#[112]⟩, .string ⟨#[113]⟩] 9)).cell? ⟨wr.heap.size, kk, none⟩ = some (.string (preP kk)) := by
                    rw [Lib.cell_of_heap (heap_alloc_new wr _)]; exact pre_cells kk hk3
                  have hSp := (HC.out.sp.step hBx).step hb1
                  have CO := pof _ _ _ _ (preP kk) _ hSp hL92
                  rw [HROW.out.1 kk hk3] at CO
                  have HBx := Lib.hid (hBx.trans (hb1.mono hBx.size))
                  have MC := Lib.hid (fun wz (h : Below wC.heap.size wC wz) => (h.cell (p := ⟨gg, d1 * 3 + kk, none⟩) hgC).trans (HCC.out kk hk3))
                  obtain ⟨P, hP⟩ : ∃ P, preP kk = P := ⟨_, rfl⟩
                  obtain ⟨TT, hTT⟩ : ∃ TT, T kk = TT := ⟨_, rfl⟩
                  rw [hP] at c1 CO
                  rw [hTT] at CO MC
                  have hgk1 := Lib.hid (show gk - 1 + (kk + 1) = 3 ∧ gk - 1 < gk by omega)
                  by_cases hTb : TT = bNo
                  · rw [if_pos hTb] at CO
                    have CO := Lib.hid CO
                    have qT := tl_of hTb [110, 111, 110, 101] rfl
                    clear hP hTT hb1 hSp hgk hBx hTb
                    go_wp2_with fail
                    refine CO.out.mono ?_
                    rintro r wz ⟨rfl, hbz⟩
                    have HBz := Lib.hid (HBx.out.trans (hbz.mono HBx.out.size))
                    have m0 := MC.out wz HBz.out
                    clear hbz CO c1
                    go_wp2
                    go_roundg (gk - 1)
                    case measure => exact hgk1.out.2
                    case rel => exact ⟨kk + 1, hgk1.out.1, by simp, HBz.out⟩
                  · rw [if_neg hTb] at CO
                    have CO := Lib.hid CO
                    have qT := tl_ne hTb [110, 111, 110, 101] rfl
                    clear hP hTT hb1 hSp hgk hBx hTb
                    go_wp2_with fail
                    refine CO.out.mono ?_
                    rintro r wz ⟨rfl, hbz⟩
                    have HBz := Lib.hid (HBx.out.trans (hbz.mono HBx.out.size))
                    have m0 := MC.out wz HBz.out
                    clear hbz CO c1
                    go_wp2
                    go_roundg (gk - 1)
                    case measure => exact hgk1.out.2
                    case rel => exact ⟨kk + 1, hgk1.out.1, by simp, HBz.out⟩
                · obtain rfl : kk = 3 := by omega
                  have HR := Lib.hid (PlR.step HC.out hBx)
                  have CD := Lib.hid (pdepth _ _ _ _ wr HR.out.sp)
                  have hd641' : (0 : Int) ≤ (d1 : Int) := by omega
                  clear hgk hBx hk3
                  go_wp2_with fail
                  refine CD.out.mono ?_
                  rintro r wz ⟨rfl, hwz⟩
                  subst hwz
                  clear CD
                  go_wp2
                  go_roundg (gh0 - 1)
                  case measure => exact hj1.out.2
                  case rel => exact ⟨j + 1, d1, L2, M2, hj1.out.1, by simp, hd1.out, HR.out⟩
      · have hji30 : ¬ (j : Int) < 30 := by omega
        have CX := pof _ _ _ _ bXml wr hR.sp (by have := hR.stk.facts.2.1; omega)
        rw [show ofT L bXml = some bXmlSpace from by obtain ⟨_, _, _, _, _, _, h⟩ := hR.stk.facts; exact h.2] at CX
        dsimp only [bXmlSpace, Option.getD_some, Option.isSome_some] at CX
        have CX := Lib.hid CX
        have HB := Lib.hid hR.below
        clear hR hdj hg
        go_wp2_with fail
        refine CX.out.mono ?_
        rintro r w2 ⟨rfl, hb2⟩
        have HB2 := Lib.hid (HB.out.trans (hb2.mono HB.out.size))
        have CA := Lib.hid (awake05 w2 (HT.out.below HB2.out) (HM.out.below HB2.out))
        clear hb2 CX HB
        go_wp2_with fail
        refine CA.out.mono ?_
        rintro r w3 ⟨rfl, hb3⟩
        have HB3 := Lib.hid (HB2.out.trans (hb3.mono HB2.out.size))
        clear hb3 CA HB2
        go_wp2
        go_ret
        exact ⟨rfl, HB3.out⟩
    · have hji : ¬ (j : Int) < (n : Int) := by omega
      have CX := pof _ _ _ _ bXml wr hR.sp (by have := hR.stk.facts.2.1; omega)
      rw [show ofT L bXml = some bXmlSpace from by obtain ⟨_, _, _, _, _, _, h⟩ := hR.stk.facts; exact h.2] at CX
      dsimp only [bXmlSpace, Option.getD_some, Option.isSome_some] at CX
      have CX := Lib.hid CX
      have HB := Lib.hid hR.below
      clear hR hdj hg
      go_wp2_with fail
      refine CX.out.mono ?_
      rintro r w2 ⟨rfl, hb2⟩
      have HB2 := Lib.hid (HB.out.trans (hb2.mono HB.out.size))
      have CA := Lib.hid (awake05 w2 (HT.out.below HB2.out) (HM.out.below HB2.out))
      clear hb2 CX HB
      go_wp2_with fail
      refine CA.out.mono ?_
      rintro r w3 ⟨rfl, hb3⟩
      have HB3 := Lib.hid (HB2.out.trans (hb3.mono HB2.out.size))
      clear hb3 CA HB2
      go_wp2
      go_ret
      exact ⟨rfl, HB3.out⟩
/-- **The law SpacePlays.** -/
theorem plays_any (ao : Option Addr) (n cap : Nat) (w : World) (hT : Tabs w) (hM : MaxL w) (o : n ≤ maxLen ∧ ActsIn w ao n) :
    Calls Tryd.prog 3 #[.slice ao n cap] w fun e w' => e = .returned (.bool true) ∧ Below w.heap.size w w' :=
  plays05 ao n cap w hT hM o.1 o.2

end Go.Proofs.YtjmpgefjoopigaaDoor
