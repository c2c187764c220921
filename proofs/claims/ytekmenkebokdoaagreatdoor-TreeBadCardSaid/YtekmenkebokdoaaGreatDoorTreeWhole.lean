/-
  The walks of (*document).whole, and of Parse.
-/
import Derived.Test.YtekmenkebokdoaaGreatDoorTreeParse
import Derived.Recover
namespace Go.Proofs.YtekmenkebokdoaaGreatDoor
open Go Go.RowKit
set_option maxRecDepth 100000

theorem taken_first {D : List UInt8} {σ : St} {p : Pc} {L : List Tell} {c : Nat} (hb : ¬ blankP p) (hT : Took D σ p) :
    takenAt D σ p (.before, L, c) = if opens p then (opn p [] L c).on fun m' => runAt D σ m' else .bad 3 p.at_ := by
  by_cases h0 : p.kind = 0
  · have hno : ¬ opens p := by rintro (h | h) <;> rw [h0] at h <;> exact absurd h (by decide)
    unfold takenAt
    rw [if_pos h0, if_neg hno, (hT.zero h0).1]
    rfl
  · rw [taken_in h0]
    have e : step p (.before, L, c) = if blankP p then .ok (.before, L, c) else if opens p then opn p [] L c else .bad 3 p.at_ := rfl
    rw [e, if_neg hb]
    split
    · rfl
    · rfl
theorem taken_last {D : List UInt8} {σ : St} {p : Pc} {x : Nd} {L : List Tell} {c : Nat} (hb : ¬ blankP p) :
    takenAt D σ p (.behind x, L, c) = if p.kind = 0 then .ok x else .bad 3 p.at_ := by
  by_cases h0 : p.kind = 0
  · unfold takenAt; rw [if_pos h0, if_pos h0]; rfl
  · rw [taken_in h0, if_neg h0]
    have e : step p (.behind x, L, c) = if blankP p then .ok (.behind x, L, c) else .bad 3 p.at_ := rfl
    rw [e, if_neg hb]; rfl
theorem NodeV.only {Q Q' k : Nat} {w w' : World} {v : Value} {x : Nd} (h : NodeV (NB Q none w) w v x) (ho : Only k w w') (hk : k < Q) (hQ : Q' ≤ Q) : NodeV (NB Q' none w') w' v x :=
  h.to ho.size fun g hp hg => by
    have e := ho.block g hg (by have := hp.1; omega)
    obtain ⟨h0, hr, cs, t, z, h3, h4⟩ := hp
    exact ⟨⟨by omega, hr, cs, t, z, e.trans h3, h4⟩, e⟩
def WhGives (B : Nat) (R0 : Res Nd) (w : World) (r : Ending) (w' : World) : Prop :=
  ((∃ e a, r = dies e a ∧ R0 = .bad e a) ∨ ∃ x v, r = .returned v ∧ NodeV (NB w.heap.size none w') w' v x ∧ R0 = .ok x) ∧ Below B w w'
set_option maxHeartbeats 8000000 in
theorem dwhole (B dd b q : Nat) (s : ByteArray) (σ : St) (L : List Tell) (c : Nat) (w : World) (h : DS B dd b q s σ 0 L c w) (R0 : Res Nd) (hR0 : R0 = runAt (bl s) σ (.before, L, c)) :
    Calls Tryz.prog 25 #[.pointer (some ⟨dd, 0, none⟩)] w (WhGives B R0 w) := by
  have hA := (Below.refl w.heap.size w).alloc (Nat.le_refl _) (.cells #[.string ⟨#[]⟩, .string ⟨#[]⟩, .slice none 0 0, .slice none 0 0, .string ⟨#[]⟩] 25)
  have HD := Lib.hid (h.step hA)
  have HB := Lib.hid (hA.mono h.le)
  have HK := Lib.hid (Kept.of docT hA)
  have HN := Lib.hid (heap_alloc_new w (.cells #[.string ⟨#[]⟩, .string ⟨#[]⟩, .slice none 0 0, .slice none 0 0, .string ⟨#[]⟩] 25))
  have HBw := Lib.hid h.le
  have HR0 := Lib.hid hR0
  have HSZ := Lib.hid (show w.heap.size + 1 ≤ (w.alloc (.cells #[.string ⟨#[]⟩, .string ⟨#[]⟩, .slice none 0 0, .slice none 0 0, .string ⟨#[]⟩] 25)).heap.size by simp)
  clear h hR0 hA
  go_enter Tryz.func25, Tryz.ntmps25
  go_wp2_with fail
  obtain ⟨R, hRe⟩ : ∃ R, w.heap.size = R := ⟨_, rfl⟩
  rw [hRe] at HN HBw HSZ ⊢
  have HRe := Lib.hid hRe
  clear hRe
  generalize w.alloc (.cells #[.string ⟨#[]⟩, .string ⟨#[]⟩, .slice none 0 0, .slice none 0 0, .string ⟨#[]⟩] 25) = w0 at HD HB HK HN HSZ ⊢
  have C := Lib.hid (daround B dd b q s σ 0 L c (.before, L, c) (around_before L c) w0 HD.out R0 HR0.out)
  refine C.out.mono ?_
  rintro r w1 ⟨hcase, hB1, hK1⟩
  rcases hcase with ⟨e, a, rfl, hbad⟩ | ⟨x, σ1, p, rfl, ⟨v, rfl, hrows, hfresh⟩, hD1, hT1, hnb, hs1⟩
  · exact ⟨rfl, .inl ⟨_, _, rfl, hbad⟩, HB.out.trans hB1⟩
  obtain ⟨ao, n, cap, rfl⟩ := rows_form hrows
  have hA := (Below.refl w1.heap.size w1).alloc (Nat.le_refl _) (.cells #[.int .i64 p.kind, .string (str p.name), .slice ao n cap, .string (str p.text), .int .i64 p.at_] 74)
  obtain ⟨P, hPe⟩ : ∃ P, w1.heap.size = P := ⟨_, rfl⟩
  have HD2 := Lib.hid (hD1.step hA)
  have HB2 := Lib.hid ((HB.out.trans hB1).trans (hA.mono hD1.le))
  have HN2 := Lib.hid ((Kept.of docT hA).heap (hK1.heap HN.out (by decide)) (by decide))
  have HP2 := Lib.hid (show (w1.alloc (.cells #[.int .i64 p.kind, .string (str p.name), .slice ao n cap, .string (str p.text), .int .i64 p.at_] 74)).heap[P]? = some (.cells #[.int .i64 p.kind, .string (str p.name), .slice ao n cap, .string (str p.text), .int .i64 p.at_] 74 (0, 0)) by rw [← hPe]; exact heap_alloc_new w1 _)
  have HW2 := Lib.hid (hrows.keptOf (Kept.of docT hA) (by decide))
  have HT := Lib.hid hT1
  have HS1 := Lib.hid (hs1.trans (taken_first hnb hT1))
  have HSZ2 := Lib.hid (show R + 1 ≤ (w1.alloc (.cells #[.int .i64 p.kind, .string (str p.name), .slice ao n cap, .string (str p.text), .int .i64 p.at_] 74)).heap.size from Nat.le_trans HSZ.out (Nat.le_trans hK1.size hA.size))
  have hPe := Lib.hid hPe
  clear hB1 hK1 hrows hfresh hD1 hT1 hnb hs1 hA C HD HB HK HN HSZ HR0
  go_wp2_with fail
  generalize w1.alloc (.cells #[.int .i64 p.kind, .string (str p.name), .slice ao n cap, .string (str p.text), .int .i64 p.at_] 74) = w2 at HD2 HB2 HN2 HP2 HW2 HSZ2 ⊢
  have p0 := Lib.cell_of_heap HP2.out 0
  have p1 := Lib.cell_of_heap HP2.out 1
  have p2 := Lib.cell_of_heap HP2.out 2
  have p3 := Lib.cell_of_heap HP2.out 3
  have p4 := Lib.cell_of_heap HP2.out 4
  simp only [List.getElem?_toArray, List.getElem?_cons_zero, List.getElem?_cons_succ] at p0 p1 p2 p3 p4
  have CT := topens p.kind p.at_ (str p.name) (str p.text) (.slice ao n cap) ⟨_, _, _, rfl⟩ w2.drew
  have hPl : P < w2.heap.size := (Array.getElem?_eq_some_iff.1 HP2.out).1
  have HP4 := Lib.hid p4
  by_cases hop : opens p
  rotate_left
  · rw [decide_eq_false (show ¬ (p.kind = 1 ∨ p.kind = 3) from hop)] at CT
    have CT := Lib.hid CT
    have HE := Lib.hid (show R0 = .bad 3 p.at_ by rw [HS1.out, if_neg hop])
    clear hop HS1
    go_region_with (first
      | (go_at_call 36; refine CT.out.mono ?_; rintro e wy ⟨rfl, hby⟩; have HY := Lib.hid hby; have ky : wy.cell? ⟨P, 4, none⟩ = some (.int .i64 p.at_) := (hby.cell (p := ⟨P, 4, none⟩) hPl).trans HP4.out; clear hby)
      | (go_at_call 35; refine (must_bad _ _ _).mono ?_; rintro e wz ⟨rfl, hw⟩; obtain rfl := hw.symm
         refine ends_any ⟨rfl, .inl ⟨_, _, rfl, HE.out⟩, (HB2.out.trans (Below.refl _ _).drew).trans (HY.out.mono HD2.out.le)⟩ wy ?_))
    all_goals trivial
  rw [decide_eq_true (show p.kind = 1 ∨ p.kind = 3 from hop)] at CT
  have CT := Lib.hid CT
  have HS2 := Lib.hid (show R0 = (opn p [] L c).on fun m' => runAt (bl s) σ1 m' by rw [HS1.out, if_pos hop])
  have HOP := Lib.hid hop
  clear hop HS1
  go_cut [] (fun wx => Below w2.heap.size w2 wx)
  case first =>
    go_region_with (first
      | (go_at_call 36; refine CT.out.mono ?_; rintro e wy ⟨rfl, hby⟩; have HY := Lib.hid hby; have ky : wy.cell? ⟨P, 4, none⟩ = some (.int .i64 p.at_) := (hby.cell (p := ⟨P, 4, none⟩) hPl).trans HP4.out; clear hby)
      | (go_at_call 35; refine (must_ok _ _ _).mono ?_; rintro e wz ⟨rfl, hw⟩; obtain rfl := hw.symm))
    all_goals
      go_wp2_with fail
      go_meet
      exact (Below.refl _ _).drew.trans HY.out
  case rest =>
    have HD3 := Lib.hid (HD2.out.step hcut)
    have HB3 := Lib.hid (HB2.out.trans (hcut.mono HD2.out.le))
    have HN3 := Lib.hid ((Kept.of docT hcut).heap HN2.out (by decide))
    have HP3 := Lib.hid ((Kept.of docT hcut).heap HP2.out (by decide))
    have HW3 := Lib.hid (HW2.out.keptOf (Kept.of docT hcut) (by decide))
    have HSZ3 := Lib.hid (Nat.le_trans HSZ2.out hcut.size)
    clear hcut p0 p1 p2 p3 p4 CT HP4 hPl HD2 HB2 HN2 HP2 HW2 HSZ2
    have p0 := Lib.cell_of_heap HP3.out 0
    have p1 := Lib.cell_of_heap HP3.out 1
    have p2 := Lib.cell_of_heap HP3.out 2
    have p3 := Lib.cell_of_heap HP3.out 3
    have p4 := Lib.cell_of_heap HP3.out 4
    simp only [List.getElem?_toArray, List.getElem?_cons_zero, List.getElem?_cons_succ] at p0 p1 p2 p3 p4
    have CE := delement B dd b q s 33 0 (by omega) [] L c σ1 p (.slice ao n cap) wc R0 rfl HD3.out HW3.out HT.out HOP.out HS2.out
    unfold pieceV at CE
    have CE := Lib.hid CE
    go_wp2_with fail
    refine CE.out.mono ?_
    rintro r w4 ⟨hcase, hB4, hK4⟩
    rcases hcase with ⟨e, a, rfl, hbad⟩ | ⟨x, v, σ2, c2, rfl, hv, hD4, hs4, _, _⟩
    · exact ⟨rfl, .inl ⟨_, _, rfl, hbad⟩, HB3.out.trans hB4⟩
    obtain ⟨sp, nm, t, a1, n1, c1, a2, n2, cc2, rfl⟩ := hv.form
    have hA := (Below.refl w4.heap.size w4).alloc (Nat.le_refl _) (.cells #[.string sp, .string nm, .slice a1 n1 c1, .slice a2 n2 cc2, .string t] 25)
    obtain ⟨X, hXe⟩ : ∃ X, w4.heap.size = X := ⟨_, rfl⟩
    have HD5 := Lib.hid (hD4.step hA)
    have HB5 := Lib.hid ((HB3.out.trans hB4).trans (hA.mono hD4.le))
    have HN5 := Lib.hid ((Kept.of docT hA).heap (hK4.heap HN3.out (by decide)) (by decide))
    have HX5 := Lib.hid (show (w4.alloc (.cells #[.string sp, .string nm, .slice a1 n1 c1, .slice a2 n2 cc2, .string t] 25)).heap[X]? = some (.cells #[.string sp, .string nm, .slice a1 n1 c1, .slice a2 n2 cc2, .string t] 25 (0, 0)) by rw [← hXe]; exact heap_alloc_new w4 _)
    have HV5 := Lib.hid (hv.kept (Kept.of docT hA) (by decide) (by decide))
    have HS5 := Lib.hid (show R0 = runAt (bl s) σ2 (.behind x, L, c2) from hs4)
    have hXe := Lib.hid hXe
    clear hB4 hK4 hv hD4 hs4 hA CE HD3 HB3 HN3 HP3 HW3 p0 p1 p2 p3 p4
    go_wp2_with fail
    generalize w4.alloc (.cells #[.string sp, .string nm, .slice a1 n1 c1, .slice a2 n2 cc2, .string t] 25) = w5 at HD5 HB5 HN5 HX5 HV5 ⊢
    have C := Lib.hid (daround B dd b q s σ2 0 L c2 (.behind x, L, c2) (around_behind x L c2) w5 HD5.out R0 HS5.out)
    refine C.out.mono ?_
    rintro r w6 ⟨hcase, hB6, hK6⟩
    rcases hcase with ⟨e, a, rfl, hbad⟩ | ⟨x2, σ3, p2, rfl, ⟨v2, rfl, hrows, _⟩, hD6, hT6, hnb, hs6⟩
    · exact ⟨rfl, .inl ⟨_, _, rfl, hbad⟩, HB5.out.trans hB6⟩
    obtain ⟨ao2, nn2, cap2, rfl⟩ := rows_form hrows
    have hA := (Below.refl w6.heap.size w6).alloc (Nat.le_refl _) (.cells #[.int .i64 p2.kind, .string (str p2.name), .slice ao2 nn2 cap2, .string (str p2.text), .int .i64 p2.at_] 74)
    have HB7 := Lib.hid ((HB5.out.trans hB6).trans (hA.mono hD6.le))
    have HN7 := Lib.hid ((hK6.trans (Kept.of docT hA)).heap HN5.out (by decide))
    have HX7 := Lib.hid ((hK6.trans (Kept.of docT hA)).heap HX5.out (by decide))
    have HV7 := Lib.hid (HV5.out.kept (hK6.trans (Kept.of docT hA)) (by decide) (by decide))
    have HS7 := Lib.hid (hs6.trans (taken_last hnb))
    have HL7 := Lib.hid (Nat.le_trans hD6.le hA.size)
    clear hB6 hK6 hrows hD6 hT6 hnb hs6 hA C HD5 HB5 HN5 HX5 HV5 HS5
    have r0 := Lib.cell_of_heap HN7.out 0
    have r1 := Lib.cell_of_heap HN7.out 1
    have r2 := Lib.cell_of_heap HN7.out 2
    have r3 := Lib.cell_of_heap HN7.out 3
    have r4 := Lib.cell_of_heap HN7.out 4
    have f0 := Lib.frozen_of_heap HN7.out 0
    have f1 := Lib.frozen_of_heap HN7.out 1
    have f2 := Lib.frozen_of_heap HN7.out 2
    have f3 := Lib.frozen_of_heap HN7.out 3
    have f4 := Lib.frozen_of_heap HN7.out 4
    have x0 := Lib.cell_of_heap HX7.out 0
    have x1 := Lib.cell_of_heap HX7.out 1
    have x2' := Lib.cell_of_heap HX7.out 2
    have x3 := Lib.cell_of_heap HX7.out 3
    have x4 := Lib.cell_of_heap HX7.out 4
    simp only [List.getElem?_toArray, List.getElem?_cons_zero, List.getElem?_cons_succ] at r0 r1 r2 r3 r4 x0 x1 x2' x3 x4
    by_cases hk : p2.kind = 0
    · have q0 : (p2.kind == 0) = true := by simp [hk]
      have HE := Lib.hid (show R0 = .ok x by rw [HS7.out, if_pos hk])
      clear hk HS7
      go_wp2_with fail
      refine (must_ok _ _ _).mono ?_
      rintro e wy ⟨rfl, hw⟩
      obtain rfl := hw.symm
      go_wp2
      have hs5 := st5_onlyR (w6.alloc (.cells #[.int .i64 p2.kind, .string (str p2.name), .slice ao2 nn2 cap2, .string (str p2.text), .int .i64 p2.at_] 74)) R (.string sp) (.string nm) (.slice a1 n1 c1) (.slice a2 n2 cc2) (.string t)
      refine bodyPost_ret (res_node _ 2 rfl _ R rfl _ _ _ _ _ _ 25 (0, 0) (st5_heap HN7.out _ _ _ _ _)) rfl ⟨.inr ⟨x, _, rfl, ?_, HE.out⟩, ?_⟩
      · rw [HRe.out]
        exact HV7.out.only hs5 (by have := HSZ3.out; omega) (by have := HSZ3.out; omega)
      · exact HB7.out.trans (hs5.below HBw.out HL7.out)
    · have q0 : (p2.kind == 0) = false := by simp [hk]
      have HE := Lib.hid (show R0 = .bad 3 p2.at_ by rw [HS7.out, if_neg hk])
      clear hk HS7
      go_wp2_with fail
      refine (must_bad _ _ _).mono ?_
      rintro e wy ⟨rfl, hw⟩
      obtain rfl := hw.symm
      exact ⟨rfl, .inl ⟨_, _, rfl, HE.out⟩, HB7.out⟩

end Go.Proofs.YtekmenkebokdoaaGreatDoor
