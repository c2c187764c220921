/-
  The walks of (*document).element and whole, and of Parse.
-/
import Derived.Test.YtekmenkebokdoaaGreatDoorTreeFill
import Derived.Recover
namespace Go.Proofs.YtekmenkebokdoaaGreatDoor
open Go Go.RowKit
set_option maxRecDepth 100000

/-- Leave, of an element that told of N. -/
theorem dleave (B dd b q : Nat) (s : ByteArray) (σ : St) (d : Nat) (L N : List Tell) (c : Nat) (w : World) (h : DS B dd b q s σ (d + 1) (L ++ N) c w) (hL : ∀ t ∈ L, t.d ≤ d) (hN : ∀ t ∈ N, t.d = d + 1) :
    Calls Tryz.prog 45 #[.pointer (some ⟨q, 0, none⟩)] w fun r w' => r = .returned (.tuple #[]) ∧ DS B dd b q s σ d L c w' ∧ Below B w w' ∧ Kept docT w w' := by
  have hf := h.pu.few
  have hl := h.pu.lim
  refine (pleave B q d (L ++ N) L.length w h.sp (by omega) (by omega) (by rw [List.length_append]; omega) (fun j hj hjm => ?_) (fun j hj hjm => ?_)).mono ?_
  · rw [List.getElem_append_left hjm]; exact hL _ (List.getElem_mem hjm)
  · rw [List.getElem_append_right hjm, hN _ (List.getElem_mem _)]; omega
  · rintro r w' ⟨rfl, hS, hB, hA⟩
    rw [List.take_left'] at hS
    · exact ⟨rfl, h.space hS hB (Kept.apart hA) ⟨h.pu.scn, h.pu.small, hL, by rw [List.length_append] at hf; omega, h.pu.cnt, by omega⟩, hB, Kept.doc hA⟩
    · rfl
theorem opn_bad {p : Pc} {S : List Fr} {L : List Tell} {c : Nat} {e a : Int} (h : enterR p S.length L c = .bad e a) : opn p S L c = .bad e a := by unfold opn; rw [h]; rfl
theorem opn_ok {p : Pc} {S : List Fr} {L L' : List Tell} {c : Nat} {F : Fr} (h : enterR p S.length L c = .ok (F, L')) :
    opn p S L c = if p.kind = 1 then .ok (.inside F S, L', c + 1) else .ok (give (.mk F.sp F.nm F.A [] (str [])) S, L, c + 1) := by unfold opn; rw [h]; rfl
/-- An element's value, out of its row. -/
theorem node_of {Q R : Nat} {w : World} {F : Fr} {va vk : Value} {V : List NV} {K : List Nd} {tx : ByteArray} (hva : AttV (NB R none w) w va F.A) (hrow : RowK Q w vk V K) (hQ : R ≤ Q) :
    NodeV (NB R none w) w (.agg #[.string F.sp, .string F.nm, va, vk, .string tx]) (.mk F.sp F.nm F.A K tx) := by
  obtain ⟨hl, hown, hn⟩ := hrow
  obtain ⟨ak, ck, rfl⟩ := own_form hown
  rw [hl]
  refine .mk F.sp F.nm tx F.A K va ak ck (fun j q => ((cellsN V)[j * 5 + q]?).getD undef) hva (fun h0 => ?_) (fun j hj => ?_)
  · obtain ⟨g, rfl, hg⟩ := own_some hown (by omega)
    obtain ⟨cur, hc, hQg⟩ := own_cell hown
    refine ⟨g, 0, rfl, ⟨by omega, by simp, cur, _, _, hc, .inr rfl⟩, hg, fun j hj q hq => ?_⟩
    have hlt : j * 5 + q < (cellsN V).length := by rw [cellsN_len]; omega
    rw [Nat.zero_add, hown.cellAt _ (by omega), List.getElem?_eq_getElem hlt]
    rfl
  · have hj' : j < V.length := by omega
    have hv := hn j hj' hj
    have e : ∀ q, q < 5 → ((cellsN V)[j * 5 + q]?).getD undef = (V[j]'hj').at_ q := fun q hq => by rw [cellsN_get V j hj' q hq]; rfl
    rw [e 0 (by decide), e 1 (by decide), e 2 (by decide), e 3 (by decide), e 4 (by decide)]
    exact hv.to (Nat.le_refl _) fun g hp _ => ⟨⟨by have := hp.1; omega, by simp, hp.2.2⟩, rfl⟩

theorem AttV.only {Q k : Nat} {w w' : World} {v : Value} {A : List Att} (h : AttV (NB Q none w) w v A) (ho : Only k w w') (hk : k < Q) : AttV (NB Q none w') w' v A :=
  h.to ho.size fun g hp hg => by
    have e := ho.block g hg (by have := hp.1; omega)
    obtain ⟨h0, hr, cs, t, z, h3, h4⟩ := hp
    exact ⟨⟨h0, hr, cs, t, z, e.trans h3, h4⟩, e⟩
theorem AttV.lower {Q Q' : Nat} {w : World} {v : Value} {A : List Att} (h : AttV (NB Q none w) w v A) (hQ : Q' ≤ Q) : AttV (NB Q' none w) w v A :=
  h.to (Nat.le_refl _) fun _ hp _ => ⟨⟨Nat.le_trans hQ hp.1, hp.2⟩, rfl⟩
theorem AttV.newX {Q X : Nat} {w1 w2 w3 : World} {v : Value} {A : List Att} (h : AttV (NB Q none w1) w1 v A) (hb : Below w1.heap.size w1 w2) (hX : w1.heap.size = X) (hk : KeptB docT X w2 w3) : AttV (NB Q none w3) w3 v A :=
  h.to (Nat.le_trans hb.size hk.size) fun g hp hg => by
    obtain ⟨h0, hr, cs, t, z, h3, h4⟩ := hp
    have e2 : w2.heap[g]? = some (.cells cs t z) := (hb.block g hg).trans h3
    have e3 := hk.heap e2 (by omega) (by rcases h4 with rfl | rfl <;> decide)
    exact ⟨⟨h0, hr, cs, t, z, e3, h4⟩, e3.trans h3.symm⟩
theorem AttV.form {P : Nat → Prop} {w : World} {v : Value} {A : List Att} (h : AttV P w v A) : ∃ a n c, v = .slice a n c := by obtain ⟨ao, cap, hv, _⟩ := h; exact ⟨_, _, _, hv⟩
set_option maxHeartbeats 8000000 in
theorem delement1 (B dd b q : Nat) (s : ByteArray) (k : Nat) (hIH : k < 32 → ElSpec B dd b q s (k + 1)) : ElSpec B dd b q s k := by
  rintro S L c σ p v w R0 rfl h hR hT hop hR0
  obtain ⟨ao, n, cap, rfl⟩ := rows_form hR
  have hA1 := (Below.refl w.heap.size w).alloc (Nat.le_refl _) (.cells #[.int .i64 p.kind, .string (str p.name), .slice ao n cap, .string (str p.text), .int .i64 p.at_] 74)
  have hA2 := (Below.refl (w.alloc (.cells #[.int .i64 p.kind, .string (str p.name), .slice ao n cap, .string (str p.text), .int .i64 p.at_] 74)).heap.size _).alloc (Nat.le_refl _) (.cells #[.string ⟨#[]⟩, .string ⟨#[]⟩, .slice none 0 0, .slice none 0 0, .string ⟨#[]⟩] 25)
  have hA := hA1.trans (hA2.mono hA1.size)
  have HD := Lib.hid (h.step hA)
  have HB := Lib.hid (hA.mono h.le)
  have HK := Lib.hid ((Kept.of docT hA))
  have HP := Lib.hid ((Kept.of docT hA2).heap (heap_alloc_new w (.cells #[.int .i64 p.kind, .string (str p.name), .slice ao n cap, .string (str p.text), .int .i64 p.at_] 74)) (by decide))
  have hRn := heap_alloc_new (w.alloc (.cells #[.int .i64 p.kind, .string (str p.name), .slice ao n cap, .string (str p.text), .int .i64 p.at_] 74)) (.cells #[.string ⟨#[]⟩, .string ⟨#[]⟩, .slice none 0 0, .slice none 0 0, .string ⟨#[]⟩] 25)
  rw [World.size_alloc] at hRn
  have HN := Lib.hid hRn
  have HW := Lib.hid (hR.keptOf HK.out (by decide))
  have HBw := Lib.hid h.le
  have HT := Lib.hid hT
  have HR0 := Lib.hid hR0
  have HOP := Lib.hid hop
  have HPU := Lib.hid h.pu
  have HIH := Lib.hid hIH
  have HSZ := Lib.hid (show w.heap.size + 2 ≤ ((w.alloc (.cells #[.int .i64 p.kind, .string (str p.name), .slice ao n cap, .string (str p.text), .int .i64 p.at_] 74)).alloc (.cells #[.string ⟨#[]⟩, .string ⟨#[]⟩, .slice none 0 0, .slice none 0 0, .string ⟨#[]⟩] 25)).heap.size by simp)
  clear h hR hT hop hR0 hA hA1 hA2 hRn hIH
  have p0 := Lib.cell_of_heap HP.out 0
  have p1 := Lib.cell_of_heap HP.out 1
  have p2 := Lib.cell_of_heap HP.out 2
  have p3 := Lib.cell_of_heap HP.out 3
  have p4 := Lib.cell_of_heap HP.out 4
  simp only [List.getElem?_toArray, List.getElem?_cons_zero, List.getElem?_cons_succ] at p0 p1 p2 p3 p4
  unfold pieceV
  go_enter Tryz.func37, Tryz.ntmps37
  go_wp2_with fail
  obtain ⟨R, hRe⟩ : ∃ R, w.heap.size = R := ⟨_, rfl⟩
  rw [hRe] at HP HN HBw p0 p1 p2 p3 p4 HSZ ⊢
  have HRe := Lib.hid hRe
  clear hRe
  generalize (w.alloc (.cells #[.int .i64 p.kind, .string (str p.name), .slice ao n cap, .string (str p.text), .int .i64 p.at_] 74)).alloc (.cells #[.string ⟨#[]⟩, .string ⟨#[]⟩, .slice none 0 0, .slice none 0 0, .string ⟨#[]⟩] 25) = w0 at HD HB HK HP HN HW HSZ p0 p1 p2 p3 p4 ⊢
  have C := Lib.hid (dbegun B dd b q s σ S.length L c p (.slice ao n cap) w0 HD.out HW.out HT.out.ok)
  refine C.out.mono ?_
  rintro r w1 ⟨hcase, hB1, hK1⟩
  rcases hcase with ⟨e, a, rfl, hbad⟩ | ⟨F, L', va, rfl, hok, hva, hD1⟩
  · exact ⟨rfl, .inl ⟨_, _, rfl, by rw [HR0.out, opn_bad hbad]; rfl⟩, HB.out.trans hB1, HK.out.trans hK1⟩
  obtain ⟨va0, va1, va2, rfl⟩ := hva.form
  obtain ⟨hc2, hd2, hz, hL', hFL, hFK, hFt, hFtag, hFat⟩ := enterR_ok hok
  obtain ⟨N, hN, hNd, _⟩ := enterL_known (S.length + 1) (toAtt p.attrs) [] L hz
  have hLN : L' = L ++ N := hL'.trans hN
  subst hLN
  obtain ⟨X, hXe⟩ : ∃ X, w1.heap.size = X := ⟨_, rfl⟩
  have hA := (Below.refl w1.heap.size w1).alloc (Nat.le_refl _) (.cells #[.string F.sp, .string F.nm, .slice va0 va1 va2, .slice none 0 0, .string ⟨#[]⟩] 25)
  have hRX : R + 2 ≤ X := by have := HSZ.out; have := hK1.size; omega
  have HX2 := Lib.hid (show (w1.alloc (.cells #[.string F.sp, .string F.nm, .slice va0 va1 va2, .slice none 0 0, .string ⟨#[]⟩] 25)).heap[X]? = some (.cells #[.string F.sp, .string F.nm, .slice va0 va1 va2, .slice none 0 0, .string ⟨#[]⟩] 25 (0, 0)) by rw [← hXe]; exact heap_alloc_new w1 _)
  have HD2 := Lib.hid (hD1.step hA)
  have HB2 := Lib.hid ((HB.out.trans hB1).trans (hA.mono hD1.le))
  have HK2 := Lib.hid ((HK.out.trans hK1).trans (Kept.of docT hA))
  have HP2 := Lib.hid ((hK1.trans (Kept.of docT hA)).heap HP.out (by decide))
  have HN2 := Lib.hid ((hK1.trans (Kept.of docT hA)).heap HN.out (by decide))
  have HV1 := Lib.hid hva
  have HAx := Lib.hid hA
  have HXe := Lib.hid hXe
  have HF := Lib.hid (show F.L = L ∧ F.K = [] ∧ F.tx = [] ∧ F.tag = p.name ∧ F.at_ = p.at_ from ⟨hFL, hFK, hFt, hFtag, hFat⟩)
  have HND := Lib.hid hNd
  have HOK := Lib.hid (HR0.out.trans (by rw [opn_ok hok]))
  have HI2 := Lib.hid (HIH.out hd2)
  have hXw : X < (w1.alloc (.cells #[.string F.sp, .string F.nm, .slice va0 va1 va2, .slice none 0 0, .string ⟨#[]⟩] 25)).heap.size := (Array.getElem?_eq_some_iff.1 HX2.out).1
  clear hB1 hK1 hva hD1 hok hc2 hd2 hz hL' hFL hFK hFt hFtag hFat hN hNd hA C HD HB HK HP HN HW HR0 HIH p0 p1 p2 p3 p4
  have p0 := Lib.cell_of_heap HP2.out 0
  have p1 := Lib.cell_of_heap HP2.out 1
  have p2 := Lib.cell_of_heap HP2.out 2
  have p3 := Lib.cell_of_heap HP2.out 3
  have p4 := Lib.cell_of_heap HP2.out 4
  have d1 := Lib.cell_of_heap HD2.out.heap 1
  simp only [List.getElem?_toArray, List.getElem?_cons_zero, List.getElem?_cons_succ] at p0 p1 p2 p3 p4 d1
  -- what is done behind fill, or at once
  by_cases hk1 : p.kind = 1
  · have q1 : (p.kind == 1) = true := by simp [hk1]
    have hR1 : R0 = runAt (bl s) σ (.inside F S, L ++ N, c + 1) := by have := HOK.out; rw [if_pos hk1] at this; exact this
    have CF := Lib.hid (dfill B dd b q s S F (L ++ N) σ (c + 1) X (.slice va0 va1 va2) (.slice ao n cap) p _ R0 HI2.out HD2.out HX2.out (by have := HBw.out; omega) HF.out.2.1 HF.out.2.2.1 HF.out.2.2.2.1 HF.out.2.2.2.2 ⟨_, _, _, rfl⟩ hR1)
    unfold pieceV at CF
    clear hR1 hk1
    go_wp2_with fail
    refine CF.out.mono ?_
    rintro r w3 ⟨hcase, hB3, hK3⟩
    rcases hcase with ⟨e, a, rfl, hbad⟩ | ⟨K, V, vk, tx, σ', c', rfl, hX3, hrow, hD3, hR3, hpos, hcc⟩
    · exact ⟨rfl, .inl ⟨_, _, rfl, hbad⟩, HB2.out.trans hB3, HK2.out.butNew hK3 (by have := HRe.out; omega)⟩
    obtain ⟨ak, ck, rfl⟩ := own_form hrow.2.1
    have HD3 := Lib.hid hD3
    have HB3 := Lib.hid (HB2.out.trans hB3)
    have HK3 := Lib.hid (HK2.out.butNew hK3 (by have := HRe.out; omega))
    have HX3 := Lib.hid hX3
    have HN3 := Lib.hid (hK3.heap HN2.out (by omega) (by decide))
    have HV3 := Lib.hid (HV1.out.newX HAx.out HXe.out hK3)
    have HW3 := Lib.hid hrow
    have HR3 := Lib.hid (show R0 = runAt (bl s) σ' (give (.mk F.sp F.nm F.A K tx) S, L, c') by rw [hR3, HF.out.1])
    have HPC := Lib.hid (show σ.pos ≤ σ'.pos ∧ c < c' by omega)
    have d1 := Lib.cell_of_heap hD3.heap 1
    simp only [List.getElem?_toArray, List.getElem?_cons_zero, List.getElem?_cons_succ] at d1
    have CL := Lib.hid (dleave B dd b q s σ' S.length L N c' w3 hD3 HPU.out.dep HND.out)
    clear hB3 hK3 hX3 hrow hD3 hR3 hpos hcc CF q1
    go_wp2_with fail
    refine CL.out.mono ?_
    rintro r w4 ⟨rfl, hD4, hB4, hK4⟩
    have HD4 := Lib.hid hD4
    have HB4 := Lib.hid (HB3.out.trans hB4)
    have HK4 := Lib.hid (HK3.out.trans hK4)
    have HX4 := Lib.hid (hK4.heap HX3.out (by decide))
    have HN4 := Lib.hid (hK4.heap HN3.out (by decide))
    have HV4 := Lib.hid (HV3.out.kept hK4 (by decide) (by decide))
    have HW4 := Lib.hid (HW3.out.kept hK4 (by decide) (by decide))
    clear hD4 hB4 hK4 CL HD3 HB3 HK3 HX3 HN3 HV3 HW3 d1
    have r0 := Lib.cell_of_heap HN4.out 0
    have r1 := Lib.cell_of_heap HN4.out 1
    have r2 := Lib.cell_of_heap HN4.out 2
    have r3 := Lib.cell_of_heap HN4.out 3
    have r4 := Lib.cell_of_heap HN4.out 4
    have f0 := Lib.frozen_of_heap HN4.out 0
    have f1 := Lib.frozen_of_heap HN4.out 1
    have f2 := Lib.frozen_of_heap HN4.out 2
    have f3 := Lib.frozen_of_heap HN4.out 3
    have f4 := Lib.frozen_of_heap HN4.out 4
    have x0 := Lib.cell_of_heap HX4.out 0
    have x1 := Lib.cell_of_heap HX4.out 1
    have x2 := Lib.cell_of_heap HX4.out 2
    have x3 := Lib.cell_of_heap HX4.out 3
    have x4 := Lib.cell_of_heap HX4.out 4
    simp only [List.getElem?_toArray, List.getElem?_cons_zero, List.getElem?_cons_succ] at r0 r1 r2 r3 r4 x0 x1 x2 x3 x4
    go_wp2
    have hs5 := st5_onlyR w4 (R + 1) (.string F.sp) (.string F.nm) (.slice va0 va1 va2) (.slice ak V.length ck) (.string tx)
    refine bodyPost_ret (res_node _ 4 rfl _ (R + 1) rfl _ _ _ _ _ _ 25 (0, 0) (st5_heap HN4.out _ _ _ _ _)) rfl ⟨.inr ⟨_, _, σ', c', rfl, ?_, ?_, HR3.out, HPC.out.1, HPC.out.2⟩, ?_, ?_⟩
    · rw [HRe.out]
      exact node_of ((HV4.out.only hs5 (by have := HSZ.out; omega)).lower (by have := HSZ.out; omega)) (HW4.out.only hs5 (by omega)) (by omega)
    · exact HD4.out.only hs5 HN4.out (by decide) (by have := HBw.out; omega)
    · exact HB4.out.trans (hs5.below (by have := HBw.out; omega) HD4.out.le)
    · exact HK4.out.new hs5 (by have := HRe.out; omega)
  · have hk3 : p.kind = 3 := by rcases HOP.out with h | h; exact absurd h hk1; exact h
    have q1 : (p.kind == 1) = false := by simp [hk1]
    have HR3 := Lib.hid (show R0 = runAt (bl s) σ (give (.mk F.sp F.nm F.A [] (str [])) S, L, c + 1) by have := HOK.out; rw [if_neg hk1] at this; exact this)
    have HPC := Lib.hid (show σ.pos ≤ σ.pos ∧ c < c + 1 by omega)
    have HV2 := Lib.hid (HV1.out.kept (Kept.of docT HAx.out) (by decide) (by decide))
    have CL := Lib.hid (dleave B dd b q s σ S.length L N (c + 1) _ HD2.out HPU.out.dep HND.out)
    have HW2 := Lib.hid (RowK.nil X (w1.alloc (.cells #[.string F.sp, .string F.nm, .slice va0 va1 va2, .slice none 0 0, .string ⟨#[]⟩] 25)))
    clear hk1 hk3
    go_wp2_with fail
    refine CL.out.mono ?_
    rintro r w4 ⟨rfl, hD4, hB4, hK4⟩
    have HD4 := Lib.hid hD4
    have HB4 := Lib.hid (HB2.out.trans hB4)
    have HK4 := Lib.hid (HK2.out.trans hK4)
    have HX4 := Lib.hid (hK4.heap HX2.out (by decide))
    have HN4 := Lib.hid (hK4.heap HN2.out (by decide))
    have HV4 := Lib.hid (HV2.out.kept hK4 (by decide) (by decide))
    have HW4 := Lib.hid (HW2.out.kept hK4 (by decide) (by decide))
    clear hD4 hB4 hK4 CL HD2 HB2 HK2 HX2 HN2 HV2 HW2 d1 p0 p1 p2 p3 p4 q1
    have r0 := Lib.cell_of_heap HN4.out 0
    have r1 := Lib.cell_of_heap HN4.out 1
    have r2 := Lib.cell_of_heap HN4.out 2
    have r3 := Lib.cell_of_heap HN4.out 3
    have r4 := Lib.cell_of_heap HN4.out 4
    have f0 := Lib.frozen_of_heap HN4.out 0
    have f1 := Lib.frozen_of_heap HN4.out 1
    have f2 := Lib.frozen_of_heap HN4.out 2
    have f3 := Lib.frozen_of_heap HN4.out 3
    have f4 := Lib.frozen_of_heap HN4.out 4
    have x0 := Lib.cell_of_heap HX4.out 0
    have x1 := Lib.cell_of_heap HX4.out 1
    have x2 := Lib.cell_of_heap HX4.out 2
    have x3 := Lib.cell_of_heap HX4.out 3
    have x4 := Lib.cell_of_heap HX4.out 4
    simp only [List.getElem?_toArray, List.getElem?_cons_zero, List.getElem?_cons_succ] at r0 r1 r2 r3 r4 x0 x1 x2 x3 x4
    go_wp2
    have hs5 := st5_onlyR w4 (R + 1) (.string F.sp) (.string F.nm) (.slice va0 va1 va2) (.slice none 0 0) (.string ⟨#[]⟩)
    refine bodyPost_ret (res_node _ 4 rfl _ (R + 1) rfl _ _ _ _ _ _ 25 (0, 0) (st5_heap HN4.out _ _ _ _ _)) rfl ⟨.inr ⟨_, _, σ, (c + 1), rfl, ?_, ?_, HR3.out, HPC.out.1, HPC.out.2⟩, ?_, ?_⟩
    · rw [HRe.out]
      exact node_of ((HV4.out.only hs5 (by have := HSZ.out; omega)).lower (by have := HSZ.out; omega)) (HW4.out.only hs5 (by omega)) (by omega)
    · exact HD4.out.only hs5 HN4.out (by decide) (by have := HBw.out; omega)
    · exact HB4.out.trans (hs5.below (by have := HBw.out; omega) HD4.out.le)
    · exact HK4.out.new hs5 (by have := HRe.out; omega)
/-- **(*document).element**, within k elements. -/
theorem delement (B dd b q : Nat) (s : ByteArray) : ∀ n k, k + n = 33 → ElSpec B dd b q s k
  | 0, k, h => delement1 B dd b q s k (fun hk => by omega)
  | n + 1, k, h => delement1 B dd b q s k (fun _ => delement B dd b q s n (k + 1) (by omega))

end Go.Proofs.YtekmenkebokdoaaGreatDoor
