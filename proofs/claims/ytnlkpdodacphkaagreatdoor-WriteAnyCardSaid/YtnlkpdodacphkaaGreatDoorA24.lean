/-
  The walks of (*document).element and whole, and of Parse. The walks of (*document).whole, and of Parse. The walk of Parse, with the deferred call that recovers.
  The walks of layer 6's laws galliardlaw06.awake and TreeBad.
  Elements, level by level: the walks of kidsOf, Count and Depth. The walks of kidsOf, Count and Depth.
  What WriteAny's first read leaves: an error, or an element that lies at a block, in each order of its region.
-/
import Derived.Test.YtnlkpdodacphkaaGreatDoorA23
import Derived.Recover
import Derived.Deep.LoopGhost
import Derived.Test.YtnlkpdodacphkaaGreatDoorA21
import Derived.Test.YtnlkpdodacphkaaGreatDoorA18
namespace Go.Proofs.YtnlkpdodacphkaaGreatDoor
open Go Go.RowKit
set_option maxRecDepth 100000

/-- Leave, of an element that told of N. -/
theorem dleave (B dd b q : Nat) (s : ByteArray) (σ : St) (d : Nat) (L N : List Tell) (c : Nat) (w : World) (h : DS B dd b q s σ (d + 1) (L ++ N) c w) (hL : ∀ t ∈ L, t.d ≤ d) (hN : ∀ t ∈ N, t.d = d + 1) :
    Calls Tryz.prog 71 #[.pointer (some ⟨q, 0, none⟩)] w fun r w' => r = .returned (.tuple #[]) ∧ DS B dd b q s σ d L c w' ∧ Below B w w' ∧ Kept docT w w' := by
  have hf := h.pu.few
  have hl := h.pu.lim
  refine (pleave B q d (L ++ N) L.length w h.sp (by omega) (by omega) (by rw [List.length_append]; omega) (fun j hj hjm => ?_) (fun j hj hjm => ?_)).mono ?_
  · rw [List.getElem_append_left hjm]; exact hL _ (List.getElem_mem hjm)
  · rw [List.getElem_append_right hjm, hN _ (List.getElem_mem _)]; omega
  · rintro r w' ⟨rfl, hS, hB, hA⟩
    rw [List.take_left'] at hS
    · exact ⟨rfl, h.space hS hB (Kept.apart hA) ⟨h.pu.scn, h.pu.small, hL, by rw [List.length_append] at hf; omega, h.pu.cnt, by omega⟩, hB, Kept.doc hA⟩
    · rfl
theorem opn_bad {p : Pc} {S : List Fr} {L : List Tell} {c : Nat} {e a : Int} (h : enterR p S.length L c = .bad e a) : opn p S L c = .bad e a := by unfold opn; rw [h]; rfl
theorem opn_ok {p : Pc} {S : List Fr} {L L' : List Tell} {c : Nat} {F : Fr} (h : enterR p S.length L c = .ok (F, L')) :
    opn p S L c = if p.kind = 1 then .ok (.inside F S, L', c + 1) else .ok (give (.mk F.sp F.nm F.A [] (str [])) S, L, c + 1) := by unfold opn; rw [h]; rfl
/-- An element's value, out of its row. -/
theorem node_of {Q R : Nat} {w : World} {F : Fr} {va vk : Value} {V : List NV} {K : List Nd} {tx : ByteArray} (hva : AttV (NB R none w) w va F.A) (hrow : RowK Q w vk V K) (hQ : R ≤ Q) :
    NodeV (NB R none w) w (.agg #[.string F.sp, .string F.nm, va, vk, .string tx]) (.mk F.sp F.nm F.A K tx) := by
  obtain ⟨hl, hown, hn⟩ := hrow
  obtain ⟨ak, ck, rfl⟩ := own_form hown
  rw [hl]
  refine .mk F.sp F.nm tx F.A K va ak ck (fun j q => ((cellsN V)[j * 5 + q]?).getD undef) hva (fun h0 => ?_) (fun j hj => ?_)
  · obtain ⟨g, rfl, hg⟩ := own_some hown (by omega)
    obtain ⟨cur, hc, hQg⟩ := own_cell hown
    refine ⟨g, 0, rfl, ⟨by omega, by simp, cur, _, _, hc, .inr rfl⟩, hg, fun j hj q hq => ?_⟩
    have hlt : j * 5 + q < (cellsN V).length := by rw [cellsN_len]; omega
    rw [Nat.zero_add, hown.cellAt _ (by omega), List.getElem?_eq_getElem hlt]
    rfl
  · have hj' : j < V.length := by omega
    have hv := hn j hj' hj
    have e : ∀ q, q < 5 → ((cellsN V)[j * 5 + q]?).getD undef = (V[j]'hj').at_ q := fun q hq => by rw [cellsN_get V j hj' q hq]; rfl
    rw [e 0 (by decide), e 1 (by decide), e 2 (by decide), e 3 (by decide), e 4 (by decide)]
    exact hv.to (Nat.le_refl _) fun g hp _ => ⟨⟨by have := hp.1; omega, by simp, hp.2.2⟩, rfl⟩

theorem AttV.only {Q k : Nat} {w w' : World} {v : Value} {A : List Att} (h : AttV (NB Q none w) w v A) (ho : Only k w w') (hk : k < Q) : AttV (NB Q none w') w' v A :=
  h.to ho.size fun g hp hg => by
    have e := ho.block g hg (by have := hp.1; omega)
    obtain ⟨h0, hr, cs, t, z, h3, h4⟩ := hp
    exact ⟨⟨h0, hr, cs, t, z, e.trans h3, h4⟩, e⟩
theorem AttV.lower {Q Q' : Nat} {w : World} {v : Value} {A : List Att} (h : AttV (NB Q none w) w v A) (hQ : Q' ≤ Q) : AttV (NB Q' none w) w v A :=
  h.to (Nat.le_refl _) fun _ hp _ => ⟨⟨Nat.le_trans hQ hp.1, hp.2⟩, rfl⟩
theorem AttV.newX {Q X : Nat} {w1 w2 w3 : World} {v : Value} {A : List Att} (h : AttV (NB Q none w1) w1 v A) (hb : Below w1.heap.size w1 w2) (hX : w1.heap.size = X) (hk : KeptB docT X w2 w3) : AttV (NB Q none w3) w3 v A :=
  h.to (Nat.le_trans hb.size hk.size) fun g hp hg => by
    obtain ⟨h0, hr, cs, t, z, h3, h4⟩ := hp
    have e2 : w2.heap[g]? = some (.cells cs t z) := (hb.block g hg).trans h3
    have e3 := hk.heap e2 (by omega) (by rcases h4 with rfl | rfl <;> decide)
    exact ⟨⟨h0, hr, cs, t, z, e3, h4⟩, e3.trans h3.symm⟩
theorem AttV.form {P : Nat → Prop} {w : World} {v : Value} {A : List Att} (h : AttV P w v A) : ∃ a n c, v = .slice a n c := by obtain ⟨ao, cap, hv, _⟩ := h; exact ⟨_, _, _, hv⟩
set_option maxHeartbeats 8000000 in
theorem delement1 (B dd b q : Nat) (s : ByteArray) (k : Nat) (hIH : k < 32 → ElSpec B dd b q s (k + 1)) : ElSpec B dd b q s k := by
  rintro S L c σ p v w R0 rfl h hR hT hop hR0
  obtain ⟨ao, n, cap, rfl⟩ := rows_form hR
  have hA1 := (Below.refl w.heap.size w).alloc (Nat.le_refl _) (.cells #[.int .i64 p.kind, .string (str p.name), .slice ao n cap, .string (str p.text), .int .i64 p.at_] 117)
  have hA2 := (Below.refl (w.alloc (.cells #[.int .i64 p.kind, .string (str p.name), .slice ao n cap, .string (str p.text), .int .i64 p.at_] 117)).heap.size _).alloc (Nat.le_refl _) (.cells #[.string ⟨#[]⟩, .string ⟨#[]⟩, .slice none 0 0, .slice none 0 0, .string ⟨#[]⟩] 25)
  have hA := hA1.trans (hA2.mono hA1.size)
  have HD := Lib.hid (h.step hA)
  have HB := Lib.hid (hA.mono h.le)
  have HK := Lib.hid ((Kept.of docT hA))
  have HP := Lib.hid ((Kept.of docT hA2).heap (heap_alloc_new w (.cells #[.int .i64 p.kind, .string (str p.name), .slice ao n cap, .string (str p.text), .int .i64 p.at_] 117)) (by decide))
  have hRn := heap_alloc_new (w.alloc (.cells #[.int .i64 p.kind, .string (str p.name), .slice ao n cap, .string (str p.text), .int .i64 p.at_] 117)) (.cells #[.string ⟨#[]⟩, .string ⟨#[]⟩, .slice none 0 0, .slice none 0 0, .string ⟨#[]⟩] 25)
  rw [World.size_alloc] at hRn
  have HN := Lib.hid hRn
  have HW := Lib.hid (hR.keptOf HK.out (by decide))
  have HBw := Lib.hid h.le
  have HT := Lib.hid hT
  have HR0 := Lib.hid hR0
  have HOP := Lib.hid hop
  have HPU := Lib.hid h.pu
  have HIH := Lib.hid hIH
  have HSZ := Lib.hid (show w.heap.size + 2 ≤ ((w.alloc (.cells #[.int .i64 p.kind, .string (str p.name), .slice ao n cap, .string (str p.text), .int .i64 p.at_] 117)).alloc (.cells #[.string ⟨#[]⟩, .string ⟨#[]⟩, .slice none 0 0, .slice none 0 0, .string ⟨#[]⟩] 25)).heap.size by simp)
  clear h hR hT hop hR0 hA hA1 hA2 hRn hIH
  have p0 := Lib.cell_of_heap HP.out 0
  have p1 := Lib.cell_of_heap HP.out 1
  have p2 := Lib.cell_of_heap HP.out 2
  have p3 := Lib.cell_of_heap HP.out 3
  have p4 := Lib.cell_of_heap HP.out 4
  simp only [List.getElem?_toArray, List.getElem?_cons_zero, List.getElem?_cons_succ] at p0 p1 p2 p3 p4
  unfold pieceV
  go_enter Tryz.func47, Tryz.ntmps47
  go_wp2_with fail
  obtain ⟨R, hRe⟩ : ∃ R, w.heap.size = R := ⟨_, rfl⟩
  rw [hRe] at HP HN HBw p0 p1 p2 p3 p4 HSZ ⊢
  have HRe := Lib.hid hRe
  clear hRe
  generalize (w.alloc (.cells #[.int .i64 p.kind, .string (str p.name), .slice ao n cap, .string (str p.text), .int .i64 p.at_] 117)).alloc (.cells #[.string ⟨#[]⟩, .string ⟨#[]⟩, .slice none 0 0, .slice none 0 0, .string ⟨#[]⟩] 25) = w0 at HD HB HK HP HN HW HSZ p0 p1 p2 p3 p4 ⊢
  have C := Lib.hid (dbegun B dd b q s σ S.length L c p (.slice ao n cap) w0 HD.out HW.out HT.out.ok)
  refine C.out.mono ?_
  rintro r w1 ⟨hcase, hB1, hK1⟩
  rcases hcase with ⟨e, a, rfl, hbad⟩ | ⟨F, L', va, rfl, hok, hva, hD1⟩
  · exact ⟨rfl, .inl ⟨_, _, rfl, by rw [HR0.out, opn_bad hbad]; rfl⟩, HB.out.trans hB1, HK.out.trans hK1⟩
  obtain ⟨va0, va1, va2, rfl⟩ := hva.form
  obtain ⟨hc2, hd2, hz, hL', hFL, hFK, hFt, hFtag, hFat⟩ := enterR_ok hok
  obtain ⟨N, hN, hNd, _⟩ := enterL_known (S.length + 1) (toAtt p.attrs) [] L hz
  have hLN : L' = L ++ N := hL'.trans hN
  subst hLN
  obtain ⟨X, hXe⟩ : ∃ X, w1.heap.size = X := ⟨_, rfl⟩
  have hA := (Below.refl w1.heap.size w1).alloc (Nat.le_refl _) (.cells #[.string F.sp, .string F.nm, .slice va0 va1 va2, .slice none 0 0, .string ⟨#[]⟩] 25)
  have hRX : R + 2 ≤ X := by have := HSZ.out; have := hK1.size; omega
  have HX2 := Lib.hid (show (w1.alloc (.cells #[.string F.sp, .string F.nm, .slice va0 va1 va2, .slice none 0 0, .string ⟨#[]⟩] 25)).heap[X]? = some (.cells #[.string F.sp, .string F.nm, .slice va0 va1 va2, .slice none 0 0, .string ⟨#[]⟩] 25 (0, 0)) by rw [← hXe]; exact heap_alloc_new w1 _)
  have HD2 := Lib.hid (hD1.step hA)
  have HB2 := Lib.hid ((HB.out.trans hB1).trans (hA.mono hD1.le))
  have HK2 := Lib.hid ((HK.out.trans hK1).trans (Kept.of docT hA))
  have HP2 := Lib.hid ((hK1.trans (Kept.of docT hA)).heap HP.out (by decide))
  have HN2 := Lib.hid ((hK1.trans (Kept.of docT hA)).heap HN.out (by decide))
  have HV1 := Lib.hid hva
  have HAx := Lib.hid hA
  have HXe := Lib.hid hXe
  have HF := Lib.hid (show F.L = L ∧ F.K = [] ∧ F.tx = [] ∧ F.tag = p.name ∧ F.at_ = p.at_ from ⟨hFL, hFK, hFt, hFtag, hFat⟩)
  have HND := Lib.hid hNd
  have HOK := Lib.hid (HR0.out.trans (by rw [opn_ok hok]))
  have HI2 := Lib.hid (HIH.out hd2)
  have hXw : X < (w1.alloc (.cells #[.string F.sp, .string F.nm, .slice va0 va1 va2, .slice none 0 0, .string ⟨#[]⟩] 25)).heap.size := (Array.getElem?_eq_some_iff.1 HX2.out).1
  clear hB1 hK1 hva hD1 hok hc2 hd2 hz hL' hFL hFK hFt hFtag hFat hN hNd hA C HD HB HK HP HN HW HR0 HIH p0 p1 p2 p3 p4
  have p0 := Lib.cell_of_heap HP2.out 0
  have p1 := Lib.cell_of_heap HP2.out 1
  have p2 := Lib.cell_of_heap HP2.out 2
  have p3 := Lib.cell_of_heap HP2.out 3
  have p4 := Lib.cell_of_heap HP2.out 4
  have d1 := Lib.cell_of_heap HD2.out.heap 1
  simp only [List.getElem?_toArray, List.getElem?_cons_zero, List.getElem?_cons_succ] at p0 p1 p2 p3 p4 d1
  -- what is done behind fill, or at once
  by_cases hk1 : p.kind = 1
  · have q1 : (p.kind == 1) = true := by simp [hk1]
    have hR1 : R0 = runAt (bl s) σ (.inside F S, L ++ N, c + 1) := by have := HOK.out; rw [if_pos hk1] at this; exact this
    have CF := Lib.hid (dfill B dd b q s S F (L ++ N) σ (c + 1) X (.slice va0 va1 va2) (.slice ao n cap) p _ R0 HI2.out HD2.out HX2.out (by have := HBw.out; omega) HF.out.2.1 HF.out.2.2.1 HF.out.2.2.2.1 HF.out.2.2.2.2 ⟨_, _, _, rfl⟩ hR1)
    unfold pieceV at CF
    clear hR1 hk1
    go_wp2_with fail
    refine CF.out.mono ?_
    rintro r w3 ⟨hcase, hB3, hK3⟩
    rcases hcase with ⟨e, a, rfl, hbad⟩ | ⟨K, V, vk, tx, σ', c', rfl, hX3, hrow, hD3, hR3, hpos, hcc⟩
    · exact ⟨rfl, .inl ⟨_, _, rfl, hbad⟩, HB2.out.trans hB3, HK2.out.butNew hK3 (by have := HRe.out; omega)⟩
    obtain ⟨ak, ck, rfl⟩ := own_form hrow.2.1
    have HD3 := Lib.hid hD3
    have HB3 := Lib.hid (HB2.out.trans hB3)
    have HK3 := Lib.hid (HK2.out.butNew hK3 (by have := HRe.out; omega))
    have HX3 := Lib.hid hX3
    have HN3 := Lib.hid (hK3.heap HN2.out (by omega) (by decide))
    have HV3 := Lib.hid (HV1.out.newX HAx.out HXe.out hK3)
    have HW3 := Lib.hid hrow
    have HR3 := Lib.hid (show R0 = runAt (bl s) σ' (give (.mk F.sp F.nm F.A K tx) S, L, c') by rw [hR3, HF.out.1])
    have HPC := Lib.hid (show σ.pos ≤ σ'.pos ∧ c < c' by omega)
    have d1 := Lib.cell_of_heap hD3.heap 1
    simp only [List.getElem?_toArray, List.getElem?_cons_zero, List.getElem?_cons_succ] at d1
    have CL := Lib.hid (dleave B dd b q s σ' S.length L N c' w3 hD3 HPU.out.dep HND.out)
    clear hB3 hK3 hX3 hrow hD3 hR3 hpos hcc CF q1
    go_wp2_with fail
    refine CL.out.mono ?_
    rintro r w4 ⟨rfl, hD4, hB4, hK4⟩
    have HD4 := Lib.hid hD4
    have HB4 := Lib.hid (HB3.out.trans hB4)
    have HK4 := Lib.hid (HK3.out.trans hK4)
    have HX4 := Lib.hid (hK4.heap HX3.out (by decide))
    have HN4 := Lib.hid (hK4.heap HN3.out (by decide))
    have HV4 := Lib.hid (HV3.out.kept hK4 (by decide) (by decide))
    have HW4 := Lib.hid (HW3.out.kept hK4 (by decide) (by decide))
    clear hD4 hB4 hK4 CL HD3 HB3 HK3 HX3 HN3 HV3 HW3 d1
    have r0 := Lib.cell_of_heap HN4.out 0
    have r1 := Lib.cell_of_heap HN4.out 1
    have r2 := Lib.cell_of_heap HN4.out 2
    have r3 := Lib.cell_of_heap HN4.out 3
    have r4 := Lib.cell_of_heap HN4.out 4
    have f0 := Lib.frozen_of_heap HN4.out 0
    have f1 := Lib.frozen_of_heap HN4.out 1
    have f2 := Lib.frozen_of_heap HN4.out 2
    have f3 := Lib.frozen_of_heap HN4.out 3
    have f4 := Lib.frozen_of_heap HN4.out 4
    have x0 := Lib.cell_of_heap HX4.out 0
    have x1 := Lib.cell_of_heap HX4.out 1
    have x2 := Lib.cell_of_heap HX4.out 2
    have x3 := Lib.cell_of_heap HX4.out 3
    have x4 := Lib.cell_of_heap HX4.out 4
    simp only [List.getElem?_toArray, List.getElem?_cons_zero, List.getElem?_cons_succ] at r0 r1 r2 r3 r4 x0 x1 x2 x3 x4
    go_wp2
    have hs5 := st5_onlyR w4 (R + 1) (.string F.sp) (.string F.nm) (.slice va0 va1 va2) (.slice ak V.length ck) (.string tx)
    refine bodyPost_ret (res_node _ 4 rfl _ (R + 1) rfl _ _ _ _ _ _ 25 (0, 0) (st5_heap HN4.out _ _ _ _ _)) rfl ⟨.inr ⟨_, _, σ', c', rfl, ?_, ?_, HR3.out, HPC.out.1, HPC.out.2⟩, ?_, ?_⟩
    · rw [HRe.out]
      exact node_of ((HV4.out.only hs5 (by have := HSZ.out; omega)).lower (by have := HSZ.out; omega)) (HW4.out.only hs5 (by omega)) (by omega)
    · exact HD4.out.only hs5 HN4.out (by decide) (by have := HBw.out; omega)
    · exact HB4.out.trans (hs5.below (by have := HBw.out; omega) HD4.out.le)
    · exact HK4.out.new hs5 (by have := HRe.out; omega)
  · have hk3 : p.kind = 3 := by rcases HOP.out with h | h; exact absurd h hk1; exact h
    have q1 : (p.kind == 1) = false := by simp [hk1]
    have HR3 := Lib.hid (show R0 = runAt (bl s) σ (give (.mk F.sp F.nm F.A [] (str [])) S, L, c + 1) by have := HOK.out; rw [if_neg hk1] at this; exact this)
    have HPC := Lib.hid (show σ.pos ≤ σ.pos ∧ c < c + 1 by omega)
    have HV2 := Lib.hid (HV1.out.kept (Kept.of docT HAx.out) (by decide) (by decide))
    have CL := Lib.hid (dleave B dd b q s σ S.length L N (c + 1) _ HD2.out HPU.out.dep HND.out)
    have HW2 := Lib.hid (RowK.nil X (w1.alloc (.cells #[.string F.sp, .string F.nm, .slice va0 va1 va2, .slice none 0 0, .string ⟨#[]⟩] 25)))
    clear hk1 hk3
    go_wp2_with fail
    refine CL.out.mono ?_
    rintro r w4 ⟨rfl, hD4, hB4, hK4⟩
    have HD4 := Lib.hid hD4
    have HB4 := Lib.hid (HB2.out.trans hB4)
    have HK4 := Lib.hid (HK2.out.trans hK4)
    have HX4 := Lib.hid (hK4.heap HX2.out (by decide))
    have HN4 := Lib.hid (hK4.heap HN2.out (by decide))
    have HV4 := Lib.hid (HV2.out.kept hK4 (by decide) (by decide))
    have HW4 := Lib.hid (HW2.out.kept hK4 (by decide) (by decide))
    clear hD4 hB4 hK4 CL HD2 HB2 HK2 HX2 HN2 HV2 HW2 d1 p0 p1 p2 p3 p4 q1
    have r0 := Lib.cell_of_heap HN4.out 0
    have r1 := Lib.cell_of_heap HN4.out 1
    have r2 := Lib.cell_of_heap HN4.out 2
    have r3 := Lib.cell_of_heap HN4.out 3
    have r4 := Lib.cell_of_heap HN4.out 4
    have f0 := Lib.frozen_of_heap HN4.out 0
    have f1 := Lib.frozen_of_heap HN4.out 1
    have f2 := Lib.frozen_of_heap HN4.out 2
    have f3 := Lib.frozen_of_heap HN4.out 3
    have f4 := Lib.frozen_of_heap HN4.out 4
    have x0 := Lib.cell_of_heap HX4.out 0
    have x1 := Lib.cell_of_heap HX4.out 1
    have x2 := Lib.cell_of_heap HX4.out 2
    have x3 := Lib.cell_of_heap HX4.out 3
    have x4 := Lib.cell_of_heap HX4.out 4
    simp only [List.getElem?_toArray, List.getElem?_cons_zero, List.getElem?_cons_succ] at r0 r1 r2 r3 r4 x0 x1 x2 x3 x4
    go_wp2
    have hs5 := st5_onlyR w4 (R + 1) (.string F.sp) (.string F.nm) (.slice va0 va1 va2) (.slice none 0 0) (.string ⟨#[]⟩)
    refine bodyPost_ret (res_node _ 4 rfl _ (R + 1) rfl _ _ _ _ _ _ 25 (0, 0) (st5_heap HN4.out _ _ _ _ _)) rfl ⟨.inr ⟨_, _, σ, (c + 1), rfl, ?_, ?_, HR3.out, HPC.out.1, HPC.out.2⟩, ?_, ?_⟩
    · rw [HRe.out]
      exact node_of ((HV4.out.only hs5 (by have := HSZ.out; omega)).lower (by have := HSZ.out; omega)) (HW4.out.only hs5 (by omega)) (by omega)
    · exact HD4.out.only hs5 HN4.out (by decide) (by have := HBw.out; omega)
    · exact HB4.out.trans (hs5.below (by have := HBw.out; omega) HD4.out.le)
    · exact HK4.out.new hs5 (by have := HRe.out; omega)
/-- **(*document).element**, within k elements. -/
theorem delement (B dd b q : Nat) (s : ByteArray) : ∀ n k, k + n = 33 → ElSpec B dd b q s k
  | 0, k, h => delement1 B dd b q s k (fun hk => by omega)
  | n + 1, k, h => delement1 B dd b q s k (fun _ => delement B dd b q s n (k + 1) (by omega))

end Go.Proofs.YtnlkpdodacphkaaGreatDoor

namespace Go.Proofs.YtnlkpdodacphkaaGreatDoor
open Go Go.RowKit
set_option maxRecDepth 100000

theorem taken_first {D : List UInt8} {σ : St} {p : Pc} {L : List Tell} {c : Nat} (hb : ¬ blankP p) (hT : Took D σ p) :
    takenAt D σ p (.before, L, c) = if opens p then (opn p [] L c).on fun m' => runAt D σ m' else .bad 3 p.at_ := by
  by_cases h0 : p.kind = 0
  · have hno : ¬ opens p := by rintro (h | h) <;> rw [h0] at h <;> exact absurd h (by decide)
    unfold takenAt
    rw [if_pos h0, if_neg hno, (hT.zero h0).1]
    rfl
  · rw [taken_in h0]
    have e : step p (.before, L, c) = if blankP p then .ok (.before, L, c) else if opens p then opn p [] L c else .bad 3 p.at_ := rfl
    rw [e, if_neg hb]
    split
    · rfl
    · rfl
theorem taken_last {D : List UInt8} {σ : St} {p : Pc} {x : Nd} {L : List Tell} {c : Nat} (hb : ¬ blankP p) :
    takenAt D σ p (.behind x, L, c) = if p.kind = 0 then .ok x else .bad 3 p.at_ := by
  by_cases h0 : p.kind = 0
  · unfold takenAt; rw [if_pos h0, if_pos h0]; rfl
  · rw [taken_in h0, if_neg h0]
    have e : step p (.behind x, L, c) = if blankP p then .ok (.behind x, L, c) else .bad 3 p.at_ := rfl
    rw [e, if_neg hb]; rfl
theorem NodeV.only {Q Q' k : Nat} {w w' : World} {v : Value} {x : Nd} (h : NodeV (NB Q none w) w v x) (ho : Only k w w') (hk : k < Q) (hQ : Q' ≤ Q) : NodeV (NB Q' none w') w' v x :=
  h.to ho.size fun g hp hg => by
    have e := ho.block g hg (by have := hp.1; omega)
    obtain ⟨h0, hr, cs, t, z, h3, h4⟩ := hp
    exact ⟨⟨by omega, hr, cs, t, z, e.trans h3, h4⟩, e⟩
def WhGives (B : Nat) (R0 : Res Nd) (w : World) (r : Ending) (w' : World) : Prop :=
  ((∃ e a, r = dies e a ∧ R0 = .bad e a) ∨ ∃ x v, r = .returned v ∧ NodeV (NB w.heap.size none w') w' v x ∧ R0 = .ok x) ∧ Below B w w'
set_option maxHeartbeats 8000000 in
theorem dwhole (B dd b q : Nat) (s : ByteArray) (σ : St) (L : List Tell) (c : Nat) (w : World) (h : DS B dd b q s σ 0 L c w) (R0 : Res Nd) (hR0 : R0 = runAt (bl s) σ (.before, L, c)) :
    Calls Tryz.prog 29 #[.pointer (some ⟨dd, 0, none⟩)] w (WhGives B R0 w) := by
  have hA := (Below.refl w.heap.size w).alloc (Nat.le_refl _) (.cells #[.string ⟨#[]⟩, .string ⟨#[]⟩, .slice none 0 0, .slice none 0 0, .string ⟨#[]⟩] 25)
  have HD := Lib.hid (h.step hA)
  have HB := Lib.hid (hA.mono h.le)
  have HK := Lib.hid (Kept.of docT hA)
  have HN := Lib.hid (heap_alloc_new w (.cells #[.string ⟨#[]⟩, .string ⟨#[]⟩, .slice none 0 0, .slice none 0 0, .string ⟨#[]⟩] 25))
  have HBw := Lib.hid h.le
  have HR0 := Lib.hid hR0
  have HSZ := Lib.hid (show w.heap.size + 1 ≤ (w.alloc (.cells #[.string ⟨#[]⟩, .string ⟨#[]⟩, .slice none 0 0, .slice none 0 0, .string ⟨#[]⟩] 25)).heap.size by simp)
  clear h hR0 hA
  go_enter Tryz.func29, Tryz.ntmps29
  go_wp2_with fail
  obtain ⟨R, hRe⟩ : ∃ R, w.heap.size = R := ⟨_, rfl⟩
  rw [hRe] at HN HBw HSZ ⊢
  have HRe := Lib.hid hRe
  clear hRe
  generalize w.alloc (.cells #[.string ⟨#[]⟩, .string ⟨#[]⟩, .slice none 0 0, .slice none 0 0, .string ⟨#[]⟩] 25) = w0 at HD HB HK HN HSZ ⊢
  have C := Lib.hid (daround B dd b q s σ 0 L c (.before, L, c) (around_before L c) w0 HD.out R0 HR0.out)
  refine C.out.mono ?_
  rintro r w1 ⟨hcase, hB1, hK1⟩
  rcases hcase with ⟨e, a, rfl, hbad⟩ | ⟨x, σ1, p, rfl, ⟨v, rfl, hrows, hfresh⟩, hD1, hT1, hnb, hs1⟩
  · exact ⟨rfl, .inl ⟨_, _, rfl, hbad⟩, HB.out.trans hB1⟩
  obtain ⟨ao, n, cap, rfl⟩ := rows_form hrows
  have hA := (Below.refl w1.heap.size w1).alloc (Nat.le_refl _) (.cells #[.int .i64 p.kind, .string (str p.name), .slice ao n cap, .string (str p.text), .int .i64 p.at_] 117)
  obtain ⟨P, hPe⟩ : ∃ P, w1.heap.size = P := ⟨_, rfl⟩
  have HD2 := Lib.hid (hD1.step hA)
  have HB2 := Lib.hid ((HB.out.trans hB1).trans (hA.mono hD1.le))
  have HN2 := Lib.hid ((Kept.of docT hA).heap (hK1.heap HN.out (by decide)) (by decide))
  have HP2 := Lib.hid (show (w1.alloc (.cells #[.int .i64 p.kind, .string (str p.name), .slice ao n cap, .string (str p.text), .int .i64 p.at_] 117)).heap[P]? = some (.cells #[.int .i64 p.kind, .string (str p.name), .slice ao n cap, .string (str p.text), .int .i64 p.at_] 117 (0, 0)) by rw [← hPe]; exact heap_alloc_new w1 _)
  have HW2 := Lib.hid (hrows.keptOf (Kept.of docT hA) (by decide))
  have HT := Lib.hid hT1
  have HS1 := Lib.hid (hs1.trans (taken_first hnb hT1))
  have HSZ2 := Lib.hid (show R + 1 ≤ (w1.alloc (.cells #[.int .i64 p.kind, .string (str p.name), .slice ao n cap, .string (str p.text), .int .i64 p.at_] 117)).heap.size from Nat.le_trans HSZ.out (Nat.le_trans hK1.size hA.size))
  have hPe := Lib.hid hPe
  clear hB1 hK1 hrows hfresh hD1 hT1 hnb hs1 hA C HD HB HK HN HSZ HR0
  go_wp2_with fail
  generalize w1.alloc (.cells #[.int .i64 p.kind, .string (str p.name), .slice ao n cap, .string (str p.text), .int .i64 p.at_] 117) = w2 at HD2 HB2 HN2 HP2 HW2 HSZ2 ⊢
  have p0 := Lib.cell_of_heap HP2.out 0
  have p1 := Lib.cell_of_heap HP2.out 1
  have p2 := Lib.cell_of_heap HP2.out 2
  have p3 := Lib.cell_of_heap HP2.out 3
  have p4 := Lib.cell_of_heap HP2.out 4
  simp only [List.getElem?_toArray, List.getElem?_cons_zero, List.getElem?_cons_succ] at p0 p1 p2 p3 p4
  have CT := topens p.kind p.at_ (str p.name) (str p.text) (.slice ao n cap) ⟨_, _, _, rfl⟩ w2.drew
  have hPl : P < w2.heap.size := (Array.getElem?_eq_some_iff.1 HP2.out).1
  have HP4 := Lib.hid p4
  by_cases hop : opens p
  rotate_left
  · rw [decide_eq_false (show ¬ (p.kind = 1 ∨ p.kind = 3) from hop)] at CT
    have CT := Lib.hid CT
    have HE := Lib.hid (show R0 = .bad 3 p.at_ by rw [HS1.out, if_neg hop])
    clear hop HS1
    go_region_with (first
      | (go_at_call 46; refine CT.out.mono ?_; rintro e wy ⟨rfl, hby⟩; have HY := Lib.hid hby; have ky : wy.cell? ⟨P, 4, none⟩ = some (.int .i64 p.at_) := (hby.cell (p := ⟨P, 4, none⟩) hPl).trans HP4.out; clear hby)
      | (go_at_call 45; refine (must_bad _ _ _).mono ?_; rintro e wz ⟨rfl, hw⟩; obtain rfl := hw.symm
         refine ends_any ⟨rfl, .inl ⟨_, _, rfl, HE.out⟩, (HB2.out.trans (Below.refl _ _).drew).trans (HY.out.mono HD2.out.le)⟩ wy ?_))
    all_goals trivial
  rw [decide_eq_true (show p.kind = 1 ∨ p.kind = 3 from hop)] at CT
  have CT := Lib.hid CT
  have HS2 := Lib.hid (show R0 = (opn p [] L c).on fun m' => runAt (bl s) σ1 m' by rw [HS1.out, if_pos hop])
  have HOP := Lib.hid hop
  clear hop HS1
  go_cut [] (fun wx => Below w2.heap.size w2 wx)
  case first =>
    go_region_with (first
      | (go_at_call 46; refine CT.out.mono ?_; rintro e wy ⟨rfl, hby⟩; have HY := Lib.hid hby; have ky : wy.cell? ⟨P, 4, none⟩ = some (.int .i64 p.at_) := (hby.cell (p := ⟨P, 4, none⟩) hPl).trans HP4.out; clear hby)
      | (go_at_call 45; refine (must_ok _ _ _).mono ?_; rintro e wz ⟨rfl, hw⟩; obtain rfl := hw.symm))
    all_goals
      go_wp2_with fail
      go_meet
      exact (Below.refl _ _).drew.trans HY.out
  case rest =>
    have HD3 := Lib.hid (HD2.out.step hcut)
    have HB3 := Lib.hid (HB2.out.trans (hcut.mono HD2.out.le))
    have HN3 := Lib.hid ((Kept.of docT hcut).heap HN2.out (by decide))
    have HP3 := Lib.hid ((Kept.of docT hcut).heap HP2.out (by decide))
    have HW3 := Lib.hid (HW2.out.keptOf (Kept.of docT hcut) (by decide))
    have HSZ3 := Lib.hid (Nat.le_trans HSZ2.out hcut.size)
    clear hcut p0 p1 p2 p3 p4 CT HP4 hPl HD2 HB2 HN2 HP2 HW2 HSZ2
    have p0 := Lib.cell_of_heap HP3.out 0
    have p1 := Lib.cell_of_heap HP3.out 1
    have p2 := Lib.cell_of_heap HP3.out 2
    have p3 := Lib.cell_of_heap HP3.out 3
    have p4 := Lib.cell_of_heap HP3.out 4
    simp only [List.getElem?_toArray, List.getElem?_cons_zero, List.getElem?_cons_succ] at p0 p1 p2 p3 p4
    have CE := delement B dd b q s 33 0 (by omega) [] L c σ1 p (.slice ao n cap) wc R0 rfl HD3.out HW3.out HT.out HOP.out HS2.out
    unfold pieceV at CE
    have CE := Lib.hid CE
    go_wp2_with fail
    refine CE.out.mono ?_
    rintro r w4 ⟨hcase, hB4, hK4⟩
    rcases hcase with ⟨e, a, rfl, hbad⟩ | ⟨x, v, σ2, c2, rfl, hv, hD4, hs4, _, _⟩
    · exact ⟨rfl, .inl ⟨_, _, rfl, hbad⟩, HB3.out.trans hB4⟩
    obtain ⟨sp, nm, t, a1, n1, c1, a2, n2, cc2, rfl⟩ := hv.form
    have hA := (Below.refl w4.heap.size w4).alloc (Nat.le_refl _) (.cells #[.string sp, .string nm, .slice a1 n1 c1, .slice a2 n2 cc2, .string t] 25)
    obtain ⟨X, hXe⟩ : ∃ X, w4.heap.size = X := ⟨_, rfl⟩
    have HD5 := Lib.hid (hD4.step hA)
    have HB5 := Lib.hid ((HB3.out.trans hB4).trans (hA.mono hD4.le))
    have HN5 := Lib.hid ((Kept.of docT hA).heap (hK4.heap HN3.out (by decide)) (by decide))
    have HX5 := Lib.hid (show (w4.alloc (.cells #[.string sp, .string nm, .slice a1 n1 c1, .slice a2 n2 cc2, .string t] 25)).heap[X]? = some (.cells #[.string sp, .string nm, .slice a1 n1 c1, .slice a2 n2 cc2, .string t] 25 (0, 0)) by rw [← hXe]; exact heap_alloc_new w4 _)
    have HV5 := Lib.hid (hv.kept (Kept.of docT hA) (by decide) (by decide))
    have HS5 := Lib.hid (show R0 = runAt (bl s) σ2 (.behind x, L, c2) from hs4)
    have hXe := Lib.hid hXe
    clear hB4 hK4 hv hD4 hs4 hA CE HD3 HB3 HN3 HP3 HW3 p0 p1 p2 p3 p4
    go_wp2_with fail
    generalize w4.alloc (.cells #[.string sp, .string nm, .slice a1 n1 c1, .slice a2 n2 cc2, .string t] 25) = w5 at HD5 HB5 HN5 HX5 HV5 ⊢
    have C := Lib.hid (daround B dd b q s σ2 0 L c2 (.behind x, L, c2) (around_behind x L c2) w5 HD5.out R0 HS5.out)
    refine C.out.mono ?_
    rintro r w6 ⟨hcase, hB6, hK6⟩
    rcases hcase with ⟨e, a, rfl, hbad⟩ | ⟨x2, σ3, p2, rfl, ⟨v2, rfl, hrows, _⟩, hD6, hT6, hnb, hs6⟩
    · exact ⟨rfl, .inl ⟨_, _, rfl, hbad⟩, HB5.out.trans hB6⟩
    obtain ⟨ao2, nn2, cap2, rfl⟩ := rows_form hrows
    have hA := (Below.refl w6.heap.size w6).alloc (Nat.le_refl _) (.cells #[.int .i64 p2.kind, .string (str p2.name), .slice ao2 nn2 cap2, .string (str p2.text), .int .i64 p2.at_] 117)
    have HB7 := Lib.hid ((HB5.out.trans hB6).trans (hA.mono hD6.le))
    have HN7 := Lib.hid ((hK6.trans (Kept.of docT hA)).heap HN5.out (by decide))
    have HX7 := Lib.hid ((hK6.trans (Kept.of docT hA)).heap HX5.out (by decide))
    have HV7 := Lib.hid (HV5.out.kept (hK6.trans (Kept.of docT hA)) (by decide) (by decide))
    have HS7 := Lib.hid (hs6.trans (taken_last hnb))
    have HL7 := Lib.hid (Nat.le_trans hD6.le hA.size)
    clear hB6 hK6 hrows hD6 hT6 hnb hs6 hA C HD5 HB5 HN5 HX5 HV5 HS5
    have r0 := Lib.cell_of_heap HN7.out 0
    have r1 := Lib.cell_of_heap HN7.out 1
    have r2 := Lib.cell_of_heap HN7.out 2
    have r3 := Lib.cell_of_heap HN7.out 3
    have r4 := Lib.cell_of_heap HN7.out 4
    have f0 := Lib.frozen_of_heap HN7.out 0
    have f1 := Lib.frozen_of_heap HN7.out 1
    have f2 := Lib.frozen_of_heap HN7.out 2
    have f3 := Lib.frozen_of_heap HN7.out 3
    have f4 := Lib.frozen_of_heap HN7.out 4
    have x0 := Lib.cell_of_heap HX7.out 0
    have x1 := Lib.cell_of_heap HX7.out 1
    have x2' := Lib.cell_of_heap HX7.out 2
    have x3 := Lib.cell_of_heap HX7.out 3
    have x4 := Lib.cell_of_heap HX7.out 4
    simp only [List.getElem?_toArray, List.getElem?_cons_zero, List.getElem?_cons_succ] at r0 r1 r2 r3 r4 x0 x1 x2' x3 x4
    by_cases hk : p2.kind = 0
    · have q0 : (p2.kind == 0) = true := by simp [hk]
      have HE := Lib.hid (show R0 = .ok x by rw [HS7.out, if_pos hk])
      clear hk HS7
      go_wp2_with fail
      refine (must_ok _ _ _).mono ?_
      rintro e wy ⟨rfl, hw⟩
      obtain rfl := hw.symm
      go_wp2
      have hs5 := st5_onlyR (w6.alloc (.cells #[.int .i64 p2.kind, .string (str p2.name), .slice ao2 nn2 cap2, .string (str p2.text), .int .i64 p2.at_] 117)) R (.string sp) (.string nm) (.slice a1 n1 c1) (.slice a2 n2 cc2) (.string t)
      refine bodyPost_ret (res_node _ 2 rfl _ R rfl _ _ _ _ _ _ 25 (0, 0) (st5_heap HN7.out _ _ _ _ _)) rfl ⟨.inr ⟨x, _, rfl, ?_, HE.out⟩, ?_⟩
      · rw [HRe.out]
        exact HV7.out.only hs5 (by have := HSZ3.out; omega) (by have := HSZ3.out; omega)
      · exact HB7.out.trans (hs5.below HBw.out HL7.out)
    · have q0 : (p2.kind == 0) = false := by simp [hk]
      have HE := Lib.hid (show R0 = .bad 3 p2.at_ by rw [HS7.out, if_neg hk])
      clear hk HS7
      go_wp2_with fail
      refine (must_bad _ _ _).mono ?_
      rintro e wy ⟨rfl, hw⟩
      obtain rfl := hw.symm
      exact ⟨rfl, .inl ⟨_, _, rfl, HE.out⟩, HB7.out⟩

end Go.Proofs.YtnlkpdodacphkaaGreatDoor

namespace Go.Proofs.YtnlkpdodacphkaaGreatDoor
open Go Go.RowKit
set_option maxRecDepth 100000

/-- The deferred closure, of a frame that returns: recover finds nothing. -/
theorem catch_idle (p q : Addr) (w : World) :
    CallsD Tryz.prog 26 #[.pointer (some p), .pointer (some q)] .returning w fun e u' w' => e = .returned (.tuple #[]) ∧ u' = .returning ∧ w' = w := by
  refine callsD_of_wpS Tryz.func26 rfl fun c₀ cs hu => ?_
  apply wpS_seq
  apply wpS_region
  simp [wpOpsS, go_sem, recoverD, hu, Tryz.ntmps26, Exit.thenS]
  refine wpS_of_wp ?_
  go_wp2
  cases c₀
  simp_all [bodyPostS, results, Tryz.results26]
set_option maxHeartbeats 2000000 in
theorem as_wrong (v : Value) (w : World) : (Instr.typeAssert (.iface 60 v) 20 60 true).run Tryz.prog w = .ok (.tuple #[v, .bool true]) w := by kernel_rfl
set_option maxHeartbeats 2000000 in
theorem catch_wrong (A : Nat) (x y e a : Int) (w : World) (h1 : w.heap[A + 1]? = some (.cells #[.int .i64 x] 3 (0, 0))) (h2 : w.heap[A + 1 + 1]? = some (.cells #[.int .i64 y] 29 (0, 0))) :
    CallsD Tryz.prog 26 #[.pointer (some ⟨A + 1, 0, none⟩), .pointer (some ⟨A + 1 + 1, 0, none⟩)] (.panicking [{ v := .iface 60 (.agg #[.int .i64 e, .int .i64 a]), recovered := false }]) w fun r u' w' =>
      r = .returned (.tuple #[]) ∧ u' = .panicking [{ v := .iface 60 (.agg #[.int .i64 e, .int .i64 a]), recovered := true }] ∧
      w'.heap[A + 1]? = some (.cells #[.int .i64 a] 3 (0, 0)) ∧ w'.heap[A + 1 + 1]? = some (.cells #[.int .i64 e] 29 (0, 0)) ∧ Below A w w' ∧ w'.heap[A]? = w.heap[A]? := by
  have hta := as_wrong (.agg #[.int .i64 e, .int .i64 a])
  have c1 := Lib.cell_of_heap h1 0
  have c2 := Lib.cell_of_heap h2 0
  have f1 := Lib.frozen_of_heap h1 0
  have f2 := Lib.frozen_of_heap h2 0
  simp only [List.getElem?_toArray, List.getElem?_cons_zero] at c1 c2
  have hl1 : A + 1 < w.heap.size := (Array.getElem?_eq_some_iff.1 h1).1
  have hl2 : A + 1 + 1 < w.heap.size := (Array.getElem?_eq_some_iff.1 h2).1
  have H1 := Lib.hid h1
  have H2 := Lib.hid h2
  clear h1 h2
  refine callsD_of_wpS Tryz.func26 rfl fun c₀ cs hu => ?_
  apply wpS_seq
  apply wpS_region
  simp [wpOpsS, go_sem, recoverD, hu, Tryz.ntmps26, Exit.thenS]
  refine wpS_of_wp ?_
  go_wp2
  go_region
  all_goals
    go_wp2
    refine ⟨rfl, _, rfl, .tuple #[], by simp [results, Tryz.results26], rfl, rfl, ?_, ?_, ?_, ?_⟩
    · show (((w.setCell ⟨A + 1, 0, none⟩ (.int .i64 a)).setCell ⟨A + 1 + 1, 0, none⟩ (.int .i64 e)).alloc _).heap[A + 1]? = _
      rw [Below.heap_alloc _ _ _ (by simpa [World.setCell] using hl1), Below.heap_setCell _ _ _ _ (by show A + 1 ≠ A + 1 + 1; omega), heap_put _ H1.out]; rfl
    · show (((w.setCell ⟨A + 1, 0, none⟩ (.int .i64 a)).setCell ⟨A + 1 + 1, 0, none⟩ (.int .i64 e)).alloc _).heap[A + 1 + 1]? = _
      rw [Below.heap_alloc _ _ _ (by simpa [World.setCell] using hl2), heap_put _ ((Below.heap_setCell _ _ _ _ (by show A + 1 + 1 ≠ A + 1; omega)).trans H2.out)]; rfl
    · exact ((((Below.refl A w).setCell (p := ⟨A + 1, 0, none⟩) (by show A ≤ A + 1; omega) _).setCell (p := ⟨A + 1 + 1, 0, none⟩) (by show A ≤ A + 1 + 1; omega) _).alloc (by simp [World.setCell]; omega) _).drew
    · show (((w.setCell ⟨A + 1, 0, none⟩ (.int .i64 a)).setCell ⟨A + 1 + 1, 0, none⟩ (.int .i64 e)).alloc _).heap[A]? = _
      rw [Below.heap_alloc _ _ _ (by simp [World.setCell]; omega), Below.heap_setCell _ _ _ _ (by show A ≠ A + 1 + 1; omega), Below.heap_setCell _ _ _ _ (by show A ≠ A + 1; omega)]
/-- What Parse answers. -/
def PaGives (D : List UInt8) (w : World) (r : Ending) (w' : World) : Prop :=
  ((∃ e a, parseL D = .bad e a ∧ r = .returned (.tuple #[.agg #[.string ⟨#[]⟩, .string ⟨#[]⟩, .slice none 0 0, .slice none 0 0, .string ⟨#[]⟩], .int .i64 a, .int .i64 e])) ∨
    ∃ x v, parseL D = .ok x ∧ r = .returned (.tuple #[v, .int .i64 0, .int .i64 0]) ∧ NodeV (NB w.heap.size none w') w' v x) ∧ Below w.heap.size w w'
set_option maxHeartbeats 8000000 in
theorem dparse (s : ByteArray) (w : World) (hE : EntV w) (hT : Tabs w) (hs : s.size ≤ 4000000000) :
    Calls Tryz.prog 9 #[.string s] w (PaGives (bl s) w) := by
  have hmf : ∀ (fn : Fn) (first cap : Array Value) (w : World), (Instr.makeFunc fn first cap).run Tryz.prog w = .ok (.func fn first cap) w := fun _ _ _ _ => rfl
  have HE := Lib.hid hE
  have HT := Lib.hid hT
  clear hE hT
  go_enter_defers Tryz.func9, Tryz.ntmps9
  go_wp2_with fail
  obtain ⟨A, hAe⟩ : ∃ A, w.heap.size = A := ⟨_, rfl⟩
  have hb1 := (Below.refl w.heap.size w).alloc (Nat.le_refl _) (.cells #[.string ⟨#[]⟩, .string ⟨#[]⟩, .slice none 0 0, .slice none 0 0, .string ⟨#[]⟩] 25)
  have hb2 := hb1.alloc (by simp) (.cells #[.int .i64 0] 3)
  have hb3 := hb2.alloc (by simp; omega) (.cells #[.int .i64 0] 29)
  obtain ⟨w0, hw0⟩ : ∃ w0, ((w.alloc (.cells #[.string ⟨#[]⟩, .string ⟨#[]⟩, .slice none 0 0, .slice none 0 0, .string ⟨#[]⟩] 25)).alloc (.cells #[.int .i64 0] 3)).alloc (.cells #[.int .i64 0] 29) = w0 := ⟨_, rfl⟩
  have h0 : w0.heap[A]? = some (.cells #[.string ⟨#[]⟩, .string ⟨#[]⟩, .slice none 0 0, .slice none 0 0, .string ⟨#[]⟩] 25 (0, 0)) := by
    rw [← hw0, ← hAe, Below.heap_alloc _ _ _ (by simp; omega), Below.heap_alloc _ _ _ (by simp)]; exact heap_alloc_new w _
  have h1 : w0.heap[A + 1]? = some (.cells #[.int .i64 0] 3 (0, 0)) := by
    have := heap_alloc_new (w.alloc (.cells #[.string ⟨#[]⟩, .string ⟨#[]⟩, .slice none 0 0, .slice none 0 0, .string ⟨#[]⟩] 25)) (.cells #[.int .i64 0] 3)
    rw [World.size_alloc, hAe] at this
    rw [← hw0, Below.heap_alloc _ _ _ (by simp; omega)]; exact this
  have h2 : w0.heap[A + 1 + 1]? = some (.cells #[.int .i64 0] 29 (0, 0)) := by
    have := heap_alloc_new ((w.alloc (.cells #[.string ⟨#[]⟩, .string ⟨#[]⟩, .slice none 0 0, .slice none 0 0, .string ⟨#[]⟩] 25)).alloc (.cells #[.int .i64 0] 3)) (.cells #[.int .i64 0] 29)
    rw [World.size_alloc, World.size_alloc, hAe] at this
    rw [← hw0]; exact this
  have hs0 : w0.heap.size = A + 3 := by rw [← hw0, ← hAe]; simp
  rw [hw0] at hb3
  have HB0 := Lib.hid hb3
  have CN := Lib.hid (snew s w0 (HE.out.below hb3) (HT.out.below hb3) hs)
  have H0 := Lib.hid h0
  have H1 := Lib.hid h1
  have H2 := Lib.hid h2
  have HS0 := Lib.hid hs0
  rw [hw0, hAe]
  have HA := Lib.hid hAe
  clear hb1 hb2 hb3 h0 h1 h2 hs0 hw0 hAe
  refine CN.out.mono ?_
  rintro r w1 ⟨b, hbe, rfl, hS1, hB1⟩
  have HS1 := Lib.hid hS1
  have HB1 := Lib.hid hB1
  have CP := Lib.hid (pnew w1)
  clear hS1 hB1 hbe CN
  go_wp2_with fail
  refine CP.out.mono ?_
  rintro r w2 ⟨q, rfl, hS2, hB2⟩
  obtain ⟨dd, hdd⟩ : ∃ dd, w2.heap.size = dd := ⟨_, rfl⟩
  have hA := (Below.refl w2.heap.size w2).alloc (Nat.le_refl _) (.cells #[.pointer (some ⟨b, 0, none⟩), .pointer (some ⟨q, 0, none⟩), .int .i64 0] 66)
  have hB12 : Below w0.heap.size w1 (w2.alloc (.cells #[.pointer (some ⟨b, 0, none⟩), .pointer (some ⟨q, 0, none⟩), .int .i64 0] 66)) := (hB2.mono HB1.out.size).trans (hA.mono (Nat.le_trans HB1.out.size hB2.size))
  have HDS := Lib.hid (show DS w0.heap.size dd b q s (newS (bl s)) 0 tells0 0 (w2.alloc (.cells #[.pointer (some ⟨b, 0, none⟩), .pointer (some ⟨q, 0, none⟩), .int .i64 0] 66)) from
    ⟨(HS1.out.step hB2).step hA, (hS2.mono HB1.out.size).step hA, by rw [← hdd]; exact Nat.le_trans HB1.out.size hB2.size, by rw [← hdd]; exact heap_alloc_new w2 _,
      ⟨new_scn _, fun he => by unfold newS at he; split at he; (cases he); omega, fun t ht => by rcases List.mem_cons.1 ht with rfl | ht; (exact Nat.le_refl _); rw [List.mem_singleton.1 ht]; exact Nat.le_refl _, by decide, by decide, by decide⟩⟩)
  have HB3 := Lib.hid (HB1.out.trans hB12)
  have hdd := Lib.hid hdd
  clear hS2 hB2 hA hB12 CP HS1 HB1
  go_wp2_with fail
  generalize w2.alloc (.cells #[.pointer (some ⟨b, 0, none⟩), .pointer (some ⟨q, 0, none⟩), .int .i64 0] 66) = w3 at HDS HB3 ⊢
  have CW := Lib.hid (dwhole _ dd b q s _ _ _ w3 HDS.out (parseL (bl s)) rfl)
  go_wp2_with fail
  refine CW.out.mono ?_
  rintro r w4 ⟨hcase, hB4⟩
  have hB5 := HB3.out.trans hB4
  have k0 := (hB5.block A (by have := HS0.out; omega)).trans H0.out
  have k1 := (hB5.block (A + 1) (by have := HS0.out; omega)).trans H1.out
  have k2 := (hB5.block (A + 1 + 1) (by have := HS0.out; omega)).trans H2.out
  have HB4 := Lib.hid (show Below w.heap.size w w4 from HB0.out.trans (hB5.mono (by have := HS0.out; have := HA.out; omega)))
  have HAS := Lib.hid (show A + 3 ≤ w4.heap.size by have := HS0.out; have := hB5.size; omega)
  have HL3 := Lib.hid (show A + 3 ≤ w3.heap.size by have := HS0.out; have := HB3.out.size; omega)
  clear hB4 hB5 CW
  rcases hcase with ⟨e, a, rfl, hbad⟩ | ⟨x, v, rfl, hv, hok⟩
  · have HE2 := Lib.hid hbad
    clear hbad
    refine leaves_cons (f := 26) (args := #[.pointer (some ⟨A + 1, 0, none⟩), .pointer (some ⟨A + 1 + 1, 0, none⟩)]) (by simp) (by simp [go_sem]) ?_
    refine (catch_wrong A 0 0 e a w4 k1 k2).mono ?_
    rintro r u' w5 ⟨rfl, rfl, h1, h2, hb, h3⟩
    have c1 := Lib.cell_of_heap h1 0
    have c2 := Lib.cell_of_heap h2 0
    have k5 := h3.trans k0
    have n0 := Lib.cell_of_heap k5 0
    have n1 := Lib.cell_of_heap k5 1
    have n2 := Lib.cell_of_heap k5 2
    have n3 := Lib.cell_of_heap k5 3
    have n4 := Lib.cell_of_heap k5 4
    simp only [List.getElem?_toArray, List.getElem?_cons_zero, List.getElem?_cons_succ] at c1 c2 n0 n1 n2 n3 n4
    have HF := Lib.hid (show PaGives (bl s) w (.returned (.tuple #[.agg #[.string ⟨#[]⟩, .string ⟨#[]⟩, .slice none 0 0, .slice none 0 0, .string ⟨#[]⟩], .int .i64 a, .int .i64 e])) w5 from
      ⟨.inl ⟨e, a, HE2.out, rfl⟩, HB4.out.trans (hb.mono (by have := HA.out; omega))⟩)
    clear h1 h2 hb h3 k5 k0 k1 k2
    simp [Leaves, settle, results, Tryz.results9, go_sem, c1, c2, n0, n1, n2, n3, n4]
    exact HF.out
  · obtain ⟨sp, nm, t, a1, n1, c1, a2, n2, c2, rfl⟩ := hv.form
    have HOK := Lib.hid hok
    have HV := Lib.hid hv
    have x0 := Lib.cell_of_heap k0 0
    have x1 := Lib.cell_of_heap k0 1
    have x2 := Lib.cell_of_heap k0 2
    have x3 := Lib.cell_of_heap k0 3
    have x4 := Lib.cell_of_heap k0 4
    have y1 := Lib.cell_of_heap k1 0
    have y2 := Lib.cell_of_heap k2 0
    have f0 := Lib.frozen_of_heap k0 0
    have f1 := Lib.frozen_of_heap k0 1
    have f2 := Lib.frozen_of_heap k0 2
    have f3 := Lib.frozen_of_heap k0 3
    have f4 := Lib.frozen_of_heap k0 4
    have g1 := Lib.frozen_of_heap k1 0
    have g2 := Lib.frozen_of_heap k2 0
    simp only [List.getElem?_toArray, List.getElem?_cons_zero, List.getElem?_cons_succ] at x0 x1 x2 x3 x4 y1 y2
    have K0 := Lib.hid k0
    have K1 := Lib.hid k1
    have K2 := Lib.hid k2
    clear hok hv k0 k1 k2
    go_wp2
    refine leaves_cons (f := 26) (args := #[.pointer (some ⟨A + 1, 0, none⟩), .pointer (some ⟨A + 1 + 1, 0, none⟩)]) (by simp) (by simp [go_sem]) ?_
    refine (catch_idle ⟨A + 1, 0, none⟩ ⟨A + 1 + 1, 0, none⟩ _).mono ?_
    rintro r u' w5 ⟨rfl, rfl, hw5⟩
    have o1 := st5_onlyR w4 A (.string sp) (.string nm) (.slice a1 n1 c1) (.slice a2 n2 c2) (.string t)
    have o2 := Only.set (A + 1) 0 (st5 w4 A (.string sp) (.string nm) (.slice a1 n1 c1) (.slice a2 n2 c2) (.string t)) (.int .i64 0)
    have o3 := Only.set (A + 1 + 1) 0 ((st5 w4 A (.string sp) (.string nm) (.slice a1 n1 c1) (.slice a2 n2 c2) (.string t)).setCell ⟨A + 1, 0, none⟩ (.int .i64 0)) (.int .i64 0)
    have k0 := o3.heap (o2.heap (st5_heap K0.out (.string sp) (.string nm) (.slice a1 n1 c1) (.slice a2 n2 c2) (.string t)) (by omega)) (by omega)
    have k1 := o3.heap (heap_put (o := 0) (.int .i64 0) (o1.heap K1.out (by omega))) (by omega)
    have k2 := heap_put (o := 0) (.int .i64 0) (o2.heap (o1.heap K2.out (by omega)) (by omega))
    have hW := ((HV.out.only (Q' := w3.heap.size) o1 (by have := HL3.out; omega) (Nat.le_refl _)).only (Q' := w3.heap.size) o2 (by have := HL3.out; omega) (Nat.le_refl _)).only (Q' := w.heap.size) o3 (by have := HL3.out; omega) (by have := HL3.out; have := HA.out; omega)
    have hbb := ((HB4.out.trans (o1.below (by have := HA.out; omega) HB4.out.size)).trans (o2.below (by have := HA.out; omega) (Nat.le_trans HB4.out.size o1.size))).trans (o3.below (by have := HA.out; omega) (Nat.le_trans HB4.out.size (Nat.le_trans o1.size o2.size)))
    have hw6 : w5 = ((st5 w4 A (.string sp) (.string nm) (.slice a1 n1 c1) (.slice a2 n2 c2) (.string t)).setCell ⟨A + 1, 0, none⟩ (.int .i64 0)).setCell ⟨A + 1 + 1, 0, none⟩ (.int .i64 0) := hw5
    rw [← hw6] at k0 k1 k2 hW hbb
    have n0' := Lib.cell_of_heap k0 0
    have n1' := Lib.cell_of_heap k0 1
    have n2' := Lib.cell_of_heap k0 2
    have n3' := Lib.cell_of_heap k0 3
    have n4' := Lib.cell_of_heap k0 4
    have m1 := Lib.cell_of_heap k1 0
    have m2 := Lib.cell_of_heap k2 0
    simp at n0' n1' n2' n3' n4' m1 m2
    have HF := Lib.hid (show PaGives (bl s) w (.returned (.tuple #[.agg #[.string sp, .string nm, .slice a1 n1 c1, .slice a2 n2 c2, .string t], .int .i64 0, .int .i64 0])) w5 from
      ⟨.inr ⟨x, _, HOK.out, rfl, hW⟩, hbb⟩)
    clear k0 k1 k2 o1 o2 o3 hW hbb hw5 hw6 x0 x1 x2 x3 x4 y1 y2 f0 f1 f2 f3 f4 g1 g2
    simp [Leaves, settle, results, Tryz.results9, go_sem, n0', n1', n2', n3', n4', m1, m2]
    exact HF.out

end Go.Proofs.YtnlkpdodacphkaaGreatDoor
namespace Go.Proofs.YtnlkpdodacphkaaGreatDoor
open Go Go.RowKit
set_option maxRecDepth 100000

theorem dparse_ok (s : ByteArray) (x : Nd) (h : parseL (bl s) = .ok x) (w : World) (hE : EntV w) (hT : Tabs w) (hs : s.size ≤ 4000000000) :
    Calls Tryz.prog 9 #[.string s] w fun r w' => ∃ v, r = .returned (.tuple #[v, .int .i64 0, .int .i64 0]) ∧ NodeV (NB w.heap.size none w') w' v x ∧ Below w.heap.size w w' := by
  refine (dparse s w hE hT hs).mono ?_
  rintro r w' ⟨h1 | h1, hb⟩
  · obtain ⟨e, a, h2, _⟩ := h1; rw [h] at h2; cases h2
  · obtain ⟨y, v, h2, h3, h4⟩ := h1; rw [h] at h2; cases h2; exact ⟨v, h3, h4, hb⟩
/-! ### TreeBad -/
end Go.Proofs.YtnlkpdodacphkaaGreatDoor
namespace Go.Proofs.YtnlkpdodacphkaaGreatDoor
open Go Go.RowKit
set_option maxRecDepth 100000

/-! ### a level in memory -/
abbrev anyB : Nat → Prop := fun _ => True
/-- A slice of elements, as it reads. -/
def LevelV (w : World) (v : Value) (ts : List Nd) : Prop :=
  ∃ (ao : Option Addr) (cap : Nat) (c : Nat → Nat → Value), v = .slice ao ts.length cap ∧ (0 < ts.length → ∃ g o, ao = some ⟨g, o, none⟩ ∧ g < w.heap.size ∧ ∀ j, j < ts.length → ∀ q, q < 5 → w.cell? ⟨g, o + j * 5 + q, none⟩ = some (c j q)) ∧
    ∀ j (h : j < ts.length), NodeV anyB w (.agg #[c j 0, c j 1, c j 2, c j 3, c j 4]) (ts[j]'h)
theorem NodeV.any {P : Nat → Prop} {w w' : World} {v : Value} {x : Nd} (h : NodeV P w v x) (hb : Below w.heap.size w w') : NodeV anyB w' v x := h.to hb.size fun g _ hg => ⟨trivial, hb.block g hg⟩
theorem LevelV.step {w w' : World} {v : Value} {ts : List Nd} (h : LevelV w v ts) (hb : Below w.heap.size w w') : LevelV w' v ts := by
  obtain ⟨ao, cap, c, hv, hc, hn⟩ := h
  refine ⟨ao, cap, c, hv, fun h0 => ?_, fun j hj => (hn j hj).any hb⟩
  obtain ⟨g, o, ha, hg, h⟩ := hc h0
  exact ⟨g, o, ha, Nat.lt_of_lt_of_le hg hb.size, fun j hj q hq => (hb.cell (p := ⟨g, o + j * 5 + q, none⟩) hg).trans (h j hj q hq)⟩
/-- The row that kidsOf makes. -/
structure KidR (w : World) (v : Value) (V : List NV) (K : List Nd) (wr : World) : Prop where
  len : V.length = K.length
  own : wr.ownsRow w.heap.size 25 5 v V.length (cellsN V)
  nodes : ∀ j (h : j < V.length) (h' : j < K.length), NodeV (fun g => g < w.heap.size) wr (V[j]'h).val (K[j]'h')
  below : Below w.heap.size w wr
theorem KidR.level {w : World} {v : Value} {V : List NV} {K : List Nd} {wr : World} (h : KidR w v V K wr) : LevelV wr v K := by
  obtain ⟨ak, ck, hv⟩ := own_form h.own
  refine ⟨ak, ck, fun j q => ((cellsN V)[j * 5 + q]?).getD undef, by rw [hv, h.len], fun h0 => ?_, fun j hj => ?_⟩
  · have hown := h.own
    rw [hv] at hown
    obtain ⟨g, rfl, hg⟩ := own_some hown (by have := h.len; omega)
    refine ⟨g, 0, rfl, hg, fun j hj q hq => ?_⟩
    have hlt : j * 5 + q < (cellsN V).length := by rw [cellsN_len, h.len]; omega
    show wr.cell? ⟨g, 0 + j * 5 + q, none⟩ = some (((cellsN V)[j * 5 + q]?).getD undef)
    rw [Nat.zero_add, hown.cellAt _ (by have := h.len; omega), List.getElem?_eq_getElem hlt]
    rfl
  · have hj' : j < V.length := by have := h.len; omega
    have hv := h.nodes j hj' hj
    have e : ∀ q, q < 5 → ((cellsN V)[j * 5 + q]?).getD undef = (V[j]'hj').at_ q := fun q hq => by rw [cellsN_get V j hj' q hq]; rfl
    show NodeV anyB wr (.agg #[((cellsN V)[j * 5 + 0]?).getD undef, ((cellsN V)[j * 5 + 1]?).getD undef, ((cellsN V)[j * 5 + 2]?).getD undef, ((cellsN V)[j * 5 + 3]?).getD undef, ((cellsN V)[j * 5 + 4]?).getD undef]) _
    rw [e 0 (by decide), e 1 (by decide), e 2 (by decide), e 3 (by decide), e 4 (by decide)]
    exact hv.to (Nat.le_refl _) fun g _ _ => ⟨trivial, rfl⟩
/-- The values of an element's elements, out of its cells. -/
def rowOf (c : Nat → Nat → Value) (n : Nat) : List NV := (List.range n).map fun j => ⟨c j 0, c j 1, c j 2, c j 3, c j 4⟩
theorem rowOf_len (c : Nat → Nat → Value) (n : Nat) : (rowOf c n).length = n := by simp [rowOf]
theorem rowOf_get (c : Nat → Nat → Value) (n j : Nat) (h : j < (rowOf c n).length) : (rowOf c n)[j]'h = ⟨c j 0, c j 1, c j 2, c j 3, c j 4⟩ := by simp only [rowOf, List.getElem_map, List.getElem_range]
/-- One element's elements are put behind those that are there. -/
theorem KidR.more {w : World} {v v' : Value} {V : List NV} {K : List Nd} {wr wA w7 : World} (h : KidR w v V K wr) (hA : Below wr.heap.size wr wA) {c : Nat → Nat → Value} {K2 : List Nd} (hK : ∀ j (h : j < K2.length), NodeV (fun g => g < w.heap.size) wA (.agg #[c j 0, c j 1, c j 2, c j 3, c j 4]) (K2[j]'h))
    (hown : w7.ownsRow w.heap.size 25 5 v' (V.length + K2.length) (cellsN V ++ cellsN (rowOf c K2.length))) (hg : wA.grownBy w7 v.ownBlock) : KidR w v' (V ++ rowOf c K2.length) (K ++ K2) w7 := by
  have hr : ∀ r, v.ownBlock = some r → w.heap.size ≤ r := fun r e => (h.own.lt r e).1
  have hb7 : Below w.heap.size w w7 := (h.below.trans (hA.mono h.below.size)).grown hg (Nat.le_trans h.below.size hA.size) hr
  have hst : ∀ v x, NodeV (fun g => g < w.heap.size) wA v x → NodeV (fun g => g < w.heap.size) w7 v x := fun v x hv => hv.to hg.size fun g hp hl => ⟨hp, hg.block g hl (fun e => by have := hr g e.symm; omega)⟩
  refine ⟨by rw [List.length_append, List.length_append, rowOf_len, h.len], ?_, fun j hj hj' => ?_, hb7⟩
  · rw [cellsN_app, List.length_append, rowOf_len]; exact hown
  · by_cases hjV : j < V.length
    · rw [List.getElem_append_left hjV, List.getElem_append_left (by rw [← h.len]; exact hjV)]
      exact hst _ _ ((h.nodes j hjV (by rw [← h.len]; exact hjV)).to hA.size fun g hp hl => ⟨hp, hA.block g hl⟩)
    · rw [List.getElem_append_right (by omega), List.getElem_append_right (by rw [← h.len]; omega)]
      have hj2 : j - V.length < K2.length := by rw [List.length_append, rowOf_len] at hj; omega
      have e : (rowOf c K2.length)[j - V.length]'(by rw [rowOf_len]; exact hj2) = ⟨c (j - V.length) 0, c (j - V.length) 1, c (j - V.length) 2, c (j - V.length) 3, c (j - V.length) 4⟩ := rowOf_get c _ _ _
      rw [e]
      have hk := hst _ _ (hK (j - V.length) hj2)
      have hl := h.len
      simp only [← hl]
      exact hk

end Go.Proofs.YtnlkpdodacphkaaGreatDoor

namespace Go.Proofs.YtnlkpdodacphkaaGreatDoor
open Go Go.RowKit
set_option maxRecDepth 100000

theorem KidR.step {w : World} {v : Value} {V : List NV} {K : List Nd} {wr wx : World} (h : KidR w v V K wr) (hb : Below wr.heap.size wr wx) : KidR w v V K wx :=
  ⟨h.len, own_kept h.own hb, fun j hj hj' => (h.nodes j hj hj').to hb.size fun g hp hg => ⟨hp, hb.block g hg⟩, h.below.trans (hb.mono h.below.size)⟩
theorem LevelV.form {w : World} {v : Value} {ts : List Nd} (h : LevelV w v ts) : ∃ ao cap, v = .slice ao ts.length cap := by obtain ⟨ao, cap, _, hv, _⟩ := h; exact ⟨_, _, hv⟩
end Go.Proofs.YtnlkpdodacphkaaGreatDoor
namespace Go.Proofs.YtnlkpdodacphkaaGreatDoor
open Go Go.RowKit Go.Lib
set_option maxRecDepth 100000

/-- What Parse answers of a text: something wrong, or what it is. -/
def PU (U : ByteArray) (n : Nat) (v : Value) (e : Int) (w' : World) : Prop := (e = 2 ∨ e = 3 ∨ e = 5 ∨ e = 7) ∨ (e = 0 ∧ ∃ x, parseL (bl U) = .ok x ∧ NodeV (NB n none w') w' v x)
/-- .. and where it lies. -/
def YL (B : Nat) (w0 : World) (U : ByteArray) (w : World) (q : Nat) (a b e : ByteArray) (p1 : Option Addr) (n1 c1 : Nat) (p2 : Option Addr) (n2 c2 : Nat) (er : Int) : Prop :=
  (Below B w0 w ∧ EntV w ∧ Tabs w ∧ q < w.heap.size) ∧ ((er = 2 ∨ er = 3 ∨ er = 5 ∨ er = 7) ∨ (er = 0 ∧ ∃ x, parseL (bl U) = .ok x ∧ AtN B w0 w q a b e p1 n1 c1 p2 n2 c2 x))
theorem only_cell07 {b : Nat} {w w' : World} (h : Only b w w') {a : Addr} {v : Value} (hc : w.cell? a = some v) (hne : a.block ≠ b) : w'.cell? a = some v :=
  (World.cell?_of_block (w := w) (h.block a.block (World.block_lt_of_cell? _ _ hc) hne)).trans hc
/-- Five cells of a block are stored to. -/
abbrev st5y (w : World) (P : Nat) (a b c d e : Value) : World := ((((w.setCell ⟨P, 0, none⟩ a).setCell ⟨P, 1, none⟩ b).setCell ⟨P, 2, none⟩ c).setCell ⟨P, 3, none⟩ d).setCell ⟨P, 4, none⟩ e
theorem st5y_only (w : World) (P : Nat) (a b c d e : Value) : Only P w (st5y w P a b c d e) :=
  ((((Only.set P 0 w a).trans (Only.set P 1 _ b)).trans (Only.set P 2 _ c)).trans (Only.set P 3 _ d)).trans (Only.set P 4 _ e)
theorem cell5 {w : World} {P q o : Nat} {a b c d e u : Value} (h : w.cell? ⟨q, o, none⟩ = some u) (hne : q ≠ P) : (st5y w P a b c d e).cell? ⟨q, o, none⟩ = some u :=
  only_cell07 (st5y_only w P a b c d e) h hne
theorem st5y_cells {w : World} {P : Nat} {a b c d e z0 z1 z2 z3 z4 : Value} (h0 : w.cell? ⟨P, 0, none⟩ = some z0) (h1 : w.cell? ⟨P, 1, none⟩ = some z1) (h2 : w.cell? ⟨P, 2, none⟩ = some z2) (h3 : w.cell? ⟨P, 3, none⟩ = some z3) (h4 : w.cell? ⟨P, 4, none⟩ = some z4) :
    (st5y w P a b c d e).cell? ⟨P, 0, none⟩ = some a ∧ (st5y w P a b c d e).cell? ⟨P, 1, none⟩ = some b ∧ (st5y w P a b c d e).cell? ⟨P, 2, none⟩ = some c ∧ (st5y w P a b c d e).cell? ⟨P, 3, none⟩ = some d ∧ (st5y w P a b c d e).cell? ⟨P, 4, none⟩ = some e := by
  have other : ∀ (w : World) (i j : Nat) (v : Value), i ≠ j → (w.setCell ⟨P, i, none⟩ v).cell? ⟨P, j, none⟩ = w.cell? ⟨P, j, none⟩ := by
    intro w i j v h
    apply World.cell?_setCell_other
    intro e
    exact h (by injection e)
  have same : ∀ (w : World) (i : Nat) (v u : Value), w.cell? ⟨P, i, none⟩ = some u → (w.setCell ⟨P, i, none⟩ v).cell? ⟨P, i, none⟩ = some v := by
    intro w i v u h
    apply World.cell?_setCell_same (u := u)
    exact h
  refine ⟨?_, ?_, ?_, ?_, ?_⟩
  · rw [other _ 4 0 _ (by decide), other _ 3 0 _ (by decide), other _ 2 0 _ (by decide), other _ 1 0 _ (by decide), same _ 0 _ z0 h0]
  · rw [other _ 4 1 _ (by decide), other _ 3 1 _ (by decide), other _ 2 1 _ (by decide), same _ 1 _ z1 (by rw [other _ 0 1 _ (by decide)]; exact h1)]
  · rw [other _ 4 2 _ (by decide), other _ 3 2 _ (by decide), same _ 2 _ z2 (by rw [other _ 1 2 _ (by decide), other _ 0 2 _ (by decide)]; exact h2)]
  · rw [other _ 4 3 _ (by decide), same _ 3 _ z3 (by rw [other _ 2 3 _ (by decide), other _ 1 3 _ (by decide), other _ 0 3 _ (by decide)]; exact h3)]
  · rw [same _ 4 _ z4 (by rw [other _ 3 4 _ (by decide), other _ 2 4 _ (by decide), other _ 1 4 _ (by decide), other _ 0 4 _ (by decide)]; exact h4)]
theorem yl_a {B n : Nat} {w0 w2 wy : World} {U a b e : ByteArray} {p1 : Option Addr} {n1 c1 : Nat} {p2 : Option Addr} {n2 c2 : Nat} {er : Int} (hB : B ≤ w2.heap.size) (h2 : Below B w0 w2) (hE : EntV w2) (hT : Tabs w2) (hz : Below w2.drew.heap.size w2.drew wy)
    (hp : PU U n (.agg #[.string a, .string b, .slice p1 n1 c1, .slice p2 n2 c2, .string e]) er wy) :
    YL B w0 U (wy.alloc (.cells #[.string a, .string b, .slice p1 n1 c1, .slice p2 n2 c2, .string e] 25)) wy.heap.size a b e p1 n1 c1 p2 n2 c2 er := by
  have hd : Below w2.heap.size w2 wy := ((Below.refl w2.heap.size w2).drew).trans hz
  have hA := hd.alloc hd.size (.cells #[.string a, .string b, .slice p1 n1 c1, .slice p2 n2 c2, .string e] 25)
  have hX := heap_alloc_new wy (.cells #[.string a, .string b, .slice p1 n1 c1, .slice p2 n2 c2, .string e] 25)
  have hl : wy.heap.size < (wy.alloc (.cells #[.string a, .string b, .slice p1 n1 c1, .slice p2 n2 c2, .string e] 25)).heap.size := by simp
  refine ⟨⟨h2.trans (hA.mono hB), hE.below hA, hT.below hA, hl⟩, ?_⟩
  rcases hp with h | ⟨h, x, hx, hn⟩
  · exact .inl h
  · refine .inr ⟨h, x, hx, h2.trans (hA.mono hB), hl, by rw [Lib.cell_of_heap hX]; rfl, by rw [Lib.cell_of_heap hX]; rfl, by rw [Lib.cell_of_heap hX]; rfl, by rw [Lib.cell_of_heap hX]; rfl, by rw [Lib.cell_of_heap hX]; rfl, ?_, hE.below hA, hT.below hA⟩
    exact hn.any ((Below.refl wy.heap.size wy).alloc (Nat.le_refl _) _)
theorem yl_b {B : Nat} {w0 w2 wy : World} {U a b e : ByteArray} {p1 : Option Addr} {n1 c1 : Nat} {p2 : Option Addr} {n2 c2 : Nat} {er : Int} {z0 z1 z2 z3 z4 : Value} {t : TypeId} (hB : B ≤ w2.heap.size) (h2 : Below B w0 w2) (hE : EntV w2) (hT : Tabs w2)
    (hz : Below ((w2.alloc (.cells #[z0, z1, z2, z3, z4] t)).drew).heap.size ((w2.alloc (.cells #[z0, z1, z2, z3, z4] t)).drew) wy)
    (hp : PU U ((w2.alloc (.cells #[z0, z1, z2, z3, z4] t)).drew).heap.size (.agg #[.string a, .string b, .slice p1 n1 c1, .slice p2 n2 c2, .string e]) er wy) :
    YL B w0 U (st5y wy w2.heap.size (.string a) (.string b) (.slice p1 n1 c1) (.slice p2 n2 c2) (.string e)) w2.heap.size a b e p1 n1 c1 p2 n2 c2 er := by
  have hs : ((w2.alloc (.cells #[z0, z1, z2, z3, z4] t)).drew).heap.size = w2.heap.size + 1 := by show (w2.alloc _).heap.size = _; simp
  have hwy : w2.heap.size < wy.heap.size := by have := hz.size; omega
  have hd : Below w2.heap.size w2 wy := (((Below.refl w2.heap.size w2).alloc (Nat.le_refl _) _).drew).trans (hz.mono (by omega))
  have ho := st5y_only wy w2.heap.size (.string a) (.string b) (.slice p1 n1 c1) (.slice p2 n2 c2) (.string e)
  have hA : Below w2.heap.size w2 (st5y wy w2.heap.size (.string a) (.string b) (.slice p1 n1 c1) (.slice p2 n2 c2) (.string e)) := hd.trans (ho.below (Nat.le_refl _) hd.size)
  have hX : wy.heap[w2.heap.size]? = some (.cells #[z0, z1, z2, z3, z4] t) := (hz.block _ (by omega)).trans (heap_alloc_new w2 _)
  have hl : w2.heap.size < (st5y wy w2.heap.size (.string a) (.string b) (.slice p1 n1 c1) (.slice p2 n2 c2) (.string e)).heap.size := Nat.lt_of_lt_of_le hwy ho.size
  refine ⟨⟨h2.trans (hA.mono hB), hE.below hA, hT.below hA, hl⟩, ?_⟩
  rcases hp with h | ⟨h, x, hx, hn⟩
  · exact .inl h
  · obtain ⟨k0, k1, k2, k3, k4⟩ := st5y_cells (a := .string a) (b := .string b) (c := .slice p1 n1 c1) (d := .slice p2 n2 c2) (e := .string e) (z0 := z0) (z1 := z1) (z2 := z2) (z3 := z3) (z4 := z4) (by rw [Lib.cell_of_heap hX]; rfl) (by rw [Lib.cell_of_heap hX]; rfl) (by rw [Lib.cell_of_heap hX]; rfl) (by rw [Lib.cell_of_heap hX]; rfl) (by rw [Lib.cell_of_heap hX]; rfl)
    refine .inr ⟨h, x, hx, h2.trans (hA.mono hB), hl, k0, k1, k2, k3, k4, ?_, hE.below hA, hT.below hA⟩
    exact hn.to ho.size fun g hg hlt => ⟨trivial, ho.block g hlt (by have := hg.1; omega)⟩
theorem node_len {P : Nat → Prop} {w : World} {a b e : ByteArray} {p1 : Option Addr} {n1 c1 : Nat} {p2 : Option Addr} {n2 c2 : Nat} {x : Nd} (h : NodeV P w (.agg #[.string a, .string b, .slice p1 n1 c1, .slice p2 n2 c2, .string e]) x) : n1 = x.atts.length := by
  obtain ⟨sp', nm', tx', A, K, a1, c1', a2, c2', c, hv, rfl, _⟩ := parts06 h
  have h2 := congrArg (fun v => match v with | .agg cs => cs[2]? | _ => none) hv
  simp at h2
  exact h2.2.1

end Go.Proofs.YtnlkpdodacphkaaGreatDoor
