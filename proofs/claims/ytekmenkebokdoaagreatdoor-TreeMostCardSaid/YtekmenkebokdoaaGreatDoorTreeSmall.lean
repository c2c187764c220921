/-
  The walks of tree's small functions: must, opens; and of (*document).next.
-/
import Derived.Test.YtekmenkebokdoaaGreatDoorTreeRep
import Derived.WalkLawsBesides
namespace Go.Proofs.YtekmenkebokdoaaGreatDoor
open Go Go.RowKit
set_option maxRecDepth 100000

/-- What is told by a panic. -/
def dies (e a : Int) : Ending := .panicked [{ v := .iface 52 (.agg #[.int .i64 e, .int .i64 a]), recovered := false }]
set_option maxHeartbeats 1000000 in
theorem must_ok (e a : Int) (w : World) :
    Calls Tryz.prog 35 #[.bool true, .int .i64 e, .int .i64 a] w fun r w' => r = .returned (.tuple #[]) ∧ w' = w := by
  go_enter Tryz.func35, Tryz.ntmps35
  go_wp2
  go_end0
  exact ⟨rfl, rfl⟩
set_option maxHeartbeats 1000000 in
theorem must_bad (e a : Int) (w : World) :
    Calls Tryz.prog 35 #[.bool false, .int .i64 e, .int .i64 a] w fun r w' => r = dies e a ∧ w' = w := by
  go_enter Tryz.func35, Tryz.ntmps35
  go_wp2
  exact ⟨rfl, rfl, rfl⟩
set_option maxHeartbeats 1000000 in
theorem topens (k at_ : Int) (nm tx : ByteArray) (v : Value) (hv : ∃ ao n cap, v = .slice ao n cap) (w : World) :
    Calls Tryz.prog 36 #[.agg #[.int .i64 k, .string nm, v, .string tx, .int .i64 at_]] w fun r w' => r = .returned (.bool (decide (k = 1 ∨ k = 3))) ∧ Below w.heap.size w w' := by
  obtain ⟨ao, n, cap, rfl⟩ := hv
  have HB := Lib.hid ((Below.refl w.heap.size w).alloc (Nat.le_refl _) (.cells #[.int .i64 k, .string nm, .slice ao n cap, .string tx, .int .i64 at_] 74))
  by_cases h1 : k = 1
  · subst h1
    go_enter Tryz.func36, Tryz.ntmps36
    go_wp2
    go_ret
    exact ⟨rfl, HB.out⟩
  · have q : (k == 1) = false := by simp [h1]
    have e : decide (k = 1 ∨ k = 3) = (k == 3) := by
      by_cases h3 : k = 3
      · subst h3; rfl
      · simp [h1, h3]
    rw [e]
    clear e h1
    go_enter Tryz.func36, Tryz.ntmps36
    go_wp2
    go_ret
    exact ⟨rfl, HB.out⟩

theorem atS_bad' {σ : St} (h : σ.err ≠ 0) : atS σ = σ.wrg := by unfold atS; rw [if_neg h]

/-! ### a document that is read -/
/-- Block dd is a document: its scanner in b at σ, its Spaces in q within d elements, that knows L; c elements so far. -/
structure DS (B dd b q : Nat) (s : ByteArray) (σ : St) (d : Nat) (L : List Tell) (c : Nat) (w : World) : Prop where
  sc : Sc B b s σ w
  sp : Sp B q d L w
  base : B ≤ dd
  heap : w.heap[dd]? = some (.cells #[.pointer (some ⟨b, 0, none⟩), .pointer (some ⟨q, 0, none⟩), .int .i64 c] 58 (0, 0))
  pu : Pu (bl s) σ d L c
theorem Sp.heap {B b d : Nat} {L : List Tell} {w : World} (h : Sp B b d L w) : ∃ v, w.heap[b]? = some (.cells #[.int .i64 d, v] 71 (0, 0)) := by obtain ⟨_, k, cap, h, _⟩ := h; exact ⟨_, h⟩
theorem Sp.only {B b d k : Nat} {L : List Tell} {w w' : World} (h : Sp B b d L w) (ho : Only k w w') {cs : Array Value} {t : TypeId} {z : Nat × Nat} (hk : w.heap[k]? = some (.cells cs t z)) (h1 : t ≠ 68) (h2 : t ≠ 71) : Sp B b d L w' := by
  obtain ⟨h0, r, cap, hb, ho'⟩ := h
  have hbk : b ≠ k := fun e => by rw [e, hk] at hb; cases hb; exact h2 rfl
  refine ⟨h0, r, cap, ho.heap hb hbk, ho'.1, ?_⟩
  rcases ho'.2 with hn | ⟨g, cap', cur, hv, hbg, hg, rest⟩
  · exact .inl hn
  · exact .inr ⟨g, cap', cur, hv, hbg, ho.heap hg (fun e => by rw [e, hk] at hg; cases hg; exact h1 rfl), rest⟩
theorem DS.lt {B dd b q d c : Nat} {s : ByteArray} {σ : St} {L : List Tell} {w : World} (h : DS B dd b q s σ d L c w) : dd < w.heap.size := (Array.getElem?_eq_some_iff.1 h.heap).1
theorem DS.ne {B dd b q d c : Nat} {s : ByteArray} {σ : St} {L : List Tell} {w : World} (h : DS B dd b q s σ d L c w) : dd ≠ b ∧ dd ≠ q ∧ b ≠ q := by
  obtain ⟨v, hq⟩ := h.sp.heap
  have h1 := h.heap
  have h2 := h.sc.heap
  refine ⟨fun e => ?_, fun e => ?_, fun e => ?_⟩
  · rw [e, h2] at h1; cases h1
  · rw [e, hq] at h1; cases h1
  · rw [e, hq] at h2; cases h2
theorem DS.le {B dd b q d c : Nat} {s : ByteArray} {σ : St} {L : List Tell} {w : World} (h : DS B dd b q s σ d L c w) : B ≤ w.heap.size := h.sc.glob.le
theorem DS.step {B dd b q d c : Nat} {s : ByteArray} {σ : St} {L : List Tell} {w w' : World} (h : DS B dd b q s σ d L c w) (hb : Below w.heap.size w w') : DS B dd b q s σ d L c w' :=
  ⟨h.sc.step hb, h.sp.step hb, h.base, by rw [hb.block _ h.lt]; exact h.heap, h.pu⟩
/-- The scanner has moved. -/
theorem DS.scan {B dd b q d c : Nat} {s : ByteArray} {σ σ' : St} {L : List Tell} {w w' : World} (h : DS B dd b q s σ d L c w) (hS : Sc B b s σ' w') (ho : Only b w w') (hn : Pu (bl s) σ' d L c) : DS B dd b q s σ' d L c w' :=
  ⟨hS, h.sp.only ho h.sc.heap (by decide) (by decide), h.base, ho.heap h.heap h.ne.1, hn⟩
theorem Kept.scan {B b : Nat} {s : ByteArray} {σ : St} {w w' : World} (h : Sc B b s σ w) (ho : Only b w w') : Kept docT w w' := Kept.only ho h.heap (by decide)
theorem Only.belowB {b B : Nat} {w w' : World} (h : Only b w w') (hB : B ≤ b) (hw : B ≤ w.heap.size) : Below B w w' := h.below hB hw
/-- Another block has changed. -/
theorem DS.only {B dd b q d c k : Nat} {s : ByteArray} {σ : St} {L : List Tell} {w w' : World} (h : DS B dd b q s σ d L c w) (ho : Only k w w') {cs : Array Value} {t : TypeId} {z : Nat × Nat} (hk : w.heap[k]? = some (.cells cs t z)) (ht : t ∉ docT) (hB : B ≤ k) : DS B dd b q s σ d L c w' := by
  have hdt : 68 ∈ docT ∧ 71 ∈ docT ∧ 58 ∈ docT ∧ 65 ∈ docT := by decide
  have hb : b ≠ k := fun e => by have h2 := h.sc.heap; rw [e, hk] at h2; cases h2; exact ht hdt.2.2.2
  have hd : dd ≠ k := fun e => by have h2 := h.heap; rw [e, hk] at h2; cases h2; exact ht hdt.2.2.1
  exact ⟨⟨h.sc.base, h.sc.len, h.sc.pos, h.sc.glob.step (ho.below hB h.le), ho.heap h.sc.heap hb⟩, h.sp.only ho hk (fun e => ht (e ▸ hdt.1)) (fun e => ht (e ▸ hdt.2.1)), h.base, ho.heap h.heap hd, h.pu⟩
theorem Kept.new {ts : List TypeId} {w w' w'' : World} (h : Kept ts w w') {k : Nat} (ho : Only k w' w'') (hk : w.heap.size ≤ k) : Kept ts w w'' :=
  ⟨Nat.le_trans h.size ho.size, fun j hj hn => (ho.block j (Nat.lt_of_lt_of_le hj h.size) (by omega)).trans (h.block j hj hn)⟩
theorem st5_onlyR (w : World) (R : Nat) (x0 x1 x2 x3 x4 : Value) : Only R w (st5 w R x0 x1 x2 x3 x4) :=
  ((((Only.set R 0 w x0).trans (Only.set R 1 _ x1)).trans (Only.set R 2 _ x2)).trans (Only.set R 3 _ x3)).trans (Only.set R 4 _ x4)
/-- What next leaves: something wrong, or a piece. -/
def NextGives (B dd b q : Nat) (s : ByteArray) (σ : St) (d : Nat) (L : List Tell) (c : Nat) (w : World) (r : Ending) (w' : World) : Prop :=
  ((nextS (bl s) σ).err = 0 → ∃ x, r = .returned x ∧ PieceAt b w.heap.size w' x (nextP (bl s) σ)) ∧ ((nextS (bl s) σ).err ≠ 0 → r = dies (nextS (bl s) σ).err (nextS (bl s) σ).wrg) ∧
    DS B dd b q s (nextS (bl s) σ) d L c w' ∧ Below B w w' ∧ Kept docT w w'
set_option maxHeartbeats 4000000 in
theorem dnext0 (B dd b q : Nat) (s : ByteArray) (σ σ' : St) (Q : Pc) (d : Nat) (L : List Tell) (c : Nat) (w : World) (h : DS B dd b q s σ d L c w) (hn : Pu (bl s) σ' d L c)
    (C1 : Hid (∀ w, Sc B b s σ w → Calls Tryz.prog 47 #[.pointer (some ⟨b, 0, none⟩)] w (Gives B b s w Q σ'))) :
    Calls Tryz.prog 41 #[.pointer (some ⟨dd, 0, none⟩)] w fun r w' =>
      (σ'.err = 0 → ∃ x, r = .returned x ∧ PieceAt b w.heap.size w' x Q) ∧ (σ'.err ≠ 0 → r = dies σ'.err σ'.wrg) ∧ DS B dd b q s σ' d L c w' ∧ Below B w w' ∧ Kept docT w w' := by
  have HD := Lib.hid (h.step ((Below.refl _ _).alloc (Nat.le_refl _) (.cells #[.int .i64 0, .string ⟨#[]⟩, .slice none 0 0, .string ⟨#[]⟩, .int .i64 0] 74)))
  have HB := Lib.hid ((Below.refl B w).alloc h.le (.cells #[.int .i64 0, .string ⟨#[]⟩, .slice none 0 0, .string ⟨#[]⟩, .int .i64 0] 74))
  have HK := Lib.hid (Kept.alloc docT w (.cells #[.int .i64 0, .string ⟨#[]⟩, .slice none 0 0, .string ⟨#[]⟩, .int .i64 0] 74))
  have HR := Lib.hid (heap_alloc_new w (.cells #[.int .i64 0, .string ⟨#[]⟩, .slice none 0 0, .string ⟨#[]⟩, .int .i64 0] 74))
  have HN := Lib.hid hn
  have HBw := Lib.hid h.le
  clear h hn
  have e0 := Lib.cell_of_heap HD.out.heap 0
  simp only [List.getElem?_toArray, List.getElem?_cons_zero] at e0
  go_enter Tryz.func41, Tryz.ntmps41
  go_wp2_with fail
  obtain ⟨R, hRe⟩ : ∃ R, w.heap.size = R := ⟨_, rfl⟩
  rw [hRe] at HR ⊢
  have HRe := Lib.hid hRe
  clear hRe
  generalize w.alloc (.cells #[.int .i64 0, .string ⟨#[]⟩, .slice none 0 0, .string ⟨#[]⟩, .int .i64 0] 74) = w0 at HD HB HK HR e0 ⊢
  have C := Lib.hid (C1.out w0 HD.out.sc)
  refine C.out.mono ?_
  rintro r w1 ⟨x, rfl, ⟨v, rfl, hrows, hfresh⟩, h1, o1⟩
  obtain ⟨ao, m, cap, rfl⟩ := rows_form hrows
  have hne : R ≠ b := fun e => by have h2 := HD.out.sc.heap; rw [← e, HR.out] at h2; cases h2
  have hRl : R < w0.heap.size := (Array.getElem?_eq_some_iff.1 HR.out).1
  have HD1 := Lib.hid ((HD.out.scan h1 o1 HN.out).step ((Below.refl _ _).alloc (Nat.le_refl _) (.cells #[.int .i64 Q.kind, .string (str Q.name), .slice ao m cap, .string (str Q.text), .int .i64 Q.at_] 74)))
  have HO1 := Lib.hid (o1.trans (Only.alloc b w1 (.cells #[.int .i64 Q.kind, .string (str Q.name), .slice ao m cap, .string (str Q.text), .int .i64 Q.at_] 74)))
  have HR1 := Lib.hid (HO1.out.heap HR.out hne)
  have HB1 := Lib.hid (HB.out.trans (HO1.out.below HD.out.sc.base HD.out.le))
  have HK1 := Lib.hid (HK.out.trans (Kept.scan HD.out.sc HO1.out))
  have HP := Lib.hid (heap_alloc_new w1 (.cells #[.int .i64 Q.kind, .string (str Q.name), .slice ao m cap, .string (str Q.text), .int .i64 Q.at_] 74))
  have HW := Lib.hid (hrows.only (Only.alloc b w1 (.cells #[.int .i64 Q.kind, .string (str Q.name), .slice ao m cap, .string (str Q.text), .int .i64 Q.at_] 74)))
  have HF := Lib.hid hfresh
  have HRl := Lib.hid hRl
  have HPR := Lib.hid (show R < w1.heap.size from Nat.lt_of_lt_of_le hRl o1.size)
  clear hrows hfresh h1 o1 C e0 HD HB HK HR
  have e0 := Lib.cell_of_heap HD1.out.heap 0
  simp only [List.getElem?_toArray, List.getElem?_cons_zero] at e0
  go_wp2_with fail
  obtain ⟨P, hPe⟩ : ∃ P, w1.heap.size = P := ⟨_, rfl⟩
  rw [hPe] at HP HPR ⊢
  clear hPe
  generalize w1.alloc (.cells #[.int .i64 Q.kind, .string (str Q.name), .slice ao m cap, .string (str Q.text), .int .i64 Q.at_] 74) = w2 at HD1 HO1 HR1 HB1 HK1 HP HW e0 ⊢
  have CE := Lib.hid (serr _ b _ _ w2 HD1.out.sc)
  have CA := Lib.hid (sat _ b _ _ w2 HD1.out.sc)
  refine CE.out.mono ?_
  rintro r w3 ⟨rfl, rfl⟩
  go_wp2_with fail
  refine CA.out.mono ?_
  rintro r w3 ⟨rfl, rfl⟩
  by_cases he : σ'.err = 0
  · have HE := Lib.hid he
    have CM := Lib.hid (must_ok σ'.err (atS σ') w2)
    have q : (σ'.err == 0) = true := by simp [he]
    clear he e0 CE CA
    go_wp2_with fail
    refine CM.out.mono ?_
    rintro r w3 ⟨rfl, hw⟩
    obtain rfl := hw.symm
    have r0 := Lib.cell_of_heap HR1.out 0
    have r1 := Lib.cell_of_heap HR1.out 1
    have r2 := Lib.cell_of_heap HR1.out 2
    have r3 := Lib.cell_of_heap HR1.out 3
    have r4 := Lib.cell_of_heap HR1.out 4
    have f0 := Lib.frozen_of_heap HR1.out 0
    have f1 := Lib.frozen_of_heap HR1.out 1
    have f2 := Lib.frozen_of_heap HR1.out 2
    have f3 := Lib.frozen_of_heap HR1.out 3
    have f4 := Lib.frozen_of_heap HR1.out 4
    simp only [List.getElem?_toArray, List.getElem?_cons_zero, List.getElem?_cons_succ] at r0 r1 r2 r3 r4
    have p0 := Lib.cell_of_heap HP.out 0
    have p1 := Lib.cell_of_heap HP.out 1
    have p2 := Lib.cell_of_heap HP.out 2
    have p3 := Lib.cell_of_heap HP.out 3
    have p4 := Lib.cell_of_heap HP.out 4
    simp only [List.getElem?_toArray, List.getElem?_cons_zero, List.getElem?_cons_succ] at p0 p1 p2 p3 p4
    go_wp2
    have hs5 := st5_onlyR w2 R (.int .i64 Q.kind) (.string (str Q.name)) (.slice ao m cap) (.string (str Q.text)) (.int .i64 Q.at_)
    have hBR : B ≤ R := by have := HRe.out; have := HBw.out; omega
    refine bodyPost_ret (res_piece _ rfl _ R rfl _ _ _ _ _ _ 74 (0, 0) (st5_heap HR1.out _ _ _ _ _)) rfl ?_
    refine ⟨fun _ => ⟨_, rfl, _, rfl, ?_, ?_⟩, fun h => absurd HE.out h, ?_, ?_, ?_⟩
    · exact HW.out.heap hs5.size (fun g o n c hv => by
        obtain ⟨_, cs, z, hg⟩ := HW.out.2 g o n c hv
        exact hs5.block g (Array.getElem?_eq_some_iff.1 hg).1 (by have := HF.out g o n c hv; have := HRl.out; omega))
    · intro g o n c hv
      have := HF.out g o n c hv
      have := HRe.out
      have := HRl.out
      omega
    · exact HD1.out.only hs5 HR1.out (by decide) hBR
    · exact HB1.out.trans (hs5.below hBR HD1.out.le)
    · exact HK1.out.new hs5 (by have := HRe.out; omega)
  · have HE := Lib.hid he
    have CM := must_bad σ'.err (atS σ') w2
    have CM := Lib.hid CM
    have q : (σ'.err == 0) = false := by simp [he]
    clear he e0 CE CA
    go_wp2_with fail
    refine CM.out.mono ?_
    rintro r w3 ⟨rfl, hw⟩
    obtain rfl := hw.symm
    refine ⟨rfl, fun h => absurd h HE.out, fun _ => ?_, HD1.out, HB1.out, HK1.out⟩
    rw [← atS_bad' HE.out]
    rfl
/-- **(*document).next.** -/
theorem dnext (B dd b q : Nat) (s : ByteArray) (σ : St) (d : Nat) (L : List Tell) (c : Nat) (w : World) (h : DS B dd b q s σ d L c w) :
    Calls Tryz.prog 41 #[.pointer (some ⟨dd, 0, none⟩)] w (NextGives B dd b q s σ d L c w) :=
  dnext0 B dd b q s σ _ _ d L c w h h.pu.next (Lib.hid fun w hS => snext B b s σ w hS)

end Go.Proofs.YtekmenkebokdoaaGreatDoor
