/-
  The walks of tree's small functions: must, opens; and of (*document).next.
  The walk of (*document).around.
-/
import Derived.Test.YtekmenkebokdoaaGreatDoorTreeRep
import Derived.WalkLawsBesides
import Derived.Deep.LoopGhost
namespace Go.Proofs.YtekmenkebokdoaaGreatDoor
open Go Go.RowKit
set_option maxRecDepth 100000

/-- What is told by a panic. -/
def dies (e a : Int) : Ending := .panicked [{ v := .iface 52 (.agg #[.int .i64 e, .int .i64 a]), recovered := false }]
set_option maxHeartbeats 1000000 in
theorem must_ok (e a : Int) (w : World) :
    Calls Tryz.prog 35 #[.bool true, .int .i64 e, .int .i64 a] w fun r w' => r = .returned (.tuple #[]) ∧ w' = w := by
  go_enter Tryz.func35, Tryz.ntmps35
  go_wp2
  go_end0
  exact ⟨rfl, rfl⟩
set_option maxHeartbeats 1000000 in
theorem must_bad (e a : Int) (w : World) :
    Calls Tryz.prog 35 #[.bool false, .int .i64 e, .int .i64 a] w fun r w' => r = dies e a ∧ w' = w := by
  go_enter Tryz.func35, Tryz.ntmps35
  go_wp2
  exact ⟨rfl, rfl, rfl⟩
set_option maxHeartbeats 1000000 in
theorem topens (k at_ : Int) (nm tx : ByteArray) (v : Value) (hv : ∃ ao n cap, v = .slice ao n cap) (w : World) :
    Calls Tryz.prog 36 #[.agg #[.int .i64 k, .string nm, v, .string tx, .int .i64 at_]] w fun r w' => r = .returned (.bool (decide (k = 1 ∨ k = 3))) ∧ Below w.heap.size w w' := by
  obtain ⟨ao, n, cap, rfl⟩ := hv
  have HB := Lib.hid ((Below.refl w.heap.size w).alloc (Nat.le_refl _) (.cells #[.int .i64 k, .string nm, .slice ao n cap, .string tx, .int .i64 at_] 74))
  by_cases h1 : k = 1
  · subst h1
    go_enter Tryz.func36, Tryz.ntmps36
    go_wp2
    go_ret
    exact ⟨rfl, HB.out⟩
  · have q : (k == 1) = false := by simp [h1]
    have e : decide (k = 1 ∨ k = 3) = (k == 3) := by
      by_cases h3 : k = 3
      · subst h3; rfl
      · simp [h1, h3]
    rw [e]
    clear e h1
    go_enter Tryz.func36, Tryz.ntmps36
    go_wp2
    go_ret
    exact ⟨rfl, HB.out⟩

theorem atS_bad' {σ : St} (h : σ.err ≠ 0) : atS σ = σ.wrg := by unfold atS; rw [if_neg h]

/-! ### a document that is read -/
/-- Block dd is a document: its scanner in b at σ, its Spaces in q within d elements, that knows L; c elements so far. -/
structure DS (B dd b q : Nat) (s : ByteArray) (σ : St) (d : Nat) (L : List Tell) (c : Nat) (w : World) : Prop where
  sc : Sc B b s σ w
  sp : Sp B q d L w
  base : B ≤ dd
  heap : w.heap[dd]? = some (.cells #[.pointer (some ⟨b, 0, none⟩), .pointer (some ⟨q, 0, none⟩), .int .i64 c] 58 (0, 0))
  pu : Pu (bl s) σ d L c
theorem Sp.heap {B b d : Nat} {L : List Tell} {w : World} (h : Sp B b d L w) : ∃ v, w.heap[b]? = some (.cells #[.int .i64 d, v] 71 (0, 0)) := by obtain ⟨_, k, cap, h, _⟩ := h; exact ⟨_, h⟩
theorem Sp.only {B b d k : Nat} {L : List Tell} {w w' : World} (h : Sp B b d L w) (ho : Only k w w') {cs : Array Value} {t : TypeId} {z : Nat × Nat} (hk : w.heap[k]? = some (.cells cs t z)) (h1 : t ≠ 68) (h2 : t ≠ 71) : Sp B b d L w' := by
  obtain ⟨h0, r, cap, hb, ho'⟩ := h
  have hbk : b ≠ k := fun e => by rw [e, hk] at hb; cases hb; exact h2 rfl
  refine ⟨h0, r, cap, ho.heap hb hbk, ho'.1, ?_⟩
  rcases ho'.2 with hn | ⟨g, cap', cur, hv, hbg, hg, rest⟩
  · exact .inl hn
  · exact .inr ⟨g, cap', cur, hv, hbg, ho.heap hg (fun e => by rw [e, hk] at hg; cases hg; exact h1 rfl), rest⟩
theorem DS.lt {B dd b q d c : Nat} {s : ByteArray} {σ : St} {L : List Tell} {w : World} (h : DS B dd b q s σ d L c w) : dd < w.heap.size := (Array.getElem?_eq_some_iff.1 h.heap).1
theorem DS.ne {B dd b q d c : Nat} {s : ByteArray} {σ : St} {L : List Tell} {w : World} (h : DS B dd b q s σ d L c w) : dd ≠ b ∧ dd ≠ q ∧ b ≠ q := by
  obtain ⟨v, hq⟩ := h.sp.heap
  have h1 := h.heap
  have h2 := h.sc.heap
  refine ⟨fun e => ?_, fun e => ?_, fun e => ?_⟩
  · rw [e, h2] at h1; cases h1
  · rw [e, hq] at h1; cases h1
  · rw [e, hq] at h2; cases h2
theorem DS.le {B dd b q d c : Nat} {s : ByteArray} {σ : St} {L : List Tell} {w : World} (h : DS B dd b q s σ d L c w) : B ≤ w.heap.size := h.sc.glob.le
theorem DS.step {B dd b q d c : Nat} {s : ByteArray} {σ : St} {L : List Tell} {w w' : World} (h : DS B dd b q s σ d L c w) (hb : Below w.heap.size w w') : DS B dd b q s σ d L c w' :=
  ⟨h.sc.step hb, h.sp.step hb, h.base, by rw [hb.block _ h.lt]; exact h.heap, h.pu⟩
/-- The scanner has moved. -/
theorem DS.scan {B dd b q d c : Nat} {s : ByteArray} {σ σ' : St} {L : List Tell} {w w' : World} (h : DS B dd b q s σ d L c w) (hS : Sc B b s σ' w') (ho : Only b w w') (hn : Pu (bl s) σ' d L c) : DS B dd b q s σ' d L c w' :=
  ⟨hS, h.sp.only ho h.sc.heap (by decide) (by decide), h.base, ho.heap h.heap h.ne.1, hn⟩
theorem Kept.scan {B b : Nat} {s : ByteArray} {σ : St} {w w' : World} (h : Sc B b s σ w) (ho : Only b w w') : Kept docT w w' := Kept.only ho h.heap (by decide)
theorem Only.belowB {b B : Nat} {w w' : World} (h : Only b w w') (hB : B ≤ b) (hw : B ≤ w.heap.size) : Below B w w' := h.below hB hw
/-- Another block has changed. -/
theorem DS.only {B dd b q d c k : Nat} {s : ByteArray} {σ : St} {L : List Tell} {w w' : World} (h : DS B dd b q s σ d L c w) (ho : Only k w w') {cs : Array Value} {t : TypeId} {z : Nat × Nat} (hk : w.heap[k]? = some (.cells cs t z)) (ht : t ∉ docT) (hB : B ≤ k) : DS B dd b q s σ d L c w' := by
  have hdt : 68 ∈ docT ∧ 71 ∈ docT ∧ 58 ∈ docT ∧ 65 ∈ docT := by decide
  have hb : b ≠ k := fun e => by have h2 := h.sc.heap; rw [e, hk] at h2; cases h2; exact ht hdt.2.2.2
  have hd : dd ≠ k := fun e => by have h2 := h.heap; rw [e, hk] at h2; cases h2; exact ht hdt.2.2.1
  exact ⟨⟨h.sc.base, h.sc.len, h.sc.pos, h.sc.glob.step (ho.below hB h.le), ho.heap h.sc.heap hb⟩, h.sp.only ho hk (fun e => ht (e ▸ hdt.1)) (fun e => ht (e ▸ hdt.2.1)), h.base, ho.heap h.heap hd, h.pu⟩
theorem Kept.new {ts : List TypeId} {w w' w'' : World} (h : Kept ts w w') {k : Nat} (ho : Only k w' w'') (hk : w.heap.size ≤ k) : Kept ts w w'' :=
  ⟨Nat.le_trans h.size ho.size, fun j hj hn => (ho.block j (Nat.lt_of_lt_of_le hj h.size) (by omega)).trans (h.block j hj hn)⟩
theorem st5_onlyR (w : World) (R : Nat) (x0 x1 x2 x3 x4 : Value) : Only R w (st5 w R x0 x1 x2 x3 x4) :=
  ((((Only.set R 0 w x0).trans (Only.set R 1 _ x1)).trans (Only.set R 2 _ x2)).trans (Only.set R 3 _ x3)).trans (Only.set R 4 _ x4)
/-- What next leaves: something wrong, or a piece. -/
def NextGives (B dd b q : Nat) (s : ByteArray) (σ : St) (d : Nat) (L : List Tell) (c : Nat) (w : World) (r : Ending) (w' : World) : Prop :=
  ((nextS (bl s) σ).err = 0 → ∃ x, r = .returned x ∧ PieceAt b w.heap.size w' x (nextP (bl s) σ)) ∧ ((nextS (bl s) σ).err ≠ 0 → r = dies (nextS (bl s) σ).err (nextS (bl s) σ).wrg) ∧
    DS B dd b q s (nextS (bl s) σ) d L c w' ∧ Below B w w' ∧ Kept docT w w'
set_option maxHeartbeats 4000000 in
theorem dnext0 (B dd b q : Nat) (s : ByteArray) (σ σ' : St) (Q : Pc) (d : Nat) (L : List Tell) (c : Nat) (w : World) (h : DS B dd b q s σ d L c w) (hn : Pu (bl s) σ' d L c)
    (C1 : Hid (∀ w, Sc B b s σ w → Calls Tryz.prog 47 #[.pointer (some ⟨b, 0, none⟩)] w (Gives B b s w Q σ'))) :
    Calls Tryz.prog 41 #[.pointer (some ⟨dd, 0, none⟩)] w fun r w' =>
      (σ'.err = 0 → ∃ x, r = .returned x ∧ PieceAt b w.heap.size w' x Q) ∧ (σ'.err ≠ 0 → r = dies σ'.err σ'.wrg) ∧ DS B dd b q s σ' d L c w' ∧ Below B w w' ∧ Kept docT w w' := by
  have HD := Lib.hid (h.step ((Below.refl _ _).alloc (Nat.le_refl _) (.cells #[.int .i64 0, .string ⟨#[]⟩, .slice none 0 0, .string ⟨#[]⟩, .int .i64 0] 74)))
  have HB := Lib.hid ((Below.refl B w).alloc h.le (.cells #[.int .i64 0, .string ⟨#[]⟩, .slice none 0 0, .string ⟨#[]⟩, .int .i64 0] 74))
  have HK := Lib.hid (Kept.alloc docT w (.cells #[.int .i64 0, .string ⟨#[]⟩, .slice none 0 0, .string ⟨#[]⟩, .int .i64 0] 74))
  have HR := Lib.hid (heap_alloc_new w (.cells #[.int .i64 0, .string ⟨#[]⟩, .slice none 0 0, .string ⟨#[]⟩, .int .i64 0] 74))
  have HN := Lib.hid hn
  have HBw := Lib.hid h.le
  clear h hn
  have e0 := Lib.cell_of_heap HD.out.heap 0
  simp only [List.getElem?_toArray, List.getElem?_cons_zero] at e0
  go_enter Tryz.func41, Tryz.ntmps41
  go_wp2_with fail
  obtain ⟨R, hRe⟩ : ∃ R, w.heap.size = R := ⟨_, rfl⟩
  rw [hRe] at HR ⊢
  have HRe := Lib.hid hRe
  clear hRe
  generalize w.alloc (.cells #[.int .i64 0, .string ⟨#[]⟩, .slice none 0 0, .string ⟨#[]⟩, .int .i64 0] 74) = w0 at HD HB HK HR e0 ⊢
  have C := Lib.hid (C1.out w0 HD.out.sc)
  refine C.out.mono ?_
  rintro r w1 ⟨x, rfl, ⟨v, rfl, hrows, hfresh⟩, h1, o1⟩
  obtain ⟨ao, m, cap, rfl⟩ := rows_form hrows
  have hne : R ≠ b := fun e => by have h2 := HD.out.sc.heap; rw [← e, HR.out] at h2; cases h2
  have hRl : R < w0.heap.size := (Array.getElem?_eq_some_iff.1 HR.out).1
  have HD1 := Lib.hid ((HD.out.scan h1 o1 HN.out).step ((Below.refl _ _).alloc (Nat.le_refl _) (.cells #[.int .i64 Q.kind, .string (str Q.name), .slice ao m cap, .string (str Q.text), .int .i64 Q.at_] 74)))
  have HO1 := Lib.hid (o1.trans (Only.alloc b w1 (.cells #[.int .i64 Q.kind, .string (str Q.name), .slice ao m cap, .string (str Q.text), .int .i64 Q.at_] 74)))
  have HR1 := Lib.hid (HO1.out.heap HR.out hne)
  have HB1 := Lib.hid (HB.out.trans (HO1.out.below HD.out.sc.base HD.out.le))
  have HK1 := Lib.hid (HK.out.trans (Kept.scan HD.out.sc HO1.out))
  have HP := Lib.hid (heap_alloc_new w1 (.cells #[.int .i64 Q.kind, .string (str Q.name), .slice ao m cap, .string (str Q.text), .int .i64 Q.at_] 74))
  have HW := Lib.hid (hrows.only (Only.alloc b w1 (.cells #[.int .i64 Q.kind, .string (str Q.name), .slice ao m cap, .string (str Q.text), .int .i64 Q.at_] 74)))
  have HF := Lib.hid hfresh
  have HRl := Lib.hid hRl
  have HPR := Lib.hid (show R < w1.heap.size from Nat.lt_of_lt_of_le hRl o1.size)
  clear hrows hfresh h1 o1 C e0 HD HB HK HR
  have e0 := Lib.cell_of_heap HD1.out.heap 0
  simp only [List.getElem?_toArray, List.getElem?_cons_zero] at e0
  go_wp2_with fail
  obtain ⟨P, hPe⟩ : ∃ P, w1.heap.size = P := ⟨_, rfl⟩
  rw [hPe] at HP HPR ⊢
  clear hPe
  generalize w1.alloc (.cells #[.int .i64 Q.kind, .string (str Q.name), .slice ao m cap, .string (str Q.text), .int .i64 Q.at_] 74) = w2 at HD1 HO1 HR1 HB1 HK1 HP HW e0 ⊢
  have CE := Lib.hid (serr _ b _ _ w2 HD1.out.sc)
  have CA := Lib.hid (sat _ b _ _ w2 HD1.out.sc)
  refine CE.out.mono ?_
  rintro r w3 ⟨rfl, rfl⟩
  go_wp2_with fail
  refine CA.out.mono ?_
  rintro r w3 ⟨rfl, rfl⟩
  by_cases he : σ'.err = 0
  · have HE := Lib.hid he
    have CM := Lib.hid (must_ok σ'.err (atS σ') w2)
    have q : (σ'.err == 0) = true := by simp [he]
    clear he e0 CE CA
    go_wp2_with fail
    refine CM.out.mono ?_
    rintro r w3 ⟨rfl, hw⟩
    obtain rfl := hw.symm
    have r0 := Lib.cell_of_heap HR1.out 0
    have r1 := Lib.cell_of_heap HR1.out 1
    have r2 := Lib.cell_of_heap HR1.out 2
    have r3 := Lib.cell_of_heap HR1.out 3
    have r4 := Lib.cell_of_heap HR1.out 4
    have f0 := Lib.frozen_of_heap HR1.out 0
    have f1 := Lib.frozen_of_heap HR1.out 1
    have f2 := Lib.frozen_of_heap HR1.out 2
    have f3 := Lib.frozen_of_heap HR1.out 3
    have f4 := Lib.frozen_of_heap HR1.out 4
    simp only [List.getElem?_toArray, List.getElem?_cons_zero, List.getElem?_cons_succ] at r0 r1 r2 r3 r4
    have p0 := Lib.cell_of_heap HP.out 0
    have p1 := Lib.cell_of_heap HP.out 1
    have p2 := Lib.cell_of_heap HP.out 2
    have p3 := Lib.cell_of_heap HP.out 3
    have p4 := Lib.cell_of_heap HP.out 4
    simp only [List.getElem?_toArray, List.getElem?_cons_zero, List.getElem?_cons_succ] at p0 p1 p2 p3 p4
    go_wp2
    have hs5 := st5_onlyR w2 R (.int .i64 Q.kind) (.string (str Q.name)) (.slice ao m cap) (.string (str Q.text)) (.int .i64 Q.at_)
    have hBR : B ≤ R := by have := HRe.out; have := HBw.out; omega
    refine bodyPost_ret (res_piece _ rfl _ R rfl _ _ _ _ _ _ 74 (0, 0) (st5_heap HR1.out _ _ _ _ _)) rfl ?_
    refine ⟨fun _ => ⟨_, rfl, _, rfl, ?_, ?_⟩, fun h => absurd HE.out h, ?_, ?_, ?_⟩
    · exact HW.out.heap hs5.size (fun g o n c hv => by
        obtain ⟨_, cs, z, hg⟩ := HW.out.2 g o n c hv
        exact hs5.block g (Array.getElem?_eq_some_iff.1 hg).1 (by have := HF.out g o n c hv; have := HRl.out; omega))
    · intro g o n c hv
      have := HF.out g o n c hv
      have := HRe.out
      have := HRl.out
      omega
    · exact HD1.out.only hs5 HR1.out (by decide) hBR
    · exact HB1.out.trans (hs5.below hBR HD1.out.le)
    · exact HK1.out.new hs5 (by have := HRe.out; omega)
  · have HE := Lib.hid he
    have CM := must_bad σ'.err (atS σ') w2
    have CM := Lib.hid CM
    have q : (σ'.err == 0) = false := by simp [he]
    clear he e0 CE CA
    go_wp2_with fail
    refine CM.out.mono ?_
    rintro r w3 ⟨rfl, hw⟩
    obtain rfl := hw.symm
    refine ⟨rfl, fun h => absurd h HE.out, fun _ => ?_, HD1.out, HB1.out, HK1.out⟩
    rw [← atS_bad' HE.out]
    rfl
/-- **(*document).next.** -/
theorem dnext (B dd b q : Nat) (s : ByteArray) (σ : St) (d : Nat) (L : List Tell) (c : Nat) (w : World) (h : DS B dd b q s σ d L c w) :
    Calls Tryz.prog 41 #[.pointer (some ⟨dd, 0, none⟩)] w (NextGives B dd b q s σ d L c w) :=
  dnext0 B dd b q s σ _ _ d L c w h h.pu.next (Lib.hid fun w hS => snext B b s σ w hS)

end Go.Proofs.YtekmenkebokdoaaGreatDoor

namespace Go.Proofs.YtekmenkebokdoaaGreatDoor
open Go Go.RowKit
set_option maxRecDepth 100000

/-- What around leaves. -/
def ArGives (B dd b q : Nat) (s : ByteArray) (d : Nat) (L : List Tell) (c : Nat) (m : Mach) (R0 : Res Nd) (w : World) (r : Ending) (w' : World) : Prop :=
  ((∃ e a, r = dies e a ∧ R0 = .bad e a) ∨
    ∃ x σ' p, r = .returned x ∧ PieceAt b w.heap.size w' x p ∧ DS B dd b q s σ' d L c w' ∧ Took (bl s) σ' p ∧ ¬ blankP p ∧ R0 = takenAt (bl s) σ' p m) ∧
  Below B w w' ∧ Kept docT w w'
/-- What around's loop keeps. -/
structure ArR (B dd b q : Nat) (s : ByteArray) (d : Nat) (L : List Tell) (c : Nat) (m : Mach) (R0 : Res Nd) (w : World) (P R : Nat) (σr : St) (p : Pc) (v : Value) (wr : World) : Prop where
  ds : DS B dd b q s σr d L c wr
  below : Below B w wr
  kept : Kept docT w wr
  hP : wr.heap[P]? = some (.cells #[.int .i64 p.kind, .string (str p.name), v, .string (str p.text), .int .i64 p.at_] 74 (0, 0))
  hR : wr.heap[R]? = some (.cells #[.int .i64 0, .string ⟨#[]⟩, .slice none 0 0, .string ⟨#[]⟩, .int .i64 0] 74 (0, 0))
  row : RowsB b wr v p.attrs
  fresh : ∀ g o n c, v = .slice (some ⟨g, o, none⟩) n c → R ≤ g
  took : Took (bl s) σr p
  same : R0 = takenAt (bl s) σr p m
def ArRel (B dd b q : Nat) (s : ByteArray) (d : Nat) (L : List Tell) (c : Nat) (m : Mach) (R0 : Res Nd) (w : World) (P R g : Nat) (wr : World) : Prop := ∃ σr p v, ArR B dd b q s d L c m R0 w P R σr p v wr ∧ mea (bl s) σr p = g
theorem empty_blank (t : List UInt8) : (trimmed (str t)).toList.isEmpty = decide (trimL t = []) := by
  have h : (trimmed (str t)).toList = trimL t := by rw [Lib.toList_data]; have := trimmed_bl (str t); rw [str_bl] at this; exact this
  rw [h]
  cases trimL t with
  | nil => rfl
  | cons a l => rfl
/-- A row of attributes and a piece's block never are one. -/
theorem RowsB.apartOf {b : Nat} {w : World} {v : Value} {A : List (List UInt8 × List UInt8)} (h : RowsB b w v A) {k : Nat} {cs : Array Value} {t : TypeId} {z : Nat × Nat} (hk : w.heap[k]? = some (.cells cs t z)) (ht : t ≠ 50) :
    ∀ g o n c, v = .slice (some ⟨g, o, none⟩) n c → g ≠ k ∧ g < w.heap.size := fun g o n c hv => by
  obtain ⟨_, cs', z', hg⟩ := h.2 g o n c hv
  exact ⟨fun e => by rw [e, hk] at hg; cases hg; exact ht rfl, (Array.getElem?_eq_some_iff.1 hg).1⟩
theorem RowsB.onlyOf {b k : Nat} {w w' : World} {v : Value} {A : List (List UInt8 × List UInt8)} (h : RowsB b w v A) (ho : Only k w w') {cs : Array Value} {t : TypeId} {z : Nat × Nat} (hk : w.heap[k]? = some (.cells cs t z)) (ht : t ≠ 50) : RowsB b w' v A :=
  h.heap ho.size fun g o n c hv => ho.block g (h.apartOf hk ht g o n c hv).2 (h.apartOf hk ht g o n c hv).1
theorem RowsB.keptOf {b : Nat} {ts : List TypeId} {w w' : World} {v : Value} {A : List (List UInt8 × List UInt8)} (h : RowsB b w v A) (ho : Kept ts w w') (ht : 50 ∉ ts) : RowsB b w' v A :=
  h.heap ho.size fun g o n c hv => by
    obtain ⟨_, cs', z', hg⟩ := h.2 g o n c hv
    rw [hg]; exact ho.heap hg ht
set_option maxHeartbeats 8000000 in
theorem daround (B dd b q : Nat) (s : ByteArray) (σ : St) (d : Nat) (L : List Tell) (c : Nat) (m : Mach) (hm : Around m) (w : World) (h : DS B dd b q s σ d L c w) (R0 : Res Nd) (hR0 : R0 = runAt (bl s) σ m) :
    Calls Tryz.prog 34 #[.pointer (some ⟨dd, 0, none⟩)] w (ArGives B dd b q s d L c m R0 w) := by
  have HD := Lib.hid (h.step ((Below.refl _ _).alloc (Nat.le_refl _) (.cells #[.int .i64 0, .string ⟨#[]⟩, .slice none 0 0, .string ⟨#[]⟩, .int .i64 0] 74)))
  have HB := Lib.hid ((Below.refl B w).alloc h.le (.cells #[.int .i64 0, .string ⟨#[]⟩, .slice none 0 0, .string ⟨#[]⟩, .int .i64 0] 74))
  have HK := Lib.hid (Kept.alloc docT w (.cells #[.int .i64 0, .string ⟨#[]⟩, .slice none 0 0, .string ⟨#[]⟩, .int .i64 0] 74))
  have HR := Lib.hid (heap_alloc_new w (.cells #[.int .i64 0, .string ⟨#[]⟩, .slice none 0 0, .string ⟨#[]⟩, .int .i64 0] 74))
  have HBw := Lib.hid h.le
  have HM := Lib.hid hm
  have HR0 := Lib.hid hR0
  have HRl := Lib.hid (show w.heap.size < (w.alloc (.cells #[.int .i64 0, .string ⟨#[]⟩, .slice none 0 0, .string ⟨#[]⟩, .int .i64 0] 74)).heap.size by simp)
  clear h hm hR0
  go_enter Tryz.func34, Tryz.ntmps34
  go_wp2_with fail
  obtain ⟨R, hRe⟩ : ∃ R, w.heap.size = R := ⟨_, rfl⟩
  rw [hRe] at HR HRl HBw ⊢
  have HRe := Lib.hid hRe
  clear hRe
  generalize w.alloc (.cells #[.int .i64 0, .string ⟨#[]⟩, .slice none 0 0, .string ⟨#[]⟩, .int .i64 0] 74) = w0 at HD HB HK HR HRl ⊢
  have C := Lib.hid (dnext B dd b q s σ d L c w0 HD.out)
  refine C.out.mono ?_
  rintro r w1 ⟨hok, hbad, hD1, hB1, hK1⟩
  have HB1 := Lib.hid (HB.out.trans hB1)
  have HK1 := Lib.hid (HK.out.trans hK1)
  have HR1 := Lib.hid (hK1.heap HR.out (by decide))
  by_cases he : (nextS (bl s) σ).err = 0
  · obtain ⟨x, rfl, v, rfl, hrows, hfresh⟩ := hok he
    obtain ⟨ao, n, cap, rfl⟩ := rows_form hrows
    have hsame := HR0.out.trans (next_taken HD.out.pu.scn he m)
    have htook := next_took HD.out.pu.scn he
    generalize nextS (bl s) σ = σ1 at *
    generalize nextP (bl s) σ = Q at *
    obtain ⟨P, hPe⟩ : ∃ P, w1.heap.size = P := ⟨_, rfl⟩
    have HA := Lib.hid ((Below.refl w1.heap.size w1).alloc (Nat.le_refl _) (.cells #[.int .i64 Q.kind, .string (str Q.name), .slice ao n cap, .string (str Q.text), .int .i64 Q.at_] 74))
    have hPlt : w0.heap.size ≤ P := by rw [← hPe]; exact hK1.size
    have HRel := Lib.hid (show ArRel B dd b q s d L c m R0 w P R (mea (bl s) σ1 Q) (w1.alloc (.cells #[.int .i64 Q.kind, .string (str Q.name), .slice ao n cap, .string (str Q.text), .int .i64 Q.at_] 74)) from
      ⟨σ1, Q, _, ⟨hD1.step HA.out, HB1.out.trans (HA.out.mono hD1.le), HK1.out.trans (Kept.of docT HA.out), by rw [← hPe]; exact heap_alloc_new w1 _, (Kept.of docT HA.out).heap HR1.out (by decide),
        hrows.keptOf (Kept.of docT HA.out) (by decide), fun g o n c hv => by have := hfresh g o n c hv; have := HRl.out; omega, htook, hsame⟩, rfl⟩)
    have hRP : R < P := by have := HRl.out; omega
    have HRP := Lib.hid hRP
    clear hok hbad hD1 hB1 hK1 hrows hfresh hsame htook he C HD HB HK HR HB1 HK1 HR1 HA hPlt hRP HRl
    have HPe := Lib.hid hPe
    go_wp2_with fail
    clear hPe
    generalize w1.alloc (.cells #[.int .i64 Q.kind, .string (str Q.name), .slice ao n cap, .string (str Q.text), .int .i64 Q.at_] 74) = w2 at HRel ⊢
    go_loopg [] (mea (bl s) σ1 Q) (fun g wr => ArRel B dd b q s d L c m R0 w P R g wr)
    case atStart => exact HRel.out
    case round =>
      obtain ⟨σr, p, v, hr, hg⟩ := hrel
      obtain ⟨ao, n, cap, rfl⟩ := rows_form hr.row
      have HX := Lib.hid hr
      have p0 := Lib.cell_of_heap hr.hP 0
      have p1 := Lib.cell_of_heap hr.hP 1
      have p2 := Lib.cell_of_heap hr.hP 2
      have p3 := Lib.cell_of_heap hr.hP 3
      have p4 := Lib.cell_of_heap hr.hP 4
      simp only [List.getElem?_toArray, List.getElem?_cons_zero, List.getElem?_cons_succ] at p0 p1 p2 p3 p4
      have HG := Lib.hid hg
      clear hr hg
      by_cases hk4 : p.kind = 4
      · have q4 : (p.kind == 4) = true := by simp [hk4]
        have hlen : (str p.text).size ≤ 9223372036854775807 := by
          have h1 := HX.out.took.ok.text
          have h2 := HX.out.ds.sc.len
          rw [bl_size] at h1
          rw [str_size]; omega
        have CE := cempty (str p.text) wr hlen
        rw [empty_blank] at CE
        clear hlen
        by_cases ht : trimL p.text = []
        · have hbl : blankP p := ⟨hk4, ht⟩
          have CE : Calls Tryz.prog 42 #[.string (str p.text)] wr fun e w' => e = .returned (.bool true) ∧ Below wr.heap.size wr w' := CE.mono fun e w' ⟨h1, h2⟩ => ⟨by rw [h1, decide_eq_true ht], h2⟩
          have CE := Lib.hid CE
          have hsame := HX.out.same.trans (taken_blank HM.out hbl)
          have HSM := Lib.hid hsame
          have HKN := Lib.hid (show p.kind ≠ 0 by rw [hk4]; decide)
          clear hsame hbl ht hk4
          go_wp2_with fail
          refine CE.out.mono ?_
          rintro r w3 ⟨rfl, hb3⟩
          have HD3 := Lib.hid (HX.out.ds.step hb3)
          have HB3 := Lib.hid (HX.out.below.trans (hb3.mono HX.out.ds.le))
          have HK3 := Lib.hid (HX.out.kept.trans (Kept.of docT hb3))
          have HR3 := Lib.hid ((Kept.of docT hb3).heap HX.out.hR (by decide))
          have HP3 := Lib.hid ((Kept.of docT hb3).heap HX.out.hP (by decide))
          have HRl3 := Lib.hid (show R < w3.heap.size from (Array.getElem?_eq_some_iff.1 HR3.out).1)
          clear hb3 CE p0 p1 p2 p3 p4
          have C := Lib.hid (dnext B dd b q s σr d L c w3 HD3.out)
          go_wp2_with fail
          refine C.out.mono ?_
          rintro r w4 ⟨hok, hbad, hD4, hB4, hK4⟩
          by_cases he : (nextS (bl s) σr).err = 0
          · obtain ⟨x, rfl, v2, rfl, hrows, hfresh⟩ := hok he
            obtain ⟨ao2, n2, cap2, rfl⟩ := rows_form hrows
            have hsame2 := HSM.out.trans (next_taken HD3.out.pu.scn he m)
            have htook := next_took HD3.out.pu.scn he
            have hmea := next_mea HD3.out.pu.scn he
            have HMg := Lib.hid (show mea (bl s) (nextS (bl s) σr) (nextP (bl s) σr) < gk by
              rw [← HG.out]; unfold mea at hmea ⊢; rw [if_neg HKN.out]; omega)
            clear hmea
            generalize nextS (bl s) σr = σ4 at *
            generalize nextP (bl s) σr = Q4 at *
            have HP4 := Lib.hid (hK4.heap HP3.out (by decide))
            have hs5 := st5_onlyR w4 P (.int .i64 Q4.kind) (.string (str Q4.name)) (.slice ao2 n2 cap2) (.string (str Q4.text)) (.int .i64 Q4.at_)
            have HREL := Lib.hid (show ArRel B dd b q s d L c m R0 w P R (mea (bl s) σ4 Q4) (st5 w4 P (.int .i64 Q4.kind) (.string (str Q4.name)) (.slice ao2 n2 cap2) (.string (str Q4.text)) (.int .i64 Q4.at_)) from
              ⟨σ4, Q4, _, ⟨hD4.only hs5 HP4.out (by decide) (by have := HRP.out; have := HBw.out; omega), (HB3.out.trans hB4).trans (hs5.below (by have := HRP.out; have := HBw.out; omega) hD4.le), (HK3.out.trans hK4).new hs5 (by have := HRP.out; have := HRe.out; omega),
                st5_heap HP4.out _ _ _ _ _, (hs5.heap (hK4.heap HR3.out (by decide)) (by have := HRP.out; omega)), hrows.onlyOf hs5 HP4.out (by decide), fun g o n c hv => by have := hfresh g o n c hv; have := HRl3.out; omega, htook, hsame2⟩, rfl⟩)
            have r0 := Lib.cell_of_heap HP4.out 0
            have r1 := Lib.cell_of_heap HP4.out 1
            have r2 := Lib.cell_of_heap HP4.out 2
            have r3 := Lib.cell_of_heap HP4.out 3
            have r4 := Lib.cell_of_heap HP4.out 4
            have f0 := Lib.frozen_of_heap HP4.out 0
            have f1 := Lib.frozen_of_heap HP4.out 1
            have f2 := Lib.frozen_of_heap HP4.out 2
            have f3 := Lib.frozen_of_heap HP4.out 3
            have f4 := Lib.frozen_of_heap HP4.out 4
            simp only [List.getElem?_toArray, List.getElem?_cons_zero, List.getElem?_cons_succ] at r0 r1 r2 r3 r4
            clear hok hbad hD4 hB4 hK4 hrows hfresh hsame2 htook hs5 he C
            go_wp2
            go_roundg (mea (bl s) σ4 Q4)
            case measure => exact HMg.out
            case rel => exact HREL.out
          · have hr := hbad he
            subst hr
            have HE := Lib.hid (show R0 = .bad (nextS (bl s) σr).err (nextS (bl s) σr).wrg from HSM.out.trans (runAt_bad he m))
            exact ⟨rfl, .inl ⟨_, _, rfl, HE.out⟩, HB3.out.trans hB4, HK3.out.trans hK4⟩
        · have hnb : ¬ blankP p := fun h => ht h.2
          have CE : Calls Tryz.prog 42 #[.string (str p.text)] wr fun e w' => e = .returned (.bool false) ∧ Below wr.heap.size wr w' := CE.mono fun e w' ⟨h1, h2⟩ => ⟨by rw [h1, decide_eq_false ht], h2⟩
          have CE := Lib.hid CE
          clear ht hk4
          go_wp2_with fail
          refine CE.out.mono ?_
          rintro r w3 ⟨rfl, hb3⟩
          have HD2 := Lib.hid (HX.out.ds.step hb3)
          have HB2 := Lib.hid (HX.out.below.trans (hb3.mono HX.out.ds.le))
          have HK2 := Lib.hid (HX.out.kept.trans (Kept.of docT hb3))
          have HR2 := Lib.hid ((Kept.of docT hb3).heap HX.out.hR (by decide))
          have HP2 := Lib.hid ((Kept.of docT hb3).heap HX.out.hP (by decide))
          have HW2 := Lib.hid (HX.out.row.keptOf (Kept.of docT hb3) (by decide))
          clear hb3 CE p0 p1 p2 p3 p4
          have p0 := Lib.cell_of_heap HP2.out 0
          have p1 := Lib.cell_of_heap HP2.out 1
          have p2 := Lib.cell_of_heap HP2.out 2
          have p3 := Lib.cell_of_heap HP2.out 3
          have p4 := Lib.cell_of_heap HP2.out 4
          simp only [List.getElem?_toArray, List.getElem?_cons_zero, List.getElem?_cons_succ] at p0 p1 p2 p3 p4
          have r0 := Lib.cell_of_heap HR2.out 0
          have r1 := Lib.cell_of_heap HR2.out 1
          have r2 := Lib.cell_of_heap HR2.out 2
          have r3 := Lib.cell_of_heap HR2.out 3
          have r4 := Lib.cell_of_heap HR2.out 4
          have f0 := Lib.frozen_of_heap HR2.out 0
          have f1 := Lib.frozen_of_heap HR2.out 1
          have f2 := Lib.frozen_of_heap HR2.out 2
          have f3 := Lib.frozen_of_heap HR2.out 3
          have f4 := Lib.frozen_of_heap HR2.out 4
          simp only [List.getElem?_toArray, List.getElem?_cons_zero, List.getElem?_cons_succ] at r0 r1 r2 r3 r4
          go_wp2
          have hs5 := st5_onlyR w3 R (.int .i64 p.kind) (.string (str p.name)) (.slice ao n cap) (.string (str p.text)) (.int .i64 p.at_)
          refine bodyPost_ret (res_piece _ rfl _ R rfl _ _ _ _ _ _ 74 (0, 0) (st5_heap HR2.out _ _ _ _ _)) rfl ⟨.inr ⟨_, σr, p, rfl, ⟨_, rfl, ?_, ?_⟩, ?_, HX.out.took, hnb, HX.out.same⟩, ?_, ?_⟩
          · exact HW2.out.onlyOf hs5 HR2.out (by decide)
          · intro g o n' c' hv
            have := HX.out.fresh g o n' c' hv
            have := HRe.out
            omega
          · exact HD2.out.only hs5 HR2.out (by decide) HBw.out
          · exact HB2.out.trans (hs5.below HBw.out HD2.out.le)
          · exact HK2.out.new hs5 (by have := HRe.out; omega)
      · have q4 : (p.kind == 4) = false := by simp [hk4]
        have hnb : ¬ blankP p := fun h => hk4 h.1
        have HD2 := Lib.hid HX.out.ds
        have HB2 := Lib.hid HX.out.below
        have HK2 := Lib.hid HX.out.kept
        have HR2 := Lib.hid HX.out.hR
        have HW2 := Lib.hid HX.out.row
        clear hk4
        have r0 := Lib.cell_of_heap HR2.out 0
        have r1 := Lib.cell_of_heap HR2.out 1
        have r2 := Lib.cell_of_heap HR2.out 2
        have r3 := Lib.cell_of_heap HR2.out 3
        have r4 := Lib.cell_of_heap HR2.out 4
        have f0 := Lib.frozen_of_heap HR2.out 0
        have f1 := Lib.frozen_of_heap HR2.out 1
        have f2 := Lib.frozen_of_heap HR2.out 2
        have f3 := Lib.frozen_of_heap HR2.out 3
        have f4 := Lib.frozen_of_heap HR2.out 4
        simp only [List.getElem?_toArray, List.getElem?_cons_zero, List.getElem?_cons_succ] at r0 r1 r2 r3 r4
        go_wp2
        have hs5 := st5_onlyR wr R (.int .i64 p.kind) (.string (str p.name)) (.slice ao n cap) (.string (str p.text)) (.int .i64 p.at_)
        refine bodyPost_ret (res_piece _ rfl _ R rfl _ _ _ _ _ _ 74 (0, 0) (st5_heap HR2.out _ _ _ _ _)) rfl ⟨.inr ⟨_, σr, p, rfl, ⟨_, rfl, ?_, ?_⟩, ?_, HX.out.took, hnb, HX.out.same⟩, ?_, ?_⟩
        · exact HW2.out.onlyOf hs5 HR2.out (by decide)
        · intro g o n' c' hv
          have := HX.out.fresh g o n' c' hv
          have := HRe.out
          omega
        · exact HD2.out.only hs5 HR2.out (by decide) HBw.out
        · exact HB2.out.trans (hs5.below HBw.out HD2.out.le)
        · exact HK2.out.new hs5 (by have := HRe.out; omega)
  · have hr := hbad he
    subst hr
    have HE := Lib.hid (show R0 = .bad (nextS (bl s) σ).err (nextS (bl s) σ).wrg from HR0.out.trans (runAt_bad he m))
    exact ⟨rfl, .inl ⟨_, _, rfl, HE.out⟩, HB1.out, HK1.out⟩

end Go.Proofs.YtekmenkebokdoaaGreatDoor
