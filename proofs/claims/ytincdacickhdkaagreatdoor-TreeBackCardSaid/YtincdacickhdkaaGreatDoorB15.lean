/-
  The walks of tree's small functions: must, opens; and of (*document).next.
  The walk of (*document).around.
  The walks of slices.Backward at tellings: what it hands to a loop's body, one by one, from the last on.
  The walk of (*Spaces).Of.
  The walk of (*Spaces).Name; the walk of layer 5's galliardlaw05.awake.
-/
import Derived.Test.YtincdacickhdkaaGreatDoorB14
import Derived.WalkLawsBesides
import Derived.Deep.LoopGhost
import Derived.Test.YtincdacickhdkaaGreatDoorB3
import Derived.RangeFuncNested
import Derived.RangeFuncCalls
import Derived.RangeFuncLeaves
import Derived.Shelf.Abstract
import Derived.Shelf.RegionOpen
import Derived.OwnWalkIn
import Derived.TacticsInMore
import Derived.LoopNIn
import Derived.LoopIn
import Derived.Test.YtincdacickhdkaaGreatDoorB7
import Derived.Test.YtincdacickhdkaaGreatDoorB13
namespace Go.Proofs.YtincdacickhdkaaGreatDoor
open Go Go.RowKit
set_option maxRecDepth 100000

/-- What is told by a panic. -/
def dies (e a : Int) : Ending := .panicked [{ v := .iface 50 (.agg #[.int .i64 e, .int .i64 a]), recovered := false }]
set_option maxHeartbeats 1000000 in
theorem must_ok (e a : Int) (w : World) :
    Calls Tryz.prog 38 #[.bool true, .int .i64 e, .int .i64 a] w fun r w' => r = .returned (.tuple #[]) ∧ w' = w := by
  go_enter Tryz.func38, Tryz.ntmps38
  go_wp2
  go_end0
  exact ⟨rfl, rfl⟩
set_option maxHeartbeats 1000000 in
theorem must_bad (e a : Int) (w : World) :
    Calls Tryz.prog 38 #[.bool false, .int .i64 e, .int .i64 a] w fun r w' => r = dies e a ∧ w' = w := by
  go_enter Tryz.func38, Tryz.ntmps38
  go_wp2
  exact ⟨rfl, rfl, rfl⟩
set_option maxHeartbeats 1000000 in
theorem topens (k at_ : Int) (nm tx : ByteArray) (v : Value) (hv : ∃ ao n cap, v = .slice ao n cap) (w : World) :
    Calls Tryz.prog 39 #[.agg #[.int .i64 k, .string nm, v, .string tx, .int .i64 at_]] w fun r w' => r = .returned (.bool (decide (k = 1 ∨ k = 3))) ∧ Below w.heap.size w w' := by
  obtain ⟨ao, n, cap, rfl⟩ := hv
  have HB := Lib.hid ((Below.refl w.heap.size w).alloc (Nat.le_refl _) (.cells #[.int .i64 k, .string nm, .slice ao n cap, .string tx, .int .i64 at_] 81))
  by_cases h1 : k = 1
  · subst h1
    go_enter Tryz.func39, Tryz.ntmps39
    go_wp2
    go_ret
    exact ⟨rfl, HB.out⟩
  · have q : (k == 1) = false := by simp [h1]
    have e : decide (k = 1 ∨ k = 3) = (k == 3) := by
      by_cases h3 : k = 3
      · subst h3; rfl
      · simp [h1, h3]
    rw [e]
    clear e h1
    go_enter Tryz.func39, Tryz.ntmps39
    go_wp2
    go_ret
    exact ⟨rfl, HB.out⟩

theorem atS_bad' {σ : St} (h : σ.err ≠ 0) : atS σ = σ.wrg := by unfold atS; rw [if_neg h]

/-! ### a document that is read -/
/-- Block dd is a document: its scanner in b at σ, its Spaces in q within d elements, that knows L; c elements so far. -/
structure DS (B dd b q : Nat) (s : ByteArray) (σ : St) (d : Nat) (L : List Tell) (c : Nat) (w : World) : Prop where
  sc : Sc B b s σ w
  sp : Sp B q d L w
  base : B ≤ dd
  heap : w.heap[dd]? = some (.cells #[.pointer (some ⟨b, 0, none⟩), .pointer (some ⟨q, 0, none⟩), .int .i64 c] 56 (0, 0))
  pu : Pu (bl s) σ d L c
theorem Sp.heap {B b d : Nat} {L : List Tell} {w : World} (h : Sp B b d L w) : ∃ v, w.heap[b]? = some (.cells #[.int .i64 d, v] 78 (0, 0)) := by obtain ⟨_, k, cap, h, _⟩ := h; exact ⟨_, h⟩
theorem Sp.only {B b d k : Nat} {L : List Tell} {w w' : World} (h : Sp B b d L w) (ho : Only k w w') {cs : Array Value} {t : TypeId} {z : Nat × Nat} (hk : w.heap[k]? = some (.cells cs t z)) (h1 : t ≠ 75) (h2 : t ≠ 78) : Sp B b d L w' := by
  obtain ⟨h0, r, cap, hb, ho'⟩ := h
  have hbk : b ≠ k := fun e => by rw [e, hk] at hb; cases hb; exact h2 rfl
  refine ⟨h0, r, cap, ho.heap hb hbk, ho'.1, ?_⟩
  rcases ho'.2 with hn | ⟨g, cap', cur, hv, hbg, hg, rest⟩
  · exact .inl hn
  · exact .inr ⟨g, cap', cur, hv, hbg, ho.heap hg (fun e => by rw [e, hk] at hg; cases hg; exact h1 rfl), rest⟩
theorem DS.lt {B dd b q d c : Nat} {s : ByteArray} {σ : St} {L : List Tell} {w : World} (h : DS B dd b q s σ d L c w) : dd < w.heap.size := (Array.getElem?_eq_some_iff.1 h.heap).1
theorem DS.ne {B dd b q d c : Nat} {s : ByteArray} {σ : St} {L : List Tell} {w : World} (h : DS B dd b q s σ d L c w) : dd ≠ b ∧ dd ≠ q ∧ b ≠ q := by
  obtain ⟨v, hq⟩ := h.sp.heap
  have h1 := h.heap
  have h2 := h.sc.heap
  refine ⟨fun e => ?_, fun e => ?_, fun e => ?_⟩
  · rw [e, h2] at h1; cases h1
  · rw [e, hq] at h1; cases h1
  · rw [e, hq] at h2; cases h2
theorem DS.le {B dd b q d c : Nat} {s : ByteArray} {σ : St} {L : List Tell} {w : World} (h : DS B dd b q s σ d L c w) : B ≤ w.heap.size := h.sc.glob.le
theorem DS.step {B dd b q d c : Nat} {s : ByteArray} {σ : St} {L : List Tell} {w w' : World} (h : DS B dd b q s σ d L c w) (hb : Below w.heap.size w w') : DS B dd b q s σ d L c w' :=
  ⟨h.sc.step hb, h.sp.step hb, h.base, by rw [hb.block _ h.lt]; exact h.heap, h.pu⟩
/-- The scanner has moved. -/
theorem DS.scan {B dd b q d c : Nat} {s : ByteArray} {σ σ' : St} {L : List Tell} {w w' : World} (h : DS B dd b q s σ d L c w) (hS : Sc B b s σ' w') (ho : Only b w w') (hn : Pu (bl s) σ' d L c) : DS B dd b q s σ' d L c w' :=
  ⟨hS, h.sp.only ho h.sc.heap (by decide) (by decide), h.base, ho.heap h.heap h.ne.1, hn⟩
theorem Kept.scan {B b : Nat} {s : ByteArray} {σ : St} {w w' : World} (h : Sc B b s σ w) (ho : Only b w w') : Kept docT w w' := Kept.only ho h.heap (by decide)
theorem Only.belowB {b B : Nat} {w w' : World} (h : Only b w w') (hB : B ≤ b) (hw : B ≤ w.heap.size) : Below B w w' := h.below hB hw
/-- Another block has changed. -/
theorem DS.only {B dd b q d c k : Nat} {s : ByteArray} {σ : St} {L : List Tell} {w w' : World} (h : DS B dd b q s σ d L c w) (ho : Only k w w') {cs : Array Value} {t : TypeId} {z : Nat × Nat} (hk : w.heap[k]? = some (.cells cs t z)) (ht : t ∉ docT) (hB : B ≤ k) : DS B dd b q s σ d L c w' := by
  have hdt : 75 ∈ docT ∧ 78 ∈ docT ∧ 56 ∈ docT ∧ 72 ∈ docT := by decide
  have hb : b ≠ k := fun e => by have h2 := h.sc.heap; rw [e, hk] at h2; cases h2; exact ht hdt.2.2.2
  have hd : dd ≠ k := fun e => by have h2 := h.heap; rw [e, hk] at h2; cases h2; exact ht hdt.2.2.1
  exact ⟨⟨h.sc.base, h.sc.len, h.sc.pos, h.sc.glob.step (ho.below hB h.le), ho.heap h.sc.heap hb⟩, h.sp.only ho hk (fun e => ht (e ▸ hdt.1)) (fun e => ht (e ▸ hdt.2.1)), h.base, ho.heap h.heap hd, h.pu⟩
theorem Kept.new {ts : List TypeId} {w w' w'' : World} (h : Kept ts w w') {k : Nat} (ho : Only k w' w'') (hk : w.heap.size ≤ k) : Kept ts w w'' :=
  ⟨Nat.le_trans h.size ho.size, fun j hj hn => (ho.block j (Nat.lt_of_lt_of_le hj h.size) (by omega)).trans (h.block j hj hn)⟩
theorem st5_onlyR (w : World) (R : Nat) (x0 x1 x2 x3 x4 : Value) : Only R w (st5 w R x0 x1 x2 x3 x4) :=
  ((((Only.set R 0 w x0).trans (Only.set R 1 _ x1)).trans (Only.set R 2 _ x2)).trans (Only.set R 3 _ x3)).trans (Only.set R 4 _ x4)
/-- What next leaves: something wrong, or a piece. -/
def NextGives (B dd b q : Nat) (s : ByteArray) (σ : St) (d : Nat) (L : List Tell) (c : Nat) (w : World) (r : Ending) (w' : World) : Prop :=
  ((nextS (bl s) σ).err = 0 → ∃ x, r = .returned x ∧ PieceAt b w.heap.size w' x (nextP (bl s) σ)) ∧ ((nextS (bl s) σ).err ≠ 0 → r = dies (nextS (bl s) σ).err (nextS (bl s) σ).wrg) ∧
    DS B dd b q s (nextS (bl s) σ) d L c w' ∧ Below B w w' ∧ Kept docT w w'
set_option maxHeartbeats 4000000 in
theorem dnext0 (B dd b q : Nat) (s : ByteArray) (σ σ' : St) (Q : Pc) (d : Nat) (L : List Tell) (c : Nat) (w : World) (h : DS B dd b q s σ d L c w) (hn : Pu (bl s) σ' d L c)
    (C1 : Hid (∀ w, Sc B b s σ w → Calls Tryz.prog 65 #[.pointer (some ⟨b, 0, none⟩)] w (Gives B b s w Q σ'))) :
    Calls Tryz.prog 49 #[.pointer (some ⟨dd, 0, none⟩)] w fun r w' =>
      (σ'.err = 0 → ∃ x, r = .returned x ∧ PieceAt b w.heap.size w' x Q) ∧ (σ'.err ≠ 0 → r = dies σ'.err σ'.wrg) ∧ DS B dd b q s σ' d L c w' ∧ Below B w w' ∧ Kept docT w w' := by
  have HD := Lib.hid (h.step ((Below.refl _ _).alloc (Nat.le_refl _) (.cells #[.int .i64 0, .string ⟨#[]⟩, .slice none 0 0, .string ⟨#[]⟩, .int .i64 0] 81)))
  have HB := Lib.hid ((Below.refl B w).alloc h.le (.cells #[.int .i64 0, .string ⟨#[]⟩, .slice none 0 0, .string ⟨#[]⟩, .int .i64 0] 81))
  have HK := Lib.hid (Kept.alloc docT w (.cells #[.int .i64 0, .string ⟨#[]⟩, .slice none 0 0, .string ⟨#[]⟩, .int .i64 0] 81))
  have HR := Lib.hid (heap_alloc_new w (.cells #[.int .i64 0, .string ⟨#[]⟩, .slice none 0 0, .string ⟨#[]⟩, .int .i64 0] 81))
  have HN := Lib.hid hn
  have HBw := Lib.hid h.le
  clear h hn
  have e0 := Lib.cell_of_heap HD.out.heap 0
  simp only [List.getElem?_toArray, List.getElem?_cons_zero] at e0
  go_enter Tryz.func49, Tryz.ntmps49
  go_wp2_with fail
  obtain ⟨R, hRe⟩ : ∃ R, w.heap.size = R := ⟨_, rfl⟩
  rw [hRe] at HR ⊢
  have HRe := Lib.hid hRe
  clear hRe
  generalize w.alloc (.cells #[.int .i64 0, .string ⟨#[]⟩, .slice none 0 0, .string ⟨#[]⟩, .int .i64 0] 81) = w0 at HD HB HK HR e0 ⊢
  have C := Lib.hid (C1.out w0 HD.out.sc)
  refine C.out.mono ?_
  rintro r w1 ⟨x, rfl, ⟨v, rfl, hrows, hfresh⟩, h1, o1⟩
  obtain ⟨ao, m, cap, rfl⟩ := rows_form hrows
  have hne : R ≠ b := fun e => by have h2 := HD.out.sc.heap; rw [← e, HR.out] at h2; cases h2
  have hRl : R < w0.heap.size := (Array.getElem?_eq_some_iff.1 HR.out).1
  have HD1 := Lib.hid ((HD.out.scan h1 o1 HN.out).step ((Below.refl _ _).alloc (Nat.le_refl _) (.cells #[.int .i64 Q.kind, .string (str Q.name), .slice ao m cap, .string (str Q.text), .int .i64 Q.at_] 81)))
  have HO1 := Lib.hid (o1.trans (Only.alloc b w1 (.cells #[.int .i64 Q.kind, .string (str Q.name), .slice ao m cap, .string (str Q.text), .int .i64 Q.at_] 81)))
  have HR1 := Lib.hid (HO1.out.heap HR.out hne)
  have HB1 := Lib.hid (HB.out.trans (HO1.out.below HD.out.sc.base HD.out.le))
  have HK1 := Lib.hid (HK.out.trans (Kept.scan HD.out.sc HO1.out))
  have HP := Lib.hid (heap_alloc_new w1 (.cells #[.int .i64 Q.kind, .string (str Q.name), .slice ao m cap, .string (str Q.text), .int .i64 Q.at_] 81))
  have HW := Lib.hid (hrows.only (Only.alloc b w1 (.cells #[.int .i64 Q.kind, .string (str Q.name), .slice ao m cap, .string (str Q.text), .int .i64 Q.at_] 81)))
  have HF := Lib.hid hfresh
  have HRl := Lib.hid hRl
  have HPR := Lib.hid (show R < w1.heap.size from Nat.lt_of_lt_of_le hRl o1.size)
  clear hrows hfresh h1 o1 C e0 HD HB HK HR
  have e0 := Lib.cell_of_heap HD1.out.heap 0
  simp only [List.getElem?_toArray, List.getElem?_cons_zero] at e0
  go_wp2_with fail
  obtain ⟨P, hPe⟩ : ∃ P, w1.heap.size = P := ⟨_, rfl⟩
  rw [hPe] at HP HPR ⊢
  clear hPe
  generalize w1.alloc (.cells #[.int .i64 Q.kind, .string (str Q.name), .slice ao m cap, .string (str Q.text), .int .i64 Q.at_] 81) = w2 at HD1 HO1 HR1 HB1 HK1 HP HW e0 ⊢
  have CE := Lib.hid (serr _ b _ _ w2 HD1.out.sc)
  have CA := Lib.hid (sat _ b _ _ w2 HD1.out.sc)
  refine CE.out.mono ?_
  rintro r w3 ⟨rfl, rfl⟩
  go_wp2_with fail
  refine CA.out.mono ?_
  rintro r w3 ⟨rfl, rfl⟩
  by_cases he : σ'.err = 0
  · have HE := Lib.hid he
    have CM := Lib.hid (must_ok σ'.err (atS σ') w2)
    have q : (σ'.err == 0) = true := by simp [he]
    clear he e0 CE CA
    go_wp2_with fail
    refine CM.out.mono ?_
    rintro r w3 ⟨rfl, hw⟩
    obtain rfl := hw.symm
    have r0 := Lib.cell_of_heap HR1.out 0
    have r1 := Lib.cell_of_heap HR1.out 1
    have r2 := Lib.cell_of_heap HR1.out 2
    have r3 := Lib.cell_of_heap HR1.out 3
    have r4 := Lib.cell_of_heap HR1.out 4
    have f0 := Lib.frozen_of_heap HR1.out 0
    have f1 := Lib.frozen_of_heap HR1.out 1
    have f2 := Lib.frozen_of_heap HR1.out 2
    have f3 := Lib.frozen_of_heap HR1.out 3
    have f4 := Lib.frozen_of_heap HR1.out 4
    simp only [List.getElem?_toArray, List.getElem?_cons_zero, List.getElem?_cons_succ] at r0 r1 r2 r3 r4
    have p0 := Lib.cell_of_heap HP.out 0
    have p1 := Lib.cell_of_heap HP.out 1
    have p2 := Lib.cell_of_heap HP.out 2
    have p3 := Lib.cell_of_heap HP.out 3
    have p4 := Lib.cell_of_heap HP.out 4
    simp only [List.getElem?_toArray, List.getElem?_cons_zero, List.getElem?_cons_succ] at p0 p1 p2 p3 p4
    go_wp2
    have hs5 := st5_onlyR w2 R (.int .i64 Q.kind) (.string (str Q.name)) (.slice ao m cap) (.string (str Q.text)) (.int .i64 Q.at_)
    have hBR : B ≤ R := by have := HRe.out; have := HBw.out; omega
    refine bodyPost_ret (res_piece _ rfl _ R rfl _ _ _ _ _ _ 81 (0, 0) (st5_heap HR1.out _ _ _ _ _)) rfl ?_
    refine ⟨fun _ => ⟨_, rfl, _, rfl, ?_, ?_⟩, fun h => absurd HE.out h, ?_, ?_, ?_⟩
    · exact HW.out.heap hs5.size (fun g o n c hv => by
        obtain ⟨_, cs, z, hg⟩ := HW.out.2 g o n c hv
        exact hs5.block g (Array.getElem?_eq_some_iff.1 hg).1 (by have := HF.out g o n c hv; have := HRl.out; omega))
    · intro g o n c hv
      have := HF.out g o n c hv
      have := HRe.out
      have := HRl.out
      omega
    · exact HD1.out.only hs5 HR1.out (by decide) hBR
    · exact HB1.out.trans (hs5.below hBR HD1.out.le)
    · exact HK1.out.new hs5 (by have := HRe.out; omega)
  · have HE := Lib.hid he
    have CM := must_bad σ'.err (atS σ') w2
    have CM := Lib.hid CM
    have q : (σ'.err == 0) = false := by simp [he]
    clear he e0 CE CA
    go_wp2_with fail
    refine CM.out.mono ?_
    rintro r w3 ⟨rfl, hw⟩
    obtain rfl := hw.symm
    refine ⟨rfl, fun h => absurd h HE.out, fun _ => ?_, HD1.out, HB1.out, HK1.out⟩
    rw [← atS_bad' HE.out]
    rfl
/-- **(*document).next.** -/
theorem dnext (B dd b q : Nat) (s : ByteArray) (σ : St) (d : Nat) (L : List Tell) (c : Nat) (w : World) (h : DS B dd b q s σ d L c w) :
    Calls Tryz.prog 49 #[.pointer (some ⟨dd, 0, none⟩)] w (NextGives B dd b q s σ d L c w) :=
  dnext0 B dd b q s σ _ _ d L c w h h.pu.next (Lib.hid fun w hS => snext B b s σ w hS)

end Go.Proofs.YtincdacickhdkaaGreatDoor

namespace Go.Proofs.YtincdacickhdkaaGreatDoor
open Go Go.RowKit
set_option maxRecDepth 100000

/-- What around leaves. -/
def ArGives (B dd b q : Nat) (s : ByteArray) (d : Nat) (L : List Tell) (c : Nat) (m : Mach) (R0 : Res Nd) (w : World) (r : Ending) (w' : World) : Prop :=
  ((∃ e a, r = dies e a ∧ R0 = .bad e a) ∨
    ∃ x σ' p, r = .returned x ∧ PieceAt b w.heap.size w' x p ∧ DS B dd b q s σ' d L c w' ∧ Took (bl s) σ' p ∧ ¬ blankP p ∧ R0 = takenAt (bl s) σ' p m) ∧
  Below B w w' ∧ Kept docT w w'
/-- What around's loop keeps. -/
structure ArR (B dd b q : Nat) (s : ByteArray) (d : Nat) (L : List Tell) (c : Nat) (m : Mach) (R0 : Res Nd) (w : World) (P R : Nat) (σr : St) (p : Pc) (v : Value) (wr : World) : Prop where
  ds : DS B dd b q s σr d L c wr
  below : Below B w wr
  kept : Kept docT w wr
  hP : wr.heap[P]? = some (.cells #[.int .i64 p.kind, .string (str p.name), v, .string (str p.text), .int .i64 p.at_] 81 (0, 0))
  hR : wr.heap[R]? = some (.cells #[.int .i64 0, .string ⟨#[]⟩, .slice none 0 0, .string ⟨#[]⟩, .int .i64 0] 81 (0, 0))
  row : RowsB b wr v p.attrs
  fresh : ∀ g o n c, v = .slice (some ⟨g, o, none⟩) n c → R ≤ g
  took : Took (bl s) σr p
  same : R0 = takenAt (bl s) σr p m
def ArRel (B dd b q : Nat) (s : ByteArray) (d : Nat) (L : List Tell) (c : Nat) (m : Mach) (R0 : Res Nd) (w : World) (P R g : Nat) (wr : World) : Prop := ∃ σr p v, ArR B dd b q s d L c m R0 w P R σr p v wr ∧ mea (bl s) σr p = g
theorem empty_blank (t : List UInt8) : (trimmed (str t)).toList.isEmpty = decide (trimL t = []) := by
  have h : (trimmed (str t)).toList = trimL t := by rw [Lib.toList_data]; have := trimmed_bl (str t); rw [str_bl] at this; exact this
  rw [h]
  cases trimL t with
  | nil => rfl
  | cons a l => rfl
/-- A row of attributes and a piece's block never are one. -/
theorem RowsB.apartOf {b : Nat} {w : World} {v : Value} {A : List (List UInt8 × List UInt8)} (h : RowsB b w v A) {k : Nat} {cs : Array Value} {t : TypeId} {z : Nat × Nat} (hk : w.heap[k]? = some (.cells cs t z)) (ht : t ≠ 48) :
    ∀ g o n c, v = .slice (some ⟨g, o, none⟩) n c → g ≠ k ∧ g < w.heap.size := fun g o n c hv => by
  obtain ⟨_, cs', z', hg⟩ := h.2 g o n c hv
  exact ⟨fun e => by rw [e, hk] at hg; cases hg; exact ht rfl, (Array.getElem?_eq_some_iff.1 hg).1⟩
theorem RowsB.onlyOf {b k : Nat} {w w' : World} {v : Value} {A : List (List UInt8 × List UInt8)} (h : RowsB b w v A) (ho : Only k w w') {cs : Array Value} {t : TypeId} {z : Nat × Nat} (hk : w.heap[k]? = some (.cells cs t z)) (ht : t ≠ 48) : RowsB b w' v A :=
  h.heap ho.size fun g o n c hv => ho.block g (h.apartOf hk ht g o n c hv).2 (h.apartOf hk ht g o n c hv).1
theorem RowsB.keptOf {b : Nat} {ts : List TypeId} {w w' : World} {v : Value} {A : List (List UInt8 × List UInt8)} (h : RowsB b w v A) (ho : Kept ts w w') (ht : 48 ∉ ts) : RowsB b w' v A :=
  h.heap ho.size fun g o n c hv => by
    obtain ⟨_, cs', z', hg⟩ := h.2 g o n c hv
    rw [hg]; exact ho.heap hg ht
set_option maxHeartbeats 8000000 in
theorem daround (B dd b q : Nat) (s : ByteArray) (σ : St) (d : Nat) (L : List Tell) (c : Nat) (m : Mach) (hm : Around m) (w : World) (h : DS B dd b q s σ d L c w) (R0 : Res Nd) (hR0 : R0 = runAt (bl s) σ m) :
    Calls Tryz.prog 37 #[.pointer (some ⟨dd, 0, none⟩)] w (ArGives B dd b q s d L c m R0 w) := by
  have HD := Lib.hid (h.step ((Below.refl _ _).alloc (Nat.le_refl _) (.cells #[.int .i64 0, .string ⟨#[]⟩, .slice none 0 0, .string ⟨#[]⟩, .int .i64 0] 81)))
  have HB := Lib.hid ((Below.refl B w).alloc h.le (.cells #[.int .i64 0, .string ⟨#[]⟩, .slice none 0 0, .string ⟨#[]⟩, .int .i64 0] 81))
  have HK := Lib.hid (Kept.alloc docT w (.cells #[.int .i64 0, .string ⟨#[]⟩, .slice none 0 0, .string ⟨#[]⟩, .int .i64 0] 81))
  have HR := Lib.hid (heap_alloc_new w (.cells #[.int .i64 0, .string ⟨#[]⟩, .slice none 0 0, .string ⟨#[]⟩, .int .i64 0] 81))
  have HBw := Lib.hid h.le
  have HM := Lib.hid hm
  have HR0 := Lib.hid hR0
  have HRl := Lib.hid (show w.heap.size < (w.alloc (.cells #[.int .i64 0, .string ⟨#[]⟩, .slice none 0 0, .string ⟨#[]⟩, .int .i64 0] 81)).heap.size by simp)
  clear h hm hR0
  go_enter Tryz.func37, Tryz.ntmps37
  go_wp2_with fail
  obtain ⟨R, hRe⟩ : ∃ R, w.heap.size = R := ⟨_, rfl⟩
  rw [hRe] at HR HRl HBw ⊢
  have HRe := Lib.hid hRe
  clear hRe
  generalize w.alloc (.cells #[.int .i64 0, .string ⟨#[]⟩, .slice none 0 0, .string ⟨#[]⟩, .int .i64 0] 81) = w0 at HD HB HK HR HRl ⊢
  have C := Lib.hid (dnext B dd b q s σ d L c w0 HD.out)
  refine C.out.mono ?_
  rintro r w1 ⟨hok, hbad, hD1, hB1, hK1⟩
  have HB1 := Lib.hid (HB.out.trans hB1)
  have HK1 := Lib.hid (HK.out.trans hK1)
  have HR1 := Lib.hid (hK1.heap HR.out (by decide))
  by_cases he : (nextS (bl s) σ).err = 0
  · obtain ⟨x, rfl, v, rfl, hrows, hfresh⟩ := hok he
    obtain ⟨ao, n, cap, rfl⟩ := rows_form hrows
    have hsame := HR0.out.trans (next_taken HD.out.pu.scn he m)
    have htook := next_took HD.out.pu.scn he
    generalize nextS (bl s) σ = σ1 at *
    generalize nextP (bl s) σ = Q at *
    obtain ⟨P, hPe⟩ : ∃ P, w1.heap.size = P := ⟨_, rfl⟩
    have HA := Lib.hid ((Below.refl w1.heap.size w1).alloc (Nat.le_refl _) (.cells #[.int .i64 Q.kind, .string (str Q.name), .slice ao n cap, .string (str Q.text), .int .i64 Q.at_] 81))
    have hPlt : w0.heap.size ≤ P := by rw [← hPe]; exact hK1.size
    have HRel := Lib.hid (show ArRel B dd b q s d L c m R0 w P R (mea (bl s) σ1 Q) (w1.alloc (.cells #[.int .i64 Q.kind, .string (str Q.name), .slice ao n cap, .string (str Q.text), .int .i64 Q.at_] 81)) from
      ⟨σ1, Q, _, ⟨hD1.step HA.out, HB1.out.trans (HA.out.mono hD1.le), HK1.out.trans (Kept.of docT HA.out), by rw [← hPe]; exact heap_alloc_new w1 _, (Kept.of docT HA.out).heap HR1.out (by decide),
        hrows.keptOf (Kept.of docT HA.out) (by decide), fun g o n c hv => by have := hfresh g o n c hv; have := HRl.out; omega, htook, hsame⟩, rfl⟩)
    have hRP : R < P := by have := HRl.out; omega
    have HRP := Lib.hid hRP
    clear hok hbad hD1 hB1 hK1 hrows hfresh hsame htook he C HD HB HK HR HB1 HK1 HR1 HA hPlt hRP HRl
    have HPe := Lib.hid hPe
    go_wp2_with fail
    clear hPe
    generalize w1.alloc (.cells #[.int .i64 Q.kind, .string (str Q.name), .slice ao n cap, .string (str Q.text), .int .i64 Q.at_] 81) = w2 at HRel ⊢
    go_loopg [] (mea (bl s) σ1 Q) (fun g wr => ArRel B dd b q s d L c m R0 w P R g wr)
    case atStart => exact HRel.out
    case round =>
      obtain ⟨σr, p, v, hr, hg⟩ := hrel
      obtain ⟨ao, n, cap, rfl⟩ := rows_form hr.row
      have HX := Lib.hid hr
      have p0 := Lib.cell_of_heap hr.hP 0
      have p1 := Lib.cell_of_heap hr.hP 1
      have p2 := Lib.cell_of_heap hr.hP 2
      have p3 := Lib.cell_of_heap hr.hP 3
      have p4 := Lib.cell_of_heap hr.hP 4
      simp only [List.getElem?_toArray, List.getElem?_cons_zero, List.getElem?_cons_succ] at p0 p1 p2 p3 p4
      have HG := Lib.hid hg
      clear hr hg
      by_cases hk4 : p.kind = 4
      · have q4 : (p.kind == 4) = true := by simp [hk4]
        have hlen : (str p.text).size ≤ 9223372036854775807 := by
          have h1 := HX.out.took.ok.text
          have h2 := HX.out.ds.sc.len
          rw [bl_size] at h1
          rw [str_size]; omega
        have CE := cempty (str p.text) wr hlen
        rw [empty_blank] at CE
        clear hlen
        by_cases ht : trimL p.text = []
        · have hbl : blankP p := ⟨hk4, ht⟩
          have CE : Calls Tryz.prog 50 #[.string (str p.text)] wr fun e w' => e = .returned (.bool true) ∧ Below wr.heap.size wr w' := CE.mono fun e w' ⟨h1, h2⟩ => ⟨by rw [h1, decide_eq_true ht], h2⟩
          have CE := Lib.hid CE
          have hsame := HX.out.same.trans (taken_blank HM.out hbl)
          have HSM := Lib.hid hsame
          have HKN := Lib.hid (show p.kind ≠ 0 by rw [hk4]; decide)
          clear hsame hbl ht hk4
          go_wp2_with fail
          refine CE.out.mono ?_
          rintro r w3 ⟨rfl, hb3⟩
          have HD3 := Lib.hid (HX.out.ds.step hb3)
          have HB3 := Lib.hid (HX.out.below.trans (hb3.mono HX.out.ds.le))
          have HK3 := Lib.hid (HX.out.kept.trans (Kept.of docT hb3))
          have HR3 := Lib.hid ((Kept.of docT hb3).heap HX.out.hR (by decide))
          have HP3 := Lib.hid ((Kept.of docT hb3).heap HX.out.hP (by decide))
          have HRl3 := Lib.hid (show R < w3.heap.size from (Array.getElem?_eq_some_iff.1 HR3.out).1)
          clear hb3 CE p0 p1 p2 p3 p4
          have C := Lib.hid (dnext B dd b q s σr d L c w3 HD3.out)
          go_wp2_with fail
          refine C.out.mono ?_
          rintro r w4 ⟨hok, hbad, hD4, hB4, hK4⟩
          by_cases he : (nextS (bl s) σr).err = 0
          · obtain ⟨x, rfl, v2, rfl, hrows, hfresh⟩ := hok he
            obtain ⟨ao2, n2, cap2, rfl⟩ := rows_form hrows
            have hsame2 := HSM.out.trans (next_taken HD3.out.pu.scn he m)
            have htook := next_took HD3.out.pu.scn he
            have hmea := next_mea HD3.out.pu.scn he
            have HMg := Lib.hid (show mea (bl s) (nextS (bl s) σr) (nextP (bl s) σr) < gk by
              rw [← HG.out]; unfold mea at hmea ⊢; rw [if_neg HKN.out]; omega)
            clear hmea
            generalize nextS (bl s) σr = σ4 at *
            generalize nextP (bl s) σr = Q4 at *
            have HP4 := Lib.hid (hK4.heap HP3.out (by decide))
            have hs5 := st5_onlyR w4 P (.int .i64 Q4.kind) (.string (str Q4.name)) (.slice ao2 n2 cap2) (.string (str Q4.text)) (.int .i64 Q4.at_)
            have HREL := Lib.hid (show ArRel B dd b q s d L c m R0 w P R (mea (bl s) σ4 Q4) (st5 w4 P (.int .i64 Q4.kind) (.string (str Q4.name)) (.slice ao2 n2 cap2) (.string (str Q4.text)) (.int .i64 Q4.at_)) from
              ⟨σ4, Q4, _, ⟨hD4.only hs5 HP4.out (by decide) (by have := HRP.out; have := HBw.out; omega), (HB3.out.trans hB4).trans (hs5.below (by have := HRP.out; have := HBw.out; omega) hD4.le), (HK3.out.trans hK4).new hs5 (by have := HRP.out; have := HRe.out; omega),
                st5_heap HP4.out _ _ _ _ _, (hs5.heap (hK4.heap HR3.out (by decide)) (by have := HRP.out; omega)), hrows.onlyOf hs5 HP4.out (by decide), fun g o n c hv => by have := hfresh g o n c hv; have := HRl3.out; omega, htook, hsame2⟩, rfl⟩)
            have r0 := Lib.cell_of_heap HP4.out 0
            have r1 := Lib.cell_of_heap HP4.out 1
            have r2 := Lib.cell_of_heap HP4.out 2
            have r3 := Lib.cell_of_heap HP4.out 3
            have r4 := Lib.cell_of_heap HP4.out 4
            have f0 := Lib.frozen_of_heap HP4.out 0
            have f1 := Lib.frozen_of_heap HP4.out 1
            have f2 := Lib.frozen_of_heap HP4.out 2
            have f3 := Lib.frozen_of_heap HP4.out 3
            have f4 := Lib.frozen_of_heap HP4.out 4
            simp only [List.getElem?_toArray, List.getElem?_cons_zero, List.getElem?_cons_succ] at r0 r1 r2 r3 r4
            clear hok hbad hD4 hB4 hK4 hrows hfresh hsame2 htook hs5 he C
            go_wp2
            go_roundg (mea (bl s) σ4 Q4)
            case measure => exact HMg.out
            case rel => exact HREL.out
          · have hr := hbad he
            subst hr
            have HE := Lib.hid (show R0 = .bad (nextS (bl s) σr).err (nextS (bl s) σr).wrg from HSM.out.trans (runAt_bad he m))
            exact ⟨rfl, .inl ⟨_, _, rfl, HE.out⟩, HB3.out.trans hB4, HK3.out.trans hK4⟩
        · have hnb : ¬ blankP p := fun h => ht h.2
          have CE : Calls Tryz.prog 50 #[.string (str p.text)] wr fun e w' => e = .returned (.bool false) ∧ Below wr.heap.size wr w' := CE.mono fun e w' ⟨h1, h2⟩ => ⟨by rw [h1, decide_eq_false ht], h2⟩
          have CE := Lib.hid CE
          clear ht hk4
          go_wp2_with fail
          refine CE.out.mono ?_
          rintro r w3 ⟨rfl, hb3⟩
          have HD2 := Lib.hid (HX.out.ds.step hb3)
          have HB2 := Lib.hid (HX.out.below.trans (hb3.mono HX.out.ds.le))
          have HK2 := Lib.hid (HX.out.kept.trans (Kept.of docT hb3))
          have HR2 := Lib.hid ((Kept.of docT hb3).heap HX.out.hR (by decide))
          have HP2 := Lib.hid ((Kept.of docT hb3).heap HX.out.hP (by decide))
          have HW2 := Lib.hid (HX.out.row.keptOf (Kept.of docT hb3) (by decide))
          clear hb3 CE p0 p1 p2 p3 p4
          have p0 := Lib.cell_of_heap HP2.out 0
          have p1 := Lib.cell_of_heap HP2.out 1
          have p2 := Lib.cell_of_heap HP2.out 2
          have p3 := Lib.cell_of_heap HP2.out 3
          have p4 := Lib.cell_of_heap HP2.out 4
          simp only [List.getElem?_toArray, List.getElem?_cons_zero, List.getElem?_cons_succ] at p0 p1 p2 p3 p4
          have r0 := Lib.cell_of_heap HR2.out 0
          have r1 := Lib.cell_of_heap HR2.out 1
          have r2 := Lib.cell_of_heap HR2.out 2
          have r3 := Lib.cell_of_heap HR2.out 3
          have r4 := Lib.cell_of_heap HR2.out 4
          have f0 := Lib.frozen_of_heap HR2.out 0
          have f1 := Lib.frozen_of_heap HR2.out 1
          have f2 := Lib.frozen_of_heap HR2.out 2
          have f3 := Lib.frozen_of_heap HR2.out 3
          have f4 := Lib.frozen_of_heap HR2.out 4
          simp only [List.getElem?_toArray, List.getElem?_cons_zero, List.getElem?_cons_succ] at r0 r1 r2 r3 r4
          go_wp2
          have hs5 := st5_onlyR w3 R (.int .i64 p.kind) (.string (str p.name)) (.slice ao n cap) (.string (str p.text)) (.int .i64 p.at_)
          refine bodyPost_ret (res_piece _ rfl _ R rfl _ _ _ _ _ _ 81 (0, 0) (st5_heap HR2.out _ _ _ _ _)) rfl ⟨.inr ⟨_, σr, p, rfl, ⟨_, rfl, ?_, ?_⟩, ?_, HX.out.took, hnb, HX.out.same⟩, ?_, ?_⟩
          · exact HW2.out.onlyOf hs5 HR2.out (by decide)
          · intro g o n' c' hv
            have := HX.out.fresh g o n' c' hv
            have := HRe.out
            omega
          · exact HD2.out.only hs5 HR2.out (by decide) HBw.out
          · exact HB2.out.trans (hs5.below HBw.out HD2.out.le)
          · exact HK2.out.new hs5 (by have := HRe.out; omega)
      · have q4 : (p.kind == 4) = false := by simp [hk4]
        have hnb : ¬ blankP p := fun h => hk4 h.1
        have HD2 := Lib.hid HX.out.ds
        have HB2 := Lib.hid HX.out.below
        have HK2 := Lib.hid HX.out.kept
        have HR2 := Lib.hid HX.out.hR
        have HW2 := Lib.hid HX.out.row
        clear hk4
        have r0 := Lib.cell_of_heap HR2.out 0
        have r1 := Lib.cell_of_heap HR2.out 1
        have r2 := Lib.cell_of_heap HR2.out 2
        have r3 := Lib.cell_of_heap HR2.out 3
        have r4 := Lib.cell_of_heap HR2.out 4
        have f0 := Lib.frozen_of_heap HR2.out 0
        have f1 := Lib.frozen_of_heap HR2.out 1
        have f2 := Lib.frozen_of_heap HR2.out 2
        have f3 := Lib.frozen_of_heap HR2.out 3
        have f4 := Lib.frozen_of_heap HR2.out 4
        simp only [List.getElem?_toArray, List.getElem?_cons_zero, List.getElem?_cons_succ] at r0 r1 r2 r3 r4
        go_wp2
        have hs5 := st5_onlyR wr R (.int .i64 p.kind) (.string (str p.name)) (.slice ao n cap) (.string (str p.text)) (.int .i64 p.at_)
        refine bodyPost_ret (res_piece _ rfl _ R rfl _ _ _ _ _ _ 81 (0, 0) (st5_heap HR2.out _ _ _ _ _)) rfl ⟨.inr ⟨_, σr, p, rfl, ⟨_, rfl, ?_, ?_⟩, ?_, HX.out.took, hnb, HX.out.same⟩, ?_, ?_⟩
        · exact HW2.out.onlyOf hs5 HR2.out (by decide)
        · intro g o n' c' hv
          have := HX.out.fresh g o n' c' hv
          have := HRe.out
          omega
        · exact HD2.out.only hs5 HR2.out (by decide) HBw.out
        · exact HB2.out.trans (hs5.below HBw.out HD2.out.le)
        · exact HK2.out.new hs5 (by have := HRe.out; omega)
  · have hr := hbad he
    subst hr
    have HE := Lib.hid (show R0 = .bad (nextS (bl s) σ).err (nextS (bl s) σ).wrg from HR0.out.trans (runAt_bad he m))
    exact ⟨rfl, .inl ⟨_, _, rfl, HE.out⟩, HB1.out, HK1.out⟩

end Go.Proofs.YtincdacickhdkaaGreatDoor

namespace Go.Proofs.YtincdacickhdkaaGreatDoor
open Go Go.RowKit Go.Shelf
set_option maxRecDepth 100000
attribute [local go_sem] Oper.semAt_some

/-- A telling as a value. -/
def tellV (t : Tell) : Value := .agg #[.string t.p, .string t.s, .int .i64 t.d]
/-- What has come when k rounds are over. -/
def backL (L : List Tell) (k : Nat) : List (Nat × Tell) := (List.range k).map fun j => (L.length - 1 - j, L[L.length - 1 - j]?.getD ⟨bNone, bNone, 0⟩)
theorem backL_succ (L : List Tell) (k : Nat) : backL L (k + 1) = backL L k ++ [(L.length - 1 - k, L[L.length - 1 - k]?.getD ⟨bNone, bNone, 0⟩)] := by simp [backL, List.range_succ]
theorem backL_len (L : List Tell) (k : Nat) : (backL L k).length = k := by simp [backL]
theorem backL_take (L : List Tell) {k : Nat} (hk : k ≤ L.length) : (backL L k).map Prod.snd = L.reverse.take k := by
  apply List.ext_getElem
  · simp [backL, hk]
  · intro i h1 h2
    have hi : i < k := by simp [backL] at h1; omega
    simp [backL, List.getElem_reverse, show L.length - 1 - i < L.length by omega]

set_option maxHeartbeats 2000000 in
theorem pback1 (n : Nat) (hn : 1 ≤ n) (l Bs n₀ k cap : Nat) (L : List Tell) (hlen : L.length ≤ 1000) (hb : k < n₀) (J Jx : List (Nat × Tell) → World → Prop)
    (hY : ∀ pre x W, J pre W → pre.length < L.length → YieldAt Fence.wide (n - 1) Tryz.prog l #[.int .i64 (x.1 : Int), tellV x.2] W fun e W' =>
      (e = .returned (.bool true) ∧ J (pre ++ [x]) W' ∧ Below n₀ W W') ∨ (e = .returned (.bool false) ∧ Jx (pre ++ [x]) W'))
    (W : World) (hBs : W.cell? ⟨Bs, 0, none⟩ = some (.slice (some ⟨k, 0, none⟩) L.length cap)) (hBl : Bs < n₀)
    (hc : ∀ j (h : j < L.length), W.cell? ⟨k, j * 3, none⟩ = some (.string (L[j]'h).p) ∧ W.cell? ⟨k, j * 3 + 1, none⟩ = some (.string (L[j]'h).s) ∧ W.cell? ⟨k, j * 3 + 2, none⟩ = some (.int .i64 (L[j]'h).d)) (h0 : J [] W) :
    CallsIn Fence.wide n Tryz.prog 138 #[.func (.yield l) #[] #[], .pointer (some ⟨Bs, 0, none⟩)] W fun e W' => (∃ v, e = .returned v) ∧
      ((∃ ys, ys.map Prod.snd = L.reverse ∧ J ys W') ∨ (∃ pre, pre.map Prod.snd <+: L.reverse ∧ Jx pre W')) := by
  refine callsIn_of_wp Tryz.func138 rfl trivial ?_ rfl
  simp only [Tryz.ntmps138, List.size_toArray, List.length_cons, List.length_nil, Nat.reduceAdd, Nat.reduceSub, Array.replicate_succ, Array.replicate_zero, List.push_toArray, List.append_toArray, List.nil_append, List.cons_append]
  gi_wp2
  gi_loopw [3] (fun i wr => ∃ j : Nat, j ≤ L.length ∧ i = .int .i64 ((L.length : Int) - 1 - j) ∧ J (backL L j) wr ∧ Below n₀ W wr)
    (fun i _ => (intOf i + 1).toNat)
  case atStart => exact ⟨0, Nat.zero_le _, by simp, h0, Below.refl _ _⟩
  case round =>
    obtain ⟨j, hj, rfl, hJs, hnx⟩ := hrel
    have hBs' := (hnx.cell (p := ⟨Bs, 0, none⟩) hBl).trans hBs
    by_cases hlt : j < L.length
    · obtain ⟨m, hm⟩ : ∃ m, m = L.length - 1 - j := ⟨_, rfl⟩
      have hml : m < L.length := by omega
      have hmi : (L.length : Int) - 1 - j = (m : Int) := by omega
      rw [hmi]
      obtain ⟨b0, b1, b2⟩ := hc m hml
      have c0 := (hnx.cell (p := ⟨k, m * 3, none⟩) hb).trans b0
      have c1 := (hnx.cell (p := ⟨k, m * 3 + 1, none⟩) hb).trans b1
      have c2 := (hnx.cell (p := ⟨k, m * 3 + 2, none⟩) hb).trans b2
      clear b0 b1 b2
      obtain ⟨t, ht⟩ : ∃ t, L[m]'hml = t := ⟨_, rfl⟩
      rw [ht] at c0 c1 c2
      have hx : (L.length - 1 - j, L[L.length - 1 - j]?.getD ⟨bNone, bNone, 0⟩) = (m, t) := by rw [← hm, List.getElem?_eq_getElem hml, ht]; rfl
      obtain ⟨fn, tmps, assign, body, hy, hR⟩ := hY _ (m, t) wr hJs (by rw [backL_len]; exact hlt)
      dsimp only [tellV] at hy
      have hL0 : (m : Int) < (L.length : Int) := by omega
      have HX := Lib.hid hx
      have HM := Lib.hid (show (m : Int) - 1 = (L.length : Int) - 1 - ((j + 1 : Nat) : Int) by omega)
      have hjl := Lib.hid (show j + 1 ≤ L.length by omega)
      have HN := Lib.hid hnx
      have HML := Lib.hid (show ((m : Int) - 1 + 1).toNat < ((m : Int) + 1).toNat by omega)
      clear hx hm hmi hc hBs h0 hY ht hnx hj hlt hml
      gi_wp2
      refine hR.mono ?_
      rintro e W3 (⟨rfl, hJ3, hk3⟩ | ⟨rfl, hJx3⟩)
      · gi_wp2
        go_roundw
        case rel => exact ⟨j + 1, hjl.out, by rw [HM.out], by rw [backL_succ, HX.out]; exact hJ3, HN.out.trans hk3⟩
        case measure => exact HML.out
      · gi_wp2
        refine bodyPost_ret (results_none rfl _ _ _) rfl ?_
        exact ⟨⟨_, rfl⟩, .inr ⟨backL L (j + 1), by rw [backL_take L hjl.out]; exact List.take_prefix _ _, by rw [backL_succ, HX.out]; exact hJx3⟩⟩
    · obtain rfl : j = L.length := by omega
      have he : (L.length : Int) - 1 - (L.length : Int) = -1 := by omega
      rw [he]
      gi_wp2
      go_end0
      exact ⟨⟨_, rfl⟩, .inl ⟨_, by rw [backL_take L (Nat.le_refl _), ← List.length_reverse, List.take_length], hJs⟩⟩

set_option maxHeartbeats 1000000 in
theorem pback (n : Nat) (a : Option Addr) (len cap : Nat) (w : World) :
    CallsIn Fence.wide n Tryz.prog 120 #[.slice a len cap] w fun e w' => e = .returned (.func (.func 138) #[] #[.pointer (some ⟨w.heap.size, 0, none⟩)]) ∧ w' = w.alloc (.cells #[.slice a len cap] 76) := by
  refine callsIn_of_wp Tryz.func120 rfl trivial ?_ rfl
  simp only [Tryz.ntmps120, List.size_toArray, List.length_cons, List.length_nil, Nat.reduceAdd, Nat.reduceSub, Array.replicate_succ, Array.replicate_zero, List.push_toArray, List.append_toArray, List.nil_append, List.cons_append]
  gi_wp2
  go_ret
  exact ⟨rfl, rfl⟩

theorem pback_stops (n : Nat) (hn : 1 ≤ n) (Bs n₀ k cap : Nat) (L : List Tell) (hlen : L.length ≤ 1000) (w : World) (hBs : Bs < n₀) (hk : k < n₀) (hn₀ : n₀ ≤ w.heap.size)
    (hcs : w.cell? ⟨Bs, 0, none⟩ = some (.slice (some ⟨k, 0, none⟩) L.length cap))
    (hc : ∀ j (h : j < L.length), w.cell? ⟨k, j * 3, none⟩ = some (.string (L[j]'h).p) ∧ w.cell? ⟨k, j * 3 + 1, none⟩ = some (.string (L[j]'h).s) ∧ w.cell? ⟨k, j * 3 + 2, none⟩ = some (.int .i64 (L[j]'h).d)) :
    SeqStopsK Fence.wide n Tryz.prog 138 #[.pointer (some ⟨Bs, 0, none⟩)] (fun x : Nat × Tell => #[Value.int .i64 (x.1 : Int), tellV x.2]) (Below n₀) (fun ys => ys.map Prod.snd = L.reverse) (fun pre => pre.map Prod.snd <+: L.reverse) L.length w :=
  fun l J Jx W hW _ _ hY h0 => by
    have hW' := hW.mono hn₀
    exact pback1 n hn l Bs n₀ k cap L hlen hk J Jx hY W ((hW'.cell (p := ⟨Bs, 0, none⟩) hBs).trans hcs) hBs
      (fun j hj => ⟨(hW'.cell (p := ⟨k, j * 3, none⟩) hk).trans (hc j hj).1, (hW'.cell (p := ⟨k, j * 3 + 1, none⟩) hk).trans (hc j hj).2.1, (hW'.cell (p := ⟨k, j * 3 + 2, none⟩) hk).trans (hc j hj).2.2⟩) h0

end Go.Proofs.YtincdacickhdkaaGreatDoor

namespace Go.Proofs.YtincdacickhdkaaGreatDoor
open Go Go.RowKit Go.Shelf
set_option maxRecDepth 100000
attribute [local go_sem] Oper.semAt_some

set_option maxHeartbeats 1000000 in
theorem pof_nil (p : ByteArray) (w : World) :
    Calls Tryz.prog 92 #[.pointer none, .string p] w fun r w' => r = .returned (.tuple #[.string ⟨#[]⟩, .bool false]) ∧ Below w.heap.size w w' := by
  go_enter Tryz.func92, Tryz.ntmps92
  go_wp2
  refine bodyPost_ret (v := .tuple #[.string ⟨#[]⟩, .bool false]) (by simp [results, Tryz.f92, go_sem]) rfl ?_
  exact ⟨rfl, (((Below.refl _ w).alloc (Nat.le_refl _) _).alloc (by simp) _).alloc (by simp; omega) _⟩

set_option maxHeartbeats 4000000 in
theorem pof0 (B b d : Nat) (L : List Tell) (p : ByteArray) (w : World) (hS : Sp B b d L w) (hlen : L.length ≤ 1000) (n : Nat) (hn : 4 ≤ n) :
    CallsIn Fence.wide n Tryz.prog 92 #[.pointer (some ⟨b, 0, none⟩), .string p] w fun r w' => r = .returned (.tuple #[.string ((ofT L p).getD bNone), .bool (ofT L p).isSome]) ∧ Below w.heap.size w w' := by
  have h1 : 1 ≤ n := by omega
  have hlt := hS.lt
  obtain ⟨hbase, k, cap, hb, ho⟩ := hS
  have c1 := Lib.cell_of_heap hb 1
  simp only [List.getElem?_toArray, List.getElem?_cons_zero, List.getElem?_cons_succ] at c1
  have hk : k < w.heap.size := (ho.lt k rfl).2
  have HO := Lib.hid ho
  have HB := Lib.hid hb
  have hB3 : Below w.heap.size w (((w.alloc (.cells #[.string p] 9)).alloc (.cells #[.string ⟨#[]⟩] 9)).alloc (.cells #[.bool false] 4)) := (((Below.refl _ w).alloc (Nat.le_refl _) _).alloc (by simp) _).alloc (by simp; omega) _
  have c3 := (hB3.cell (p := ⟨b, 1, none⟩) hlt).trans c1
  clear ho hb c1
  refine callsIn_of_wp_marks Tryz.func92 rfl trivial ?_ rfl
  simp only [Tryz.ntmps92, List.size_toArray, List.length_cons, List.length_nil, Nat.reduceAdd, Nat.reduceSub, Array.replicate_succ, Array.replicate_zero, List.push_toArray, List.append_toArray, List.nil_append, List.cons_append]
  gi_wp2
  refine ⟨trivial, ?_⟩
  refine (pback (n - 1) _ _ _ _).mono ?_
  rintro e w' ⟨rfl, rfl⟩
  gi_wp2
  have bP := ((Boxed.new w 9 (.string p)).alloc (.cells #[.string ⟨#[]⟩] 9)).alloc (.cells #[.bool false] 4)
  have bU := (Boxed.new (w.alloc (.cells #[.string p] 9)) 9 (.string ⟨#[]⟩)).alloc (.cells #[.bool false] 4)
  have bK := Boxed.new ((w.alloc (.cells #[.string p] 9)).alloc (.cells #[.string ⟨#[]⟩] 9)) 4 (.bool false)
  simp only [World.size_alloc] at bU bK
  have hs3 : (((w.alloc (.cells #[.string p] 9)).alloc (.cells #[.string ⟨#[]⟩] 9)).alloc (.cells #[.bool false] 4)).heap.size = w.heap.size + 3 := by simp
  obtain ⟨w3, hw3⟩ : ∃ w3, ((w.alloc (.cells #[.string p] 9)).alloc (.cells #[.string ⟨#[]⟩] 9)).alloc (.cells #[.bool false] 4) = w3 := ⟨_, rfl⟩
  rw [hw3] at bP bU bK hB3 hs3 ⊢
  clear hw3 c3
  have bS := Boxed.new w3 76 (.slice (some ⟨k, 0, none⟩) L.length cap)
  have eP := bP.alloc (.cells #[.slice (some ⟨k, 0, none⟩) L.length cap] 76)
  have eU := bU.alloc (.cells #[.slice (some ⟨k, 0, none⟩) L.length cap] 76)
  have eK := bK.alloc (.cells #[.slice (some ⟨k, 0, none⟩) L.length cap] 76)
  have hB4 : Below w.heap.size w (w3.alloc (.cells #[.slice (some ⟨k, 0, none⟩) L.length cap] 76)) := hB3.alloc (by omega) _
  have hs4 : (w3.alloc (.cells #[.slice (some ⟨k, 0, none⟩) L.length cap] 76)).heap.size = w.heap.size + 4 := by simp [hs3]
  rw [hs3] at bS
  obtain ⟨w4, hw4⟩ : ∃ w4, w3.alloc (.cells #[.slice (some ⟨k, 0, none⟩) L.length cap] 76) = w4 := ⟨_, rfl⟩
  rw [hw4] at eP eU eK bS hB4 hs4 ⊢
  clear hw4 hB3 hs3 bP bU bK
  have hcs : ∀ j (h : j < L.length), w4.cell? ⟨k, j * 3, none⟩ = some (.string (L[j]'h).p) ∧ w4.cell? ⟨k, j * 3 + 1, none⟩ = some (.string (L[j]'h).s) ∧ w4.cell? ⟨k, j * 3 + 2, none⟩ = some (.int .i64 (L[j]'h).d) := fun j h => by
    have c := row_cells HO.out j h
    exact ⟨(hB4.cell (p := ⟨k, j * 3, none⟩) hk).trans c.1, (hB4.cell (p := ⟨k, j * 3 + 1, none⟩) hk).trans c.2.1, (hB4.cell (p := ⟨k, j * 3 + 2, none⟩) hk).trans c.2.2⟩
  refine wpIn_rangeFunc_ownH rfl h1 (gf := 138) (lb := #[.pointer (some ⟨w.heap.size + 1 + 1 + 1, 0, none⟩)]) rfl trivial (enters_of Tryz.func138 (by kernel_rfl) rfl)
    (pback_stops (n - 1) (by omega) (w.heap.size + 1 + 1 + 1) (w.heap.size + 4) k cap L hlen w4 (by omega) (by omega) (by omega) bS.cell hcs) belowK_t (belowK_b (by omega)) (Below.refl _ _) (fun _ => rfl)
    (fun pre W => (((((∀ y ∈ pre, y.2.p ≠ p) ∧ Boxed W w.heap.size 9 (.string p)) ∧ Boxed W (w.heap.size + 1) 9 (.string ⟨#[]⟩)) ∧ Boxed W (w.heap.size + 1 + 1) 4 (.bool false)) ∧ Boxed W (w.heap.size + 1 + 1 + 1) 76 (.slice (some ⟨k, 0, none⟩) L.length cap)) ∧ Below w.heap.size w W)
    (fun c pre W => (c = .ret ∧ ∃ pre' x, pre = pre' ++ [x] ∧ (∀ y ∈ pre', y.2.p ≠ p) ∧ x.2.p = p ∧ Boxed W (w.heap.size + 1) 9 (.string x.2.s) ∧ Boxed W (w.heap.size + 1 + 1) 4 (.bool true)) ∧ Below w.heap.size w W)
    (OwnFrom.and (OwnFrom.and (OwnFrom.and (OwnFrom.and (OwnFrom.and (ownFrom_pure _ _) (Own.from (boxed_own _ _ _) _)) (Own.from (boxed_own _ _ _) _)) (Own.from (boxed_own _ _ _) _)) (Own.from (boxed_own _ _ _) _)) (ownFrom_below (Nat.le_refl _) (by omega)))
    (fun c => OwnFrom.and (Own.from (fun pre X Y row hs hg hr => by
      obtain ⟨hc, pre', x, e, h1, h2, h3, h4⟩ := hs
      exact ⟨hc, pre', x, e, h1, h2, boxed_own _ _ (fun (_ : Unit) => Value.string x.2.s) () X Y row h3 hg hr, boxed_own _ _ (fun (_ : Unit) => Value.bool true) () X Y row h4 hg hr⟩) _) (ownFrom_below (Nat.le_refl _) (by omega)))
    ⟨⟨⟨⟨⟨(by simp), eP⟩, eU⟩, eK⟩, bS⟩, hB4⟩
    (fun x a' W => ∃ Bx, w.heap.size + 1 + 1 < Bx ∧ W.heap[Bx]? = some (.cells #[.string x.2.p, .string x.2.s, .int .i64 x.2.d] 75 (0, 0)) ∧ a' = { tmps := #[.pointer (some ⟨b, 0, none⟩), .string p, undef, .pointer (some ⟨w.heap.size, 0, none⟩), .pointer (some ⟨w.heap.size + 1, 0, none⟩), .pointer (some ⟨w.heap.size + 1 + 1, 0, none⟩), undef, .pointer (some ⟨Bx, 0, none⟩), .pointer (some ⟨b, 0, none⟩), .bool false, .pointer (some ⟨b, 0, none⟩), .pointer (some ⟨b, 0, none⟩), .pointer (some ⟨b, 1, none⟩), .slice (some ⟨k, 0, none⟩) L.length cap, .func (.func 138) #[] #[.pointer (some ⟨w.heap.size + 1 + 1 + 1, 0, none⟩)], .int .i64 (x.1 : Int), tellV x.2, undef, undef, undef, undef, undef, undef], defers := [] })
    (fun x a' _ X Y row hs hg hr => by
      obtain ⟨Bx, h1, h2, h3⟩ := hs
      refine ⟨Bx, h1, (hg.block Bx (Array.getElem?_eq_some_iff.1 h2).1 (fun e' => ?_)).trans h2, h3⟩
      obtain ⟨_, o, ho, hc⟩ := hr Bx e'.symm
      rw [h2] at ho; cases ho; cases hc)
    ?assign ?body ?done ?stop
  case assign =>
    rintro l pre x W K ⟨⟨⟨⟨⟨hp, bP1⟩, bU1⟩, bK1⟩, bS1⟩, hB1⟩ hK
    dsimp only [tellV] at hK ⊢
    gi_wp2
    exact hK _ _ ((KeepsOthers.alloc _ _).from _) ((Below.refl _ W).alloc (by have := bS1.lt; omega) _) ⟨⟨⟨⟨⟨hp, bP1.alloc _⟩, bU1.alloc _⟩, bK1.alloc _⟩, bS1.alloc _⟩, hB1.alloc hB1.size _⟩ ⟨W.heap.size, bK1.lt, World.alloc_heap_new W _, rfl⟩
  case body =>
    rintro l pre x a' W hl ⟨r, hr⟩ ⟨⟨⟨⟨⟨hp, bP1⟩, bU1⟩, bK1⟩, bS1⟩, hB1⟩ ⟨Bx, hBx, bX, rfl⟩ hlt
    have cP := bP1.cell
    have x0 := Lib.cell_of_heap bX 0
    have x1 := Lib.cell_of_heap bX 1
    simp only [List.getElem?_toArray, List.getElem?_cons_zero, List.getElem?_cons_succ] at x0 x1
    have cU := bU1.cell
    have fU := bU1.frozen
    have cK := (bK1.other (B' := w.heap.size + 1) (by omega) (.string x.2.s)).cell
    have fK := (bK1.other (B' := w.heap.size + 1) (by omega) (.string x.2.s)).frozen
    dsimp only [tellV]
    gi_wp2
    · rename_i hx
      have hx' : x.2.p = p := tl_inj (by simpa using hx)
      refine ⟨((KeepsOthers.setCell _ _ _).trans (KeepsOthers.setCell _ _ _)).from _, ⟨rfl, pre, x, rfl, hp, hx', ?_, ?_⟩, (hB1.setCell (p := ⟨w.heap.size + 1, 0, none⟩) (by simp) _).setCell (p := ⟨w.heap.size + 1 + 1, 0, none⟩) (by simp; omega) _⟩
      · exact (bU1.set _).other (by omega) _
      · exact (bK1.other (by omega) _).set _
    · rename_i hx
      have hx' : x.2.p ≠ p := fun e => by rw [e] at hx; simp at hx
      exact ⟨KeepsFrom.refl _ _, Below.refl _ _, ⟨⟨⟨⟨fun y hy => (List.mem_append.1 hy).elim (hp y) (fun e => by simp at e; subst e; exact hx'), bP1⟩, bU1⟩, bK1⟩, bS1⟩, hB1⟩
  case done =>
    rintro D ys W hD hys ⟨⟨⟨⟨⟨hp, bP1⟩, bU1⟩, bK1⟩, bS1⟩, hB1⟩ hK
    have cU := bU1.cell
    have fU := bU1.frozen
    have cK := (bK1.other (B' := w.heap.size + 1) (by omega) (.string ⟨#[]⟩)).cell
    have fK := (bK1.other (B' := w.heap.size + 1) (by omega) (.string ⟨#[]⟩)).frozen
    have bU2 := (bU1.set (.string ⟨#[]⟩)).other (B' := w.heap.size + 1 + 1) (by omega) (.bool false)
    have bK2 := (bK1.other (B' := w.heap.size + 1) (by omega) (.string ⟨#[]⟩)).set (.bool false)
    have hK2 := ((KeepsOthers.setCell W ⟨w.heap.size + 1, 0, none⟩ (.string ⟨#[]⟩)).trans (KeepsOthers.setCell _ ⟨w.heap.size + 1 + 1, 0, none⟩ (.bool false))).same D _ hK rfl
    have hB2 := (hB1.setCell (p := ⟨w.heap.size + 1, 0, none⟩) (by simp) (.string ⟨#[]⟩)).setCell (p := ⟨w.heap.size + 1 + 1, 0, none⟩) (by simp; omega) (.bool false)
    have hno : ofT L p = none := by
      unfold ofT
      rw [← hys, List.find?_eq_none.2 (fun t ht => ?_)]
      · rfl
      · obtain ⟨y, hy, rfl⟩ := List.mem_map.1 ht
        simpa using hp y hy
    gi_wp2
    refine ⟨by simp, .inl ⟨_, _, rfl, run_takeDeferred hK2, ?_⟩⟩
    have r1 := cell_kept bU2.cell (grownBy_putObj' _ D (.deferred none)) (fun r e => by cases e; exact ⟨_, hK2, rfl⟩)
    have r2 := cell_kept bK2.cell (grownBy_putObj' _ D (.deferred none)) (fun r e => by cases e; exact ⟨_, hK2, rfl⟩)
    refine ⟨.tuple #[.string ⟨#[]⟩, .bool false], ?_, by rw [hno]; rfl, hB2.trans (belowK_b (w := w) (Nat.le_refl _) _ D _ _ (by omega) hK2 rfl rfl)⟩
    simp [results, Tryz.f92, go_sem, r1, r2]
  case stop =>
    rintro D c pre W hD hpre ⟨⟨rfl, pre', x, rfl, hp, hx, bU1, bK1⟩, hB1⟩ hK
    have hyes : ofT L p = some x.2.s := by
      obtain ⟨post, hpost⟩ := hpre
      unfold ofT
      rw [← hpost, List.map_append, List.append_assoc, List.find?_append, List.find?_eq_none.2 (fun t ht => ?_)]
      · simp [hx]
      · obtain ⟨y, hy, rfl⟩ := List.mem_map.1 ht
        simpa using hp y hy
    gi_wp2
    refine ⟨by simp, .inl ⟨_, _, rfl, run_takeDeferred hK, ?_⟩⟩
    have r1 := cell_kept bU1.cell (grownBy_putObj' _ D (.deferred none)) (fun r e => by cases e; exact ⟨_, hK, rfl⟩)
    have r2 := cell_kept bK1.cell (grownBy_putObj' _ D (.deferred none)) (fun r e => by cases e; exact ⟨_, hK, rfl⟩)
    refine ⟨.tuple #[.string x.2.s, .bool true], ?_, by rw [hyes]; rfl, hB1.trans (belowK_b (w := w) (Nat.le_refl _) _ D _ _ (by omega) hK rfl rfl)⟩
    simp [results, Tryz.f92, go_sem, r1, r2]

/-- **(*Spaces).Of.** -/
theorem pof (B b d : Nat) (L : List Tell) (p : ByteArray) (w : World) (hS : Sp B b d L w) (hlen : L.length ≤ 1000) :
    Calls Tryz.prog 92 #[.pointer (some ⟨b, 0, none⟩), .string p] w fun r w' => r = .returned (.tuple #[.string ((ofT L p).getD bNone), .bool (ofT L p).isSome]) ∧ Below w.heap.size w w' :=
  callsIn_wide.1 (pof0 B b d L p w hS hlen 10 (by decide))

end Go.Proofs.YtincdacickhdkaaGreatDoor

namespace Go.Proofs.YtincdacickhdkaaGreatDoor
open Go Go.RowKit
set_option maxRecDepth 100000

set_option maxHeartbeats 2000000 in
theorem pname0 (b : Nat) (s : ByteArray) (w : World) (C : ByteArray × ByteArray × Bool) (O : Option ByteArray) (Z : ByteArray × ByteArray × Bool)
    (C1 : Hid (Calls Tryz.prog 91 #[.string s] w fun e w' => e = .returned (.tuple #[.string C.1, .string C.2.1, .bool C.2.2]) ∧ Below w.heap.size w w'))
    (C2 : Hid (∀ w', Below w.heap.size w w' → Calls Tryz.prog 92 #[.pointer (some ⟨b, 0, none⟩), .string C.1] w' fun r w'' => r = .returned (.tuple #[.string (O.getD bNone), .bool O.isSome]) ∧ Below w'.heap.size w' w''))
    (HZ : Hid (Z = nameZ C O)) :
    Calls Tryz.prog 70 #[.pointer (some ⟨b, 0, none⟩), .string s] w fun r w' => r = .returned (.tuple #[.string Z.1, .string Z.2.1, .bool Z.2.2]) ∧ Below w.heap.size w w' := by
  obtain ⟨P, R, N⟩ := C
  simp only at C1 C2 HZ
  cases N with
  | false =>
    have hZ := HZ.out
    unfold nameZ at hZ
    rw [if_pos rfl] at hZ
    subst hZ
    clear C2 HZ
    go_enter Tryz.func70, Tryz.ntmps70
    go_wp2_with (go_at_call 91; refine C1.out.mono ?_; rintro e w' ⟨rfl, hb⟩)
    go_ret3
    exact ⟨rfl, hb⟩
  | true =>
    have hZ := HZ.out
    unfold nameZ at hZ
    rw [if_neg (fun h => by cases h)] at hZ
    clear HZ
    cases O with
    | none =>
      simp only at hZ
      subst hZ
      go_enter Tryz.func70, Tryz.ntmps70
      go_wp2_with fail
      refine C1.out.mono ?_
      rintro r w1 ⟨rfl, hb⟩
      have C3 := Lib.hid (C2.out w1 hb)
      simp only [Option.getD_none, Option.isSome_none] at C3
      clear C1 C2
      go_wp2_with fail
      refine C3.out.mono ?_
      rintro r w2 ⟨rfl, hb2⟩
      go_wp2
      go_ret3
      exact ⟨rfl, hb.trans (hb2.mono hb.size)⟩
    | some u =>
      simp only at hZ
      subst hZ
      go_enter Tryz.func70, Tryz.ntmps70
      go_wp2_with fail
      refine C1.out.mono ?_
      rintro r w1 ⟨rfl, hb⟩
      have C3 := Lib.hid (C2.out w1 hb)
      simp only [Option.getD_some, Option.isSome_some] at C3
      clear C1 C2
      go_wp2_with fail
      refine C3.out.mono ?_
      rintro r w2 ⟨rfl, hb2⟩
      go_wp2
      go_ret3
      exact ⟨rfl, hb.trans (hb2.mono hb.size)⟩
/-- **(*Spaces).Name.** -/
theorem pname (B b d : Nat) (L : List Tell) (s : ByteArray) (w : World) (hS : Sp B b d L w) (hlen : L.length ≤ 1000) (hs : s.size < 4294967281) (hT : Tabs w) (hM : MaxL w) :
    Calls Tryz.prog 70 #[.pointer (some ⟨b, 0, none⟩), .string s] w fun r w' => r = .returned (.tuple #[.string (nameSp L s).1, .string (nameSp L s).2.1, .bool (nameSp L s).2.2]) ∧ Below w.heap.size w w' :=
  pname0 b s w (str (splitL (bl s)).1, str (splitL (bl s)).2.1, (splitL (bl s)).2.2) (ofT L (str (splitL (bl s)).1)) _ (Lib.hid (csplit s w hs hT hM))
    (Lib.hid fun w' h => pof B b d L _ w' (hS.step h) hlen) (Lib.hid rfl)

/-! ### awake -/
def bP : ByteArray := ⟨#[112]⟩
def bU : ByteArray := ⟨#[117]⟩
def bXmlnsP : ByteArray := ⟨#[120, 109, 108, 110, 115, 58, 112]⟩
theorem awake_enter : enterL 1 [(bXmlnsP, bU), (⟨#[98]⟩, ⟨#[99]⟩)] [] tells0 = ([(⟨#[98]⟩, ⟨#[99]⟩)], 0, tells0 ++ [⟨bP, bU, 1⟩]) := by kernel_rfl
theorem awake_name : nameSp (tells0 ++ [⟨bP, bU, 1⟩]) ⟨#[112, 58, 97]⟩ = (⟨#[117]⟩, ⟨#[97]⟩, true) := by kernel_rfl
end Go.Proofs.YtincdacickhdkaaGreatDoor
