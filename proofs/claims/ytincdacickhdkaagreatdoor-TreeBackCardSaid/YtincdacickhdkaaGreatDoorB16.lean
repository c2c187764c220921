/-
  The walk of (*document).begun.
  strings.Builder's WriteString and String, with a frame by types: what is no Builder, and no row of bytes, lies as it lay.
-/
import Derived.Test.YtincdacickhdkaaGreatDoorB15
import Derived.Deep.RegionWith
import Derived.StillTailTactics
import Derived.BigQuiet
import Derived.Test.YtincdacickhdkaaGreatDoorB8
import Derived.Test.YtincdacickhdkaaGreatDoorB14
namespace Go.Proofs.YtincdacickhdkaaGreatDoor
open Go Go.RowKit
set_option maxRecDepth 100000

/-! ### blocks that elements are made of -/
/-- A block of attributes or of elements, from Q on, other than row. -/
def NB (Q : Nat) (row : Option Nat) (w : World) (g : Nat) : Prop := Q ≤ g ∧ row ≠ some g ∧ ∃ cs t z, w.heap[g]? = some (.cells cs t z) ∧ (t = 48 ∨ t = 25)
theorem NB.kept {Q : Nat} {row : Option Nat} {w w' : World} {g : Nat} (h : NB Q row w g) {ts : List TypeId} (hk : Kept ts w w') (h1 : 48 ∉ ts) (h2 : 25 ∉ ts) : NB Q row w' g ∧ w'.heap[g]? = w.heap[g]? := by
  obtain ⟨h0, hr, cs, t, z, hg, ht⟩ := h
  have e : w'.heap[g]? = some (.cells cs t z) := hk.heap hg (by rcases ht with rfl | rfl; exact h1; exact h2)
  exact ⟨⟨h0, hr, cs, t, z, e, ht⟩, e.trans hg.symm⟩
theorem NodeV.kept {Q : Nat} {row : Option Nat} {w w' : World} {v : Value} {x : Nd} (h : NodeV (NB Q row w) w v x) {ts : List TypeId} (hk : Kept ts w w') (h1 : 48 ∉ ts) (h2 : 25 ∉ ts) : NodeV (NB Q row w') w' v x :=
  h.to hk.size fun _ hp _ => hp.kept hk h1 h2
theorem AttV.kept {Q : Nat} {row : Option Nat} {w w' : World} {v : Value} {A : List Att} (h : AttV (NB Q row w) w v A) {ts : List TypeId} (hk : Kept ts w w') (h1 : 48 ∉ ts) (h2 : 25 ∉ ts) : AttV (NB Q row w') w' v A :=
  h.to hk.size fun _ hp _ => hp.kept hk h1 h2
theorem own_attv {w : World} {base Q : Nat} {v : Value} {A : List Att} (h : w.ownsRow base 48 2 v A.length (cellsA A)) (hQ : Q ≤ base) : AttV (NB Q none w) w v A := by
  rcases h.2 with ⟨rfl, h0⟩ | ⟨g, cap, cur, rfl, hb, hg, _⟩
  · exact ⟨none, 0, by rw [h0], fun h => absurd h (by omega)⟩
  · refine ⟨_, cap, rfl, fun _ => ⟨g, 0, rfl, ⟨by omega, by simp, cur, _, _, hg, .inl rfl⟩, (Array.getElem?_eq_some_iff.1 hg).1, fun j hj => ?_⟩⟩
    rw [Nat.zero_add]
    exact row_cellsA h j hj
theorem rows_atts {b : Nat} {w : World} {g n cap : Nat} {A : List (List UInt8 × List UInt8)} (h : RowsB b w (.slice (some ⟨g, 0, none⟩) n cap) A) (hn : A.length = n) : AttrsAt w g (toAtt A) := by
  obtain ⟨hr, ht⟩ := h
  obtain ⟨_, cs, z, hg⟩ := ht g 0 n cap rfl
  refine ⟨cs, z, hg, fun j hj => ?_⟩
  rcases hr with ⟨_, hv⟩ | ⟨g', cap', hv, _, hc⟩
  · cases hv
  · injection hv with h1 h2 h3
    injection h1 with h1
    injection h1 with h1
    subst h1
    have hl : (toAtt A).length = A.length := by unfold toAtt; simp
    have hj2 : j / 2 < A.length := by rw [hl] at hj; omega
    have hget : (toAtt A)[j / 2]'(by rw [hl]; exact hj2) = (str (A[j / 2]'hj2).1, str (A[j / 2]'hj2).2) := by unfold toAtt; simp
    have hcc := hc (j / 2) hj2
    have hx := cellsA_get (toAtt A) (j / 2) (by rw [hl]; exact hj2)
    have hz := hx (j % 2) (by omega)
    rw [show j / 2 * 2 + j % 2 = j by omega] at hz
    rw [hz, hget]
    have hcell : ∀ o, w.cell? ⟨g, o, none⟩ = cs[o]? := fun o => Lib.cell_of_heap hg o
    rcases Nat.mod_two_eq_zero_or_one j with h0 | h0
    · rw [h0]
      rw [← hcell j]
      have := hcc.1
      rw [show j / 2 * 2 = j by omega] at this
      exact this
    · rw [h0]
      rw [← hcell j]
      have := hcc.2
      rw [show j / 2 * 2 + 1 = j by omega] at this
      exact this

/-! ### Enter of no attributes -/
set_option maxHeartbeats 1000000 in
theorem penter_none (B b d : Nat) (L : List Tell) (w : World) (hS : Sp B b d L w) (hd : d ≤ 100000) :
    Calls Tryz.prog 69 #[.pointer (some ⟨b, 0, none⟩), .slice none 0 0] w (EnterGives B b (d + 1) w ([], 0, L)) := by
  have hE : ∀ w1, w1 = w.setCell ⟨b, 0, none⟩ (.int .i64 ((d : Int) + 1)) → EnterGives B b (d + 1) w ([], 0, L) (.returned (.tuple #[.slice none 0 0, .int .i64 0])) w1 := by
    rintro w1 rfl
    obtain ⟨hbase, k, cap', hb, ho⟩ := hS
    have hbk : b ≠ k := own_block_ne ho hb (by decide)
    exact ⟨_, rfl, World.ownsRow_nil _ _ _ _, ⟨hbase, k, cap', heap_put _ hb, ownsRow_setCell_other ho (a := ⟨b, 0, none⟩) (by intro e; exact hbk (by cases e; rfl)) _⟩, (Below.refl B w).setCell (p := ⟨b, 0, none⟩) hbase _, Apart.set hb (.inr rfl) _ _⟩
  obtain ⟨_, k, cap', hb, ho⟩ := hS
  have c0 := Lib.cell_of_heap hb 0
  have f0 := Lib.frozen_of_heap hb 0
  simp only [List.getElem?_toArray, List.getElem?_cons_zero] at c0
  have hdi : (d : Int) ≤ 100000 := by omega
  have HE := Lib.hid (hE _ rfl)
  clear hE hb ho
  go_enter Tryz.func69, Tryz.ntmps69
  go_wp2
  generalize w.setCell ⟨b, 0, none⟩ (.int .i64 ((d : Int) + 1)) = w1 at HE ⊢
  go_loopg [6, 23] 0 (fun gh rest cnt wr => gh = 0 ∧ rest = .slice none 0 0 ∧ cnt = .int .i64 0 ∧ wr = w1)
  case atStart => exact ⟨rfl, rfl, rfl, rfl⟩
  case round =>
    obtain ⟨hgh, rfl, rfl, rfl⟩ := hrel
    go_wp2
    go_ret2
    exact HE.out

theorem own_form {w : World} {base : Nat} {e : TypeId} {z n : Nat} {v : Value} {xs : List Value} (h : w.ownsRow base e z v n xs) : ∃ az cz, v = .slice az n cz := by
  rcases h.2 with ⟨hv, h0⟩ | ⟨_, _, _, hv, _⟩
  · exact ⟨_, _, by rw [hv, h0]⟩
  · exact ⟨_, _, hv⟩
theorem own_some {w : World} {base : Nat} {e : TypeId} {z n cz : Nat} {az : Option Addr} {xs : List Value} (h : w.ownsRow base e z (.slice az n cz) n xs) (hn : 0 < n) : ∃ g, az = some ⟨g, 0, none⟩ ∧ g < w.heap.size := by
  rcases h.2 with ⟨hv, h0⟩ | ⟨g, _, _, hv, _, hg, _⟩
  · omega
  · injection hv with h1 h2 h3
    exact ⟨g, h1, (Array.getElem?_eq_some_iff.1 hg).1⟩
theorem Pu.enter {D : List UInt8} {σ : St} {d : Nat} {L : List Tell} {c : Nat} (h : Pu D σ d L c) (hd : d < 32) {A : List Att} (hz : (enterL (d + 1) A [] L).2.1 = 0) : Pu D σ (d + 1) (enterL (d + 1) A [] L).2.2 c := by
  obtain ⟨N, e, hN, hl⟩ := enterL_known (d + 1) A [] L hz
  refine ⟨h.scn, h.small, fun t ht => ?_, ?_, h.cnt, hd⟩
  · rw [e] at ht
    rcases List.mem_append.1 ht with ht | ht
    · have := h.dep t ht; omega
    · rw [hN t ht]; exact Nat.le_refl _
  · rw [e]; exact hl h.few
/-- A way through a drawn region that a callee's panic has ended: nothing is left of it. -/
theorem ends_any {G : Prop} (h : G) (w : World) (_k : wpAny Tryz.prog .any #[] (fun _ _ _ => True) 0 #[] ⟨#[], []⟩ w) : G := h
theorem penter_rows (B b q d : Nat) (L : List Tell) (A : List (List UInt8 × List UInt8)) (v : Value) (w : World) (hS : Sp B q d L w) (hd : d ≤ 100000) (hR : RowsB b w v A) (hA : A.length ≤ 1000) :
    Calls Tryz.prog 69 #[.pointer (some ⟨q, 0, none⟩), v] w (EnterGives B q (d + 1) w (enterL (d + 1) (toAtt A) [] L)) := by
  rcases hR.1 with ⟨rfl, rfl⟩ | ⟨g, cap, rfl, _⟩
  · exact penter_none B q d L w hS hd
  · have hl : (toAtt A).length = A.length := by unfold toAtt; simp
    have h := penter B q d g cap (toAtt A) L w hS hd (rows_atts hR rfl) (by omega)
    rw [hl] at h
    exact h

theorem res_node (fn : Func) (k : Nat) (hr : fn.results = #[.cell k 25]) (tmps : Array Value) (R : Nat) (ht : tmps.getD k undef = .pointer (some ⟨R, 0, none⟩)) (x0 x1 x2 x3 x4 : Value) (W : World) (t : TypeId) (z : Nat × Nat) (h : W.heap[R]? = some (.cells #[x0, x1, x2, x3, x4] t z)) :
    (results fn tmps).run Tryz.prog W = .ok (.agg #[x0, x1, x2, x3, x4]) W := by
  have e0 : W.cell? ⟨R, 0, none⟩ = some x0 := by rw [Lib.cell_of_heap h]; rfl
  have e1 : W.cell? ⟨R, 1, none⟩ = some x1 := by rw [Lib.cell_of_heap h]; rfl
  have e2 : W.cell? ⟨R, 2, none⟩ = some x2 := by rw [Lib.cell_of_heap h]; rfl
  have e3 : W.cell? ⟨R, 3, none⟩ = some x3 := by rw [Lib.cell_of_heap h]; rfl
  have e4 : W.cell? ⟨R, 4, none⟩ = some x4 := by rw [Lib.cell_of_heap h]; rfl
  rw [Array.getD_eq_getD_getElem?] at ht
  simp [results, hr, ht, go_sem, e0, e1, e2, e3, e4]

/-! ### begun -/
theorem DS.count {B dd b q d c : Nat} {s : ByteArray} {σ : St} {L : List Tell} {w : World} (h : DS B dd b q s σ d L c w) (hc : c < 2000) : DS B dd b q s σ d L (c + 1) (w.setCell ⟨dd, 2, none⟩ (.int .i64 ((c : Int) + 1))) := by
  have ho := Only.set dd 2 w (.int .i64 ((c : Int) + 1))
  have hne := h.ne
  refine ⟨⟨h.sc.base, h.sc.len, h.sc.pos, h.sc.glob.step (ho.below h.base h.le), ho.heap h.sc.heap (fun e => hne.1 e.symm)⟩, h.sp.only ho h.heap (by decide) (by decide), h.base, ?_, h.pu.scn, h.pu.small, h.pu.dep, h.pu.few, by omega, h.pu.lim⟩
  rw [heap_set _ h.heap]; rfl
/-- It is within an element more, or less. -/
theorem DS.space {B dd b q d d' c : Nat} {s : ByteArray} {σ : St} {L L' : List Tell} {w w' : World} (h : DS B dd b q s σ d L c w) (hS : Sp B q d' L' w') (hB : Below B w w') (hK : Kept [75, 78] w w') (hp : Pu (bl s) σ d' L' c) : DS B dd b q s σ d' L' c w' :=
  ⟨⟨h.sc.base, h.sc.len, h.sc.pos, h.sc.glob.step hB, hK.heap h.sc.heap (by decide)⟩, hS, h.base, hK.heap h.heap (by decide), hp⟩
theorem enterR_ok {p : Pc} {d : Nat} {L : List Tell} {c : Nat} {E : Fr × List Tell} (h : enterR p d L c = .ok E) :
    c < 2000 ∧ d < 32 ∧ (enterL (d + 1) (toAtt p.attrs) [] L).2.1 = 0 ∧ E.2 = (enterL (d + 1) (toAtt p.attrs) [] L).2.2 ∧ E.1.L = L ∧ E.1.K = [] ∧ E.1.tx = [] ∧ E.1.tag = p.name ∧ E.1.at_ = p.at_ := by
  unfold enterR at h
  split at h
  · split at h
    · unfold enterC at h
      split at h
      · split at h
        · split at h
          · rename_i h1 h2 h3 h4 h5
            cases h
            exact ⟨h1, h2, h3, rfl, rfl, rfl, rfl, rfl, rfl⟩
          · cases h
        · cases h
      · cases h
    · cases h
  · cases h
theorem kept_of_enter {B q d : Nat} {w : World} {Z : List Att × Int × List Tell} {r : Ending} {w' : World} (h : EnterGives B q d w Z r w') : Kept docT w w' := by
  obtain ⟨_, _, _, _, _, h⟩ := h; exact Kept.doc h
/-- What begun leaves. -/
def BeGives (B dd b q : Nat) (s : ByteArray) (σ : St) (d : Nat) (L : List Tell) (c : Nat) (p : Pc) (w : World) (r : Ending) (w' : World) : Prop :=
  ((∃ e a, r = dies e a ∧ enterR p d L c = .bad e a) ∨
    ∃ F L' va, r = .returned (.agg #[.string F.sp, .string F.nm, va, .slice none 0 0, .string ⟨#[]⟩]) ∧ enterR p d L c = .ok (F, L') ∧ AttV (NB w.heap.size none w') w' va F.A ∧ DS B dd b q s σ (d + 1) L' (c + 1) w') ∧
  Below B w w' ∧ Kept docT w w'
set_option maxHeartbeats 8000000 in
theorem dbegun (B dd b q : Nat) (s : ByteArray) (σ : St) (d : Nat) (L : List Tell) (c : Nat) (p : Pc) (v : Value) (w : World) (h : DS B dd b q s σ d L c w) (hR : RowsB b w v p.attrs) (hp : PcOk (bl s).length p) :
    Calls Tryz.prog 51 #[.pointer (some ⟨dd, 0, none⟩), .agg #[.int .i64 p.kind, .string (str p.name), v, .string (str p.text), .int .i64 p.at_]] w (BeGives B dd b q s σ d L c p w) := by
  obtain ⟨ao, n, cap, rfl⟩ := rows_form hR
  have hA1 := (Below.refl w.heap.size w).alloc (Nat.le_refl _) (.cells #[.int .i64 p.kind, .string (str p.name), .slice ao n cap, .string (str p.text), .int .i64 p.at_] 81)
  have hA2 := (Below.refl (w.alloc (.cells #[.int .i64 p.kind, .string (str p.name), .slice ao n cap, .string (str p.text), .int .i64 p.at_] 81)).heap.size _).alloc (Nat.le_refl _) (.cells #[.string ⟨#[]⟩, .string ⟨#[]⟩, .slice none 0 0, .slice none 0 0, .string ⟨#[]⟩] 25)
  have HD := Lib.hid ((h.step hA1).step hA2)
  have HA := Lib.hid (hA1.trans (hA2.mono hA1.size))
  have HB := Lib.hid (HA.out.mono h.le)
  have HK := Lib.hid ((Kept.of docT HA.out))
  have HP := Lib.hid ((Kept.of docT hA2).heap (heap_alloc_new w (.cells #[.int .i64 p.kind, .string (str p.name), .slice ao n cap, .string (str p.text), .int .i64 p.at_] 81)) (by decide))
  have hRn := heap_alloc_new (w.alloc (.cells #[.int .i64 p.kind, .string (str p.name), .slice ao n cap, .string (str p.text), .int .i64 p.at_] 81)) (.cells #[.string ⟨#[]⟩, .string ⟨#[]⟩, .slice none 0 0, .slice none 0 0, .string ⟨#[]⟩] 25)
  rw [World.size_alloc] at hRn
  have HN := Lib.hid hRn
  have HW := Lib.hid (hR.keptOf HK.out (by decide))
  have HBw := Lib.hid h.le
  have HPk := Lib.hid hp
  have hc := h.pu.cnt
  have hdl := h.pu.lim
  clear h hR hp hA1 hA2 hRn
  have d2 := Lib.cell_of_heap HD.out.heap 2
  have d1 := Lib.cell_of_heap HD.out.heap 1
  have fz2 := Lib.frozen_of_heap HD.out.heap 2
  have p0 := Lib.cell_of_heap HP.out 0
  have p1 := Lib.cell_of_heap HP.out 1
  have p2 := Lib.cell_of_heap HP.out 2
  have p4 := Lib.cell_of_heap HP.out 4
  simp only [List.getElem?_toArray, List.getElem?_cons_zero, List.getElem?_cons_succ] at d1 d2 p0 p1 p2 p4
  have hci : (c : Int) ≤ 2000 := by omega
  have hsz := Lib.hid (show w.heap.size + 2 = ((w.alloc (.cells #[.int .i64 p.kind, .string (str p.name), .slice ao n cap, .string (str p.text), .int .i64 p.at_] 81)).alloc (.cells #[.string ⟨#[]⟩, .string ⟨#[]⟩, .slice none 0 0, .slice none 0 0, .string ⟨#[]⟩] 25)).heap.size by simp)
  go_enter Tryz.func51, Tryz.ntmps51
  go_wp2
  obtain ⟨R, hRe⟩ : ∃ R, w.heap.size = R := ⟨_, rfl⟩
  rw [hRe] at HP HN HBw p0 p1 p2 p4 hsz ⊢
  have HRe := Lib.hid hRe
  clear hRe
  generalize (w.alloc (.cells #[.int .i64 p.kind, .string (str p.name), .slice ao n cap, .string (str p.text), .int .i64 p.at_] 81)).alloc (.cells #[.string ⟨#[]⟩, .string ⟨#[]⟩, .slice none 0 0, .slice none 0 0, .string ⟨#[]⟩] 25) = W0 at HD HA HB HK HP HN HW hsz d1 d2 fz2 p0 p1 p2 p4 ⊢
  have hR2 := hsz.out
  have hddR : dd ≠ R ∧ dd ≠ R + 1 := by
    have h0 := HD.out.heap
    refine ⟨fun e => ?_, fun e => ?_⟩
    · rw [e, HP.out] at h0; cases h0
    · rw [e, HN.out] at h0; cases h0
  have hs := Only.set dd 2 W0 (.int .i64 ((c : Int) + 1))
  have HB1 := Lib.hid (HB.out.trans (hs.below HD.out.base HD.out.le))
  have HK1 := Lib.hid (HK.out.trans (Kept.set HD.out.heap (by decide) 2 (.int .i64 ((c : Int) + 1))))
  have HP1 := Lib.hid (hs.heap HP.out (by have := hddR.1; omega))
  have HN1 := Lib.hid (hs.heap HN.out (by have := hddR.2; omega))
  have HW1 := Lib.hid (HW.out.onlyOf hs HD.out.heap (by decide))
  have HC1 := Lib.hid (fun h : c < 2000 => HD.out.count h)
  have HH1 := Lib.hid (heap_set (o := 2) (.int .i64 ((c : Int) + 1)) HD.out.heap)
  have HZ1 := Lib.hid (show R + 2 ≤ (W0.setCell ⟨dd, 2, none⟩ (.int .i64 ((c : Int) + 1))).heap.size by have := hs.size; omega)
  clear hs hR2 d1 d2 fz2 p0 p1 p2 p4 HD HA HB HK HP HN HW hsz
  generalize W0.setCell ⟨dd, 2, none⟩ (.int .i64 ((c : Int) + 1)) = w1 at HB1 HK1 HP1 HN1 HW1 HC1 HH1 HZ1 ⊢
  have d2 := Lib.cell_of_heap HH1.out 2
  have p4 := Lib.cell_of_heap HP1.out 4
  simp at d2
  simp only [List.getElem?_toArray, List.getElem?_cons_zero, List.getElem?_cons_succ] at p4
  by_cases hc2 : c < 2000
  rotate_left
  · have HE : Hid (enterR p d L c = .bad 5 p.at_) := Lib.hid (by unfold enterR; rw [if_neg hc2])
    have q1 : decide ((c : Int) + 1 ≤ 2000) = false := decide_eq_false (by omega)
    go_still_tail 7, (by kernel_rfl)
    change wpList _ _ _ _ _ w1.drew
    go_wp2_with fail
    refine (must_bad _ _ _).mono ?_
    rintro e wy ⟨rfl, hw⟩
    obtain rfl := hw.symm
    exact ⟨rfl, .inl ⟨_, _, rfl, HE.out⟩, HB1.out.trans (Below.refl _ _).drew, HK1.out.trans (Kept.of docT (Below.refl _ _).drew)⟩
  have HD2 := Lib.hid ((HC1.out hc2).step (Below.refl _ _).drew)
  have HB2 := Lib.hid (HB1.out.trans (Below.refl _ _).drew)
  have HK2 := Lib.hid (HK1.out.trans (Kept.of docT (Below.refl _ _).drew))
  have HP2 : Hid (w1.drew.heap[R]? = _) := Lib.hid HP1.out
  have HN2 : Hid (w1.drew.heap[R + 1]? = _) := Lib.hid HN1.out
  have HW2 := Lib.hid (HW1.out.keptOf (Kept.of docT (Below.refl _ _).drew) (by decide))
  have HZ2 : Hid (R + 2 ≤ w1.drew.heap.size) := Lib.hid HZ1.out
  have q1 : decide ((c : Int) + 1 ≤ 2000) = true := decide_eq_true (by omega)
  have HC2 := Lib.hid hc2
  clear hc2 hc
  go_still_tail 7, (by kernel_rfl)
  change wpList _ _ _ _ _ w1.drew
  clear d2 p4 HB1 HK1 HP1 HN1 HW1 HC1 HH1 HZ1
  generalize w1.drew = w2 at HD2 HB2 HK2 HP2 HN2 HW2 HZ2 ⊢
  have CM := Lib.hid (must_ok 5 p.at_ w2)
  have d1 := Lib.cell_of_heap HD2.out.heap 1
  have p4 := Lib.cell_of_heap HP2.out 4
  simp only [List.getElem?_toArray, List.getElem?_cons_zero, List.getElem?_cons_succ] at d1 p4
  go_wp2_with fail
  refine CM.out.mono ?_
  rintro e wy ⟨rfl, hw⟩
  obtain rfl := hw.symm
  clear CM q1
  have CD := Lib.hid (pdepth B q d L w2.drew (HD2.out.sp.step (Below.refl _ _).drew))
  go_wp2_with fail
  refine wp_region_still_tail 8 (by kernel_rfl) (by kernel_rfl) ?_
  simp only [List.take_succ_cons, List.take_zero, List.drop_succ_cons, List.drop_zero]
  repeat still_step
  still_call CD.out
  repeat still_step
  refine wpStill_nil ?_
  change wpList _ _ _ _ _ w2.drew
  by_cases hd2 : d < 32
  rotate_left
  · have HE : Hid (enterR p d L c = .bad 4 p.at_) := Lib.hid (by unfold enterR; rw [if_pos HC2.out, if_neg hd2])
    have q1 : decide ((d : Int) < 32) = false := decide_eq_false (by omega)
    go_wp2_with fail
    refine (must_bad _ _ _).mono ?_
    rintro e wy ⟨rfl, hw⟩
    obtain rfl := hw.symm
    exact ⟨rfl, .inl ⟨_, _, rfl, HE.out⟩, HB2.out.trans (Below.refl _ _).drew, HK2.out.trans (Kept.of docT (Below.refl _ _).drew)⟩
  have HD3 := Lib.hid (HD2.out.step (Below.refl _ _).drew)
  have HB3 := Lib.hid (HB2.out.trans (Below.refl _ _).drew)
  have HK3 := Lib.hid (HK2.out.trans (Kept.of docT (Below.refl _ _).drew))
  have HP3 : Hid (w2.drew.heap[R]? = _) := Lib.hid HP2.out
  have HN3 : Hid (w2.drew.heap[R + 1]? = _) := Lib.hid HN2.out
  have HW3 := Lib.hid (HW2.out.keptOf (Kept.of docT (Below.refl _ _).drew) (by decide))
  have HZ3 : Hid (R + 2 ≤ w2.drew.heap.size) := Lib.hid HZ2.out
  have q1 : decide ((d : Int) < 32) = true := decide_eq_true (by omega)
  have HER : Hid (enterR p d L c = enterC p (enterL (d + 1) (toAtt p.attrs) [] L) (nameSp (enterL (d + 1) (toAtt p.attrs) [] L).2.2 (str p.name)) L) := Lib.hid (by unfold enterR; rw [if_pos HC2.out, if_pos hd2])
  clear hdl d1 p4 HD2 HB2 HK2 HP2 HN2 HW2 HZ2 CD
  generalize w2.drew = w3 at HD3 HB3 HK3 HP3 HN3 HW3 HZ3 ⊢
  have CM := Lib.hid (must_ok 4 p.at_ w3)
  have d1 := Lib.cell_of_heap HD3.out.heap 1
  have p2 := Lib.cell_of_heap HP3.out 2
  simp only [List.getElem?_toArray, List.getElem?_cons_zero, List.getElem?_cons_succ] at d1 p2
  go_wp2_with fail
  refine CM.out.mono ?_
  rintro e wy ⟨rfl, hw⟩
  obtain rfl := hw.symm
  clear CM q1 hw
  have CE := penter_rows B b q d L p.attrs (.slice ao n cap) w3.drew (HD3.out.sp.step (Below.refl _ _).drew) (by omega) (HW3.out.keptOf (Kept.of docT (Below.refl _ _).drew) (by decide)) (by have := HPk.out.few; omega)
  obtain ⟨Z, hZ⟩ : ∃ Z, enterL (d + 1) (toAtt p.attrs) [] L = Z := ⟨_, rfl⟩
  have HZm := Lib.hid hZ
  have her := HER.out
  rw [hZ] at CE her
  clear HER
  have HER := Lib.hid her
  have CE2 := Lib.hid CE
  clear hZ her CE
  go_wp2_with fail
  go_cut [5, 6] (fun va ve wx => ∃ az cz, va = .slice az Z.1.length cz ∧ ve = .int .i64 Z.2.1 ∧ wx.ownsRow w3.drew.heap.size 48 2 (.slice az Z.1.length cz) Z.1.length (cellsA Z.1) ∧ Sp B q (d + 1) Z.2.2 wx ∧ Below B w3.drew wx ∧ Apart w3.drew wx)
  case first =>
    go_region_with (go_at_call 69; refine CE2.out.mono ?_; rintro e w4 ⟨vz, rfl, hx⟩; obtain ⟨az, cz, rfl⟩ := own_form hx.1; have HX := Lib.hid hx; clear hx)
    all_goals
      go_wp2_with fail
      go_meet
      exact ⟨_, _, rfl, rfl, HX.out⟩
  case rest =>
    obtain ⟨az, cz, rfl, rfl, hown, hsp, hb4, ha4⟩ := hcut
    have HB4 := Lib.hid ((HB3.out.trans (Below.refl _ _).drew).trans hb4)
    have HK4 := Lib.hid ((HK3.out.trans (Kept.of docT (Below.refl _ _).drew)).trans (Kept.doc ha4))
    have HP4 := Lib.hid ((Kept.doc ha4).heap (show w3.drew.heap[R]? = _ from HP3.out) (by decide))
    have HN4 := Lib.hid ((Kept.doc ha4).heap (show w3.drew.heap[R + 1]? = _ from HN3.out) (by decide))
    have HV4 := Lib.hid (own_attv hown (show R + 2 ≤ w3.drew.heap.size from HZ3.out))
    have HO4 := Lib.hid hown
    have HZ4 := Lib.hid (show R + 2 ≤ wc.heap.size from Nat.le_trans HZ3.out ha4.size)
    have HS4 := Lib.hid (fun hp : Pu (bl s) σ (d + 1) Z.2.2 (c + 1) => (HD3.out.step (Below.refl _ _).drew).space hsp hb4 (Kept.apart ha4) hp)
    have HT4 := Lib.hid (show Tabs wc ∧ MaxL wc from ⟨((HD3.out.step (Below.refl _ _).drew).sc.glob.step hb4).tabs, ((HD3.out.step (Below.refl _ _).drew).sc.glob.step hb4).ent.maxl⟩)
    have HSP := Lib.hid hsp
    have HPU := Lib.hid HD3.out.pu
    clear hown hsp hb4 ha4 CE2 d1 p2 HD3 HB3 HK3 HN3 HW3 HZ3
    have p4 := Lib.cell_of_heap HP4.out 4
    simp only [List.getElem?_toArray, List.getElem?_cons_zero, List.getElem?_cons_succ] at p4
    by_cases hz : Z.2.1 = 0
    rotate_left
    · have q1 : (Z.2.1 == 0) = false := by simp [hz]
      have HE : Hid (enterR p d L c = .bad Z.2.1 p.at_) := Lib.hid (by rw [HER.out]; unfold enterC; rw [if_neg hz])
      clear hz
      go_wp2_with fail
      refine (must_bad _ _ _).mono ?_
      rintro e wy ⟨rfl, hw⟩
      obtain rfl := hw.symm
      exact ⟨rfl, .inl ⟨_, _, rfl, HE.out⟩, HB4.out, HK4.out⟩
    have HD4 := Lib.hid (HS4.out (by rw [← HZm.out] at hz ⊢; exact HPU.out.enter hd2 hz))
    have q1 : (Z.2.1 == 0) = true := by simp [hz]
    have HEC : Hid (enterR p d L c = if (nameSp Z.2.2 (str p.name)).2.2 = true then (if attsOk Z.1 = true then .ok (⟨p.name, p.at_, (nameSp Z.2.2 (str p.name)).1, (nameSp Z.2.2 (str p.name)).2.1, Z.1, [], [], L⟩, Z.2.2) else .bad 3 p.at_) else .bad 3 p.at_) := Lib.hid (by rw [HER.out]; unfold enterC; rw [if_pos hz])
    have CN := fun (w' : World) (h : Below wc.heap.size wc w') => pname B q (d + 1) Z.2.2 (str p.name) w' (HSP.out.step h) (by have := HD4.out.pu.few; omega) (by have h1 := HPk.out.name; have h2 := HPU.out; have h3 := HD4.out.sc.len; rw [bl_size] at h1; rw [str_size]; omega) (HT4.out.1.below h) (by obtain ⟨m, hm⟩ := HT4.out.2; exact ((HD4.out.sc.glob.step (h.mono HD4.out.le)).ent.maxl))
    obtain ⟨N, hN⟩ : ∃ N, nameSp Z.2.2 (str p.name) = N := ⟨_, rfl⟩
    rw [hN] at HEC CN
    have CN2 := Lib.hid (CN wc.drew (Below.refl _ _).drew)
    have CM := Lib.hid (must_ok Z.2.1 p.at_ wc)
    have d1 := Lib.cell_of_heap HD4.out.heap 1
    have p1 := Lib.cell_of_heap HP4.out 1
    simp only [List.getElem?_toArray, List.getElem?_cons_zero, List.getElem?_cons_succ] at d1 p1
    have HAL := Lib.hid (show Z.1.length ≤ 16 ∧ ∀ a ∈ Z.1, a.1.size ≤ 9223372036854775807 by
      rw [← HZm.out]
      have hr := enterL_rest (d + 1) (toAtt p.attrs) [] L
      have hl : (toAtt p.attrs).length = p.attrs.length := by unfold toAtt; simp
      refine ⟨by have := hr.1; have := HPk.out.few; simp at *; omega, fun a ha => ?_⟩
      rcases hr.2 a ha with h | h
      · cases h
      · unfold toAtt at h
        obtain ⟨y, hy, rfl⟩ := List.mem_map.1 h
        have h1 := HPk.out.atts y hy
        have h3 := HD4.out.sc.len
        rw [bl_size] at h1
        show (str y.1).size ≤ _
        rw [str_size]; omega)
    clear hz hN CN HER HS4 HPU HZm HSP
    go_wp2_with fail
    refine CM.out.mono ?_
    rintro e wy ⟨rfl, hw⟩
    obtain rfl := hw.symm
    clear CM q1 hw
    go_wp2_with fail
    go_cut [7, 8, 9] (fun v7 v8 v9 wx => v7 = .string N.1 ∧ v8 = .string N.2.1 ∧ v9 = .bool N.2.2 ∧ Below wc.heap.size wc wx)
    case first =>
      go_region_with (go_at_call 70; refine CN2.out.mono ?_; rintro e w5 ⟨rfl, hb5⟩; have HX := Lib.hid ((Below.refl wc.heap.size wc).drew.trans hb5); clear hb5)
      all_goals
        go_wp2_with fail
        go_meet
        exact ⟨rfl, rfl, rfl, HX.out⟩
    case rest =>
      obtain ⟨rfl, rfl, rfl, hb5⟩ := hcut
      have HB5 := Lib.hid (HB4.out.trans (hb5.mono HD4.out.le))
      have HK5 := Lib.hid (HK4.out.trans (Kept.of docT hb5))
      have HP5 := Lib.hid ((Kept.of docT hb5).heap HP4.out (by decide))
      have HN5 := Lib.hid ((Kept.of docT hb5).heap HN4.out (by decide))
      have HV5 := Lib.hid (HV4.out.kept (Kept.of docT hb5) (by decide) (by decide))
      have HO5 := Lib.hid (own_kept HO4.out hb5)
      have HZ5 := Lib.hid (Nat.le_trans HZ4.out hb5.size)
      have HT5 := Lib.hid (HT4.out.1.below hb5)
      have HD5 := Lib.hid (HD4.out.step hb5)
      clear hb5 p4 d1 p1 HB4 HK4 HP4 HN4 HV4 HO4 HZ4 HT4 HD4 CN2
      have p4 := Lib.cell_of_heap HP5.out 4
      simp only [List.getElem?_toArray, List.getElem?_cons_zero, List.getElem?_cons_succ] at p4
      obtain ⟨sp, nm, kn⟩ := N
      have HEC : Hid (enterR p d L c = if kn = true then (if attsOk Z.1 = true then .ok (⟨p.name, p.at_, sp, nm, Z.1, [], [], L⟩, Z.2.2) else .bad 3 p.at_) else .bad 3 p.at_) := HEC
      cases kn with
      | false =>
        have HE : Hid (enterR p d L c = .bad 3 p.at_) := HEC
        go_wp2_with fail
        refine (must_bad _ _ _).mono ?_
        rintro e wy ⟨rfl, hw⟩
        obtain rfl := hw.symm
        exact ⟨rfl, .inl ⟨_, _, rfl, HE.out⟩, HB5.out, HK5.out⟩
      | true =>
        have HE : Hid (enterR p d L c = if attsOk Z.1 = true then .ok (⟨p.name, p.at_, sp, nm, Z.1, [], [], L⟩, Z.2.2) else .bad 3 p.at_) := HEC
        have CM := Lib.hid (must_ok 3 p.at_ wc)
        clear HEC
        go_wp2_with fail
        refine CM.out.mono ?_
        rintro e wy ⟨rfl, hw⟩
        obtain rfl := hw.symm
        clear CM hw
        go_wp2_with fail
        go_loopg [69] Z.1.length (fun g k wr => ∃ j, g + j = Z.1.length ∧ k = .int .i64 (j : Nat) ∧ Below wc.heap.size wc wr ∧ Hid (∀ i (h : i < Z.1.length), i < j → nameL (bl (Z.1[i]'h).1) = true))
        case atStart => exact ⟨0, rfl, rfl, Below.refl _ _, Lib.hid (fun i _ h => absurd h (Nat.not_lt_zero i))⟩
        case round =>
          obtain ⟨j, hg, rfl, hbw, HJ⟩ := hrel
          have hZl := HAL.out.1
          by_cases hj : j < Z.1.length
          · obtain ⟨g0, rfl, hg0⟩ := own_some HO5.out (by omega)
            obtain ⟨x, hx⟩ : ∃ x, Z.1[j]'hj = x := ⟨_, rfl⟩
            have hc0 := (hbw.cell (p := ⟨g0, j * 2, none⟩) hg0).trans (row_cellsA HO5.out j hj).1
            have hc1 := (hbw.cell (p := ⟨g0, j * 2 + 1, none⟩) hg0).trans (row_cellsA HO5.out j hj).2
            rw [hx] at hc0 hc1
            have hj' : (j : Int) < (Z.1.length : Int) := by omega
            have hA := (Below.refl wr.heap.size wr).alloc (Nat.le_refl _) (.cells #[.string x.1, .string x.2] 48)
            have hbA := hbw.trans (hA.mono hbw.size)
            have hRlt : R < wc.heap.size := by have := HZ5.out; omega
            have k4 := (hbA.cell (p := ⟨R, 4, none⟩) hRlt).trans p4
            have hxs : x.1.size ≤ 9223372036854775807 := HAL.out.2 x (by rw [← hx]; exact List.getElem_mem hj)
            have CN := Lib.hid (cname x.1 (wr.alloc (.cells #[.string x.1, .string x.2] 48)).drew hxs (HT5.out.below (hbA.trans (Below.refl _ _).drew)))
            have HBA := Lib.hid hbA
            have HRlt := Lib.hid (show R < (wr.alloc (.cells #[.string x.1, .string x.2] 48)).drew.heap.size from Nat.lt_of_lt_of_le hRlt hbA.size)
            have HK4 := Lib.hid k4
            clear hA hbA hxs
            cases hn : nameL (bl x.1) with
            | false =>
              rw [hn] at CN
              have HF : Hid (enterR p d L c = .bad 3 p.at_) := Lib.hid (by
                rw [HE.out, if_neg]
                intro h
                have h2 := List.all_eq_true.1 h x (by rw [← hx]; exact List.getElem_mem hj)
                rw [hn] at h2
                cases h2)
              clear hn hx
              go_wp2
              go_region_with (first
                | (go_at_call 60; refine CN.out.mono ?_; rintro e wy ⟨rfl, hby⟩; have HY := Lib.hid hby; have ky : wy.cell? ⟨R, 4, none⟩ = some (.int .i64 p.at_) := (hby.cell (p := ⟨R, 4, none⟩) HRlt.out).trans HK4.out; clear hby)
                | (go_at_call 38; refine (must_bad _ _ _).mono ?_; rintro e wz ⟨rfl, hw⟩; obtain rfl := hw.symm
                   refine ends_any ⟨rfl, .inl ⟨_, _, rfl, HF.out⟩, (HB5.out.trans (HBA.out.mono (Nat.le_trans HD5.out.le (Nat.le_refl _)))).trans ((Below.refl _ _).drew.trans (HY.out.mono (Nat.le_trans HD5.out.le HBA.out.size))), ((HK5.out.trans (Kept.of docT HBA.out)).trans (Kept.of docT (Below.refl _ _).drew)).trans (Kept.of docT HY.out)⟩ wy ?_))
              all_goals trivial
            | true =>
              rw [hn] at CN
              have HJ2 := Lib.hid (show ∀ i (h : i < Z.1.length), i < j + 1 → nameL (bl (Z.1[i]'h).1) = true from fun i hi hij => by
                by_cases e : i = j
                · subst e; rw [hx]; exact hn
                · exact HJ.out i hi (by omega))
              clear hn hx
              go_wp2
              go_region_with (first
                | (go_at_call 60; refine CN.out.mono ?_; rintro e wy ⟨rfl, hby⟩; have HY := Lib.hid hby; have ky : wy.cell? ⟨R, 4, none⟩ = some (.int .i64 p.at_) := (hby.cell (p := ⟨R, 4, none⟩) HRlt.out).trans HK4.out; clear hby)
                | (go_at_call 38; refine (must_ok _ _ _).mono ?_; rintro e wz ⟨rfl, hw⟩; obtain rfl := hw.symm))
              all_goals
                have hbw2 := HBA.out.trans ((Below.refl _ _).drew.trans (HY.out.mono HBA.out.size))
                clear hbw hc0 hc1 k4 ky HBA HRlt HK4 CN HY
                go_wp2
                go_roundg (Z.1.length - (j + 1))
                case measure => omega
                case rel => exact ⟨j + 1, by omega, by go_num, hbw2, HJ2⟩
          · have HF : Hid (enterR p d L c = .ok (⟨p.name, p.at_, sp, nm, Z.1, [], [], L⟩, Z.2.2)) := Lib.hid (by
              rw [HE.out, if_pos]
              refine List.all_eq_true.2 fun a ha => ?_
              obtain ⟨i, hi, rfl⟩ := List.mem_iff_getElem.1 ha
              exact HJ.out i hi (by omega))
            have HN6 := Lib.hid ((Kept.of docT hbw).heap HN5.out (by decide))
            have HV6 := Lib.hid (HV5.out.kept (Kept.of docT hbw) (by decide) (by decide))
            have HD6 := Lib.hid (HD5.out.step hbw)
            have HB6 := Lib.hid (HB5.out.trans (hbw.mono HD5.out.le))
            have HK6 := Lib.hid (HK5.out.trans (Kept.of docT hbw))
            have f0 := Lib.frozen_of_heap HN6.out 0
            have f1 := Lib.frozen_of_heap HN6.out 1
            have f2 := Lib.frozen_of_heap HN6.out 2
            have f3 := Lib.frozen_of_heap HN6.out 3
            have f4 := Lib.frozen_of_heap HN6.out 4
            have r0 := Lib.cell_of_heap HN6.out 0
            have r1 := Lib.cell_of_heap HN6.out 1
            have r2 := Lib.cell_of_heap HN6.out 2
            have r3 := Lib.cell_of_heap HN6.out 3
            have r4 := Lib.cell_of_heap HN6.out 4
            simp only [List.getElem?_toArray, List.getElem?_cons_zero, List.getElem?_cons_succ] at r0 r1 r2 r3 r4
            have hj' : ¬ (j : Int) < (Z.1.length : Int) := by omega
            clear p4
            go_wp2
            have hs5 := st5_onlyR wr (R + 1) (.string sp) (.string nm) (.slice az Z.1.length cz) (.slice none 0 0) (.string ⟨#[]⟩)
            refine bodyPost_ret (res_node _ 4 rfl _ (R + 1) rfl _ _ _ _ _ _ 25 (0, 0) (st5_heap HN6.out _ _ _ _ _)) rfl ⟨.inr ⟨_, _, _, rfl, HF.out, ?_, ?_⟩, ?_, ?_⟩
            · rw [HRe.out]
              refine HV6.out.to hs5.size fun g hp hg => ?_
              obtain ⟨h0, h1, cs, t, zz, h2, h3⟩ := hp
              have he := hs5.block g hg (by omega)
              exact ⟨⟨by omega, h1, cs, t, zz, he.trans h2, h3⟩, he⟩
            · exact HD6.out.only hs5 HN6.out (by decide) (by have := HBw.out; omega)
            · exact HB6.out.trans (hs5.below (by have := HBw.out; omega) HD6.out.le)
            · exact HK6.out.new hs5 (by have := HRe.out; omega)

end Go.Proofs.YtincdacickhdkaaGreatDoor

namespace Go.Proofs.YtincdacickhdkaaGreatDoor
open Go Go.RowKit

/-- The types of what a Builder is made of. -/
def bldT : List TypeId := [5, 62]
theorem Kept.grown {ts : List TypeId} {w w' : World} {row : Option Nat} (hg : w.grownBy w' row) (hr : ∀ k, row = some k → ∃ c t z, w.heap[k]? = some (.cells c t z) ∧ t ∈ ts) : Kept ts w w' :=
  ⟨hg.size, fun j hj hn => hg.block j hj (fun e => by obtain ⟨c, t, z, h, ht⟩ := hr j e.symm; exact hn c t z h ht)⟩
theorem Kept.others {b : Nat} {w w' : World} (h : Lib.OthersKept 5 (some b) w w') (hs : w.heap.size ≤ w'.heap.size) {cs : Array Value} {z : Nat × Nat} (hb : w.heap[b]? = some (.cells cs 62 z)) : Kept bldT w w' :=
  ⟨hs, fun j hj hn => by
    have e : w.heap[j]? = some w.heap[j] := Array.getElem?_eq_getElem hj
    rw [e]
    refine h j _ e (fun hjb => ?_) (fun c fz ho => ?_)
    · obtain rfl := Option.some.inj hjb
      exact hn _ _ _ hb (by decide)
    · exact hn c 5 fz (by rw [e, ho]) (by decide)⟩
theorem bcheck_k (B b : Nat) (bs : List Value) (w : World) (h : Bld B b bs w) :
    Calls Tryz.prog 76 #[.pointer (some ⟨b, 0, none⟩)] w fun e w' => e = .returned (.tuple #[]) ∧ (Lib.BuilderAtF 62 5 B b (.pointer (some ⟨b, 0, none⟩)) bs w' ∧ Below B w w' ∧ Kept bldT w w') := by
  rcases h with h | h
  · refine (bcheck_fresh b w h.cell0 h.shape h.frozen0).mono ?_
    rintro e w' ⟨rfl, rfl⟩
    obtain ⟨hB, v, hbk, _⟩ := id h
    exact ⟨rfl, h.used _, (Below.refl B w).setCell (p := ⟨b, 0, none⟩) h.1 _, Kept.set hbk (by decide) _ _⟩
  · refine (bcheck_used b w h.cell0).mono ?_
    rintro e w' ⟨rfl, rfl⟩
    exact ⟨rfl, h, Below.refl B _, Kept.refl _ _⟩
set_option maxHeartbeats 2000000 in
set_option maxRecDepth 100000 in
/-- (*strings.Builder).WriteString. -/
theorem bstring_k (B b : Nat) (bs : List Value) (s : ByteArray) (w : World) (h : Bld B b bs w) (hlen : bs.length + s.size ≤ 140737488355328) (hBw : B ≤ w.heap.size) :
    Calls Tryz.prog 57 #[.pointer (some ⟨b, 0, none⟩), .string s] w fun e w' => e = .returned (.tuple #[.int .i64 s.size, .nilIface]) ∧ Bld B b (bs ++ Lib.strCells s) w' ∧ Below B w w' ∧ Kept bldT w w' := by
  obtain ⟨i0, hi, hz0, hz1, hz2⟩ := info_parts byte_info
  go_enter Tryz.func57, Tryz.ntmps57
  go_wp2_with (go_at_call 76; refine (bcheck_k B b bs _ h).mono ?_)
  rintro e w1 ⟨rfl, h1, hb1, hk1⟩
  obtain ⟨hB, v, hbk, hown, hne⟩ := h1
  have c0 : w1.cell? ⟨b, 0, none⟩ = some (.pointer (some ⟨b, 0, none⟩)) := by rw [Lib.cell_of_heap hbk]; rfl
  have c1 : w1.cell? ⟨b, 1, none⟩ = some v := by rw [Lib.cell_of_heap hbk]; rfl
  go_wp2_with (at_builtin; refine Lib.wpList_append_own_stringF _ rfl _ _ 28 9 rfl B 5 i0 Tryz.underlying28 Tryz.underlying9 hi hz0 hz1 hz2 _ _ _ rfl hown s rfl ?c3 ?c4 ?c5 ?_)
  case c3 => unfold maxLen; omega
  case c4 => omega
  case c5 => have := hb1.size; omega
  intro v' w2 hown' hgrow _
  have hlt := bld_lt hbk
  have hb2 : w2.heap[b]? = some (.cells #[.pointer (some ⟨b, 0, none⟩), v] 62 (0, 0)) := by
    rw [hgrow.block b hlt (fun e => hne e.symm)]
    exact hbk
  have hk2 : Kept bldT w1 w2 := Kept.grown hgrow fun k hk => by
    rcases hown.2 with ⟨hv, _⟩ | ⟨g, cap, cur, fz, hv, _, hg, _⟩
    · rw [hv] at hk; cases hk
    · rw [hv] at hk; cases hk; exact ⟨_, _, _, hg, by decide⟩
  have d0 : w2.cell? ⟨b, 0, none⟩ = some (.pointer (some ⟨b, 0, none⟩)) := by rw [Lib.cell_of_heap hb2]; rfl
  have d1 : w2.cell? ⟨b, 1, none⟩ = some v := by rw [Lib.cell_of_heap hb2]; rfl
  have f1 : w2.frozen? ⟨b, 1, none⟩ = false := Lib.frozen_of_heap hb2 1
  obtain ⟨ao, n', cap, rfl⟩ : ∃ ao n' cap, v' = .slice ao n' cap := by
    rcases hown'.2 with ⟨hv, _⟩ | ⟨g, cap, cur, fz, hv, _⟩
    · exact ⟨_, _, _, hv⟩
    · exact ⟨_, _, _, hv⟩
  go_wp2
  go_ret2
  refine ⟨rfl, .inr ?_, ?_, (hk1.trans hk2).trans (Kept.set hb2 (by decide) _ _)⟩
  · exact Lib.BuilderAtF.put (T := 62) (e := 5) hB hb2 (bs' := bs ++ Lib.strCells s) (by simpa [Lib.strCells_length] using hown') (by decide)
  · exact (hb1.grown hgrow (by have := hb1.size; omega) (fun k hk => (hown.lt k hk).1)).setCell (p := ⟨b, 1, none⟩) hB _
theorem Bl.heap {B b : Nat} {l : List UInt8} {w : World} (h : Bl B b l w) : ∃ p v, w.heap[b]? = some (.cells #[p, v] 62 (0, 0)) ∧ B ≤ b := by
  rcases h with h | h
  · obtain ⟨hB, v, hbk, _⟩ := h; exact ⟨_, _, hbk, hB⟩
  · obtain ⟨hB, v, hbk, _⟩ := h; exact ⟨_, _, hbk, hB⟩
theorem kstring (B b : Nat) (l : List UInt8) (s : ByteArray) (w : World) (h : Bl B b l w) (hlen : l.length + s.size ≤ 140737488355328) :
    Calls Tryz.prog 57 #[.pointer (some ⟨b, 0, none⟩), .string s] w fun e w' => e = .returned (.tuple #[.int .i64 s.size, .nilIface]) ∧ Bl B b (l ++ s.data.toList) w' ∧ Below B w w' ∧ Kept bldT w w' := by
  refine (bstring_k B b _ s w h (by rw [cells_len]; exact hlen) h.lt).mono fun e w' ⟨h1, h2, h3⟩ => ⟨h1, ?_, h3⟩
  unfold Bl; rw [cells_str]; exact h2
theorem kout (B b : Nat) (l : List UInt8) (w : World) (h : Bl B b l w) :
    Calls Tryz.prog 31 #[.pointer (some ⟨b, 0, none⟩)] w fun e w' => e = .returned (.string ⟨l.toArray⟩) ∧ Below B w w' ∧ Kept bldT w w' := by
  obtain ⟨p, v, hb, _⟩ := h.heap
  exact (Tryz.Builder_String_any_k B b l w h h.lt).mono fun _ _ ⟨h1, _, h3, h4⟩ => ⟨h1, h3, Kept.others h4 h3.size hb⟩
/-- A Builder stays what it is where no Builder and no row of bytes is touched. -/
theorem Bl.kept {B b : Nat} {l : List UInt8} {ts : List TypeId} {w w' : World} (h : Bl B b l w) (hk : Kept ts w w') (h1 : 5 ∉ ts) (h2 : 62 ∉ ts) : Bl B b l w' := by
  have key : ∀ p, Lib.BuilderAtF 62 5 B b p (Lib.byteCells l) w → Lib.BuilderAtF 62 5 B b p (Lib.byteCells l) w' := by
    rintro p ⟨hB, v, hbk, hown, hne⟩
    refine ⟨hB, v, hk.heap hbk h2, ⟨hown.1, ?_⟩, hne⟩
    rcases hown.2 with hn | ⟨g, cap, cur, fz, hv, hbg, hg, rest⟩
    · exact .inl hn
    · exact .inr ⟨g, cap, cur, fz, hv, hbg, hk.heap hg h1, rest⟩
  rcases h with h | h
  · exact .inl (key _ h)
  · exact .inr (key _ h)

end Go.Proofs.YtincdacickhdkaaGreatDoor
