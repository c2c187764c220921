/-
  The walk of (*Spaces).Enter.
  The walks of slices.IndexFunc and slices.DeleteFunc at tellings, where those to go stand behind those to stay.
  The walks of New, (*Spaces).Depth, Leave.
  Documents in memory: frames by types, elements as values, the three blocks of a document that is read.
  The walk of galliardref06.name.
-/
import Derived.Test.YtnlkpdodacphkaaGreatDoorA12
import Derived.Deep.LoopGhost
import Derived.IntWalk
import Derived.Test.YtnlkpdodacphkaaGreatDoorA3
import Derived.Laws.IdiomCopy
import Derived.BigQuiet
import Derived.Deep.RegionWith
import Derived.Test.YtnlkpdodacphkaaGreatDoorA4
import Derived.Test.YtnlkpdodacphkaaGreatDoorA7
namespace Go.Proofs.YtnlkpdodacphkaaGreatDoor
open Go Go.RowKit
set_option maxRecDepth 100000

theorem att_info : (Tryz.prog.info? 56).map (fun i => (i.zero, i.size, i.bytes)) = some (some (.agg #[.string ⟨#[]⟩, .string ⟨#[]⟩]), 2, 32) := by kernel_rfl
/-- Block g holds attributes, from its beginning on. -/
def AttrsAt (w : World) (g : Nat) (A : List Att) : Prop := ∃ cs z, w.heap[g]? = some (.cells cs 56 z) ∧ ∀ j, j < A.length * 2 → cs[j]? = (cellsA A)[j]?
theorem AttrsAt.apart {w w' : World} {g : Nat} {A : List Att} (h : AttrsAt w g A) (ha : Apart w w') : AttrsAt w' g A := by
  obtain ⟨cs, z, h1, h2⟩ := h
  exact ⟨cs, z, ha.heap h1 (by decide) (by decide), h2⟩
theorem AttrsAt.cells {w : World} {g : Nat} {A : List Att} (h : AttrsAt w g A) (j : Nat) (hj : j < A.length) : w.cell? ⟨g, j * 2, none⟩ = some (.string (A[j]'hj).1) ∧ w.cell? ⟨g, j * 2 + 1, none⟩ = some (.string (A[j]'hj).2) := by
  obtain ⟨cs, z, h1, h2⟩ := h
  refine ⟨?_, ?_⟩
  · rw [Lib.cell_of_heap h1, h2 _ (by omega)]; exact cellsA_get A j hj 0 (by decide)
  · rw [Lib.cell_of_heap h1, h2 _ (by omega)]; exact cellsA_get A j hj 1 (by decide)
theorem AttrsAt.new (w : World) (cs : Array Value) (A : List Att) (h : cs.toList = cellsA A) : AttrsAt (w.alloc (.cells cs 56)) w.heap.size A :=
  ⟨cs, (0, 0), heap_alloc_new w _, fun j _ => by rw [← h]; simp⟩
theorem AttrsAt.own {w : World} {base g n cap : Nat} {A : List Att} (h : w.ownsRow base 56 2 (.slice (some ⟨g, 0, none⟩) n cap) n (cellsA A)) (hn : A.length = n) : AttrsAt w g A := by
  subst hn
  rcases h.2 with ⟨h', _⟩ | ⟨g', cap', cur, h', _, hg, _, _, _, ht⟩
  · simp at h'
  · simp only [Value.slice.injEq, Option.some.injEq, Addr.mk.injEq, and_true, true_and] at h'
    obtain ⟨rfl, rfl⟩ := h'
    exact ⟨cur, (0, 0), hg, fun j hj => by rw [← ht, List.getElem?_take, if_pos hj]; simp⟩
/-- What the loop of Enter keeps. -/
structure EnR (B b d : Nat) (A : List Att) (L : List Tell) (w : World) (j : Nat) (v : Value) (R : List Att) (L' : List Tell) (wr : World) : Prop where
  le : j ≤ A.length
  same : enterL d (A.drop j) R L' = enterL d A [] L
  sp : Sp B b d L' wr
  below : Below B w wr
  apart : Apart w wr
  own : wr.ownsRow w.heap.size 56 2 v R.length (cellsA R)
  few : R.length ≤ j
  hB : B ≤ w.heap.size
/-- What Enter leaves. -/
def EnterGives (B b d : Nat) (w : World) (Z : List Att × Int × List Tell) (r : Ending) (w' : World) : Prop :=
  ∃ v, r = .returned (.tuple #[v, .int .i64 Z.2.1]) ∧ w'.ownsRow w.heap.size 56 2 v Z.1.length (cellsA Z.1) ∧ Sp B b d Z.2.2 w' ∧ Below B w w' ∧ Apart w w'

theorem Sp.grown {B b d : Nat} {L : List Tell} {w w' : World} {row : Option Nat} (h : Sp B b d L w) (hg : w.grownBy w' row) (hr : ∀ r, row = some r → ¬ IsT w.heap[r]?) : Sp B b d L w' := by
  have hl := h.lt
  obtain ⟨h0, k, cap, hb, ho⟩ := h
  have hk : IsT w.heap[k]? := by
    rcases ho.2 with ⟨h', _⟩ | ⟨g', cap', cur, h', _, hg', _⟩
    · simp at h'
    · simp only [Value.slice.injEq, Option.some.injEq, Addr.mk.injEq, and_true, true_and] at h'
      obtain ⟨rfl, rfl⟩ := h'
      exact ⟨_, _, _, hg', .inl rfl⟩
  refine ⟨h0, k, cap, (hg.block b hl (fun e => hr b e.symm ⟨_, _, _, hb, .inr rfl⟩)).trans hb, ho.kept hg (.inr fun e => hr k e.symm hk)⟩
theorem Apart.grownNew {w x y : World} {row : Option Nat} (h : Apart w x) (hg : x.grownBy y row) (hr : ∀ r, row = some r → w.heap.size ≤ r) : Apart w y :=
  ⟨Nat.le_trans h.size hg.size, fun j hj hn => (hg.block j (Nat.lt_of_lt_of_le hj h.size) (fun e => by have := hr j e.symm; omega)).trans (h.block j hj hn)⟩
theorem EnR.app {B b d j : Nat} {A R : List Att} {L L' : List Tell} {w w3 w7 : World} {u v : Value} {x : Att} {o : Obj} (h : EnR B b d A L w j u R L' w3) (hj : j < A.length) (hn : enterL d (A.drop (j + 1)) (R ++ [x]) L' = enterL d A [] L)
    (hg : (w3.alloc o).grownBy w7 u.ownBlock) (hown : w7.ownsRow w.heap.size 56 2 v (R.length + 1) (cellsA R ++ [.string x.1, .string x.2])) : EnR B b d A L w (j + 1) v (R ++ [x]) L' w7 := by
  have hB1 := (Below.refl w3.heap.size w3).alloc (Nat.le_refl _) o
  have hlt : ∀ r, u.ownBlock = some r → w.heap.size ≤ r := fun r e => (h.own.lt r e).1
  have hk : ∀ r, u.ownBlock = some r → ¬ IsT (w3.alloc o).heap[r]? := by
    intro r e
    rcases (h.own.alloc o).2 with ⟨rfl, _⟩ | ⟨g', cap', cur, rfl, _, hg', _⟩
    · simp [Value.ownBlock] at e
    · simp only [Value.ownBlock, Option.some.injEq] at e
      subst e
      exact not_IsT hg' (by decide) (by decide)
  have hB := h.hB
  have hs := h.apart.size
  have hs1 := hB1.size
  exact ⟨hj, hn, (h.sp.step hB1).grown hg hk, (h.below.trans (hB1.mono (by omega))).grown hg (by omega) (fun r e => by have := hlt r e; omega), (h.apart.trans (Apart.of hB1)).grownNew hg hlt,
    by rw [List.length_append, cellsA_app]; exact hown, by rw [List.length_append]; have := h.few; simp; omega, hB⟩
theorem EnR.known {B b d j : Nat} {A R : List Att} {L L' L'' : List Tell} {w w3 w7 : World} {u : Value} (h : EnR B b d A L w j u R L' w3) (hj : j < A.length) (hn : enterL d (A.drop (j + 1)) R L'' = enterL d A [] L)
    (hs : Sp B b d L'' w7) (hb : Below B w3 w7) (ha : Apart w3 w7) : EnR B b d A L w (j + 1) u R L'' w7 :=
  ⟨hj, hn, hs, h.below.trans hb, h.apart.trans ha, ha.owns h.own (by decide) (by decide), by have := h.few; omega, h.hB⟩

set_option maxHeartbeats 4000000 in
theorem penter0 (B b d g cap : Nat) (A : List Att) (L : List Tell) (Z : List Att × Int × List Tell) (w : World) (hS : Sp B b d L w) (hd : d ≤ 100000) (hA : AttrsAt w g A) (hAl : A.length ≤ 1000) (hZ : enterL (d + 1) A [] L = Z) :
    Calls Tryz.prog 100 #[.pointer (some ⟨b, 0, none⟩), .slice (some ⟨g, 0, none⟩) A.length cap] w (EnterGives B b (d + 1) w Z) := by
  have hbl := hS.lt
  have hbase := hS.base
  have hR0 : ∀ w1, w1 = w.setCell ⟨b, 0, none⟩ (.int .i64 ((d : Int) + 1)) → EnR B b (d + 1) A L w 0 (.slice none 0 0) [] L w1 := by
    rintro w1 rfl
    obtain ⟨_, k, cap', hb, ho⟩ := hS
    have hbk : b ≠ k := own_block_ne ho hb (by decide)
    exact ⟨Nat.zero_le _, by simp, ⟨hbase, k, cap', heap_put _ hb, ownsRow_setCell_other ho (a := ⟨b, 0, none⟩) (by intro e; exact hbk (by cases e; rfl)) _⟩, (Below.refl B w).setCell (p := ⟨b, 0, none⟩) hbase _, Apart.set hb (.inr rfl) _ _, World.ownsRow_nil _ _ _ _, Nat.le_refl _, by omega⟩
  obtain ⟨_, k, cap', hb, ho⟩ := hS
  have c0 := Lib.cell_of_heap hb 0
  have f0 := Lib.frozen_of_heap hb 0
  simp only [List.getElem?_toArray, List.getElem?_cons_zero] at c0
  have hdi : (d : Int) ≤ 100000 := by omega
  have HR0 := Lib.hid (hR0 _ rfl)
  have HA := Lib.hid hA
  have HZ := Lib.hid hZ
  clear hR0 hb ho hA hZ
  obtain ⟨i0, hi, hz0, hz1, hz2⟩ := info_parts att_info
  have HI := Lib.hid hi
  have HI0 := Lib.hid hz0
  have HI1 := Lib.hid hz1
  have HI2 := Lib.hid hz2
  clear hi hz0 hz1 hz2
  go_enter Tryz.func100, Tryz.ntmps100
  go_wp2
  go_loopg [6, 23] A.length (fun gh rest cnt wr => ∃ j v R L', gh + j = A.length ∧ rest = v ∧ cnt = .int .i64 (j : Nat) ∧ EnR B b (d + 1) A L w j v R L' wr)
  case atStart => exact ⟨0, _, [], L, by omega, rfl, rfl, HR0.out⟩
  case round =>
    obtain ⟨j, v, R, L', hg, hv, rfl, hrel⟩ := hrel
    obtain ⟨ao, cp, rfl⟩ : ∃ ao cp, v = .slice ao R.length cp := by
      rcases hrel.own.2 with ⟨hv, h0⟩ | ⟨g', cap', cur, hv, _⟩
      · exact ⟨none, 0, by rw [hv, h0]⟩
      · exact ⟨_, _, hv⟩
    subst hv
    have hsame := hrel.same
    by_cases hj : j < A.length
    · have hAw := HA.out.apart hrel.apart
      obtain ⟨a0, a1⟩ := hAw.cells j hj
      obtain ⟨x, hx⟩ : ∃ x, A[j]'hj = x := ⟨_, rfl⟩
      rw [hx] at a0 a1
      have hdrop : A.drop j = x :: A.drop (j + 1) := by rw [List.drop_eq_getElem_cons hj, hx]
      rw [hdrop, HZ.out] at hsame
      unfold enterL at hsame
      obtain ⟨nm, vl⟩ := x
      simp only at a0 a1 hsame
      have hji : (j : Int) < (A.length : Int) := by omega
      have C1 := ptold nm
      have hB3 := (Below.refl wr.heap.size wr).alloc (Nat.le_refl _) (.cells #[.string nm, .string vl] 56)
      have hS3 := hrel.sp.step hB3
      have hR3 : EnR B b (d + 1) A L w j (.slice ao R.length cp) R L' (wr.alloc (.cells #[.string nm, .string vl] 56)) :=
        ⟨hrel.le, hrel.same, hS3, hrel.below.trans (hB3.mono (by have := hrel.sp.lt; have := hrel.sp.base; omega)), hrel.apart.trans (Apart.of hB3), own_kept hrel.own hB3, hrel.few, hrel.hB⟩
      obtain ⟨⟨P, T⟩, hT⟩ : ∃ PT, tellS nm = PT := ⟨_, rfl⟩
      rw [hT] at hsame C1
      simp only at hsame C1
      have C1 := Lib.hid C1
      have HB := Lib.hid (heap_alloc_new wr (.cells #[.string nm, .string vl] 56))
      clear hT hAw hx hdrop hB3 hS3 hrel
      cases T with
      | false =>
        rw [if_pos rfl] at hsame
        have HR3 := Lib.hid hR3
        have HS := Lib.hid (hsame.trans HZ.out.symm)
        clear hsame hR3
        have hR1000 : R.length ≤ 1000 := by have := HR3.out.few; omega
        have hsz := Lib.hid HR3.out.apart.size
        have hsz3 : w.heap.size ≤ wr.heap.size + 1 := by have := hsz.out; simpa using this
        have happ := Lib.hid (fun (w7 : World) (v : Value) hg hown => HR3.out.app (v := v) (w7 := w7) (x := (nm, vl)) (o := .cells #[.string nm, .string vl] 56) hj HS.out hg hown)
        have HO := Lib.hid HR3.out.own
        have hj1 := Lib.hid (show gk - 1 + (j + 1) = A.length by omega)
        have hj2 := Lib.hid (show gk - 1 < gk by omega)
        have hRl : (R ++ [(nm, vl)]).length = R.length + 1 := by simp
        clear HS HR3 hj hg
        go_wp2_with fail
        refine (C1.out _).mono ?_
        rintro r w4 ⟨rfl, rfl⟩
        clear C1
        go_wp2_with (
          at_builtin
          refine wpList_append_lies _ (by rfl) _ _ _ (by rfl) w.heap.size 56 i0 _ 2 32 Tryz.underlying22 HI.out HI0.out HI1.out HI2.out rfl (by omega) (.slice ao R.length cp) R.length (cellsA R) (by rfl) (HO.out.alloc _)
            ⟨wr.heap.size + 1, 0, none⟩ 1 1 [.string nm, .string vl] (by rfl) (by rfl) (World.news_of_block (cs := #[.string nm, .string vl]) (t := 56) (fr := (0, 0)) (by have := heap_alloc_new (wr.alloc (.cells #[.string nm, .string vl] 56)) (.cells #[.string nm, .string vl] 56); rw [World.size_alloc] at this; exact this)) (by simp [Value.oneCell'])
            (by omega) (by unfold maxLen; omega) (by omega) (by simp; omega) (wr.heap.size + 1 + 1) (by simp) ?_
          intro gg cap' w7 hown7 hgrow hat hlt)
        have H7 := Lib.hid (happ.out _ _ hgrow hown7)
        clear hown7 hgrow hat hlt
        go_roundg (gk - 1)
        case measure => exact hj2.out
        case rel => exact ⟨j + 1, _, R ++ [(nm, vl)], L', hj1.out, by first | rfl | rw [hRl], by simp, H7.out⟩
      | true =>
        rw [if_neg (by decide)] at hsame
        have hcells : (wr.alloc (.cells #[.string nm, .string vl] 56)).cell? ⟨wr.heap.size, 1, none⟩ = some (.string vl) := by rw [Lib.cell_of_heap HB.out]; rfl
        obtain ⟨E, hE⟩ : ∃ E, knowE L' P vl = E := ⟨_, rfl⟩
        have C2 := pknow B b (d + 1) L' P vl _ hR3.sp
        rw [hE] at hsame C2
        have hj1 := Lib.hid (show gk - 1 + (j + 1) = A.length by omega)
        have hj2 := Lib.hid (show gk - 1 < gk by omega)
        by_cases hE0 : E = 0
        · subst hE0
          rw [if_pos rfl] at hsame C2
          have C2 := Lib.hid C2
          have happ := Lib.hid (fun (w7 : World) hs hb ha => hR3.known (w7 := w7) hj (hsame.trans HZ.out.symm) hs hb ha)
          clear hsame hE hR3 hj hg
          go_wp2_with fail
          refine (C1.out _).mono ?_
          rintro r w4 ⟨rfl, rfl⟩
          go_wp2_with fail
          refine C2.out.mono ?_
          rintro r w5 ⟨rfl, h5, hb5, ha5⟩
          have H7 := Lib.hid (happ.out _ h5 hb5 ha5)
          clear h5 hb5 ha5 C2
          go_wp2
          go_roundg (gk - 1)
          case measure => exact hj2.out
          case rel => exact ⟨j + 1, _, R, _, hj1.out, rfl, by simp, H7.out⟩
        · rw [if_neg hE0] at hsame C2
          have C2 := Lib.hid C2
          have HS : Hid (([], E, L') = Z) := Lib.hid hsame
          have q : (E == 0) = false := beq_eq_false_iff_ne.2 hE0
          have q' : (E != 0) = true := by simp [hE0]
          have HR := Lib.hid hR3
          clear hsame hE hR3 hj hg hE0
          go_wp2_with fail
          refine (C1.out _).mono ?_
          rintro r w4 ⟨rfl, rfl⟩
          go_wp2_with fail
          refine C2.out.mono ?_
          rintro r w5 ⟨rfl, h5, hb5, ha5⟩
          have H7 := Lib.hid (And.intro h5 (And.intro (HR.out.below.trans hb5) (HR.out.apart.trans ha5)))
          clear h5 hb5 ha5 C2
          go_wp2
          go_ret2
          exact ⟨.slice none 0 0, by rw [← HS.out]; rfl, by rw [← HS.out]; exact World.ownsRow_nil _ _ _ _, by rw [← HS.out]; exact H7.out.1, H7.out.2.1, H7.out.2.2⟩
    · obtain rfl : j = A.length := by have := hrel.le; omega
      have HR := Lib.hid hrel
      have HS : Hid ((R, 0, L') = Z) := Lib.hid (by rw [List.drop_length] at hsame; rw [← HZ.out, ← hsame]; rfl)
      clear hsame hrel hg
      go_wp2
      go_ret2
      exact ⟨.slice ao R.length cp, by rw [← HS.out]; rfl, by rw [← HS.out]; exact HR.out.own, by rw [← HS.out]; exact HR.out.sp, HR.out.below, HR.out.apart⟩

/-- **(*Spaces).Enter.** -/
theorem penter (B b d g cap : Nat) (A : List Att) (L : List Tell) (w : World) (hS : Sp B b d L w) (hd : d ≤ 100000) (hA : AttrsAt w g A) (hAl : A.length ≤ 1000) :
    Calls Tryz.prog 100 #[.pointer (some ⟨b, 0, none⟩), .slice (some ⟨g, 0, none⟩) A.length cap] w (EnterGives B b (d + 1) w (enterL (d + 1) A [] L)) :=
  penter0 B b d g cap A L _ w hS hd hA hAl rfl

end Go.Proofs.YtnlkpdodacphkaaGreatDoor
namespace Go.Proofs.YtnlkpdodacphkaaGreatDoor
open Go Go.RowKit
set_option maxRecDepth 100000

theorem setCells_heap {b : Nat} {t : TypeId} {z : Nat × Nat} : ∀ (vs : List Value) (o : Nat) (w : World) (cs : Array Value), w.heap[b]? = some (.cells cs t z) →
    ∃ cs', (w.setCells b o vs).heap[b]? = some (.cells cs' t z) ∧ cs'.size = cs.size ∧ ∀ j, j < o → cs'[j]? = cs[j]?
  | [], _, _, cs, h => ⟨cs, h, rfl, fun _ _ => rfl⟩
  | v :: vs, o, w, cs, h => by
    obtain ⟨cs', h1, h2, h3⟩ := setCells_heap vs (o + 1) (w.setCell ⟨b, o, none⟩ v) _ (heap_put v h)
    refine ⟨cs', h1, by rw [h2]; simp, fun j hj => ?_⟩
    rw [h3 j (by omega), Array.getElem?_setIfInBounds_ne (by omega)]
theorem setCells_grown (b : Nat) : ∀ (vs : List Value) (o : Nat) (w : World), w.grownBy (w.setCells b o vs) (some b)
  | [], _, _ => ⟨rfl, rfl, rfl, Nat.le_refl _, fun _ _ _ => rfl⟩
  | v :: vs, o, w => by
    have ih := setCells_grown b vs (o + 1) (w.setCell ⟨b, o, none⟩ v)
    have e : (w.setCell ⟨b, o, none⟩ v).heap.size = w.heap.size := by simp [World.setCell]
    exact ⟨ih.os, ih.tape, ih.output, by rw [← e]; exact ih.size, fun j hj hne => (ih.block j (by omega) hne).trans (Below.heap_setCell _ _ _ _ (fun e' => hne (by rw [e'])))⟩
theorem grown_trans {a b c : World} {row : Option Nat} (h : a.grownBy b row) (k : b.grownBy c row) : a.grownBy c row :=
  ⟨k.os.trans h.os, k.tape.trans h.tape, k.output.trans h.output, Nat.le_trans h.size k.size, fun j hj hne => (k.block j (Nat.lt_of_lt_of_le hj h.size) hne).trans (h.block j hj hne)⟩
theorem grown_of_below {w w' : World} (h : Below w.heap.size w w') (row : Option Nat) : w.grownBy w' row := ⟨h.os, h.tape, h.output, h.size, fun j hj _ => h.block j hj⟩
/-- The first ones of a row, behind a clearing of the others. -/
theorem own_cleared {w : World} {base g n cap : Nat} {e : TypeId} {z : Nat} {xs : List Value} (h : w.ownsRow base e z (.slice (some ⟨g, 0, none⟩) n cap) n xs) (m : Nat) (hm : m ≤ n) (vs : List Value) :
    (w.setCells g (m * z) vs).ownsRow base e z (.slice (some ⟨g, 0, none⟩) m cap) m (xs.take (m * z)) := by
  have hmz : m * z ≤ n * z := Nat.mul_le_mul_right z hm
  refine ⟨by rw [List.length_take, h.1]; omega, .inr ?_⟩
  rcases h.2 with ⟨h', _⟩ | ⟨g', cap', cur, h', hb, hg, hnc, hcm, hcs, ht⟩
  · simp at h'
  · simp only [Value.slice.injEq, Option.some.injEq, Addr.mk.injEq, and_true, true_and] at h'
    obtain ⟨rfl, rfl⟩ := h'
    obtain ⟨cs', h1, h2, h3⟩ := setCells_heap vs (m * z) w cur hg
    refine ⟨g, cap, cs', rfl, hb, h1, Nat.le_trans hm hnc, hcm, by rw [h2]; exact hcs, ?_⟩
    rw [← ht, List.take_take, Nat.min_eq_left hmz]
    apply List.ext_getElem?
    intro i
    rw [List.getElem?_take, List.getElem?_take]
    by_cases hi : i < m * z
    · rw [if_pos hi, if_pos hi, Array.getElem?_toList, Array.getElem?_toList]
      exact h3 i hi
    · rw [if_neg hi, if_neg hi]
theorem cellsT_take (L : List Tell) (m : Nat) (hm : m ≤ L.length) : (cellsT L).take (m * 3) = cellsT (L.take m) := by
  have h : cellsT L = cellsT (L.take m) ++ cellsT (L.drop m) := by rw [← cellsT_app, List.take_append_drop]
  have hl : (cellsT (L.take m)).length = m * 3 := by rw [cellsT_len, List.length_take, Nat.min_eq_left hm]
  rw [h, ← hl]
  exact List.take_left
/-- clear at tellings. -/
theorem run_clear_tells (w : World) (ty : TypeId) (b o n c : Nat) (hn : 0 < n) (hc : ∀ j, j < n * 3 → (w.cell? ⟨b, o + j, none⟩).isSome = true) (hf : ∀ j, j < n * 3 → w.frozen? ⟨b, o + j, none⟩ = false) :
    ∃ vs, (Builtin.clear_ #[112] ty #[.slice (some ⟨b, o, none⟩) n c]).run Tryz.prog w = .ok (.tuple #[]) (w.setCells b o vs) := by
  have hv : (zeroValue 111).run Tryz.prog w = .ok (.agg #[.string ⟨#[]⟩, .string ⟨#[]⟩, .int .i64 0]) w := Tryz.zeroValue111 w
  obtain ⟨vs, hvs⟩ : ∃ vs, (Builtin.zeroCells (#[.string ⟨#[]⟩, .string ⟨#[]⟩, .int .i64 0] : Array Value) n).toList = vs := ⟨_, rfl⟩
  have hlen : vs.length = n * 3 := by rw [← hvs]; simp [Builtin.zeroCells]
  have hone : ∀ v ∈ vs, v.oneCell' = true := by
    intro v hv'
    rw [← hvs] at hv'
    simp [Builtin.zeroCells] at hv'
    obtain ⟨i, hi, rfl⟩ := hv'
    have h3 : i % 3 < 3 := Nat.mod_lt _ (by decide)
    generalize i % 3 = r at h3
    match r, h3 with
    | 0, _ => rfl
    | 1, _ => rfl
    | 2, _ => rfl
    | r + 3, h => omega
  have hst := run_storeCells_cells (P := Tryz.prog) b o vs 0 w (by rw [hlen]; simpa using hc) (by rw [hlen]; simpa using hf) hone
  simp only [Nat.add_zero] at hst
  obtain ⟨m, rfl⟩ : ∃ m, n = m + 1 := ⟨n - 1, by omega⟩
  refine ⟨vs, ?_⟩
  simp [Builtin.clear_, run_underlying Tryz.underlying112, hv, Value.cells, hvs, hst]

set_option maxHeartbeats 1000000 in
/-- The function that Leave hands on. -/
theorem pcl (q b dd : Nat) (p s : ByteArray) (d : Nat) (w : World) (hq : q < w.heap.size) (hb : b < w.heap.size) (cq : w.cell? ⟨q, 0, none⟩ = some (.pointer (some ⟨b, 0, none⟩))) (cb : w.cell? ⟨b, 0, none⟩ = some (.int .i64 dd)) :
    Calls Tryz.prog 103 #[.agg #[.string p, .string s, .int .i64 d], .pointer (some ⟨q, 0, none⟩)] w fun r w' => r = .returned (.bool (decide (dd < d))) ∧ Below w.heap.size w w' := by
  have hB1 := (Below.refl w.heap.size w).alloc (Nat.le_refl _) (.cells #[.string p, .string s, .int .i64 d] 111)
  have cq1 := (hB1.cell (p := ⟨q, 0, none⟩) hq).trans cq
  have cb1 := (hB1.cell (p := ⟨b, 0, none⟩) hb).trans cb
  have H := Lib.hid hB1
  clear cq cb hB1
  go_enter Tryz.func103, Tryz.ntmps103
  go_wp2
  go_quiet (fail)
  go_wp2
  go_ret
  exact ⟨rfl, H.out.trans (below_drew_n _ _ nq)⟩

set_option maxHeartbeats 2000000 in
/-- slices.IndexFunc: the first one of those to go. -/
theorem pidx (q b k cap dd : Nat) (L : List Tell) (m : Nat) (x : Int) (w : World) (hx : x = if m = L.length then -1 else (m : Int)) (hq : q < w.heap.size) (hb : b < w.heap.size) (hk : k < w.heap.size) (hlen : L.length ≤ 1000) (hm : m ≤ L.length)
    (cq : w.cell? ⟨q, 0, none⟩ = some (.pointer (some ⟨b, 0, none⟩))) (cb : w.cell? ⟨b, 0, none⟩ = some (.int .i64 dd))
    (hc : ∀ j (h : j < L.length), w.cell? ⟨k, j * 3, none⟩ = some (.string (L[j]'h).p) ∧ w.cell? ⟨k, j * 3 + 1, none⟩ = some (.string (L[j]'h).s) ∧ w.cell? ⟨k, j * 3 + 2, none⟩ = some (.int .i64 (L[j]'h).d))
    (h1 : ∀ j (h : j < L.length), j < m → (L[j]'h).d ≤ dd) (h2 : ∀ j (h : j < L.length), m ≤ j → dd < (L[j]'h).d) :
    Calls Tryz.prog 133 #[.slice (some ⟨k, 0, none⟩) L.length cap, .func (.func 103) #[] #[.pointer (some ⟨q, 0, none⟩)]] w fun r w' => r = .returned (.int .i64 x) ∧ Below w.heap.size w w' := by
  have HX := Lib.hid hx
  clear hx
  have HC := Lib.hid hc
  have H1 := Lib.hid h1
  have H2 := Lib.hid h2
  have HQ := Lib.hid cq
  have HB := Lib.hid cb
  clear hc h1 h2 cq cb
  go_enter Tryz.func133, Tryz.ntmps133
  go_wp2
  go_loopg [8] (m + 1) (fun g i wr => ∃ j : Nat, g + j = m + 1 ∧ j ≤ m ∧ i = .int .i64 j ∧ Below w.heap.size w wr)
  case atStart => exact ⟨0, rfl, Nat.zero_le _, rfl, Below.refl _ _⟩
  case round =>
    obtain ⟨j, hg, hj, rfl, hBw⟩ := hrel
    by_cases hlt : j < L.length
    · obtain ⟨b0, b1, b2⟩ := HC.out j hlt
      have c0 := (hBw.cell (p := ⟨k, j * 3, none⟩) hk).trans b0
      have c1 := (hBw.cell (p := ⟨k, j * 3 + 1, none⟩) hk).trans b1
      have c2 := (hBw.cell (p := ⟨k, j * 3 + 2, none⟩) hk).trans b2
      clear b0 b1 b2
      have C := fun p s d => pcl q b dd p s d wr (Nat.lt_of_lt_of_le hq hBw.size) (Nat.lt_of_lt_of_le hb hBw.size) ((hBw.cell (p := ⟨q, 0, none⟩) hq).trans HQ.out) ((hBw.cell (p := ⟨b, 0, none⟩) hb).trans HB.out)
      have hltz : (j : Int) < (L.length : Int) := by omega
      have HW := Lib.hid hBw
      clear hBw
      by_cases hjm : j < m
      · have hd := H1.out j hlt hjm
        obtain ⟨t, ht⟩ : ∃ t, L[j]'hlt = t := ⟨_, rfl⟩
        rw [ht] at c0 c1 c2 hd
        have C := C t.p t.s t.d
        rw [decide_eq_false (by omega)] at C
        have C := Lib.hid C
        have hf := Lib.hid (show (m + 1 - (j + 1)) + (j + 1) = m + 1 by omega)
        have hjm := Lib.hid hjm
        clear ht hd hlt hj
        go_wp2_with fail
        refine C.out.mono ?_
        rintro r w2 ⟨rfl, hB2⟩
        have HW2 := Lib.hid (HW.out.trans (hB2.mono HW.out.size))
        clear hB2 C
        go_wp2
        go_roundg (m + 1 - (j + 1))
        case measure => have := hjm.out; omega
        case rel => exact ⟨j + 1, hf.out, hjm.out, by simp, HW2.out⟩
      · have hd := H2.out j hlt (by omega)
        obtain ⟨t, ht⟩ : ∃ t, L[j]'hlt = t := ⟨_, rfl⟩
        rw [ht] at c0 c1 c2 hd
        have C := C t.p t.s t.d
        rw [decide_eq_true (by omega)] at C
        have C := Lib.hid C
        obtain rfl : j = m := by omega
        have hR := Lib.hid (show x = j by rw [HX.out, if_neg (by omega)])
        clear ht hd hlt hj hjm
        go_wp2_with fail
        refine C.out.mono ?_
        rintro r w2 ⟨rfl, hB2⟩
        have HW2 := Lib.hid (HW.out.trans (hB2.mono HW.out.size))
        clear hB2 C
        go_wp2
        go_ret
        exact ⟨by rw [hR.out]; rfl, HW2.out⟩
    · obtain rfl : j = L.length := by omega
      have hR := Lib.hid (show x = -1 by rw [HX.out, if_pos (by omega)])
      have HW := Lib.hid hBw
      clear hBw hj hg
      go_wp2
      go_ret
      exact ⟨by rw [hR.out]; rfl, HW.out⟩

set_option maxHeartbeats 4000000 in
/-- slices.DeleteFunc: those to go stand behind those to stay. -/
theorem pdel (B q b k cap dd : Nat) (L : List Tell) (m : Nat) (w : World) (hq : q < w.heap.size) (hb : b < w.heap.size) (hlen : L.length ≤ 1000) (hm : m ≤ L.length)
    (cq : w.cell? ⟨q, 0, none⟩ = some (.pointer (some ⟨b, 0, none⟩))) (cb : w.cell? ⟨b, 0, none⟩ = some (.int .i64 dd))
    (ho : w.ownsRow B 111 3 (.slice (some ⟨k, 0, none⟩) L.length cap) L.length (cellsT L))
    (h1 : ∀ j (h : j < L.length), j < m → (L[j]'h).d ≤ dd) (h2 : ∀ j (h : j < L.length), m ≤ j → dd < (L[j]'h).d) :
    Calls Tryz.prog 102 #[.slice (some ⟨k, 0, none⟩) L.length cap, .func (.func 103) #[] #[.pointer (some ⟨q, 0, none⟩)]] w fun r w' =>
      r = .returned (.slice (some ⟨k, 0, none⟩) m cap) ∧ w'.ownsRow B 111 3 (.slice (some ⟨k, 0, none⟩) m cap) m (cellsT (L.take m)) ∧ w.grownBy w' (some k) := by
  have hk : k < w.heap.size := (ho.lt k rfl).2
  have hcap : L.length ≤ cap := by
    rcases ho.2 with ⟨h', _⟩ | ⟨g', cap', cur, h', _, _, hnc, _⟩
    · simp at h'
    · simp only [Value.slice.injEq, Option.some.injEq, Addr.mk.injEq, and_true, true_and] at h'
      obtain ⟨rfl, rfl⟩ := h'
      exact hnc
  obtain ⟨x, hx⟩ : ∃ x : Int, x = if m = L.length then -1 else (m : Int) := ⟨_, rfl⟩
  have hc := fun j h => row_cells ho j h
  have C1 := Lib.hid (pidx q b k cap dd L m x w hx hq hb hk hlen hm cq cb hc h1 h2)
  have HO := Lib.hid ho
  have HC := Lib.hid hc
  have H2 := Lib.hid h2
  have HQ := Lib.hid cq
  have HB := Lib.hid cb
  clear ho hc h1 h2 cq cb
  by_cases hml : m = L.length
  · rw [if_pos hml] at hx
    subst hml hx
    go_enter Tryz.func102, Tryz.ntmps102
    go_wp2_with fail
    refine C1.out.mono ?_
    rintro r w1 ⟨rfl, hB1⟩
    go_wp2
    go_ret
    exact ⟨rfl, by rw [List.take_length]; exact own_kept HO.out hB1, grown_of_below hB1 _⟩
  · rw [if_neg hml] at hx
    subst hx
    have hne : ((m : Int) == -1) = false := beq_eq_false_iff_ne.2 (by omega)
    have hlt : (m : Int) < (L.length : Int) := by omega
    go_enter Tryz.func102, Tryz.ntmps102
    go_wp2_with fail
    refine C1.out.mono ?_
    rintro r w1 ⟨rfl, hB1⟩
    clear C1
    go_wp2
    go_loopg [5, 6] (L.length) (fun g x5 i wr => ∃ j : Nat, L.length - j ≤ g ∧ j ≤ L.length ∧ m < j ∧ x5 = .int .i64 m ∧ i = .int .i64 j ∧ Below w.heap.size w wr)
    case atStart => exact ⟨m + 1, by omega, by omega, by omega, rfl, by simp, hB1⟩
    case round =>
      obtain ⟨j, hg, hjl, hmj, rfl, rfl, hBw⟩ := hrel
      by_cases hjl' : j < L.length
      · obtain ⟨b0, b1, b2⟩ := HC.out j hjl'
        have c0 := (hBw.cell (p := ⟨k, j * 3, none⟩) hk).trans b0
        have c1 := (hBw.cell (p := ⟨k, j * 3 + 1, none⟩) hk).trans b1
        have c2 := (hBw.cell (p := ⟨k, j * 3 + 2, none⟩) hk).trans b2
        have hd := H2.out j hjl' (by omega)
        clear b0 b1 b2
        obtain ⟨t, ht⟩ : ∃ t, L[j]'hjl' = t := ⟨_, rfl⟩
        rw [ht] at c0 c1 c2 hd
        have hB2 := hBw.alloc hBw.size (.cells #[.string t.p, .string t.s, .int .i64 t.d] 111)
        have C := pcl q b dd t.p t.s t.d (wr.alloc (.cells #[.string t.p, .string t.s, .int .i64 t.d] 111)) (Nat.lt_of_lt_of_le hq hB2.size) (Nat.lt_of_lt_of_le hb hB2.size) ((hB2.cell (p := ⟨q, 0, none⟩) hq).trans HQ.out) ((hB2.cell (p := ⟨b, 0, none⟩) hb).trans HB.out)
        rw [decide_eq_true hd] at C
        have C := Lib.hid C
        have hltz : (j : Int) < (L.length : Int) := by omega
        have HW := Lib.hid hB2
        have hnum := Lib.hid (show j + 1 ≤ L.length ∧ m < j + 1 ∧ L.length - (j + 1) < gk by omega)
        clear hBw hB2 ht hd hjl' hjl hmj hg hlt
        go_wp2_with fail
        refine C.out.mono ?_
        rintro r w2 ⟨rfl, hB2⟩
        have HW2 := Lib.hid (HW.out.trans (hB2.mono HW.out.size))
        clear hB2 C
        go_wp2
        go_roundg (L.length - (j + 1))
        case measure => exact hnum.out.2.2
        case rel => exact ⟨j + 1, Nat.le_refl _, hnum.out.1, hnum.out.2.1, rfl, by simp, HW2.out⟩
      · obtain rfl : j = L.length := by omega
        have ho := own_kept HO.out hBw
        have hsp : ∀ i, i < (L.length - m) * 3 → (wr.cell? ⟨k, m * 3 + i, none⟩).isSome = true := fun i hi => by
          rw [ho.cellAt _ (by omega), List.getElem?_eq_getElem (by rw [cellsT_len]; omega)]; rfl
        have hcl := fun ty => run_clear_tells wr ty k (m * 3) (L.length - m) (cap - m) (by omega) hsp (fun i _ => ho.frozenAt _)
        have HOC := Lib.hid (fun vs => own_cleared ho m hm vs)
        have HW := Lib.hid hBw
        have e1 : (L.length : Int) - (m : Int) = ((L.length - m : Nat) : Int) := by omega
        have e2 : (cap : Int) - (m : Int) = ((cap - m : Nat) : Int) := by omega
        have hmc : (m : Int) ≤ (cap : Int) := by omega
        have hmcn : ¬ cap = m := by omega
        have hml' : (m : Int) ≤ (L.length : Int) := by omega
        have hlc : (L.length : Int) ≤ (cap : Int) := by omega
        obtain ⟨vs, hvs⟩ := hcl 0
        clear ho hsp hcl hBw hg hjl
        go_wp2
        go_ret
        exact ⟨rfl, by rw [← cellsT_take L m hm]; exact HOC.out vs, grown_trans (grown_of_below HW.out _) (setCells_grown k vs _ _)⟩

end Go.Proofs.YtnlkpdodacphkaaGreatDoor
namespace Go.Proofs.YtnlkpdodacphkaaGreatDoor
open Go Go.RowKit
set_option maxRecDepth 100000

set_option maxHeartbeats 1000000 in
theorem pdepth (B b d : Nat) (L : List Tell) (w : World) (hS : Sp B b d L w) :
    Calls Tryz.prog 99 #[.pointer (some ⟨b, 0, none⟩)] w fun r w' => r = .returned (.int .i64 d) ∧ w' = w := by
  obtain ⟨_, k, cap, hb, _⟩ := hS
  have c0 := Lib.cell_of_heap hb 0
  simp only [List.getElem?_toArray, List.getElem?_cons_zero] at c0
  clear hb
  go_enter Tryz.func99, Tryz.ntmps99
  go_wp2
  go_ret
  exact ⟨rfl, rfl⟩
set_option maxHeartbeats 1000000 in
theorem pnew (w : World) :
    Calls Tryz.prog 28 #[] w fun r w' => ∃ b, r = .returned (.pointer (some ⟨b, 0, none⟩)) ∧ Sp w.heap.size b 0 tells0 w' ∧ Below w.heap.size w w' := by
  go_enter Tryz.func28, Tryz.ntmps28
  go_wp2
  go_ret
  refine ⟨w.heap.size + 1, rfl, ⟨by omega, w.heap.size, 2, ?_, ?_⟩, ((Below.refl _ w).alloc (Nat.le_refl _) _).alloc (by simp) _⟩
  · have := heap_alloc_new (w.alloc (.cells #[.string bXml, .string bXmlSpace, .int .i64 0, .string bNone, .string bNone, .int .i64 0] 111)) (.cells #[.int .i64 0, .slice (some ⟨w.heap.size, 0, none⟩) 2 2] 114)
    rw [World.size_alloc] at this
    exact this
  · exact (World.ownsRow_lit w #[.string bXml, .string bXmlSpace, .int .i64 0, .string bNone, .string bNone, .int .i64 0] 2 (Nat.le_refl _) (by decide) rfl).alloc _

set_option maxHeartbeats 4000000 in
theorem pleave (B b d : Nat) (L : List Tell) (m : Nat) (w : World) (hS : Sp B b (d + 1) L w) (hd : d ≤ 100000) (hlen : L.length ≤ 1000) (hm : m ≤ L.length)
    (h1 : ∀ j (h : j < L.length), j < m → (L[j]'h).d ≤ d) (h2 : ∀ j (h : j < L.length), m ≤ j → d < (L[j]'h).d) :
    Calls Tryz.prog 71 #[.pointer (some ⟨b, 0, none⟩)] w fun r w' => r = .returned (.tuple #[]) ∧ Sp B b d (L.take m) w' ∧ Below B w w' ∧ Apart w w' := by
  have hl := hS.lt
  have hbase := hS.base
  obtain ⟨_, k, cap, hb, ho⟩ := hS
  have hbk : b ≠ k := own_block_ne ho hb (by decide)
  have hB1 := (Below.refl w.heap.size w).alloc (Nat.le_refl _) (.cells #[.pointer (some ⟨b, 0, none⟩)] 63)
  have c0 := Lib.cell_of_heap hb 0
  simp only [List.getElem?_toArray, List.getElem?_cons_zero] at c0
  have c0 := (hB1.cell (p := ⟨b, 0, none⟩) hl).trans c0
  have cd : (w.alloc (.cells #[.pointer (some ⟨b, 0, none⟩)] 63)).frozen? ⟨b, 0, none⟩ = false := (hB1.frozen (p := ⟨b, 0, none⟩) hl).trans (Lib.frozen_of_heap hb 0)
  obtain ⟨w1, hw1⟩ : ∃ w1, (w.setCell ⟨b, 0, none⟩ (.int .i64 d)).alloc (.cells #[.pointer (some ⟨b, 0, none⟩)] 63) = w1 := ⟨_, rfl⟩
  have hsz : (w.setCell ⟨b, 0, none⟩ (.int .i64 d)).heap.size = w.heap.size := by simp [World.setCell]
  have hA := (Below.refl (w.setCell ⟨b, 0, none⟩ (.int .i64 d)).heap.size (w.setCell ⟨b, 0, none⟩ (.int .i64 d))).alloc (Nat.le_refl _) (.cells #[.pointer (some ⟨b, 0, none⟩)] 63)
  have hs1 : w1.heap.size = w.heap.size + 1 := by rw [← hw1]; simp [World.setCell]
  have hKQ := heap_alloc_new (w.setCell ⟨b, 0, none⟩ (.int .i64 d)) (.cells #[.pointer (some ⟨b, 0, none⟩)] 63)
  rw [hw1] at hA hKQ
  rw [hsz] at hKQ
  have KB : Hid (Below B w w1) := Lib.hid (((Below.refl B w).setCell (p := ⟨b, 0, none⟩) hbase _).trans (hA.mono (by rw [hsz]; omega)))
  have KA : Hid (Apart w w1) := Lib.hid ((Apart.set hb (.inr rfl) _ _).trans (Apart.of hA))
  have KH := Lib.hid ((hA.block b (by rw [hsz]; exact hl)).trans (heap_put (o := 0) (.int .i64 d) hb))
  have KO := Lib.hid (own_kept (ownsRow_setCell_other ho (a := ⟨b, 0, none⟩) (by intro e; exact hbk (by cases e; rfl)) (.int .i64 d)) hA)
  have KQ := Lib.hid hKQ
  have HW1 := Lib.hid hw1
  have H1 := Lib.hid h1
  have H2 := Lib.hid h2
  have hqb : ¬ w.heap.size = b := by omega
  have e1 : wrap64 (d : Int) = (d : Int) := by unfold wrap64; omega
  clear hB1 hb ho h1 h2 hA hKQ hw1 hsz
  go_enter Tryz.func71, Tryz.ntmps71
  go_wp2_with fail
  rw [HW1.out]
  clear c0 cd HW1
  obtain ⟨q, hq⟩ : ∃ q, w.heap.size = q := ⟨_, rfl⟩
  rw [hq] at KQ hs1 hqb ⊢
  have hKH : w1.heap[b]? = some (.cells #[.int .i64 d, .slice (some ⟨k, 0, none⟩) L.length cap] 114 (0, 0)) := KH.out
  have hkl := (KO.out.lt k rfl).2
  have hkB := (KO.out.lt k rfl).1
  have hqk : q ≠ k := own_block_ne KO.out KQ.out (by decide)
  -- the call, in whatever world that draws alone have led to
  have CD : ∀ wx, Below w1.heap.size w1 wx → Calls Tryz.prog 102 #[.slice (some ⟨k, 0, none⟩) L.length cap, .func (.func 103) #[] #[.pointer (some ⟨q, 0, none⟩)]] wx fun r wy =>
      r = .returned (.slice (some ⟨k, 0, none⟩) m cap) ∧ wy.cell? ⟨q, 0, none⟩ = some (.pointer (some ⟨b, 0, none⟩)) ∧ wy.cell? ⟨b, 1, none⟩ = some (.slice (some ⟨k, 0, none⟩) L.length cap) ∧ wy.frozen? ⟨b, 1, none⟩ = false ∧
      Hid (wy.heap[b]? = some (.cells #[.int .i64 d, .slice (some ⟨k, 0, none⟩) L.length cap] 114 (0, 0)) ∧ wy.ownsRow B 111 3 (.slice (some ⟨k, 0, none⟩) m cap) m (cellsT (L.take m)) ∧ Below B w1 wy ∧ Apart w1 wy) := fun wx hx => by
    have hox := own_kept KO.out hx
    have hbx := (hx.block b (by omega)).trans hKH
    have hqx := (hx.block q (by omega)).trans KQ.out
    refine (pdel B q b k cap d L m wx (Nat.lt_of_lt_of_le (by omega) hx.size) (Nat.lt_of_lt_of_le (by omega) hx.size) hlen hm (by rw [Lib.cell_of_heap hqx]; rfl) (by rw [Lib.cell_of_heap hbx]; rfl) hox H1.out H2.out).mono ?_
    rintro r wy ⟨rfl, ho, hg⟩
    have hby := (hg.block b (Nat.lt_of_lt_of_le (by omega) hx.size) (by intro e; exact hbk (by cases e; rfl))).trans hbx
    have hqy := (hg.block q (Nat.lt_of_lt_of_le (by omega) hx.size) (by intro e; exact hqk (by cases e; rfl))).trans hqx
    refine ⟨rfl, by rw [Lib.cell_of_heap hqy]; rfl, by rw [Lib.cell_of_heap hby]; rfl, Lib.frozen_of_heap hby 1, Lib.hid ⟨hby, ho, (hx.mono (by omega)).grown hg (by have := hx.size; omega) (fun j e => by cases e; exact hkB), (Apart.of hx).trans (Apart.grown hg (fun j e => ?_))⟩⟩
    cases e
    rcases hox.2 with ⟨h', _⟩ | ⟨g', cap', cur, h', _, hg', _⟩
    · simp at h'
    · simp only [Value.slice.injEq, Option.some.injEq, Addr.mk.injEq, and_true, true_and] at h'
      obtain ⟨rfl, rfl⟩ := h'
      exact ⟨_, _, _, hg', .inl rfl⟩
  have HF := Lib.hid (fun wy (h : Hid (wy.heap[b]? = some (.cells #[.int .i64 d, .slice (some ⟨k, 0, none⟩) L.length cap] 114 (0, 0)) ∧ wy.ownsRow B 111 3 (.slice (some ⟨k, 0, none⟩) m cap) m (cellsT (L.take m)) ∧ Below B w1 wy ∧ Apart w1 wy)) =>
    have p := Sp.put (by rw [List.length_take, Nat.min_eq_left hm]) hbase h.out.1 h.out.2.1
    show Sp B b d (L.take m) (wy.setCell ⟨b, 1, none⟩ (.slice (some ⟨k, 0, none⟩) m cap)) ∧ Below B w (wy.setCell ⟨b, 1, none⟩ (.slice (some ⟨k, 0, none⟩) m cap)) ∧ Apart w (wy.setCell ⟨b, 1, none⟩ (.slice (some ⟨k, 0, none⟩) m cap)) from
      ⟨p.1, (KB.out.trans h.out.2.2.1).trans p.2.1, (KA.out.trans h.out.2.2.2).trans p.2.2⟩)
  have CD := Lib.hid CD
  have q0 := Lib.cell_of_heap KQ.out 0
  have b1 := Lib.cell_of_heap hKH 1
  simp only [List.getElem?_toArray, List.getElem?_cons_zero, List.getElem?_cons_succ] at q0 b1
  clear hKH hkl hkB hqk hs1 hlen hm hl hq
  go_region_with (go_at_call 102; refine (CD.out _ (by first | exact Below.refl _ _ | exact (Below.refl _ _).drew)).mono ?_; rintro e wy ⟨rfl, qy, by1, fy, KY⟩)
  all_goals
    go_end0
    exact ⟨rfl, HF.out wy KY⟩

end Go.Proofs.YtnlkpdodacphkaaGreatDoor
namespace Go.Proofs.YtnlkpdodacphkaaGreatDoor
open Go Go.RowKit
set_option maxRecDepth 100000

/-! ### Frames -/
/-- What is of none of these types lies as it lay. -/
structure Kept (ts : List TypeId) (w w' : World) : Prop where
  size : w.heap.size ≤ w'.heap.size
  block : ∀ j, j < w.heap.size → (∀ c t z, w.heap[j]? = some (.cells c t z) → t ∉ ts) → w'.heap[j]? = w.heap[j]?
theorem Kept.refl (ts : List TypeId) (w : World) : Kept ts w w := ⟨Nat.le_refl _, fun _ _ _ => rfl⟩
theorem Kept.trans {ts : List TypeId} {a b c : World} (h : Kept ts a b) (k : Kept ts b c) : Kept ts a c :=
  ⟨Nat.le_trans h.size k.size, fun j hj hn => by
    have e := h.block j hj hn
    exact (k.block j (Nat.lt_of_lt_of_le hj h.size) (by rw [e]; exact hn)).trans e⟩
theorem Kept.of {w w' : World} (ts : List TypeId) (h : Below w.heap.size w w') : Kept ts w w' := ⟨h.size, fun j hj _ => h.block j hj⟩
theorem Kept.alloc (ts : List TypeId) (w : World) (o : Obj) : Kept ts w (w.alloc o) := Kept.of ts ((Below.refl _ _).alloc (Nat.le_refl _) _)
theorem Kept.mono {ts us : List TypeId} {w w' : World} (h : Kept ts w w') (hs : ∀ t ∈ ts, t ∈ us) : Kept us w w' :=
  ⟨h.size, fun j hj hn => h.block j hj fun c t z e ht => hn c t z e (hs t ht)⟩
theorem Kept.heap {ts : List TypeId} {w w' : World} (h : Kept ts w w') {b : Nat} {cs : Array Value} {t : TypeId} {z : Nat × Nat} (hb : w.heap[b]? = some (.cells cs t z)) (ht : t ∉ ts) : w'.heap[b]? = some (.cells cs t z) :=
  (h.block b (Array.getElem?_eq_some_iff.1 hb).1 (fun c t' z' e => by rw [hb] at e; cases e; exact ht)).trans hb
theorem Kept.only {ts : List TypeId} {b : Nat} {w w' : World} (h : Only b w w') {cs : Array Value} {t : TypeId} {z : Nat × Nat} (hb : w.heap[b]? = some (.cells cs t z)) (ht : t ∈ ts) : Kept ts w w' :=
  ⟨h.size, fun j hj hn => h.block j hj (fun e => by rw [e] at hn; exact hn cs t z hb ht)⟩
theorem Kept.set {ts : List TypeId} {w : World} {b : Nat} {cs : Array Value} {t : TypeId} {z : Nat × Nat} (h : w.heap[b]? = some (.cells cs t z)) (ht : t ∈ ts) (o : Nat) (v : Value) : Kept ts w (w.setCell ⟨b, o, none⟩ v) :=
  Kept.only (Only.set b o w v) h ht
theorem Kept.apart {w w' : World} (h : Apart w w') : Kept [111, 114] w w' :=
  ⟨h.size, fun j hj hn => h.block j hj (fun ⟨c, t, z, e, ht⟩ => hn c t z e (by rcases ht with h | h <;> simp [h]))⟩
theorem Kept.owns {ts : List TypeId} {w w' : World} (h : Kept ts w w') {base : Nat} {e : TypeId} {z n : Nat} {v : Value} {xs : List Value} (ho : w.ownsRow base e z v n xs) (he : e ∉ ts) : w'.ownsRow base e z v n xs := by
  refine ⟨ho.1, ?_⟩
  rcases ho.2 with hn | ⟨g, cap, cur, hv, hb, hg, r⟩
  · exact .inl hn
  · exact .inr ⟨g, cap, cur, hv, hb, h.heap hg he, r⟩
/-- The types of what a document's reading changes. -/
def docT : List TypeId := [111, 114, 66, 108]
theorem Kept.doc {w w' : World} (h : Apart w w') : Kept docT w w' := (Kept.apart h).mono (by decide)

/-! ### Elements as values -/
/-- A slice of attributes, as it reads. -/
def AttV (P : Nat → Prop) (w : World) (v : Value) (A : List Att) : Prop :=
  ∃ ao cap, v = .slice ao A.length cap ∧ (0 < A.length → ∃ g o, ao = some ⟨g, o, none⟩ ∧ P g ∧ g < w.heap.size ∧
    ∀ j (h : j < A.length), w.cell? ⟨g, o + j * 2, none⟩ = some (.string (A[j]'h).1) ∧ w.cell? ⟨g, o + j * 2 + 1, none⟩ = some (.string (A[j]'h).2)) ∧ A.length ≤ cap
/-- An element's value; its blocks are those that P says. -/
inductive NodeV (P : Nat → Prop) (w : World) : Value → Nd → Prop where
  | mk (sp nm tx : ByteArray) (A : List Att) (K : List Nd) (va : Value) (ao : Option Addr) (cap : Nat) (c : Nat → Nat → Value) (ha : AttV P w va A)
    (hk : 0 < K.length → ∃ g o, ao = some ⟨g, o, none⟩ ∧ P g ∧ g < w.heap.size ∧ ∀ j, j < K.length → ∀ q, q < 5 → w.cell? ⟨g, o + j * 5 + q, none⟩ = some (c j q))
    (hn : ∀ j (h : j < K.length), NodeV P w (.agg #[c j 0, c j 1, c j 2, c j 3, c j 4]) (K[j]'h)) :
    NodeV P w (.agg #[.string sp, .string nm, va, .slice ao K.length cap, .string tx]) (.mk sp nm A K tx)
theorem AttV.to {P P' : Nat → Prop} {w w' : World} {v : Value} {A : List Att} (h : AttV P w v A) (hs : w.heap.size ≤ w'.heap.size) (hb : ∀ g, P g → g < w.heap.size → P' g ∧ w'.heap[g]? = w.heap[g]?) : AttV P' w' v A := by
  obtain ⟨ao, cap, hv, h, hcp⟩ := h
  refine ⟨ao, cap, hv, fun h0 => ?_, hcp⟩
  obtain ⟨g, o, ha, hp, hg, h⟩ := h h0
  obtain ⟨hp', he⟩ := hb g hp hg
  exact ⟨g, o, ha, hp', Nat.lt_of_lt_of_le hg hs, fun j hj => ⟨(World.cell?_of_block (w := w) he).trans (h j hj).1, (World.cell?_of_block (w := w) he).trans (h j hj).2⟩⟩
theorem NodeV.to {P P' : Nat → Prop} {w w' : World} {v : Value} {x : Nd} (h : NodeV P w v x) (hs : w.heap.size ≤ w'.heap.size) (hb : ∀ g, P g → g < w.heap.size → P' g ∧ w'.heap[g]? = w.heap[g]?) : NodeV P' w' v x := by
  induction h with
  | mk sp nm tx A K va ao cap c ha hk hn ih =>
    refine .mk sp nm tx A K va ao cap c (ha.to hs hb) (fun h0 => ?_) ih
    obtain ⟨g, o, hao, hp, hg, h⟩ := hk h0
    obtain ⟨hp', he⟩ := hb g hp hg
    exact ⟨g, o, hao, hp', Nat.lt_of_lt_of_le hg hs, fun j hj q hq => (World.cell?_of_block (w := w) he).trans (h j hj q hq)⟩
theorem NodeV.stay {P : Nat → Prop} {w w' : World} {v : Value} {x : Nd} (h : NodeV P w v x) (hb : Below w.heap.size w w') : NodeV P w' v x := h.to hb.size fun g hp hg => ⟨hp, hb.block g hg⟩
theorem AttV.stay {P : Nat → Prop} {w w' : World} {v : Value} {A : List Att} (h : AttV P w v A) (hb : Below w.heap.size w w') : AttV P w' v A := h.to hb.size fun g hp hg => ⟨hp, hb.block g hg⟩
/-- The five cells of an element. -/
structure NV where
  a : Value
  b : Value
  c : Value
  d : Value
  e : Value
def NV.val (x : NV) : Value := .agg #[x.a, x.b, x.c, x.d, x.e]
def NV.at_ (x : NV) (q : Nat) : Value := match q with | 0 => x.a | 1 => x.b | 2 => x.c | 3 => x.d | _ => x.e
def cellsN (L : List NV) : List Value := L.flatMap fun x => [x.a, x.b, x.c, x.d, x.e]
theorem cellsN_len : ∀ L : List NV, (cellsN L).length = L.length * 5
  | [] => rfl
  | x :: L => by
    have ih := cellsN_len L
    have e : cellsN (x :: L) = [x.a, x.b, x.c, x.d, x.e] ++ cellsN L := rfl
    rw [e, List.length_append, ih]
    show 5 + _ = (L.length + 1) * 5
    omega
theorem cellsN_app (L M : List NV) : cellsN (L ++ M) = cellsN L ++ cellsN M := by unfold cellsN; simp
theorem cellsN_get : ∀ (L : List NV) (j : Nat) (h : j < L.length) (q : Nat), q < 5 → (cellsN L)[j * 5 + q]? = some ((L[j]'h).at_ q)
  | x :: L, 0, h, q, hq => by
    have e : cellsN (x :: L) = [x.a, x.b, x.c, x.d, x.e] ++ cellsN L := rfl
    rw [e, Nat.zero_mul, Nat.zero_add, List.getElem?_append_left (by show q < 5; exact hq)]
    match q, hq with
    | 0, _ => rfl
    | 1, _ => rfl
    | 2, _ => rfl
    | 3, _ => rfl
    | 4, _ => rfl
  | x :: L, j + 1, h, q, hq => by
    have ih := cellsN_get L j (by simpa using h) q hq
    have e : cellsN (x :: L) = [x.a, x.b, x.c, x.d, x.e] ++ cellsN L := rfl
    rw [e, List.getElem?_append_right (by show 5 ≤ _; omega), show (j + 1) * 5 + q - ([x.a, x.b, x.c, x.d, x.e] : List Value).length = j * 5 + q by show (j + 1) * 5 + q - 5 = _; omega, ih]
    rfl
/-- An element's value has five cells. -/
theorem NodeV.cells {P : Nat → Prop} {w : World} {v : Value} {x : Nd} (h : NodeV P w v x) : ∃ y : NV, v = y.val ∧ ∃ sp nm tx va ao n cap, y = ⟨.string sp, .string nm, va, .slice ao n cap, .string tx⟩ := by
  cases h
  exact ⟨⟨_, _, _, _, _⟩, rfl, _, _, _, _, _, _, _, rfl⟩
end Go.Proofs.YtnlkpdodacphkaaGreatDoor
namespace Go.Proofs.YtnlkpdodacphkaaGreatDoor
open Go Go.RowKit Go.Lib
set_option maxRecDepth 100000

def nmB (b : Nat) : UInt8 := [97, 98, 90, 95, 48, 45, 46, 57].getD (b % 8) 0
def nmR (l : List UInt8) : List UInt8 := 110 :: (l.take 5).map fun c => nmB c.toNat
theorem abZ_at (b : Nat) (h : b % 8 < (⟨#[97, 98, 90, 95, 48, 45, 46, 57]⟩ : ByteArray).size) : (⟨#[97, 98, 90, 95, 48, 45, 46, 57]⟩ : ByteArray)[b % 8]'h = nmB b := by
  unfold nmB
  have h8 : b % 8 < 8 := Nat.mod_lt _ (by decide)
  have key : ∀ i : Fin 8, (⟨#[97, 98, 90, 95, 48, 45, 46, 57]⟩ : ByteArray)[i.val]'i.isLt = ([97, 98, 90, 95, 48, 45, 46, 57] : List UInt8).getD i.val 0 := by decide +kernel
  exact key ⟨b % 8, h8⟩
theorem nm_next {s X : ByteArray} {k : Nat} (hk : k < s.size) (h : bl X = 110 :: (((bl s).take k).map fun c => nmB c.toNat)) : bl (X ++ ⟨#[ub (nmB s[k].toNat).toNat]⟩) = 110 :: (((bl s).take (k + 1)).map fun c => nmB c.toNat) := by
  have hub : ub ((nmB s[k].toNat).toNat : Int) = nmB s[k].toNat := by
    rw [ub_eq (x := ((nmB s[k].toNat).toNat : Int)) (n := (nmB s[k].toNat).toNat) rfl]
    simp
  have hl : k < (bl s).length := by rw [bl_size]; exact hk
  have e : (bl s)[k]'hl = s[k] := rfl
  rw [hub, bl_append, h, List.take_succ_eq_append_getElem hl, List.map_append, e]
  rfl
theorem nm_all {s X : ByteArray} {k : Nat} (h : bl X = 110 :: (((bl s).take k).map fun c => nmB c.toNat)) (hk : ¬ k < s.size ∨ k = 5) (h5 : k ≤ 5) : X = str (nmR (bl s)) := by
  have e : (bl s).take k = (bl s).take 5 := by
    rcases hk with hk | rfl
    · rw [List.take_of_length_le (by rw [bl_size]; omega), List.take_of_length_le (by rw [bl_size]; omega)]
    · rfl
  unfold nmR
  rw [← str_bl_ X, h, e]
set_option maxHeartbeats 4000000 in
theorem name06 (s : ByteArray) (w : World) :
    Calls Tryz.prog 23 #[.string s] w fun e w' => e = .returned (.string (str (nmR (bl s)))) ∧ Below w.heap.size w w' := by
  go_enter Tryz.func23, Tryz.ntmps23
  go_wp2
  go_loopg [3, 4] s.size (fun g out at_ wr => ∃ (k : Nat) (X : ByteArray), g + k = s.size ∧ k ≤ 5 ∧ at_ = .int .i64 k ∧ out = .string X ∧ X.size = k + 1 ∧ Hid (bl X = 110 :: (((bl s).take k).map fun c => nmB c.toNat)) ∧ Below w.heap.size w wr)
  case atStart => exact ⟨0, ⟨#[110]⟩, rfl, by decide, rfl, rfl, by decide, Lib.hid (by simp [bl]), Below.refl _ _⟩
  case round =>
    obtain ⟨k, X, hg, hk5, rfl, rfl, hX, HX, hb⟩ := hrel
    by_cases hk : k < s.size
    · by_cases h5 : k < 5
      · have hk' : (k : Int) < (s.size : Int) := by omega
        have h5' : (k : Int) < 5 := by omega
        have h8 : s[k].toNat % 8 < (⟨#[97, 98, 90, 95, 48, 45, 46, 57]⟩ : ByteArray).size := Nat.mod_lt _ (by decide)
        have CV := conv1 wr ((nmB s[k].toNat).toNat : Int) (by have := (nmB s[k].toNat).toNat_lt; omega)
        rw [← abZ_at s[k].toNat h8] at CV
        have HN := Lib.hid (nm_next hk HX.out)
        rw [← abZ_at s[k].toNat h8] at HN
        generalize ub ((⟨#[97, 98, 90, 95, 48, 45, 46, 57]⟩ : ByteArray)[s[k].toNat % 8]'h8).toNat = c at CV HN
        clear HX
        go_wp2
        go_roundg (s.size - (k + 1))
        case measure => omega
        case rel => exact ⟨k + 1, X ++ ⟨#[c]⟩, by omega, by omega, rfl, rfl, by rw [ByteArray.size_append, hX]; rfl, HN, hb.alloc hb.size _⟩
      · have hk' : (k : Int) < (s.size : Int) := by omega
        have h5' : ¬ (k : Int) < 5 := by omega
        go_wp2
        go_ret
        exact ⟨by rw [← nm_all HX.out (.inr (by omega)) hk5]; rfl, hb⟩
    · have hk' : ¬ (k : Int) < (s.size : Int) := by omega
      go_wp2
      go_ret
      exact ⟨by rw [← nm_all HX.out (.inl hk) hk5]; rfl, hb⟩
theorem nmB_ok (b : Nat) : okN (nmB b) = true := by
  have key : ∀ i : Fin 8, okN (([97, 98, 90, 95, 48, 45, 46, 57] : List UInt8).getD i.val 0) = true := by decide +kernel
  exact key ⟨b % 8, Nat.mod_lt _ (by decide)⟩
theorem nmR_ok (l : List UInt8) : ∀ c ∈ nmR l, okN c = true := by
  intro c hc
  unfold nmR at hc
  rcases List.mem_cons.1 hc with rfl | h
  · decide
  · obtain ⟨x, _, rfl⟩ := List.mem_map.1 h
    exact nmB_ok _
theorem nmR_len (l : List UInt8) : (nmR l).length ≤ 6 := by
  unfold nmR
  rw [List.length_cons, List.length_map, List.length_take]
  omega

/-- An element's value: its attributes and its elements, as they read. -/
theorem parts06 {P : Nat → Prop} {w : World} {v : Value} {x : Nd} (h : NodeV P w v x) : ∃ (sp nm tx : ByteArray) (A : List Att) (K : List Nd) (a1 : Option Addr) (c1 : Nat) (a2 : Option Addr) (c2 : Nat) (c : Nat → Nat → Value),
    v = .agg #[.string sp, .string nm, .slice a1 A.length c1, .slice a2 K.length c2, .string tx] ∧ x = .mk sp nm A K tx ∧
    (0 < A.length → ∃ g o, a1 = some ⟨g, o, none⟩ ∧ P g ∧ g < w.heap.size ∧ ∀ j (h : j < A.length), w.cell? ⟨g, o + j * 2, none⟩ = some (.string (A[j]'h).1) ∧ w.cell? ⟨g, o + j * 2 + 1, none⟩ = some (.string (A[j]'h).2)) ∧
    (0 < K.length → ∃ g o, a2 = some ⟨g, o, none⟩ ∧ P g ∧ g < w.heap.size ∧ ∀ j, j < K.length → ∀ q, q < 5 → w.cell? ⟨g, o + j * 5 + q, none⟩ = some (c j q)) ∧
    (∀ j (h : j < K.length), NodeV P w (.agg #[c j 0, c j 1, c j 2, c j 3, c j 4]) (K[j]'h)) := by
  cases h with
  | mk sp nm tx A K va ao cap c ha hk hn =>
    obtain ⟨a1, c1, rfl, ha, _⟩ := ha
    exact ⟨sp, nm, tx, A, K, a1, c1, ao, cap, c, rfl, rfl, ha, hk, hn⟩
/-- The attributes' row has room for them. -/
theorem cap06 {P : Nat → Prop} {w : World} {v0 v1 v3 v4 : Value} {a1 : Option Addr} {m c1 : Nat} {x : Nd} (h : NodeV P w (.agg #[v0, v1, .slice a1 m c1, v3, v4]) x) : m ≤ c1 := by
  cases h with
  | mk sp nm tx A K va ao cap c ha hk hn =>
    obtain ⟨a, c, hv, _, hc⟩ := ha
    injection hv with _ h2 h3
    omega

end Go.Proofs.YtnlkpdodacphkaaGreatDoor
