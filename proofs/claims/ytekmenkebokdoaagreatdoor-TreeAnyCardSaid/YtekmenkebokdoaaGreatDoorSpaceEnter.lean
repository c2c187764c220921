/-
  The walk of (*Spaces).Enter.
-/
import Derived.Test.YtekmenkebokdoaaGreatDoorSpaceKnow
import Derived.Deep.LoopGhost
import Derived.IntWalk
namespace Go.Proofs.YtekmenkebokdoaaGreatDoor
open Go Go.RowKit
set_option maxRecDepth 100000

theorem att_info : (Tryz.prog.info? 50).map (fun i => (i.zero, i.size, i.bytes)) = some (some (.agg #[.string ⟨#[]⟩, .string ⟨#[]⟩]), 2, 32) := by kernel_rfl
/-- Block g holds attributes, from its beginning on. -/
def AttrsAt (w : World) (g : Nat) (A : List Att) : Prop := ∃ cs z, w.heap[g]? = some (.cells cs 50 z) ∧ ∀ j, j < A.length * 2 → cs[j]? = (cellsA A)[j]?
theorem AttrsAt.apart {w w' : World} {g : Nat} {A : List Att} (h : AttrsAt w g A) (ha : Apart w w') : AttrsAt w' g A := by
  obtain ⟨cs, z, h1, h2⟩ := h
  exact ⟨cs, z, ha.heap h1 (by decide) (by decide), h2⟩
theorem AttrsAt.cells {w : World} {g : Nat} {A : List Att} (h : AttrsAt w g A) (j : Nat) (hj : j < A.length) : w.cell? ⟨g, j * 2, none⟩ = some (.string (A[j]'hj).1) ∧ w.cell? ⟨g, j * 2 + 1, none⟩ = some (.string (A[j]'hj).2) := by
  obtain ⟨cs, z, h1, h2⟩ := h
  refine ⟨?_, ?_⟩
  · rw [Lib.cell_of_heap h1, h2 _ (by omega)]; exact cellsA_get A j hj 0 (by decide)
  · rw [Lib.cell_of_heap h1, h2 _ (by omega)]; exact cellsA_get A j hj 1 (by decide)
theorem AttrsAt.new (w : World) (cs : Array Value) (A : List Att) (h : cs.toList = cellsA A) : AttrsAt (w.alloc (.cells cs 50)) w.heap.size A :=
  ⟨cs, (0, 0), heap_alloc_new w _, fun j _ => by rw [← h]; simp⟩
theorem AttrsAt.own {w : World} {base g n cap : Nat} {A : List Att} (h : w.ownsRow base 50 2 (.slice (some ⟨g, 0, none⟩) n cap) n (cellsA A)) (hn : A.length = n) : AttrsAt w g A := by
  subst hn
  rcases h.2 with ⟨h', _⟩ | ⟨g', cap', cur, h', _, hg, _, _, _, ht⟩
  · simp at h'
  · simp only [Value.slice.injEq, Option.some.injEq, Addr.mk.injEq, and_true, true_and] at h'
    obtain ⟨rfl, rfl⟩ := h'
    exact ⟨cur, (0, 0), hg, fun j hj => by rw [← ht, List.getElem?_take, if_pos hj]; simp⟩
set_option maxHeartbeats 1000000 in
theorem penter_nil (v : Value) (w : World) :
    Calls Tryz.prog 52 #[.pointer none, v] w fun r w' => r = .returned (.tuple #[.slice none 0 0, .int .i64 1]) ∧ w' = w := by
  go_enter Tryz.func52, Tryz.ntmps52
  go_wp2
  go_ret2
  exact ⟨rfl, rfl⟩

/-- What the loop of Enter keeps. -/
structure EnR (B b d : Nat) (A : List Att) (L : List Tell) (w : World) (j : Nat) (v : Value) (R : List Att) (L' : List Tell) (wr : World) : Prop where
  le : j ≤ A.length
  same : enterL d (A.drop j) R L' = enterL d A [] L
  sp : Sp B b d L' wr
  below : Below B w wr
  apart : Apart w wr
  own : wr.ownsRow w.heap.size 50 2 v R.length (cellsA R)
  few : R.length ≤ j
  hB : B ≤ w.heap.size
/-- What Enter leaves. -/
def EnterGives (B b d : Nat) (w : World) (Z : List Att × Int × List Tell) (r : Ending) (w' : World) : Prop :=
  ∃ v, r = .returned (.tuple #[v, .int .i64 Z.2.1]) ∧ w'.ownsRow w.heap.size 50 2 v Z.1.length (cellsA Z.1) ∧ Sp B b d Z.2.2 w' ∧ Below B w w' ∧ Apart w w'

theorem Sp.grown {B b d : Nat} {L : List Tell} {w w' : World} {row : Option Nat} (h : Sp B b d L w) (hg : w.grownBy w' row) (hr : ∀ r, row = some r → ¬ IsT w.heap[r]?) : Sp B b d L w' := by
  have hl := h.lt
  obtain ⟨h0, k, cap, hb, ho⟩ := h
  have hk : IsT w.heap[k]? := by
    rcases ho.2 with ⟨h', _⟩ | ⟨g', cap', cur, h', _, hg', _⟩
    · simp at h'
    · simp only [Value.slice.injEq, Option.some.injEq, Addr.mk.injEq, and_true, true_and] at h'
      obtain ⟨rfl, rfl⟩ := h'
      exact ⟨_, _, _, hg', .inl rfl⟩
  refine ⟨h0, k, cap, (hg.block b hl (fun e => hr b e.symm ⟨_, _, _, hb, .inr rfl⟩)).trans hb, ho.kept hg (.inr fun e => hr k e.symm hk)⟩
theorem Apart.grownNew {w x y : World} {row : Option Nat} (h : Apart w x) (hg : x.grownBy y row) (hr : ∀ r, row = some r → w.heap.size ≤ r) : Apart w y :=
  ⟨Nat.le_trans h.size hg.size, fun j hj hn => (hg.block j (Nat.lt_of_lt_of_le hj h.size) (fun e => by have := hr j e.symm; omega)).trans (h.block j hj hn)⟩
theorem EnR.app {B b d j : Nat} {A R : List Att} {L L' : List Tell} {w w3 w7 : World} {u v : Value} {x : Att} {o : Obj} (h : EnR B b d A L w j u R L' w3) (hj : j < A.length) (hn : enterL d (A.drop (j + 1)) (R ++ [x]) L' = enterL d A [] L)
    (hg : (w3.alloc o).grownBy w7 u.ownBlock) (hown : w7.ownsRow w.heap.size 50 2 v (R.length + 1) (cellsA R ++ [.string x.1, .string x.2])) : EnR B b d A L w (j + 1) v (R ++ [x]) L' w7 := by
  have hB1 := (Below.refl w3.heap.size w3).alloc (Nat.le_refl _) o
  have hlt : ∀ r, u.ownBlock = some r → w.heap.size ≤ r := fun r e => (h.own.lt r e).1
  have hk : ∀ r, u.ownBlock = some r → ¬ IsT (w3.alloc o).heap[r]? := by
    intro r e
    rcases (h.own.alloc o).2 with ⟨rfl, _⟩ | ⟨g', cap', cur, rfl, _, hg', _⟩
    · simp [Value.ownBlock] at e
    · simp only [Value.ownBlock, Option.some.injEq] at e
      subst e
      exact not_IsT hg' (by decide) (by decide)
  have hB := h.hB
  have hs := h.apart.size
  have hs1 := hB1.size
  exact ⟨hj, hn, (h.sp.step hB1).grown hg hk, (h.below.trans (hB1.mono (by omega))).grown hg (by omega) (fun r e => by have := hlt r e; omega), (h.apart.trans (Apart.of hB1)).grownNew hg hlt,
    by rw [List.length_append, cellsA_app]; exact hown, by rw [List.length_append]; have := h.few; simp; omega, hB⟩
theorem EnR.known {B b d j : Nat} {A R : List Att} {L L' L'' : List Tell} {w w3 w7 : World} {u : Value} (h : EnR B b d A L w j u R L' w3) (hj : j < A.length) (hn : enterL d (A.drop (j + 1)) R L'' = enterL d A [] L)
    (hs : Sp B b d L'' w7) (hb : Below B w3 w7) (ha : Apart w3 w7) : EnR B b d A L w (j + 1) u R L'' w7 :=
  ⟨hj, hn, hs, h.below.trans hb, h.apart.trans ha, ha.owns h.own (by decide) (by decide), by have := h.few; omega, h.hB⟩

set_option maxHeartbeats 4000000 in
theorem penter0 (B b d g cap : Nat) (A : List Att) (L : List Tell) (Z : List Att × Int × List Tell) (w : World) (hS : Sp B b d L w) (hd : d ≤ 100000) (hA : AttrsAt w g A) (hAl : A.length ≤ 1000) (hZ : enterL (d + 1) A [] L = Z) :
    Calls Tryz.prog 52 #[.pointer (some ⟨b, 0, none⟩), .slice (some ⟨g, 0, none⟩) A.length cap] w (EnterGives B b (d + 1) w Z) := by
  have hbl := hS.lt
  have hbase := hS.base
  have hR0 : ∀ w1, w1 = w.setCell ⟨b, 0, none⟩ (.int .i64 ((d : Int) + 1)) → EnR B b (d + 1) A L w 0 (.slice none 0 0) [] L w1 := by
    rintro w1 rfl
    obtain ⟨_, k, cap', hb, ho⟩ := hS
    have hbk : b ≠ k := own_block_ne ho hb (by decide)
    exact ⟨Nat.zero_le _, by simp, ⟨hbase, k, cap', heap_put _ hb, ownsRow_setCell_other ho (a := ⟨b, 0, none⟩) (by intro e; exact hbk (by cases e; rfl)) _⟩, (Below.refl B w).setCell (p := ⟨b, 0, none⟩) hbase _, Apart.set hb (.inr rfl) _ _, World.ownsRow_nil _ _ _ _, Nat.le_refl _, by omega⟩
  obtain ⟨_, k, cap', hb, ho⟩ := hS
  have c0 := Lib.cell_of_heap hb 0
  have f0 := Lib.frozen_of_heap hb 0
  simp only [List.getElem?_toArray, List.getElem?_cons_zero] at c0
  have hdi : (d : Int) ≤ 100000 := by omega
  have HR0 := Lib.hid (hR0 _ rfl)
  have HA := Lib.hid hA
  have HZ := Lib.hid hZ
  clear hR0 hb ho hA hZ
  obtain ⟨i0, hi, hz0, hz1, hz2⟩ := info_parts att_info
  have HI := Lib.hid hi
  have HI0 := Lib.hid hz0
  have HI1 := Lib.hid hz1
  have HI2 := Lib.hid hz2
  clear hi hz0 hz1 hz2
  go_enter Tryz.func52, Tryz.ntmps52
  go_wp2
  go_loopg [6, 23] A.length (fun gh rest cnt wr => ∃ j v R L', gh + j = A.length ∧ rest = v ∧ cnt = .int .i64 (j : Nat) ∧ EnR B b (d + 1) A L w j v R L' wr)
  case atStart => exact ⟨0, _, [], L, by omega, rfl, rfl, HR0.out⟩
  case round =>
    obtain ⟨j, v, R, L', hg, hv, rfl, hrel⟩ := hrel
    obtain ⟨ao, cp, rfl⟩ : ∃ ao cp, v = .slice ao R.length cp := by
      rcases hrel.own.2 with ⟨hv, h0⟩ | ⟨g', cap', cur, hv, _⟩
      · exact ⟨none, 0, by rw [hv, h0]⟩
      · exact ⟨_, _, hv⟩
    subst hv
    have hsame := hrel.same
    by_cases hj : j < A.length
    · have hAw := HA.out.apart hrel.apart
      obtain ⟨a0, a1⟩ := hAw.cells j hj
      obtain ⟨x, hx⟩ : ∃ x, A[j]'hj = x := ⟨_, rfl⟩
      rw [hx] at a0 a1
      have hdrop : A.drop j = x :: A.drop (j + 1) := by rw [List.drop_eq_getElem_cons hj, hx]
      rw [hdrop, HZ.out] at hsame
      unfold enterL at hsame
      obtain ⟨nm, vl⟩ := x
      simp only at a0 a1 hsame
      have hji : (j : Int) < (A.length : Int) := by omega
      have C1 := ptold nm
      have hB3 := (Below.refl wr.heap.size wr).alloc (Nat.le_refl _) (.cells #[.string nm, .string vl] 50)
      have hS3 := hrel.sp.step hB3
      have hR3 : EnR B b (d + 1) A L w j (.slice ao R.length cp) R L' (wr.alloc (.cells #[.string nm, .string vl] 50)) :=
        ⟨hrel.le, hrel.same, hS3, hrel.below.trans (hB3.mono (by have := hrel.sp.lt; have := hrel.sp.base; omega)), hrel.apart.trans (Apart.of hB3), own_kept hrel.own hB3, hrel.few, hrel.hB⟩
      obtain ⟨⟨P, T⟩, hT⟩ : ∃ PT, tellS nm = PT := ⟨_, rfl⟩
      rw [hT] at hsame C1
      simp only at hsame C1
      have C1 := Lib.hid C1
      have HB := Lib.hid (heap_alloc_new wr (.cells #[.string nm, .string vl] 50))
      clear hT hAw hx hdrop hB3 hS3 hrel
      cases T with
      | false =>
        rw [if_pos rfl] at hsame
        have HR3 := Lib.hid hR3
        have HS := Lib.hid (hsame.trans HZ.out.symm)
        clear hsame hR3
        have hR1000 : R.length ≤ 1000 := by have := HR3.out.few; omega
        have hsz := Lib.hid HR3.out.apart.size
        have hsz3 : w.heap.size ≤ wr.heap.size + 1 := by have := hsz.out; simpa using this
        have happ := Lib.hid (fun (w7 : World) (v : Value) hg hown => HR3.out.app (v := v) (w7 := w7) (x := (nm, vl)) (o := .cells #[.string nm, .string vl] 50) hj HS.out hg hown)
        have HO := Lib.hid HR3.out.own
        have hj1 := Lib.hid (show gk - 1 + (j + 1) = A.length by omega)
        have hj2 := Lib.hid (show gk - 1 < gk by omega)
        have hRl : (R ++ [(nm, vl)]).length = R.length + 1 := by simp
        clear HS HR3 hj hg
        go_wp2_with fail
        refine (C1.out _).mono ?_
        rintro r w4 ⟨rfl, rfl⟩
        clear C1
        go_wp2_with (
          at_builtin
          refine wpList_append_lies _ (by rfl) _ _ _ (by rfl) w.heap.size 50 i0 _ 2 32 Tryz.underlying22 HI.out HI0.out HI1.out HI2.out rfl (by omega) (.slice ao R.length cp) R.length (cellsA R) (by rfl) (HO.out.alloc _)
            ⟨wr.heap.size + 1, 0, none⟩ 1 1 [.string nm, .string vl] (by rfl) (by rfl) (World.news_of_block (cs := #[.string nm, .string vl]) (t := 50) (fr := (0, 0)) (by have := heap_alloc_new (wr.alloc (.cells #[.string nm, .string vl] 50)) (.cells #[.string nm, .string vl] 50); rw [World.size_alloc] at this; exact this)) (by simp [Value.oneCell'])
            (by omega) (by unfold maxLen; omega) (by omega) (by simp; omega) (wr.heap.size + 1 + 1) (by simp) ?_
          intro gg cap' w7 hown7 hgrow hat hlt)
        have H7 := Lib.hid (happ.out _ _ hgrow hown7)
        clear hown7 hgrow hat hlt
        go_roundg (gk - 1)
        case measure => exact hj2.out
        case rel => exact ⟨j + 1, _, R ++ [(nm, vl)], L', hj1.out, by first | rfl | rw [hRl], by simp, H7.out⟩
      | true =>
        rw [if_neg (by decide)] at hsame
        have hcells : (wr.alloc (.cells #[.string nm, .string vl] 50)).cell? ⟨wr.heap.size, 1, none⟩ = some (.string vl) := by rw [Lib.cell_of_heap HB.out]; rfl
        obtain ⟨E, hE⟩ : ∃ E, knowE L' P vl = E := ⟨_, rfl⟩
        have C2 := pknow B b (d + 1) L' P vl _ hR3.sp
        rw [hE] at hsame C2
        have hj1 := Lib.hid (show gk - 1 + (j + 1) = A.length by omega)
        have hj2 := Lib.hid (show gk - 1 < gk by omega)
        by_cases hE0 : E = 0
        · subst hE0
          rw [if_pos rfl] at hsame C2
          have C2 := Lib.hid C2
          have happ := Lib.hid (fun (w7 : World) hs hb ha => hR3.known (w7 := w7) hj (hsame.trans HZ.out.symm) hs hb ha)
          clear hsame hE hR3 hj hg
          go_wp2_with fail
          refine (C1.out _).mono ?_
          rintro r w4 ⟨rfl, rfl⟩
          go_wp2_with fail
          refine C2.out.mono ?_
          rintro r w5 ⟨rfl, h5, hb5, ha5⟩
          have H7 := Lib.hid (happ.out _ h5 hb5 ha5)
          clear h5 hb5 ha5 C2
          go_wp2
          go_roundg (gk - 1)
          case measure => exact hj2.out
          case rel => exact ⟨j + 1, _, R, _, hj1.out, rfl, by simp, H7.out⟩
        · rw [if_neg hE0] at hsame C2
          have C2 := Lib.hid C2
          have HS : Hid (([], E, L') = Z) := Lib.hid hsame
          have q : (E == 0) = false := beq_eq_false_iff_ne.2 hE0
          have q' : (E != 0) = true := by simp [hE0]
          have HR := Lib.hid hR3
          clear hsame hE hR3 hj hg hE0
          go_wp2_with fail
          refine (C1.out _).mono ?_
          rintro r w4 ⟨rfl, rfl⟩
          go_wp2_with fail
          refine C2.out.mono ?_
          rintro r w5 ⟨rfl, h5, hb5, ha5⟩
          have H7 := Lib.hid (And.intro h5 (And.intro (HR.out.below.trans hb5) (HR.out.apart.trans ha5)))
          clear h5 hb5 ha5 C2
          go_wp2
          go_ret2
          exact ⟨.slice none 0 0, by rw [← HS.out]; rfl, by rw [← HS.out]; exact World.ownsRow_nil _ _ _ _, by rw [← HS.out]; exact H7.out.1, H7.out.2.1, H7.out.2.2⟩
    · obtain rfl : j = A.length := by have := hrel.le; omega
      have HR := Lib.hid hrel
      have HS : Hid ((R, 0, L') = Z) := Lib.hid (by rw [List.drop_length] at hsame; rw [← HZ.out, ← hsame]; rfl)
      clear hsame hrel hg
      go_wp2
      go_ret2
      exact ⟨.slice ao R.length cp, by rw [← HS.out]; rfl, by rw [← HS.out]; exact HR.out.own, by rw [← HS.out]; exact HR.out.sp, HR.out.below, HR.out.apart⟩

/-- **(*Spaces).Enter.** -/
theorem penter (B b d g cap : Nat) (A : List Att) (L : List Tell) (w : World) (hS : Sp B b d L w) (hd : d ≤ 100000) (hA : AttrsAt w g A) (hAl : A.length ≤ 1000) :
    Calls Tryz.prog 52 #[.pointer (some ⟨b, 0, none⟩), .slice (some ⟨g, 0, none⟩) A.length cap] w (EnterGives B b (d + 1) w (enterL (d + 1) A [] L)) :=
  penter0 B b d g cap A L _ w hS hd hA hAl rfl

end Go.Proofs.YtekmenkebokdoaaGreatDoor
