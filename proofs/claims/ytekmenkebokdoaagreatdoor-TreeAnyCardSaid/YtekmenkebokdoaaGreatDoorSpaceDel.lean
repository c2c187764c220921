/-
  The walks of slices.IndexFunc and slices.DeleteFunc at tellings, where those to go stand behind those to stay.
-/
import Derived.Test.YtekmenkebokdoaaGreatDoorSpaceRep
import Derived.Laws.IdiomCopy
import Derived.Deep.LoopGhost
import Derived.BigQuiet
namespace Go.Proofs.YtekmenkebokdoaaGreatDoor
open Go Go.RowKit
set_option maxRecDepth 100000

theorem setCells_heap {b : Nat} {t : TypeId} {z : Nat × Nat} : ∀ (vs : List Value) (o : Nat) (w : World) (cs : Array Value), w.heap[b]? = some (.cells cs t z) →
    ∃ cs', (w.setCells b o vs).heap[b]? = some (.cells cs' t z) ∧ cs'.size = cs.size ∧ ∀ j, j < o → cs'[j]? = cs[j]?
  | [], _, _, cs, h => ⟨cs, h, rfl, fun _ _ => rfl⟩
  | v :: vs, o, w, cs, h => by
    obtain ⟨cs', h1, h2, h3⟩ := setCells_heap vs (o + 1) (w.setCell ⟨b, o, none⟩ v) _ (heap_put v h)
    refine ⟨cs', h1, by rw [h2]; simp, fun j hj => ?_⟩
    rw [h3 j (by omega), Array.getElem?_setIfInBounds_ne (by omega)]
theorem setCells_grown (b : Nat) : ∀ (vs : List Value) (o : Nat) (w : World), w.grownBy (w.setCells b o vs) (some b)
  | [], _, _ => ⟨rfl, rfl, rfl, Nat.le_refl _, fun _ _ _ => rfl⟩
  | v :: vs, o, w => by
    have ih := setCells_grown b vs (o + 1) (w.setCell ⟨b, o, none⟩ v)
    have e : (w.setCell ⟨b, o, none⟩ v).heap.size = w.heap.size := by simp [World.setCell]
    exact ⟨ih.os, ih.tape, ih.output, by rw [← e]; exact ih.size, fun j hj hne => (ih.block j (by omega) hne).trans (Below.heap_setCell _ _ _ _ (fun e' => hne (by rw [e'])))⟩
theorem grown_trans {a b c : World} {row : Option Nat} (h : a.grownBy b row) (k : b.grownBy c row) : a.grownBy c row :=
  ⟨k.os.trans h.os, k.tape.trans h.tape, k.output.trans h.output, Nat.le_trans h.size k.size, fun j hj hne => (k.block j (Nat.lt_of_lt_of_le hj h.size) hne).trans (h.block j hj hne)⟩
theorem grown_of_below {w w' : World} (h : Below w.heap.size w w') (row : Option Nat) : w.grownBy w' row := ⟨h.os, h.tape, h.output, h.size, fun j hj _ => h.block j hj⟩
/-- The first ones of a row, behind a clearing of the others. -/
theorem own_cleared {w : World} {base g n cap : Nat} {e : TypeId} {z : Nat} {xs : List Value} (h : w.ownsRow base e z (.slice (some ⟨g, 0, none⟩) n cap) n xs) (m : Nat) (hm : m ≤ n) (vs : List Value) :
    (w.setCells g (m * z) vs).ownsRow base e z (.slice (some ⟨g, 0, none⟩) m cap) m (xs.take (m * z)) := by
  have hmz : m * z ≤ n * z := Nat.mul_le_mul_right z hm
  refine ⟨by rw [List.length_take, h.1]; omega, .inr ?_⟩
  rcases h.2 with ⟨h', _⟩ | ⟨g', cap', cur, h', hb, hg, hnc, hcm, hcs, ht⟩
  · simp at h'
  · simp only [Value.slice.injEq, Option.some.injEq, Addr.mk.injEq, and_true, true_and] at h'
    obtain ⟨rfl, rfl⟩ := h'
    obtain ⟨cs', h1, h2, h3⟩ := setCells_heap vs (m * z) w cur hg
    refine ⟨g, cap, cs', rfl, hb, h1, Nat.le_trans hm hnc, hcm, by rw [h2]; exact hcs, ?_⟩
    rw [← ht, List.take_take, Nat.min_eq_left hmz]
    apply List.ext_getElem?
    intro i
    rw [List.getElem?_take, List.getElem?_take]
    by_cases hi : i < m * z
    · rw [if_pos hi, if_pos hi, Array.getElem?_toList, Array.getElem?_toList]
      exact h3 i hi
    · rw [if_neg hi, if_neg hi]
theorem cellsT_take (L : List Tell) (m : Nat) (hm : m ≤ L.length) : (cellsT L).take (m * 3) = cellsT (L.take m) := by
  have h : cellsT L = cellsT (L.take m) ++ cellsT (L.drop m) := by rw [← cellsT_app, List.take_append_drop]
  have hl : (cellsT (L.take m)).length = m * 3 := by rw [cellsT_len, List.length_take, Nat.min_eq_left hm]
  rw [h, ← hl]
  exact List.take_left
/-- clear at tellings. -/
theorem run_clear_tells (w : World) (ty : TypeId) (b o n c : Nat) (hn : 0 < n) (hc : ∀ j, j < n * 3 → (w.cell? ⟨b, o + j, none⟩).isSome = true) (hf : ∀ j, j < n * 3 → w.frozen? ⟨b, o + j, none⟩ = false) :
    ∃ vs, (Builtin.clear_ #[69] ty #[.slice (some ⟨b, o, none⟩) n c]).run Tryz.prog w = .ok (.tuple #[]) (w.setCells b o vs) := by
  have hv : (zeroValue 68).run Tryz.prog w = .ok (.agg #[.string ⟨#[]⟩, .string ⟨#[]⟩, .int .i64 0]) w := Tryz.zeroValue68 w
  obtain ⟨vs, hvs⟩ : ∃ vs, (Builtin.zeroCells (#[.string ⟨#[]⟩, .string ⟨#[]⟩, .int .i64 0] : Array Value) n).toList = vs := ⟨_, rfl⟩
  have hlen : vs.length = n * 3 := by rw [← hvs]; simp [Builtin.zeroCells]
  have hone : ∀ v ∈ vs, v.oneCell' = true := by
    intro v hv'
    rw [← hvs] at hv'
    simp [Builtin.zeroCells] at hv'
    obtain ⟨i, hi, rfl⟩ := hv'
    have h3 : i % 3 < 3 := Nat.mod_lt _ (by decide)
    generalize i % 3 = r at h3
    match r, h3 with
    | 0, _ => rfl
    | 1, _ => rfl
    | 2, _ => rfl
    | r + 3, h => omega
  have hst := run_storeCells_cells (P := Tryz.prog) b o vs 0 w (by rw [hlen]; simpa using hc) (by rw [hlen]; simpa using hf) hone
  simp only [Nat.add_zero] at hst
  obtain ⟨m, rfl⟩ : ∃ m, n = m + 1 := ⟨n - 1, by omega⟩
  refine ⟨vs, ?_⟩
  simp [Builtin.clear_, run_underlying Tryz.underlying69, hv, Value.cells, hvs, hst]

set_option maxHeartbeats 1000000 in
/-- The function that Leave hands on. -/
theorem pcl (q b dd : Nat) (p s : ByteArray) (d : Nat) (w : World) (hq : q < w.heap.size) (hb : b < w.heap.size) (cq : w.cell? ⟨q, 0, none⟩ = some (.pointer (some ⟨b, 0, none⟩))) (cb : w.cell? ⟨b, 0, none⟩ = some (.int .i64 dd)) :
    Calls Tryz.prog 58 #[.agg #[.string p, .string s, .int .i64 d], .pointer (some ⟨q, 0, none⟩)] w fun r w' => r = .returned (.bool (decide (dd < d))) ∧ Below w.heap.size w w' := by
  have hB1 := (Below.refl w.heap.size w).alloc (Nat.le_refl _) (.cells #[.string p, .string s, .int .i64 d] 68)
  have cq1 := (hB1.cell (p := ⟨q, 0, none⟩) hq).trans cq
  have cb1 := (hB1.cell (p := ⟨b, 0, none⟩) hb).trans cb
  have H := Lib.hid hB1
  clear cq cb hB1
  go_enter Tryz.func58, Tryz.ntmps58
  go_wp2
  go_quiet (fail)
  go_wp2
  go_ret
  exact ⟨rfl, H.out.trans (below_drew_n _ _ nq)⟩

set_option maxHeartbeats 2000000 in
/-- slices.IndexFunc: the first one of those to go. -/
theorem pidx (q b k cap dd : Nat) (L : List Tell) (m : Nat) (x : Int) (w : World) (hx : x = if m = L.length then -1 else (m : Int)) (hq : q < w.heap.size) (hb : b < w.heap.size) (hk : k < w.heap.size) (hlen : L.length ≤ 1000) (hm : m ≤ L.length)
    (cq : w.cell? ⟨q, 0, none⟩ = some (.pointer (some ⟨b, 0, none⟩))) (cb : w.cell? ⟨b, 0, none⟩ = some (.int .i64 dd))
    (hc : ∀ j (h : j < L.length), w.cell? ⟨k, j * 3, none⟩ = some (.string (L[j]'h).p) ∧ w.cell? ⟨k, j * 3 + 1, none⟩ = some (.string (L[j]'h).s) ∧ w.cell? ⟨k, j * 3 + 2, none⟩ = some (.int .i64 (L[j]'h).d))
    (h1 : ∀ j (h : j < L.length), j < m → (L[j]'h).d ≤ dd) (h2 : ∀ j (h : j < L.length), m ≤ j → dd < (L[j]'h).d) :
    Calls Tryz.prog 70 #[.slice (some ⟨k, 0, none⟩) L.length cap, .func (.func 58) #[] #[.pointer (some ⟨q, 0, none⟩)]] w fun r w' => r = .returned (.int .i64 x) ∧ Below w.heap.size w w' := by
  have HX := Lib.hid hx
  clear hx
  have HC := Lib.hid hc
  have H1 := Lib.hid h1
  have H2 := Lib.hid h2
  have HQ := Lib.hid cq
  have HB := Lib.hid cb
  clear hc h1 h2 cq cb
  go_enter Tryz.func70, Tryz.ntmps70
  go_wp2
  go_loopg [8] (m + 1) (fun g i wr => ∃ j : Nat, g + j = m + 1 ∧ j ≤ m ∧ i = .int .i64 j ∧ Below w.heap.size w wr)
  case atStart => exact ⟨0, rfl, Nat.zero_le _, rfl, Below.refl _ _⟩
  case round =>
    obtain ⟨j, hg, hj, rfl, hBw⟩ := hrel
    by_cases hlt : j < L.length
    · obtain ⟨b0, b1, b2⟩ := HC.out j hlt
      have c0 := (hBw.cell (p := ⟨k, j * 3, none⟩) hk).trans b0
      have c1 := (hBw.cell (p := ⟨k, j * 3 + 1, none⟩) hk).trans b1
      have c2 := (hBw.cell (p := ⟨k, j * 3 + 2, none⟩) hk).trans b2
      clear b0 b1 b2
      have C := fun p s d => pcl q b dd p s d wr (Nat.lt_of_lt_of_le hq hBw.size) (Nat.lt_of_lt_of_le hb hBw.size) ((hBw.cell (p := ⟨q, 0, none⟩) hq).trans HQ.out) ((hBw.cell (p := ⟨b, 0, none⟩) hb).trans HB.out)
      have hltz : (j : Int) < (L.length : Int) := by omega
      have HW := Lib.hid hBw
      clear hBw
      by_cases hjm : j < m
      · have hd := H1.out j hlt hjm
        obtain ⟨t, ht⟩ : ∃ t, L[j]'hlt = t := ⟨_, rfl⟩
        rw [ht] at c0 c1 c2 hd
        have C := C t.p t.s t.d
        rw [decide_eq_false (by omega)] at C
        have C := Lib.hid C
        have hf := Lib.hid (show (m + 1 - (j + 1)) + (j + 1) = m + 1 by omega)
        have hjm := Lib.hid hjm
        clear ht hd hlt hj
        go_wp2_with fail
        refine C.out.mono ?_
        rintro r w2 ⟨rfl, hB2⟩
        have HW2 := Lib.hid (HW.out.trans (hB2.mono HW.out.size))
        clear hB2 C
        go_wp2
        go_roundg (m + 1 - (j + 1))
        case measure => have := hjm.out; omega
        case rel => exact ⟨j + 1, hf.out, hjm.out, by simp, HW2.out⟩
      · have hd := H2.out j hlt (by omega)
        obtain ⟨t, ht⟩ : ∃ t, L[j]'hlt = t := ⟨_, rfl⟩
        rw [ht] at c0 c1 c2 hd
        have C := C t.p t.s t.d
        rw [decide_eq_true (by omega)] at C
        have C := Lib.hid C
        obtain rfl : j = m := by omega
        have hR := Lib.hid (show x = j by rw [HX.out, if_neg (by omega)])
        clear ht hd hlt hj hjm
        go_wp2_with fail
        refine C.out.mono ?_
        rintro r w2 ⟨rfl, hB2⟩
        have HW2 := Lib.hid (HW.out.trans (hB2.mono HW.out.size))
        clear hB2 C
        go_wp2
        go_ret
        exact ⟨by rw [hR.out]; rfl, HW2.out⟩
    · obtain rfl : j = L.length := by omega
      have hR := Lib.hid (show x = -1 by rw [HX.out, if_pos (by omega)])
      have HW := Lib.hid hBw
      clear hBw hj hg
      go_wp2
      go_ret
      exact ⟨by rw [hR.out]; rfl, HW.out⟩

set_option maxHeartbeats 4000000 in
/-- slices.DeleteFunc: those to go stand behind those to stay. -/
theorem pdel (B q b k cap dd : Nat) (L : List Tell) (m : Nat) (w : World) (hq : q < w.heap.size) (hb : b < w.heap.size) (hlen : L.length ≤ 1000) (hm : m ≤ L.length)
    (cq : w.cell? ⟨q, 0, none⟩ = some (.pointer (some ⟨b, 0, none⟩))) (cb : w.cell? ⟨b, 0, none⟩ = some (.int .i64 dd))
    (ho : w.ownsRow B 68 3 (.slice (some ⟨k, 0, none⟩) L.length cap) L.length (cellsT L))
    (h1 : ∀ j (h : j < L.length), j < m → (L[j]'h).d ≤ dd) (h2 : ∀ j (h : j < L.length), m ≤ j → dd < (L[j]'h).d) :
    Calls Tryz.prog 57 #[.slice (some ⟨k, 0, none⟩) L.length cap, .func (.func 58) #[] #[.pointer (some ⟨q, 0, none⟩)]] w fun r w' =>
      r = .returned (.slice (some ⟨k, 0, none⟩) m cap) ∧ w'.ownsRow B 68 3 (.slice (some ⟨k, 0, none⟩) m cap) m (cellsT (L.take m)) ∧ w.grownBy w' (some k) := by
  have hk : k < w.heap.size := (ho.lt k rfl).2
  have hcap : L.length ≤ cap := by
    rcases ho.2 with ⟨h', _⟩ | ⟨g', cap', cur, h', _, _, hnc, _⟩
    · simp at h'
    · simp only [Value.slice.injEq, Option.some.injEq, Addr.mk.injEq, and_true, true_and] at h'
      obtain ⟨rfl, rfl⟩ := h'
      exact hnc
  obtain ⟨x, hx⟩ : ∃ x : Int, x = if m = L.length then -1 else (m : Int) := ⟨_, rfl⟩
  have hc := fun j h => row_cells ho j h
  have C1 := Lib.hid (pidx q b k cap dd L m x w hx hq hb hk hlen hm cq cb hc h1 h2)
  have HO := Lib.hid ho
  have HC := Lib.hid hc
  have H2 := Lib.hid h2
  have HQ := Lib.hid cq
  have HB := Lib.hid cb
  clear ho hc h1 h2 cq cb
  by_cases hml : m = L.length
  · rw [if_pos hml] at hx
    subst hml hx
    go_enter Tryz.func57, Tryz.ntmps57
    go_wp2_with fail
    refine C1.out.mono ?_
    rintro r w1 ⟨rfl, hB1⟩
    go_wp2
    go_ret
    exact ⟨rfl, by rw [List.take_length]; exact own_kept HO.out hB1, grown_of_below hB1 _⟩
  · rw [if_neg hml] at hx
    subst hx
    have hne : ((m : Int) == -1) = false := beq_eq_false_iff_ne.2 (by omega)
    have hlt : (m : Int) < (L.length : Int) := by omega
    go_enter Tryz.func57, Tryz.ntmps57
    go_wp2_with fail
    refine C1.out.mono ?_
    rintro r w1 ⟨rfl, hB1⟩
    clear C1
    go_wp2
    go_loopg [5, 6] (L.length) (fun g x5 i wr => ∃ j : Nat, L.length - j ≤ g ∧ j ≤ L.length ∧ m < j ∧ x5 = .int .i64 m ∧ i = .int .i64 j ∧ Below w.heap.size w wr)
    case atStart => exact ⟨m + 1, by omega, by omega, by omega, rfl, by simp, hB1⟩
    case round =>
      obtain ⟨j, hg, hjl, hmj, rfl, rfl, hBw⟩ := hrel
      by_cases hjl' : j < L.length
      · obtain ⟨b0, b1, b2⟩ := HC.out j hjl'
        have c0 := (hBw.cell (p := ⟨k, j * 3, none⟩) hk).trans b0
        have c1 := (hBw.cell (p := ⟨k, j * 3 + 1, none⟩) hk).trans b1
        have c2 := (hBw.cell (p := ⟨k, j * 3 + 2, none⟩) hk).trans b2
        have hd := H2.out j hjl' (by omega)
        clear b0 b1 b2
        obtain ⟨t, ht⟩ : ∃ t, L[j]'hjl' = t := ⟨_, rfl⟩
        rw [ht] at c0 c1 c2 hd
        have hB2 := hBw.alloc hBw.size (.cells #[.string t.p, .string t.s, .int .i64 t.d] 68)
        have C := pcl q b dd t.p t.s t.d (wr.alloc (.cells #[.string t.p, .string t.s, .int .i64 t.d] 68)) (Nat.lt_of_lt_of_le hq hB2.size) (Nat.lt_of_lt_of_le hb hB2.size) ((hB2.cell (p := ⟨q, 0, none⟩) hq).trans HQ.out) ((hB2.cell (p := ⟨b, 0, none⟩) hb).trans HB.out)
        rw [decide_eq_true hd] at C
        have C := Lib.hid C
        have hltz : (j : Int) < (L.length : Int) := by omega
        have HW := Lib.hid hB2
        have hnum := Lib.hid (show j + 1 ≤ L.length ∧ m < j + 1 ∧ L.length - (j + 1) < gk by omega)
        clear hBw hB2 ht hd hjl' hjl hmj hg hlt
        go_wp2_with fail
        refine C.out.mono ?_
        rintro r w2 ⟨rfl, hB2⟩
        have HW2 := Lib.hid (HW.out.trans (hB2.mono HW.out.size))
        clear hB2 C
        go_wp2
        go_roundg (L.length - (j + 1))
        case measure => exact hnum.out.2.2
        case rel => exact ⟨j + 1, Nat.le_refl _, hnum.out.1, hnum.out.2.1, rfl, by simp, HW2.out⟩
      · obtain rfl : j = L.length := by omega
        have ho := own_kept HO.out hBw
        have hsp : ∀ i, i < (L.length - m) * 3 → (wr.cell? ⟨k, m * 3 + i, none⟩).isSome = true := fun i hi => by
          rw [ho.cellAt _ (by omega), List.getElem?_eq_getElem (by rw [cellsT_len]; omega)]; rfl
        have hcl := fun ty => run_clear_tells wr ty k (m * 3) (L.length - m) (cap - m) (by omega) hsp (fun i _ => ho.frozenAt _)
        have HOC := Lib.hid (fun vs => own_cleared ho m hm vs)
        have HW := Lib.hid hBw
        have e1 : (L.length : Int) - (m : Int) = ((L.length - m : Nat) : Int) := by omega
        have e2 : (cap : Int) - (m : Int) = ((cap - m : Nat) : Int) := by omega
        have hmc : (m : Int) ≤ (cap : Int) := by omega
        have hmcn : ¬ cap = m := by omega
        have hml' : (m : Int) ≤ (L.length : Int) := by omega
        have hlc : (L.length : Int) ≤ (cap : Int) := by omega
        obtain ⟨vs, hvs⟩ := hcl 0
        clear ho hsp hcl hBw hg hjl
        go_wp2
        go_ret
        exact ⟨rfl, by rw [← cellsT_take L m hm]; exact HOC.out vs, grown_trans (grown_of_below HW.out _) (setCells_grown k vs _ _)⟩

end Go.Proofs.YtekmenkebokdoaaGreatDoor
