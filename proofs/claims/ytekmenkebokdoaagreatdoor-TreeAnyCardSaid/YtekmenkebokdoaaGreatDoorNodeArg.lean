/-
  An element that was handed in, and a pair of numbers.
-/
import Derived.Test.YtekmenkebokdoaaGreatDoorTreeRep
import Derived.OpenShut
import Derived.Deep.Slices
import Derived.Deep.Fields
import Derived.ChangeSame
import Derived.Carry
namespace Go.Proofs.YtekmenkebokdoaaGreatDoor
open Go Go.RowKit Go.ChangeShapes Go.Deep
set_option maxRecDepth 100000

theorem ncell_lt {w : World} {b o : Nat} {v : Value} (h : w.cell? ⟨b, o, none⟩ = some v) : b < w.heap.size := World.block_lt_of_cell? w _ h
/-- Elements one by one are a list of them. -/
theorem nodes_list {P : Nat → Prop} {w : World} {c : Nat → Nat → Value} : ∀ m : Nat, (∀ j, j < m → ∃ x, NodeV P w (.agg #[c j 0, c j 1, c j 2, c j 3, c j 4]) x) → ∃ K : List Nd, K.length = m ∧ ∀ j (h : j < K.length), NodeV P w (.agg #[c j 0, c j 1, c j 2, c j 3, c j 4]) (K[j]'h)
  | 0, _ => ⟨[], rfl, fun j h => absurd h (Nat.not_lt_zero j)⟩
  | m + 1, h => by
    obtain ⟨K, hl, hK⟩ := nodes_list m fun j hj => h j (by omega)
    obtain ⟨x, hx⟩ := h m (by omega)
    refine ⟨K ++ [x], by rw [List.length_append, hl]; rfl, fun j hj => ?_⟩
    by_cases hjm : j < K.length
    · rw [List.getElem_append_left hjm]; exact hK j hjm
    · have e : j = m := by rw [List.length_append] at hj; have : ([x] : List Nd).length = 1 := rfl; omega
      subst e
      rw [List.getElem_append_right (by omega)]
      simp only [List.getElem_singleton]
      exact hx
/-- Attributes one by one are a list of them. -/
theorem atts_list {w : World} {b off : Nat} : ∀ m : Nat, (∀ j, j < m → ∃ n v : ByteArray, w.cell? ⟨b, off + j * 2, none⟩ = some (.string n) ∧ w.cell? ⟨b, off + j * 2 + 1, none⟩ = some (.string v)) →
    ∃ A : List Att, A.length = m ∧ ∀ j (h : j < A.length), w.cell? ⟨b, off + j * 2, none⟩ = some (.string (A[j]'h).1) ∧ w.cell? ⟨b, off + j * 2 + 1, none⟩ = some (.string (A[j]'h).2)
  | 0, _ => ⟨[], rfl, fun j h => absurd h (Nat.not_lt_zero j)⟩
  | m + 1, h => by
    obtain ⟨A, hl, hA⟩ := atts_list m fun j hj => h j (by omega)
    obtain ⟨n, v, hx⟩ := h m (by omega)
    refine ⟨A ++ [(n, v)], by rw [List.length_append, hl]; rfl, fun j hj => ?_⟩
    by_cases hjm : j < A.length
    · rw [List.getElem_append_left hjm]; exact hA j hjm
    · have e : j = m := by rw [List.length_append] at hj; have : ([(n, v)] : List Att).length = 1 := rfl; omega
      subst e
      rw [List.getElem_append_right (by omega)]
      simp only [List.getElem_singleton]
      exact hx
theorem cells_five {cs : List Value} (h : cs.length = 5) : ∃ a b c d e, cs = [a, b, c, d, e] := by
  match cs, h with
  | [a, b, c, d, e], _ => exact ⟨a, b, c, d, e, rfl⟩
theorem atts_trod {H : Type} {enc : TypeId × Value → H} {W : World} {fuel : Nat} {c : Value} {x : DataW H × List MemPlace} (h : DataW.trod enc Tryz.prog W 0 (fun _ => true) true fuel 22 [c] = some x) : ∃ A, AttV (fun _ => True) W c A := by
  rcases open_slice Tryz.underlying22 h with ⟨hcs, hx⟩ | ⟨a, len, cap, m, nn, D, Pl, hcs, _, hl, hm, hmm, hx, hi⟩
  · simp at hcs
    exact ⟨[], none, 0, hcs, fun h => absurd h (Nat.lt_irrefl _)⟩
  · simp at hcs
    subst hcs
    simp only [if_true] at hmm
    have hC : Tryz.prog.cellsOf 50 = 2 := by kernel_rfl
    have hone : Tryz.prog.cellsOf 9 = 1 := by kernel_rfl
    have hget : ∀ i, i < len → ∀ q, q < 2 → ∃ z : ByteArray, W.cell? ((a.add (i * 2)).add q) = some (.string z) := fun i hin q hq => by
      obtain ⟨cs', h1, h2⟩ := hi i (by omega)
      rw [hC] at h1
      obtain ⟨ys, n', _, _, hlen, hyl, hfl⟩ := DataW.trod_struct Tryz.underlying50 h2
      obtain ⟨_, hcl, hat⟩ := World.cells?_some h1
      obtain ⟨y0, y1, rfl⟩ : ∃ y0 y1, ys = [y0, y1] := by
        match ys, hyl with
        | [y0, y1], _ => exact ⟨y0, y1, rfl⟩
      have e0 := hfl 0 _ rfl
      have e1 := hfl 1 _ rfl
      change DataW.trod enc Tryz.prog W 0 (fun _ => true) true n' 9 ((cs'.drop 0).take (Tryz.prog.cellsOf 9)) = some y0 at e0
      change DataW.trod enc Tryz.prog W 0 (fun _ => true) true n' 9 ((cs'.drop 1).take (Tryz.prog.cellsOf 9)) = some y1 at e1
      rw [hone] at e0 e1
      obtain ⟨z0, hz0, _, _⟩ := DataW.trod_string Tryz.underlying9 e0
      obtain ⟨z1, hz1, _, _⟩ := DataW.trod_string Tryz.underlying9 e1
      obtain ⟨c0, c1, rfl⟩ : ∃ c0 c1, cs' = [c0, c1] := by
        match cs', hcl with
        | [c0, c1], _ => exact ⟨c0, c1, rfl⟩
      simp at hz0 hz1
      subst hz0 hz1
      have hc := hat q hq
      match q, hq with
      | 0, _ => exact ⟨z0, hc⟩
      | 1, _ => exact ⟨z1, hc⟩
    by_cases hpos : 0 < len
    · obtain ⟨b, off, spot⟩ := a
      obtain ⟨zz, hzz⟩ := hget 0 hpos 0 (by decide)
      have hspot : spot = none := by simpa [Addr.add] using World.cell?_spot hzz
      subst hspot
      have hc : ∀ i, i < len → ∀ q, q < 2 → ∃ z : ByteArray, W.cell? ⟨b, off + i * 2 + q, none⟩ = some (.string z) := fun i hi q hq => by
        obtain ⟨z, hz⟩ := hget i hi q hq
        rw [Go.WideShapes.add_plain, Go.WideShapes.add_plain] at hz
        exact ⟨z, hz⟩
      obtain ⟨A, hA, hAc⟩ := atts_list (w := W) (b := b) (off := off) len fun j hj => by
        obtain ⟨n, hn⟩ := hc j hj 0 (by decide)
        obtain ⟨v, hv⟩ := hc j hj 1 (by decide)
        exact ⟨n, v, hn, hv⟩
      obtain ⟨z0, hz0⟩ := hc 0 hpos 0 (by decide)
      exact ⟨A, some ⟨b, off, none⟩, cap, by rw [hA], fun _ => ⟨b, off, rfl, trivial, ncell_lt hz0, hAc⟩⟩
    · have e : len = 0 := by omega
      subst e
      exact ⟨[], some a, cap, rfl, fun h => absurd h (Nat.lt_irrefl _)⟩
theorem node_trod {H : Type} {enc : TypeId × Value → H} {W : World} : ∀ (f fuel : Nat), fuel ≤ f → ∀ (cs : List Value) (x : DataW H × List MemPlace), DataW.trod enc Tryz.prog W 0 (fun _ => true) true fuel 25 cs = some x →
    ∃ (c0 c1 c2 c3 c4 : Value) (X : Nd), cs = [c0, c1, c2, c3, c4] ∧ NodeV (fun _ => True) W (.agg #[c0, c1, c2, c3, c4]) X
  | 0, fuel, hf, cs, x, h => by
    obtain ⟨ys, n', hfu, _⟩ := DataW.trod_struct Tryz.underlying25 h
    omega
  | f + 1, fuel, hf, cs, x, h => by
    obtain ⟨ys, n', hfu, _, hlen, hyl, hfl⟩ := DataW.trod_struct Tryz.underlying25 h
    have hC : Tryz.prog.cellsOf 25 = 5 := by kernel_rfl
    have h1s : Tryz.prog.cellsOf 9 = 1 := by kernel_rfl
    have h1a : Tryz.prog.cellsOf 22 = 1 := by kernel_rfl
    have h1n : Tryz.prog.cellsOf 23 = 1 := by kernel_rfl
    rw [hC] at hlen
    obtain ⟨c0, c1, c2, c3, c4, rfl⟩ := cells_five hlen
    obtain ⟨y0, y1, y2, y3, y4, rfl⟩ : ∃ y0 y1 y2 y3 y4, ys = [y0, y1, y2, y3, y4] := by
      match ys, hyl with
      | [y0, y1, y2, y3, y4], _ => exact ⟨y0, y1, y2, y3, y4, rfl⟩
    have e0 := hfl 0 _ rfl
    have e1 := hfl 1 _ rfl
    have e2 := hfl 2 _ rfl
    have e3 := hfl 3 _ rfl
    have e4 := hfl 4 _ rfl
    change DataW.trod enc Tryz.prog W 0 (fun _ => true) true n' 9 (([c0, c1, c2, c3, c4].drop 0).take (Tryz.prog.cellsOf 9)) = some y0 at e0
    change DataW.trod enc Tryz.prog W 0 (fun _ => true) true n' 9 (([c0, c1, c2, c3, c4].drop 1).take (Tryz.prog.cellsOf 9)) = some y1 at e1
    change DataW.trod enc Tryz.prog W 0 (fun _ => true) true n' 22 (([c0, c1, c2, c3, c4].drop 2).take (Tryz.prog.cellsOf 22)) = some y2 at e2
    change DataW.trod enc Tryz.prog W 0 (fun _ => true) true n' 23 (([c0, c1, c2, c3, c4].drop 3).take (Tryz.prog.cellsOf 23)) = some y3 at e3
    change DataW.trod enc Tryz.prog W 0 (fun _ => true) true n' 9 (([c0, c1, c2, c3, c4].drop 4).take (Tryz.prog.cellsOf 9)) = some y4 at e4
    rw [h1s] at e0 e1 e4
    rw [h1a] at e2
    rw [h1n] at e3
    simp only [List.drop_zero, List.drop_succ_cons, List.take_succ_cons, List.take_zero] at e0 e1 e2 e3 e4
    obtain ⟨s0, hs0, _, _⟩ := DataW.trod_string Tryz.underlying9 e0
    obtain ⟨s1, hs1, _, _⟩ := DataW.trod_string Tryz.underlying9 e1
    obtain ⟨s4, hs4, _, _⟩ := DataW.trod_string Tryz.underlying9 e4
    simp at hs0 hs1 hs4
    subst hs0 hs1 hs4
    obtain ⟨A, hA⟩ := atts_trod e2
    refine ⟨.string s0, .string s1, c2, c3, .string s4, ?_⟩
    rcases DataW.trod_slice Tryz.underlying23 e3 with ⟨hcs, _⟩ | ⟨a, len, cap, elems, rest, n2, hn2, hcs, _, _, hl, hm, hel, hi, _⟩
    · simp at hcs
      subst hcs
      exact ⟨.mk s0 s1 A [] s4, rfl, .mk s0 s1 s4 A [] c2 none 0 (fun _ _ => undef) hA (fun h => absurd h (Nat.lt_irrefl _)) (fun j h => absurd h (Nat.not_lt_zero j))⟩
    · simp at hcs
      subst hcs
      rw [hC] at hi
      have hnode : ∀ j, j < len → ∃ c0 c1 c2 c3 c4 X, NodeV (fun _ => True) W (.agg #[c0, c1, c2, c3, c4]) X ∧ ∀ q, q < 5 → W.cell? ((a.add (j * 5)).add q) = [c0, c1, c2, c3, c4][q]? := fun j hj => by
        have h1 := hi j hj
        rw [List.getElem?_eq_getElem (by omega), Option.bind_eq_some_iff] at h1
        obtain ⟨cs', h2, h3⟩ := h1
        obtain ⟨_, hcl, hat⟩ := World.cells?_some h2
        obtain ⟨d0, d1, d2, d3, d4, X, rfl, hX⟩ := node_trod f n2 (by omega) cs' _ h3
        exact ⟨d0, d1, d2, d3, d4, X, hX, hat⟩
      by_cases hpos : 0 < len
      · obtain ⟨b, off, spot⟩ := a
        have hspot : spot = none := by
          obtain ⟨d0, d1, d2, d3, d4, X, _, hq⟩ := hnode 0 hpos
          have := hq 0 (by decide)
          simpa [Addr.add] using World.cell?_spot this
        subst hspot
        have hcell : ∀ j, j < len → ∃ X, NodeV (fun _ => True) W (.agg #[(W.cell? ⟨b, off + j * 5 + 0, none⟩).getD undef, (W.cell? ⟨b, off + j * 5 + 1, none⟩).getD undef, (W.cell? ⟨b, off + j * 5 + 2, none⟩).getD undef, (W.cell? ⟨b, off + j * 5 + 3, none⟩).getD undef, (W.cell? ⟨b, off + j * 5 + 4, none⟩).getD undef]) X ∧
            ∀ q, q < 5 → W.cell? ⟨b, off + j * 5 + q, none⟩ = some ((W.cell? ⟨b, off + j * 5 + q, none⟩).getD undef) := fun j hj => by
          obtain ⟨d0, d1, d2, d3, d4, X, hX, hq⟩ := hnode j hj
          have hq' : ∀ q, q < 5 → W.cell? ⟨b, off + j * 5 + q, none⟩ = [d0, d1, d2, d3, d4][q]? := fun q h => by
            have := hq q h
            rw [Go.WideShapes.add_plain, Go.WideShapes.add_plain] at this
            exact this
          refine ⟨X, ?_, fun q h => ?_⟩
          · rw [hq' 0 (by decide), hq' 1 (by decide), hq' 2 (by decide), hq' 3 (by decide), hq' 4 (by decide)]
            exact hX
          · rw [hq' q h]
            match q, h with
            | 0, _ => rfl
            | 1, _ => rfl
            | 2, _ => rfl
            | 3, _ => rfl
            | 4, _ => rfl
        obtain ⟨K, hK, hKn⟩ := nodes_list (P := fun _ => True) (w := W) (c := fun j q => (W.cell? ⟨b, off + j * 5 + q, none⟩).getD undef) len fun j hj => by
          obtain ⟨X, hX, _⟩ := hcell j hj
          exact ⟨X, hX⟩
        subst hK
        refine ⟨.mk s0 s1 A K s4, rfl, .mk s0 s1 s4 A K c2 (some ⟨b, off, none⟩) cap (fun j q => (W.cell? ⟨b, off + j * 5 + q, none⟩).getD undef) hA (fun _ => ⟨b, off, rfl, trivial, ?_, fun j hj q hq => ?_⟩) hKn⟩
        · obtain ⟨_, _, hc⟩ := hcell 0 hpos
          exact ncell_lt (hc 0 (by decide))
        · obtain ⟨_, _, hc⟩ := hcell j hj
          exact hc q hq
      · have e : len = 0 := by omega
        subst e
        exact ⟨.mk s0 s1 A [] s4, rfl, .mk s0 s1 s4 A [] c2 (some a) cap (fun _ _ => undef) hA (fun h => absurd h (Nat.lt_irrefl _)) (fun j h => absurd h (Nat.not_lt_zero j))⟩
theorem okWide_arr {P : Program} {w : World} {r : Reach} {base n : Nat} {t e : TypeId} {v : Value} (ht : P.underlying t = some (.array n e)) (h : Value.okWide P w r base t v) : ∃ cs, v = .agg cs := by
  unfold Value.okWide at h
  rw [ht] at h
  obtain ⟨cs, h, _⟩ := h
  exact ⟨cs, h⟩
/-- An element that was handed in. -/
theorem node_open {H : Type} {enc : TypeId × Value → H} {W : World} {cs : Array Value} {d : DataW H} {p : List MemPlace} (h : DataW.Trod enc Tryz.prog W 0 (fun _ => true) true 25 (.agg cs) d p) : ∃ X, NodeV (fun _ => True) W (.agg cs) X := by
  obtain ⟨fuel, hf⟩ := h
  obtain ⟨c0, c1, c2, c3, c4, X, hcs, hX⟩ := node_trod fuel fuel (Nat.le_refl _) _ _ hf
  have e : cs = #[c0, c1, c2, c3, c4] := by
    have : cs.toList = [c0, c1, c2, c3, c4] := hcs
    rw [← Array.toArray_toList (xs := cs), this]
  exact ⟨X, by rw [e]; exact hX⟩
/-- A pair of numbers that was handed in. -/
theorem two_open {H : Type} {enc : TypeId × Value → H} {W : World} {cs : Array Value} {d : DataW H} {p : List MemPlace} (h : DataW.Trod enc Tryz.prog W 0 (fun _ => true) true 45 (.agg cs) d p) : ∃ a b : Int, Value.agg cs = .agg #[.int .i64 a, .int .i64 b] := by
  obtain ⟨fuel, hf⟩ := h
  obtain ⟨xs, m, _, _, hlen, hxl, hx⟩ := DataW.trod_array Tryz.underlying45 hf
  have hone : Tryz.prog.cellsOf 3 = 1 := by kernel_rfl
  have hC : Tryz.prog.cellsOf 45 = 2 := by kernel_rfl
  rw [hone] at hx
  rw [hC] at hlen
  obtain ⟨x0, x1, rfl⟩ : ∃ x0 x1, xs = [x0, x1] := by
    match xs, hxl with
    | [x0, x1], _ => exact ⟨x0, x1, rfl⟩
  obtain ⟨z0, hz0, _, _⟩ := DataW.trod_int Tryz.underlying3 (hx 0 (by decide))
  obtain ⟨z1, hz1, _, _⟩ := DataW.trod_int Tryz.underlying3 (hx 1 (by decide))
  have hl : cs.toList.length = 2 := hlen
  obtain ⟨c0, c1, hcs⟩ : ∃ c0 c1, cs.toList = [c0, c1] := by
    match hh : cs.toList, hl with
    | [c0, c1], _ => exact ⟨c0, c1, rfl⟩
  have hcs' : (Value.agg cs).cells.toList = [c0, c1] := hcs
  rw [hcs'] at hz0 hz1
  simp at hz0 hz1
  refine ⟨z0, z1, ?_⟩
  rw [← Array.toArray_toList (xs := cs), hcs, hz0, hz1]

end Go.Proofs.YtekmenkebokdoaaGreatDoor
