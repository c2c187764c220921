/-
  An element that was handed in, and a pair of numbers.
  THE LAW WriteAny, FOR EVERY INPUT: true, and each argument reads as it did. Its row, and its tied card: what the listed variables hold is tied to the text by the given tie.
-/
import Derived.Test.YtnlkpdodacphkaaGreatDoorA13
import Derived.OpenShut
import Derived.Deep.Slices
import Derived.Deep.Fields
import Derived.ChangeSame
import Derived.Carry
import Derived.Test.YtnlkpdodacphkaaGreatDoorA25
import Derived.Test.YtnlkpdodacphkaaGreatDoorCards
import Derived.Test.YtnlkpdodacphkaaGreatDoorTie
import Derived.ProofKit
import Derived.LaidMore
import Derived.Lay
import Derived.SevenTiedAt
import Derived.Stop.Joined
import Derived.Lib.LaidU8
namespace Go.Proofs.YtnlkpdodacphkaaGreatDoor
open Go Go.RowKit Go.ChangeShapes Go.Deep
set_option maxRecDepth 100000

theorem ncell_lt {w : World} {b o : Nat} {v : Value} (h : w.cell? ⟨b, o, none⟩ = some v) : b < w.heap.size := World.block_lt_of_cell? w _ h
/-- Elements one by one are a list of them. -/
theorem nodes_list {P : Nat → Prop} {w : World} {c : Nat → Nat → Value} : ∀ m : Nat, (∀ j, j < m → ∃ x, NodeV P w (.agg #[c j 0, c j 1, c j 2, c j 3, c j 4]) x) → ∃ K : List Nd, K.length = m ∧ ∀ j (h : j < K.length), NodeV P w (.agg #[c j 0, c j 1, c j 2, c j 3, c j 4]) (K[j]'h)
  | 0, _ => ⟨[], rfl, fun j h => absurd h (Nat.not_lt_zero j)⟩
  | m + 1, h => by
    obtain ⟨K, hl, hK⟩ := nodes_list m fun j hj => h j (by omega)
    obtain ⟨x, hx⟩ := h m (by omega)
    refine ⟨K ++ [x], by rw [List.length_append, hl]; rfl, fun j hj => ?_⟩
    by_cases hjm : j < K.length
    · rw [List.getElem_append_left hjm]; exact hK j hjm
    · have e : j = m := by rw [List.length_append] at hj; have : ([x] : List Nd).length = 1 := rfl; omega
      subst e
      rw [List.getElem_append_right (by omega)]
      simp only [List.getElem_singleton]
      exact hx
/-- Attributes one by one are a list of them. -/
theorem atts_list {w : World} {b off : Nat} : ∀ m : Nat, (∀ j, j < m → ∃ n v : ByteArray, w.cell? ⟨b, off + j * 2, none⟩ = some (.string n) ∧ w.cell? ⟨b, off + j * 2 + 1, none⟩ = some (.string v)) →
    ∃ A : List Att, A.length = m ∧ ∀ j (h : j < A.length), w.cell? ⟨b, off + j * 2, none⟩ = some (.string (A[j]'h).1) ∧ w.cell? ⟨b, off + j * 2 + 1, none⟩ = some (.string (A[j]'h).2)
  | 0, _ => ⟨[], rfl, fun j h => absurd h (Nat.not_lt_zero j)⟩
  | m + 1, h => by
    obtain ⟨A, hl, hA⟩ := atts_list m fun j hj => h j (by omega)
    obtain ⟨n, v, hx⟩ := h m (by omega)
    refine ⟨A ++ [(n, v)], by rw [List.length_append, hl]; rfl, fun j hj => ?_⟩
    by_cases hjm : j < A.length
    · rw [List.getElem_append_left hjm]; exact hA j hjm
    · have e : j = m := by rw [List.length_append] at hj; have : ([(n, v)] : List Att).length = 1 := rfl; omega
      subst e
      rw [List.getElem_append_right (by omega)]
      simp only [List.getElem_singleton]
      exact hx
theorem cells_five {cs : List Value} (h : cs.length = 5) : ∃ a b c d e, cs = [a, b, c, d, e] := by
  match cs, h with
  | [a, b, c, d, e], _ => exact ⟨a, b, c, d, e, rfl⟩
theorem atts_trod {H : Type} {enc : TypeId × Value → H} {W : World} {fuel : Nat} {c : Value} {x : DataW H × List MemPlace} (h : DataW.trod enc Tryz.prog W 0 (fun _ => true) true fuel 22 [c] = some x) : ∃ A, AttV (fun _ => True) W c A := by
  rcases open_slice Tryz.underlying22 h with ⟨hcs, hx⟩ | ⟨a, len, cap, m, nn, D, Pl, hcs, _, hl, hm, hmm, hx, hi⟩
  · simp at hcs
    exact ⟨[], none, 0, hcs, fun h => absurd h (Nat.lt_irrefl _), Nat.le_refl _⟩
  · simp at hcs
    subst hcs
    simp only [if_true] at hmm
    have hC : Tryz.prog.cellsOf 56 = 2 := by kernel_rfl
    have hone : Tryz.prog.cellsOf 9 = 1 := by kernel_rfl
    have hget : ∀ i, i < len → ∀ q, q < 2 → ∃ z : ByteArray, W.cell? ((a.add (i * 2)).add q) = some (.string z) := fun i hin q hq => by
      obtain ⟨cs', h1, h2⟩ := hi i (by omega)
      rw [hC] at h1
      obtain ⟨ys, n', _, _, hlen, hyl, hfl⟩ := DataW.trod_struct Tryz.underlying56 h2
      obtain ⟨_, hcl, hat⟩ := World.cells?_some h1
      obtain ⟨y0, y1, rfl⟩ : ∃ y0 y1, ys = [y0, y1] := by
        match ys, hyl with
        | [y0, y1], _ => exact ⟨y0, y1, rfl⟩
      have e0 := hfl 0 _ rfl
      have e1 := hfl 1 _ rfl
      change DataW.trod enc Tryz.prog W 0 (fun _ => true) true n' 9 ((cs'.drop 0).take (Tryz.prog.cellsOf 9)) = some y0 at e0
      change DataW.trod enc Tryz.prog W 0 (fun _ => true) true n' 9 ((cs'.drop 1).take (Tryz.prog.cellsOf 9)) = some y1 at e1
      rw [hone] at e0 e1
      obtain ⟨z0, hz0, _, _⟩ := DataW.trod_string Tryz.underlying9 e0
      obtain ⟨z1, hz1, _, _⟩ := DataW.trod_string Tryz.underlying9 e1
      obtain ⟨c0, c1, rfl⟩ : ∃ c0 c1, cs' = [c0, c1] := by
        match cs', hcl with
        | [c0, c1], _ => exact ⟨c0, c1, rfl⟩
      simp at hz0 hz1
      subst hz0 hz1
      have hc := hat q hq
      match q, hq with
      | 0, _ => exact ⟨z0, hc⟩
      | 1, _ => exact ⟨z1, hc⟩
    by_cases hpos : 0 < len
    · obtain ⟨b, off, spot⟩ := a
      obtain ⟨zz, hzz⟩ := hget 0 hpos 0 (by decide)
      have hspot : spot = none := by simpa [Addr.add] using World.cell?_spot hzz
      subst hspot
      have hc : ∀ i, i < len → ∀ q, q < 2 → ∃ z : ByteArray, W.cell? ⟨b, off + i * 2 + q, none⟩ = some (.string z) := fun i hi q hq => by
        obtain ⟨z, hz⟩ := hget i hi q hq
        rw [Go.WideShapes.add_plain, Go.WideShapes.add_plain] at hz
        exact ⟨z, hz⟩
      obtain ⟨A, hA, hAc⟩ := atts_list (w := W) (b := b) (off := off) len fun j hj => by
        obtain ⟨n, hn⟩ := hc j hj 0 (by decide)
        obtain ⟨v, hv⟩ := hc j hj 1 (by decide)
        exact ⟨n, v, hn, hv⟩
      obtain ⟨z0, hz0⟩ := hc 0 hpos 0 (by decide)
      exact ⟨A, some ⟨b, off, none⟩, cap, by rw [hA], fun _ => ⟨b, off, rfl, trivial, ncell_lt hz0, hAc⟩, by rw [hA]; exact hl⟩
    · have e : len = 0 := by omega
      subst e
      exact ⟨[], some a, cap, rfl, fun h => absurd h (Nat.lt_irrefl _), Nat.zero_le _⟩
theorem node_trod {H : Type} {enc : TypeId × Value → H} {W : World} : ∀ (f fuel : Nat), fuel ≤ f → ∀ (cs : List Value) (x : DataW H × List MemPlace), DataW.trod enc Tryz.prog W 0 (fun _ => true) true fuel 25 cs = some x →
    ∃ (c0 c1 c2 c3 c4 : Value) (X : Nd), cs = [c0, c1, c2, c3, c4] ∧ NodeV (fun _ => True) W (.agg #[c0, c1, c2, c3, c4]) X
  | 0, fuel, hf, cs, x, h => by
    obtain ⟨ys, n', hfu, _⟩ := DataW.trod_struct Tryz.underlying25 h
    omega
  | f + 1, fuel, hf, cs, x, h => by
    obtain ⟨ys, n', hfu, _, hlen, hyl, hfl⟩ := DataW.trod_struct Tryz.underlying25 h
    have hC : Tryz.prog.cellsOf 25 = 5 := by kernel_rfl
    have h1s : Tryz.prog.cellsOf 9 = 1 := by kernel_rfl
    have h1a : Tryz.prog.cellsOf 22 = 1 := by kernel_rfl
    have h1n : Tryz.prog.cellsOf 23 = 1 := by kernel_rfl
    rw [hC] at hlen
    obtain ⟨c0, c1, c2, c3, c4, rfl⟩ := cells_five hlen
    obtain ⟨y0, y1, y2, y3, y4, rfl⟩ : ∃ y0 y1 y2 y3 y4, ys = [y0, y1, y2, y3, y4] := by
      match ys, hyl with
      | [y0, y1, y2, y3, y4], _ => exact ⟨y0, y1, y2, y3, y4, rfl⟩
    have e0 := hfl 0 _ rfl
    have e1 := hfl 1 _ rfl
    have e2 := hfl 2 _ rfl
    have e3 := hfl 3 _ rfl
    have e4 := hfl 4 _ rfl
    change DataW.trod enc Tryz.prog W 0 (fun _ => true) true n' 9 (([c0, c1, c2, c3, c4].drop 0).take (Tryz.prog.cellsOf 9)) = some y0 at e0
    change DataW.trod enc Tryz.prog W 0 (fun _ => true) true n' 9 (([c0, c1, c2, c3, c4].drop 1).take (Tryz.prog.cellsOf 9)) = some y1 at e1
    change DataW.trod enc Tryz.prog W 0 (fun _ => true) true n' 22 (([c0, c1, c2, c3, c4].drop 2).take (Tryz.prog.cellsOf 22)) = some y2 at e2
    change DataW.trod enc Tryz.prog W 0 (fun _ => true) true n' 23 (([c0, c1, c2, c3, c4].drop 3).take (Tryz.prog.cellsOf 23)) = some y3 at e3
    change DataW.trod enc Tryz.prog W 0 (fun _ => true) true n' 9 (([c0, c1, c2, c3, c4].drop 4).take (Tryz.prog.cellsOf 9)) = some y4 at e4
    rw [h1s] at e0 e1 e4
    rw [h1a] at e2
    rw [h1n] at e3
    simp only [List.drop_zero, List.drop_succ_cons, List.take_succ_cons, List.take_zero] at e0 e1 e2 e3 e4
    obtain ⟨s0, hs0, _, _⟩ := DataW.trod_string Tryz.underlying9 e0
    obtain ⟨s1, hs1, _, _⟩ := DataW.trod_string Tryz.underlying9 e1
    obtain ⟨s4, hs4, _, _⟩ := DataW.trod_string Tryz.underlying9 e4
    simp at hs0 hs1 hs4
    subst hs0 hs1 hs4
    obtain ⟨A, hA⟩ := atts_trod e2
    refine ⟨.string s0, .string s1, c2, c3, .string s4, ?_⟩
    rcases DataW.trod_slice Tryz.underlying23 e3 with ⟨hcs, _⟩ | ⟨a, len, cap, elems, rest, n2, hn2, hcs, _, _, hl, hm, hel, hi, _⟩
    · simp at hcs
      subst hcs
      exact ⟨.mk s0 s1 A [] s4, rfl, .mk s0 s1 s4 A [] c2 none 0 (fun _ _ => undef) hA (fun h => absurd h (Nat.lt_irrefl _)) (fun j h => absurd h (Nat.not_lt_zero j))⟩
    · simp at hcs
      subst hcs
      rw [hC] at hi
      have hnode : ∀ j, j < len → ∃ c0 c1 c2 c3 c4 X, NodeV (fun _ => True) W (.agg #[c0, c1, c2, c3, c4]) X ∧ ∀ q, q < 5 → W.cell? ((a.add (j * 5)).add q) = [c0, c1, c2, c3, c4][q]? := fun j hj => by
        have h1 := hi j hj
        rw [List.getElem?_eq_getElem (by omega), Option.bind_eq_some_iff] at h1
        obtain ⟨cs', h2, h3⟩ := h1
        obtain ⟨_, hcl, hat⟩ := World.cells?_some h2
        obtain ⟨d0, d1, d2, d3, d4, X, rfl, hX⟩ := node_trod f n2 (by omega) cs' _ h3
        exact ⟨d0, d1, d2, d3, d4, X, hX, hat⟩
      by_cases hpos : 0 < len
      · obtain ⟨b, off, spot⟩ := a
        have hspot : spot = none := by
          obtain ⟨d0, d1, d2, d3, d4, X, _, hq⟩ := hnode 0 hpos
          have := hq 0 (by decide)
          simpa [Addr.add] using World.cell?_spot this
        subst hspot
        have hcell : ∀ j, j < len → ∃ X, NodeV (fun _ => True) W (.agg #[(W.cell? ⟨b, off + j * 5 + 0, none⟩).getD undef, (W.cell? ⟨b, off + j * 5 + 1, none⟩).getD undef, (W.cell? ⟨b, off + j * 5 + 2, none⟩).getD undef, (W.cell? ⟨b, off + j * 5 + 3, none⟩).getD undef, (W.cell? ⟨b, off + j * 5 + 4, none⟩).getD undef]) X ∧
            ∀ q, q < 5 → W.cell? ⟨b, off + j * 5 + q, none⟩ = some ((W.cell? ⟨b, off + j * 5 + q, none⟩).getD undef) := fun j hj => by
          obtain ⟨d0, d1, d2, d3, d4, X, hX, hq⟩ := hnode j hj
          have hq' : ∀ q, q < 5 → W.cell? ⟨b, off + j * 5 + q, none⟩ = [d0, d1, d2, d3, d4][q]? := fun q h => by
            have := hq q h
            rw [Go.WideShapes.add_plain, Go.WideShapes.add_plain] at this
            exact this
          refine ⟨X, ?_, fun q h => ?_⟩
          · rw [hq' 0 (by decide), hq' 1 (by decide), hq' 2 (by decide), hq' 3 (by decide), hq' 4 (by decide)]
            exact hX
          · rw [hq' q h]
            match q, h with
            | 0, _ => rfl
            | 1, _ => rfl
            | 2, _ => rfl
            | 3, _ => rfl
            | 4, _ => rfl
        obtain ⟨K, hK, hKn⟩ := nodes_list (P := fun _ => True) (w := W) (c := fun j q => (W.cell? ⟨b, off + j * 5 + q, none⟩).getD undef) len fun j hj => by
          obtain ⟨X, hX, _⟩ := hcell j hj
          exact ⟨X, hX⟩
        subst hK
        refine ⟨.mk s0 s1 A K s4, rfl, .mk s0 s1 s4 A K c2 (some ⟨b, off, none⟩) cap (fun j q => (W.cell? ⟨b, off + j * 5 + q, none⟩).getD undef) hA (fun _ => ⟨b, off, rfl, trivial, ?_, fun j hj q hq => ?_⟩) hKn⟩
        · obtain ⟨_, _, hc⟩ := hcell 0 hpos
          exact ncell_lt (hc 0 (by decide))
        · obtain ⟨_, _, hc⟩ := hcell j hj
          exact hc q hq
      · have e : len = 0 := by omega
        subst e
        exact ⟨.mk s0 s1 A [] s4, rfl, .mk s0 s1 s4 A [] c2 (some a) cap (fun _ _ => undef) hA (fun h => absurd h (Nat.lt_irrefl _)) (fun j h => absurd h (Nat.not_lt_zero j))⟩
theorem okWide_arr {P : Program} {w : World} {r : Reach} {base n : Nat} {t e : TypeId} {v : Value} (ht : P.underlying t = some (.array n e)) (h : Value.okWide P w r base t v) : ∃ cs, v = .agg cs := by
  unfold Value.okWide at h
  rw [ht] at h
  obtain ⟨cs, h, _⟩ := h
  exact ⟨cs, h⟩
/-- An element that was handed in. -/
theorem node_open {H : Type} {enc : TypeId × Value → H} {W : World} {cs : Array Value} {d : DataW H} {p : List MemPlace} (h : DataW.Trod enc Tryz.prog W 0 (fun _ => true) true 25 (.agg cs) d p) : ∃ X, NodeV (fun _ => True) W (.agg cs) X := by
  obtain ⟨fuel, hf⟩ := h
  obtain ⟨c0, c1, c2, c3, c4, X, hcs, hX⟩ := node_trod fuel fuel (Nat.le_refl _) _ _ hf
  have e : cs = #[c0, c1, c2, c3, c4] := by
    have : cs.toList = [c0, c1, c2, c3, c4] := hcs
    rw [← Array.toArray_toList (xs := cs), this]
  exact ⟨X, by rw [e]; exact hX⟩
/-- A pair of numbers that was handed in. -/
theorem two_open {H : Type} {enc : TypeId × Value → H} {W : World} {cs : Array Value} {d : DataW H} {p : List MemPlace} (h : DataW.Trod enc Tryz.prog W 0 (fun _ => true) true 26 (.agg cs) d p) : ∃ a b : Int, Value.agg cs = .agg #[.int .i64 a, .int .i64 b] := by
  obtain ⟨fuel, hf⟩ := h
  obtain ⟨xs, m, _, _, hlen, hxl, hx⟩ := DataW.trod_array Tryz.underlying26 hf
  have hone : Tryz.prog.cellsOf 3 = 1 := by kernel_rfl
  have hC : Tryz.prog.cellsOf 26 = 2 := by kernel_rfl
  rw [hone] at hx
  rw [hC] at hlen
  obtain ⟨x0, x1, rfl⟩ : ∃ x0 x1, xs = [x0, x1] := by
    match xs, hxl with
    | [x0, x1], _ => exact ⟨x0, x1, rfl⟩
  obtain ⟨z0, hz0, _, _⟩ := DataW.trod_int Tryz.underlying3 (hx 0 (by decide))
  obtain ⟨z1, hz1, _, _⟩ := DataW.trod_int Tryz.underlying3 (hx 1 (by decide))
  have hl : cs.toList.length = 2 := hlen
  obtain ⟨c0, c1, hcs⟩ : ∃ c0 c1, cs.toList = [c0, c1] := by
    match hh : cs.toList, hl with
    | [c0, c1], _ => exact ⟨c0, c1, rfl⟩
  have hcs' : (Value.agg cs).cells.toList = [c0, c1] := hcs
  rw [hcs'] at hz0 hz1
  simp at hz0 hz1
  refine ⟨z0, z1, ?_⟩
  rw [← Array.toArray_toList (xs := cs), hcs, hz0, hz1]

end Go.Proofs.YtnlkpdodacphkaaGreatDoor
namespace Go.Proofs.YtnlkpdodacphkaaGreatDoor
open Go.ChangeShapes Go.WideShapes Go.ChangeAt Go.RowKit
open Go.ChangeMaps (open_string shut_string)

theorem writeAny_own : ownKnob Tryz.prog.godebug = none := by kernel_rfl
theorem writeAny_first : Go.Pinned.utf8First = Lib.firstData := by kernel_rfl
theorem writeAny_accept : (Rows.laid_unicode_utf8_acceptRanges : DataW Unit) = Lib.acceptData := by kernel_rfl
theorem writeAny_tabs {W : World} (h : laidMetH Tryz.prog Rows.writeAnyRow.laid W) : Tabs W := by
  rw [MakeChecks.laidMetH_plain _ _ _ (by kernel_rfl)] at h
  have h3 : Lib.VarReads Tryz.prog W "unicode/utf8.first" Lib.firstData := by rw [← writeAny_first]; exact Lib.laidMet.reads h (.tail _ (.tail _ (.tail _ (.tail _ (.tail _ (.tail _ (.tail _ (.tail _ (.head _)))))))))
  have h4 : Lib.VarReads Tryz.prog W "unicode/utf8.acceptRanges" Lib.acceptData := by rw [← writeAny_accept]; exact Lib.laidMet.reads h (.tail _ (.tail _ (.tail _ (.head _))))
  exact Go.Proofs.utf8Tabs_of_reads Tryz.lays260 ⟨by kernel_rfl, by kernel_rfl, by kernel_rfl, by kernel_rfl, by kernel_rfl, by kernel_rfl, by kernel_rfl⟩ h3 h4
theorem writeAny_ent {W : World} (h : laidMetH Tryz.prog Rows.writeAnyRow.laid W) (hsh : W.ShapedOpen Tryz.prog) : EntV W := by
  rw [MakeChecks.laidMetH_plain _ _ _ (by kernel_rfl)] at h
  have e0 : (Rows.laid_galliard_entity_names : DataW Unit) = namesData := by kernel_rfl
  have r0 : Lib.VarReads Tryz.prog W "galliard/entity.names" namesData := by rw [← e0]; exact Lib.laidMet.reads h (.tail _ (.tail _ (.tail _ (.tail _ (.tail _ (.tail _ (.tail _ (.head _))))))))
  have e1 : (Rows.laid_galliard_entity_bases : DataW Unit) = basesData := by kernel_rfl
  have r1 : Lib.VarReads Tryz.prog W "galliard/entity.bases" basesData := by rw [← e1]; exact Lib.laidMet.reads h (.tail _ (.tail _ (.tail _ (.tail _ (.tail _ (.tail _ (.head _)))))))
  have e2 : (Rows.laid_strconv_ErrSyntax : DataW Unit) = synData := by kernel_rfl
  have r2 : Lib.VarReads Tryz.prog W "strconv.ErrSyntax" synData := by rw [← e2]; exact Lib.laidMet.reads h (.tail _ (.tail _ (.tail _ (.tail _ (.tail _ (.head _))))))
  exact entV_of hsh r0 r1 r2

set_option maxRecDepth 100000 in
theorem writeAny_lifted (os : Os) (started : os.Started) (H : Type) (enc : TypeId × Value → H) :
    ReturnsInHanded {} Tryz.checked os 3 .any (fun w args => (Rows.writeAnySpec.pre enc Tryz.prog Tryz.f3 Rows.writeAnyRow.domain false w args ∧ laidMetH Tryz.prog Rows.writeAnyRow.laid w) ∧ sizedMet enc Tryz.prog Tryz.f3 (OpenSpec.ofChange Rows.writeAnySpec) false w args)
      (Rows.writeAnySpec.post enc Tryz.prog Tryz.f3 false true false false) := by
  refine lift_both (C := Tryz.checked) (X := fun w _ => laidMetH Tryz.prog Rows.writeAnyRow.laid w) (fun _ _ _ hh h => h.of_heap hh) writeAny_own started (by kernel_rfl) Tryz.func3
    (ChangeSpec.witness_shaped (enc := enc) (C := Tryz.checked) (os := os) (X := fun w _ => laidMetH Tryz.prog Rows.writeAnyRow.laid w) false (World.laidAll Tryz.prog os Rows.writeAnyRow.laid) #[.agg #[.string ⟨#[]⟩, .string ⟨#[]⟩, .slice none 0 0, .slice none 0 0, .string ⟨#[]⟩], .agg #[.int .i64 0, .int .i64 0], .string ⟨#[]⟩] 8 (World.laidAll_os _ _ _)
      (World.shaped_of_ZipB (by kernel_rfl) (by kernel_rfl)) (by kernel_rfl) (by kernel_rfl) (by kernel_rfl)
      (by rw [MakeChecks.laidMetH_plain _ _ _ (by kernel_rfl)]; exact laidMet_laidAll _ (by kernel_rfl) (by kernel_rfl))) ?_
  intro W base args ds gs before hval0 hW _ _ hL hsh _
  have hval : ∀ (j : Nat) t v, Tryz.f3.params[j]? = some t → args[j]? = some v → Value.okWide Tryz.prog W .any base t v := hval0
  have hW' := hW
  obtain ⟨p, q, hA0, hV, rfl, _, _⟩ := hW
  have hA : DataW.TrodAll enc Tryz.prog W 0 (fun _ => true) true Tryz.f3.params.toList args.toList ds p := hA0
  rw [Tryz.params3] at hA hval
  obtain ⟨v0, v1, v2, d0, d1, d2, p0, p1, p2, rfl, rfl, rfl, h0, h1, h2⟩ := trodAll_three hA
  obtain ⟨rfl, rfl⟩ := trodVars_none hV
  obtain ⟨x0, rfl, _⟩ := okWide_struct Tryz.underlying25 (hval 0 25 v0 rfl rfl)
  have o0 := node_open h0
  obtain ⟨x1, rfl⟩ := okWide_arr Tryz.underlying26 (hval 1 26 v1 rfl rfl)
  have o1 := two_open h1
  obtain ⟨x2, rfl, rfl, rfl, wx2⟩ := open_string Tryz.underlying9 (hval 2 9 v2 rfl rfl) h2
  clear hA0 hval0
  simp only [List.append_nil] at hW'
  have hlt : ∀ x ∈ p0 ++ p1, x.block < W.heap.size := fun x hx => by simpa using hW'.lt x (by simpa using hx)
  have hlo : laidOutB Tryz.prog = true := by kernel_rfl
  refine (anyw_any (.agg x0) (.agg x1) x2 W (writeAny_ent hL hsh) (writeAny_tabs hL) o0 o1).mono fun e W' ⟨he, hb⟩ => ?_
  subst he
  refine ⟨_, rfl, _, _, _, [], p0 ++ (p1 ++ ([])), [], hW', ?_, ?_, ?_, hb.frame _, fun h => by cases h⟩
  · exact trodAll_mk1 (shut_bool Tryz.underlying4 _)
  · exact trodAll_mk3 (RowKit.Below.trod hlo (by kernel_rfl) (of_decide_eq_true (by kernel_rfl)) h0 hb (fun x hx => hlt x (by simp [hx]))) (RowKit.Below.trod hlo (by kernel_rfl) (of_decide_eq_true (by kernel_rfl)) h1 hb (fun x hx => hlt x (by simp [hx]))) (shut_string Tryz.underlying9 wx2)
  · rfl

theorem writeAny_holds : Rows.WriteAnySaid :=
  OpenClaim.holds_of_wide 3 Tryz.f3 rfl rfl rfl rfl rfl rfl rfl ⟨rfl, rfl, rfl, rfl, rfl⟩ rfl rfl rfl rfl rfl (by kernel_rfl) Tryz.func3 (by kernel_rfl)
    (of_decide_eq_true (by kernel_rfl)) (by unfold Func.isWrapper; rw [if_neg (of_decide_eq_false (by kernel_rfl))]; exact ⟨rfl, rfl⟩)
    (fun os started H enc _ => writeAny_lifted os started H enc)

theorem writeAny_card : Rows.WriteAnyCardSaid :=
  Claim7.holds_tied_plain_at .later [] [.data, .data, .data, .data, .sentinel, .sentinel, .data, .data, .pinned] true (true, "c79c4fae9d935a4f28e7aa0f0af0a030d58d1dfaa94c478d8eaa3cc5f8f66eaf") true writeAny_holds (fun _ h => by cases h) (by kernel_rfl) (fun _ h => by cases h) writeAny_row_tie rfl ⟨rfl, rfl⟩ (by kernel_rfl) rfl
    (fun f fn hf hfn => by
      obtain rfl : f = 3 := Option.some.inj ((show Tryz.prog.funcNamed "galliard/galliardlaw07.WriteAny" = some 3 by kernel_rfl).symm.trans hf) |>.symm
      obtain rfl : fn = Tryz.f3 := (Option.some.inj (Tryz.func3.symm.trans hfn)).symm
      exact ⟨by kernel_rfl, fun j t ht => by
        rw [Tryz.params3] at ht
        have hm : t ∈ [25, 26, 9] := by simpa using Array.mem_of_getElem? ht
        have hall : ([25, 26, 9].all fun u => !Tryz.prog.wantsStandIn u) = true := by kernel_rfl
        exact (show Tryz.prog.wantsStandIn t = false by simpa using List.all_eq_true.1 hall t hm)⟩)
    (by kernel_rfl)
#print axioms writeAny_card
end Go.Proofs.YtnlkpdodacphkaaGreatDoor
