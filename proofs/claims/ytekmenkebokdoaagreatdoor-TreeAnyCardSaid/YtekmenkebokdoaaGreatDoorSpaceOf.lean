/-
  The walk of (*Spaces).Of.
-/
import Derived.Test.YtekmenkebokdoaaGreatDoorSpaceBack
namespace Go.Proofs.YtekmenkebokdoaaGreatDoor
open Go Go.RowKit Go.Shelf
set_option maxRecDepth 100000
attribute [local go_sem] Oper.semAt_some

set_option maxHeartbeats 1000000 in
theorem pof_nil (p : ByteArray) (w : World) :
    Calls Tryz.prog 66 #[.pointer none, .string p] w fun r w' => r = .returned (.tuple #[.string ⟨#[]⟩, .bool false]) ∧ Below w.heap.size w w' := by
  go_enter Tryz.func66, Tryz.ntmps66
  go_wp2
  refine bodyPost_ret (v := .tuple #[.string ⟨#[]⟩, .bool false]) (by simp [results, Tryz.f66, go_sem]) rfl ?_
  exact ⟨rfl, (((Below.refl _ w).alloc (Nat.le_refl _) _).alloc (by simp) _).alloc (by simp; omega) _⟩

set_option maxHeartbeats 4000000 in
theorem pof0 (B b d : Nat) (L : List Tell) (p : ByteArray) (w : World) (hS : Sp B b d L w) (hlen : L.length ≤ 1000) (n : Nat) (hn : 4 ≤ n) :
    CallsIn Fence.wide n Tryz.prog 66 #[.pointer (some ⟨b, 0, none⟩), .string p] w fun r w' => r = .returned (.tuple #[.string ((ofT L p).getD bNone), .bool (ofT L p).isSome]) ∧ Below w.heap.size w w' := by
  have h1 : 1 ≤ n := by omega
  have hlt := hS.lt
  obtain ⟨hbase, k, cap, hb, ho⟩ := hS
  have c1 := Lib.cell_of_heap hb 1
  simp only [List.getElem?_toArray, List.getElem?_cons_zero, List.getElem?_cons_succ] at c1
  have hk : k < w.heap.size := (ho.lt k rfl).2
  have HO := Lib.hid ho
  have HB := Lib.hid hb
  have hB3 : Below w.heap.size w (((w.alloc (.cells #[.string p] 9)).alloc (.cells #[.string ⟨#[]⟩] 9)).alloc (.cells #[.bool false] 4)) := (((Below.refl _ w).alloc (Nat.le_refl _) _).alloc (by simp) _).alloc (by simp; omega) _
  have c3 := (hB3.cell (p := ⟨b, 1, none⟩) hlt).trans c1
  clear ho hb c1
  refine callsIn_of_wp_marks Tryz.func66 rfl trivial ?_ rfl
  simp only [Tryz.ntmps66, List.size_toArray, List.length_cons, List.length_nil, Nat.reduceAdd, Nat.reduceSub, Array.replicate_succ, Array.replicate_zero, List.push_toArray, List.append_toArray, List.nil_append, List.cons_append]
  gi_wp2
  refine ⟨trivial, ?_⟩
  refine (pback (n - 1) _ _ _ _).mono ?_
  rintro e w' ⟨rfl, rfl⟩
  gi_wp2
  have bP := ((Boxed.new w 9 (.string p)).alloc (.cells #[.string ⟨#[]⟩] 9)).alloc (.cells #[.bool false] 4)
  have bU := (Boxed.new (w.alloc (.cells #[.string p] 9)) 9 (.string ⟨#[]⟩)).alloc (.cells #[.bool false] 4)
  have bK := Boxed.new ((w.alloc (.cells #[.string p] 9)).alloc (.cells #[.string ⟨#[]⟩] 9)) 4 (.bool false)
  simp only [World.size_alloc] at bU bK
  have hs3 : (((w.alloc (.cells #[.string p] 9)).alloc (.cells #[.string ⟨#[]⟩] 9)).alloc (.cells #[.bool false] 4)).heap.size = w.heap.size + 3 := by simp
  obtain ⟨w3, hw3⟩ : ∃ w3, ((w.alloc (.cells #[.string p] 9)).alloc (.cells #[.string ⟨#[]⟩] 9)).alloc (.cells #[.bool false] 4) = w3 := ⟨_, rfl⟩
  rw [hw3] at bP bU bK hB3 hs3 ⊢
  clear hw3 c3
  have bS := Boxed.new w3 69 (.slice (some ⟨k, 0, none⟩) L.length cap)
  have eP := bP.alloc (.cells #[.slice (some ⟨k, 0, none⟩) L.length cap] 69)
  have eU := bU.alloc (.cells #[.slice (some ⟨k, 0, none⟩) L.length cap] 69)
  have eK := bK.alloc (.cells #[.slice (some ⟨k, 0, none⟩) L.length cap] 69)
  have hB4 : Below w.heap.size w (w3.alloc (.cells #[.slice (some ⟨k, 0, none⟩) L.length cap] 69)) := hB3.alloc (by omega) _
  have hs4 : (w3.alloc (.cells #[.slice (some ⟨k, 0, none⟩) L.length cap] 69)).heap.size = w.heap.size + 4 := by simp [hs3]
  rw [hs3] at bS
  obtain ⟨w4, hw4⟩ : ∃ w4, w3.alloc (.cells #[.slice (some ⟨k, 0, none⟩) L.length cap] 69) = w4 := ⟨_, rfl⟩
  rw [hw4] at eP eU eK bS hB4 hs4 ⊢
  clear hw4 hB3 hs3 bP bU bK
  have hcs : ∀ j (h : j < L.length), w4.cell? ⟨k, j * 3, none⟩ = some (.string (L[j]'h).p) ∧ w4.cell? ⟨k, j * 3 + 1, none⟩ = some (.string (L[j]'h).s) ∧ w4.cell? ⟨k, j * 3 + 2, none⟩ = some (.int .i64 (L[j]'h).d) := fun j h => by
    have c := row_cells HO.out j h
    exact ⟨(hB4.cell (p := ⟨k, j * 3, none⟩) hk).trans c.1, (hB4.cell (p := ⟨k, j * 3 + 1, none⟩) hk).trans c.2.1, (hB4.cell (p := ⟨k, j * 3 + 2, none⟩) hk).trans c.2.2⟩
  refine wpIn_rangeFunc_ownH rfl h1 (gf := 110) (lb := #[.pointer (some ⟨w.heap.size + 1 + 1 + 1, 0, none⟩)]) rfl trivial (enters_of Tryz.func110 (by kernel_rfl) rfl)
    (pback_stops (n - 1) (by omega) (w.heap.size + 1 + 1 + 1) (w.heap.size + 4) k cap L hlen w4 (by omega) (by omega) (by omega) bS.cell hcs) belowK_t (belowK_b (by omega)) (Below.refl _ _) (fun _ => rfl)
    (fun pre W => (((((∀ y ∈ pre, y.2.p ≠ p) ∧ Boxed W w.heap.size 9 (.string p)) ∧ Boxed W (w.heap.size + 1) 9 (.string ⟨#[]⟩)) ∧ Boxed W (w.heap.size + 1 + 1) 4 (.bool false)) ∧ Boxed W (w.heap.size + 1 + 1 + 1) 69 (.slice (some ⟨k, 0, none⟩) L.length cap)) ∧ Below w.heap.size w W)
    (fun c pre W => (c = .ret ∧ ∃ pre' x, pre = pre' ++ [x] ∧ (∀ y ∈ pre', y.2.p ≠ p) ∧ x.2.p = p ∧ Boxed W (w.heap.size + 1) 9 (.string x.2.s) ∧ Boxed W (w.heap.size + 1 + 1) 4 (.bool true)) ∧ Below w.heap.size w W)
    (OwnFrom.and (OwnFrom.and (OwnFrom.and (OwnFrom.and (OwnFrom.and (ownFrom_pure _ _) (Own.from (boxed_own _ _ _) _)) (Own.from (boxed_own _ _ _) _)) (Own.from (boxed_own _ _ _) _)) (Own.from (boxed_own _ _ _) _)) (ownFrom_below (Nat.le_refl _) (by omega)))
    (fun c => OwnFrom.and (Own.from (fun pre X Y row hs hg hr => by
      obtain ⟨hc, pre', x, e, h1, h2, h3, h4⟩ := hs
      exact ⟨hc, pre', x, e, h1, h2, boxed_own _ _ (fun (_ : Unit) => Value.string x.2.s) () X Y row h3 hg hr, boxed_own _ _ (fun (_ : Unit) => Value.bool true) () X Y row h4 hg hr⟩) _) (ownFrom_below (Nat.le_refl _) (by omega)))
    ⟨⟨⟨⟨⟨(by simp), eP⟩, eU⟩, eK⟩, bS⟩, hB4⟩
    (fun x a' W => ∃ Bx, w.heap.size + 1 + 1 < Bx ∧ W.heap[Bx]? = some (.cells #[.string x.2.p, .string x.2.s, .int .i64 x.2.d] 68 (0, 0)) ∧ a' = { tmps := #[.pointer (some ⟨b, 0, none⟩), .string p, undef, .pointer (some ⟨w.heap.size, 0, none⟩), .pointer (some ⟨w.heap.size + 1, 0, none⟩), .pointer (some ⟨w.heap.size + 1 + 1, 0, none⟩), undef, .pointer (some ⟨Bx, 0, none⟩), .pointer (some ⟨b, 0, none⟩), .bool false, .pointer (some ⟨b, 0, none⟩), .pointer (some ⟨b, 0, none⟩), .pointer (some ⟨b, 1, none⟩), .slice (some ⟨k, 0, none⟩) L.length cap, .func (.func 110) #[] #[.pointer (some ⟨w.heap.size + 1 + 1 + 1, 0, none⟩)], .int .i64 (x.1 : Int), tellV x.2, undef, undef, undef, undef, undef, undef], defers := [] })
    (fun x a' _ X Y row hs hg hr => by
      obtain ⟨Bx, h1, h2, h3⟩ := hs
      refine ⟨Bx, h1, (hg.block Bx (Array.getElem?_eq_some_iff.1 h2).1 (fun e' => ?_)).trans h2, h3⟩
      obtain ⟨_, o, ho, hc⟩ := hr Bx e'.symm
      rw [h2] at ho; cases ho; cases hc)
    ?assign ?body ?done ?stop
  case assign =>
    rintro l pre x W K ⟨⟨⟨⟨⟨hp, bP1⟩, bU1⟩, bK1⟩, bS1⟩, hB1⟩ hK
    dsimp only [tellV] at hK ⊢
    gi_wp2
    exact hK _ _ ((KeepsOthers.alloc _ _).from _) ((Below.refl _ W).alloc (by have := bS1.lt; omega) _) ⟨⟨⟨⟨⟨hp, bP1.alloc _⟩, bU1.alloc _⟩, bK1.alloc _⟩, bS1.alloc _⟩, hB1.alloc hB1.size _⟩ ⟨W.heap.size, bK1.lt, World.alloc_heap_new W _, rfl⟩
  case body =>
    rintro l pre x a' W hl ⟨r, hr⟩ ⟨⟨⟨⟨⟨hp, bP1⟩, bU1⟩, bK1⟩, bS1⟩, hB1⟩ ⟨Bx, hBx, bX, rfl⟩ hlt
    have cP := bP1.cell
    have x0 := Lib.cell_of_heap bX 0
    have x1 := Lib.cell_of_heap bX 1
    simp only [List.getElem?_toArray, List.getElem?_cons_zero, List.getElem?_cons_succ] at x0 x1
    have cU := bU1.cell
    have fU := bU1.frozen
    have cK := (bK1.other (B' := w.heap.size + 1) (by omega) (.string x.2.s)).cell
    have fK := (bK1.other (B' := w.heap.size + 1) (by omega) (.string x.2.s)).frozen
    dsimp only [tellV]
    gi_wp2
    · rename_i hx
      have hx' : x.2.p = p := tl_inj (by simpa using hx)
      refine ⟨((KeepsOthers.setCell _ _ _).trans (KeepsOthers.setCell _ _ _)).from _, ⟨rfl, pre, x, rfl, hp, hx', ?_, ?_⟩, (hB1.setCell (p := ⟨w.heap.size + 1, 0, none⟩) (by simp) _).setCell (p := ⟨w.heap.size + 1 + 1, 0, none⟩) (by simp; omega) _⟩
      · exact (bU1.set _).other (by omega) _
      · exact (bK1.other (by omega) _).set _
    · rename_i hx
      have hx' : x.2.p ≠ p := fun e => by rw [e] at hx; simp at hx
      exact ⟨KeepsFrom.refl _ _, Below.refl _ _, ⟨⟨⟨⟨fun y hy => (List.mem_append.1 hy).elim (hp y) (fun e => by simp at e; subst e; exact hx'), bP1⟩, bU1⟩, bK1⟩, bS1⟩, hB1⟩
  case done =>
    rintro D ys W hD hys ⟨⟨⟨⟨⟨hp, bP1⟩, bU1⟩, bK1⟩, bS1⟩, hB1⟩ hK
    have cU := bU1.cell
    have fU := bU1.frozen
    have cK := (bK1.other (B' := w.heap.size + 1) (by omega) (.string ⟨#[]⟩)).cell
    have fK := (bK1.other (B' := w.heap.size + 1) (by omega) (.string ⟨#[]⟩)).frozen
    have bU2 := (bU1.set (.string ⟨#[]⟩)).other (B' := w.heap.size + 1 + 1) (by omega) (.bool false)
    have bK2 := (bK1.other (B' := w.heap.size + 1) (by omega) (.string ⟨#[]⟩)).set (.bool false)
    have hK2 := ((KeepsOthers.setCell W ⟨w.heap.size + 1, 0, none⟩ (.string ⟨#[]⟩)).trans (KeepsOthers.setCell _ ⟨w.heap.size + 1 + 1, 0, none⟩ (.bool false))).same D _ hK rfl
    have hB2 := (hB1.setCell (p := ⟨w.heap.size + 1, 0, none⟩) (by simp) (.string ⟨#[]⟩)).setCell (p := ⟨w.heap.size + 1 + 1, 0, none⟩) (by simp; omega) (.bool false)
    have hno : ofT L p = none := by
      unfold ofT
      rw [← hys, List.find?_eq_none.2 (fun t ht => ?_)]
      · rfl
      · obtain ⟨y, hy, rfl⟩ := List.mem_map.1 ht
        simpa using hp y hy
    gi_wp2
    refine ⟨by simp, .inl ⟨_, _, rfl, run_takeDeferred hK2, ?_⟩⟩
    have r1 := cell_kept bU2.cell (grownBy_putObj' _ D (.deferred none)) (fun r e => by cases e; exact ⟨_, hK2, rfl⟩)
    have r2 := cell_kept bK2.cell (grownBy_putObj' _ D (.deferred none)) (fun r e => by cases e; exact ⟨_, hK2, rfl⟩)
    refine ⟨.tuple #[.string ⟨#[]⟩, .bool false], ?_, by rw [hno]; rfl, hB2.trans (belowK_b (w := w) (Nat.le_refl _) _ D _ _ (by omega) hK2 rfl rfl)⟩
    simp [results, Tryz.f66, go_sem, r1, r2]
  case stop =>
    rintro D c pre W hD hpre ⟨⟨rfl, pre', x, rfl, hp, hx, bU1, bK1⟩, hB1⟩ hK
    have hyes : ofT L p = some x.2.s := by
      obtain ⟨post, hpost⟩ := hpre
      unfold ofT
      rw [← hpost, List.map_append, List.append_assoc, List.find?_append, List.find?_eq_none.2 (fun t ht => ?_)]
      · simp [hx]
      · obtain ⟨y, hy, rfl⟩ := List.mem_map.1 ht
        simpa using hp y hy
    gi_wp2
    refine ⟨by simp, .inl ⟨_, _, rfl, run_takeDeferred hK, ?_⟩⟩
    have r1 := cell_kept bU1.cell (grownBy_putObj' _ D (.deferred none)) (fun r e => by cases e; exact ⟨_, hK, rfl⟩)
    have r2 := cell_kept bK1.cell (grownBy_putObj' _ D (.deferred none)) (fun r e => by cases e; exact ⟨_, hK, rfl⟩)
    refine ⟨.tuple #[.string x.2.s, .bool true], ?_, by rw [hyes]; rfl, hB1.trans (belowK_b (w := w) (Nat.le_refl _) _ D _ _ (by omega) hK rfl rfl)⟩
    simp [results, Tryz.f66, go_sem, r1, r2]

/-- **(*Spaces).Of.** -/
theorem pof (B b d : Nat) (L : List Tell) (p : ByteArray) (w : World) (hS : Sp B b d L w) (hlen : L.length ≤ 1000) :
    Calls Tryz.prog 66 #[.pointer (some ⟨b, 0, none⟩), .string p] w fun r w' => r = .returned (.tuple #[.string ((ofT L p).getD bNone), .bool (ofT L p).isSome]) ∧ Below w.heap.size w w' :=
  callsIn_wide.1 (pof0 B b d L p w hS hlen 10 (by decide))

end Go.Proofs.YtekmenkebokdoaaGreatDoor
