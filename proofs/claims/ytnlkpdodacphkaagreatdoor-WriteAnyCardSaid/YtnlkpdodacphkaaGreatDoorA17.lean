/-
  The walks of slices.Backward at tellings: what it hands to a loop's body, one by one, from the last on.
  The walk of (*Spaces).Of.
  The walk of (*Spaces).Name; the walk of layer 5's galliardlaw05.awake.
  The walk of (*document).begun.
-/
import Derived.Test.YtnlkpdodacphkaaGreatDoorA3
import Derived.RangeFuncNested
import Derived.RangeFuncCalls
import Derived.RangeFuncLeaves
import Derived.Shelf.Abstract
import Derived.Shelf.RegionOpen
import Derived.OwnWalkIn
import Derived.TacticsInMore
import Derived.LoopNIn
import Derived.LoopIn
import Derived.Test.YtnlkpdodacphkaaGreatDoorA7
import Derived.Test.YtnlkpdodacphkaaGreatDoorA13
import Derived.Test.YtnlkpdodacphkaaGreatDoorA16
import Derived.Deep.RegionWith
import Derived.StillTailTactics
import Derived.BigQuiet
namespace Go.Proofs.YtnlkpdodacphkaaGreatDoor
open Go Go.RowKit Go.Shelf
set_option maxRecDepth 100000
attribute [local go_sem] Oper.semAt_some

/-- A telling as a value. -/
def tellV (t : Tell) : Value := .agg #[.string t.p, .string t.s, .int .i64 t.d]
/-- What has come when k rounds are over. -/
def backL (L : List Tell) (k : Nat) : List (Nat × Tell) := (List.range k).map fun j => (L.length - 1 - j, L[L.length - 1 - j]?.getD ⟨bNone, bNone, 0⟩)
theorem backL_succ (L : List Tell) (k : Nat) : backL L (k + 1) = backL L k ++ [(L.length - 1 - k, L[L.length - 1 - k]?.getD ⟨bNone, bNone, 0⟩)] := by simp [backL, List.range_succ]
theorem backL_len (L : List Tell) (k : Nat) : (backL L k).length = k := by simp [backL]
theorem backL_take (L : List Tell) {k : Nat} (hk : k ≤ L.length) : (backL L k).map Prod.snd = L.reverse.take k := by
  apply List.ext_getElem
  · simp [backL, hk]
  · intro i h1 h2
    have hi : i < k := by simp [backL] at h1; omega
    simp [backL, List.getElem_reverse, show L.length - 1 - i < L.length by omega]

set_option maxHeartbeats 2000000 in
theorem pback1 (n : Nat) (hn : 1 ≤ n) (l Bs n₀ k cap : Nat) (L : List Tell) (hlen : L.length ≤ 1000) (hb : k < n₀) (J Jx : List (Nat × Tell) → World → Prop)
    (hY : ∀ pre x W, J pre W → pre.length < L.length → YieldAt Fence.wide (n - 1) Tryz.prog l #[.int .i64 (x.1 : Int), tellV x.2] W fun e W' =>
      (e = .returned (.bool true) ∧ J (pre ++ [x]) W' ∧ Below n₀ W W') ∨ (e = .returned (.bool false) ∧ Jx (pre ++ [x]) W'))
    (W : World) (hBs : W.cell? ⟨Bs, 0, none⟩ = some (.slice (some ⟨k, 0, none⟩) L.length cap)) (hBl : Bs < n₀)
    (hc : ∀ j (h : j < L.length), W.cell? ⟨k, j * 3, none⟩ = some (.string (L[j]'h).p) ∧ W.cell? ⟨k, j * 3 + 1, none⟩ = some (.string (L[j]'h).s) ∧ W.cell? ⟨k, j * 3 + 2, none⟩ = some (.int .i64 (L[j]'h).d)) (h0 : J [] W) :
    CallsIn Fence.wide n Tryz.prog 182 #[.func (.yield l) #[] #[], .pointer (some ⟨Bs, 0, none⟩)] W fun e W' => (∃ v, e = .returned v) ∧
      ((∃ ys, ys.map Prod.snd = L.reverse ∧ J ys W') ∨ (∃ pre, pre.map Prod.snd <+: L.reverse ∧ Jx pre W')) := by
  refine callsIn_of_wp Tryz.func182 rfl trivial ?_ rfl
  simp only [Tryz.ntmps182, List.size_toArray, List.length_cons, List.length_nil, Nat.reduceAdd, Nat.reduceSub, Array.replicate_succ, Array.replicate_zero, List.push_toArray, List.append_toArray, List.nil_append, List.cons_append]
  gi_wp2
  gi_loopw [3] (fun i wr => ∃ j : Nat, j ≤ L.length ∧ i = .int .i64 ((L.length : Int) - 1 - j) ∧ J (backL L j) wr ∧ Below n₀ W wr)
    (fun i _ => (intOf i + 1).toNat)
  case atStart => exact ⟨0, Nat.zero_le _, by simp, h0, Below.refl _ _⟩
  case round =>
    obtain ⟨j, hj, rfl, hJs, hnx⟩ := hrel
    have hBs' := (hnx.cell (p := ⟨Bs, 0, none⟩) hBl).trans hBs
    by_cases hlt : j < L.length
    · obtain ⟨m, hm⟩ : ∃ m, m = L.length - 1 - j := ⟨_, rfl⟩
      have hml : m < L.length := by omega
      have hmi : (L.length : Int) - 1 - j = (m : Int) := by omega
      rw [hmi]
      obtain ⟨b0, b1, b2⟩ := hc m hml
      have c0 := (hnx.cell (p := ⟨k, m * 3, none⟩) hb).trans b0
      have c1 := (hnx.cell (p := ⟨k, m * 3 + 1, none⟩) hb).trans b1
      have c2 := (hnx.cell (p := ⟨k, m * 3 + 2, none⟩) hb).trans b2
      clear b0 b1 b2
      obtain ⟨t, ht⟩ : ∃ t, L[m]'hml = t := ⟨_, rfl⟩
      rw [ht] at c0 c1 c2
      have hx : (L.length - 1 - j, L[L.length - 1 - j]?.getD ⟨bNone, bNone, 0⟩) = (m, t) := by rw [← hm, List.getElem?_eq_getElem hml, ht]; rfl
      obtain ⟨fn, tmps, assign, body, hy, hR⟩ := hY _ (m, t) wr hJs (by rw [backL_len]; exact hlt)
      dsimp only [tellV] at hy
      have hL0 : (m : Int) < (L.length : Int) := by omega
      have HX := Lib.hid hx
      have HM := Lib.hid (show (m : Int) - 1 = (L.length : Int) - 1 - ((j + 1 : Nat) : Int) by omega)
      have hjl := Lib.hid (show j + 1 ≤ L.length by omega)
      have HN := Lib.hid hnx
      have HML := Lib.hid (show ((m : Int) - 1 + 1).toNat < ((m : Int) + 1).toNat by omega)
      clear hx hm hmi hc hBs h0 hY ht hnx hj hlt hml
      gi_wp2
      refine hR.mono ?_
      rintro e W3 (⟨rfl, hJ3, hk3⟩ | ⟨rfl, hJx3⟩)
      · gi_wp2
        go_roundw
        case rel => exact ⟨j + 1, hjl.out, by rw [HM.out], by rw [backL_succ, HX.out]; exact hJ3, HN.out.trans hk3⟩
        case measure => exact HML.out
      · gi_wp2
        refine bodyPost_ret (results_none rfl _ _ _) rfl ?_
        exact ⟨⟨_, rfl⟩, .inr ⟨backL L (j + 1), by rw [backL_take L hjl.out]; exact List.take_prefix _ _, by rw [backL_succ, HX.out]; exact hJx3⟩⟩
    · obtain rfl : j = L.length := by omega
      have he : (L.length : Int) - 1 - (L.length : Int) = -1 := by omega
      rw [he]
      gi_wp2
      go_end0
      exact ⟨⟨_, rfl⟩, .inl ⟨_, by rw [backL_take L (Nat.le_refl _), ← List.length_reverse, List.take_length], hJs⟩⟩

set_option maxHeartbeats 1000000 in
theorem pback (n : Nat) (a : Option Addr) (len cap : Nat) (w : World) :
    CallsIn Fence.wide n Tryz.prog 163 #[.slice a len cap] w fun e w' => e = .returned (.func (.func 182) #[] #[.pointer (some ⟨w.heap.size, 0, none⟩)]) ∧ w' = w.alloc (.cells #[.slice a len cap] 112) := by
  refine callsIn_of_wp Tryz.func163 rfl trivial ?_ rfl
  simp only [Tryz.ntmps163, List.size_toArray, List.length_cons, List.length_nil, Nat.reduceAdd, Nat.reduceSub, Array.replicate_succ, Array.replicate_zero, List.push_toArray, List.append_toArray, List.nil_append, List.cons_append]
  gi_wp2
  go_ret
  exact ⟨rfl, rfl⟩

theorem pback_stops (n : Nat) (hn : 1 ≤ n) (Bs n₀ k cap : Nat) (L : List Tell) (hlen : L.length ≤ 1000) (w : World) (hBs : Bs < n₀) (hk : k < n₀) (hn₀ : n₀ ≤ w.heap.size)
    (hcs : w.cell? ⟨Bs, 0, none⟩ = some (.slice (some ⟨k, 0, none⟩) L.length cap))
    (hc : ∀ j (h : j < L.length), w.cell? ⟨k, j * 3, none⟩ = some (.string (L[j]'h).p) ∧ w.cell? ⟨k, j * 3 + 1, none⟩ = some (.string (L[j]'h).s) ∧ w.cell? ⟨k, j * 3 + 2, none⟩ = some (.int .i64 (L[j]'h).d)) :
    SeqStopsK Fence.wide n Tryz.prog 182 #[.pointer (some ⟨Bs, 0, none⟩)] (fun x : Nat × Tell => #[Value.int .i64 (x.1 : Int), tellV x.2]) (Below n₀) (fun ys => ys.map Prod.snd = L.reverse) (fun pre => pre.map Prod.snd <+: L.reverse) L.length w :=
  fun l J Jx W hW _ _ hY h0 => by
    have hW' := hW.mono hn₀
    exact pback1 n hn l Bs n₀ k cap L hlen hk J Jx hY W ((hW'.cell (p := ⟨Bs, 0, none⟩) hBs).trans hcs) hBs
      (fun j hj => ⟨(hW'.cell (p := ⟨k, j * 3, none⟩) hk).trans (hc j hj).1, (hW'.cell (p := ⟨k, j * 3 + 1, none⟩) hk).trans (hc j hj).2.1, (hW'.cell (p := ⟨k, j * 3 + 2, none⟩) hk).trans (hc j hj).2.2⟩) h0

end Go.Proofs.YtnlkpdodacphkaaGreatDoor
namespace Go.Proofs.YtnlkpdodacphkaaGreatDoor
open Go Go.RowKit Go.Shelf
set_option maxRecDepth 100000
attribute [local go_sem] Oper.semAt_some

set_option maxHeartbeats 4000000 in
theorem pof0 (B b d : Nat) (L : List Tell) (p : ByteArray) (w : World) (hS : Sp B b d L w) (hlen : L.length ≤ 1000) (n : Nat) (hn : 4 ≤ n) :
    CallsIn Fence.wide n Tryz.prog 132 #[.pointer (some ⟨b, 0, none⟩), .string p] w fun r w' => r = .returned (.tuple #[.string ((ofT L p).getD bNone), .bool (ofT L p).isSome]) ∧ Below w.heap.size w w' := by
  have h1 : 1 ≤ n := by omega
  have hlt := hS.lt
  obtain ⟨hbase, k, cap, hb, ho⟩ := hS
  have c1 := Lib.cell_of_heap hb 1
  simp only [List.getElem?_toArray, List.getElem?_cons_zero, List.getElem?_cons_succ] at c1
  have hk : k < w.heap.size := (ho.lt k rfl).2
  have HO := Lib.hid ho
  have HB := Lib.hid hb
  have hB3 : Below w.heap.size w (((w.alloc (.cells #[.string p] 9)).alloc (.cells #[.string ⟨#[]⟩] 9)).alloc (.cells #[.bool false] 4)) := (((Below.refl _ w).alloc (Nat.le_refl _) _).alloc (by simp) _).alloc (by simp; omega) _
  have c3 := (hB3.cell (p := ⟨b, 1, none⟩) hlt).trans c1
  clear ho hb c1
  refine callsIn_of_wp_marks Tryz.func132 rfl trivial ?_ rfl
  simp only [Tryz.ntmps132, List.size_toArray, List.length_cons, List.length_nil, Nat.reduceAdd, Nat.reduceSub, Array.replicate_succ, Array.replicate_zero, List.push_toArray, List.append_toArray, List.nil_append, List.cons_append]
  gi_wp2
  refine ⟨trivial, ?_⟩
  refine (pback (n - 1) _ _ _ _).mono ?_
  rintro e w' ⟨rfl, rfl⟩
  gi_wp2
  have bP := ((Boxed.new w 9 (.string p)).alloc (.cells #[.string ⟨#[]⟩] 9)).alloc (.cells #[.bool false] 4)
  have bU := (Boxed.new (w.alloc (.cells #[.string p] 9)) 9 (.string ⟨#[]⟩)).alloc (.cells #[.bool false] 4)
  have bK := Boxed.new ((w.alloc (.cells #[.string p] 9)).alloc (.cells #[.string ⟨#[]⟩] 9)) 4 (.bool false)
  simp only [World.size_alloc] at bU bK
  have hs3 : (((w.alloc (.cells #[.string p] 9)).alloc (.cells #[.string ⟨#[]⟩] 9)).alloc (.cells #[.bool false] 4)).heap.size = w.heap.size + 3 := by simp
  obtain ⟨w3, hw3⟩ : ∃ w3, ((w.alloc (.cells #[.string p] 9)).alloc (.cells #[.string ⟨#[]⟩] 9)).alloc (.cells #[.bool false] 4) = w3 := ⟨_, rfl⟩
  rw [hw3] at bP bU bK hB3 hs3 ⊢
  clear hw3 c3
  have bS := Boxed.new w3 112 (.slice (some ⟨k, 0, none⟩) L.length cap)
  have eP := bP.alloc (.cells #[.slice (some ⟨k, 0, none⟩) L.length cap] 112)
  have eU := bU.alloc (.cells #[.slice (some ⟨k, 0, none⟩) L.length cap] 112)
  have eK := bK.alloc (.cells #[.slice (some ⟨k, 0, none⟩) L.length cap] 112)
  have hB4 : Below w.heap.size w (w3.alloc (.cells #[.slice (some ⟨k, 0, none⟩) L.length cap] 112)) := hB3.alloc (by omega) _
  have hs4 : (w3.alloc (.cells #[.slice (some ⟨k, 0, none⟩) L.length cap] 112)).heap.size = w.heap.size + 4 := by simp [hs3]
  rw [hs3] at bS
  obtain ⟨w4, hw4⟩ : ∃ w4, w3.alloc (.cells #[.slice (some ⟨k, 0, none⟩) L.length cap] 112) = w4 := ⟨_, rfl⟩
  rw [hw4] at eP eU eK bS hB4 hs4 ⊢
  clear hw4 hB3 hs3 bP bU bK
  have hcs : ∀ j (h : j < L.length), w4.cell? ⟨k, j * 3, none⟩ = some (.string (L[j]'h).p) ∧ w4.cell? ⟨k, j * 3 + 1, none⟩ = some (.string (L[j]'h).s) ∧ w4.cell? ⟨k, j * 3 + 2, none⟩ = some (.int .i64 (L[j]'h).d) := fun j h => by
    have c := row_cells HO.out j h
    exact ⟨(hB4.cell (p := ⟨k, j * 3, none⟩) hk).trans c.1, (hB4.cell (p := ⟨k, j * 3 + 1, none⟩) hk).trans c.2.1, (hB4.cell (p := ⟨k, j * 3 + 2, none⟩) hk).trans c.2.2⟩
  refine wpIn_rangeFunc_ownH rfl h1 (gf := 182) (lb := #[.pointer (some ⟨w.heap.size + 1 + 1 + 1, 0, none⟩)]) rfl trivial (enters_of Tryz.func182 (by kernel_rfl) rfl)
    (pback_stops (n - 1) (by omega) (w.heap.size + 1 + 1 + 1) (w.heap.size + 4) k cap L hlen w4 (by omega) (by omega) (by omega) bS.cell hcs) belowK_t (belowK_b (by omega)) (Below.refl _ _) (fun _ => rfl)
    (fun pre W => (((((∀ y ∈ pre, y.2.p ≠ p) ∧ Boxed W w.heap.size 9 (.string p)) ∧ Boxed W (w.heap.size + 1) 9 (.string ⟨#[]⟩)) ∧ Boxed W (w.heap.size + 1 + 1) 4 (.bool false)) ∧ Boxed W (w.heap.size + 1 + 1 + 1) 112 (.slice (some ⟨k, 0, none⟩) L.length cap)) ∧ Below w.heap.size w W)
    (fun c pre W => (c = .ret ∧ ∃ pre' x, pre = pre' ++ [x] ∧ (∀ y ∈ pre', y.2.p ≠ p) ∧ x.2.p = p ∧ Boxed W (w.heap.size + 1) 9 (.string x.2.s) ∧ Boxed W (w.heap.size + 1 + 1) 4 (.bool true)) ∧ Below w.heap.size w W)
    (OwnFrom.and (OwnFrom.and (OwnFrom.and (OwnFrom.and (OwnFrom.and (ownFrom_pure _ _) (Own.from (boxed_own _ _ _) _)) (Own.from (boxed_own _ _ _) _)) (Own.from (boxed_own _ _ _) _)) (Own.from (boxed_own _ _ _) _)) (ownFrom_below (Nat.le_refl _) (by omega)))
    (fun c => OwnFrom.and (Own.from (fun pre X Y row hs hg hr => by
      obtain ⟨hc, pre', x, e, h1, h2, h3, h4⟩ := hs
      exact ⟨hc, pre', x, e, h1, h2, boxed_own _ _ (fun (_ : Unit) => Value.string x.2.s) () X Y row h3 hg hr, boxed_own _ _ (fun (_ : Unit) => Value.bool true) () X Y row h4 hg hr⟩) _) (ownFrom_below (Nat.le_refl _) (by omega)))
    ⟨⟨⟨⟨⟨(by simp), eP⟩, eU⟩, eK⟩, bS⟩, hB4⟩
    (fun x a' W => ∃ Bx, w.heap.size + 1 + 1 < Bx ∧ W.heap[Bx]? = some (.cells #[.string x.2.p, .string x.2.s, .int .i64 x.2.d] 111 (0, 0)) ∧ a' = { tmps := #[.pointer (some ⟨b, 0, none⟩), .string p, undef, .pointer (some ⟨w.heap.size, 0, none⟩), .pointer (some ⟨w.heap.size + 1, 0, none⟩), .pointer (some ⟨w.heap.size + 1 + 1, 0, none⟩), undef, .pointer (some ⟨Bx, 0, none⟩), .pointer (some ⟨b, 0, none⟩), .bool false, .pointer (some ⟨b, 0, none⟩), .pointer (some ⟨b, 0, none⟩), .pointer (some ⟨b, 1, none⟩), .slice (some ⟨k, 0, none⟩) L.length cap, .func (.func 182) #[] #[.pointer (some ⟨w.heap.size + 1 + 1 + 1, 0, none⟩)], .int .i64 (x.1 : Int), tellV x.2, undef, undef, undef, undef, undef, undef], defers := [] })
    (fun x a' _ X Y row hs hg hr => by
      obtain ⟨Bx, h1, h2, h3⟩ := hs
      refine ⟨Bx, h1, (hg.block Bx (Array.getElem?_eq_some_iff.1 h2).1 (fun e' => ?_)).trans h2, h3⟩
      obtain ⟨_, o, ho, hc⟩ := hr Bx e'.symm
      rw [h2] at ho; cases ho; cases hc)
    ?assign ?body ?done ?stop
  case assign =>
    rintro l pre x W K ⟨⟨⟨⟨⟨hp, bP1⟩, bU1⟩, bK1⟩, bS1⟩, hB1⟩ hK
    dsimp only [tellV] at hK ⊢
    gi_wp2
    exact hK _ _ ((KeepsOthers.alloc _ _).from _) ((Below.refl _ W).alloc (by have := bS1.lt; omega) _) ⟨⟨⟨⟨⟨hp, bP1.alloc _⟩, bU1.alloc _⟩, bK1.alloc _⟩, bS1.alloc _⟩, hB1.alloc hB1.size _⟩ ⟨W.heap.size, bK1.lt, World.alloc_heap_new W _, rfl⟩
  case body =>
    rintro l pre x a' W hl ⟨r, hr⟩ ⟨⟨⟨⟨⟨hp, bP1⟩, bU1⟩, bK1⟩, bS1⟩, hB1⟩ ⟨Bx, hBx, bX, rfl⟩ hlt
    have cP := bP1.cell
    have x0 := Lib.cell_of_heap bX 0
    have x1 := Lib.cell_of_heap bX 1
    simp only [List.getElem?_toArray, List.getElem?_cons_zero, List.getElem?_cons_succ] at x0 x1
    have cU := bU1.cell
    have fU := bU1.frozen
    have cK := (bK1.other (B' := w.heap.size + 1) (by omega) (.string x.2.s)).cell
    have fK := (bK1.other (B' := w.heap.size + 1) (by omega) (.string x.2.s)).frozen
    dsimp only [tellV]
    gi_wp2
    · rename_i hx
      have hx' : x.2.p = p := tl_inj (by simpa using hx)
      refine ⟨((KeepsOthers.setCell _ _ _).trans (KeepsOthers.setCell _ _ _)).from _, ⟨rfl, pre, x, rfl, hp, hx', ?_, ?_⟩, (hB1.setCell (p := ⟨w.heap.size + 1, 0, none⟩) (by simp) _).setCell (p := ⟨w.heap.size + 1 + 1, 0, none⟩) (by simp; omega) _⟩
      · exact (bU1.set _).other (by omega) _
      · exact (bK1.other (by omega) _).set _
    · rename_i hx
      have hx' : x.2.p ≠ p := fun e => by rw [e] at hx; simp at hx
      exact ⟨KeepsFrom.refl _ _, Below.refl _ _, ⟨⟨⟨⟨fun y hy => (List.mem_append.1 hy).elim (hp y) (fun e => by simp at e; subst e; exact hx'), bP1⟩, bU1⟩, bK1⟩, bS1⟩, hB1⟩
  case done =>
    rintro D ys W hD hys ⟨⟨⟨⟨⟨hp, bP1⟩, bU1⟩, bK1⟩, bS1⟩, hB1⟩ hK
    have cU := bU1.cell
    have fU := bU1.frozen
    have cK := (bK1.other (B' := w.heap.size + 1) (by omega) (.string ⟨#[]⟩)).cell
    have fK := (bK1.other (B' := w.heap.size + 1) (by omega) (.string ⟨#[]⟩)).frozen
    have bU2 := (bU1.set (.string ⟨#[]⟩)).other (B' := w.heap.size + 1 + 1) (by omega) (.bool false)
    have bK2 := (bK1.other (B' := w.heap.size + 1) (by omega) (.string ⟨#[]⟩)).set (.bool false)
    have hK2 := ((KeepsOthers.setCell W ⟨w.heap.size + 1, 0, none⟩ (.string ⟨#[]⟩)).trans (KeepsOthers.setCell _ ⟨w.heap.size + 1 + 1, 0, none⟩ (.bool false))).same D _ hK rfl
    have hB2 := (hB1.setCell (p := ⟨w.heap.size + 1, 0, none⟩) (by simp) (.string ⟨#[]⟩)).setCell (p := ⟨w.heap.size + 1 + 1, 0, none⟩) (by simp; omega) (.bool false)
    have hno : ofT L p = none := by
      unfold ofT
      rw [← hys, List.find?_eq_none.2 (fun t ht => ?_)]
      · rfl
      · obtain ⟨y, hy, rfl⟩ := List.mem_map.1 ht
        simpa using hp y hy
    gi_wp2
    refine ⟨by simp, .inl ⟨_, _, rfl, run_takeDeferred hK2, ?_⟩⟩
    have r1 := cell_kept bU2.cell (grownBy_putObj' _ D (.deferred none)) (fun r e => by cases e; exact ⟨_, hK2, rfl⟩)
    have r2 := cell_kept bK2.cell (grownBy_putObj' _ D (.deferred none)) (fun r e => by cases e; exact ⟨_, hK2, rfl⟩)
    refine ⟨.tuple #[.string ⟨#[]⟩, .bool false], ?_, by rw [hno]; rfl, hB2.trans (belowK_b (w := w) (Nat.le_refl _) _ D _ _ (by omega) hK2 rfl rfl)⟩
    simp [results, Tryz.f132, go_sem, r1, r2]
  case stop =>
    rintro D c pre W hD hpre ⟨⟨rfl, pre', x, rfl, hp, hx, bU1, bK1⟩, hB1⟩ hK
    have hyes : ofT L p = some x.2.s := by
      obtain ⟨post, hpost⟩ := hpre
      unfold ofT
      rw [← hpost, List.map_append, List.append_assoc, List.find?_append, List.find?_eq_none.2 (fun t ht => ?_)]
      · simp [hx]
      · obtain ⟨y, hy, rfl⟩ := List.mem_map.1 ht
        simpa using hp y hy
    gi_wp2
    refine ⟨by simp, .inl ⟨_, _, rfl, run_takeDeferred hK, ?_⟩⟩
    have r1 := cell_kept bU1.cell (grownBy_putObj' _ D (.deferred none)) (fun r e => by cases e; exact ⟨_, hK, rfl⟩)
    have r2 := cell_kept bK1.cell (grownBy_putObj' _ D (.deferred none)) (fun r e => by cases e; exact ⟨_, hK, rfl⟩)
    refine ⟨.tuple #[.string x.2.s, .bool true], ?_, by rw [hyes]; rfl, hB1.trans (belowK_b (w := w) (Nat.le_refl _) _ D _ _ (by omega) hK rfl rfl)⟩
    simp [results, Tryz.f132, go_sem, r1, r2]

/-- **(*Spaces).Of.** -/
theorem pof (B b d : Nat) (L : List Tell) (p : ByteArray) (w : World) (hS : Sp B b d L w) (hlen : L.length ≤ 1000) :
    Calls Tryz.prog 132 #[.pointer (some ⟨b, 0, none⟩), .string p] w fun r w' => r = .returned (.tuple #[.string ((ofT L p).getD bNone), .bool (ofT L p).isSome]) ∧ Below w.heap.size w w' :=
  callsIn_wide.1 (pof0 B b d L p w hS hlen 10 (by decide))

end Go.Proofs.YtnlkpdodacphkaaGreatDoor
namespace Go.Proofs.YtnlkpdodacphkaaGreatDoor
open Go Go.RowKit
set_option maxRecDepth 100000

set_option maxHeartbeats 2000000 in
theorem pname0 (b : Nat) (s : ByteArray) (w : World) (C : ByteArray × ByteArray × Bool) (O : Option ByteArray) (Z : ByteArray × ByteArray × Bool)
    (C1 : Hid (Calls Tryz.prog 131 #[.string s] w fun e w' => e = .returned (.tuple #[.string C.1, .string C.2.1, .bool C.2.2]) ∧ Below w.heap.size w w'))
    (C2 : Hid (∀ w', Below w.heap.size w w' → Calls Tryz.prog 132 #[.pointer (some ⟨b, 0, none⟩), .string C.1] w' fun r w'' => r = .returned (.tuple #[.string (O.getD bNone), .bool O.isSome]) ∧ Below w'.heap.size w' w''))
    (HZ : Hid (Z = nameZ C O)) :
    Calls Tryz.prog 101 #[.pointer (some ⟨b, 0, none⟩), .string s] w fun r w' => r = .returned (.tuple #[.string Z.1, .string Z.2.1, .bool Z.2.2]) ∧ Below w.heap.size w w' := by
  obtain ⟨P, R, N⟩ := C
  simp only at C1 C2 HZ
  cases N with
  | false =>
    have hZ := HZ.out
    unfold nameZ at hZ
    rw [if_pos rfl] at hZ
    subst hZ
    clear C2 HZ
    go_enter Tryz.func101, Tryz.ntmps101
    go_wp2_with (go_at_call 131; refine C1.out.mono ?_; rintro e w' ⟨rfl, hb⟩)
    go_ret3
    exact ⟨rfl, hb⟩
  | true =>
    have hZ := HZ.out
    unfold nameZ at hZ
    rw [if_neg (fun h => by cases h)] at hZ
    clear HZ
    cases O with
    | none =>
      simp only at hZ
      subst hZ
      go_enter Tryz.func101, Tryz.ntmps101
      go_wp2_with fail
      refine C1.out.mono ?_
      rintro r w1 ⟨rfl, hb⟩
      have C3 := Lib.hid (C2.out w1 hb)
      simp only [Option.getD_none, Option.isSome_none] at C3
      clear C1 C2
      go_wp2_with fail
      refine C3.out.mono ?_
      rintro r w2 ⟨rfl, hb2⟩
      go_wp2
      go_ret3
      exact ⟨rfl, hb.trans (hb2.mono hb.size)⟩
    | some u =>
      simp only at hZ
      subst hZ
      go_enter Tryz.func101, Tryz.ntmps101
      go_wp2_with fail
      refine C1.out.mono ?_
      rintro r w1 ⟨rfl, hb⟩
      have C3 := Lib.hid (C2.out w1 hb)
      simp only [Option.getD_some, Option.isSome_some] at C3
      clear C1 C2
      go_wp2_with fail
      refine C3.out.mono ?_
      rintro r w2 ⟨rfl, hb2⟩
      go_wp2
      go_ret3
      exact ⟨rfl, hb.trans (hb2.mono hb.size)⟩
/-- **(*Spaces).Name.** -/
theorem pname (B b d : Nat) (L : List Tell) (s : ByteArray) (w : World) (hS : Sp B b d L w) (hlen : L.length ≤ 1000) (hs : s.size < 4294967281) (hT : Tabs w) (hM : MaxL w) :
    Calls Tryz.prog 101 #[.pointer (some ⟨b, 0, none⟩), .string s] w fun r w' => r = .returned (.tuple #[.string (nameSp L s).1, .string (nameSp L s).2.1, .bool (nameSp L s).2.2]) ∧ Below w.heap.size w w' :=
  pname0 b s w (str (splitL (bl s)).1, str (splitL (bl s)).2.1, (splitL (bl s)).2.2) (ofT L (str (splitL (bl s)).1)) _ (Lib.hid (csplit s w hs hT hM))
    (Lib.hid fun w' h => pof B b d L _ w' (hS.step h) hlen) (Lib.hid rfl)

/-! ### awake -/
def bP : ByteArray := ⟨#[112]⟩
def bU : ByteArray := ⟨#[117]⟩
end Go.Proofs.YtnlkpdodacphkaaGreatDoor
namespace Go.Proofs.YtnlkpdodacphkaaGreatDoor
open Go Go.RowKit
set_option maxRecDepth 100000

/-! ### blocks that elements are made of -/
/-- A block of attributes or of elements, from Q on, other than row. -/
def NB (Q : Nat) (row : Option Nat) (w : World) (g : Nat) : Prop := Q ≤ g ∧ row ≠ some g ∧ ∃ cs t z, w.heap[g]? = some (.cells cs t z) ∧ (t = 56 ∨ t = 25)
theorem NB.kept {Q : Nat} {row : Option Nat} {w w' : World} {g : Nat} (h : NB Q row w g) {ts : List TypeId} (hk : Kept ts w w') (h1 : 56 ∉ ts) (h2 : 25 ∉ ts) : NB Q row w' g ∧ w'.heap[g]? = w.heap[g]? := by
  obtain ⟨h0, hr, cs, t, z, hg, ht⟩ := h
  have e : w'.heap[g]? = some (.cells cs t z) := hk.heap hg (by rcases ht with rfl | rfl; exact h1; exact h2)
  exact ⟨⟨h0, hr, cs, t, z, e, ht⟩, e.trans hg.symm⟩
theorem NodeV.kept {Q : Nat} {row : Option Nat} {w w' : World} {v : Value} {x : Nd} (h : NodeV (NB Q row w) w v x) {ts : List TypeId} (hk : Kept ts w w') (h1 : 56 ∉ ts) (h2 : 25 ∉ ts) : NodeV (NB Q row w') w' v x :=
  h.to hk.size fun _ hp _ => hp.kept hk h1 h2
theorem AttV.kept {Q : Nat} {row : Option Nat} {w w' : World} {v : Value} {A : List Att} (h : AttV (NB Q row w) w v A) {ts : List TypeId} (hk : Kept ts w w') (h1 : 56 ∉ ts) (h2 : 25 ∉ ts) : AttV (NB Q row w') w' v A :=
  h.to hk.size fun _ hp _ => hp.kept hk h1 h2
theorem own_attv {w : World} {base Q : Nat} {v : Value} {A : List Att} (h : w.ownsRow base 56 2 v A.length (cellsA A)) (hQ : Q ≤ base) : AttV (NB Q none w) w v A := by
  rcases h.2 with ⟨rfl, h0⟩ | ⟨g, cap, cur, rfl, hb, hg, hrest⟩
  · exact ⟨none, 0, by rw [h0], fun h => absurd h (by omega), by omega⟩
  · refine ⟨_, cap, rfl, fun _ => ⟨g, 0, rfl, ⟨by omega, by simp, cur, _, _, hg, .inl rfl⟩, (Array.getElem?_eq_some_iff.1 hg).1, fun j hj => ?_⟩, hrest.1⟩
    rw [Nat.zero_add]
    exact row_cellsA h j hj
theorem rows_atts {b : Nat} {w : World} {g n cap : Nat} {A : List (List UInt8 × List UInt8)} (h : RowsB b w (.slice (some ⟨g, 0, none⟩) n cap) A) (hn : A.length = n) : AttrsAt w g (toAtt A) := by
  obtain ⟨hr, ht⟩ := h
  obtain ⟨_, cs, z, hg⟩ := ht g 0 n cap rfl
  refine ⟨cs, z, hg, fun j hj => ?_⟩
  rcases hr with ⟨_, hv⟩ | ⟨g', cap', hv, _, hc⟩
  · cases hv
  · injection hv with h1 h2 h3
    injection h1 with h1
    injection h1 with h1
    subst h1
    have hl : (toAtt A).length = A.length := by unfold toAtt; simp
    have hj2 : j / 2 < A.length := by rw [hl] at hj; omega
    have hget : (toAtt A)[j / 2]'(by rw [hl]; exact hj2) = (str (A[j / 2]'hj2).1, str (A[j / 2]'hj2).2) := by unfold toAtt; simp
    have hcc := hc (j / 2) hj2
    have hx := cellsA_get (toAtt A) (j / 2) (by rw [hl]; exact hj2)
    have hz := hx (j % 2) (by omega)
    rw [show j / 2 * 2 + j % 2 = j by omega] at hz
    rw [hz, hget]
    have hcell : ∀ o, w.cell? ⟨g, o, none⟩ = cs[o]? := fun o => Lib.cell_of_heap hg o
    rcases Nat.mod_two_eq_zero_or_one j with h0 | h0
    · rw [h0]
      rw [← hcell j]
      have := hcc.1
      rw [show j / 2 * 2 = j by omega] at this
      exact this
    · rw [h0]
      rw [← hcell j]
      have := hcc.2
      rw [show j / 2 * 2 + 1 = j by omega] at this
      exact this

/-! ### Enter of no attributes -/
set_option maxHeartbeats 1000000 in
theorem penter_none (B b d : Nat) (L : List Tell) (w : World) (hS : Sp B b d L w) (hd : d ≤ 100000) :
    Calls Tryz.prog 100 #[.pointer (some ⟨b, 0, none⟩), .slice none 0 0] w (EnterGives B b (d + 1) w ([], 0, L)) := by
  have hE : ∀ w1, w1 = w.setCell ⟨b, 0, none⟩ (.int .i64 ((d : Int) + 1)) → EnterGives B b (d + 1) w ([], 0, L) (.returned (.tuple #[.slice none 0 0, .int .i64 0])) w1 := by
    rintro w1 rfl
    obtain ⟨hbase, k, cap', hb, ho⟩ := hS
    have hbk : b ≠ k := own_block_ne ho hb (by decide)
    exact ⟨_, rfl, World.ownsRow_nil _ _ _ _, ⟨hbase, k, cap', heap_put _ hb, ownsRow_setCell_other ho (a := ⟨b, 0, none⟩) (by intro e; exact hbk (by cases e; rfl)) _⟩, (Below.refl B w).setCell (p := ⟨b, 0, none⟩) hbase _, Apart.set hb (.inr rfl) _ _⟩
  obtain ⟨_, k, cap', hb, ho⟩ := hS
  have c0 := Lib.cell_of_heap hb 0
  have f0 := Lib.frozen_of_heap hb 0
  simp only [List.getElem?_toArray, List.getElem?_cons_zero] at c0
  have hdi : (d : Int) ≤ 100000 := by omega
  have HE := Lib.hid (hE _ rfl)
  clear hE hb ho
  go_enter Tryz.func100, Tryz.ntmps100
  go_wp2
  generalize w.setCell ⟨b, 0, none⟩ (.int .i64 ((d : Int) + 1)) = w1 at HE ⊢
  go_loopg [6, 23] 0 (fun gh rest cnt wr => gh = 0 ∧ rest = .slice none 0 0 ∧ cnt = .int .i64 0 ∧ wr = w1)
  case atStart => exact ⟨rfl, rfl, rfl, rfl⟩
  case round =>
    obtain ⟨hgh, rfl, rfl, rfl⟩ := hrel
    go_wp2
    go_ret2
    exact HE.out

theorem own_form {w : World} {base : Nat} {e : TypeId} {z n : Nat} {v : Value} {xs : List Value} (h : w.ownsRow base e z v n xs) : ∃ az cz, v = .slice az n cz := by
  rcases h.2 with ⟨hv, h0⟩ | ⟨_, _, _, hv, _⟩
  · exact ⟨_, _, by rw [hv, h0]⟩
  · exact ⟨_, _, hv⟩
theorem own_some {w : World} {base : Nat} {e : TypeId} {z n cz : Nat} {az : Option Addr} {xs : List Value} (h : w.ownsRow base e z (.slice az n cz) n xs) (hn : 0 < n) : ∃ g, az = some ⟨g, 0, none⟩ ∧ g < w.heap.size := by
  rcases h.2 with ⟨hv, h0⟩ | ⟨g, _, _, hv, _, hg, _⟩
  · omega
  · injection hv with h1 h2 h3
    exact ⟨g, h1, (Array.getElem?_eq_some_iff.1 hg).1⟩
theorem Pu.enter {D : List UInt8} {σ : St} {d : Nat} {L : List Tell} {c : Nat} (h : Pu D σ d L c) (hd : d < 32) {A : List Att} (hz : (enterL (d + 1) A [] L).2.1 = 0) : Pu D σ (d + 1) (enterL (d + 1) A [] L).2.2 c := by
  obtain ⟨N, e, hN, hl⟩ := enterL_known (d + 1) A [] L hz
  refine ⟨h.scn, h.small, fun t ht => ?_, ?_, h.cnt, hd⟩
  · rw [e] at ht
    rcases List.mem_append.1 ht with ht | ht
    · have := h.dep t ht; omega
    · rw [hN t ht]; exact Nat.le_refl _
  · rw [e]; exact hl h.few
/-- A way through a drawn region that a callee's panic has ended: nothing is left of it. -/
theorem ends_any {G : Prop} (h : G) (w : World) (_k : wpAny Tryz.prog .any #[] (fun _ _ _ => True) 0 #[] ⟨#[], []⟩ w) : G := h
theorem penter_rows (B b q d : Nat) (L : List Tell) (A : List (List UInt8 × List UInt8)) (v : Value) (w : World) (hS : Sp B q d L w) (hd : d ≤ 100000) (hR : RowsB b w v A) (hA : A.length ≤ 1000) :
    Calls Tryz.prog 100 #[.pointer (some ⟨q, 0, none⟩), v] w (EnterGives B q (d + 1) w (enterL (d + 1) (toAtt A) [] L)) := by
  rcases hR.1 with ⟨rfl, rfl⟩ | ⟨g, cap, rfl, _⟩
  · exact penter_none B q d L w hS hd
  · have hl : (toAtt A).length = A.length := by unfold toAtt; simp
    have h := penter B q d g cap (toAtt A) L w hS hd (rows_atts hR rfl) (by omega)
    rw [hl] at h
    exact h

theorem res_node (fn : Func) (k : Nat) (hr : fn.results = #[.cell k 25]) (tmps : Array Value) (R : Nat) (ht : tmps.getD k undef = .pointer (some ⟨R, 0, none⟩)) (x0 x1 x2 x3 x4 : Value) (W : World) (t : TypeId) (z : Nat × Nat) (h : W.heap[R]? = some (.cells #[x0, x1, x2, x3, x4] t z)) :
    (results fn tmps).run Tryz.prog W = .ok (.agg #[x0, x1, x2, x3, x4]) W := by
  have e0 : W.cell? ⟨R, 0, none⟩ = some x0 := by rw [Lib.cell_of_heap h]; rfl
  have e1 : W.cell? ⟨R, 1, none⟩ = some x1 := by rw [Lib.cell_of_heap h]; rfl
  have e2 : W.cell? ⟨R, 2, none⟩ = some x2 := by rw [Lib.cell_of_heap h]; rfl
  have e3 : W.cell? ⟨R, 3, none⟩ = some x3 := by rw [Lib.cell_of_heap h]; rfl
  have e4 : W.cell? ⟨R, 4, none⟩ = some x4 := by rw [Lib.cell_of_heap h]; rfl
  rw [Array.getD_eq_getD_getElem?] at ht
  simp [results, hr, ht, go_sem, e0, e1, e2, e3, e4]

/-! ### begun -/
theorem DS.count {B dd b q d c : Nat} {s : ByteArray} {σ : St} {L : List Tell} {w : World} (h : DS B dd b q s σ d L c w) (hc : c < 2000) : DS B dd b q s σ d L (c + 1) (w.setCell ⟨dd, 2, none⟩ (.int .i64 ((c : Int) + 1))) := by
  have ho := Only.set dd 2 w (.int .i64 ((c : Int) + 1))
  have hne := h.ne
  refine ⟨⟨h.sc.base, h.sc.len, h.sc.pos, h.sc.glob.step (ho.below h.base h.le), ho.heap h.sc.heap (fun e => hne.1 e.symm)⟩, h.sp.only ho h.heap (by decide) (by decide), h.base, ?_, h.pu.scn, h.pu.small, h.pu.dep, h.pu.few, by omega, h.pu.lim⟩
  rw [heap_set _ h.heap]; rfl
/-- It is within an element more, or less. -/
theorem DS.space {B dd b q d d' c : Nat} {s : ByteArray} {σ : St} {L L' : List Tell} {w w' : World} (h : DS B dd b q s σ d L c w) (hS : Sp B q d' L' w') (hB : Below B w w') (hK : Kept [111, 114] w w') (hp : Pu (bl s) σ d' L' c) : DS B dd b q s σ d' L' c w' :=
  ⟨⟨h.sc.base, h.sc.len, h.sc.pos, h.sc.glob.step hB, hK.heap h.sc.heap (by decide)⟩, hS, h.base, hK.heap h.heap (by decide), hp⟩
theorem enterR_ok {p : Pc} {d : Nat} {L : List Tell} {c : Nat} {E : Fr × List Tell} (h : enterR p d L c = .ok E) :
    c < 2000 ∧ d < 32 ∧ (enterL (d + 1) (toAtt p.attrs) [] L).2.1 = 0 ∧ E.2 = (enterL (d + 1) (toAtt p.attrs) [] L).2.2 ∧ E.1.L = L ∧ E.1.K = [] ∧ E.1.tx = [] ∧ E.1.tag = p.name ∧ E.1.at_ = p.at_ := by
  unfold enterR at h
  split at h
  · split at h
    · unfold enterC at h
      split at h
      · split at h
        · split at h
          · rename_i h1 h2 h3 h4 h5
            cases h
            exact ⟨h1, h2, h3, rfl, rfl, rfl, rfl, rfl, rfl⟩
          · cases h
        · cases h
      · cases h
    · cases h
  · cases h
/-- What begun leaves. -/
def BeGives (B dd b q : Nat) (s : ByteArray) (σ : St) (d : Nat) (L : List Tell) (c : Nat) (p : Pc) (w : World) (r : Ending) (w' : World) : Prop :=
  ((∃ e a, r = dies e a ∧ enterR p d L c = .bad e a) ∨
    ∃ F L' va, r = .returned (.agg #[.string F.sp, .string F.nm, va, .slice none 0 0, .string ⟨#[]⟩]) ∧ enterR p d L c = .ok (F, L') ∧ AttV (NB w.heap.size none w') w' va F.A ∧ DS B dd b q s σ (d + 1) L' (c + 1) w') ∧
  Below B w w' ∧ Kept docT w w'
set_option maxHeartbeats 8000000 in
theorem dbegun (B dd b q : Nat) (s : ByteArray) (σ : St) (d : Nat) (L : List Tell) (c : Nat) (p : Pc) (v : Value) (w : World) (h : DS B dd b q s σ d L c w) (hR : RowsB b w v p.attrs) (hp : PcOk (bl s).length p) :
    Calls Tryz.prog 69 #[.pointer (some ⟨dd, 0, none⟩), .agg #[.int .i64 p.kind, .string (str p.name), v, .string (str p.text), .int .i64 p.at_]] w (BeGives B dd b q s σ d L c p w) := by
  obtain ⟨ao, n, cap, rfl⟩ := rows_form hR
  have hA1 := (Below.refl w.heap.size w).alloc (Nat.le_refl _) (.cells #[.int .i64 p.kind, .string (str p.name), .slice ao n cap, .string (str p.text), .int .i64 p.at_] 117)
  have hA2 := (Below.refl (w.alloc (.cells #[.int .i64 p.kind, .string (str p.name), .slice ao n cap, .string (str p.text), .int .i64 p.at_] 117)).heap.size _).alloc (Nat.le_refl _) (.cells #[.string ⟨#[]⟩, .string ⟨#[]⟩, .slice none 0 0, .slice none 0 0, .string ⟨#[]⟩] 25)
  have HD := Lib.hid ((h.step hA1).step hA2)
  have HA := Lib.hid (hA1.trans (hA2.mono hA1.size))
  have HB := Lib.hid (HA.out.mono h.le)
  have HK := Lib.hid ((Kept.of docT HA.out))
  have HP := Lib.hid ((Kept.of docT hA2).heap (heap_alloc_new w (.cells #[.int .i64 p.kind, .string (str p.name), .slice ao n cap, .string (str p.text), .int .i64 p.at_] 117)) (by decide))
  have hRn := heap_alloc_new (w.alloc (.cells #[.int .i64 p.kind, .string (str p.name), .slice ao n cap, .string (str p.text), .int .i64 p.at_] 117)) (.cells #[.string ⟨#[]⟩, .string ⟨#[]⟩, .slice none 0 0, .slice none 0 0, .string ⟨#[]⟩] 25)
  rw [World.size_alloc] at hRn
  have HN := Lib.hid hRn
  have HW := Lib.hid (hR.keptOf HK.out (by decide))
  have HBw := Lib.hid h.le
  have HPk := Lib.hid hp
  have hc := h.pu.cnt
  have hdl := h.pu.lim
  clear h hR hp hA1 hA2 hRn
  have d2 := Lib.cell_of_heap HD.out.heap 2
  have d1 := Lib.cell_of_heap HD.out.heap 1
  have fz2 := Lib.frozen_of_heap HD.out.heap 2
  have p0 := Lib.cell_of_heap HP.out 0
  have p1 := Lib.cell_of_heap HP.out 1
  have p2 := Lib.cell_of_heap HP.out 2
  have p4 := Lib.cell_of_heap HP.out 4
  simp only [List.getElem?_toArray, List.getElem?_cons_zero, List.getElem?_cons_succ] at d1 d2 p0 p1 p2 p4
  have hci : (c : Int) ≤ 2000 := by omega
  have hsz := Lib.hid (show w.heap.size + 2 = ((w.alloc (.cells #[.int .i64 p.kind, .string (str p.name), .slice ao n cap, .string (str p.text), .int .i64 p.at_] 117)).alloc (.cells #[.string ⟨#[]⟩, .string ⟨#[]⟩, .slice none 0 0, .slice none 0 0, .string ⟨#[]⟩] 25)).heap.size by simp)
  go_enter Tryz.func69, Tryz.ntmps69
  go_wp2
  obtain ⟨R, hRe⟩ : ∃ R, w.heap.size = R := ⟨_, rfl⟩
  rw [hRe] at HP HN HBw p0 p1 p2 p4 hsz ⊢
  have HRe := Lib.hid hRe
  clear hRe
  generalize (w.alloc (.cells #[.int .i64 p.kind, .string (str p.name), .slice ao n cap, .string (str p.text), .int .i64 p.at_] 117)).alloc (.cells #[.string ⟨#[]⟩, .string ⟨#[]⟩, .slice none 0 0, .slice none 0 0, .string ⟨#[]⟩] 25) = W0 at HD HA HB HK HP HN HW hsz d1 d2 fz2 p0 p1 p2 p4 ⊢
  have hR2 := hsz.out
  have hddR : dd ≠ R ∧ dd ≠ R + 1 := by
    have h0 := HD.out.heap
    refine ⟨fun e => ?_, fun e => ?_⟩
    · rw [e, HP.out] at h0; cases h0
    · rw [e, HN.out] at h0; cases h0
  have hs := Only.set dd 2 W0 (.int .i64 ((c : Int) + 1))
  have HB1 := Lib.hid (HB.out.trans (hs.below HD.out.base HD.out.le))
  have HK1 := Lib.hid (HK.out.trans (Kept.set HD.out.heap (by decide) 2 (.int .i64 ((c : Int) + 1))))
  have HP1 := Lib.hid (hs.heap HP.out (by have := hddR.1; omega))
  have HN1 := Lib.hid (hs.heap HN.out (by have := hddR.2; omega))
  have HW1 := Lib.hid (HW.out.onlyOf hs HD.out.heap (by decide))
  have HC1 := Lib.hid (fun h : c < 2000 => HD.out.count h)
  have HH1 := Lib.hid (heap_set (o := 2) (.int .i64 ((c : Int) + 1)) HD.out.heap)
  have HZ1 := Lib.hid (show R + 2 ≤ (W0.setCell ⟨dd, 2, none⟩ (.int .i64 ((c : Int) + 1))).heap.size by have := hs.size; omega)
  clear hs hR2 d1 d2 fz2 p0 p1 p2 p4 HD HA HB HK HP HN HW hsz
  generalize W0.setCell ⟨dd, 2, none⟩ (.int .i64 ((c : Int) + 1)) = w1 at HB1 HK1 HP1 HN1 HW1 HC1 HH1 HZ1 ⊢
  have d2 := Lib.cell_of_heap HH1.out 2
  have p4 := Lib.cell_of_heap HP1.out 4
  simp at d2
  simp only [List.getElem?_toArray, List.getElem?_cons_zero, List.getElem?_cons_succ] at p4
  by_cases hc2 : c < 2000
  rotate_left
  · have HE : Hid (enterR p d L c = .bad 5 p.at_) := Lib.hid (by unfold enterR; rw [if_neg hc2])
    have q1 : decide ((c : Int) + 1 ≤ 2000) = false := decide_eq_false (by omega)
    go_still_tail 7, (by kernel_rfl)
    change wpList _ _ _ _ _ w1.drew
    go_wp2_with fail
    refine (must_bad _ _ _).mono ?_
    rintro e wy ⟨rfl, hw⟩
    obtain rfl := hw.symm
    exact ⟨rfl, .inl ⟨_, _, rfl, HE.out⟩, HB1.out.trans (Below.refl _ _).drew, HK1.out.trans (Kept.of docT (Below.refl _ _).drew)⟩
  have HD2 := Lib.hid ((HC1.out hc2).step (Below.refl _ _).drew)
  have HB2 := Lib.hid (HB1.out.trans (Below.refl _ _).drew)
  have HK2 := Lib.hid (HK1.out.trans (Kept.of docT (Below.refl _ _).drew))
  have HP2 : Hid (w1.drew.heap[R]? = _) := Lib.hid HP1.out
  have HN2 : Hid (w1.drew.heap[R + 1]? = _) := Lib.hid HN1.out
  have HW2 := Lib.hid (HW1.out.keptOf (Kept.of docT (Below.refl _ _).drew) (by decide))
  have HZ2 : Hid (R + 2 ≤ w1.drew.heap.size) := Lib.hid HZ1.out
  have q1 : decide ((c : Int) + 1 ≤ 2000) = true := decide_eq_true (by omega)
  have HC2 := Lib.hid hc2
  clear hc2 hc
  go_still_tail 7, (by kernel_rfl)
  change wpList _ _ _ _ _ w1.drew
  clear d2 p4 HB1 HK1 HP1 HN1 HW1 HC1 HH1 HZ1
  generalize w1.drew = w2 at HD2 HB2 HK2 HP2 HN2 HW2 HZ2 ⊢
  have CM := Lib.hid (must_ok 5 p.at_ w2)
  have d1 := Lib.cell_of_heap HD2.out.heap 1
  have p4 := Lib.cell_of_heap HP2.out 4
  simp only [List.getElem?_toArray, List.getElem?_cons_zero, List.getElem?_cons_succ] at d1 p4
  go_wp2_with fail
  refine CM.out.mono ?_
  rintro e wy ⟨rfl, hw⟩
  obtain rfl := hw.symm
  clear CM q1
  have CD := Lib.hid (pdepth B q d L w2.drew (HD2.out.sp.step (Below.refl _ _).drew))
  go_wp2_with fail
  refine wp_region_still_tail 8 (by kernel_rfl) (by kernel_rfl) ?_
  simp only [List.take_succ_cons, List.take_zero, List.drop_succ_cons, List.drop_zero]
  repeat still_step
  still_call CD.out
  repeat still_step
  refine wpStill_nil ?_
  change wpList _ _ _ _ _ w2.drew
  by_cases hd2 : d < 32
  rotate_left
  · have HE : Hid (enterR p d L c = .bad 4 p.at_) := Lib.hid (by unfold enterR; rw [if_pos HC2.out, if_neg hd2])
    have q1 : decide ((d : Int) < 32) = false := decide_eq_false (by omega)
    go_wp2_with fail
    refine (must_bad _ _ _).mono ?_
    rintro e wy ⟨rfl, hw⟩
    obtain rfl := hw.symm
    exact ⟨rfl, .inl ⟨_, _, rfl, HE.out⟩, HB2.out.trans (Below.refl _ _).drew, HK2.out.trans (Kept.of docT (Below.refl _ _).drew)⟩
  have HD3 := Lib.hid (HD2.out.step (Below.refl _ _).drew)
  have HB3 := Lib.hid (HB2.out.trans (Below.refl _ _).drew)
  have HK3 := Lib.hid (HK2.out.trans (Kept.of docT (Below.refl _ _).drew))
  have HP3 : Hid (w2.drew.heap[R]? = _) := Lib.hid HP2.out
  have HN3 : Hid (w2.drew.heap[R + 1]? = _) := Lib.hid HN2.out
  have HW3 := Lib.hid (HW2.out.keptOf (Kept.of docT (Below.refl _ _).drew) (by decide))
  have HZ3 : Hid (R + 2 ≤ w2.drew.heap.size) := Lib.hid HZ2.out
  have q1 : decide ((d : Int) < 32) = true := decide_eq_true (by omega)
  have HER : Hid (enterR p d L c = enterC p (enterL (d + 1) (toAtt p.attrs) [] L) (nameSp (enterL (d + 1) (toAtt p.attrs) [] L).2.2 (str p.name)) L) := Lib.hid (by unfold enterR; rw [if_pos HC2.out, if_pos hd2])
  clear hdl d1 p4 HD2 HB2 HK2 HP2 HN2 HW2 HZ2 CD
  generalize w2.drew = w3 at HD3 HB3 HK3 HP3 HN3 HW3 HZ3 ⊢
  have CM := Lib.hid (must_ok 4 p.at_ w3)
  have d1 := Lib.cell_of_heap HD3.out.heap 1
  have p2 := Lib.cell_of_heap HP3.out 2
  simp only [List.getElem?_toArray, List.getElem?_cons_zero, List.getElem?_cons_succ] at d1 p2
  go_wp2_with fail
  refine CM.out.mono ?_
  rintro e wy ⟨rfl, hw⟩
  obtain rfl := hw.symm
  clear CM q1 hw
  have CE := penter_rows B b q d L p.attrs (.slice ao n cap) w3.drew (HD3.out.sp.step (Below.refl _ _).drew) (by omega) (HW3.out.keptOf (Kept.of docT (Below.refl _ _).drew) (by decide)) (by have := HPk.out.few; omega)
  obtain ⟨Z, hZ⟩ : ∃ Z, enterL (d + 1) (toAtt p.attrs) [] L = Z := ⟨_, rfl⟩
  have HZm := Lib.hid hZ
  have her := HER.out
  rw [hZ] at CE her
  clear HER
  have HER := Lib.hid her
  have CE2 := Lib.hid CE
  clear hZ her CE
  go_wp2_with fail
  go_cut [5, 6] (fun va ve wx => ∃ az cz, va = .slice az Z.1.length cz ∧ ve = .int .i64 Z.2.1 ∧ wx.ownsRow w3.drew.heap.size 56 2 (.slice az Z.1.length cz) Z.1.length (cellsA Z.1) ∧ Sp B q (d + 1) Z.2.2 wx ∧ Below B w3.drew wx ∧ Apart w3.drew wx)
  case first =>
    go_region_with (go_at_call 100; refine CE2.out.mono ?_; rintro e w4 ⟨vz, rfl, hx⟩; obtain ⟨az, cz, rfl⟩ := own_form hx.1; have HX := Lib.hid hx; clear hx)
    all_goals
      go_wp2_with fail
      go_meet
      exact ⟨_, _, rfl, rfl, HX.out⟩
  case rest =>
    obtain ⟨az, cz, rfl, rfl, hown, hsp, hb4, ha4⟩ := hcut
    have HB4 := Lib.hid ((HB3.out.trans (Below.refl _ _).drew).trans hb4)
    have HK4 := Lib.hid ((HK3.out.trans (Kept.of docT (Below.refl _ _).drew)).trans (Kept.doc ha4))
    have HP4 := Lib.hid ((Kept.doc ha4).heap (show w3.drew.heap[R]? = _ from HP3.out) (by decide))
    have HN4 := Lib.hid ((Kept.doc ha4).heap (show w3.drew.heap[R + 1]? = _ from HN3.out) (by decide))
    have HV4 := Lib.hid (own_attv hown (show R + 2 ≤ w3.drew.heap.size from HZ3.out))
    have HO4 := Lib.hid hown
    have HZ4 := Lib.hid (show R + 2 ≤ wc.heap.size from Nat.le_trans HZ3.out ha4.size)
    have HS4 := Lib.hid (fun hp : Pu (bl s) σ (d + 1) Z.2.2 (c + 1) => (HD3.out.step (Below.refl _ _).drew).space hsp hb4 (Kept.apart ha4) hp)
    have HT4 := Lib.hid (show Tabs wc ∧ MaxL wc from ⟨((HD3.out.step (Below.refl _ _).drew).sc.glob.step hb4).tabs, ((HD3.out.step (Below.refl _ _).drew).sc.glob.step hb4).ent.maxl⟩)
    have HSP := Lib.hid hsp
    have HPU := Lib.hid HD3.out.pu
    clear hown hsp hb4 ha4 CE2 d1 p2 HD3 HB3 HK3 HN3 HW3 HZ3
    have p4 := Lib.cell_of_heap HP4.out 4
    simp only [List.getElem?_toArray, List.getElem?_cons_zero, List.getElem?_cons_succ] at p4
    by_cases hz : Z.2.1 = 0
    rotate_left
    · have q1 : (Z.2.1 == 0) = false := by simp [hz]
      have HE : Hid (enterR p d L c = .bad Z.2.1 p.at_) := Lib.hid (by rw [HER.out]; unfold enterC; rw [if_neg hz])
      clear hz
      go_wp2_with fail
      refine (must_bad _ _ _).mono ?_
      rintro e wy ⟨rfl, hw⟩
      obtain rfl := hw.symm
      exact ⟨rfl, .inl ⟨_, _, rfl, HE.out⟩, HB4.out, HK4.out⟩
    have HD4 := Lib.hid (HS4.out (by rw [← HZm.out] at hz ⊢; exact HPU.out.enter hd2 hz))
    have q1 : (Z.2.1 == 0) = true := by simp [hz]
    have HEC : Hid (enterR p d L c = if (nameSp Z.2.2 (str p.name)).2.2 = true then (if attsOk Z.1 = true then .ok (⟨p.name, p.at_, (nameSp Z.2.2 (str p.name)).1, (nameSp Z.2.2 (str p.name)).2.1, Z.1, [], [], L⟩, Z.2.2) else .bad 3 p.at_) else .bad 3 p.at_) := Lib.hid (by rw [HER.out]; unfold enterC; rw [if_pos hz])
    have CN := fun (w' : World) (h : Below wc.heap.size wc w') => pname B q (d + 1) Z.2.2 (str p.name) w' (HSP.out.step h) (by have := HD4.out.pu.few; omega) (by have h1 := HPk.out.name; have h2 := HPU.out; have h3 := HD4.out.sc.len; rw [bl_size] at h1; rw [str_size]; omega) (HT4.out.1.below h) (by obtain ⟨m, hm⟩ := HT4.out.2; exact ((HD4.out.sc.glob.step (h.mono HD4.out.le)).ent.maxl))
    obtain ⟨N, hN⟩ : ∃ N, nameSp Z.2.2 (str p.name) = N := ⟨_, rfl⟩
    rw [hN] at HEC CN
    have CN2 := Lib.hid (CN wc.drew (Below.refl _ _).drew)
    have CM := Lib.hid (must_ok Z.2.1 p.at_ wc)
    have d1 := Lib.cell_of_heap HD4.out.heap 1
    have p1 := Lib.cell_of_heap HP4.out 1
    simp only [List.getElem?_toArray, List.getElem?_cons_zero, List.getElem?_cons_succ] at d1 p1
    have HAL := Lib.hid (show Z.1.length ≤ 16 ∧ ∀ a ∈ Z.1, a.1.size ≤ 9223372036854775807 by
      rw [← HZm.out]
      have hr := enterL_rest (d + 1) (toAtt p.attrs) [] L
      have hl : (toAtt p.attrs).length = p.attrs.length := by unfold toAtt; simp
      refine ⟨by have := hr.1; have := HPk.out.few; simp at *; omega, fun a ha => ?_⟩
      rcases hr.2 a ha with h | h
      · cases h
      · unfold toAtt at h
        obtain ⟨y, hy, rfl⟩ := List.mem_map.1 h
        have h1 := HPk.out.atts y hy
        have h3 := HD4.out.sc.len
        rw [bl_size] at h1
        show (str y.1).size ≤ _
        rw [str_size]; omega)
    clear hz hN CN HER HS4 HPU HZm HSP
    go_wp2_with fail
    refine CM.out.mono ?_
    rintro e wy ⟨rfl, hw⟩
    obtain rfl := hw.symm
    clear CM q1 hw
    go_wp2_with fail
    go_cut [7, 8, 9] (fun v7 v8 v9 wx => v7 = .string N.1 ∧ v8 = .string N.2.1 ∧ v9 = .bool N.2.2 ∧ Below wc.heap.size wc wx)
    case first =>
      go_region_with (go_at_call 101; refine CN2.out.mono ?_; rintro e w5 ⟨rfl, hb5⟩; have HX := Lib.hid ((Below.refl wc.heap.size wc).drew.trans hb5); clear hb5)
      all_goals
        go_wp2_with fail
        go_meet
        exact ⟨rfl, rfl, rfl, HX.out⟩
    case rest =>
      obtain ⟨rfl, rfl, rfl, hb5⟩ := hcut
      have HB5 := Lib.hid (HB4.out.trans (hb5.mono HD4.out.le))
      have HK5 := Lib.hid (HK4.out.trans (Kept.of docT hb5))
      have HP5 := Lib.hid ((Kept.of docT hb5).heap HP4.out (by decide))
      have HN5 := Lib.hid ((Kept.of docT hb5).heap HN4.out (by decide))
      have HV5 := Lib.hid (HV4.out.kept (Kept.of docT hb5) (by decide) (by decide))
      have HO5 := Lib.hid (own_kept HO4.out hb5)
      have HZ5 := Lib.hid (Nat.le_trans HZ4.out hb5.size)
      have HT5 := Lib.hid (HT4.out.1.below hb5)
      have HD5 := Lib.hid (HD4.out.step hb5)
      clear hb5 p4 d1 p1 HB4 HK4 HP4 HN4 HV4 HO4 HZ4 HT4 HD4 CN2
      have p4 := Lib.cell_of_heap HP5.out 4
      simp only [List.getElem?_toArray, List.getElem?_cons_zero, List.getElem?_cons_succ] at p4
      obtain ⟨sp, nm, kn⟩ := N
      have HEC : Hid (enterR p d L c = if kn = true then (if attsOk Z.1 = true then .ok (⟨p.name, p.at_, sp, nm, Z.1, [], [], L⟩, Z.2.2) else .bad 3 p.at_) else .bad 3 p.at_) := HEC
      cases kn with
      | false =>
        have HE : Hid (enterR p d L c = .bad 3 p.at_) := HEC
        go_wp2_with fail
        refine (must_bad _ _ _).mono ?_
        rintro e wy ⟨rfl, hw⟩
        obtain rfl := hw.symm
        exact ⟨rfl, .inl ⟨_, _, rfl, HE.out⟩, HB5.out, HK5.out⟩
      | true =>
        have HE : Hid (enterR p d L c = if attsOk Z.1 = true then .ok (⟨p.name, p.at_, sp, nm, Z.1, [], [], L⟩, Z.2.2) else .bad 3 p.at_) := HEC
        have CM := Lib.hid (must_ok 3 p.at_ wc)
        clear HEC
        go_wp2_with fail
        refine CM.out.mono ?_
        rintro e wy ⟨rfl, hw⟩
        obtain rfl := hw.symm
        clear CM hw
        go_wp2_with fail
        go_loopg [69] Z.1.length (fun g k wr => ∃ j, g + j = Z.1.length ∧ k = .int .i64 (j : Nat) ∧ Below wc.heap.size wc wr ∧ Hid (∀ i (h : i < Z.1.length), i < j → nameL (bl (Z.1[i]'h).1) = true))
        case atStart => exact ⟨0, rfl, rfl, Below.refl _ _, Lib.hid (fun i _ h => absurd h (Nat.not_lt_zero i))⟩
        case round =>
          obtain ⟨j, hg, rfl, hbw, HJ⟩ := hrel
          have hZl := HAL.out.1
          by_cases hj : j < Z.1.length
          · obtain ⟨g0, rfl, hg0⟩ := own_some HO5.out (by omega)
            obtain ⟨x, hx⟩ : ∃ x, Z.1[j]'hj = x := ⟨_, rfl⟩
            have hc0 := (hbw.cell (p := ⟨g0, j * 2, none⟩) hg0).trans (row_cellsA HO5.out j hj).1
            have hc1 := (hbw.cell (p := ⟨g0, j * 2 + 1, none⟩) hg0).trans (row_cellsA HO5.out j hj).2
            rw [hx] at hc0 hc1
            have hj' : (j : Int) < (Z.1.length : Int) := by omega
            have hA := (Below.refl wr.heap.size wr).alloc (Nat.le_refl _) (.cells #[.string x.1, .string x.2] 56)
            have hbA := hbw.trans (hA.mono hbw.size)
            have hRlt : R < wc.heap.size := by have := HZ5.out; omega
            have k4 := (hbA.cell (p := ⟨R, 4, none⟩) hRlt).trans p4
            have hxs : x.1.size ≤ 9223372036854775807 := HAL.out.2 x (by rw [← hx]; exact List.getElem_mem hj)
            have CN := Lib.hid (cname x.1 (wr.alloc (.cells #[.string x.1, .string x.2] 56)).drew hxs (HT5.out.below (hbA.trans (Below.refl _ _).drew)))
            have HBA := Lib.hid hbA
            have HRlt := Lib.hid (show R < (wr.alloc (.cells #[.string x.1, .string x.2] 56)).drew.heap.size from Nat.lt_of_lt_of_le hRlt hbA.size)
            have HK4 := Lib.hid k4
            clear hA hbA hxs
            cases hn : nameL (bl x.1) with
            | false =>
              rw [hn] at CN
              have HF : Hid (enterR p d L c = .bad 3 p.at_) := Lib.hid (by
                rw [HE.out, if_neg]
                intro h
                have h2 := List.all_eq_true.1 h x (by rw [← hx]; exact List.getElem_mem hj)
                rw [hn] at h2
                cases h2)
              clear hn hx
              go_wp2
              go_region_with (first
                | (go_at_call 78; refine CN.out.mono ?_; rintro e wy ⟨rfl, hby⟩; have HY := Lib.hid hby; have ky : wy.cell? ⟨R, 4, none⟩ = some (.int .i64 p.at_) := (hby.cell (p := ⟨R, 4, none⟩) HRlt.out).trans HK4.out; clear hby)
                | (go_at_call 45; refine (must_bad _ _ _).mono ?_; rintro e wz ⟨rfl, hw⟩; obtain rfl := hw.symm
                   refine ends_any ⟨rfl, .inl ⟨_, _, rfl, HF.out⟩, (HB5.out.trans (HBA.out.mono (Nat.le_trans HD5.out.le (Nat.le_refl _)))).trans ((Below.refl _ _).drew.trans (HY.out.mono (Nat.le_trans HD5.out.le HBA.out.size))), ((HK5.out.trans (Kept.of docT HBA.out)).trans (Kept.of docT (Below.refl _ _).drew)).trans (Kept.of docT HY.out)⟩ wy ?_))
              all_goals trivial
            | true =>
              rw [hn] at CN
              have HJ2 := Lib.hid (show ∀ i (h : i < Z.1.length), i < j + 1 → nameL (bl (Z.1[i]'h).1) = true from fun i hi hij => by
                by_cases e : i = j
                · subst e; rw [hx]; exact hn
                · exact HJ.out i hi (by omega))
              clear hn hx
              go_wp2
              go_region_with (first
                | (go_at_call 78; refine CN.out.mono ?_; rintro e wy ⟨rfl, hby⟩; have HY := Lib.hid hby; have ky : wy.cell? ⟨R, 4, none⟩ = some (.int .i64 p.at_) := (hby.cell (p := ⟨R, 4, none⟩) HRlt.out).trans HK4.out; clear hby)
                | (go_at_call 45; refine (must_ok _ _ _).mono ?_; rintro e wz ⟨rfl, hw⟩; obtain rfl := hw.symm))
              all_goals
                have hbw2 := HBA.out.trans ((Below.refl _ _).drew.trans (HY.out.mono HBA.out.size))
                clear hbw hc0 hc1 k4 ky HBA HRlt HK4 CN HY
                go_wp2
                go_roundg (Z.1.length - (j + 1))
                case measure => omega
                case rel => exact ⟨j + 1, by omega, by go_num, hbw2, HJ2⟩
          · have HF : Hid (enterR p d L c = .ok (⟨p.name, p.at_, sp, nm, Z.1, [], [], L⟩, Z.2.2)) := Lib.hid (by
              rw [HE.out, if_pos]
              refine List.all_eq_true.2 fun a ha => ?_
              obtain ⟨i, hi, rfl⟩ := List.mem_iff_getElem.1 ha
              exact HJ.out i hi (by omega))
            have HN6 := Lib.hid ((Kept.of docT hbw).heap HN5.out (by decide))
            have HV6 := Lib.hid (HV5.out.kept (Kept.of docT hbw) (by decide) (by decide))
            have HD6 := Lib.hid (HD5.out.step hbw)
            have HB6 := Lib.hid (HB5.out.trans (hbw.mono HD5.out.le))
            have HK6 := Lib.hid (HK5.out.trans (Kept.of docT hbw))
            have f0 := Lib.frozen_of_heap HN6.out 0
            have f1 := Lib.frozen_of_heap HN6.out 1
            have f2 := Lib.frozen_of_heap HN6.out 2
            have f3 := Lib.frozen_of_heap HN6.out 3
            have f4 := Lib.frozen_of_heap HN6.out 4
            have r0 := Lib.cell_of_heap HN6.out 0
            have r1 := Lib.cell_of_heap HN6.out 1
            have r2 := Lib.cell_of_heap HN6.out 2
            have r3 := Lib.cell_of_heap HN6.out 3
            have r4 := Lib.cell_of_heap HN6.out 4
            simp only [List.getElem?_toArray, List.getElem?_cons_zero, List.getElem?_cons_succ] at r0 r1 r2 r3 r4
            have hj' : ¬ (j : Int) < (Z.1.length : Int) := by omega
            clear p4
            go_wp2
            have hs5 := st5_onlyR wr (R + 1) (.string sp) (.string nm) (.slice az Z.1.length cz) (.slice none 0 0) (.string ⟨#[]⟩)
            refine bodyPost_ret (res_node _ 4 rfl _ (R + 1) rfl _ _ _ _ _ _ 25 (0, 0) (st5_heap HN6.out _ _ _ _ _)) rfl ⟨.inr ⟨_, _, _, rfl, HF.out, ?_, ?_⟩, ?_, ?_⟩
            · rw [HRe.out]
              refine HV6.out.to hs5.size fun g hp hg => ?_
              obtain ⟨h0, h1, cs, t, zz, h2, h3⟩ := hp
              have he := hs5.block g hg (by omega)
              exact ⟨⟨by omega, h1, cs, t, zz, he.trans h2, h3⟩, he⟩
            · exact HD6.out.only hs5 HN6.out (by decide) (by have := HBw.out; omega)
            · exact HB6.out.trans (hs5.below (by have := HBw.out; omega) HD6.out.le)
            · exact HK6.out.new hs5 (by have := HRe.out; omega)

end Go.Proofs.YtnlkpdodacphkaaGreatDoor
