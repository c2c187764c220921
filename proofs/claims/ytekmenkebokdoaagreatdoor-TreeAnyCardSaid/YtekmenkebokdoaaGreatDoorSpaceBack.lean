/-
  The walks of slices.Backward at tellings: what it hands to a loop's body, one by one, from the last on.
-/
import Derived.Test.YtekmenkebokdoaaGreatDoorSpaceRep
import Derived.RangeFuncNested
import Derived.RangeFuncCalls
import Derived.RangeFuncLeaves
import Derived.Shelf.Abstract
import Derived.Shelf.RegionOpen
import Derived.OwnWalkIn
import Derived.TacticsInMore
import Derived.LoopNIn
import Derived.LoopIn
namespace Go.Proofs.YtekmenkebokdoaaGreatDoor
open Go Go.RowKit Go.Shelf
set_option maxRecDepth 100000
attribute [local go_sem] Oper.semAt_some

/-- A telling as a value. -/
def tellV (t : Tell) : Value := .agg #[.string t.p, .string t.s, .int .i64 t.d]
/-- What has come when k rounds are over. -/
def backL (L : List Tell) (k : Nat) : List (Nat × Tell) := (List.range k).map fun j => (L.length - 1 - j, L[L.length - 1 - j]?.getD ⟨bNone, bNone, 0⟩)
theorem backL_succ (L : List Tell) (k : Nat) : backL L (k + 1) = backL L k ++ [(L.length - 1 - k, L[L.length - 1 - k]?.getD ⟨bNone, bNone, 0⟩)] := by simp [backL, List.range_succ]
theorem backL_len (L : List Tell) (k : Nat) : (backL L k).length = k := by simp [backL]
theorem backL_take (L : List Tell) {k : Nat} (hk : k ≤ L.length) : (backL L k).map Prod.snd = L.reverse.take k := by
  apply List.ext_getElem
  · simp [backL, hk]
  · intro i h1 h2
    have hi : i < k := by simp [backL] at h1; omega
    simp [backL, List.getElem_reverse, show L.length - 1 - i < L.length by omega]

set_option maxHeartbeats 2000000 in
theorem pback1 (n : Nat) (hn : 1 ≤ n) (l Bs n₀ k cap : Nat) (L : List Tell) (hlen : L.length ≤ 1000) (hb : k < n₀) (J Jx : List (Nat × Tell) → World → Prop)
    (hY : ∀ pre x W, J pre W → pre.length < L.length → YieldAt Fence.wide (n - 1) Tryz.prog l #[.int .i64 (x.1 : Int), tellV x.2] W fun e W' =>
      (e = .returned (.bool true) ∧ J (pre ++ [x]) W' ∧ Below n₀ W W') ∨ (e = .returned (.bool false) ∧ Jx (pre ++ [x]) W'))
    (W : World) (hBs : W.cell? ⟨Bs, 0, none⟩ = some (.slice (some ⟨k, 0, none⟩) L.length cap)) (hBl : Bs < n₀)
    (hc : ∀ j (h : j < L.length), W.cell? ⟨k, j * 3, none⟩ = some (.string (L[j]'h).p) ∧ W.cell? ⟨k, j * 3 + 1, none⟩ = some (.string (L[j]'h).s) ∧ W.cell? ⟨k, j * 3 + 2, none⟩ = some (.int .i64 (L[j]'h).d)) (h0 : J [] W) :
    CallsIn Fence.wide n Tryz.prog 110 #[.func (.yield l) #[] #[], .pointer (some ⟨Bs, 0, none⟩)] W fun e W' => (∃ v, e = .returned v) ∧
      ((∃ ys, ys.map Prod.snd = L.reverse ∧ J ys W') ∨ (∃ pre, pre.map Prod.snd <+: L.reverse ∧ Jx pre W')) := by
  refine callsIn_of_wp Tryz.func110 rfl trivial ?_ rfl
  simp only [Tryz.ntmps110, List.size_toArray, List.length_cons, List.length_nil, Nat.reduceAdd, Nat.reduceSub, Array.replicate_succ, Array.replicate_zero, List.push_toArray, List.append_toArray, List.nil_append, List.cons_append]
  gi_wp2
  gi_loopw [3] (fun i wr => ∃ j : Nat, j ≤ L.length ∧ i = .int .i64 ((L.length : Int) - 1 - j) ∧ J (backL L j) wr ∧ Below n₀ W wr)
    (fun i _ => (intOf i + 1).toNat)
  case atStart => exact ⟨0, Nat.zero_le _, by simp, h0, Below.refl _ _⟩
  case round =>
    obtain ⟨j, hj, rfl, hJs, hnx⟩ := hrel
    have hBs' := (hnx.cell (p := ⟨Bs, 0, none⟩) hBl).trans hBs
    by_cases hlt : j < L.length
    · obtain ⟨m, hm⟩ : ∃ m, m = L.length - 1 - j := ⟨_, rfl⟩
      have hml : m < L.length := by omega
      have hmi : (L.length : Int) - 1 - j = (m : Int) := by omega
      rw [hmi]
      obtain ⟨b0, b1, b2⟩ := hc m hml
      have c0 := (hnx.cell (p := ⟨k, m * 3, none⟩) hb).trans b0
      have c1 := (hnx.cell (p := ⟨k, m * 3 + 1, none⟩) hb).trans b1
      have c2 := (hnx.cell (p := ⟨k, m * 3 + 2, none⟩) hb).trans b2
      clear b0 b1 b2
      obtain ⟨t, ht⟩ : ∃ t, L[m]'hml = t := ⟨_, rfl⟩
      rw [ht] at c0 c1 c2
      have hx : (L.length - 1 - j, L[L.length - 1 - j]?.getD ⟨bNone, bNone, 0⟩) = (m, t) := by rw [← hm, List.getElem?_eq_getElem hml, ht]; rfl
      obtain ⟨fn, tmps, assign, body, hy, hR⟩ := hY _ (m, t) wr hJs (by rw [backL_len]; exact hlt)
      dsimp only [tellV] at hy
      have hL0 : (m : Int) < (L.length : Int) := by omega
      have HX := Lib.hid hx
      have HM := Lib.hid (show (m : Int) - 1 = (L.length : Int) - 1 - ((j + 1 : Nat) : Int) by omega)
      have hjl := Lib.hid (show j + 1 ≤ L.length by omega)
      have HN := Lib.hid hnx
      have HML := Lib.hid (show ((m : Int) - 1 + 1).toNat < ((m : Int) + 1).toNat by omega)
      clear hx hm hmi hc hBs h0 hY ht hnx hj hlt hml
      gi_wp2
      refine hR.mono ?_
      rintro e W3 (⟨rfl, hJ3, hk3⟩ | ⟨rfl, hJx3⟩)
      · gi_wp2
        go_roundw
        case rel => exact ⟨j + 1, hjl.out, by rw [HM.out], by rw [backL_succ, HX.out]; exact hJ3, HN.out.trans hk3⟩
        case measure => exact HML.out
      · gi_wp2
        refine bodyPost_ret (results_none rfl _ _ _) rfl ?_
        exact ⟨⟨_, rfl⟩, .inr ⟨backL L (j + 1), by rw [backL_take L hjl.out]; exact List.take_prefix _ _, by rw [backL_succ, HX.out]; exact hJx3⟩⟩
    · obtain rfl : j = L.length := by omega
      have he : (L.length : Int) - 1 - (L.length : Int) = -1 := by omega
      rw [he]
      gi_wp2
      go_end0
      exact ⟨⟨_, rfl⟩, .inl ⟨_, by rw [backL_take L (Nat.le_refl _), ← List.length_reverse, List.take_length], hJs⟩⟩

set_option maxHeartbeats 1000000 in
theorem pback (n : Nat) (a : Option Addr) (len cap : Nat) (w : World) :
    CallsIn Fence.wide n Tryz.prog 92 #[.slice a len cap] w fun e w' => e = .returned (.func (.func 110) #[] #[.pointer (some ⟨w.heap.size, 0, none⟩)]) ∧ w' = w.alloc (.cells #[.slice a len cap] 69) := by
  refine callsIn_of_wp Tryz.func92 rfl trivial ?_ rfl
  simp only [Tryz.ntmps92, List.size_toArray, List.length_cons, List.length_nil, Nat.reduceAdd, Nat.reduceSub, Array.replicate_succ, Array.replicate_zero, List.push_toArray, List.append_toArray, List.nil_append, List.cons_append]
  gi_wp2
  go_ret
  exact ⟨rfl, rfl⟩

theorem pback_stops (n : Nat) (hn : 1 ≤ n) (Bs n₀ k cap : Nat) (L : List Tell) (hlen : L.length ≤ 1000) (w : World) (hBs : Bs < n₀) (hk : k < n₀) (hn₀ : n₀ ≤ w.heap.size)
    (hcs : w.cell? ⟨Bs, 0, none⟩ = some (.slice (some ⟨k, 0, none⟩) L.length cap))
    (hc : ∀ j (h : j < L.length), w.cell? ⟨k, j * 3, none⟩ = some (.string (L[j]'h).p) ∧ w.cell? ⟨k, j * 3 + 1, none⟩ = some (.string (L[j]'h).s) ∧ w.cell? ⟨k, j * 3 + 2, none⟩ = some (.int .i64 (L[j]'h).d)) :
    SeqStopsK Fence.wide n Tryz.prog 110 #[.pointer (some ⟨Bs, 0, none⟩)] (fun x : Nat × Tell => #[Value.int .i64 (x.1 : Int), tellV x.2]) (Below n₀) (fun ys => ys.map Prod.snd = L.reverse) (fun pre => pre.map Prod.snd <+: L.reverse) L.length w :=
  fun l J Jx W hW _ _ hY h0 => by
    have hW' := hW.mono hn₀
    exact pback1 n hn l Bs n₀ k cap L hlen hk J Jx hY W ((hW'.cell (p := ⟨Bs, 0, none⟩) hBs).trans hcs) hBs
      (fun j hj => ⟨(hW'.cell (p := ⟨k, j * 3, none⟩) hk).trans (hc j hj).1, (hW'.cell (p := ⟨k, j * 3 + 1, none⟩) hk).trans (hc j hj).2.1, (hW'.cell (p := ⟨k, j * 3 + 2, none⟩) hk).trans (hc j hj).2.2⟩) h0

end Go.Proofs.YtekmenkebokdoaaGreatDoor
