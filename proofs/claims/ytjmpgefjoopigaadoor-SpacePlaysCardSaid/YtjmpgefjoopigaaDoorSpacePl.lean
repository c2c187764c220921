/-
  What the walk of the law SpacePlays keeps.
-/
import Derived.Test.YtjmpgefjoopigaaDoorSpaceStk
import Derived.Test.YtjmpgefjoopigaaDoorLaw05M
namespace Go.Proofs.YtjmpgefjoopigaaDoor
open Go Go.RowKit
set_option maxRecDepth 100000

theorem u_cells (k : Nat) (hk : k < 4) : (#[.string ⟨#[117, 97]⟩, .string ⟨#[117, 98]⟩, .string ⟨#[117, 99]⟩, .string ⟨#[117, 100]⟩] : Array Value)[k]? = some (.string (uS k)) := by
  match k, hk with
  | 0, _ => rfl
  | 1, _ => rfl
  | 2, _ => rfl
  | 3, _ => rfl
theorem name_cells (k : Nat) (hk : k < 3) : (#[.string ⟨#[120, 109, 108, 110, 115]⟩, .string ⟨#[120, 109, 108, 110, 115, 58, 112]⟩, .string ⟨#[120, 109, 108, 110, 115, 58, 113]⟩] : Array Value)[k]? = some (.string (nameP k)) := by
  match k, hk with
  | 0, _ => rfl
  | 1, _ => rfl
  | 2, _ => rfl
theorem now_cells (T : Row3) (v : Nat → Nat) (kn k : Nat) (hk : k < 3) : (#[.string (nowK T v kn 0), .string (nowK T v kn 1), .string (nowK T v kn 2)] : Array Value)[k]? = some (.string (nowK T v kn k)) := by
  match k, hk with
  | 0, _ => rfl
  | 1, _ => rfl
  | 2, _ => rfl
theorem row_info : (Tryd.prog.info? 25).map (fun i => (i.zero, i.size, i.bytes)) = some (some (.agg #[.string ⟨#[]⟩, .string ⟨#[]⟩, .string ⟨#[]⟩]), 3, 48) := by kernel_rfl
/-- Acts, as they were handed in. -/
def ActsIn (w : World) (ao : Option Addr) (n : Nat) : Prop := 0 < n → ∃ b off, ao = some ⟨b, off, none⟩ ∧ b < w.heap.size ∧ ∀ i, i < n → ∀ q, q < 4 → ∃ z, w.cell? ⟨b, off + i * 4 + q, none⟩ = some (.int .i64 z)

/-- What the loop over acts keeps. -/
structure PlR (b : Nat) (w : World) (d : Nat) (L : List Tell) (M : List Row3) (mv : Value) (wr : World) : Prop where
  stk : Stk d L M
  sp : Sp w.heap.size b d L wr
  below : Below w.heap.size w wr
  own : wr.ownsRow w.heap.size 25 3 mv M.length (rowsC M)
theorem pre_cells (k : Nat) (hk : k < 3) : (#[.string ⟨#[]⟩, .string ⟨#[112]⟩, .string ⟨#[113]⟩] : Array Value)[k]? = some (.string (preP k)) := by
  match k, hk with
  | 0, _ => rfl
  | 1, _ => rfl
  | 2, _ => rfl
theorem rowsC_take (M : List Row3) (m : Nat) (hm : m ≤ M.length) : (rowsC M).take (m * 3) = rowsC (M.take m) := by
  have h : rowsC M = rowsC (M.take m) ++ rowsC (M.drop m) := by rw [← rowsC_app, List.take_append_drop]
  have hl : (rowsC (M.take m)).length = m * 3 := by rw [rowsC_len, List.length_take, Nat.min_eq_left hm]
  rw [h, ← hl]
  exact List.take_left
theorem PlR.step {b d : Nat} {w : World} {L : List Tell} {M : List Row3} {mv : Value} {wr wx : World} (h : PlR b w d L M mv wr) (hB : Below wr.heap.size wr wx) : PlR b w d L M mv wx :=
  ⟨h.stk, h.sp.step hB, h.below.trans (hB.mono h.below.size), own_kept h.own hB⟩
theorem PlR.first {b : Nat} {w w1 : World} (hS : Sp w.heap.size b 0 tells0 w1) (hB : Below w.heap.size w w1) :
    PlR b w 0 tells0 [row0] (.slice (some ⟨w1.heap.size, 0, none⟩) 1 1) (w1.alloc (.cells #[.string ⟨#[]⟩, .string ⟨#[110, 111, 110, 101]⟩, .string ⟨#[110, 111, 110, 101]⟩] 25)) :=
  ⟨.first, hS.step ((Below.refl _ _).alloc (Nat.le_refl _) _), hB.alloc hB.size _, World.ownsRow_lit w1 #[.string ⟨#[]⟩, .string ⟨#[110, 111, 110, 101]⟩, .string ⟨#[110, 111, 110, 101]⟩] 1 hB.size (by decide) rfl⟩

theorem PlR.grown {b d g mn cp : Nat} {w : World} {L : List Tell} {M : List Row3} {wx wy : World} {row : Option Nat} (h : PlR b w d L M (.slice (some ⟨g, 0, none⟩) mn cp) wx) (hg : wx.grownBy wy row)
    (hr : ∀ r, row = some r → ¬ IsT wx.heap[r]? ∧ w.heap.size ≤ r ∧ r ≠ g) : PlR b w d L M (.slice (some ⟨g, 0, none⟩) mn cp) wy :=
  ⟨h.stk, h.sp.grown hg (fun r e => (hr r e).1), h.below.grown hg h.below.size (fun r e => (hr r e).2.1), h.own.kept hg (.inr fun e => (hr g e.symm).2.2 rfl)⟩
/-- What the loop over an element's three prefixes keeps. -/
structure LpB (b Q d g mn cp : Nat) (w : World) (L : List Tell) (M : List Row3) (T : Row3) (v : Nat → Nat) (kn ka : Nat) (av : Value) (wx : World) : Prop where
  row : PlR b w d L M (.slice (some ⟨g, 0, none⟩) mn cp) wx
  now : wx.heap[Q + 1]? = some (.cells #[.string (nowK T v kn 0), .string (nowK T v kn 1), .string (nowK T v kn 2)] 25 (0, 0))
  att : wx.ownsRow Q 31 2 av (attK v ka).length (cellsA (attK v ka))
  gQ : g < Q
  wQ : w.heap.size ≤ Q
theorem LpB.start {b d g mn cp : Nat} {w wB : World} {L : List Tell} {M : List Row3} (T : Row3) (v : Nat → Nat) (h : PlR b w d L M (.slice (some ⟨g, 0, none⟩) mn cp) wB) :
    LpB b wB.heap.size d g mn cp w L M T v 0 0 (.slice (some ⟨wB.heap.size, 0, none⟩) 1 1) ((wB.alloc (.cells #[.string ⟨#[120]⟩, .string ⟨#[121]⟩] 31)).alloc (.cells #[.string (T 0), .string (T 1), .string (T 2)] 25)) := by
  have hb := ((Below.refl wB.heap.size wB).alloc (Nat.le_refl _) (.cells #[.string ⟨#[120]⟩, .string ⟨#[121]⟩] 31)).alloc (by simp) (.cells #[.string (T 0), .string (T 1), .string (T 2)] 25)
  refine ⟨h.step hb, ?_, (World.ownsRow_lit wB #[.string ⟨#[120]⟩, .string ⟨#[121]⟩] 1 (Nat.le_refl _) (by decide) rfl).alloc _, (h.own.lt g rfl).2, h.below.size⟩
  have := heap_alloc_new (wB.alloc (.cells #[.string ⟨#[120]⟩, .string ⟨#[121]⟩] 31)) (.cells #[.string (T 0), .string (T 1), .string (T 2)] 25)
  rw [World.size_alloc] at this
  exact this
theorem nowK_skip (T : Row3) (v : Nat → Nat) (k : Nat) (h : wantU (v k) = none) : nowK T v (k + 1) = nowK T v k := by
  funext j
  unfold nowK
  by_cases h1 : j < k
  · rw [if_pos h1, if_pos (by omega)]
  · rw [if_neg h1]
    by_cases h2 : j < k + 1
    · obtain rfl : j = k := by omega
      rw [if_pos h2, h]; rfl
    · rw [if_neg h2]
theorem attK_skip (v : Nat → Nat) (k : Nat) (h : wantU (v k) = none) : attK v (k + 1) = attK v k := by
  show (match wantU (v k) with | none => attK v k | some u => attK v k ++ [(nameP k, u)]) = _
  rw [h]
theorem attK_tell (v : Nat → Nat) (k : Nat) (u : ByteArray) (h : wantU (v k) = some u) : attK v (k + 1) = attK v k ++ [(nameP k, u)] := by
  show (match wantU (v k) with | none => attK v k | some u => attK v k ++ [(nameP k, u)]) = _
  rw [h]
theorem nowK_tell (T : Row3) (v : Nat → Nat) (k : Nat) (u : ByteArray) (hk : k < 3) (h : wantU (v k) = some u) :
    (#[.string (nowK T v k 0), .string (nowK T v k 1), .string (nowK T v k 2)] : Array Value).setIfInBounds k (.string u) = #[.string (nowK T v (k + 1) 0), .string (nowK T v (k + 1) 1), .string (nowK T v (k + 1) 2)] := by
  match k, hk with
  | 0, _ => simp [nowK, h]
  | 1, _ => simp [nowK, h]
  | 2, _ => simp [nowK, h]
theorem LpB.skip {b Q d g mn cp k : Nat} {w : World} {L : List Tell} {M : List Row3} {T : Row3} {v : Nat → Nat} {av : Value} {wx : World} (h : LpB b Q d g mn cp w L M T v k k av wx) (hw : wantU (v k) = none) :
    LpB b Q d g mn cp w L M T v (k + 1) (k + 1) av wx :=
  ⟨h.row, by rw [nowK_skip T v k hw]; exact h.now, by rw [attK_skip v k hw]; exact h.att, h.gQ, h.wQ⟩
theorem LpB.step {b Q d g mn cp kn ka : Nat} {w : World} {L : List Tell} {M : List Row3} {T : Row3} {v : Nat → Nat} {av : Value} {wx wy : World} (h : LpB b Q d g mn cp w L M T v kn ka av wx) (hb : Below wx.heap.size wx wy) :
    LpB b Q d g mn cp w L M T v kn ka av wy :=
  ⟨h.row.step hb, (hb.block _ (Array.getElem?_eq_some_iff.1 h.now).1).trans h.now, own_kept h.att hb, h.gQ, h.wQ⟩
theorem set_grown (w : World) (b o : Nat) (v : Value) : w.grownBy (w.setCell ⟨b, o, none⟩ v) (some b) :=
  ⟨rfl, rfl, rfl, by simp [World.setCell], fun j _ hne => Below.heap_setCell _ _ _ _ (fun e => hne (by rw [e]))⟩
theorem LpB.put {b Q d g mn cp k : Nat} {w : World} {L : List Tell} {M : List Row3} {T : Row3} {v : Nat → Nat} {av : Value} {wx : World} {u : ByteArray} (h : LpB b Q d g mn cp w L M T v k k av wx) (hk : k < 3) (hw : wantU (v k) = some u) :
    LpB b Q d g mn cp w L M T v (k + 1) k av (wx.setCell ⟨Q + 1, k, none⟩ (.string u)) := by
  have hgQ := h.gQ
  have hwQ := h.wQ
  refine ⟨h.row.grown (set_grown _ _ _ _) (fun r e => by cases e; exact ⟨not_IsT h.now (by decide) (by decide), by omega, by omega⟩), ?_, ?_, h.gQ, h.wQ⟩
  · rw [heap_put _ h.now, nowK_tell T v k u hk hw]
  · refine h.att.kept (set_grown _ _ _ _) (.inr fun e => ?_)
    rcases h.att.2 with ⟨rfl, _⟩ | ⟨g', cap', cur, rfl, _, hg', _⟩
    · simp [Value.ownBlock] at e
    · simp only [Value.ownBlock, Option.some.injEq] at e
      subst e
      have := h.now.symm.trans hg'
      simp at this
theorem LpB.app {b Q d g mn cp k : Nat} {w : World} {L : List Tell} {M : List Row3} {T : Row3} {v : Nat → Nat} {av x : Value} {wx w7 : World} {u : ByteArray} {o1 o2 : Obj} (h : LpB b Q d g mn cp w L M T v (k + 1) k av wx) (hw : wantU (v k) = some u)
    (hg : ((wx.alloc o1).alloc o2).grownBy w7 av.ownBlock) (hown : w7.ownsRow Q 31 2 x ((attK v k).length + 1) (cellsA (attK v k) ++ [.string (nameP k), .string u])) :
    LpB b Q d g mn cp w L M T v (k + 1) (k + 1) x w7 := by
  have hgQ := h.gQ
  have hwQ := h.wQ
  have hB2 := ((Below.refl wx.heap.size wx).alloc (Nat.le_refl _) o1).alloc (by simp) o2
  have h2 := h.step hB2
  have hr : ∀ r, av.ownBlock = some r → ¬ IsT ((wx.alloc o1).alloc o2).heap[r]? ∧ Q ≤ r ∧ r ≠ Q + 1 := by
    intro r e
    rcases h2.att.2 with ⟨rfl, _⟩ | ⟨g', cap', cur, rfl, hb', hg', _⟩
    · simp [Value.ownBlock] at e
    · simp only [Value.ownBlock, Option.some.injEq] at e
      subst e
      refine ⟨not_IsT hg' (by decide) (by decide), hb', fun e' => ?_⟩
      subst e'
      have := h2.now.symm.trans hg'
      simp at this
  refine ⟨h2.row.grown hg (fun r e => ⟨(hr r e).1, by have := (hr r e).2.1; omega, by have := (hr r e).2.1; omega⟩), ?_, ?_, h.gQ, h.wQ⟩
  · exact (hg.block _ (Array.getElem?_eq_some_iff.1 h2.now).1 (fun e => (hr _ e.symm).2.2 rfl)).trans h2.now
  · rw [attK_tell v k u hw, List.length_append, cellsA_app]
    exact hown
/-- The new row is behind the others; then Enter. -/
structure LpE (b Q d gg mn cp : Nat) (w : World) (L : List Tell) (M : List Row3) (v : Nat → Nat) (av : Value) (wx : World) : Prop where
  sp : Sp w.heap.size b d L wx
  below : Below w.heap.size w wx
  own : wx.ownsRow w.heap.size 25 3 (.slice (some ⟨gg, 0, none⟩) mn cp) mn (rowsC M)
  att : wx.ownsRow Q 31 2 av (attK v 3).length (cellsA (attK v 3))
theorem LpB.push {b Q d g mn cp gg cp' : Nat} {w : World} {L : List Tell} {M : List Row3} {T : Row3} {v : Nat → Nat} {av : Value} {wx w7 : World} {o : Obj} (h : LpB b Q d g mn cp w L M T v 3 3 av wx)
    (hg : (wx.alloc o).grownBy w7 (some g)) (hown : w7.ownsRow w.heap.size 25 3 (.slice (some ⟨gg, 0, none⟩) (mn + 1) cp') (mn + 1) (rowsC M ++ [.string (nowK T v 3 0), .string (nowK T v 3 1), .string (nowK T v 3 2)])) :
    LpE b Q d gg (mn + 1) cp' w L (M ++ [nowK T v 3]) v av w7 := by
  have hgQ := h.gQ
  have hB1 := (Below.refl wx.heap.size wx).alloc (Nat.le_refl _) o
  have h1 := h.step hB1
  have hgT : ¬ IsT (wx.alloc o).heap[g]? := by
    rcases h1.row.own.2 with ⟨h', _⟩ | ⟨g', cap', cur, h', _, hg', _⟩
    · simp at h'
    · simp only [Value.slice.injEq, Option.some.injEq, Addr.mk.injEq, and_true] at h'
      obtain ⟨rfl, _, rfl⟩ := h'
      exact not_IsT hg' (by decide) (by decide)
  have hgw : w.heap.size ≤ g := (h1.row.own.lt g rfl).1
  refine ⟨h1.row.sp.grown hg (fun r e => by cases e; exact hgT), h1.row.below.grown hg h1.row.below.size (fun r e => by cases e; exact hgw), by rw [rowsC_app]; exact hown, h1.att.kept hg (.inr fun e => ?_)⟩
  have := (h1.att.lt g e).1
  omega
theorem LpE.enter {b Q d gg mn cp : Nat} {w : World} {L : List Tell} {M : List Row3} {T : Row3} {v : Nat → Nat} {av : Value} {wx wy : World} (h : LpE b Q d gg mn cp w L (M ++ [T] ++ [nowK T v 3]) v av wx) (hs : Stk d L (M ++ [T])) (hm : mn = d + 2)
    (hS : Sp w.heap.size b (d + 1) (L ++ newK v (d + 1) 3) wy) (hB : Below w.heap.size wx wy) (hA : Apart wx wy) : PlR b w (d + 1) (L ++ newK v (d + 1) 3) (M ++ [T] ++ [nowK T v 3]) (.slice (some ⟨gg, 0, none⟩) mn cp) wy := by
  have hl : (M ++ [T] ++ [nowK T v 3]).length = mn := by rw [List.length_append, hs.facts.1, hm]; rfl
  exact ⟨.next hs v, hS, h.below.trans hB, by rw [hl]; exact hA.owns h.own (by decide) (by decide)⟩

end Go.Proofs.YtjmpgefjoopigaaDoor
