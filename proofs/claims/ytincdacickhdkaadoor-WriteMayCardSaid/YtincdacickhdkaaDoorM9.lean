/-
  strings.Builder's WriteString and String, with a frame by types: what is no Builder, and no row of bytes, lies as it lay.
  A document that is written (a strings.Builder within a struct, and whether it is too big): copyCheck, Len, WriteString, String over it.
  What is written of a document: (*write.document).put, close, attribute.
  The walks of tree's small functions: must, opens; and of (*document).next.
  The walk of (*document).around.
  The walks of slices.Backward at tellings: what it hands to a loop's body, one by one, from the last on.
  The walk of (*Spaces).Of.
  The walk of (*Spaces).Name; the walk of layer 5's galliardlaw05.awake.
  The walk of (*document).begun.
  What element and fill keep, and what they leave; what the machine does at each piece.
  An element that is put behind those that are there: what fill keeps, behind its append.
  The walk of galliardref06.Size.
  The walk of galliardref01.Plain.
-/
import Derived.Test.YtincdacickhdkaaDoorM6
import Derived.Deep.LoopGhost
import Derived.IntWalk
import Derived.WalkLawsBesides
import Derived.Test.YtincdacickhdkaaDoorM4
import Derived.RangeFuncNested
import Derived.RangeFuncCalls
import Derived.RangeFuncLeaves
import Derived.Shelf.Abstract
import Derived.Shelf.RegionOpen
import Derived.OwnWalkIn
import Derived.TacticsInMore
import Derived.LoopNIn
import Derived.LoopIn
import Derived.Test.YtincdacickhdkaaDoorM2
import Derived.Deep.RegionWith
import Derived.StillTailTactics
import Derived.BigQuiet
import Derived.OwnWalk
namespace Go.Proofs.YtincdacickhdkaaDoor
open Go Go.RowKit

/-- The types of what a Builder is made of. -/
def bldT : List TypeId := [5, 45]
theorem Kept.grown {ts : List TypeId} {w w' : World} {row : Option Nat} (hg : w.grownBy w' row) (hr : ∀ k, row = some k → ∃ c t z, w.heap[k]? = some (.cells c t z) ∧ t ∈ ts) : Kept ts w w' :=
  ⟨hg.size, fun j hj hn => hg.block j hj (fun e => by obtain ⟨c, t, z, h, ht⟩ := hr j e.symm; exact hn c t z h ht)⟩
theorem Kept.others {b : Nat} {w w' : World} (h : Lib.OthersKept 5 (some b) w w') (hs : w.heap.size ≤ w'.heap.size) {cs : Array Value} {z : Nat × Nat} (hb : w.heap[b]? = some (.cells cs 45 z)) : Kept bldT w w' :=
  ⟨hs, fun j hj hn => by
    have e : w.heap[j]? = some w.heap[j] := Array.getElem?_eq_getElem hj
    rw [e]
    refine h j _ e (fun hjb => ?_) (fun c fz ho => ?_)
    · obtain rfl := Option.some.inj hjb
      exact hn _ _ _ hb (by decide)
    · exact hn c 5 fz (by rw [e, ho]) (by decide)⟩
theorem Bl.heap {B b : Nat} {l : List UInt8} {w : World} (h : Bl B b l w) : ∃ p v, w.heap[b]? = some (.cells #[p, v] 45 (0, 0)) ∧ B ≤ b := by
  rcases h with h | h
  · obtain ⟨hB, v, hbk, _⟩ := h; exact ⟨_, _, hbk, hB⟩
  · obtain ⟨hB, v, hbk, _⟩ := h; exact ⟨_, _, hbk, hB⟩
/-- A Builder stays what it is where no Builder and no row of bytes is touched. -/
theorem Bl.kept {B b : Nat} {l : List UInt8} {ts : List TypeId} {w w' : World} (h : Bl B b l w) (hk : Kept ts w w') (h1 : 5 ∉ ts) (h2 : 45 ∉ ts) : Bl B b l w' := by
  have key : ∀ p, Lib.BuilderAtF 45 5 B b p (Lib.byteCells l) w → Lib.BuilderAtF 45 5 B b p (Lib.byteCells l) w' := by
    rintro p ⟨hB, v, hbk, hown, hne⟩
    refine ⟨hB, v, hk.heap hbk h2, ⟨hown.1, ?_⟩, hne⟩
    rcases hown.2 with hn | ⟨g, cap, cur, fz, hv, hbg, hg, rest⟩
    · exact .inl hn
    · exact .inr ⟨g, cap, cur, fz, hv, hbg, hk.heap hg h1, rest⟩
  rcases h with h | h
  · exact .inl (key _ h)
  · exact .inr (key _ h)

end Go.Proofs.YtincdacickhdkaaDoor
namespace Go.Proofs.YtincdacickhdkaaDoor
open Go Go.RowKit
set_option maxRecDepth 100000

/-- The types of what a document that is written is made of. -/
def wriT : List TypeId := [5, 47]
def DocF (B b : Nat) (p : Value) (l : List UInt8) (w : World) : Prop :=
  B ≤ b ∧ ∃ v, w.heap[b]? = some (.cells #[p, v, .bool false] 47 (0, 0)) ∧ w.ownsRowF B 5 1 v (Lib.byteCells l).length (Lib.byteCells l) ∧ v.ownBlock ≠ some b
/-- A document that holds so many bytes, and is not too big. -/
def DocW (B b : Nat) (l : List UInt8) (w : World) : Prop := DocF B b (.pointer none) l w ∨ DocF B b (.pointer (some ⟨b, 0, none⟩)) l w
theorem docw_below {B b : Nat} {l : List UInt8} {w w' : World} (h : DocW B b l w) (hb : Below w.heap.size w w') : DocW B b l w' := by
  have key : ∀ p, DocF B b p l w → DocF B b p l w' := by
    rintro p ⟨hB, v, hbk, hown, hne⟩
    have old : ∀ (k : Nat) (o : Obj), w.heap[k]? = some o → w'.heap[k]? = some o := by
      intro k o h
      have hk : k < w.heap.size := (Array.getElem?_eq_some_iff.1 h).1
      rw [hb.block k hk]; exact h
    refine ⟨hB, v, old _ _ hbk, ⟨hown.1, ?_⟩, hne⟩
    rcases hown.2 with hn | ⟨g, cap, cur, fz, hv, hbg, hg, rest⟩
    · exact .inl hn
    · exact .inr ⟨g, cap, cur, fz, hv, hbg, old _ _ hg, rest⟩
  rcases h with h | h
  · exact .inl (key _ h)
  · exact .inr (key _ h)
theorem docw_new (w : World) (B : Nat) (hB : B ≤ w.heap.size) : DocW B w.heap.size [] (w.alloc (.cells #[.pointer none, .slice none 0 0, .bool false] 47)) :=
  .inl ⟨hB, .slice none 0 0, heap_alloc_new w _, World.ownsRowF_nil _ _ _ _, by simp [Value.ownBlock]⟩
/-- What the cells of a document are. -/
theorem DocW.form {B b : Nat} {l : List UInt8} {w : World} (h : DocW B b l w) : ∃ p ao cap, w.heap[b]? = some (.cells #[p, .slice ao l.length cap, .bool false] 47 (0, 0)) ∧ B ≤ b ∧ b < w.heap.size ∧
    w.cell? ⟨b, 1, none⟩ = some (.slice ao l.length cap) ∧ w.cell? ⟨b, 2, none⟩ = some (.bool false) ∧ w.frozen? ⟨b, 2, none⟩ = false := by
  have key : ∀ p, DocF B b p l w → ∃ p ao cap, w.heap[b]? = some (.cells #[p, .slice ao l.length cap, .bool false] 47 (0, 0)) ∧ B ≤ b ∧ b < w.heap.size ∧
    w.cell? ⟨b, 1, none⟩ = some (.slice ao l.length cap) ∧ w.cell? ⟨b, 2, none⟩ = some (.bool false) ∧ w.frozen? ⟨b, 2, none⟩ = false := by
    rintro p ⟨hB, v, hbk, hown, hne⟩
    obtain ⟨ao, cap, rfl⟩ : ∃ ao cap, v = .slice ao l.length cap := by
      rw [cells_len] at hown
      rcases hown.2 with ⟨hv, h0⟩ | ⟨g, cap, cur, fz, hv, _⟩
      · exact ⟨none, 0, by rw [hv, h0]⟩
      · exact ⟨_, _, hv⟩
    exact ⟨p, ao, cap, hbk, hB, (Array.getElem?_eq_some_iff.1 hbk).1, by rw [Lib.cell_of_heap hbk]; rfl, by rw [Lib.cell_of_heap hbk]; rfl, Lib.frozen_of_heap hbk 2⟩
  rcases h with h | h
  · exact key _ h
  · exact key _ h
theorem doc_lies : liesAt Tryd.prog Tryd.prog.depth 47 (3 / Tryd.prog.cellsOf 47) 0 45 1 = true := by kernel_rfl
set_option maxHeartbeats 1000000 in
theorem wcheck_fresh (b : Nat) (w : World) (h0 : w.cell? ⟨b, 0, none⟩ = some (.pointer none)) (hsh : w.shape? b = some (47, 3)) (hfz : w.frozen? ⟨b, 0, none⟩ = false) :
    Calls Tryd.prog 44 #[.pointer (some ⟨b, 0, none⟩)] w fun e w' => e = .returned (.tuple #[]) ∧ w' = w.setCell ⟨b, 0, none⟩ (.pointer (some ⟨b, 0, none⟩)) := by
  obtain ⟨j, hj, hjs⟩ := Option.map_eq_some_iff.1 bld_size
  go_enter Tryd.func44, Tryd.ntmps44
  go_wp2
  rw [Lib.run_to_unsafe w ⟨b, 0, none⟩ Tryd.underlying43 Tryd.underlying91 hj (by rw [hjs]; decide) hsh (Nat.zero_lt_succ 2)]
  simp only [Result.andThen]
  rw [Oper.upon_value]
  go_wp2
  rw [run_callFunc_extern Tryd.func59 (by kernel_rfl) (by kernel_rfl) (by kernel_rfl) (e := Extern.AbiNoEscape.same) (by kernel_rfl)]
  rw [Lib.run_noEscape]
  simp only [Result.andThen]
  rw [Oper.upon_value]
  go_wp2
  rw [Lib.run_from_unsafe w ⟨b, 0, none⟩ Tryd.underlying91 Tryd.underlying43 hj hsh doc_lies]
  simp only [Result.andThen]
  rw [Oper.upon_value]
  go_wp2
  go_end0
  exact ⟨rfl, rfl⟩
theorem docf_used {B b : Nat} {p : Value} {l : List UInt8} {w : World} (h : DocF B b p l w) (q : Value) : DocF B b q l (w.setCell ⟨b, 0, none⟩ q) := by
  obtain ⟨hB, v, hb, hown, hne⟩ := h
  refine ⟨hB, v, ?_, ?_, hne⟩
  · simp [World.setCell, Array.getElem?_modify, hb]
  · refine hown.kept (row := some b) ⟨rfl, rfl, rfl, by simp [World.setCell], fun k _ hk => Below.heap_setCell _ _ _ _ (fun e => hk (by simp [e]))⟩ ?_
    exact Or.inr hne
theorem docf_put {B b : Nat} {p v v' : Value} {l : List UInt8} {w : World} (hB : B ≤ b) (hb : w.heap[b]? = some (.cells #[p, v, .bool false] 47 (0, 0))) (hown : w.ownsRowF B 5 1 v' (Lib.byteCells l).length (Lib.byteCells l)) :
    DocF B b p l (w.setCell ⟨b, 1, none⟩ v') := by
  have hne := Lib.ownBlock_neF hown hb (by decide)
  refine ⟨hB, v', ?_, ?_, hne⟩
  · simp [World.setCell, Array.getElem?_modify, hb]
  · exact hown.kept (row := some b) ⟨rfl, rfl, rfl, by simp [World.setCell], fun k _ hk => Below.heap_setCell _ _ _ _ (fun e => hk (by simp [e]))⟩ (Or.inr hne)
/-- The third cell is written again. -/
theorem docw_big {B b : Nat} {l : List UInt8} {w : World} (h : DocW B b l w) : DocW B b l (w.setCell ⟨b, 2, none⟩ (.bool false)) := by
  have key : ∀ p, DocF B b p l w → DocF B b p l (w.setCell ⟨b, 2, none⟩ (.bool false)) := by
    rintro p ⟨hB, v, hb, hown, hne⟩
    refine ⟨hB, v, ?_, ?_, hne⟩
    · simp [World.setCell, Array.getElem?_modify, hb]
    · exact hown.kept (row := some b) ⟨rfl, rfl, rfl, by simp [World.setCell], fun k _ hk => Below.heap_setCell _ _ _ _ (fun e => hk (by simp [e]))⟩ (Or.inr hne)
  rcases h with h | h
  · exact .inl (key _ h)
  · exact .inr (key _ h)
theorem wcheck (B b : Nat) (l : List UInt8) (w : World) (h : DocW B b l w) :
    Calls Tryd.prog 44 #[.pointer (some ⟨b, 0, none⟩)] w fun e w' => e = .returned (.tuple #[]) ∧ (DocF B b (.pointer (some ⟨b, 0, none⟩)) l w' ∧ Below B w w' ∧ Kept wriT w w') := by
  rcases h with h | h
  · obtain ⟨hB, v, hbk, _⟩ := id h
    refine (wcheck_fresh b w (by rw [Lib.cell_of_heap hbk]; rfl) (by simp [World.shape?, hbk]) (Lib.frozen_of_heap hbk 0)).mono ?_
    rintro e w' ⟨rfl, rfl⟩
    exact ⟨rfl, docf_used h _, (Below.refl B w).setCell (p := ⟨b, 0, none⟩) h.1 _, Kept.set hbk (by decide) _ _⟩
  · obtain ⟨hB, v, hbk, _⟩ := id h
    refine (bcheck_used b w (by rw [Lib.cell_of_heap hbk]; rfl)).mono ?_
    rintro e w' ⟨rfl, rfl⟩
    exact ⟨rfl, h, Below.refl B _, Kept.refl _ _⟩
set_option maxHeartbeats 2000000 in
/-- (*strings.Builder).WriteString. -/
theorem wstring (B b : Nat) (l : List UInt8) (s : ByteArray) (w : World) (h : DocW B b l w) (hlen : l.length + s.size ≤ 140737488355328) (hBw : B ≤ w.heap.size) :
    Calls Tryd.prog 31 #[.pointer (some ⟨b, 0, none⟩), .string s] w fun e w' => e = .returned (.tuple #[.int .i64 s.size, .nilIface]) ∧ DocW B b (l ++ bl s) w' ∧ Below B w w' ∧ Kept wriT w w' := by
  obtain ⟨i0, hi, hz0, hz1, hz2⟩ := info_parts byte_info
  have hcl := cells_len l
  go_enter Tryd.func31, Tryd.ntmps31
  go_wp2_with (go_at_call 44; refine (wcheck B b l _ h).mono ?_)
  rintro e w1 ⟨rfl, h1, hb1, hk1⟩
  obtain ⟨hB, v, hbk, hown, hne⟩ := h1
  have c0 : w1.cell? ⟨b, 0, none⟩ = some (.pointer (some ⟨b, 0, none⟩)) := by rw [Lib.cell_of_heap hbk]; rfl
  have c1 : w1.cell? ⟨b, 1, none⟩ = some v := by rw [Lib.cell_of_heap hbk]; rfl
  go_wp2_with (at_builtin; refine Lib.wpList_append_own_stringF _ rfl _ _ 37 9 rfl B 5 i0 Tryd.underlying37 Tryd.underlying9 hi hz0 hz1 hz2 _ _ _ rfl hown s rfl ?c3 ?c4 ?c5 ?_)
  case c3 => unfold maxLen; omega
  case c4 => omega
  case c5 => have := hb1.size; omega
  intro v' w2 hown' hgrow _
  have hlt := bld_lt hbk
  have hb2 : w2.heap[b]? = some (.cells #[.pointer (some ⟨b, 0, none⟩), v, .bool false] 47 (0, 0)) := by
    rw [hgrow.block b hlt (fun e => hne e.symm)]
    exact hbk
  have hk2 : Kept wriT w1 w2 := Kept.grown hgrow fun k hk => by
    rcases hown.2 with ⟨hv, _⟩ | ⟨g, cap, cur, fz, hv, _, hg, _⟩
    · rw [hv] at hk; cases hk
    · rw [hv] at hk; cases hk; exact ⟨_, _, _, hg, by decide⟩
  have d0 : w2.cell? ⟨b, 0, none⟩ = some (.pointer (some ⟨b, 0, none⟩)) := by rw [Lib.cell_of_heap hb2]; rfl
  have d1 : w2.cell? ⟨b, 1, none⟩ = some v := by rw [Lib.cell_of_heap hb2]; rfl
  have f1 : w2.frozen? ⟨b, 1, none⟩ = false := Lib.frozen_of_heap hb2 1
  obtain ⟨ao, n', cap, rfl⟩ : ∃ ao n' cap, v' = .slice ao n' cap := by
    rcases hown'.2 with ⟨hv, _⟩ | ⟨g, cap, cur, fz, hv, _⟩
    · exact ⟨_, _, _, hv⟩
    · exact ⟨_, _, _, hv⟩
  go_wp2
  go_ret2
  refine ⟨rfl, .inr ?_, ?_, (hk1.trans hk2).trans (Kept.set hb2 (by decide) _ _)⟩
  · have e : Lib.byteCells (l ++ bl s) = Lib.byteCells l ++ Lib.strCells s := cells_str l s
    exact docf_put hB hb2 (by rw [e, List.length_append, cells_len, Lib.strCells_length]; exact hown')
  · exact (hb1.grown hgrow (by have := hb1.size; omega) (fun k hk => (hown.lt k hk).1)).setCell (p := ⟨b, 1, none⟩) hB _
set_option maxHeartbeats 1000000 in
/-- (*strings.Builder).Len. -/
theorem wlen (B b : Nat) (l : List UInt8) (w : World) (h : DocW B b l w) :
    Calls Tryd.prog 32 #[.pointer (some ⟨b, 0, none⟩)] w fun e w' => e = .returned (.int .i64 l.length) ∧ w' = w := by
  obtain ⟨p, ao, cap, hb, _, _, c1, _, _⟩ := h.form
  go_enter Tryd.func32, Tryd.ntmps32
  go_wp2
  go_ret
  exact ⟨rfl, rfl⟩
set_option maxHeartbeats 2000000 in
/-- (*strings.Builder).String, of one that holds a byte. -/
theorem wout (B b : Nat) (l : List UInt8) (w : World) (h : DocW B b l w) (h0 : l ≠ []) :
    Calls Tryd.prog 17 #[.pointer (some ⟨b, 0, none⟩)] w fun e w' => e = .returned (.string ⟨l.toArray⟩) ∧ Below B w w' := by
  obtain ⟨p, hB, v, hbk, hown, hne⟩ : ∃ p, DocF B b p l w := by
    rcases h with h | h
    · exact ⟨_, h⟩
    · exact ⟨_, h⟩
  have hl0 : l.length ≠ 0 := by simpa using h0
  rw [Lib.byteCells_length] at hown
  obtain ⟨g, cap, cur, fz, rfl, hbg, hg, hfz, hnc, hcm, hcs, htake⟩ : ∃ g cap cur fz, v = .slice (some ⟨g, 0, none⟩) l.length cap ∧ B ≤ g ∧ w.heap[g]? = some (.cells cur 5 fz) ∧ fz.2 ≤ l.length * 1 ∧ l.length ≤ cap ∧ cap ≤ maxLen ∧ cur.size = cap * 1 ∧ cur.toList.take (l.length * 1) = Lib.byteCells l := by
    rcases hown.2 with ⟨_, hz⟩ | ⟨g, cap, cur, fz, hv, r⟩
    · exact absurd hz hl0
    · exact ⟨g, cap, cur, fz, hv, r⟩
  have c1 : w.drew.cell? ⟨b, 1, none⟩ = some (.slice (some ⟨g, 0, none⟩) l.length cap) := by
    have : w.drew.heap[b]? = some (.cells #[p, .slice (some ⟨g, 0, none⟩) l.length cap, .bool false] 47 (0, 0)) := hbk
    rw [Lib.cell_of_heap this]; rfl
  have hSD : (Builtin.unsafeSliceData_ #[37] 57 #[.slice (some ⟨g, 0, none⟩) l.length cap]).run Tryd.prog w.drew = .ok (.pointer (some ⟨g, 0, none⟩)) w.drew :=
    Lib.run_unsafeSliceData_row _ _ _ _ _ _ (by omega)
  have hUS : (Builtin.unsafeString_ #[57, 3] 9 #[.pointer (some ⟨g, 0, none⟩), .int .i64 l.length]).run Tryd.prog w.drew = .ok (.string ⟨l.toArray⟩) (w.drew.freeze ⟨g, 0, none⟩ l.length) := by
    refine Lib.run_unsafeString_row w.drew 57 3 9 5 Tryd.underlying57 (by kernel_rfl) g cur.size (by have hg' : w.drew.heap[g]? = some (.cells cur 5 fz) := hg; simp [World.shape?, hg']) l h0 (by omega) (by unfold maxLen at hcm; omega) ?_
    intro j x hx
    have := hown.cells (g := g) rfl j (.int .u8 x.toNat) (by simp [Lib.byteCells, hx])
    exact this
  have mixed : Tryd.prog.follows .mixedOrders = true := by kernel_rfl
  go_enter Tryd.func17, Tryd.ntmps17
  go_wp2
  go_region_o
  all_goals (go_wp2; go_ret; exact ⟨rfl, Lib.below_freeze (Below.drew (Below.refl B w)) (p := ⟨g, 0, none⟩) hbg _⟩)

end Go.Proofs.YtincdacickhdkaaDoor
namespace Go.Proofs.YtincdacickhdkaaDoor
open Go Go.RowKit Go.Lib
set_option maxRecDepth 100000

def sizes : List ByteArray → Nat
  | [] => 0
  | s :: r => s.size + sizes r
theorem sizes_get : ∀ (ts : List ByteArray) (k : Nat) (h : k < ts.length), sizes (ts.take k) + (ts[k]'h).size ≤ sizes ts
  | [], k, h => absurd h (Nat.not_lt_zero k)
  | s :: r, 0, h => by simp [sizes]
  | s :: r, k + 1, h => by
    have ih := sizes_get r k (by simpa using h)
    simp only [List.take_succ_cons, sizes, List.getElem_cons_succ]
    omega
theorem flat_size : ∀ ts : List ByteArray, (ts.flatMap bl).length = sizes ts
  | [] => rfl
  | s :: r => by rw [List.flatMap_cons, List.length_append, flat_size r, bl_size]; rfl
/-- A row of texts at the beginning of a block. -/
def RowS (w : World) (r : Nat) (ts : List ByteArray) : Prop := ∃ cs z, w.heap[r]? = some (.cells cs 9 z) ∧ ∀ j (h : j < ts.length), cs[j]? = some (.string (ts[j]'h))
theorem RowS.kept {w w' : World} {r : Nat} {ts : List ByteArray} (h : RowS w r ts) (hk : Kept wriT w w') : RowS w' r ts := by
  obtain ⟨cs, z, h1, h2⟩ := h
  exact ⟨cs, z, hk.heap h1 (by decide), h2⟩
theorem RowS.cell {w : World} {r : Nat} {ts : List ByteArray} (h : RowS w r ts) (j : Nat) (hj : j < ts.length) : w.cell? ⟨r, j, none⟩ = some (.string (ts[j]'hj)) := by
  obtain ⟨cs, z, h1, h2⟩ := h
  rw [Lib.cell_of_heap h1]; exact h2 j hj
set_option maxHeartbeats 4000000 in
/-- (*write.document).put. -/
theorem wput (B b r cap : Nat) (ts : List ByteArray) (l : List UInt8) (w : World) (h : DocW B b l w) (hlen : l.length + sizes ts ≤ 200000) (hn : ts.length ≤ 10) (hrow : RowS w r ts) (hBw : B ≤ w.heap.size) :
    Calls Tryd.prog 21 #[.pointer (some ⟨b, 0, none⟩), .slice (some ⟨r, 0, none⟩) ts.length cap] w fun e w' => e = .returned (.tuple #[]) ∧ DocW B b (l ++ ts.flatMap bl) w' ∧ Below B w w' ∧ Kept wriT w w' := by
  obtain ⟨n, hn'⟩ : ∃ n, ts.length = n := ⟨_, rfl⟩
  have HN := Lib.hid hn'
  have HH := Lib.hid h
  have HR := Lib.hid hrow
  have HL := Lib.hid hlen
  have HBW := Lib.hid hBw
  rw [hn'] at hn ⊢
  clear hn' h hrow hlen hBw
  go_enter Tryd.func21, Tryd.ntmps21
  go_wp2
  go_loopg [5, 8] n (fun g s i wr => ∃ k : Nat, g + k = n ∧ i = .int .i64 k ∧ Hid (DocW B b (l ++ (ts.take k).flatMap bl) wr) ∧ Hid (Below B w wr) ∧ Hid (Kept wriT w wr))
  case atStart => exact ⟨0, rfl, rfl, Lib.hid (by simpa using HH.out), Lib.hid (Below.refl _ _), Lib.hid (Kept.refl _ _)⟩
  case round =>
    obtain ⟨k, hg, rfl, HD, HB, HK⟩ := hrel
    by_cases hk : k < n
    · have hk' : (k : Int) < (n : Int) := by omega
      have hkt : k < ts.length := by rw [HN.out]; exact hk
      have rk := (HR.out.kept HK.out).cell k hkt
      obtain ⟨x, hx⟩ : ∃ x, ts[k]'hkt = x := ⟨_, rfl⟩
      have hsz := sizes_get ts k hkt
      obtain ⟨L, hL⟩ : ∃ L, l ++ (ts.take k).flatMap bl = L := ⟨_, rfl⟩
      have hLn : L.length + x.size ≤ 200000 := by
        have := HL.out
        rw [← hL, List.length_append, flat_size, ← hx]
        omega
      have hLx : decide ((200000 : Int) < (L.length : Int) + (x.size : Int)) = false := decide_eq_false (by omega)
      have hnext : l ++ (ts.take (k + 1)).flatMap bl = L ++ bl x := by
        rw [List.take_succ_eq_append_getElem hkt, List.flatMap_append, ← List.append_assoc, hL, hx]; simp
      rw [hx] at rk
      rw [hL] at HD
      obtain ⟨p, ao, cp, hbk, hBb, hbl, c1, c2, f2⟩ := HD.out.form
      have HNX := Lib.hid hnext
      have HW := Lib.hid (wlen B b L wr HD.out)
      have HBK := Lib.hid hbk
      have HBB := Lib.hid hBb
      clear hnext hL hsz hx hbk hBb
      go_wp2_with fail
      refine HW.out.mono ?_
      rintro e w1 ⟨rfl, rfl⟩
      have HD2 := docw_big HD.out
      have HB2 := Lib.hid ((Below.refl B w1).setCell (p := ⟨b, 2, none⟩) HBB.out (.bool false))
      have HK2 := Lib.hid (Kept.set (ts := wriT) HBK.out (by decide) 2 (.bool false))
      obtain ⟨_, _, _, _, _, _, _, d2, _⟩ := HD2.form
      have HS := Lib.hid (wstring B b L x _ HD2 (by omega) (by have := HB2.out.size; have := HB.out.size; have := HBW.out; omega))
      clear HW HD2
      go_wp2_with fail
      refine HS.out.mono ?_
      rintro e w2 ⟨rfl, hd, hb, hk3⟩
      have HD3 := Lib.hid (show DocW B b (l ++ (ts.take (k + 1)).flatMap bl) w2 by rw [HNX.out]; exact hd)
      have HB3 := Lib.hid ((HB.out.trans HB2.out).trans hb)
      have HK3 := Lib.hid ((HK.out.trans HK2.out).trans hk3)
      clear hd hb hk3 HS c1 c2 f2 d2 rk
      go_wp2_with fail
      go_roundg (n - (k + 1))
      case measure => omega
      case rel => exact ⟨k + 1, by omega, by go_num, HD3, HB3, HK3⟩
    · have hk' : ¬ (k : Int) < (n : Int) := by omega
      obtain rfl : k = n := by omega
      have HF := Lib.hid (show DocW B b (l ++ ts.flatMap bl) wr by have := HD.out; rw [← HN.out, List.take_length] at this; exact this)
      clear HD
      go_wp2_with fail
      go_end0
      exact ⟨rfl, HF.out, HB.out, HK.out⟩

theorem closeL_ge : ∀ l : List UInt8, l.length ≤ (closeL l).length
  | [] => Nat.le_refl _
  | c :: l => by
    have h1 := (closeB_len c).2
    have h2 := closeL_ge l
    rw [closeL_cons, List.length_append, List.length_cons]; omega
/-- A row that has just been laid. -/
theorem rowS_new (w : World) (ts : List ByteArray) (cs : Array Value) (hcs : cs = (ts.map Value.string).toArray) : RowS (w.alloc (.cells cs 9)) w.heap.size ts := by
  subst hcs
  exact ⟨_, _, heap_alloc_new w _, fun j hj => by simp [hj]⟩
set_option maxHeartbeats 4000000 in
/-- (*write.document).close. -/
theorem wclose (B b : Nat) (s : ByteArray) (l : List UInt8) (w : World) (h : DocW B b l w) (hlen : l.length + (closeL (bl s)).length ≤ 200000) (hG : Glob B w) (hBw : B ≤ w.heap.size) :
    Calls Tryd.prog 23 #[.pointer (some ⟨b, 0, none⟩), .string s] w fun e w' => e = .returned (.tuple #[]) ∧ DocW B b (l ++ closeL (bl s)) w' ∧ Below B w w' ∧ Kept wriT w w' := by
  have hs : s.size ≤ 200000 := by have := closeL_ge (bl s); rw [bl_size] at this; omega
  have hs' : decide ((200000 : Int) < (s.size : Int)) = false := decide_eq_false (by omega)
  obtain ⟨p, ao, cp, hbk, hBb, hbl, c1, c2, f2⟩ := h.form
  have HD := docw_big h
  have HB := Lib.hid ((Below.refl B w).setCell (p := ⟨b, 2, none⟩) hBb (.bool false))
  have HK := Lib.hid (Kept.set (ts := wriT) hbk (by decide) 2 (.bool false))
  obtain ⟨_, _, _, _, _, _, _, d2, _⟩ := HD.form
  obtain ⟨w1, hw1⟩ : ∃ w1, w.setCell ⟨b, 2, none⟩ (.bool false) = w1 := ⟨_, rfl⟩
  rw [hw1] at HD HB HK d2
  have HC := Lib.hid (eclose s w1 (Lib.hid (hG.step HB.out).ent) (by omega))
  have HDD := Lib.hid HD
  have HL := Lib.hid hlen
  have HBW := Lib.hid (Nat.le_trans hBw HB.out.size)
  obtain ⟨C, hC⟩ : ∃ C, str (closeL (bl s)) = C := ⟨_, rfl⟩
  rw [hC] at HC
  have hCb := str_bl (closeL (bl s))
  rw [hC] at hCb
  have HCB := Lib.hid hCb
  clear hC hCb h hlen hG hBw hbk hBb HD hs
  go_enter Tryd.func23, Tryd.ntmps23
  go_wp2_with fail
  refine HC.out.mono ?_
  rintro e w2 ⟨rfl, hb2⟩
  have ha := hb2.alloc hb2.size (.cells #[.string C] 9)
  have HP := Lib.hid (wput B b w2.heap.size 1 [C] l (w2.alloc (.cells #[.string C] 9)) (docw_below HDD.out ha) (by have := HL.out; show _ + (C.size + 0) ≤ _; rw [← bl_size, HCB.out]; omega) (by simp) (rowS_new w2 [C] _ rfl) (Nat.le_trans HBW.out ha.size))
  have HA := Lib.hid ha
  clear hb2 ha HC
  go_wp2_with fail
  refine HP.out.mono ?_
  rintro e w3 ⟨rfl, hd, hb, hk⟩
  have HF := Lib.hid (show DocW B b (l ++ closeL (bl s)) w3 by simpa [HCB.out] using hd)
  have HB3 := Lib.hid ((HB.out.trans (HA.out.mono HBW.out)).trans hb)
  have HK3 := Lib.hid ((HK.out.trans (Kept.of wriT HA.out)).trans hk)
  clear hd hb hk HP
  go_wp2_with fail
  go_end0
  exact ⟨rfl, HF.out, HB3.out, HK3.out⟩
set_option maxHeartbeats 4000000 in
/-- (*write.document).attribute. -/
theorem wattr (B b : Nat) (n v : ByteArray) (l : List UInt8) (w : World) (h : DocW B b l w) (hlen : l.length + ([32] ++ atT (bl n) (bl v)).length ≤ 200000) (hG : Glob B w) (hBw : B ≤ w.heap.size) :
    Calls Tryd.prog 22 #[.pointer (some ⟨b, 0, none⟩), .string n, .string v] w fun e w' => e = .returned (.tuple #[]) ∧ DocW B b (l ++ ([32] ++ atT (bl n) (bl v))) w' ∧ Below B w w' ∧ Kept wriT w w' := by
  have hlen' : l.length + n.size + (closeL (bl v)).length + 4 ≤ 200000 := by
    unfold atT at hlen
    simp only [List.length_append, List.length_cons, List.length_nil, bl_size] at hlen
    omega
  have ha := (Below.refl w.heap.size w).alloc (Nat.le_refl _) (.cells #[.string ⟨#[32]⟩, .string n, .string ⟨#[61, 34]⟩] 9)
  have HP := Lib.hid (wput B b w.heap.size 3 [⟨#[32]⟩, n, ⟨#[61, 34]⟩] l (w.alloc (.cells #[.string ⟨#[32]⟩, .string n, .string ⟨#[61, 34]⟩] 9)) (docw_below h ha) (by show _ + (1 + (n.size + (2 + 0))) ≤ _; omega) (by simp) (rowS_new w [⟨#[32]⟩, n, ⟨#[61, 34]⟩] _ rfl) (Nat.le_trans hBw ha.size))
  have HG := Lib.hid hG
  have HL := Lib.hid hlen'
  have HBW := Lib.hid hBw
  have HA := Lib.hid ha
  clear h hlen hlen' hG hBw ha
  go_enter Tryd.func22, Tryd.ntmps22
  go_wp2_with fail
  refine HP.out.mono ?_
  rintro e w1 ⟨rfl, hd, hb, hk⟩
  have hB1 := (HA.out.mono HBW.out).trans hb
  have hd1 : DocW B b (l ++ ([32] ++ (bl n ++ [61, 34]))) w1 := by
    have e : ([⟨#[32]⟩, n, ⟨#[61, 34]⟩] : List ByteArray).flatMap bl = [32] ++ (bl n ++ [61, 34]) := by simp [List.flatMap_cons, bl]
    rw [e] at hd; exact hd
  have HC := Lib.hid (wclose B b v _ w1 hd1 (by have := HL.out; simp only [List.length_append, List.length_cons, List.length_nil, bl_size]; omega) (HG.out.step hB1) (Nat.le_trans HBW.out hB1.size))
  have HB1 := Lib.hid hB1
  have HK1 := Lib.hid ((Kept.of wriT HA.out).trans hk)
  clear hd hb hk hB1 hd1 HP
  go_wp2_with fail
  refine HC.out.mono ?_
  rintro e w2 ⟨rfl, hd, hb, hk⟩
  have ha := (Below.refl w2.heap.size w2).alloc (Nat.le_refl _) (.cells #[.string ⟨#[34]⟩] 9)
  have HB2 := Lib.hid (HB1.out.trans hb)
  have HK2 := Lib.hid (HK1.out.trans hk)
  have hBw2 : B ≤ w2.heap.size := Nat.le_trans HBW.out HB2.out.size
  have HP := Lib.hid (wput B b w2.heap.size 1 [⟨#[34]⟩] _ (w2.alloc (.cells #[.string ⟨#[34]⟩] 9)) (docw_below hd ha) (by have := HL.out; simp only [List.length_append, List.length_cons, List.length_nil, bl_size]; show _ + (1 + 0) ≤ _; omega) (by decide) (rowS_new w2 [⟨#[34]⟩] _ rfl) (Nat.le_trans hBw2 ha.size))
  have HB3 := Lib.hid (HB2.out.trans (ha.mono hBw2))
  have HK3 := Lib.hid (HK2.out.trans (Kept.of wriT ha))
  clear hd hb hk HC ha hBw2
  go_wp2_with fail
  refine HP.out.mono ?_
  rintro e w3 ⟨rfl, hd, hb, hk⟩
  have HF := Lib.hid (show DocW B b (l ++ ([32] ++ atT (bl n) (bl v))) w3 by
    have e : l ++ ([32] ++ (bl n ++ [61, 34])) ++ closeL (bl v) ++ ([⟨#[34]⟩] : List ByteArray).flatMap bl = l ++ ([32] ++ atT (bl n) (bl v)) := by
      unfold atT; simp [List.flatMap_cons, bl]
    rw [e] at hd; exact hd)
  have HB4 := Lib.hid (HB3.out.trans hb)
  have HK4 := Lib.hid (HK3.out.trans hk)
  clear hd hb hk HP
  go_wp2_with fail
  go_end0
  exact ⟨rfl, HF.out, HB4.out, HK4.out⟩

end Go.Proofs.YtincdacickhdkaaDoor
namespace Go.Proofs.YtincdacickhdkaaDoor
open Go Go.RowKit
set_option maxRecDepth 100000

/-! ### a document that is read -/
theorem st5_onlyR (w : World) (R : Nat) (x0 x1 x2 x3 x4 : Value) : Only R w (st5 w R x0 x1 x2 x3 x4) :=
  ((((Only.set R 0 w x0).trans (Only.set R 1 _ x1)).trans (Only.set R 2 _ x2)).trans (Only.set R 3 _ x3)).trans (Only.set R 4 _ x4)
end Go.Proofs.YtincdacickhdkaaDoor

namespace Go.Proofs.YtincdacickhdkaaDoor
open Go Go.RowKit
set_option maxRecDepth 100000

end Go.Proofs.YtincdacickhdkaaDoor
namespace Go.Proofs.YtincdacickhdkaaDoor
open Go Go.RowKit Go.Shelf
set_option maxRecDepth 100000
attribute [local go_sem] Oper.semAt_some

end Go.Proofs.YtincdacickhdkaaDoor
namespace Go.Proofs.YtincdacickhdkaaDoor
open Go Go.RowKit Go.Shelf
set_option maxRecDepth 100000
attribute [local go_sem] Oper.semAt_some

end Go.Proofs.YtincdacickhdkaaDoor
namespace Go.Proofs.YtincdacickhdkaaDoor
open Go Go.RowKit
set_option maxRecDepth 100000

/-! ### awake -/
end Go.Proofs.YtincdacickhdkaaDoor
namespace Go.Proofs.YtincdacickhdkaaDoor
open Go Go.RowKit
set_option maxRecDepth 100000

/-! ### blocks that elements are made of -/
/-- A block of attributes or of elements, from Q on, other than row. -/
def NB (Q : Nat) (row : Option Nat) (w : World) (g : Nat) : Prop := Q ≤ g ∧ row ≠ some g ∧ ∃ cs t z, w.heap[g]? = some (.cells cs t z) ∧ (t = 31 ∨ t = 25)
theorem NB.kept {Q : Nat} {row : Option Nat} {w w' : World} {g : Nat} (h : NB Q row w g) {ts : List TypeId} (hk : Kept ts w w') (h1 : 31 ∉ ts) (h2 : 25 ∉ ts) : NB Q row w' g ∧ w'.heap[g]? = w.heap[g]? := by
  obtain ⟨h0, hr, cs, t, z, hg, ht⟩ := h
  have e : w'.heap[g]? = some (.cells cs t z) := hk.heap hg (by rcases ht with rfl | rfl; exact h1; exact h2)
  exact ⟨⟨h0, hr, cs, t, z, e, ht⟩, e.trans hg.symm⟩
theorem NodeV.kept {Q : Nat} {row : Option Nat} {w w' : World} {v : Value} {x : Nd} (h : NodeV (NB Q row w) w v x) {ts : List TypeId} (hk : Kept ts w w') (h1 : 31 ∉ ts) (h2 : 25 ∉ ts) : NodeV (NB Q row w') w' v x :=
  h.to hk.size fun _ hp _ => hp.kept hk h1 h2
theorem AttV.kept {Q : Nat} {row : Option Nat} {w w' : World} {v : Value} {A : List Att} (h : AttV (NB Q row w) w v A) {ts : List TypeId} (hk : Kept ts w w') (h1 : 31 ∉ ts) (h2 : 25 ∉ ts) : AttV (NB Q row w') w' v A :=
  h.to hk.size fun _ hp _ => hp.kept hk h1 h2
/-! ### Enter of no attributes -/
theorem own_form {w : World} {base : Nat} {e : TypeId} {z n : Nat} {v : Value} {xs : List Value} (h : w.ownsRow base e z v n xs) : ∃ az cz, v = .slice az n cz := by
  rcases h.2 with ⟨hv, h0⟩ | ⟨_, _, _, hv, _⟩
  · exact ⟨_, _, by rw [hv, h0]⟩
  · exact ⟨_, _, hv⟩
theorem res_node (fn : Func) (k : Nat) (hr : fn.results = #[.cell k 25]) (tmps : Array Value) (R : Nat) (ht : tmps.getD k undef = .pointer (some ⟨R, 0, none⟩)) (x0 x1 x2 x3 x4 : Value) (W : World) (t : TypeId) (z : Nat × Nat) (h : W.heap[R]? = some (.cells #[x0, x1, x2, x3, x4] t z)) :
    (results fn tmps).run Tryd.prog W = .ok (.agg #[x0, x1, x2, x3, x4]) W := by
  have e0 : W.cell? ⟨R, 0, none⟩ = some x0 := by rw [Lib.cell_of_heap h]; rfl
  have e1 : W.cell? ⟨R, 1, none⟩ = some x1 := by rw [Lib.cell_of_heap h]; rfl
  have e2 : W.cell? ⟨R, 2, none⟩ = some x2 := by rw [Lib.cell_of_heap h]; rfl
  have e3 : W.cell? ⟨R, 3, none⟩ = some x3 := by rw [Lib.cell_of_heap h]; rfl
  have e4 : W.cell? ⟨R, 4, none⟩ = some x4 := by rw [Lib.cell_of_heap h]; rfl
  rw [Array.getD_eq_getD_getElem?] at ht
  simp [results, hr, ht, go_sem, e0, e1, e2, e3, e4]

/-! ### begun -/
end Go.Proofs.YtincdacickhdkaaDoor
namespace Go.Proofs.YtincdacickhdkaaDoor
open Go Go.RowKit
set_option maxRecDepth 100000

/-! ### the machine, piece by piece, within an element -/
/-! ### frames but for one block -/
structure KeptB (ts : List TypeId) (X : Nat) (w w' : World) : Prop where
  size : w.heap.size ≤ w'.heap.size
  block : ∀ j, j < w.heap.size → j ≠ X → (∀ c t z, w.heap[j]? = some (.cells c t z) → t ∉ ts) → w'.heap[j]? = w.heap[j]?
theorem KeptB.of {ts : List TypeId} {w w' : World} (X : Nat) (h : Kept ts w w') : KeptB ts X w w' := ⟨h.size, fun j hj _ hn => h.block j hj hn⟩
theorem KeptB.trans {ts : List TypeId} {X : Nat} {a b c : World} (h : KeptB ts X a b) (k : KeptB ts X b c) : KeptB ts X a c :=
  ⟨Nat.le_trans h.size k.size, fun j hj hx hn => by
    have e := h.block j hj hx hn
    exact (k.block j (Nat.lt_of_lt_of_le hj h.size) hx (by rw [e]; exact hn)).trans e⟩
theorem KeptB.only {ts : List TypeId} {X : Nat} {w w' w'' : World} (h : KeptB ts X w w') (ho : Only X w' w'') : KeptB ts X w w'' :=
  ⟨Nat.le_trans h.size ho.size, fun j hj hx hn => (ho.block j (Nat.lt_of_lt_of_le hj h.size) hx).trans (h.block j hj hx hn)⟩
theorem KeptB.heap {ts : List TypeId} {X : Nat} {w w' : World} (h : KeptB ts X w w') {b : Nat} {cs : Array Value} {t : TypeId} {z : Nat × Nat} (hb : w.heap[b]? = some (.cells cs t z)) (hx : b ≠ X) (ht : t ∉ ts) : w'.heap[b]? = some (.cells cs t z) :=
  (h.block b (Array.getElem?_eq_some_iff.1 hb).1 hx (fun c t' z' e => by rw [hb] at e; cases e; exact ht)).trans hb

/-! ### a document in a world where others are touched -/
/-! ### elements in a row -/
def RowK (Q : Nat) (w : World) (v : Value) (V : List NV) (K : List Nd) : Prop :=
  V.length = K.length ∧ w.ownsRow Q 25 5 v V.length (cellsN V) ∧ ∀ j (h : j < V.length) (h' : j < K.length), NodeV (NB Q v.ownBlock w) w (V[j]'h).val (K[j]'h')
theorem RowK.nil (Q : Nat) (w : World) : RowK Q w (.slice none 0 0) [] [] := ⟨rfl, World.ownsRow_nil _ _ _ _, fun j h => absurd h (Nat.not_lt_zero j)⟩
theorem RowK.kept {Q : Nat} {w w' : World} {v : Value} {V : List NV} {K : List Nd} (h : RowK Q w v V K) {ts : List TypeId} (hk : Kept ts w w') (h1 : 31 ∉ ts) (h2 : 25 ∉ ts) : RowK Q w' v V K :=
  ⟨h.1, hk.owns h.2.1 h2, fun j hj hj' => (h.2.2 j hj hj').kept hk h1 h2⟩
/-- Another block than those of the row, and of its elements, is touched. -/
theorem RowK.only {Q k : Nat} {w w' : World} {v : Value} {V : List NV} {K : List Nd} (h : RowK Q w v V K) (ho : Only k w w') (hk : k < Q) : RowK Q w' v V K := by
  refine ⟨h.1, ?_, fun j hj hj' => (h.2.2 j hj hj').to ho.size fun g hp hg => ?_⟩
  · refine h.2.1.kept ho.grown (.inr fun e => ?_)
    have := (h.2.1.lt k e).1
    omega
  · have e := ho.block g hg (by have := hp.1; omega)
    obtain ⟨h0, hr, cs, t, z, h3, h4⟩ := hp
    exact ⟨⟨h0, hr, cs, t, z, e.trans h3, h4⟩, e⟩

/-! ### what element and fill leave -/
/-! ### what fill's loop keeps -/
end Go.Proofs.YtincdacickhdkaaDoor

namespace Go.Proofs.YtincdacickhdkaaDoor
open Go Go.RowKit
set_option maxRecDepth 100000

theorem own_cell {w : World} {base g n cap size : Nat} {e : TypeId} {xs : List Value} (h : w.ownsRow base e size (.slice (some ⟨g, 0, none⟩) n cap) n xs) : ∃ cur, w.heap[g]? = some (.cells cur e (0, 0)) ∧ base ≤ g := by
  rcases h.2 with ⟨hv, _⟩ | ⟨g', cap', cur, hv, hb, hg, _⟩
  · cases hv
  · injection hv with e1 e2 e3
    injection e1 with e1
    injection e1 with e1
    subst e1
    exact ⟨cur, hg, hb⟩
/-! ### two stores into two blocks -/
end Go.Proofs.YtincdacickhdkaaDoor
namespace Go.Proofs.YtincdacickhdkaaDoor
open Go Go.RowKit Go.Lib
set_option maxRecDepth 100000

theorem depth_kid {K : List Nd} {k : Nd} (h : k ∈ K) : k.depth ≤ depthK K := by
  induction K with
  | nil => cases h
  | cons x K ih =>
    rw [depthK]
    rcases List.mem_cons.1 h with rfl | h
    · omega
    · have := ih h; omega
end Go.Proofs.YtincdacickhdkaaDoor
namespace Go.Proofs.YtincdacickhdkaaDoor
open Go.RowKit
set_option maxRecDepth 100000

/-- What Plain hands back: a text whose letters may all stand in one. -/
def Plains (s : ByteArray) (w : World) (r : Ending) (w' : World) : Prop := ∃ P, r = .returned (.string (str P)) ∧ Lets P ∧ P.length = s.size ∧ Below w.heap.size w w'
def PlR (s : ByteArray) (w : World) (g : Nat) (out at_ : Value) (wr : World) : Prop :=
  ∃ (k : Nat) (P : List UInt8), g + k = s.size ∧ at_ = .int .i64 k ∧ out = .string (str P) ∧ Lets P ∧ P.length = k ∧ Below w.heap.size w wr
theorem str_x (P : List UInt8) : str P ++ ⟨#[120]⟩ = str (P ++ [120]) := str_append P [120]
set_option maxHeartbeats 4000000 in
theorem rplain (s : ByteArray) (w : World) (hs : s.size ≤ 1000000) :
    Calls Tryd.prog 12 #[.string s] w (Plains s w) := by
  go_enter Tryd.func12, Tryd.ntmps12
  go_wp2
  go_loopg [3, 4] s.size (fun g out at_ wr => PlR s w g out at_ wr)
  case atStart => exact ⟨0, [], rfl, rfl, rfl, Lets.nil, rfl, Below.refl _ _⟩
  case round =>
    obtain ⟨k, P, hg, rfl, rfl, hP, hPl, hb⟩ := hrel
    by_cases hk : k < s.size
    · have hk' : (k : Int) < (s.size : Int) := by omega
      have hk2 : (k : Int) ≤ (s.size : Int) := by omega
      have C1 := rget (s.extract k s.size) wr (by have := size_from s k; omega)
      rw [bl_from] at C1
      have hgl := gl_pos ((bl s).drop k)
      have htk := gl_take ((bl s).drop k)
      rw [List.length_drop, bl_size] at hgl
      obtain ⟨A, hA⟩ : ∃ A, (gl ((bl s).drop k)).1 = A := ⟨_, rfl⟩
      obtain ⟨Bi, hB⟩ : ∃ Bi, (gl ((bl s).drop k)).2 = Bi := ⟨_, rfl⟩
      have hmay := gl_may ((bl s).drop k)
      rw [hA, hB] at C1 htk hmay
      rw [hB] at hgl
      obtain ⟨n, rfl⟩ : ∃ n : Nat, Bi = n := ⟨Bi.toNat, by omega⟩
      have hn4 : n ≤ s.size - k := by omega
      have C1 := Lib.hid C1
      have HP := Lib.hid hP
      have HPl := Lib.hid hPl
      clear hP hPl hA hB
      have hx : ∀ w', Below w.heap.size w w' → PlR s w (s.size - (k + 1)) (.string (str P ++ ⟨#[120]⟩)) (.int .i64 ((k : Int) + 1)) w' := fun w' h =>
        ⟨k + 1, P ++ [120], by omega, rfl, by rw [str_x], by have := HP.out.snoc 120 (by decide); rw [put_120] at this; exact this, by rw [List.length_append, HPl.out]; rfl, h⟩
      have HX := Lib.hid hx
      have hPz : (str P).size ≤ 1000000 := by rw [str_size, HPl.out]; omega
      clear hx
      by_cases h0 : n = 0
      · subst h0
        clear hgl htk hmay
        go_wp2_with fail
        refine C1.out.mono ?_
        rintro r w1 ⟨rfl, hb1⟩
        have hgo := HX.out w1 (hb.trans (hb1.mono hb.size))
        clear hb hb1 C1
        go_wp2
        go_roundg (s.size - (k + 1))
        case measure => omega
        case rel => exact hgo
      · have q0 : ((n : Int) == 0) = false := by simp; omega
        have htk := htk (by omega)
        have hmay := hmay (by omega)
        simp only [Int.toNat_natCast] at htk
        have hsub : bl (s.extract k (k + n)) = put A := by
          rw [bl_sub, List.drop_take, Nat.add_sub_cancel_left]; exact htk
        have hss : (s.extract k (k + n)).size = n := by
          have h1 := congrArg List.length htk
          rw [← bl_size, hsub, ← htk, List.length_take, List.length_drop, bl_size]; omega
        have C2 := fun w1 => rtext (s.extract k (k + n)) w1 (by rw [hss]; omega)
        rw [hsub] at C2
        have hpt := textL_put A hmay
        obtain ⟨X, hX⟩ : ∃ X, textL (put A) = X := ⟨_, rfl⟩
        rw [hX] at hpt C2
        have C2 := Lib.hid C2
        obtain ⟨Y, hY⟩ : ∃ Y, s.extract k (k + n) = Y := ⟨_, rfl⟩
        have hYs : Y = str (put A) := by rw [← hY, ← bl_str (s.extract k (k + n)), hsub]
        have hpl : (put A).length = n := by rw [← hsub, bl_size, hss]
        have e1 : (k : Int) + (n : Int) ≤ (s.size : Int) := by omega
        by_cases hX0 : 0 ≤ X
        · clear htk hmay hsub hss hpt hX hYs hpl hgl hn4 hY
          go_wp2_with fail
          refine C1.out.mono ?_
          rintro r w1 ⟨rfl, hb1⟩
          have hb2 := hb.trans (hb1.mono hb.size)
          clear hb hb1 C1
          go_wp2_with fail
          refine (C2.out w1).mono ?_
          rintro r w2 ⟨rfl, hb3⟩
          have hgo := HX.out w2 (hb2.trans (hb3.mono hb2.size))
          clear hb2 hb3 C2
          go_wp2
          go_roundg (s.size - (k + 1))
          case measure => omega
          case rel => exact hgo
        · have hlet : letB A = true := hpt.1 (by omega)
          have hX1 : decide (0 ≤ X) = false := decide_eq_false hX0
          have hgo : ∀ w', Below w.heap.size w w' → PlR s w (s.size - (k + n)) (.string (str P ++ s.extract k (k + n))) (.int .i64 ((k : Int) + (n : Int))) w' := fun w' h =>
            ⟨k + n, P ++ put A, by omega, rfl, by rw [hY, hYs, str_append], HP.out.snoc A hlet, by rw [List.length_append, HPl.out, hpl], h⟩
          have HG := Lib.hid hgo
          have hYz : (s.extract k (k + n)).size ≤ 1000000 := by rw [hss]; omega
          clear hgo htk hmay hsub hss hpt hX hYs hpl hgl hn4 hY hlet hX0
          go_wp2_with fail
          refine C1.out.mono ?_
          rintro r w1 ⟨rfl, hb1⟩
          have hb2 := hb.trans (hb1.mono hb.size)
          clear hb hb1 C1
          go_wp2_with fail
          refine (C2.out w1).mono ?_
          rintro r w2 ⟨rfl, hb3⟩
          have hgo := HG.out w2 (hb2.trans (hb3.mono hb2.size))
          clear hb2 hb3 C2
          go_wp2
          go_roundg (s.size - (k + n))
          case measure => omega
          case rel => exact hgo
    · go_wp2
      go_ret
      exact ⟨P, rfl, hP, by omega, hb⟩

end Go.Proofs.YtincdacickhdkaaDoor
