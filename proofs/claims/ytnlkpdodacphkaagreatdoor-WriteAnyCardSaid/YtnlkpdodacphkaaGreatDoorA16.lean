/-
  strings.Builder's WriteString and String, with a frame by types: what is no Builder, and no row of bytes, lies as it lay.
  A document that is written (a strings.Builder within a struct, and whether it is too big): copyCheck, Len, WriteString, String over it.
  What is written of a document: (*write.document).put, close, attribute.
  The walks of tree's small functions: must, opens; and of (*document).next.
  The walk of (*document).around.
-/
import Derived.Test.YtnlkpdodacphkaaGreatDoorA8
import Derived.Test.YtnlkpdodacphkaaGreatDoorA13
import Derived.Test.YtnlkpdodacphkaaGreatDoorA9
import Derived.Deep.LoopGhost
import Derived.IntWalk
import Derived.WalkLawsBesides
namespace Go.Proofs.YtnlkpdodacphkaaGreatDoor
open Go Go.RowKit

/-- The types of what a Builder is made of. -/
def bldT : List TypeId := [5, 70]
theorem Kept.grown {ts : List TypeId} {w w' : World} {row : Option Nat} (hg : w.grownBy w' row) (hr : ∀ k, row = some k → ∃ c t z, w.heap[k]? = some (.cells c t z) ∧ t ∈ ts) : Kept ts w w' :=
  ⟨hg.size, fun j hj hn => hg.block j hj (fun e => by obtain ⟨c, t, z, h, ht⟩ := hr j e.symm; exact hn c t z h ht)⟩
theorem Kept.others {b : Nat} {w w' : World} (h : Lib.OthersKept 5 (some b) w w') (hs : w.heap.size ≤ w'.heap.size) {cs : Array Value} {z : Nat × Nat} (hb : w.heap[b]? = some (.cells cs 70 z)) : Kept bldT w w' :=
  ⟨hs, fun j hj hn => by
    have e : w.heap[j]? = some w.heap[j] := Array.getElem?_eq_getElem hj
    rw [e]
    refine h j _ e (fun hjb => ?_) (fun c fz ho => ?_)
    · obtain rfl := Option.some.inj hjb
      exact hn _ _ _ hb (by decide)
    · exact hn c 5 fz (by rw [e, ho]) (by decide)⟩
theorem bcheck_k (B b : Nat) (bs : List Value) (w : World) (h : Bld B b bs w) :
    Calls Tryz.prog 107 #[.pointer (some ⟨b, 0, none⟩)] w fun e w' => e = .returned (.tuple #[]) ∧ (Lib.BuilderAtF 70 5 B b (.pointer (some ⟨b, 0, none⟩)) bs w' ∧ Below B w w' ∧ Kept bldT w w') := by
  rcases h with h | h
  · refine (bcheck_fresh b w h.cell0 h.shape h.frozen0).mono ?_
    rintro e w' ⟨rfl, rfl⟩
    obtain ⟨hB, v, hbk, _⟩ := id h
    exact ⟨rfl, h.used _, (Below.refl B w).setCell (p := ⟨b, 0, none⟩) h.1 _, Kept.set hbk (by decide) _ _⟩
  · refine (bcheck_used b w h.cell0).mono ?_
    rintro e w' ⟨rfl, rfl⟩
    exact ⟨rfl, h, Below.refl B _, Kept.refl _ _⟩
set_option maxHeartbeats 2000000 in
set_option maxRecDepth 100000 in
/-- (*strings.Builder).WriteString. -/
theorem bstring_k (B b : Nat) (bs : List Value) (s : ByteArray) (w : World) (h : Bld B b bs w) (hlen : bs.length + s.size ≤ 140737488355328) (hBw : B ≤ w.heap.size) :
    Calls Tryz.prog 75 #[.pointer (some ⟨b, 0, none⟩), .string s] w fun e w' => e = .returned (.tuple #[.int .i64 s.size, .nilIface]) ∧ Bld B b (bs ++ Lib.strCells s) w' ∧ Below B w w' ∧ Kept bldT w w' := by
  obtain ⟨i0, hi, hz0, hz1, hz2⟩ := info_parts byte_info
  go_enter Tryz.func75, Tryz.ntmps75
  go_wp2_with (go_at_call 107; refine (bcheck_k B b bs _ h).mono ?_)
  rintro e w1 ⟨rfl, h1, hb1, hk1⟩
  obtain ⟨hB, v, hbk, hown, hne⟩ := h1
  have c0 : w1.cell? ⟨b, 0, none⟩ = some (.pointer (some ⟨b, 0, none⟩)) := by rw [Lib.cell_of_heap hbk]; rfl
  have c1 : w1.cell? ⟨b, 1, none⟩ = some v := by rw [Lib.cell_of_heap hbk]; rfl
  go_wp2_with (at_builtin; refine Lib.wpList_append_own_stringF _ rfl _ _ 58 9 rfl B 5 i0 Tryz.underlying58 Tryz.underlying9 hi hz0 hz1 hz2 _ _ _ rfl hown s rfl ?c3 ?c4 ?c5 ?_)
  case c3 => unfold maxLen; omega
  case c4 => omega
  case c5 => have := hb1.size; omega
  intro v' w2 hown' hgrow _
  have hlt := bld_lt hbk
  have hb2 : w2.heap[b]? = some (.cells #[.pointer (some ⟨b, 0, none⟩), v] 70 (0, 0)) := by
    rw [hgrow.block b hlt (fun e => hne e.symm)]
    exact hbk
  have hk2 : Kept bldT w1 w2 := Kept.grown hgrow fun k hk => by
    rcases hown.2 with ⟨hv, _⟩ | ⟨g, cap, cur, fz, hv, _, hg, _⟩
    · rw [hv] at hk; cases hk
    · rw [hv] at hk; cases hk; exact ⟨_, _, _, hg, by decide⟩
  have d0 : w2.cell? ⟨b, 0, none⟩ = some (.pointer (some ⟨b, 0, none⟩)) := by rw [Lib.cell_of_heap hb2]; rfl
  have d1 : w2.cell? ⟨b, 1, none⟩ = some v := by rw [Lib.cell_of_heap hb2]; rfl
  have f1 : w2.frozen? ⟨b, 1, none⟩ = false := Lib.frozen_of_heap hb2 1
  obtain ⟨ao, n', cap, rfl⟩ : ∃ ao n' cap, v' = .slice ao n' cap := by
    rcases hown'.2 with ⟨hv, _⟩ | ⟨g, cap, cur, fz, hv, _⟩
    · exact ⟨_, _, _, hv⟩
    · exact ⟨_, _, _, hv⟩
  go_wp2
  go_ret2
  refine ⟨rfl, .inr ?_, ?_, (hk1.trans hk2).trans (Kept.set hb2 (by decide) _ _)⟩
  · exact Lib.BuilderAtF.put (T := 70) (e := 5) hB hb2 (bs' := bs ++ Lib.strCells s) (by simpa [Lib.strCells_length] using hown') (by decide)
  · exact (hb1.grown hgrow (by have := hb1.size; omega) (fun k hk => (hown.lt k hk).1)).setCell (p := ⟨b, 1, none⟩) hB _
theorem Bl.heap {B b : Nat} {l : List UInt8} {w : World} (h : Bl B b l w) : ∃ p v, w.heap[b]? = some (.cells #[p, v] 70 (0, 0)) ∧ B ≤ b := by
  rcases h with h | h
  · obtain ⟨hB, v, hbk, _⟩ := h; exact ⟨_, _, hbk, hB⟩
  · obtain ⟨hB, v, hbk, _⟩ := h; exact ⟨_, _, hbk, hB⟩
theorem kstring (B b : Nat) (l : List UInt8) (s : ByteArray) (w : World) (h : Bl B b l w) (hlen : l.length + s.size ≤ 140737488355328) :
    Calls Tryz.prog 75 #[.pointer (some ⟨b, 0, none⟩), .string s] w fun e w' => e = .returned (.tuple #[.int .i64 s.size, .nilIface]) ∧ Bl B b (l ++ s.data.toList) w' ∧ Below B w w' ∧ Kept bldT w w' := by
  refine (bstring_k B b _ s w h (by rw [cells_len]; exact hlen) h.lt).mono fun e w' ⟨h1, h2, h3⟩ => ⟨h1, ?_, h3⟩
  unfold Bl; rw [cells_str]; exact h2
theorem kout (B b : Nat) (l : List UInt8) (w : World) (h : Bl B b l w) :
    Calls Tryz.prog 31 #[.pointer (some ⟨b, 0, none⟩)] w fun e w' => e = .returned (.string ⟨l.toArray⟩) ∧ Below B w w' ∧ Kept bldT w w' := by
  obtain ⟨p, v, hb, _⟩ := h.heap
  exact (Tryz.Builder_String_any_k B b l w h h.lt).mono fun _ _ ⟨h1, _, h3, h4⟩ => ⟨h1, h3, Kept.others h4 h3.size hb⟩
/-- A Builder stays what it is where no Builder and no row of bytes is touched. -/
theorem Bl.kept {B b : Nat} {l : List UInt8} {ts : List TypeId} {w w' : World} (h : Bl B b l w) (hk : Kept ts w w') (h1 : 5 ∉ ts) (h2 : 70 ∉ ts) : Bl B b l w' := by
  have key : ∀ p, Lib.BuilderAtF 70 5 B b p (Lib.byteCells l) w → Lib.BuilderAtF 70 5 B b p (Lib.byteCells l) w' := by
    rintro p ⟨hB, v, hbk, hown, hne⟩
    refine ⟨hB, v, hk.heap hbk h2, ⟨hown.1, ?_⟩, hne⟩
    rcases hown.2 with hn | ⟨g, cap, cur, fz, hv, hbg, hg, rest⟩
    · exact .inl hn
    · exact .inr ⟨g, cap, cur, fz, hv, hbg, hk.heap hg h1, rest⟩
  rcases h with h | h
  · exact .inl (key _ h)
  · exact .inr (key _ h)

end Go.Proofs.YtnlkpdodacphkaaGreatDoor
namespace Go.Proofs.YtnlkpdodacphkaaGreatDoor
open Go Go.RowKit
set_option maxRecDepth 100000

/-- The types of what a document that is written is made of. -/
def wriT : List TypeId := [5, 72]
def DocF (B b : Nat) (p : Value) (l : List UInt8) (w : World) : Prop :=
  B ≤ b ∧ ∃ v, w.heap[b]? = some (.cells #[p, v, .bool false] 72 (0, 0)) ∧ w.ownsRowF B 5 1 v (Lib.byteCells l).length (Lib.byteCells l) ∧ v.ownBlock ≠ some b
/-- A document that holds so many bytes, and is not too big. -/
def DocW (B b : Nat) (l : List UInt8) (w : World) : Prop := DocF B b (.pointer none) l w ∨ DocF B b (.pointer (some ⟨b, 0, none⟩)) l w
theorem docw_below {B b : Nat} {l : List UInt8} {w w' : World} (h : DocW B b l w) (hb : Below w.heap.size w w') : DocW B b l w' := by
  have key : ∀ p, DocF B b p l w → DocF B b p l w' := by
    rintro p ⟨hB, v, hbk, hown, hne⟩
    have old : ∀ (k : Nat) (o : Obj), w.heap[k]? = some o → w'.heap[k]? = some o := by
      intro k o h
      have hk : k < w.heap.size := (Array.getElem?_eq_some_iff.1 h).1
      rw [hb.block k hk]; exact h
    refine ⟨hB, v, old _ _ hbk, ⟨hown.1, ?_⟩, hne⟩
    rcases hown.2 with hn | ⟨g, cap, cur, fz, hv, hbg, hg, rest⟩
    · exact .inl hn
    · exact .inr ⟨g, cap, cur, fz, hv, hbg, old _ _ hg, rest⟩
  rcases h with h | h
  · exact .inl (key _ h)
  · exact .inr (key _ h)
theorem docw_new (w : World) (B : Nat) (hB : B ≤ w.heap.size) : DocW B w.heap.size [] (w.alloc (.cells #[.pointer none, .slice none 0 0, .bool false] 72)) :=
  .inl ⟨hB, .slice none 0 0, heap_alloc_new w _, World.ownsRowF_nil _ _ _ _, by simp [Value.ownBlock]⟩
/-- What the cells of a document are. -/
theorem DocW.form {B b : Nat} {l : List UInt8} {w : World} (h : DocW B b l w) : ∃ p ao cap, w.heap[b]? = some (.cells #[p, .slice ao l.length cap, .bool false] 72 (0, 0)) ∧ B ≤ b ∧ b < w.heap.size ∧
    w.cell? ⟨b, 1, none⟩ = some (.slice ao l.length cap) ∧ w.cell? ⟨b, 2, none⟩ = some (.bool false) ∧ w.frozen? ⟨b, 2, none⟩ = false := by
  have key : ∀ p, DocF B b p l w → ∃ p ao cap, w.heap[b]? = some (.cells #[p, .slice ao l.length cap, .bool false] 72 (0, 0)) ∧ B ≤ b ∧ b < w.heap.size ∧
    w.cell? ⟨b, 1, none⟩ = some (.slice ao l.length cap) ∧ w.cell? ⟨b, 2, none⟩ = some (.bool false) ∧ w.frozen? ⟨b, 2, none⟩ = false := by
    rintro p ⟨hB, v, hbk, hown, hne⟩
    obtain ⟨ao, cap, rfl⟩ : ∃ ao cap, v = .slice ao l.length cap := by
      rw [cells_len] at hown
      rcases hown.2 with ⟨hv, h0⟩ | ⟨g, cap, cur, fz, hv, _⟩
      · exact ⟨none, 0, by rw [hv, h0]⟩
      · exact ⟨_, _, hv⟩
    exact ⟨p, ao, cap, hbk, hB, (Array.getElem?_eq_some_iff.1 hbk).1, by rw [Lib.cell_of_heap hbk]; rfl, by rw [Lib.cell_of_heap hbk]; rfl, Lib.frozen_of_heap hbk 2⟩
  rcases h with h | h
  · exact key _ h
  · exact key _ h
theorem doc_lies : liesAt Tryz.prog Tryz.prog.depth 72 (3 / Tryz.prog.cellsOf 72) 0 70 1 = true := by kernel_rfl
set_option maxHeartbeats 1000000 in
theorem wcheck_fresh (b : Nat) (w : World) (h0 : w.cell? ⟨b, 0, none⟩ = some (.pointer none)) (hsh : w.shape? b = some (72, 3)) (hfz : w.frozen? ⟨b, 0, none⟩ = false) :
    Calls Tryz.prog 107 #[.pointer (some ⟨b, 0, none⟩)] w fun e w' => e = .returned (.tuple #[]) ∧ w' = w.setCell ⟨b, 0, none⟩ (.pointer (some ⟨b, 0, none⟩)) := by
  obtain ⟨j, hj, hjs⟩ := Option.map_eq_some_iff.1 bld_size
  go_enter Tryz.func107, Tryz.ntmps107
  go_wp2
  rw [Lib.run_to_unsafe w ⟨b, 0, none⟩ Tryz.underlying68 Tryz.underlying211 hj (by rw [hjs]; decide) hsh (Nat.zero_lt_succ 2)]
  simp only [Result.andThen]
  rw [Oper.upon_value]
  go_wp2
  rw [run_callFunc_extern Tryz.func134 (by kernel_rfl) (by kernel_rfl) (by kernel_rfl) (e := Extern.AbiNoEscape.same) (by kernel_rfl)]
  rw [Lib.run_noEscape]
  simp only [Result.andThen]
  rw [Oper.upon_value]
  go_wp2
  rw [Lib.run_from_unsafe w ⟨b, 0, none⟩ Tryz.underlying211 Tryz.underlying68 hj hsh doc_lies]
  simp only [Result.andThen]
  rw [Oper.upon_value]
  go_wp2
  go_end0
  exact ⟨rfl, rfl⟩
theorem docf_used {B b : Nat} {p : Value} {l : List UInt8} {w : World} (h : DocF B b p l w) (q : Value) : DocF B b q l (w.setCell ⟨b, 0, none⟩ q) := by
  obtain ⟨hB, v, hb, hown, hne⟩ := h
  refine ⟨hB, v, ?_, ?_, hne⟩
  · simp [World.setCell, Array.getElem?_modify, hb]
  · refine hown.kept (row := some b) ⟨rfl, rfl, rfl, by simp [World.setCell], fun k _ hk => Below.heap_setCell _ _ _ _ (fun e => hk (by simp [e]))⟩ ?_
    exact Or.inr hne
theorem docf_put {B b : Nat} {p v v' : Value} {l : List UInt8} {w : World} (hB : B ≤ b) (hb : w.heap[b]? = some (.cells #[p, v, .bool false] 72 (0, 0))) (hown : w.ownsRowF B 5 1 v' (Lib.byteCells l).length (Lib.byteCells l)) :
    DocF B b p l (w.setCell ⟨b, 1, none⟩ v') := by
  have hne := Lib.ownBlock_neF hown hb (by decide)
  refine ⟨hB, v', ?_, ?_, hne⟩
  · simp [World.setCell, Array.getElem?_modify, hb]
  · exact hown.kept (row := some b) ⟨rfl, rfl, rfl, by simp [World.setCell], fun k _ hk => Below.heap_setCell _ _ _ _ (fun e => hk (by simp [e]))⟩ (Or.inr hne)
/-- The third cell is written again. -/
theorem docw_big {B b : Nat} {l : List UInt8} {w : World} (h : DocW B b l w) : DocW B b l (w.setCell ⟨b, 2, none⟩ (.bool false)) := by
  have key : ∀ p, DocF B b p l w → DocF B b p l (w.setCell ⟨b, 2, none⟩ (.bool false)) := by
    rintro p ⟨hB, v, hb, hown, hne⟩
    refine ⟨hB, v, ?_, ?_, hne⟩
    · simp [World.setCell, Array.getElem?_modify, hb]
    · exact hown.kept (row := some b) ⟨rfl, rfl, rfl, by simp [World.setCell], fun k _ hk => Below.heap_setCell _ _ _ _ (fun e => hk (by simp [e]))⟩ (Or.inr hne)
  rcases h with h | h
  · exact .inl (key _ h)
  · exact .inr (key _ h)
theorem wcheck (B b : Nat) (l : List UInt8) (w : World) (h : DocW B b l w) :
    Calls Tryz.prog 107 #[.pointer (some ⟨b, 0, none⟩)] w fun e w' => e = .returned (.tuple #[]) ∧ (DocF B b (.pointer (some ⟨b, 0, none⟩)) l w' ∧ Below B w w' ∧ Kept wriT w w') := by
  rcases h with h | h
  · obtain ⟨hB, v, hbk, _⟩ := id h
    refine (wcheck_fresh b w (by rw [Lib.cell_of_heap hbk]; rfl) (by simp [World.shape?, hbk]) (Lib.frozen_of_heap hbk 0)).mono ?_
    rintro e w' ⟨rfl, rfl⟩
    exact ⟨rfl, docf_used h _, (Below.refl B w).setCell (p := ⟨b, 0, none⟩) h.1 _, Kept.set hbk (by decide) _ _⟩
  · obtain ⟨hB, v, hbk, _⟩ := id h
    refine (bcheck_used b w (by rw [Lib.cell_of_heap hbk]; rfl)).mono ?_
    rintro e w' ⟨rfl, rfl⟩
    exact ⟨rfl, h, Below.refl B _, Kept.refl _ _⟩
set_option maxHeartbeats 2000000 in
/-- (*strings.Builder).WriteString. -/
theorem wstring (B b : Nat) (l : List UInt8) (s : ByteArray) (w : World) (h : DocW B b l w) (hlen : l.length + s.size ≤ 140737488355328) (hBw : B ≤ w.heap.size) :
    Calls Tryz.prog 75 #[.pointer (some ⟨b, 0, none⟩), .string s] w fun e w' => e = .returned (.tuple #[.int .i64 s.size, .nilIface]) ∧ DocW B b (l ++ bl s) w' ∧ Below B w w' ∧ Kept wriT w w' := by
  obtain ⟨i0, hi, hz0, hz1, hz2⟩ := info_parts byte_info
  have hcl := cells_len l
  go_enter Tryz.func75, Tryz.ntmps75
  go_wp2_with (go_at_call 107; refine (wcheck B b l _ h).mono ?_)
  rintro e w1 ⟨rfl, h1, hb1, hk1⟩
  obtain ⟨hB, v, hbk, hown, hne⟩ := h1
  have c0 : w1.cell? ⟨b, 0, none⟩ = some (.pointer (some ⟨b, 0, none⟩)) := by rw [Lib.cell_of_heap hbk]; rfl
  have c1 : w1.cell? ⟨b, 1, none⟩ = some v := by rw [Lib.cell_of_heap hbk]; rfl
  go_wp2_with (at_builtin; refine Lib.wpList_append_own_stringF _ rfl _ _ 58 9 rfl B 5 i0 Tryz.underlying58 Tryz.underlying9 hi hz0 hz1 hz2 _ _ _ rfl hown s rfl ?c3 ?c4 ?c5 ?_)
  case c3 => unfold maxLen; omega
  case c4 => omega
  case c5 => have := hb1.size; omega
  intro v' w2 hown' hgrow _
  have hlt := bld_lt hbk
  have hb2 : w2.heap[b]? = some (.cells #[.pointer (some ⟨b, 0, none⟩), v, .bool false] 72 (0, 0)) := by
    rw [hgrow.block b hlt (fun e => hne e.symm)]
    exact hbk
  have hk2 : Kept wriT w1 w2 := Kept.grown hgrow fun k hk => by
    rcases hown.2 with ⟨hv, _⟩ | ⟨g, cap, cur, fz, hv, _, hg, _⟩
    · rw [hv] at hk; cases hk
    · rw [hv] at hk; cases hk; exact ⟨_, _, _, hg, by decide⟩
  have d0 : w2.cell? ⟨b, 0, none⟩ = some (.pointer (some ⟨b, 0, none⟩)) := by rw [Lib.cell_of_heap hb2]; rfl
  have d1 : w2.cell? ⟨b, 1, none⟩ = some v := by rw [Lib.cell_of_heap hb2]; rfl
  have f1 : w2.frozen? ⟨b, 1, none⟩ = false := Lib.frozen_of_heap hb2 1
  obtain ⟨ao, n', cap, rfl⟩ : ∃ ao n' cap, v' = .slice ao n' cap := by
    rcases hown'.2 with ⟨hv, _⟩ | ⟨g, cap, cur, fz, hv, _⟩
    · exact ⟨_, _, _, hv⟩
    · exact ⟨_, _, _, hv⟩
  go_wp2
  go_ret2
  refine ⟨rfl, .inr ?_, ?_, (hk1.trans hk2).trans (Kept.set hb2 (by decide) _ _)⟩
  · have e : Lib.byteCells (l ++ bl s) = Lib.byteCells l ++ Lib.strCells s := cells_str l s
    exact docf_put hB hb2 (by rw [e, List.length_append, cells_len, Lib.strCells_length]; exact hown')
  · exact (hb1.grown hgrow (by have := hb1.size; omega) (fun k hk => (hown.lt k hk).1)).setCell (p := ⟨b, 1, none⟩) hB _
set_option maxHeartbeats 1000000 in
/-- (*strings.Builder).Len. -/
theorem wlen (B b : Nat) (l : List UInt8) (w : World) (h : DocW B b l w) :
    Calls Tryz.prog 76 #[.pointer (some ⟨b, 0, none⟩)] w fun e w' => e = .returned (.int .i64 l.length) ∧ w' = w := by
  obtain ⟨p, ao, cap, hb, _, _, c1, _, _⟩ := h.form
  go_enter Tryz.func76, Tryz.ntmps76
  go_wp2
  go_ret
  exact ⟨rfl, rfl⟩
set_option maxHeartbeats 2000000 in
/-- (*strings.Builder).String, of one that holds a byte. -/
theorem wout (B b : Nat) (l : List UInt8) (w : World) (h : DocW B b l w) (h0 : l ≠ []) :
    Calls Tryz.prog 31 #[.pointer (some ⟨b, 0, none⟩)] w fun e w' => e = .returned (.string ⟨l.toArray⟩) ∧ Below B w w' := by
  obtain ⟨p, hB, v, hbk, hown, hne⟩ : ∃ p, DocF B b p l w := by
    rcases h with h | h
    · exact ⟨_, h⟩
    · exact ⟨_, h⟩
  have hl0 : l.length ≠ 0 := by simpa using h0
  rw [Lib.byteCells_length] at hown
  obtain ⟨g, cap, cur, fz, rfl, hbg, hg, hfz, hnc, hcm, hcs, htake⟩ : ∃ g cap cur fz, v = .slice (some ⟨g, 0, none⟩) l.length cap ∧ B ≤ g ∧ w.heap[g]? = some (.cells cur 5 fz) ∧ fz.2 ≤ l.length * 1 ∧ l.length ≤ cap ∧ cap ≤ maxLen ∧ cur.size = cap * 1 ∧ cur.toList.take (l.length * 1) = Lib.byteCells l := by
    rcases hown.2 with ⟨_, hz⟩ | ⟨g, cap, cur, fz, hv, r⟩
    · exact absurd hz hl0
    · exact ⟨g, cap, cur, fz, hv, r⟩
  have c1 : w.drew.cell? ⟨b, 1, none⟩ = some (.slice (some ⟨g, 0, none⟩) l.length cap) := by
    have : w.drew.heap[b]? = some (.cells #[p, .slice (some ⟨g, 0, none⟩) l.length cap, .bool false] 72 (0, 0)) := hbk
    rw [Lib.cell_of_heap this]; rfl
  have hSD : (Builtin.unsafeSliceData_ #[58] 127 #[.slice (some ⟨g, 0, none⟩) l.length cap]).run Tryz.prog w.drew = .ok (.pointer (some ⟨g, 0, none⟩)) w.drew :=
    Lib.run_unsafeSliceData_row _ _ _ _ _ _ (by omega)
  have hUS : (Builtin.unsafeString_ #[127, 3] 9 #[.pointer (some ⟨g, 0, none⟩), .int .i64 l.length]).run Tryz.prog w.drew = .ok (.string ⟨l.toArray⟩) (w.drew.freeze ⟨g, 0, none⟩ l.length) := by
    refine Lib.run_unsafeString_row w.drew 127 3 9 5 Tryz.underlying127 (by kernel_rfl) g cur.size (by have hg' : w.drew.heap[g]? = some (.cells cur 5 fz) := hg; simp [World.shape?, hg']) l h0 (by omega) (by unfold maxLen at hcm; omega) ?_
    intro j x hx
    have := hown.cells (g := g) rfl j (.int .u8 x.toNat) (by simp [Lib.byteCells, hx])
    exact this
  have mixed : Tryz.prog.follows .mixedOrders = true := by kernel_rfl
  go_enter Tryz.func31, Tryz.ntmps31
  go_wp2
  go_region_o
  all_goals (go_wp2; go_ret; exact ⟨rfl, Lib.below_freeze (Below.drew (Below.refl B w)) (p := ⟨g, 0, none⟩) hbg _⟩)

end Go.Proofs.YtnlkpdodacphkaaGreatDoor
namespace Go.Proofs.YtnlkpdodacphkaaGreatDoor
open Go Go.RowKit Go.Lib
set_option maxRecDepth 100000

def sizes : List ByteArray → Nat
  | [] => 0
  | s :: r => s.size + sizes r
theorem sizes_get : ∀ (ts : List ByteArray) (k : Nat) (h : k < ts.length), sizes (ts.take k) + (ts[k]'h).size ≤ sizes ts
  | [], k, h => absurd h (Nat.not_lt_zero k)
  | s :: r, 0, h => by simp [sizes]
  | s :: r, k + 1, h => by
    have ih := sizes_get r k (by simpa using h)
    simp only [List.take_succ_cons, sizes, List.getElem_cons_succ]
    omega
theorem flat_size : ∀ ts : List ByteArray, (ts.flatMap bl).length = sizes ts
  | [] => rfl
  | s :: r => by rw [List.flatMap_cons, List.length_append, flat_size r, bl_size]; rfl
/-- A row of texts at the beginning of a block. -/
def RowS (w : World) (r : Nat) (ts : List ByteArray) : Prop := ∃ cs z, w.heap[r]? = some (.cells cs 9 z) ∧ ∀ j (h : j < ts.length), cs[j]? = some (.string (ts[j]'h))
theorem RowS.kept {w w' : World} {r : Nat} {ts : List ByteArray} (h : RowS w r ts) (hk : Kept wriT w w') : RowS w' r ts := by
  obtain ⟨cs, z, h1, h2⟩ := h
  exact ⟨cs, z, hk.heap h1 (by decide), h2⟩
theorem RowS.cell {w : World} {r : Nat} {ts : List ByteArray} (h : RowS w r ts) (j : Nat) (hj : j < ts.length) : w.cell? ⟨r, j, none⟩ = some (.string (ts[j]'hj)) := by
  obtain ⟨cs, z, h1, h2⟩ := h
  rw [Lib.cell_of_heap h1]; exact h2 j hj
set_option maxHeartbeats 4000000 in
/-- (*write.document).put. -/
theorem wput (B b r cap : Nat) (ts : List ByteArray) (l : List UInt8) (w : World) (h : DocW B b l w) (hlen : l.length + sizes ts ≤ 200000) (hn : ts.length ≤ 10) (hrow : RowS w r ts) (hBw : B ≤ w.heap.size) :
    Calls Tryz.prog 49 #[.pointer (some ⟨b, 0, none⟩), .slice (some ⟨r, 0, none⟩) ts.length cap] w fun e w' => e = .returned (.tuple #[]) ∧ DocW B b (l ++ ts.flatMap bl) w' ∧ Below B w w' ∧ Kept wriT w w' := by
  obtain ⟨n, hn'⟩ : ∃ n, ts.length = n := ⟨_, rfl⟩
  have HN := Lib.hid hn'
  have HH := Lib.hid h
  have HR := Lib.hid hrow
  have HL := Lib.hid hlen
  have HBW := Lib.hid hBw
  rw [hn'] at hn ⊢
  clear hn' h hrow hlen hBw
  go_enter Tryz.func49, Tryz.ntmps49
  go_wp2
  go_loopg [5, 8] n (fun g s i wr => ∃ k : Nat, g + k = n ∧ i = .int .i64 k ∧ Hid (DocW B b (l ++ (ts.take k).flatMap bl) wr) ∧ Hid (Below B w wr) ∧ Hid (Kept wriT w wr))
  case atStart => exact ⟨0, rfl, rfl, Lib.hid (by simpa using HH.out), Lib.hid (Below.refl _ _), Lib.hid (Kept.refl _ _)⟩
  case round =>
    obtain ⟨k, hg, rfl, HD, HB, HK⟩ := hrel
    by_cases hk : k < n
    · have hk' : (k : Int) < (n : Int) := by omega
      have hkt : k < ts.length := by rw [HN.out]; exact hk
      have rk := (HR.out.kept HK.out).cell k hkt
      obtain ⟨x, hx⟩ : ∃ x, ts[k]'hkt = x := ⟨_, rfl⟩
      have hsz := sizes_get ts k hkt
      obtain ⟨L, hL⟩ : ∃ L, l ++ (ts.take k).flatMap bl = L := ⟨_, rfl⟩
      have hLn : L.length + x.size ≤ 200000 := by
        have := HL.out
        rw [← hL, List.length_append, flat_size, ← hx]
        omega
      have hLx : decide ((200000 : Int) < (L.length : Int) + (x.size : Int)) = false := decide_eq_false (by omega)
      have hnext : l ++ (ts.take (k + 1)).flatMap bl = L ++ bl x := by
        rw [List.take_succ_eq_append_getElem hkt, List.flatMap_append, ← List.append_assoc, hL, hx]; simp
      rw [hx] at rk
      rw [hL] at HD
      obtain ⟨p, ao, cp, hbk, hBb, hbl, c1, c2, f2⟩ := HD.out.form
      have HNX := Lib.hid hnext
      have HW := Lib.hid (wlen B b L wr HD.out)
      have HBK := Lib.hid hbk
      have HBB := Lib.hid hBb
      clear hnext hL hsz hx hbk hBb
      go_wp2_with fail
      refine HW.out.mono ?_
      rintro e w1 ⟨rfl, rfl⟩
      have HD2 := docw_big HD.out
      have HB2 := Lib.hid ((Below.refl B w1).setCell (p := ⟨b, 2, none⟩) HBB.out (.bool false))
      have HK2 := Lib.hid (Kept.set (ts := wriT) HBK.out (by decide) 2 (.bool false))
      obtain ⟨_, _, _, _, _, _, _, d2, _⟩ := HD2.form
      have HS := Lib.hid (wstring B b L x _ HD2 (by omega) (by have := HB2.out.size; have := HB.out.size; have := HBW.out; omega))
      clear HW HD2
      go_wp2_with fail
      refine HS.out.mono ?_
      rintro e w2 ⟨rfl, hd, hb, hk3⟩
      have HD3 := Lib.hid (show DocW B b (l ++ (ts.take (k + 1)).flatMap bl) w2 by rw [HNX.out]; exact hd)
      have HB3 := Lib.hid ((HB.out.trans HB2.out).trans hb)
      have HK3 := Lib.hid ((HK.out.trans HK2.out).trans hk3)
      clear hd hb hk3 HS c1 c2 f2 d2 rk
      go_wp2_with fail
      go_roundg (n - (k + 1))
      case measure => omega
      case rel => exact ⟨k + 1, by omega, by go_num, HD3, HB3, HK3⟩
    · have hk' : ¬ (k : Int) < (n : Int) := by omega
      obtain rfl : k = n := by omega
      have HF := Lib.hid (show DocW B b (l ++ ts.flatMap bl) wr by have := HD.out; rw [← HN.out, List.take_length] at this; exact this)
      clear HD
      go_wp2_with fail
      go_end0
      exact ⟨rfl, HF.out, HB.out, HK.out⟩

theorem closeL_ge : ∀ l : List UInt8, l.length ≤ (closeL l).length
  | [] => Nat.le_refl _
  | c :: l => by
    have h1 := (closeB_len c).2
    have h2 := closeL_ge l
    rw [closeL_cons, List.length_append, List.length_cons]; omega
/-- A row that has just been laid. -/
theorem rowS_new (w : World) (ts : List ByteArray) (cs : Array Value) (hcs : cs = (ts.map Value.string).toArray) : RowS (w.alloc (.cells cs 9)) w.heap.size ts := by
  subst hcs
  exact ⟨_, _, heap_alloc_new w _, fun j hj => by simp [hj]⟩
set_option maxHeartbeats 4000000 in
/-- (*write.document).close. -/
theorem wclose (B b : Nat) (s : ByteArray) (l : List UInt8) (w : World) (h : DocW B b l w) (hlen : l.length + (closeL (bl s)).length ≤ 200000) (hG : Glob B w) (hBw : B ≤ w.heap.size) :
    Calls Tryz.prog 51 #[.pointer (some ⟨b, 0, none⟩), .string s] w fun e w' => e = .returned (.tuple #[]) ∧ DocW B b (l ++ closeL (bl s)) w' ∧ Below B w w' ∧ Kept wriT w w' := by
  have hs : s.size ≤ 200000 := by have := closeL_ge (bl s); rw [bl_size] at this; omega
  have hs' : decide ((200000 : Int) < (s.size : Int)) = false := decide_eq_false (by omega)
  obtain ⟨p, ao, cp, hbk, hBb, hbl, c1, c2, f2⟩ := h.form
  have HD := docw_big h
  have HB := Lib.hid ((Below.refl B w).setCell (p := ⟨b, 2, none⟩) hBb (.bool false))
  have HK := Lib.hid (Kept.set (ts := wriT) hbk (by decide) 2 (.bool false))
  obtain ⟨_, _, _, _, _, _, _, d2, _⟩ := HD.form
  obtain ⟨w1, hw1⟩ : ∃ w1, w.setCell ⟨b, 2, none⟩ (.bool false) = w1 := ⟨_, rfl⟩
  rw [hw1] at HD HB HK d2
  have HC := Lib.hid (eclose s w1 (Lib.hid (hG.step HB.out).ent) (by omega))
  have HDD := Lib.hid HD
  have HL := Lib.hid hlen
  have HBW := Lib.hid (Nat.le_trans hBw HB.out.size)
  obtain ⟨C, hC⟩ : ∃ C, str (closeL (bl s)) = C := ⟨_, rfl⟩
  rw [hC] at HC
  have hCb := str_bl (closeL (bl s))
  rw [hC] at hCb
  have HCB := Lib.hid hCb
  clear hC hCb h hlen hG hBw hbk hBb HD hs
  go_enter Tryz.func51, Tryz.ntmps51
  go_wp2_with fail
  refine HC.out.mono ?_
  rintro e w2 ⟨rfl, hb2⟩
  have ha := hb2.alloc hb2.size (.cells #[.string C] 9)
  have HP := Lib.hid (wput B b w2.heap.size 1 [C] l (w2.alloc (.cells #[.string C] 9)) (docw_below HDD.out ha) (by have := HL.out; show _ + (C.size + 0) ≤ _; rw [← bl_size, HCB.out]; omega) (by simp) (rowS_new w2 [C] _ rfl) (Nat.le_trans HBW.out ha.size))
  have HA := Lib.hid ha
  clear hb2 ha HC
  go_wp2_with fail
  refine HP.out.mono ?_
  rintro e w3 ⟨rfl, hd, hb, hk⟩
  have HF := Lib.hid (show DocW B b (l ++ closeL (bl s)) w3 by simpa [HCB.out] using hd)
  have HB3 := Lib.hid ((HB.out.trans (HA.out.mono HBW.out)).trans hb)
  have HK3 := Lib.hid ((HK.out.trans (Kept.of wriT HA.out)).trans hk)
  clear hd hb hk HP
  go_wp2_with fail
  go_end0
  exact ⟨rfl, HF.out, HB3.out, HK3.out⟩
set_option maxHeartbeats 4000000 in
/-- (*write.document).attribute. -/
theorem wattr (B b : Nat) (n v : ByteArray) (l : List UInt8) (w : World) (h : DocW B b l w) (hlen : l.length + ([32] ++ atT (bl n) (bl v)).length ≤ 200000) (hG : Glob B w) (hBw : B ≤ w.heap.size) :
    Calls Tryz.prog 50 #[.pointer (some ⟨b, 0, none⟩), .string n, .string v] w fun e w' => e = .returned (.tuple #[]) ∧ DocW B b (l ++ ([32] ++ atT (bl n) (bl v))) w' ∧ Below B w w' ∧ Kept wriT w w' := by
  have hlen' : l.length + n.size + (closeL (bl v)).length + 4 ≤ 200000 := by
    unfold atT at hlen
    simp only [List.length_append, List.length_cons, List.length_nil, bl_size] at hlen
    omega
  have ha := (Below.refl w.heap.size w).alloc (Nat.le_refl _) (.cells #[.string ⟨#[32]⟩, .string n, .string ⟨#[61, 34]⟩] 9)
  have HP := Lib.hid (wput B b w.heap.size 3 [⟨#[32]⟩, n, ⟨#[61, 34]⟩] l (w.alloc (.cells #[.string ⟨#[32]⟩, .string n, .string ⟨#[61, 34]⟩] 9)) (docw_below h ha) (by show _ + (1 + (n.size + (2 + 0))) ≤ _; omega) (by simp) (rowS_new w [⟨#[32]⟩, n, ⟨#[61, 34]⟩] _ rfl) (Nat.le_trans hBw ha.size))
  have HG := Lib.hid hG
  have HL := Lib.hid hlen'
  have HBW := Lib.hid hBw
  have HA := Lib.hid ha
  clear h hlen hlen' hG hBw ha
  go_enter Tryz.func50, Tryz.ntmps50
  go_wp2_with fail
  refine HP.out.mono ?_
  rintro e w1 ⟨rfl, hd, hb, hk⟩
  have hB1 := (HA.out.mono HBW.out).trans hb
  have hd1 : DocW B b (l ++ ([32] ++ (bl n ++ [61, 34]))) w1 := by
    have e : ([⟨#[32]⟩, n, ⟨#[61, 34]⟩] : List ByteArray).flatMap bl = [32] ++ (bl n ++ [61, 34]) := by simp [List.flatMap_cons, bl]
    rw [e] at hd; exact hd
  have HC := Lib.hid (wclose B b v _ w1 hd1 (by have := HL.out; simp only [List.length_append, List.length_cons, List.length_nil, bl_size]; omega) (HG.out.step hB1) (Nat.le_trans HBW.out hB1.size))
  have HB1 := Lib.hid hB1
  have HK1 := Lib.hid ((Kept.of wriT HA.out).trans hk)
  clear hd hb hk hB1 hd1 HP
  go_wp2_with fail
  refine HC.out.mono ?_
  rintro e w2 ⟨rfl, hd, hb, hk⟩
  have ha := (Below.refl w2.heap.size w2).alloc (Nat.le_refl _) (.cells #[.string ⟨#[34]⟩] 9)
  have HB2 := Lib.hid (HB1.out.trans hb)
  have HK2 := Lib.hid (HK1.out.trans hk)
  have hBw2 : B ≤ w2.heap.size := Nat.le_trans HBW.out HB2.out.size
  have HP := Lib.hid (wput B b w2.heap.size 1 [⟨#[34]⟩] _ (w2.alloc (.cells #[.string ⟨#[34]⟩] 9)) (docw_below hd ha) (by have := HL.out; simp only [List.length_append, List.length_cons, List.length_nil, bl_size]; show _ + (1 + 0) ≤ _; omega) (by decide) (rowS_new w2 [⟨#[34]⟩] _ rfl) (Nat.le_trans hBw2 ha.size))
  have HB3 := Lib.hid (HB2.out.trans (ha.mono hBw2))
  have HK3 := Lib.hid (HK2.out.trans (Kept.of wriT ha))
  clear hd hb hk HC ha hBw2
  go_wp2_with fail
  refine HP.out.mono ?_
  rintro e w3 ⟨rfl, hd, hb, hk⟩
  have HF := Lib.hid (show DocW B b (l ++ ([32] ++ atT (bl n) (bl v))) w3 by
    have e : l ++ ([32] ++ (bl n ++ [61, 34])) ++ closeL (bl v) ++ ([⟨#[34]⟩] : List ByteArray).flatMap bl = l ++ ([32] ++ atT (bl n) (bl v)) := by
      unfold atT; simp [List.flatMap_cons, bl]
    rw [e] at hd; exact hd)
  have HB4 := Lib.hid (HB3.out.trans hb)
  have HK4 := Lib.hid (HK3.out.trans hk)
  clear hd hb hk HP
  go_wp2_with fail
  go_end0
  exact ⟨rfl, HF.out, HB4.out, HK4.out⟩

end Go.Proofs.YtnlkpdodacphkaaGreatDoor
namespace Go.Proofs.YtnlkpdodacphkaaGreatDoor
open Go Go.RowKit
set_option maxRecDepth 100000

/-- What is told by a panic. -/
def dies (e a : Int) : Ending := .panicked [{ v := .iface 60 (.agg #[.int .i64 e, .int .i64 a]), recovered := false }]
set_option maxHeartbeats 1000000 in
theorem must_ok (e a : Int) (w : World) :
    Calls Tryz.prog 45 #[.bool true, .int .i64 e, .int .i64 a] w fun r w' => r = .returned (.tuple #[]) ∧ w' = w := by
  go_enter Tryz.func45, Tryz.ntmps45
  go_wp2
  go_end0
  exact ⟨rfl, rfl⟩
set_option maxHeartbeats 1000000 in
theorem must_bad (e a : Int) (w : World) :
    Calls Tryz.prog 45 #[.bool false, .int .i64 e, .int .i64 a] w fun r w' => r = dies e a ∧ w' = w := by
  go_enter Tryz.func45, Tryz.ntmps45
  go_wp2
  exact ⟨rfl, rfl, rfl⟩
set_option maxHeartbeats 1000000 in
theorem topens (k at_ : Int) (nm tx : ByteArray) (v : Value) (hv : ∃ ao n cap, v = .slice ao n cap) (w : World) :
    Calls Tryz.prog 46 #[.agg #[.int .i64 k, .string nm, v, .string tx, .int .i64 at_]] w fun r w' => r = .returned (.bool (decide (k = 1 ∨ k = 3))) ∧ Below w.heap.size w w' := by
  obtain ⟨ao, n, cap, rfl⟩ := hv
  have HB := Lib.hid ((Below.refl w.heap.size w).alloc (Nat.le_refl _) (.cells #[.int .i64 k, .string nm, .slice ao n cap, .string tx, .int .i64 at_] 117))
  by_cases h1 : k = 1
  · subst h1
    go_enter Tryz.func46, Tryz.ntmps46
    go_wp2
    go_ret
    exact ⟨rfl, HB.out⟩
  · have q : (k == 1) = false := by simp [h1]
    have e : decide (k = 1 ∨ k = 3) = (k == 3) := by
      by_cases h3 : k = 3
      · subst h3; rfl
      · simp [h1, h3]
    rw [e]
    clear e h1
    go_enter Tryz.func46, Tryz.ntmps46
    go_wp2
    go_ret
    exact ⟨rfl, HB.out⟩

theorem atS_bad' {σ : St} (h : σ.err ≠ 0) : atS σ = σ.wrg := by unfold atS; rw [if_neg h]

/-! ### a document that is read -/
/-- Block dd is a document: its scanner in b at σ, its Spaces in q within d elements, that knows L; c elements so far. -/
structure DS (B dd b q : Nat) (s : ByteArray) (σ : St) (d : Nat) (L : List Tell) (c : Nat) (w : World) : Prop where
  sc : Sc B b s σ w
  sp : Sp B q d L w
  base : B ≤ dd
  heap : w.heap[dd]? = some (.cells #[.pointer (some ⟨b, 0, none⟩), .pointer (some ⟨q, 0, none⟩), .int .i64 c] 66 (0, 0))
  pu : Pu (bl s) σ d L c
theorem Sp.heap {B b d : Nat} {L : List Tell} {w : World} (h : Sp B b d L w) : ∃ v, w.heap[b]? = some (.cells #[.int .i64 d, v] 114 (0, 0)) := by obtain ⟨_, k, cap, h, _⟩ := h; exact ⟨_, h⟩
theorem Sp.only {B b d k : Nat} {L : List Tell} {w w' : World} (h : Sp B b d L w) (ho : Only k w w') {cs : Array Value} {t : TypeId} {z : Nat × Nat} (hk : w.heap[k]? = some (.cells cs t z)) (h1 : t ≠ 111) (h2 : t ≠ 114) : Sp B b d L w' := by
  obtain ⟨h0, r, cap, hb, ho'⟩ := h
  have hbk : b ≠ k := fun e => by rw [e, hk] at hb; cases hb; exact h2 rfl
  refine ⟨h0, r, cap, ho.heap hb hbk, ho'.1, ?_⟩
  rcases ho'.2 with hn | ⟨g, cap', cur, hv, hbg, hg, rest⟩
  · exact .inl hn
  · exact .inr ⟨g, cap', cur, hv, hbg, ho.heap hg (fun e => by rw [e, hk] at hg; cases hg; exact h1 rfl), rest⟩
theorem DS.lt {B dd b q d c : Nat} {s : ByteArray} {σ : St} {L : List Tell} {w : World} (h : DS B dd b q s σ d L c w) : dd < w.heap.size := (Array.getElem?_eq_some_iff.1 h.heap).1
theorem DS.ne {B dd b q d c : Nat} {s : ByteArray} {σ : St} {L : List Tell} {w : World} (h : DS B dd b q s σ d L c w) : dd ≠ b ∧ dd ≠ q ∧ b ≠ q := by
  obtain ⟨v, hq⟩ := h.sp.heap
  have h1 := h.heap
  have h2 := h.sc.heap
  refine ⟨fun e => ?_, fun e => ?_, fun e => ?_⟩
  · rw [e, h2] at h1; cases h1
  · rw [e, hq] at h1; cases h1
  · rw [e, hq] at h2; cases h2
theorem DS.le {B dd b q d c : Nat} {s : ByteArray} {σ : St} {L : List Tell} {w : World} (h : DS B dd b q s σ d L c w) : B ≤ w.heap.size := h.sc.glob.le
theorem DS.step {B dd b q d c : Nat} {s : ByteArray} {σ : St} {L : List Tell} {w w' : World} (h : DS B dd b q s σ d L c w) (hb : Below w.heap.size w w') : DS B dd b q s σ d L c w' :=
  ⟨h.sc.step hb, h.sp.step hb, h.base, by rw [hb.block _ h.lt]; exact h.heap, h.pu⟩
/-- The scanner has moved. -/
theorem DS.scan {B dd b q d c : Nat} {s : ByteArray} {σ σ' : St} {L : List Tell} {w w' : World} (h : DS B dd b q s σ d L c w) (hS : Sc B b s σ' w') (ho : Only b w w') (hn : Pu (bl s) σ' d L c) : DS B dd b q s σ' d L c w' :=
  ⟨hS, h.sp.only ho h.sc.heap (by decide) (by decide), h.base, ho.heap h.heap h.ne.1, hn⟩
theorem Kept.scan {B b : Nat} {s : ByteArray} {σ : St} {w w' : World} (h : Sc B b s σ w) (ho : Only b w w') : Kept docT w w' := Kept.only ho h.heap (by decide)
/-- Another block has changed. -/
theorem DS.only {B dd b q d c k : Nat} {s : ByteArray} {σ : St} {L : List Tell} {w w' : World} (h : DS B dd b q s σ d L c w) (ho : Only k w w') {cs : Array Value} {t : TypeId} {z : Nat × Nat} (hk : w.heap[k]? = some (.cells cs t z)) (ht : t ∉ docT) (hB : B ≤ k) : DS B dd b q s σ d L c w' := by
  have hdt : 111 ∈ docT ∧ 114 ∈ docT ∧ 66 ∈ docT ∧ 108 ∈ docT := by decide
  have hb : b ≠ k := fun e => by have h2 := h.sc.heap; rw [e, hk] at h2; cases h2; exact ht hdt.2.2.2
  have hd : dd ≠ k := fun e => by have h2 := h.heap; rw [e, hk] at h2; cases h2; exact ht hdt.2.2.1
  exact ⟨⟨h.sc.base, h.sc.len, h.sc.pos, h.sc.glob.step (ho.below hB h.le), ho.heap h.sc.heap hb⟩, h.sp.only ho hk (fun e => ht (e ▸ hdt.1)) (fun e => ht (e ▸ hdt.2.1)), h.base, ho.heap h.heap hd, h.pu⟩
theorem Kept.new {ts : List TypeId} {w w' w'' : World} (h : Kept ts w w') {k : Nat} (ho : Only k w' w'') (hk : w.heap.size ≤ k) : Kept ts w w'' :=
  ⟨Nat.le_trans h.size ho.size, fun j hj hn => (ho.block j (Nat.lt_of_lt_of_le hj h.size) (by omega)).trans (h.block j hj hn)⟩
theorem st5_onlyR (w : World) (R : Nat) (x0 x1 x2 x3 x4 : Value) : Only R w (st5 w R x0 x1 x2 x3 x4) :=
  ((((Only.set R 0 w x0).trans (Only.set R 1 _ x1)).trans (Only.set R 2 _ x2)).trans (Only.set R 3 _ x3)).trans (Only.set R 4 _ x4)
/-- What next leaves: something wrong, or a piece. -/
def NextGives (B dd b q : Nat) (s : ByteArray) (σ : St) (d : Nat) (L : List Tell) (c : Nat) (w : World) (r : Ending) (w' : World) : Prop :=
  ((nextS (bl s) σ).err = 0 → ∃ x, r = .returned x ∧ PieceAt b w.heap.size w' x (nextP (bl s) σ)) ∧ ((nextS (bl s) σ).err ≠ 0 → r = dies (nextS (bl s) σ).err (nextS (bl s) σ).wrg) ∧
    DS B dd b q s (nextS (bl s) σ) d L c w' ∧ Below B w w' ∧ Kept docT w w'
set_option maxHeartbeats 4000000 in
theorem dnext0 (B dd b q : Nat) (s : ByteArray) (σ σ' : St) (Q : Pc) (d : Nat) (L : List Tell) (c : Nat) (w : World) (h : DS B dd b q s σ d L c w) (hn : Pu (bl s) σ' d L c)
    (C1 : Hid (∀ w, Sc B b s σ w → Calls Tryz.prog 96 #[.pointer (some ⟨b, 0, none⟩)] w (Gives B b s w Q σ'))) :
    Calls Tryz.prog 67 #[.pointer (some ⟨dd, 0, none⟩)] w fun r w' =>
      (σ'.err = 0 → ∃ x, r = .returned x ∧ PieceAt b w.heap.size w' x Q) ∧ (σ'.err ≠ 0 → r = dies σ'.err σ'.wrg) ∧ DS B dd b q s σ' d L c w' ∧ Below B w w' ∧ Kept docT w w' := by
  have HD := Lib.hid (h.step ((Below.refl _ _).alloc (Nat.le_refl _) (.cells #[.int .i64 0, .string ⟨#[]⟩, .slice none 0 0, .string ⟨#[]⟩, .int .i64 0] 117)))
  have HB := Lib.hid ((Below.refl B w).alloc h.le (.cells #[.int .i64 0, .string ⟨#[]⟩, .slice none 0 0, .string ⟨#[]⟩, .int .i64 0] 117))
  have HK := Lib.hid (Kept.alloc docT w (.cells #[.int .i64 0, .string ⟨#[]⟩, .slice none 0 0, .string ⟨#[]⟩, .int .i64 0] 117))
  have HR := Lib.hid (heap_alloc_new w (.cells #[.int .i64 0, .string ⟨#[]⟩, .slice none 0 0, .string ⟨#[]⟩, .int .i64 0] 117))
  have HN := Lib.hid hn
  have HBw := Lib.hid h.le
  clear h hn
  have e0 := Lib.cell_of_heap HD.out.heap 0
  simp only [List.getElem?_toArray, List.getElem?_cons_zero] at e0
  go_enter Tryz.func67, Tryz.ntmps67
  go_wp2_with fail
  obtain ⟨R, hRe⟩ : ∃ R, w.heap.size = R := ⟨_, rfl⟩
  rw [hRe] at HR ⊢
  have HRe := Lib.hid hRe
  clear hRe
  generalize w.alloc (.cells #[.int .i64 0, .string ⟨#[]⟩, .slice none 0 0, .string ⟨#[]⟩, .int .i64 0] 117) = w0 at HD HB HK HR e0 ⊢
  have C := Lib.hid (C1.out w0 HD.out.sc)
  refine C.out.mono ?_
  rintro r w1 ⟨x, rfl, ⟨v, rfl, hrows, hfresh⟩, h1, o1⟩
  obtain ⟨ao, m, cap, rfl⟩ := rows_form hrows
  have hne : R ≠ b := fun e => by have h2 := HD.out.sc.heap; rw [← e, HR.out] at h2; cases h2
  have hRl : R < w0.heap.size := (Array.getElem?_eq_some_iff.1 HR.out).1
  have HD1 := Lib.hid ((HD.out.scan h1 o1 HN.out).step ((Below.refl _ _).alloc (Nat.le_refl _) (.cells #[.int .i64 Q.kind, .string (str Q.name), .slice ao m cap, .string (str Q.text), .int .i64 Q.at_] 117)))
  have HO1 := Lib.hid (o1.trans (Only.alloc b w1 (.cells #[.int .i64 Q.kind, .string (str Q.name), .slice ao m cap, .string (str Q.text), .int .i64 Q.at_] 117)))
  have HR1 := Lib.hid (HO1.out.heap HR.out hne)
  have HB1 := Lib.hid (HB.out.trans (HO1.out.below HD.out.sc.base HD.out.le))
  have HK1 := Lib.hid (HK.out.trans (Kept.scan HD.out.sc HO1.out))
  have HP := Lib.hid (heap_alloc_new w1 (.cells #[.int .i64 Q.kind, .string (str Q.name), .slice ao m cap, .string (str Q.text), .int .i64 Q.at_] 117))
  have HW := Lib.hid (hrows.only (Only.alloc b w1 (.cells #[.int .i64 Q.kind, .string (str Q.name), .slice ao m cap, .string (str Q.text), .int .i64 Q.at_] 117)))
  have HF := Lib.hid hfresh
  have HRl := Lib.hid hRl
  have HPR := Lib.hid (show R < w1.heap.size from Nat.lt_of_lt_of_le hRl o1.size)
  clear hrows hfresh h1 o1 C e0 HD HB HK HR
  have e0 := Lib.cell_of_heap HD1.out.heap 0
  simp only [List.getElem?_toArray, List.getElem?_cons_zero] at e0
  go_wp2_with fail
  obtain ⟨P, hPe⟩ : ∃ P, w1.heap.size = P := ⟨_, rfl⟩
  rw [hPe] at HP HPR ⊢
  clear hPe
  generalize w1.alloc (.cells #[.int .i64 Q.kind, .string (str Q.name), .slice ao m cap, .string (str Q.text), .int .i64 Q.at_] 117) = w2 at HD1 HO1 HR1 HB1 HK1 HP HW e0 ⊢
  have CE := Lib.hid (serr _ b _ _ w2 HD1.out.sc)
  have CA := Lib.hid (sat _ b _ _ w2 HD1.out.sc)
  refine CE.out.mono ?_
  rintro r w3 ⟨rfl, rfl⟩
  go_wp2_with fail
  refine CA.out.mono ?_
  rintro r w3 ⟨rfl, rfl⟩
  by_cases he : σ'.err = 0
  · have HE := Lib.hid he
    have CM := Lib.hid (must_ok σ'.err (atS σ') w2)
    have q : (σ'.err == 0) = true := by simp [he]
    clear he e0 CE CA
    go_wp2_with fail
    refine CM.out.mono ?_
    rintro r w3 ⟨rfl, hw⟩
    obtain rfl := hw.symm
    have r0 := Lib.cell_of_heap HR1.out 0
    have r1 := Lib.cell_of_heap HR1.out 1
    have r2 := Lib.cell_of_heap HR1.out 2
    have r3 := Lib.cell_of_heap HR1.out 3
    have r4 := Lib.cell_of_heap HR1.out 4
    have f0 := Lib.frozen_of_heap HR1.out 0
    have f1 := Lib.frozen_of_heap HR1.out 1
    have f2 := Lib.frozen_of_heap HR1.out 2
    have f3 := Lib.frozen_of_heap HR1.out 3
    have f4 := Lib.frozen_of_heap HR1.out 4
    simp only [List.getElem?_toArray, List.getElem?_cons_zero, List.getElem?_cons_succ] at r0 r1 r2 r3 r4
    have p0 := Lib.cell_of_heap HP.out 0
    have p1 := Lib.cell_of_heap HP.out 1
    have p2 := Lib.cell_of_heap HP.out 2
    have p3 := Lib.cell_of_heap HP.out 3
    have p4 := Lib.cell_of_heap HP.out 4
    simp only [List.getElem?_toArray, List.getElem?_cons_zero, List.getElem?_cons_succ] at p0 p1 p2 p3 p4
    go_wp2
    have hs5 := st5_onlyR w2 R (.int .i64 Q.kind) (.string (str Q.name)) (.slice ao m cap) (.string (str Q.text)) (.int .i64 Q.at_)
    have hBR : B ≤ R := by have := HRe.out; have := HBw.out; omega
    refine bodyPost_ret (res_piece _ rfl _ R rfl _ _ _ _ _ _ 117 (0, 0) (st5_heap HR1.out _ _ _ _ _)) rfl ?_
    refine ⟨fun _ => ⟨_, rfl, _, rfl, ?_, ?_⟩, fun h => absurd HE.out h, ?_, ?_, ?_⟩
    · exact HW.out.heap hs5.size (fun g o n c hv => by
        obtain ⟨_, cs, z, hg⟩ := HW.out.2 g o n c hv
        exact hs5.block g (Array.getElem?_eq_some_iff.1 hg).1 (by have := HF.out g o n c hv; have := HRl.out; omega))
    · intro g o n c hv
      have := HF.out g o n c hv
      have := HRe.out
      have := HRl.out
      omega
    · exact HD1.out.only hs5 HR1.out (by decide) hBR
    · exact HB1.out.trans (hs5.below hBR HD1.out.le)
    · exact HK1.out.new hs5 (by have := HRe.out; omega)
  · have HE := Lib.hid he
    have CM := must_bad σ'.err (atS σ') w2
    have CM := Lib.hid CM
    have q : (σ'.err == 0) = false := by simp [he]
    clear he e0 CE CA
    go_wp2_with fail
    refine CM.out.mono ?_
    rintro r w3 ⟨rfl, hw⟩
    obtain rfl := hw.symm
    refine ⟨rfl, fun h => absurd h HE.out, fun _ => ?_, HD1.out, HB1.out, HK1.out⟩
    rw [← atS_bad' HE.out]
    rfl
/-- **(*document).next.** -/
theorem dnext (B dd b q : Nat) (s : ByteArray) (σ : St) (d : Nat) (L : List Tell) (c : Nat) (w : World) (h : DS B dd b q s σ d L c w) :
    Calls Tryz.prog 67 #[.pointer (some ⟨dd, 0, none⟩)] w (NextGives B dd b q s σ d L c w) :=
  dnext0 B dd b q s σ _ _ d L c w h h.pu.next (Lib.hid fun w hS => snext B b s σ w hS)

end Go.Proofs.YtnlkpdodacphkaaGreatDoor

namespace Go.Proofs.YtnlkpdodacphkaaGreatDoor
open Go Go.RowKit
set_option maxRecDepth 100000

/-- What around leaves. -/
def ArGives (B dd b q : Nat) (s : ByteArray) (d : Nat) (L : List Tell) (c : Nat) (m : Mach) (R0 : Res Nd) (w : World) (r : Ending) (w' : World) : Prop :=
  ((∃ e a, r = dies e a ∧ R0 = .bad e a) ∨
    ∃ x σ' p, r = .returned x ∧ PieceAt b w.heap.size w' x p ∧ DS B dd b q s σ' d L c w' ∧ Took (bl s) σ' p ∧ ¬ blankP p ∧ R0 = takenAt (bl s) σ' p m) ∧
  Below B w w' ∧ Kept docT w w'
/-- What around's loop keeps. -/
structure ArR (B dd b q : Nat) (s : ByteArray) (d : Nat) (L : List Tell) (c : Nat) (m : Mach) (R0 : Res Nd) (w : World) (P R : Nat) (σr : St) (p : Pc) (v : Value) (wr : World) : Prop where
  ds : DS B dd b q s σr d L c wr
  below : Below B w wr
  kept : Kept docT w wr
  hP : wr.heap[P]? = some (.cells #[.int .i64 p.kind, .string (str p.name), v, .string (str p.text), .int .i64 p.at_] 117 (0, 0))
  hR : wr.heap[R]? = some (.cells #[.int .i64 0, .string ⟨#[]⟩, .slice none 0 0, .string ⟨#[]⟩, .int .i64 0] 117 (0, 0))
  row : RowsB b wr v p.attrs
  fresh : ∀ g o n c, v = .slice (some ⟨g, o, none⟩) n c → R ≤ g
  took : Took (bl s) σr p
  same : R0 = takenAt (bl s) σr p m
def ArRel (B dd b q : Nat) (s : ByteArray) (d : Nat) (L : List Tell) (c : Nat) (m : Mach) (R0 : Res Nd) (w : World) (P R g : Nat) (wr : World) : Prop := ∃ σr p v, ArR B dd b q s d L c m R0 w P R σr p v wr ∧ mea (bl s) σr p = g
theorem empty_blank (t : List UInt8) : (trimmed (str t)).toList.isEmpty = decide (trimL t = []) := by
  have h : (trimmed (str t)).toList = trimL t := by rw [Lib.toList_data]; have := trimmed_bl (str t); rw [str_bl] at this; exact this
  rw [h]
  cases trimL t with
  | nil => rfl
  | cons a l => rfl
/-- A row of attributes and a piece's block never are one. -/
theorem RowsB.apartOf {b : Nat} {w : World} {v : Value} {A : List (List UInt8 × List UInt8)} (h : RowsB b w v A) {k : Nat} {cs : Array Value} {t : TypeId} {z : Nat × Nat} (hk : w.heap[k]? = some (.cells cs t z)) (ht : t ≠ 56) :
    ∀ g o n c, v = .slice (some ⟨g, o, none⟩) n c → g ≠ k ∧ g < w.heap.size := fun g o n c hv => by
  obtain ⟨_, cs', z', hg⟩ := h.2 g o n c hv
  exact ⟨fun e => by rw [e, hk] at hg; cases hg; exact ht rfl, (Array.getElem?_eq_some_iff.1 hg).1⟩
theorem RowsB.onlyOf {b k : Nat} {w w' : World} {v : Value} {A : List (List UInt8 × List UInt8)} (h : RowsB b w v A) (ho : Only k w w') {cs : Array Value} {t : TypeId} {z : Nat × Nat} (hk : w.heap[k]? = some (.cells cs t z)) (ht : t ≠ 56) : RowsB b w' v A :=
  h.heap ho.size fun g o n c hv => ho.block g (h.apartOf hk ht g o n c hv).2 (h.apartOf hk ht g o n c hv).1
theorem RowsB.keptOf {b : Nat} {ts : List TypeId} {w w' : World} {v : Value} {A : List (List UInt8 × List UInt8)} (h : RowsB b w v A) (ho : Kept ts w w') (ht : 56 ∉ ts) : RowsB b w' v A :=
  h.heap ho.size fun g o n c hv => by
    obtain ⟨_, cs', z', hg⟩ := h.2 g o n c hv
    rw [hg]; exact ho.heap hg ht
set_option maxHeartbeats 8000000 in
theorem daround (B dd b q : Nat) (s : ByteArray) (σ : St) (d : Nat) (L : List Tell) (c : Nat) (m : Mach) (hm : Around m) (w : World) (h : DS B dd b q s σ d L c w) (R0 : Res Nd) (hR0 : R0 = runAt (bl s) σ m) :
    Calls Tryz.prog 44 #[.pointer (some ⟨dd, 0, none⟩)] w (ArGives B dd b q s d L c m R0 w) := by
  have HD := Lib.hid (h.step ((Below.refl _ _).alloc (Nat.le_refl _) (.cells #[.int .i64 0, .string ⟨#[]⟩, .slice none 0 0, .string ⟨#[]⟩, .int .i64 0] 117)))
  have HB := Lib.hid ((Below.refl B w).alloc h.le (.cells #[.int .i64 0, .string ⟨#[]⟩, .slice none 0 0, .string ⟨#[]⟩, .int .i64 0] 117))
  have HK := Lib.hid (Kept.alloc docT w (.cells #[.int .i64 0, .string ⟨#[]⟩, .slice none 0 0, .string ⟨#[]⟩, .int .i64 0] 117))
  have HR := Lib.hid (heap_alloc_new w (.cells #[.int .i64 0, .string ⟨#[]⟩, .slice none 0 0, .string ⟨#[]⟩, .int .i64 0] 117))
  have HBw := Lib.hid h.le
  have HM := Lib.hid hm
  have HR0 := Lib.hid hR0
  have HRl := Lib.hid (show w.heap.size < (w.alloc (.cells #[.int .i64 0, .string ⟨#[]⟩, .slice none 0 0, .string ⟨#[]⟩, .int .i64 0] 117)).heap.size by simp)
  clear h hm hR0
  go_enter Tryz.func44, Tryz.ntmps44
  go_wp2_with fail
  obtain ⟨R, hRe⟩ : ∃ R, w.heap.size = R := ⟨_, rfl⟩
  rw [hRe] at HR HRl HBw ⊢
  have HRe := Lib.hid hRe
  clear hRe
  generalize w.alloc (.cells #[.int .i64 0, .string ⟨#[]⟩, .slice none 0 0, .string ⟨#[]⟩, .int .i64 0] 117) = w0 at HD HB HK HR HRl ⊢
  have C := Lib.hid (dnext B dd b q s σ d L c w0 HD.out)
  refine C.out.mono ?_
  rintro r w1 ⟨hok, hbad, hD1, hB1, hK1⟩
  have HB1 := Lib.hid (HB.out.trans hB1)
  have HK1 := Lib.hid (HK.out.trans hK1)
  have HR1 := Lib.hid (hK1.heap HR.out (by decide))
  by_cases he : (nextS (bl s) σ).err = 0
  · obtain ⟨x, rfl, v, rfl, hrows, hfresh⟩ := hok he
    obtain ⟨ao, n, cap, rfl⟩ := rows_form hrows
    have hsame := HR0.out.trans (next_taken HD.out.pu.scn he m)
    have htook := next_took HD.out.pu.scn he
    generalize nextS (bl s) σ = σ1 at *
    generalize nextP (bl s) σ = Q at *
    obtain ⟨P, hPe⟩ : ∃ P, w1.heap.size = P := ⟨_, rfl⟩
    have HA := Lib.hid ((Below.refl w1.heap.size w1).alloc (Nat.le_refl _) (.cells #[.int .i64 Q.kind, .string (str Q.name), .slice ao n cap, .string (str Q.text), .int .i64 Q.at_] 117))
    have hPlt : w0.heap.size ≤ P := by rw [← hPe]; exact hK1.size
    have HRel := Lib.hid (show ArRel B dd b q s d L c m R0 w P R (mea (bl s) σ1 Q) (w1.alloc (.cells #[.int .i64 Q.kind, .string (str Q.name), .slice ao n cap, .string (str Q.text), .int .i64 Q.at_] 117)) from
      ⟨σ1, Q, _, ⟨hD1.step HA.out, HB1.out.trans (HA.out.mono hD1.le), HK1.out.trans (Kept.of docT HA.out), by rw [← hPe]; exact heap_alloc_new w1 _, (Kept.of docT HA.out).heap HR1.out (by decide),
        hrows.keptOf (Kept.of docT HA.out) (by decide), fun g o n c hv => by have := hfresh g o n c hv; have := HRl.out; omega, htook, hsame⟩, rfl⟩)
    have hRP : R < P := by have := HRl.out; omega
    have HRP := Lib.hid hRP
    clear hok hbad hD1 hB1 hK1 hrows hfresh hsame htook he C HD HB HK HR HB1 HK1 HR1 HA hPlt hRP HRl
    have HPe := Lib.hid hPe
    go_wp2_with fail
    clear hPe
    generalize w1.alloc (.cells #[.int .i64 Q.kind, .string (str Q.name), .slice ao n cap, .string (str Q.text), .int .i64 Q.at_] 117) = w2 at HRel ⊢
    go_loopg [] (mea (bl s) σ1 Q) (fun g wr => ArRel B dd b q s d L c m R0 w P R g wr)
    case atStart => exact HRel.out
    case round =>
      obtain ⟨σr, p, v, hr, hg⟩ := hrel
      obtain ⟨ao, n, cap, rfl⟩ := rows_form hr.row
      have HX := Lib.hid hr
      have p0 := Lib.cell_of_heap hr.hP 0
      have p1 := Lib.cell_of_heap hr.hP 1
      have p2 := Lib.cell_of_heap hr.hP 2
      have p3 := Lib.cell_of_heap hr.hP 3
      have p4 := Lib.cell_of_heap hr.hP 4
      simp only [List.getElem?_toArray, List.getElem?_cons_zero, List.getElem?_cons_succ] at p0 p1 p2 p3 p4
      have HG := Lib.hid hg
      clear hr hg
      by_cases hk4 : p.kind = 4
      · have q4 : (p.kind == 4) = true := by simp [hk4]
        have hlen : (str p.text).size ≤ 9223372036854775807 := by
          have h1 := HX.out.took.ok.text
          have h2 := HX.out.ds.sc.len
          rw [bl_size] at h1
          rw [str_size]; omega
        have CE := cempty (str p.text) wr hlen
        rw [empty_blank] at CE
        clear hlen
        by_cases ht : trimL p.text = []
        · have hbl : blankP p := ⟨hk4, ht⟩
          have CE : Calls Tryz.prog 68 #[.string (str p.text)] wr fun e w' => e = .returned (.bool true) ∧ Below wr.heap.size wr w' := CE.mono fun e w' ⟨h1, h2⟩ => ⟨by rw [h1, decide_eq_true ht], h2⟩
          have CE := Lib.hid CE
          have hsame := HX.out.same.trans (taken_blank HM.out hbl)
          have HSM := Lib.hid hsame
          have HKN := Lib.hid (show p.kind ≠ 0 by rw [hk4]; decide)
          clear hsame hbl ht hk4
          go_wp2_with fail
          refine CE.out.mono ?_
          rintro r w3 ⟨rfl, hb3⟩
          have HD3 := Lib.hid (HX.out.ds.step hb3)
          have HB3 := Lib.hid (HX.out.below.trans (hb3.mono HX.out.ds.le))
          have HK3 := Lib.hid (HX.out.kept.trans (Kept.of docT hb3))
          have HR3 := Lib.hid ((Kept.of docT hb3).heap HX.out.hR (by decide))
          have HP3 := Lib.hid ((Kept.of docT hb3).heap HX.out.hP (by decide))
          have HRl3 := Lib.hid (show R < w3.heap.size from (Array.getElem?_eq_some_iff.1 HR3.out).1)
          clear hb3 CE p0 p1 p2 p3 p4
          have C := Lib.hid (dnext B dd b q s σr d L c w3 HD3.out)
          go_wp2_with fail
          refine C.out.mono ?_
          rintro r w4 ⟨hok, hbad, hD4, hB4, hK4⟩
          by_cases he : (nextS (bl s) σr).err = 0
          · obtain ⟨x, rfl, v2, rfl, hrows, hfresh⟩ := hok he
            obtain ⟨ao2, n2, cap2, rfl⟩ := rows_form hrows
            have hsame2 := HSM.out.trans (next_taken HD3.out.pu.scn he m)
            have htook := next_took HD3.out.pu.scn he
            have hmea := next_mea HD3.out.pu.scn he
            have HMg := Lib.hid (show mea (bl s) (nextS (bl s) σr) (nextP (bl s) σr) < gk by
              rw [← HG.out]; unfold mea at hmea ⊢; rw [if_neg HKN.out]; omega)
            clear hmea
            generalize nextS (bl s) σr = σ4 at *
            generalize nextP (bl s) σr = Q4 at *
            have HP4 := Lib.hid (hK4.heap HP3.out (by decide))
            have hs5 := st5_onlyR w4 P (.int .i64 Q4.kind) (.string (str Q4.name)) (.slice ao2 n2 cap2) (.string (str Q4.text)) (.int .i64 Q4.at_)
            have HREL := Lib.hid (show ArRel B dd b q s d L c m R0 w P R (mea (bl s) σ4 Q4) (st5 w4 P (.int .i64 Q4.kind) (.string (str Q4.name)) (.slice ao2 n2 cap2) (.string (str Q4.text)) (.int .i64 Q4.at_)) from
              ⟨σ4, Q4, _, ⟨hD4.only hs5 HP4.out (by decide) (by have := HRP.out; have := HBw.out; omega), (HB3.out.trans hB4).trans (hs5.below (by have := HRP.out; have := HBw.out; omega) hD4.le), (HK3.out.trans hK4).new hs5 (by have := HRP.out; have := HRe.out; omega),
                st5_heap HP4.out _ _ _ _ _, (hs5.heap (hK4.heap HR3.out (by decide)) (by have := HRP.out; omega)), hrows.onlyOf hs5 HP4.out (by decide), fun g o n c hv => by have := hfresh g o n c hv; have := HRl3.out; omega, htook, hsame2⟩, rfl⟩)
            have r0 := Lib.cell_of_heap HP4.out 0
            have r1 := Lib.cell_of_heap HP4.out 1
            have r2 := Lib.cell_of_heap HP4.out 2
            have r3 := Lib.cell_of_heap HP4.out 3
            have r4 := Lib.cell_of_heap HP4.out 4
            have f0 := Lib.frozen_of_heap HP4.out 0
            have f1 := Lib.frozen_of_heap HP4.out 1
            have f2 := Lib.frozen_of_heap HP4.out 2
            have f3 := Lib.frozen_of_heap HP4.out 3
            have f4 := Lib.frozen_of_heap HP4.out 4
            simp only [List.getElem?_toArray, List.getElem?_cons_zero, List.getElem?_cons_succ] at r0 r1 r2 r3 r4
            clear hok hbad hD4 hB4 hK4 hrows hfresh hsame2 htook hs5 he C
            go_wp2
            go_roundg (mea (bl s) σ4 Q4)
            case measure => exact HMg.out
            case rel => exact HREL.out
          · have hr := hbad he
            subst hr
            have HE := Lib.hid (show R0 = .bad (nextS (bl s) σr).err (nextS (bl s) σr).wrg from HSM.out.trans (runAt_bad he m))
            exact ⟨rfl, .inl ⟨_, _, rfl, HE.out⟩, HB3.out.trans hB4, HK3.out.trans hK4⟩
        · have hnb : ¬ blankP p := fun h => ht h.2
          have CE : Calls Tryz.prog 68 #[.string (str p.text)] wr fun e w' => e = .returned (.bool false) ∧ Below wr.heap.size wr w' := CE.mono fun e w' ⟨h1, h2⟩ => ⟨by rw [h1, decide_eq_false ht], h2⟩
          have CE := Lib.hid CE
          clear ht hk4
          go_wp2_with fail
          refine CE.out.mono ?_
          rintro r w3 ⟨rfl, hb3⟩
          have HD2 := Lib.hid (HX.out.ds.step hb3)
          have HB2 := Lib.hid (HX.out.below.trans (hb3.mono HX.out.ds.le))
          have HK2 := Lib.hid (HX.out.kept.trans (Kept.of docT hb3))
          have HR2 := Lib.hid ((Kept.of docT hb3).heap HX.out.hR (by decide))
          have HP2 := Lib.hid ((Kept.of docT hb3).heap HX.out.hP (by decide))
          have HW2 := Lib.hid (HX.out.row.keptOf (Kept.of docT hb3) (by decide))
          clear hb3 CE p0 p1 p2 p3 p4
          have p0 := Lib.cell_of_heap HP2.out 0
          have p1 := Lib.cell_of_heap HP2.out 1
          have p2 := Lib.cell_of_heap HP2.out 2
          have p3 := Lib.cell_of_heap HP2.out 3
          have p4 := Lib.cell_of_heap HP2.out 4
          simp only [List.getElem?_toArray, List.getElem?_cons_zero, List.getElem?_cons_succ] at p0 p1 p2 p3 p4
          have r0 := Lib.cell_of_heap HR2.out 0
          have r1 := Lib.cell_of_heap HR2.out 1
          have r2 := Lib.cell_of_heap HR2.out 2
          have r3 := Lib.cell_of_heap HR2.out 3
          have r4 := Lib.cell_of_heap HR2.out 4
          have f0 := Lib.frozen_of_heap HR2.out 0
          have f1 := Lib.frozen_of_heap HR2.out 1
          have f2 := Lib.frozen_of_heap HR2.out 2
          have f3 := Lib.frozen_of_heap HR2.out 3
          have f4 := Lib.frozen_of_heap HR2.out 4
          simp only [List.getElem?_toArray, List.getElem?_cons_zero, List.getElem?_cons_succ] at r0 r1 r2 r3 r4
          go_wp2
          have hs5 := st5_onlyR w3 R (.int .i64 p.kind) (.string (str p.name)) (.slice ao n cap) (.string (str p.text)) (.int .i64 p.at_)
          refine bodyPost_ret (res_piece _ rfl _ R rfl _ _ _ _ _ _ 117 (0, 0) (st5_heap HR2.out _ _ _ _ _)) rfl ⟨.inr ⟨_, σr, p, rfl, ⟨_, rfl, ?_, ?_⟩, ?_, HX.out.took, hnb, HX.out.same⟩, ?_, ?_⟩
          · exact HW2.out.onlyOf hs5 HR2.out (by decide)
          · intro g o n' c' hv
            have := HX.out.fresh g o n' c' hv
            have := HRe.out
            omega
          · exact HD2.out.only hs5 HR2.out (by decide) HBw.out
          · exact HB2.out.trans (hs5.below HBw.out HD2.out.le)
          · exact HK2.out.new hs5 (by have := HRe.out; omega)
      · have q4 : (p.kind == 4) = false := by simp [hk4]
        have hnb : ¬ blankP p := fun h => hk4 h.1
        have HD2 := Lib.hid HX.out.ds
        have HB2 := Lib.hid HX.out.below
        have HK2 := Lib.hid HX.out.kept
        have HR2 := Lib.hid HX.out.hR
        have HW2 := Lib.hid HX.out.row
        clear hk4
        have r0 := Lib.cell_of_heap HR2.out 0
        have r1 := Lib.cell_of_heap HR2.out 1
        have r2 := Lib.cell_of_heap HR2.out 2
        have r3 := Lib.cell_of_heap HR2.out 3
        have r4 := Lib.cell_of_heap HR2.out 4
        have f0 := Lib.frozen_of_heap HR2.out 0
        have f1 := Lib.frozen_of_heap HR2.out 1
        have f2 := Lib.frozen_of_heap HR2.out 2
        have f3 := Lib.frozen_of_heap HR2.out 3
        have f4 := Lib.frozen_of_heap HR2.out 4
        simp only [List.getElem?_toArray, List.getElem?_cons_zero, List.getElem?_cons_succ] at r0 r1 r2 r3 r4
        go_wp2
        have hs5 := st5_onlyR wr R (.int .i64 p.kind) (.string (str p.name)) (.slice ao n cap) (.string (str p.text)) (.int .i64 p.at_)
        refine bodyPost_ret (res_piece _ rfl _ R rfl _ _ _ _ _ _ 117 (0, 0) (st5_heap HR2.out _ _ _ _ _)) rfl ⟨.inr ⟨_, σr, p, rfl, ⟨_, rfl, ?_, ?_⟩, ?_, HX.out.took, hnb, HX.out.same⟩, ?_, ?_⟩
        · exact HW2.out.onlyOf hs5 HR2.out (by decide)
        · intro g o n' c' hv
          have := HX.out.fresh g o n' c' hv
          have := HRe.out
          omega
        · exact HD2.out.only hs5 HR2.out (by decide) HBw.out
        · exact HB2.out.trans (hs5.below HBw.out HD2.out.le)
        · exact HK2.out.new hs5 (by have := HRe.out; omega)
  · have hr := hbad he
    subst hr
    have HE := Lib.hid (show R0 = .bad (nextS (bl s) σ).err (nextS (bl s) σ).wrg from HR0.out.trans (runAt_bad he m))
    exact ⟨rfl, .inl ⟨_, _, rfl, HE.out⟩, HB1.out, HK1.out⟩

end Go.Proofs.YtnlkpdodacphkaaGreatDoor
