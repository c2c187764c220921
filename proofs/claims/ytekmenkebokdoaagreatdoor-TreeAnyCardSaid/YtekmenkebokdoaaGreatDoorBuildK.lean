/-
  strings.Builder's WriteString and String, with a frame by types: what is no Builder, and no row of bytes, lies as it lay.
-/
import Derived.Test.YtekmenkebokdoaaGreatDoorBuild
import Derived.Test.YtekmenkebokdoaaGreatDoorTreeRep
namespace Go.Proofs.YtekmenkebokdoaaGreatDoor
open Go Go.RowKit

/-- The types of what a Builder is made of. -/
def bldT : List TypeId := [5, 92]
theorem Kept.grown {ts : List TypeId} {w w' : World} {row : Option Nat} (hg : w.grownBy w' row) (hr : ∀ k, row = some k → ∃ c t z, w.heap[k]? = some (.cells c t z) ∧ t ∈ ts) : Kept ts w w' :=
  ⟨hg.size, fun j hj hn => hg.block j hj (fun e => by obtain ⟨c, t, z, h, ht⟩ := hr j e.symm; exact hn c t z h ht)⟩
theorem Kept.others {b : Nat} {w w' : World} (h : Lib.OthersKept 5 (some b) w w') (hs : w.heap.size ≤ w'.heap.size) {cs : Array Value} {z : Nat × Nat} (hb : w.heap[b]? = some (.cells cs 92 z)) : Kept bldT w w' :=
  ⟨hs, fun j hj hn => by
    have e : w.heap[j]? = some w.heap[j] := Array.getElem?_eq_getElem hj
    rw [e]
    refine h j _ e (fun hjb => ?_) (fun c fz ho => ?_)
    · obtain rfl := Option.some.inj hjb
      exact hn _ _ _ hb (by decide)
    · exact hn c 5 fz (by rw [e, ho]) (by decide)⟩
theorem bcheck_k (B b : Nat) (bs : List Value) (w : World) (h : Bld B b bs w) :
    Calls Tryz.prog 69 #[.pointer (some ⟨b, 0, none⟩)] w fun e w' => e = .returned (.tuple #[]) ∧ (Lib.BuilderAtF 92 5 B b (.pointer (some ⟨b, 0, none⟩)) bs w' ∧ Below B w w' ∧ Kept bldT w w') := by
  rcases h with h | h
  · refine (bcheck_fresh b w h.cell0 h.shape h.frozen0).mono ?_
    rintro e w' ⟨rfl, rfl⟩
    obtain ⟨hB, v, hbk, _⟩ := id h
    exact ⟨rfl, h.used _, (Below.refl B w).setCell (p := ⟨b, 0, none⟩) h.1 _, Kept.set hbk (by decide) _ _⟩
  · refine (bcheck_used b w h.cell0).mono ?_
    rintro e w' ⟨rfl, rfl⟩
    exact ⟨rfl, h, Below.refl B _, Kept.refl _ _⟩
set_option maxHeartbeats 2000000 in
set_option maxRecDepth 100000 in
/-- (*strings.Builder).WriteString. -/
theorem bstring_k (B b : Nat) (bs : List Value) (s : ByteArray) (w : World) (h : Bld B b bs w) (hlen : bs.length + s.size ≤ 140737488355328) (hBw : B ≤ w.heap.size) :
    Calls Tryz.prog 55 #[.pointer (some ⟨b, 0, none⟩), .string s] w fun e w' => e = .returned (.tuple #[.int .i64 s.size, .nilIface]) ∧ Bld B b (bs ++ Lib.strCells s) w' ∧ Below B w w' ∧ Kept bldT w w' := by
  obtain ⟨i0, hi, hz0, hz1, hz2⟩ := info_parts byte_info
  go_enter Tryz.func55, Tryz.ntmps55
  go_wp2_with (go_at_call 69; refine (bcheck_k B b bs _ h).mono ?_)
  rintro e w1 ⟨rfl, h1, hb1, hk1⟩
  obtain ⟨hB, v, hbk, hown, hne⟩ := h1
  have c0 : w1.cell? ⟨b, 0, none⟩ = some (.pointer (some ⟨b, 0, none⟩)) := by rw [Lib.cell_of_heap hbk]; rfl
  have c1 : w1.cell? ⟨b, 1, none⟩ = some v := by rw [Lib.cell_of_heap hbk]; rfl
  go_wp2_with (at_builtin; refine Lib.wpList_append_own_stringF _ rfl _ _ 28 9 rfl B 5 i0 Tryz.underlying28 Tryz.underlying9 hi hz0 hz1 hz2 _ _ _ rfl hown s rfl ?c3 ?c4 ?c5 ?_)
  case c3 => unfold maxLen; omega
  case c4 => omega
  case c5 => have := hb1.size; omega
  intro v' w2 hown' hgrow _
  have hlt := bld_lt hbk
  have hb2 : w2.heap[b]? = some (.cells #[.pointer (some ⟨b, 0, none⟩), v] 92 (0, 0)) := by
    rw [hgrow.block b hlt (fun e => hne e.symm)]
    exact hbk
  have hk2 : Kept bldT w1 w2 := Kept.grown hgrow fun k hk => by
    rcases hown.2 with ⟨hv, _⟩ | ⟨g, cap, cur, fz, hv, _, hg, _⟩
    · rw [hv] at hk; cases hk
    · rw [hv] at hk; cases hk; exact ⟨_, _, _, hg, by decide⟩
  have d0 : w2.cell? ⟨b, 0, none⟩ = some (.pointer (some ⟨b, 0, none⟩)) := by rw [Lib.cell_of_heap hb2]; rfl
  have d1 : w2.cell? ⟨b, 1, none⟩ = some v := by rw [Lib.cell_of_heap hb2]; rfl
  have f1 : w2.frozen? ⟨b, 1, none⟩ = false := Lib.frozen_of_heap hb2 1
  obtain ⟨ao, n', cap, rfl⟩ : ∃ ao n' cap, v' = .slice ao n' cap := by
    rcases hown'.2 with ⟨hv, _⟩ | ⟨g, cap, cur, fz, hv, _⟩
    · exact ⟨_, _, _, hv⟩
    · exact ⟨_, _, _, hv⟩
  go_wp2
  go_ret2
  refine ⟨rfl, .inr ?_, ?_, (hk1.trans hk2).trans (Kept.set hb2 (by decide) _ _)⟩
  · exact Lib.BuilderAtF.put (T := 92) (e := 5) hB hb2 (bs' := bs ++ Lib.strCells s) (by simpa [Lib.strCells_length] using hown') (by decide)
  · exact (hb1.grown hgrow (by have := hb1.size; omega) (fun k hk => (hown.lt k hk).1)).setCell (p := ⟨b, 1, none⟩) hB _
theorem Bl.heap {B b : Nat} {l : List UInt8} {w : World} (h : Bl B b l w) : ∃ p v, w.heap[b]? = some (.cells #[p, v] 92 (0, 0)) ∧ B ≤ b := by
  rcases h with h | h
  · obtain ⟨hB, v, hbk, _⟩ := h; exact ⟨_, _, hbk, hB⟩
  · obtain ⟨hB, v, hbk, _⟩ := h; exact ⟨_, _, hbk, hB⟩
theorem kstring (B b : Nat) (l : List UInt8) (s : ByteArray) (w : World) (h : Bl B b l w) (hlen : l.length + s.size ≤ 140737488355328) :
    Calls Tryz.prog 55 #[.pointer (some ⟨b, 0, none⟩), .string s] w fun e w' => e = .returned (.tuple #[.int .i64 s.size, .nilIface]) ∧ Bl B b (l ++ s.data.toList) w' ∧ Below B w w' ∧ Kept bldT w w' := by
  refine (bstring_k B b _ s w h (by rw [cells_len]; exact hlen) h.lt).mono fun e w' ⟨h1, h2, h3⟩ => ⟨h1, ?_, h3⟩
  unfold Bl; rw [cells_str]; exact h2
theorem kout (B b : Nat) (l : List UInt8) (w : World) (h : Bl B b l w) :
    Calls Tryz.prog 56 #[.pointer (some ⟨b, 0, none⟩)] w fun e w' => e = .returned (.string ⟨l.toArray⟩) ∧ Below B w w' ∧ Kept bldT w w' := by
  obtain ⟨p, v, hb, _⟩ := h.heap
  exact (Tryz.Builder_String_any_k B b l w h h.lt).mono fun _ _ ⟨h1, _, h3, h4⟩ => ⟨h1, h3, Kept.others h4 h3.size hb⟩
/-- A Builder stays what it is where no Builder and no row of bytes is touched. -/
theorem Bl.kept {B b : Nat} {l : List UInt8} {ts : List TypeId} {w w' : World} (h : Bl B b l w) (hk : Kept ts w w') (h1 : 5 ∉ ts) (h2 : 92 ∉ ts) : Bl B b l w' := by
  have key : ∀ p, Lib.BuilderAtF 92 5 B b p (Lib.byteCells l) w → Lib.BuilderAtF 92 5 B b p (Lib.byteCells l) w' := by
    rintro p ⟨hB, v, hbk, hown, hne⟩
    refine ⟨hB, v, hk.heap hbk h2, ⟨hown.1, ?_⟩, hne⟩
    rcases hown.2 with hn | ⟨g, cap, cur, fz, hv, hbg, hg, rest⟩
    · exact .inl hn
    · exact .inr ⟨g, cap, cur, fz, hv, hbg, hk.heap hg h1, rest⟩
  rcases h with h | h
  · exact .inl (key _ h)
  · exact .inr (key _ h)

end Go.Proofs.YtekmenkebokdoaaGreatDoor
