/-
  Layer 5 (space): what a block of Spaces holds, what its methods answer, as plain mathematics; frames by the blocks' types.
-/
import Derived.Test.YtekmenkebokdoaaGreatDoorProg
import Derived.Test.YtekmenkebokdoaaGreatDoorBaseMath
import Derived.WalkKit
import Derived.WalkSpells
import Derived.WalkLawsBesides
import Derived.Lib.Hide
import Derived.Lib.Strings
import Derived.Laws.OwnMore
import Derived.Deep.AppendLies
namespace Go.Proofs.YtekmenkebokdoaaGreatDoor
open Go Go.RowKit
set_option maxRecDepth 100000

/-! ### Plain mathematics -/
/-- A telling: a prefix, what it stands for, how deep the element is. -/
structure Tell where
  p : ByteArray
  s : ByteArray
  d : Nat
def cellsT (L : List Tell) : List Value := L.flatMap fun t => [.string t.p, .string t.s, .int .i64 t.d]
theorem cellsT_len : ∀ L : List Tell, (cellsT L).length = L.length * 3
  | [] => rfl
  | t :: L => by
    have ih := cellsT_len L
    have e : cellsT (t :: L) = [.string t.p, .string t.s, .int .i64 t.d] ++ cellsT L := rfl
    rw [e, List.length_append, ih]
    show 3 + _ = (L.length + 1) * 3
    omega
theorem cellsT_app (L M : List Tell) : cellsT (L ++ M) = cellsT L ++ cellsT M := by unfold cellsT; simp
theorem cellsT_get : ∀ (L : List Tell) (j : Nat) (h : j < L.length) (q : Nat), q < 3 → (cellsT L)[j * 3 + q]? = ([.string (L[j]'h).p, .string (L[j]'h).s, .int .i64 (L[j]'h).d] : List Value)[q]?
  | [], j, h, _, _ => absurd h (Nat.not_lt_zero j)
  | t :: L, 0, h, q, hq => by
    have e : cellsT (t :: L) = [.string t.p, .string t.s, .int .i64 t.d] ++ cellsT L := rfl
    rw [e, List.getElem?_append_left (by show _ < 3; omega)]
    simp
  | t :: L, j + 1, h, q, hq => by
    have ih := cellsT_get L j (by simpa using h) q hq
    have e : cellsT (t :: L) = [.string t.p, .string t.s, .int .i64 t.d] ++ cellsT L := rfl
    rw [e, List.getElem?_append_right (by show 3 ≤ _; omega), show (j + 1) * 3 + q - ([.string t.p, .string t.s, .int .i64 t.d] : List Value).length = j * 3 + q by show (j + 1) * 3 + q - 3 = _; omega, ih]
    rfl

def bXml : ByteArray := ⟨#[120, 109, 108]⟩
def bXmlns : ByteArray := ⟨#[120, 109, 108, 110, 115]⟩
def bXmlnsC : ByteArray := ⟨#[120, 109, 108, 110, 115, 58]⟩
def bNone : ByteArray := ⟨#[]⟩
def bXmlSpace : ByteArray := ⟨#[104, 116, 116, 112, 58, 47, 47, 119, 119, 119, 46, 119, 51, 46, 111, 114, 103, 47, 88, 77, 76, 47, 49, 57, 57, 56, 47, 110, 97, 109, 101, 115, 112, 97, 99, 101]⟩
/-- What is known at first. -/
def tells0 : List Tell := [⟨bXml, bXmlSpace, 0⟩, ⟨bNone, bNone, 0⟩]
/-- What a prefix stands for. -/
def ofT (L : List Tell) (p : ByteArray) : Option ByteArray := (L.reverse.find? fun t => decide (t.p = p)).map Tell.s
theorem tl_inj {a b : ByteArray} (h : a.toList = b.toList) : a = b := by
  rw [Lib.toList_data, Lib.toList_data] at h
  obtain ⟨⟨x⟩⟩ := a
  obtain ⟨⟨y⟩⟩ := b
  exact congrArg (fun l => ByteArray.mk (Array.mk l)) h
theorem tl_beq (a b : ByteArray) : (a.toList == b.toList) = decide (a = b) := by
  by_cases h : a = b
  · subst h; simp
  · rw [decide_eq_false h]
    exact beq_eq_false_iff_ne.2 fun e => h (tl_inj e)
/-- What know answers. -/
def knowE (L : List Tell) (p s : ByteArray) : Int := if p = bXml ∨ p = bXmlns ∨ (p ≠ bNone ∧ s = bNone) then 3 else if 100 ≤ L.length then 5 else 0
/-- What toldOf answers. -/
def tellS (n : ByteArray) : ByteArray × Bool := if n = bXmlns then (bNone, true) else (⟨(Lib.trimPrefix n.data.toList bXmlnsC.data.toList).toArray⟩, Lib.hasPrefix n.data.toList bXmlnsC.data.toList)

/-- Attributes' cells. -/
abbrev Att := ByteArray × ByteArray
def cellsA (A : List Att) : List Value := A.flatMap fun a => [.string a.1, .string a.2]
theorem cellsA_len : ∀ A : List Att, (cellsA A).length = A.length * 2
  | [] => rfl
  | t :: L => by
    have ih := cellsA_len L
    have e : cellsA (t :: L) = [.string t.1, .string t.2] ++ cellsA L := rfl
    rw [e, List.length_append, ih]
    show 2 + _ = (L.length + 1) * 2
    omega
theorem cellsA_app (L M : List Att) : cellsA (L ++ M) = cellsA L ++ cellsA M := by unfold cellsA; simp
theorem cellsA_get : ∀ (L : List Att) (j : Nat) (h : j < L.length) (q : Nat), q < 2 → (cellsA L)[j * 2 + q]? = ([.string (L[j]'h).1, .string (L[j]'h).2] : List Value)[q]?
  | [], j, h, _, _ => absurd h (Nat.not_lt_zero j)
  | t :: L, 0, h, q, hq => by
    have e : cellsA (t :: L) = [.string t.1, .string t.2] ++ cellsA L := rfl
    rw [e, List.getElem?_append_left (by show _ < 2; omega)]
    simp
  | t :: L, j + 1, h, q, hq => by
    have ih := cellsA_get L j (by simpa using h) q hq
    have e : cellsA (t :: L) = [.string t.1, .string t.2] ++ cellsA L := rfl
    rw [e, List.getElem?_append_right (by show 2 ≤ _; omega), show (j + 1) * 2 + q - ([.string t.1, .string t.2] : List Value).length = j * 2 + q by show (j + 1) * 2 + q - 2 = _; omega, ih]
    rfl
/-- Enter's loop: those that are left; the error; what is known. -/
def enterL (d : Nat) : List Att → List Att → List Tell → List Att × Int × List Tell
  | [], R, L => (R, 0, L)
  | a :: A, R, L =>
    if (tellS a.1).2 = false then enterL d A (R ++ [a]) L
    else if knowE L (tellS a.1).1 a.2 = 0 then enterL d A R (L ++ [⟨(tellS a.1).1, a.2, d⟩])
    else ([], knowE L (tellS a.1).1 a.2, L)

/-! ### Frames -/
/-- An object that a Spaces is made of. -/
def IsT (o : Option Obj) : Prop := ∃ c t z, o = some (.cells c t z) ∧ (t = 68 ∨ t = 71)
/-- What no Spaces is made of lies as it lay. -/
structure Apart (w w' : World) : Prop where
  size : w.heap.size ≤ w'.heap.size
  block : ∀ j, j < w.heap.size → ¬ IsT w.heap[j]? → w'.heap[j]? = w.heap[j]?
theorem Apart.refl (w : World) : Apart w w := ⟨Nat.le_refl _, fun _ _ _ => rfl⟩
theorem Apart.trans {a b c : World} (h : Apart a b) (k : Apart b c) : Apart a c :=
  ⟨Nat.le_trans h.size k.size, fun j hj hn => by
    have e := h.block j hj hn
    exact (k.block j (Nat.lt_of_lt_of_le hj h.size) (by rw [e]; exact hn)).trans e⟩
theorem Apart.of {w w' : World} (h : Below w.heap.size w w') : Apart w w' := ⟨h.size, fun j hj _ => h.block j hj⟩
theorem heap_put {w : World} {b o : Nat} {cs : Array Value} {t : TypeId} {z : Nat × Nat} (v : Value) (h : w.heap[b]? = some (.cells cs t z)) : (w.setCell ⟨b, o, none⟩ v).heap[b]? = some (.cells (cs.setIfInBounds o v) t z) := by
  simp only [World.setCell, Array.getElem?_modify, if_true, h, Option.map_some]
  rfl
theorem Apart.set {w : World} {b : Nat} {cs : Array Value} {t : TypeId} {z : Nat × Nat} (h : w.heap[b]? = some (.cells cs t z)) (ht : t = 68 ∨ t = 71) (o : Nat) (v : Value) : Apart w (w.setCell ⟨b, o, none⟩ v) :=
  ⟨by simp [World.setCell], fun j _ hn => Below.heap_setCell _ _ _ _ (fun e => hn ⟨cs, t, z, by rw [show j = b from e, h], ht⟩)⟩
theorem Apart.grown {w w' : World} {row : Option Nat} (hg : w.grownBy w' row) (hr : ∀ k, row = some k → IsT w.heap[k]?) : Apart w w' :=
  ⟨hg.size, fun j hj hn => hg.block j hj (fun e => hn (hr j e.symm))⟩
theorem Apart.cell {w w' : World} (h : Apart w w') {p : Addr} (hp : p.block < w.heap.size) (hn : ¬ IsT w.heap[p.block]?) : w'.cell? p = w.cell? p := World.cell?_of_block (w := w) (h.block p.block hp hn)
theorem not_IsT {w : World} {b : Nat} {cs : Array Value} {t : TypeId} {z : Nat × Nat} (h : w.heap[b]? = some (.cells cs t z)) (h1 : t ≠ 68) (h2 : t ≠ 71) : ¬ IsT w.heap[b]? := by
  rintro ⟨c, t', z', e, ht⟩
  rw [h] at e
  cases e
  rcases ht with h | h
  · exact h1 h
  · exact h2 h
theorem Apart.heap {w w' : World} (h : Apart w w') {b : Nat} {cs : Array Value} {t : TypeId} {z : Nat × Nat} (hb : w.heap[b]? = some (.cells cs t z)) (h1 : t ≠ 68) (h2 : t ≠ 71) : w'.heap[b]? = some (.cells cs t z) :=
  (h.block b (Array.getElem?_eq_some_iff.1 hb).1 (not_IsT hb h1 h2)).trans hb
theorem Apart.owns {w w' : World} (h : Apart w w') {base : Nat} {e : TypeId} {z n : Nat} {v : Value} {xs : List Value} (ho : w.ownsRow base e z v n xs) (h1 : e ≠ 68) (h2 : e ≠ 71) : w'.ownsRow base e z v n xs := by
  refine ⟨ho.1, ?_⟩
  rcases ho.2 with hn | ⟨g, cap, cur, hv, hb, hg, r⟩
  · exact .inl hn
  · exact .inr ⟨g, cap, cur, hv, hb, h.heap hg h1 h2, r⟩

theorem below_drew_n (B : Nat) (w : World) : ∀ n, Below B w (w.drewN n)
  | 0 => Below.refl B w
  | n + 1 => (below_drew_n B w n).trans ((Below.refl B _).drew)

/-! ### The rows -/
theorem own_kept {w w' : World} {base : Nat} {e : TypeId} {z n : Nat} {v : Value} {xs : List Value} (h : w.ownsRow base e z v n xs) (hb : Below w.heap.size w w') : w'.ownsRow base e z v n xs :=
  h.kept (⟨hb.os, hb.tape, hb.output, hb.size, fun k hk _ => hb.block k hk⟩ : w.grownBy w' none) (by
    cases hv : v.ownBlock with
    | none => exact .inl rfl
    | some g => exact .inr (fun e => by cases e))
/-- The first ones of a row. -/
theorem own_take {w : World} {base g n cap : Nat} {e : TypeId} {z : Nat} {xs : List Value} (h : w.ownsRow base e z (.slice (some ⟨g, 0, none⟩) n cap) n xs) (m : Nat) (hm : m ≤ n) : w.ownsRow base e z (.slice (some ⟨g, 0, none⟩) m cap) m (xs.take (m * z)) := by
  have hmz : m * z ≤ n * z := Nat.mul_le_mul_right z hm
  refine ⟨by rw [List.length_take, h.1]; omega, .inr ?_⟩
  rcases h.2 with ⟨h', _⟩ | ⟨g', cap', cur, h', hb, hg, hnc, hcm, hcs, ht⟩
  · simp at h'
  · simp only [Value.slice.injEq, Option.some.injEq, Addr.mk.injEq, and_true, true_and] at h'
    obtain ⟨rfl, rfl⟩ := h'
    exact ⟨g, cap, cur, rfl, hb, hg, Nat.le_trans hm hnc, hcm, hcs, by rw [← ht, List.take_take, Nat.min_eq_left hmz]⟩

/-! ### Spaces -/
/-- Block b is a Spaces within d elements that knows L. -/
structure Sp (B b d : Nat) (L : List Tell) (w : World) : Prop where
  base : B ≤ b
  own : ∃ k cap, w.heap[b]? = some (.cells #[.int .i64 d, .slice (some ⟨k, 0, none⟩) L.length cap] 71 (0, 0)) ∧
    w.ownsRow B 68 3 (.slice (some ⟨k, 0, none⟩) L.length cap) L.length (cellsT L)
theorem Sp.lt {B b d : Nat} {L : List Tell} {w : World} (h : Sp B b d L w) : b < w.heap.size := by
  obtain ⟨_, k, cap, h, _⟩ := h
  exact (Array.getElem?_eq_some_iff.1 h).1
theorem Sp.mono {B B' b d : Nat} {L : List Tell} {w : World} (h : Sp B b d L w) (hB : B' ≤ B) : Sp B' b d L w := by
  obtain ⟨h0, k, cap, h, ho⟩ := h
  refine ⟨Nat.le_trans hB h0, k, cap, h, ho.1, ?_⟩
  rcases ho.2 with hn | ⟨g, cap, cur, hv, hb, r⟩
  · exact .inl hn
  · exact .inr ⟨g, cap, cur, hv, Nat.le_trans hB hb, r⟩
theorem Sp.step {B b d : Nat} {L : List Tell} {w w' : World} (h : Sp B b d L w) (hb : Below w.heap.size w w') : Sp B b d L w' := by
  have hl := h.lt
  obtain ⟨h0, k, cap, h, ho⟩ := h
  exact ⟨h0, k, cap, by rw [hb.block _ hl]; exact h, own_kept ho hb⟩
theorem own_block_ne {w : World} {base b k n cap : Nat} {e t : TypeId} {z : Nat} {xs : List Value} {cs : Array Value} {fr : Nat × Nat} (h : w.ownsRow base e z (.slice (some ⟨k, 0, none⟩) n cap) n xs) (hb : w.heap[b]? = some (.cells cs t fr)) (hne : t ≠ e) : b ≠ k := by
  rintro rfl
  rcases h.2 with ⟨h', _⟩ | ⟨g', cap', cur, h', _, hg, _⟩
  · simp at h'
  · simp only [Value.slice.injEq, Option.some.injEq, Addr.mk.injEq, and_true, true_and] at h'
    obtain ⟨rfl, rfl⟩ := h'
    rw [hb] at hg
    cases hg
    exact hne rfl
/-- What is known is put into its place. -/
theorem Sp.put {B b d k n cap : Nat} {L : List Tell} {w : World} {v : Value} (hn : L.length = n) (hbase : B ≤ b) (hb : w.heap[b]? = some (.cells #[.int .i64 d, v] 71 (0, 0)))
    (ho : w.ownsRow B 68 3 (.slice (some ⟨k, 0, none⟩) n cap) n (cellsT L)) :
    Sp B b d L (w.setCell ⟨b, 1, none⟩ (.slice (some ⟨k, 0, none⟩) n cap)) ∧ Below B w (w.setCell ⟨b, 1, none⟩ (.slice (some ⟨k, 0, none⟩) n cap)) ∧ Apart w (w.setCell ⟨b, 1, none⟩ (.slice (some ⟨k, 0, none⟩) n cap)) := by
  subst hn
  have hbk : b ≠ k := own_block_ne ho hb (by decide)
  exact ⟨⟨hbase, k, cap, heap_put _ hb, ownsRow_setCell_other ho (a := ⟨b, 1, none⟩) (by intro e; exact hbk (by cases e; rfl)) _⟩, (Below.refl B w).setCell (p := ⟨b, 1, none⟩) hbase _, Apart.set hb (.inr rfl) _ _⟩
/-- A row's cells, telling by telling. -/
theorem row_cells {w : World} {base k cap : Nat} {L : List Tell} (h : w.ownsRow base 68 3 (.slice (some ⟨k, 0, none⟩) L.length cap) L.length (cellsT L)) (j : Nat) (hj : j < L.length) :
    w.cell? ⟨k, j * 3, none⟩ = some (.string (L[j]'hj).p) ∧ w.cell? ⟨k, j * 3 + 1, none⟩ = some (.string (L[j]'hj).s) ∧ w.cell? ⟨k, j * 3 + 2, none⟩ = some (.int .i64 (L[j]'hj).d) := by
  refine ⟨?_, ?_, ?_⟩
  · rw [h.cellAt _ (by omega)]; exact cellsT_get L j hj 0 (by decide)
  · rw [h.cellAt _ (by omega)]; exact cellsT_get L j hj 1 (by decide)
  · rw [h.cellAt _ (by omega)]; exact cellsT_get L j hj 2 (by decide)
theorem row_cellsA {w : World} {base k cap : Nat} {L : List Att} (h : w.ownsRow base 50 2 (.slice (some ⟨k, 0, none⟩) L.length cap) L.length (cellsA L)) (j : Nat) (hj : j < L.length) :
    w.cell? ⟨k, j * 2, none⟩ = some (.string (L[j]'hj).1) ∧ w.cell? ⟨k, j * 2 + 1, none⟩ = some (.string (L[j]'hj).2) := by
  refine ⟨?_, ?_⟩
  · rw [h.cellAt _ (by omega)]; exact cellsA_get L j hj 0 (by decide)
  · rw [h.cellAt _ (by omega)]; exact cellsA_get L j hj 1 (by decide)

/-- What Name answers. -/
def nameZ (C : ByteArray × ByteArray × Bool) (O : Option ByteArray) : ByteArray × ByteArray × Bool :=
  if C.2.2 = false then (bNone, bNone, false)
  else match O with
    | none => (bNone, bNone, false)
    | some u => (u, C.2.1, true)
def nameSp (L : List Tell) (s : ByteArray) : ByteArray × ByteArray × Bool :=
  nameZ (str (splitL (bl s)).1, str (splitL (bl s)).2.1, (splitL (bl s)).2.2) (ofT L (str (splitL (bl s)).1))

end Go.Proofs.YtekmenkebokdoaaGreatDoor
