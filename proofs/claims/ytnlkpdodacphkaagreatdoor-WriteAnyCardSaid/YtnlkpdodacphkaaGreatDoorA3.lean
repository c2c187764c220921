/-
  Layer 5 (space): what a block of Spaces holds, what its methods answer, as plain mathematics; frames by the blocks' types.
  Documents as elements, in plain mathematics: the pieces of a text one behind the other, and what takes them, with a stack of the elements that are open.
  What holds of pieces, and of what is known, always: how long they are; plain mathematics.
  Elements as documents, as galliardref06.Text writes them, and that the machine takes them as what they are; plain mathematics.
  An element's text is taken as that element, wherever it stands; plain mathematics.
  What says nothing around an element, and that a document is read as the element that it was written of; plain mathematics.
-/
import Derived.Test.YtnlkpdodacphkaaGreatDoorProg
import Derived.Test.YtnlkpdodacphkaaGreatDoorA1
import Derived.WalkKit
import Derived.WalkSpells
import Derived.WalkLawsBesides
import Derived.Lib.Hide
import Derived.Lib.Strings
import Derived.Laws.OwnMore
import Derived.Deep.AppendLies
import Derived.Test.YtnlkpdodacphkaaGreatDoorA2
namespace Go.Proofs.YtnlkpdodacphkaaGreatDoor
open Go Go.RowKit
set_option maxRecDepth 100000

/-! ### Plain mathematics -/
/-- A telling: a prefix, what it stands for, how deep the element is. -/
structure Tell where
  p : ByteArray
  s : ByteArray
  d : Nat
def cellsT (L : List Tell) : List Value := L.flatMap fun t => [.string t.p, .string t.s, .int .i64 t.d]
theorem cellsT_len : ∀ L : List Tell, (cellsT L).length = L.length * 3
  | [] => rfl
  | t :: L => by
    have ih := cellsT_len L
    have e : cellsT (t :: L) = [.string t.p, .string t.s, .int .i64 t.d] ++ cellsT L := rfl
    rw [e, List.length_append, ih]
    show 3 + _ = (L.length + 1) * 3
    omega
theorem cellsT_app (L M : List Tell) : cellsT (L ++ M) = cellsT L ++ cellsT M := by unfold cellsT; simp
theorem cellsT_get : ∀ (L : List Tell) (j : Nat) (h : j < L.length) (q : Nat), q < 3 → (cellsT L)[j * 3 + q]? = ([.string (L[j]'h).p, .string (L[j]'h).s, .int .i64 (L[j]'h).d] : List Value)[q]?
  | [], j, h, _, _ => absurd h (Nat.not_lt_zero j)
  | t :: L, 0, h, q, hq => by
    have e : cellsT (t :: L) = [.string t.p, .string t.s, .int .i64 t.d] ++ cellsT L := rfl
    rw [e, List.getElem?_append_left (by show _ < 3; omega)]
    simp
  | t :: L, j + 1, h, q, hq => by
    have ih := cellsT_get L j (by simpa using h) q hq
    have e : cellsT (t :: L) = [.string t.p, .string t.s, .int .i64 t.d] ++ cellsT L := rfl
    rw [e, List.getElem?_append_right (by show 3 ≤ _; omega), show (j + 1) * 3 + q - ([.string t.p, .string t.s, .int .i64 t.d] : List Value).length = j * 3 + q by show (j + 1) * 3 + q - 3 = _; omega, ih]
    rfl

def bXml : ByteArray := ⟨#[120, 109, 108]⟩
def bXmlns : ByteArray := ⟨#[120, 109, 108, 110, 115]⟩
def bXmlnsC : ByteArray := ⟨#[120, 109, 108, 110, 115, 58]⟩
def bNone : ByteArray := ⟨#[]⟩
def bXmlSpace : ByteArray := ⟨#[104, 116, 116, 112, 58, 47, 47, 119, 119, 119, 46, 119, 51, 46, 111, 114, 103, 47, 88, 77, 76, 47, 49, 57, 57, 56, 47, 110, 97, 109, 101, 115, 112, 97, 99, 101]⟩
/-- What is known at first. -/
def tells0 : List Tell := [⟨bXml, bXmlSpace, 0⟩, ⟨bNone, bNone, 0⟩]
/-- What a prefix stands for. -/
def ofT (L : List Tell) (p : ByteArray) : Option ByteArray := (L.reverse.find? fun t => decide (t.p = p)).map Tell.s
theorem tl_inj {a b : ByteArray} (h : a.toList = b.toList) : a = b := by
  rw [Lib.toList_data, Lib.toList_data] at h
  obtain ⟨⟨x⟩⟩ := a
  obtain ⟨⟨y⟩⟩ := b
  exact congrArg (fun l => ByteArray.mk (Array.mk l)) h
theorem tl_beq (a b : ByteArray) : (a.toList == b.toList) = decide (a = b) := by
  by_cases h : a = b
  · subst h; simp
  · rw [decide_eq_false h]
    exact beq_eq_false_iff_ne.2 fun e => h (tl_inj e)
/-- What know answers. -/
def knowE (L : List Tell) (p s : ByteArray) : Int := if p = bXml ∨ p = bXmlns ∨ (p ≠ bNone ∧ s = bNone) then 3 else if 100 ≤ L.length then 5 else 0
/-- What toldOf answers. -/
def tellS (n : ByteArray) : ByteArray × Bool := if n = bXmlns then (bNone, true) else (⟨(Lib.trimPrefix n.data.toList bXmlnsC.data.toList).toArray⟩, Lib.hasPrefix n.data.toList bXmlnsC.data.toList)

/-- Attributes' cells. -/
abbrev Att := ByteArray × ByteArray
def cellsA (A : List Att) : List Value := A.flatMap fun a => [.string a.1, .string a.2]
theorem cellsA_app (L M : List Att) : cellsA (L ++ M) = cellsA L ++ cellsA M := by unfold cellsA; simp
theorem cellsA_get : ∀ (L : List Att) (j : Nat) (h : j < L.length) (q : Nat), q < 2 → (cellsA L)[j * 2 + q]? = ([.string (L[j]'h).1, .string (L[j]'h).2] : List Value)[q]?
  | [], j, h, _, _ => absurd h (Nat.not_lt_zero j)
  | t :: L, 0, h, q, hq => by
    have e : cellsA (t :: L) = [.string t.1, .string t.2] ++ cellsA L := rfl
    rw [e, List.getElem?_append_left (by show _ < 2; omega)]
    simp
  | t :: L, j + 1, h, q, hq => by
    have ih := cellsA_get L j (by simpa using h) q hq
    have e : cellsA (t :: L) = [.string t.1, .string t.2] ++ cellsA L := rfl
    rw [e, List.getElem?_append_right (by show 2 ≤ _; omega), show (j + 1) * 2 + q - ([.string t.1, .string t.2] : List Value).length = j * 2 + q by show (j + 1) * 2 + q - 2 = _; omega, ih]
    rfl
/-- Enter's loop: those that are left; the error; what is known. -/
def enterL (d : Nat) : List Att → List Att → List Tell → List Att × Int × List Tell
  | [], R, L => (R, 0, L)
  | a :: A, R, L =>
    if (tellS a.1).2 = false then enterL d A (R ++ [a]) L
    else if knowE L (tellS a.1).1 a.2 = 0 then enterL d A R (L ++ [⟨(tellS a.1).1, a.2, d⟩])
    else ([], knowE L (tellS a.1).1 a.2, L)

/-! ### Frames -/
/-- An object that a Spaces is made of. -/
def IsT (o : Option Obj) : Prop := ∃ c t z, o = some (.cells c t z) ∧ (t = 111 ∨ t = 114)
/-- What no Spaces is made of lies as it lay. -/
structure Apart (w w' : World) : Prop where
  size : w.heap.size ≤ w'.heap.size
  block : ∀ j, j < w.heap.size → ¬ IsT w.heap[j]? → w'.heap[j]? = w.heap[j]?
theorem Apart.refl (w : World) : Apart w w := ⟨Nat.le_refl _, fun _ _ _ => rfl⟩
theorem Apart.trans {a b c : World} (h : Apart a b) (k : Apart b c) : Apart a c :=
  ⟨Nat.le_trans h.size k.size, fun j hj hn => by
    have e := h.block j hj hn
    exact (k.block j (Nat.lt_of_lt_of_le hj h.size) (by rw [e]; exact hn)).trans e⟩
theorem Apart.of {w w' : World} (h : Below w.heap.size w w') : Apart w w' := ⟨h.size, fun j hj _ => h.block j hj⟩
theorem heap_put {w : World} {b o : Nat} {cs : Array Value} {t : TypeId} {z : Nat × Nat} (v : Value) (h : w.heap[b]? = some (.cells cs t z)) : (w.setCell ⟨b, o, none⟩ v).heap[b]? = some (.cells (cs.setIfInBounds o v) t z) := by
  simp only [World.setCell, Array.getElem?_modify, if_true, h, Option.map_some]
  rfl
theorem Apart.set {w : World} {b : Nat} {cs : Array Value} {t : TypeId} {z : Nat × Nat} (h : w.heap[b]? = some (.cells cs t z)) (ht : t = 111 ∨ t = 114) (o : Nat) (v : Value) : Apart w (w.setCell ⟨b, o, none⟩ v) :=
  ⟨by simp [World.setCell], fun j _ hn => Below.heap_setCell _ _ _ _ (fun e => hn ⟨cs, t, z, by rw [show j = b from e, h], ht⟩)⟩
theorem Apart.grown {w w' : World} {row : Option Nat} (hg : w.grownBy w' row) (hr : ∀ k, row = some k → IsT w.heap[k]?) : Apart w w' :=
  ⟨hg.size, fun j hj hn => hg.block j hj (fun e => hn (hr j e.symm))⟩
theorem Apart.cell {w w' : World} (h : Apart w w') {p : Addr} (hp : p.block < w.heap.size) (hn : ¬ IsT w.heap[p.block]?) : w'.cell? p = w.cell? p := World.cell?_of_block (w := w) (h.block p.block hp hn)
theorem not_IsT {w : World} {b : Nat} {cs : Array Value} {t : TypeId} {z : Nat × Nat} (h : w.heap[b]? = some (.cells cs t z)) (h1 : t ≠ 111) (h2 : t ≠ 114) : ¬ IsT w.heap[b]? := by
  rintro ⟨c, t', z', e, ht⟩
  rw [h] at e
  cases e
  rcases ht with h | h
  · exact h1 h
  · exact h2 h
theorem Apart.heap {w w' : World} (h : Apart w w') {b : Nat} {cs : Array Value} {t : TypeId} {z : Nat × Nat} (hb : w.heap[b]? = some (.cells cs t z)) (h1 : t ≠ 111) (h2 : t ≠ 114) : w'.heap[b]? = some (.cells cs t z) :=
  (h.block b (Array.getElem?_eq_some_iff.1 hb).1 (not_IsT hb h1 h2)).trans hb
theorem Apart.owns {w w' : World} (h : Apart w w') {base : Nat} {e : TypeId} {z n : Nat} {v : Value} {xs : List Value} (ho : w.ownsRow base e z v n xs) (h1 : e ≠ 111) (h2 : e ≠ 114) : w'.ownsRow base e z v n xs := by
  refine ⟨ho.1, ?_⟩
  rcases ho.2 with hn | ⟨g, cap, cur, hv, hb, hg, r⟩
  · exact .inl hn
  · exact .inr ⟨g, cap, cur, hv, hb, h.heap hg h1 h2, r⟩

theorem below_drew_n (B : Nat) (w : World) : ∀ n, Below B w (w.drewN n)
  | 0 => Below.refl B w
  | n + 1 => (below_drew_n B w n).trans ((Below.refl B _).drew)

/-! ### The rows -/
theorem own_kept {w w' : World} {base : Nat} {e : TypeId} {z n : Nat} {v : Value} {xs : List Value} (h : w.ownsRow base e z v n xs) (hb : Below w.heap.size w w') : w'.ownsRow base e z v n xs :=
  h.kept (⟨hb.os, hb.tape, hb.output, hb.size, fun k hk _ => hb.block k hk⟩ : w.grownBy w' none) (by
    cases hv : v.ownBlock with
    | none => exact .inl rfl
    | some g => exact .inr (fun e => by cases e))
/-! ### Spaces -/
/-- Block b is a Spaces within d elements that knows L. -/
structure Sp (B b d : Nat) (L : List Tell) (w : World) : Prop where
  base : B ≤ b
  own : ∃ k cap, w.heap[b]? = some (.cells #[.int .i64 d, .slice (some ⟨k, 0, none⟩) L.length cap] 114 (0, 0)) ∧
    w.ownsRow B 111 3 (.slice (some ⟨k, 0, none⟩) L.length cap) L.length (cellsT L)
theorem Sp.lt {B b d : Nat} {L : List Tell} {w : World} (h : Sp B b d L w) : b < w.heap.size := by
  obtain ⟨_, k, cap, h, _⟩ := h
  exact (Array.getElem?_eq_some_iff.1 h).1
theorem Sp.mono {B B' b d : Nat} {L : List Tell} {w : World} (h : Sp B b d L w) (hB : B' ≤ B) : Sp B' b d L w := by
  obtain ⟨h0, k, cap, h, ho⟩ := h
  refine ⟨Nat.le_trans hB h0, k, cap, h, ho.1, ?_⟩
  rcases ho.2 with hn | ⟨g, cap, cur, hv, hb, r⟩
  · exact .inl hn
  · exact .inr ⟨g, cap, cur, hv, Nat.le_trans hB hb, r⟩
theorem Sp.step {B b d : Nat} {L : List Tell} {w w' : World} (h : Sp B b d L w) (hb : Below w.heap.size w w') : Sp B b d L w' := by
  have hl := h.lt
  obtain ⟨h0, k, cap, h, ho⟩ := h
  exact ⟨h0, k, cap, by rw [hb.block _ hl]; exact h, own_kept ho hb⟩
theorem own_block_ne {w : World} {base b k n cap : Nat} {e t : TypeId} {z : Nat} {xs : List Value} {cs : Array Value} {fr : Nat × Nat} (h : w.ownsRow base e z (.slice (some ⟨k, 0, none⟩) n cap) n xs) (hb : w.heap[b]? = some (.cells cs t fr)) (hne : t ≠ e) : b ≠ k := by
  rintro rfl
  rcases h.2 with ⟨h', _⟩ | ⟨g', cap', cur, h', _, hg, _⟩
  · simp at h'
  · simp only [Value.slice.injEq, Option.some.injEq, Addr.mk.injEq, and_true, true_and] at h'
    obtain ⟨rfl, rfl⟩ := h'
    rw [hb] at hg
    cases hg
    exact hne rfl
/-- What is known is put into its place. -/
theorem Sp.put {B b d k n cap : Nat} {L : List Tell} {w : World} {v : Value} (hn : L.length = n) (hbase : B ≤ b) (hb : w.heap[b]? = some (.cells #[.int .i64 d, v] 114 (0, 0)))
    (ho : w.ownsRow B 111 3 (.slice (some ⟨k, 0, none⟩) n cap) n (cellsT L)) :
    Sp B b d L (w.setCell ⟨b, 1, none⟩ (.slice (some ⟨k, 0, none⟩) n cap)) ∧ Below B w (w.setCell ⟨b, 1, none⟩ (.slice (some ⟨k, 0, none⟩) n cap)) ∧ Apart w (w.setCell ⟨b, 1, none⟩ (.slice (some ⟨k, 0, none⟩) n cap)) := by
  subst hn
  have hbk : b ≠ k := own_block_ne ho hb (by decide)
  exact ⟨⟨hbase, k, cap, heap_put _ hb, ownsRow_setCell_other ho (a := ⟨b, 1, none⟩) (by intro e; exact hbk (by cases e; rfl)) _⟩, (Below.refl B w).setCell (p := ⟨b, 1, none⟩) hbase _, Apart.set hb (.inr rfl) _ _⟩
/-- A row's cells, telling by telling. -/
theorem row_cells {w : World} {base k cap : Nat} {L : List Tell} (h : w.ownsRow base 111 3 (.slice (some ⟨k, 0, none⟩) L.length cap) L.length (cellsT L)) (j : Nat) (hj : j < L.length) :
    w.cell? ⟨k, j * 3, none⟩ = some (.string (L[j]'hj).p) ∧ w.cell? ⟨k, j * 3 + 1, none⟩ = some (.string (L[j]'hj).s) ∧ w.cell? ⟨k, j * 3 + 2, none⟩ = some (.int .i64 (L[j]'hj).d) := by
  refine ⟨?_, ?_, ?_⟩
  · rw [h.cellAt _ (by omega)]; exact cellsT_get L j hj 0 (by decide)
  · rw [h.cellAt _ (by omega)]; exact cellsT_get L j hj 1 (by decide)
  · rw [h.cellAt _ (by omega)]; exact cellsT_get L j hj 2 (by decide)
theorem row_cellsA {w : World} {base k cap : Nat} {L : List Att} (h : w.ownsRow base 56 2 (.slice (some ⟨k, 0, none⟩) L.length cap) L.length (cellsA L)) (j : Nat) (hj : j < L.length) :
    w.cell? ⟨k, j * 2, none⟩ = some (.string (L[j]'hj).1) ∧ w.cell? ⟨k, j * 2 + 1, none⟩ = some (.string (L[j]'hj).2) := by
  refine ⟨?_, ?_⟩
  · rw [h.cellAt _ (by omega)]; exact cellsA_get L j hj 0 (by decide)
  · rw [h.cellAt _ (by omega)]; exact cellsA_get L j hj 1 (by decide)

/-- What Name answers. -/
def nameZ (C : ByteArray × ByteArray × Bool) (O : Option ByteArray) : ByteArray × ByteArray × Bool :=
  if C.2.2 = false then (bNone, bNone, false)
  else match O with
    | none => (bNone, bNone, false)
    | some u => (u, C.2.1, true)
def nameSp (L : List Tell) (s : ByteArray) : ByteArray × ByteArray × Bool :=
  nameZ (str (splitL (bl s)).1, str (splitL (bl s)).2.1, (splitL (bl s)).2.2) (ofT L (str (splitL (bl s)).1))

end Go.Proofs.YtnlkpdodacphkaaGreatDoor
namespace Go.Proofs.YtnlkpdodacphkaaGreatDoor
open Go.Lib
set_option maxRecDepth 100000

/-! ### the pieces, one behind the other -/
/-- What comes next: something wrong, the end, or a piece. -/
inductive Tok where
  | bad (e a : Int)
  | fin (a : Int)
  | pc (p : Pc)
def tokS (D : List UInt8) (σ : St) : Tok :=
  if (nextS D σ).err = 0 then (if (nextP D σ).kind = 0 then .fin (nextS D σ).pos else .pc (nextP D σ)) else .bad (nextS D σ).err (nextS D σ).wrg
def toksF : Nat → List UInt8 → St → List Tok
  | 0, _, _ => []
  | f + 1, D, σ => match tokS D σ with
    | .pc p => .pc p :: toksF f D (nextS D σ)
    | .fin a => [.fin a]
    | .bad e a => [.bad e a]
def toks (D : List UInt8) (σ : St) : List Tok := toksF (D.length - σ.pos + 1) D σ
/-- Fine, or something that was wrong at the very beginning. -/
def Scn (n : Nat) (σ : St) : Prop := Fine n σ ∨ ((σ.err = 2 ∨ σ.err = 5) ∧ σ.pos ≤ n ∧ 0 ≤ σ.wrg ∧ σ.wrg ≤ n)
theorem Scn.pos {n : Nat} {σ : St} (h : Scn n σ) : σ.pos ≤ n := by rcases h with h | h; exact h.pos; exact h.2.1
theorem Scn.err_or {n : Nat} {σ : St} (h : Scn n σ) : σ.err = 0 ∨ σ.err = 2 ∨ σ.err = 3 ∨ σ.err = 5 ∨ σ.err = 7 := by
  rcases h with h | h
  · rcases h.err with h | h | h <;> simp [h]
  · rcases h.1 with h | h <;> simp [h]
theorem Scn.wrg {n : Nat} {σ : St} (h : Scn n σ) : 0 ≤ σ.wrg ∧ σ.wrg ≤ n := by rcases h with h | h; exact ⟨h.lo, h.hi⟩; exact h.2.2
theorem next_bad (D : List UInt8) (σ : St) (h : σ.err ≠ 0) : nextS D σ = σ ∧ nextP D σ = pc0 := (next_err D σ h).symm
theorem next_scn (D : List UInt8) (σ : St) (h : Scn D.length σ) : Scn D.length (nextS D σ) ∧ ((nextP D σ).kind = 0 → (nextS D σ).err = 0 → (nextS D σ).pos = D.length) ∧
    ((nextP D σ).kind ≠ 0 → (σ.pos : Int) ≤ (nextP D σ).at_ ∧ (nextP D σ).at_ < (nextS D σ).pos ∧ (nextP D σ).at_ < D.length) := by
  rcases h with h | h
  · have hn := next_any D σ (.inl h)
    refine ⟨?_, hn.2⟩
    rcases hn.1 with h1 | ⟨h1, h2⟩
    · exact .inl h1
    · exact .inr ⟨.inl h1, h2⟩
  · have he : σ.err ≠ 0 := by rcases h.1 with h | h <;> rw [h] <;> decide
    rw [(next_bad D σ he).1, (next_bad D σ he).2]
    exact ⟨.inr h, fun _ h0 => absurd h0 he, fun hk => absurd rfl hk⟩
theorem new_scn (D : List UInt8) : Scn D.length (newS D) := by
  by_cases h : 200000 < D.length
  · unfold newS; rw [if_pos h]; exact .inr ⟨.inr rfl, Nat.zero_le _, by show (0 : Int) ≤ 200000; decide, by show (200000 : Int) ≤ _; omega⟩
  · rcases (new_any D (by omega)).1 with h1 | ⟨h1, h2⟩
    · exact .inl h1
    · exact .inr ⟨.inl h1, h2⟩
theorem tok_pc {D : List UInt8} {σ : St} (h0 : (nextS D σ).err = 0) (h1 : (nextP D σ).kind ≠ 0) : tokS D σ = .pc (nextP D σ) := by unfold tokS; rw [if_pos h0, if_neg h1]
theorem tok_fin {D : List UInt8} {σ : St} (h0 : (nextS D σ).err = 0) (h1 : (nextP D σ).kind = 0) : tokS D σ = .fin (nextS D σ).pos := by unfold tokS; rw [if_pos h0, if_pos h1]
theorem tok_bad {D : List UInt8} {σ : St} (h0 : (nextS D σ).err ≠ 0) : tokS D σ = .bad (nextS D σ).err (nextS D σ).wrg := by unfold tokS; rw [if_neg h0]
theorem toks_fuel (D : List UInt8) : ∀ (f k : Nat) (σ : St), Scn D.length σ → D.length - σ.pos < f → D.length - σ.pos < k → toksF f D σ = toksF k D σ
  | 0, _, _, _, h, _ => absurd h (Nat.not_lt_zero _)
  | _, 0, _, _, _, h => absurd h (Nat.not_lt_zero _)
  | f + 1, k + 1, σ, hs, hf, hk => by
    unfold toksF
    have hn := next_scn D σ hs
    cases ht : tokS D σ with
    | bad e a => rfl
    | fin a => rfl
    | pc p =>
      have hk0 : (nextP D σ).kind ≠ 0 := by
        intro h0
        by_cases he : (nextS D σ).err = 0
        · rw [tok_fin he h0] at ht; cases ht
        · rw [tok_bad he] at ht; cases ht
      have h3 := hn.2.2 hk0
      have hp := hn.1.pos
      show Tok.pc p :: _ = Tok.pc p :: _
      rw [toks_fuel D f k (nextS D σ) hn.1 (by omega) (by omega)]
theorem toks_pc {D : List UInt8} {σ : St} (hs : Scn D.length σ) (h0 : (nextS D σ).err = 0) (h1 : (nextP D σ).kind ≠ 0) : toks D σ = .pc (nextP D σ) :: toks D (nextS D σ) := by
  have hn := next_scn D σ hs
  have h3 := hn.2.2 h1
  have hp := hn.1.pos
  unfold toks
  rw [toksF, tok_pc h0 h1]
  show Tok.pc _ :: _ = Tok.pc _ :: _
  rw [toks_fuel D (D.length - σ.pos) (D.length - (nextS D σ).pos + 1) (nextS D σ) hn.1 (by omega) (by omega)]
theorem toks_fin {D : List UInt8} {σ : St} (h0 : (nextS D σ).err = 0) (h1 : (nextP D σ).kind = 0) : toks D σ = [.fin (nextS D σ).pos] := by unfold toks; rw [toksF, tok_fin h0 h1]
theorem toks_bad {D : List UInt8} {σ : St} (h0 : (nextS D σ).err ≠ 0) : toks D σ = [.bad (nextS D σ).err (nextS D σ).wrg] := by unfold toks; rw [toksF, tok_bad h0]

/-! ### what takes them -/
/-- An element. -/
inductive Nd where
  | mk (sp nm : ByteArray) (A : List Att) (K : List Nd) (tx : ByteArray)
/-- An element that is open: what opened it, where; where its name is from, and its rest; its attributes, its elements and its text so far; what was known ahead of it. -/
structure Fr where
  tag : List UInt8
  at_ : Int
  sp : ByteArray
  nm : ByteArray
  A : List Att
  K : List Nd
  tx : List UInt8
  L : List Tell
inductive Ph where
  | before
  | inside (F : Fr) (S : List Fr)
  | behind (x : Nd)
/-- What comes of it: an error and where, or something. -/
inductive Res (α : Type) where
  | bad (e a : Int)
  | ok (x : α)
def Res.on {α β : Type} : Res α → (α → Res β) → Res β
  | .bad e a, _ => .bad e a
  | .ok x, f => f x
def toAtt (A : List (List UInt8 × List UInt8)) : List Att := A.map fun a => (str a.1, str a.2)
def attsOk (A : List Att) : Bool := A.all fun a => nameL (bl a.1)
def enterC (p : Pc) (Z : List Att × Int × List Tell) (N : ByteArray × ByteArray × Bool) (L : List Tell) : Res (Fr × List Tell) :=
  if Z.2.1 = 0 then (if N.2.2 = true then (if attsOk Z.1 = true then .ok (⟨p.name, p.at_, N.1, N.2.1, Z.1, [], [], L⟩, Z.2.2) else .bad 3 p.at_) else .bad 3 p.at_) else .bad Z.2.1 p.at_
def enterR (p : Pc) (d : Nat) (L : List Tell) (c : Nat) : Res (Fr × List Tell) :=
  if c < 2000 then (if d < 32 then enterC p (enterL (d + 1) (toAtt p.attrs) [] L) (nameSp (enterL (d + 1) (toAtt p.attrs) [] L).2.2 (str p.name)) L else .bad 4 p.at_) else .bad 5 p.at_
def shut (F : Fr) : Res Nd := if trimL F.tx = [] ∨ F.K = [] then .ok (.mk F.sp F.nm F.A F.K (str (trimL F.tx))) else .bad 3 F.at_
def give (x : Nd) : List Fr → Ph
  | [] => .behind x
  | F :: S => .inside { F with K := F.K ++ [x] } S
abbrev Mach := Ph × List Tell × Nat
def opn (p : Pc) (S : List Fr) (L : List Tell) (c : Nat) : Res Mach :=
  (enterR p S.length L c).on fun E => if p.kind = 1 then .ok (.inside E.1 S, E.2, c + 1) else .ok (give (.mk E.1.sp E.1.nm E.1.A [] (str [])) S, L, c + 1)
def opens (p : Pc) : Prop := p.kind = 1 ∨ p.kind = 3
instance (p : Pc) : Decidable (opens p) := by unfold opens; exact inferInstance
def blankP (p : Pc) : Prop := p.kind = 4 ∧ trimL p.text = []
instance (p : Pc) : Decidable (blankP p) := by unfold blankP; exact inferInstance
def step (p : Pc) : Mach → Res Mach
  | (.before, L, c) => if blankP p then .ok (.before, L, c) else if opens p then opn p [] L c else .bad 3 p.at_
  | (.inside F S, L, c) =>
    if p.kind = 2 then (if p.name = F.tag then (shut F).on fun x => .ok (give x S, F.L, c) else .bad 3 p.at_)
    else if opens p then opn p (F :: S) L c else .ok (.inside { F with tx := F.tx ++ p.text } S, L, c)
  | (.behind x, L, c) => if blankP p then .ok (.behind x, L, c) else .bad 3 p.at_
def run : List Tok → Mach → Res Nd
  | [], _ => .bad 0 0
  | .bad e a :: _, _ => .bad e a
  | .fin _ :: _, (.before, _, _) => .bad 3 0
  | .fin a :: _, (.inside _ _, _, _) => .bad 3 a
  | .fin _ :: _, (.behind x, _, _) => .ok x
  | .pc p :: ts, m => (step p m).on fun m' => run ts m'
/-- **Parse**, in plain mathematics. -/
def parseL (D : List UInt8) : Res Nd := run (toks D (newS D)) (.before, tells0, 0)
/-- What is to be done with the pieces from a place on. -/
def runAt (D : List UInt8) (σ : St) (m : Mach) : Res Nd := run (toks D σ) m
theorem runAt_pc {D : List UInt8} {σ : St} (hs : Scn D.length σ) (h0 : (nextS D σ).err = 0) (h1 : (nextP D σ).kind ≠ 0) (m : Mach) : runAt D σ m = (step (nextP D σ) m).on fun m' => runAt D (nextS D σ) m' := by
  unfold runAt; rw [toks_pc hs h0 h1]; rfl
theorem runAt_bad {D : List UInt8} {σ : St} (h0 : (nextS D σ).err ≠ 0) (m : Mach) : runAt D σ m = .bad (nextS D σ).err (nextS D σ).wrg := by
  unfold runAt; rw [toks_bad h0]; obtain ⟨ph, L, c⟩ := m; cases ph <;> rfl

end Go.Proofs.YtnlkpdodacphkaaGreatDoor

namespace Go.Proofs.YtnlkpdodacphkaaGreatDoor
open Go.Lib
set_option maxRecDepth 100000

/-! ### Enter -/
theorem knowE_or (L : List Tell) (p s : ByteArray) : knowE L p s = 3 ∨ knowE L p s = 5 ∨ (knowE L p s = 0 ∧ L.length < 100) := by
  unfold knowE
  split
  · exact .inl rfl
  · split
    · exact .inr (.inl rfl)
    · exact .inr (.inr ⟨rfl, by omega⟩)
theorem enterL_grow (d : Nat) : ∀ (A R : List Att) (L : List Tell), (enterL d A R L).2.1 = 0 ∨ (enterL d A R L).2.1 = 3 ∨ (enterL d A R L).2.1 = 5
  | [], R, L => .inl rfl
  | a :: A, R, L => by
    unfold enterL
    split
    · exact enterL_grow d A _ L
    · split
      · exact enterL_grow d A R _
      · rcases knowE_or L (tellS a.1).1 a.2 with h | h | h
        · exact .inr (.inl h)
        · exact .inr (.inr h)
        · rename_i hn; exact absurd h.1 hn
theorem enterL_known (d : Nat) : ∀ (A R : List Att) (L : List Tell), (enterL d A R L).2.1 = 0 → ∃ N, (enterL d A R L).2.2 = L ++ N ∧ (∀ t ∈ N, t.d = d) ∧ (L.length ≤ 100 → (L ++ N).length ≤ 100)
  | [], R, L, _ => ⟨[], by simp [enterL], fun t h => (by cases h), by simp⟩
  | a :: A, R, L, h => by
    unfold enterL at h ⊢
    split
    · rename_i h1; rw [if_pos h1] at h; exact enterL_known d A _ L h
    · rename_i h1
      rw [if_neg h1] at h
      split
      · rename_i h2
        rw [if_pos h2] at h
        obtain ⟨N, e, hN, hl⟩ := enterL_known d A R _ h
        refine ⟨⟨(tellS a.1).1, a.2, d⟩ :: N, by rw [e]; simp, fun t ht => ?_, fun h100 => ?_⟩
        · rcases List.mem_cons.1 ht with rfl | ht
          · rfl
          · exact hN t ht
        · have hk : L.length < 100 := by rcases knowE_or L (tellS a.1).1 a.2 with h | h | h <;> first | (rw [h2] at h; exact absurd h (by decide)) | exact h.2
          have := hl (by rw [List.length_append]; simp; omega)
          simpa using this
      · rename_i h2; rw [if_neg h2] at h; exact absurd h h2
theorem enterL_rest (d : Nat) : ∀ (A R : List Att) (L : List Tell), (enterL d A R L).1.length ≤ R.length + A.length ∧ ∀ a ∈ (enterL d A R L).1, a ∈ R ∨ a ∈ A
  | [], R, L => ⟨Nat.le_refl _, fun a h => .inl h⟩
  | a :: A, R, L => by
    unfold enterL
    split
    · have ih := enterL_rest d A (R ++ [a]) L
      refine ⟨by have := ih.1; rw [List.length_append] at this; simp at this ⊢; omega, fun x hx => ?_⟩
      rcases ih.2 x hx with h | h
      · rcases List.mem_append.1 h with h | h
        · exact .inl h
        · exact .inr (by simp at h; simp [h])
      · exact .inr (List.mem_cons_of_mem _ h)
    · split
      · have ih := enterL_rest d A R (L ++ [⟨(tellS a.1).1, a.2, d⟩])
        exact ⟨by have := ih.1; simp; omega, fun x hx => by rcases ih.2 x hx with h | h; exact .inl h; exact .inr (List.mem_cons_of_mem _ h)⟩
      · exact ⟨by simp, fun x hx => by cases hx⟩

/-! ### how long what a piece says is -/
theorem openF_len : ∀ (f : Nat) (l done : List UInt8) (a : Nat), (openF f l done a).1.length ≤ done.length + 4 * l.length
  | 0, l, done, a => by unfold openF; simp
  | f + 1, [], done, a => by unfold openF; simp
  | f + 1, c :: l, done, a => by
    have hl : (c :: l).length = l.length + 1 := rfl
    unfold openF
    split
    · have ih := openF_len f l (done ++ [c]) (a + 1)
      rw [List.length_append] at ih
      have h1 : ([c] : List UInt8).length = 1 := rfl
      omega
    · split
      · have ih := openF_len f (l.drop (semi l + 1)) (done ++ put (oneL (l.take (semi l)))) (a + semi l + 2)
        have hd : (l.drop (semi l + 1)).length = l.length - (semi l + 1) := List.length_drop
        have hp := put_len (oneL (l.take (semi l)))
        rw [List.length_append] at ih
        omega
      · simp
/-- What a piece says is no longer than its text, but for letters that are written as names. -/
structure PcOk (n : Nat) (p : Pc) : Prop where
  few : p.attrs.length ≤ 16
  name : p.name.length ≤ n
  text : p.text.length ≤ 4 * n
  atts : ∀ a ∈ p.attrs, a.1.length ≤ n
theorem run_le (h : UInt8 → Bool) (D : List UInt8) (σ : St) : (runW h D σ).length ≤ D.length := Nat.le_trans (run_len h D σ) (Nat.sub_le _ _)
theorem openF_ok (D : List UInt8) : ∀ (f : Nat) (n : List UInt8) (al : List (List UInt8 × List UInt8)) (σ : St), n.length ≤ D.length → al.length ≤ 16 → (∀ a ∈ al, a.1.length ≤ D.length) → PcOk D.length (openF_ f D n al σ).1
  | 0, n, al, σ, _, _, _ => ⟨by simp [openF_, pc0], by simp [openF_, pc0], by simp [openF_, pc0], fun a h => by simp [openF_, pc0] at h⟩
  | f + 1, n, al, σ, hn, hl, ha => by
    unfold openF_
    split
    · split
      · exact ⟨hl, hn, by simp, ha⟩
      split
      · exact ⟨hl, hn, by simp, ha⟩
      split
      · exact openF_ok D f n al _ hn hl ha
      · rename_i h16
        refine openF_ok D f n _ _ hn ?_ fun a h => ?_
        · have : al.length ≠ 16 := fun h => h16 (.inr h)
          rw [List.length_append]; simp; omega
        · rcases List.mem_append.1 h with h | h
          · exact ha a h
          · rw [List.mem_singleton.1 h]; exact run_le nb D _
    · exact ⟨by simp [pc0], by simp [pc0], by simp [pc0], fun a h => by simp [pc0] at h⟩
theorem piece_ok (D : List UInt8) (σ : St) : PcOk D.length (pieceR D σ).1 := by
  unfold pieceR
  split
  · refine ⟨by simp [rawS], by simp [rawS], ?_, fun a h => by simp [rawS] at h⟩
    show (rawC D _).1.length ≤ _
    unfold rawC Lib.cut
    split
    · simp only [List.length_take, List.length_drop]; omega
    · simp; omega
  split
  · exact ⟨by simp [closingS], run_le nb D _, by simp [closingS], fun a h => by simp [closingS] at h⟩
  split
  · exact openF_ok D 19 _ [] _ (run_le nb D _) (by simp) (fun a h => by cases h)
  · refine ⟨by simp [textS], by simp [textS], ?_, fun a h => by simp [textS] at h⟩
    show (openL (runW tb D σ)).1.length ≤ _
    have h := openF_len (runW tb D σ).length (runW tb D σ) [] 0
    have h2 := run_le tb D σ
    unfold openL
    simp at h
    omega
theorem next_ok (D : List UInt8) (σ : St) : PcOk D.length (nextP D σ) := by
  have h0 : PcOk D.length pc0 := ⟨by simp [pc0], by simp [pc0], by simp [pc0], fun a h => by simp [pc0] at h⟩
  have h1 := piece_ok D (passAllS D σ)
  unfold nextP
  split
  · split
    · exact ⟨h1.few, h1.name, h1.text, h1.atts⟩
    · exact h0
  · exact h0

/-! ### a place in a text, with what is known there -/
structure Pu (D : List UInt8) (σ : St) (d : Nat) (L : List Tell) (c : Nat) : Prop where
  scn : Scn D.length σ
  small : σ.err = 0 → D.length ≤ 200000
  dep : ∀ t ∈ L, t.d ≤ d
  few : L.length ≤ 100
  cnt : c ≤ 2000
  lim : d ≤ 32
theorem next_err0 {D : List UInt8} {σ : St} (h : (nextS D σ).err = 0) : σ.err = 0 := by
  by_cases he : σ.err = 0
  · exact he
  · rw [(next_bad D σ he).1] at h; exact h
theorem Pu.next {D : List UInt8} {σ : St} {d : Nat} {L : List Tell} {c : Nat} (h : Pu D σ d L c) : Pu D (nextS D σ) d L c :=
  ⟨(next_scn D σ h.scn).1, fun he => h.small (next_err0 he), h.dep, h.few, h.cnt, h.lim⟩
theorem next_zero {D : List UInt8} {σ : St} (h : Scn D.length σ) (he : (nextS D σ).err = 0) (hk : (nextP D σ).kind = 0) : nextP D σ = pc0 := by
  have h0 := next_err0 he
  have hf : Fine D.length σ := by
    rcases h with h | h
    · exact h
    · rcases h.1 with h | h <;> rw [h0] at h <;> exact absurd h (by decide)
  have hp := (passF_fine D (D.length + 1) σ hf).1
  unfold nextP at hk ⊢
  unfold nextS at he
  split
  · rename_i hc
    rw [if_pos hc] at hk he
    have hq := piece_fine D (passAllS D σ) hp hc.2
    rw [if_pos he] at hk
    exact absurd he (hq.2.2.1 hk)
  · rfl
/-- What is to be done with a piece that was taken, and with those behind it. -/
def takenAt (D : List UInt8) (σ : St) (p : Pc) (m : Mach) : Res Nd := if p.kind = 0 then run [.fin σ.pos] m else (step p m).on fun m' => runAt D σ m'
/-- A piece that was taken. -/
structure Took (D : List UInt8) (σ : St) (p : Pc) : Prop where
  err : σ.err = 0
  ok : PcOk D.length p
  zero : p.kind = 0 → p = pc0 ∧ σ.pos = D.length
def mea (D : List UInt8) (σ : St) (p : Pc) : Nat := 2 * (D.length - σ.pos) + (if p.kind = 0 then 0 else 1)
theorem next_took {D : List UInt8} {σ : St} (h : Scn D.length σ) (he : (nextS D σ).err = 0) : Took D (nextS D σ) (nextP D σ) :=
  ⟨he, next_ok D σ, fun hk => ⟨next_zero h he hk, (next_scn D σ h).2.1 hk he⟩⟩
theorem next_taken {D : List UInt8} {σ : St} (h : Scn D.length σ) (he : (nextS D σ).err = 0) (m : Mach) : runAt D σ m = takenAt D (nextS D σ) (nextP D σ) m := by
  unfold takenAt
  by_cases hk : (nextP D σ).kind = 0
  · rw [if_pos hk]; unfold runAt; rw [toks_fin he hk]
  · rw [if_neg hk, runAt_pc h he hk]
theorem next_mea {D : List UInt8} {σ : St} (h : Scn D.length σ) (he : (nextS D σ).err = 0) : mea D (nextS D σ) (nextP D σ) < 2 * (D.length - σ.pos) + 1 := by
  have hn := next_scn D σ h
  have hp := hn.1.pos
  unfold mea
  by_cases hk : (nextP D σ).kind = 0
  · have := hn.2.1 hk he; rw [if_pos hk]; omega
  · have := hn.2.2 hk; rw [if_neg hk]; omega
theorem next_pos {D : List UInt8} {σ : St} (h : Scn D.length σ) (he : (nextS D σ).err = 0) : σ.pos ≤ (nextS D σ).pos := by
  have hn := next_scn D σ h
  have hp := h.pos
  by_cases hk : (nextP D σ).kind = 0
  · have := hn.2.1 hk he; omega
  · have := hn.2.2 hk; omega
theorem next_pos1 {D : List UInt8} {σ : St} (h : Scn D.length σ) (hk : (nextP D σ).kind ≠ 0) : σ.pos + 1 ≤ (nextS D σ).pos := by
  have := (next_scn D σ h).2.2 hk
  omega
/-- Ahead of the element, or behind it. -/
def Around (m : Mach) : Prop := ∀ p, blankP p → step p m = .ok m
theorem around_before (L : List Tell) (c : Nat) : Around (.before, L, c) := fun _ h => if_pos h
theorem around_behind (x : Nd) (L : List Tell) (c : Nat) : Around (.behind x, L, c) := fun _ h => if_pos h
theorem taken_blank {D : List UInt8} {σ : St} {p : Pc} {m : Mach} (hm : Around m) (h : blankP p) : takenAt D σ p m = runAt D σ m := by
  have hk : p.kind ≠ 0 := by rw [h.1]; decide
  unfold takenAt
  rw [if_neg hk, hm p h]
  rfl

end Go.Proofs.YtnlkpdodacphkaaGreatDoor

namespace Go.Proofs.YtnlkpdodacphkaaGreatDoor
open Go Go.RowKit Go.Lib
set_option maxRecDepth 100000

theorem step_in (p : Pc) (F : Fr) (S : List Fr) (L : List Tell) (c : Nat) : step p (.inside F S, L, c) =
    if p.kind = 2 then (if p.name = F.tag then (shut F).on fun x => .ok (give x S, F.L, c) else .bad 3 p.at_)
    else if opens p then opn p (F :: S) L c else .ok (.inside { F with tx := F.tx ++ p.text } S, L, c) := rfl
theorem P_scn {D : List UInt8} {p : Nat} (h : p ≤ D.length) : Scn D.length (P_ p) := .inl ⟨h, .inl rfl, Int.le_refl _, by show (0 : Int) ≤ _; omega⟩
theorem drop_le {D x r : List UInt8} {p : Nat} (h : D.drop p = x ++ r) (hx : x ≠ []) : p + x.length ≤ D.length := by
  have := congrArg List.length h
  rw [List.length_drop, List.length_append] at this
  have h0 : x.length ≠ 0 := fun e => hx (List.eq_nil_of_length_eq_zero e)
  omega
/-- A piece that stands at a place, and what is behind it. -/
theorem run_piece {D : List UInt8} {p q : Nat} {Q : Pc} (hp : p ≤ D.length) (h : nextP D (P_ p) = Q ∧ nextS D (P_ p) = P_ q) (hk : Q.kind ≠ 0) (m : Mach) : runAt D (P_ p) m = (step Q m).on fun m' => runAt D (P_ q) m' := by
  rw [runAt_pc (P_scn hp) (by rw [h.2]; rfl) (by rw [h.1]; exact hk), h.1, h.2]
/-! ### how many, how deep -/
def Nd.kids : Nd → List Nd
  | .mk _ _ _ K _ => K
def kidsL (ts : List Nd) : List Nd := ts.flatMap Nd.kids
mutual
def Nd.count : Nd → Nat
  | .mk _ _ _ K _ => 1 + countK K
def countK : List Nd → Nat
  | [] => 0
  | x :: r => x.count + countK r
end
mutual
def Nd.depth : Nd → Nat
  | .mk _ _ _ K _ => 1 + depthK K
def depthK : List Nd → Nat
  | [] => 0
  | x :: r => max x.depth (depthK r)
end
theorem countK_app : ∀ a b : List Nd, countK (a ++ b) = countK a + countK b
  | [], b => by simp [countK]
  | x :: a, b => by rw [List.cons_append, countK, countK, countK_app a b]; omega
theorem count_kids : ∀ x : Nd, x.count = 1 + countK x.kids
  | .mk _ _ _ _ _ => by simp [Nd.count, Nd.kids]
theorem depth_kids : ∀ x : Nd, x.depth = 1 + depthK x.kids
  | .mk _ _ _ _ _ => by simp [Nd.depth, Nd.kids]
theorem count_level : ∀ ts : List Nd, countK ts = ts.length + countK (kidsL ts)
  | [] => rfl
  | x :: r => by
    have ih := count_level r
    unfold kidsL at ih ⊢
    rw [List.flatMap_cons, countK_app, countK, ih, count_kids x, List.length_cons]; omega
theorem len_count (ts : List Nd) : ts.length ≤ countK ts := by rw [count_level]; omega

end Go.Proofs.YtnlkpdodacphkaaGreatDoor
namespace Go.Proofs.YtnlkpdodacphkaaGreatDoor
open Go Go.RowKit Go.Lib
set_option maxRecDepth 100000

def bXm : List UInt8 := [120, 109, 108, 110, 115]
/-- The attributes of an element's tag: what it tells of the space, and its own. -/
def tagA (s sp : ByteArray) (A : List Att) : List (List UInt8 × List UInt8) := (if s = sp then [] else [(bXm, bl s)]) ++ A.map fun a => (bl a.1, bl a.2)
mutual
/-- An element's text, from its < to its >. -/
def bodyT : Nd → ByteArray → List UInt8 → List UInt8
  | .mk s n A K t, sp, pad =>
    60 :: (bl n ++ (atsT [32] (tagA s sp A) ++
      (if K.isEmpty = true then (if bl t = [] then [47, 62] else 62 :: (closeL (bl t) ++ (60 :: 47 :: (bl n ++ [62]))))
       else 62 :: (kidsT K s (pad ++ [32]) ++ (10 :: (pad ++ (60 :: 47 :: (bl n ++ [62]))))))))
def kidsT : List Nd → ByteArray → List UInt8 → List UInt8
  | [], _, _ => []
  | k :: r, s, pad => 10 :: (pad ++ (bodyT k s pad ++ kidsT r s pad))
end
/-- The text of galliardref06.Text. -/
def textT (x : Nd) (sp : ByteArray) (pad : List UInt8) : List UInt8 := pad ++ (bodyT x sp pad ++ [10])
/-- An element that galliardref06.Near makes. -/
inductive NearN : Nd → Prop where
  | mk (s n t : ByteArray) (A : List Att) (K : List Nd) (hn : ∃ r, bl n = 110 :: r) (hn2 : ∀ c ∈ bl n, okN c = true) (hnl : (bl n).length ≤ 40) (hs : Lets (bl s)) (ht : Lets (bl t)) (htr : trimL (bl t) = bl t)
    (hA : ∀ a ∈ A, (∃ r, bl a.1 = 110 :: r) ∧ (∀ c ∈ bl a.1, okN c = true) ∧ (bl a.1).length ≤ 40 ∧ Lets (bl a.2)) (hAd : A.Pairwise (fun x y => (bl x.1 == bl y.1) = false)) (hAl : A.length ≤ 15)
    (hKt : K = [] ∨ bl t = []) (hK : ∀ k ∈ K, NearN k) : NearN (.mk s n A K t)
/-- A text of blanks. -/
theorem blanks_lets {l : List UInt8} (h : ∀ c ∈ l, c = 32 ∨ c = 10) : Lets l := by
  induction l with
  | nil => exact Lets.nil
  | cons c l ih =>
    have h1 : Lets [c] := by
      rcases h c (List.mem_cons_self ..) with rfl | rfl
      · exact ⟨[32], by decide, by kernel_rfl⟩
      · exact ⟨[10], by decide, by kernel_rfl⟩
    exact h1.append (ih fun x hx => h x (List.mem_cons_of_mem _ hx))
theorem openF_plain : ∀ (f : Nat) (l done : List UInt8) (a : Nat), l.length ≤ f → (∀ c ∈ l, c ≠ 38) → openF f l done a = (done ++ l, -1)
  | 0, [], done, a, _, _ => by unfold openF; simp
  | 0, c :: l, done, a, h, _ => absurd h (by simp)
  | f + 1, [], done, a, _, _ => by unfold openF; simp
  | f + 1, c :: l, done, a, h, hc => by
    unfold openF
    rw [if_pos (hc c (List.mem_cons_self ..)), openF_plain f l (done ++ [c]) (a + 1) (by simp at h; omega) (fun x hx => hc x (List.mem_cons_of_mem _ hx))]
    simp
theorem openL_plain {l : List UInt8} (hc : ∀ c ∈ l, c ≠ 38) : openL l = (l, -1) := by
  unfold openL; rw [openF_plain _ l [] 0 (Nat.le_refl _) hc]; rfl
/-- A text in which nothing is written as a name. -/
theorem text_raw {D v r : List UInt8} {p : Nat} (hv : Lets v) (hv0 : v ≠ []) (hc : ∀ c ∈ v, c ≠ 60 ∧ c ≠ 38) (hr : r = [] ∨ ∃ r', r = 60 :: r') (hd : D.drop p = v ++ r) :
    nextP D (P_ p) = ⟨4, [], [], v, p⟩ ∧ nextS D (P_ p) = P_ (p + v.length) := by
  obtain ⟨c, t, hct⟩ : ∃ c t, v = c :: t := by
    cases v with
    | nil => exact absurd rfl hv0
    | cons x v => exact ⟨x, v, rfl⟩
  have hc60 : c ≠ 60 := (hc c (by rw [hct]; exact List.mem_cons_self ..)).1
  have hd' : D.drop p = c :: (t ++ r) := by rw [hd, hct]; rfl
  refine next_on (Q := ⟨4, [], [], v, 0⟩) hd' (.inl hc60) ?_
  have hraw := (bcom_no hd' (.inl hc60)).2.2
  have hrun := run_on (h := tb) hd (fun x hx => by have := (hc x hx).1; unfold tb; simp [this]) (by rcases hr with rfl | ⟨r', rfl⟩; exact .inl rfl; exact Stops.cons tb_60)
  have ho : openedS v ((P_ p).pos : Int) (P_ (p + v.length)) = P_ (p + v.length) := by
    unfold openedS lettersS
    rw [hv.text, openL_plain (fun x hx => (hc x hx).2), if_neg (show ¬ 0 ≤ (-1 : Int) by decide), if_neg (show ¬ 0 ≤ (-1 : Int) by decide)]
  unfold pieceR
  rw [if_neg (by rw [hraw]; decide), if_neg (by rw [show standsS [60, 47] D (P_ p) = false from stands_no (x := [47]) hd' (fun e => hc60 e.symm)]; decide), if_neg (by rw [show standsS [60] D (P_ p) = false from stands_no (x := []) hd' (fun e => hc60 e.symm)]; decide)]
  unfold textS
  rw [hrun.1, hrun.2, ho, openL_plain (fun x hx => (hc x hx).2)]
/-- Blanks within an element are taken as text. -/
theorem run_blanks {D v r : List UInt8} {p : Nat} (hv : ∀ c ∈ v, c = 32 ∨ c = 10) (hv0 : v ≠ []) (hd : D.drop p = v ++ 60 :: r) (F : Fr) (S : List Fr) (L : List Tell) (c : Nat) :
    runAt D (P_ p) (.inside F S, L, c) = runAt D (P_ (p + v.length)) (.inside { F with tx := F.tx ++ v } S, L, c) := by
  have hp := drop_le hd hv0
  have h := text_raw (D := D) (v := v) (r := 60 :: r) (p := p) (blanks_lets hv) hv0 (fun x hx => by rcases hv x hx with rfl | rfl <;> decide) (.inr ⟨_, rfl⟩) hd
  rw [run_piece (by omega) h (show (4 : Int) ≠ 0 by decide), step_in, if_neg (show ¬ (4 : Int) = 2 by decide), if_neg (by rintro (h | h) <;> exact absurd (show (4 : Int) = _ from h) (by decide))]
  rfl
theorem trim_blanks {l : List UInt8} (hl : ∀ c ∈ l, c = 32 ∨ c = 10) : trimL l = [] := by
  have h := trim_cut l l.length l.length (Nat.le_refl _) (Nat.le_refl _) (fun j hj => by
    have hm := hl _ (List.getElem_mem hj)
    have e : nth l j = (l[j]'hj).toNat := by unfold nth; simp [List.getD, hj]
    rw [e]
    rcases hm with hm | hm <;> rw [hm] <;> decide) (fun h => absurd h (Nat.lt_irrefl _)) (fun j h1 h2 => by omega) (fun h => absurd h (Nat.lt_irrefl _))
  rw [h]
  simp

/-! ### what a tag says -/
theorem str_bl_ (s : ByteArray) : str (bl s) = s := by cases s; rfl
theorem toAtt_tag (s sp : ByteArray) (A : List Att) : toAtt (tagA s sp A) = (if s = sp then [] else [(bXmlns, s)]) ++ A := by
  have hA : (A.map fun a => (bl a.1, bl a.2)).map (fun a => (str a.1, str a.2)) = A := by
    rw [List.map_map]
    conv => rhs; rw [← List.map_id A]
    refine List.map_congr_left fun a _ => ?_
    show (str (bl a.1), str (bl a.2)) = a
    rw [str_bl_, str_bl_]
  unfold toAtt tagA
  rw [List.map_append, hA]
  split
  · rfl
  · show [(str bXm, str (bl s))] ++ A = _
    rw [str_bl_]; rfl
theorem tell_n {n : ByteArray} (h : ∃ r, bl n = 110 :: r) : (tellS n).2 = false := by
  obtain ⟨r, hr⟩ := h
  have hne : n ≠ bXmlns := fun e => by rw [e] at hr; exact absurd (congrArg (List.head? ·) hr) (by show ¬ some (120 : UInt8) = some 110; decide)
  unfold tellS
  rw [if_neg hne]
  show Lib.hasPrefix n.data.toList _ = false
  rw [show n.data.toList = 110 :: r from hr]
  rfl
theorem enter_own (d : Nat) (L : List Tell) : ∀ (A R : List Att), (∀ a ∈ A, ∃ r, bl a.1 = 110 :: r) → enterL d A R L = (R ++ A, 0, L)
  | [], R, _ => by simp [enterL]
  | a :: A, R, h => by
    unfold enterL
    rw [if_pos (tell_n (h a (List.mem_cons_self ..))), enter_own d L A (R ++ [a]) fun x hx => h x (List.mem_cons_of_mem _ hx)]
    simp
def newL (s sp : ByteArray) (d : Nat) : List Tell := if s = sp then [] else [⟨bNone, s, d⟩]
theorem enter_tag (s sp : ByteArray) (A : List Att) (d : Nat) (L : List Tell) (hL : L.length < 100) (hA : ∀ a ∈ A, ∃ r, bl a.1 = 110 :: r) : enterL d (toAtt (tagA s sp A)) [] L = (A, 0, L ++ newL s sp d) := by
  rw [toAtt_tag]
  unfold newL
  split
  · rw [List.nil_append, enter_own d L A [] hA, List.append_nil]; rfl
  · show enterL d ((bXmlns, s) :: A) [] L = _
    unfold enterL
    have ht : tellS bXmlns = (bNone, true) := by kernel_rfl
    have hk : knowE L bNone s = 0 := by
      unfold knowE
      rw [if_neg (by rintro (h | h | h); exact absurd h (by decide); exact absurd h (by decide); exact h.1 rfl), if_neg (by omega)]
    rw [if_neg (by rw [ht]; decide), if_pos (by rw [ht]; exact hk), ht]
    exact enter_own d _ A [] hA

theorem of_new {L : List Tell} {sp s : ByteArray} {d : Nat} (h : ofT L bNone = some sp) : ofT (L ++ newL s sp d) bNone = some s := by
  unfold newL
  split
  · rename_i e; rw [List.append_nil, h, e]
  · unfold ofT
    rw [List.reverse_append]
    rfl
theorem name_own {L : List Tell} {s n : ByteArray} (h : ofT L bNone = some s) (hn : ∃ r, bl n = 110 :: r) (hn2 : ∀ c ∈ bl n, okN c = true) (hnl : (bl n).length ≤ 40) : nameSp L (str (bl n)) = (s, n, true) := by
  obtain ⟨r, hr⟩ := hn
  have hname : nameL (bl n) = true := by
    rw [hr] at hn2 hnl ⊢
    exact ok_name hn2 (by decide) (by simp at hnl; omega)
  rw [str_bl_]
  unfold nameSp
  rw [split_none _ (ok_colon hn2), hname]
  have e0 : str ([] : List UInt8) = bNone := rfl
  unfold nameZ
  rw [if_neg (show ¬ true = false by decide), e0, h, str_bl_]
/-- What is known where an element stands whose default space is sp. -/
structure Knows (L : List Tell) (sp : ByteArray) (d : Nat) : Prop where
  of : ofT L bNone = some sp
  few : L.length ≤ 2 + d
theorem Knows.more {L : List Tell} {sp s : ByteArray} {d : Nat} (h : Knows L sp d) : Knows (L ++ newL s sp (d + 1)) s (d + 1) := by
  refine ⟨of_new h.of, ?_⟩
  have := h.few
  rw [List.length_append]
  unfold newL
  split
  · simp; omega
  · simp; omega
theorem enter_near {s n sp : ByteArray} {A : List Att} {L : List Tell} {d c p : Nat} {kd : Int} (hL : Knows L sp d) (hd : d < 32) (hc : c < 2000) (hn : ∃ r, bl n = 110 :: r) (hn2 : ∀ c ∈ bl n, okN c = true) (hnl : (bl n).length ≤ 40)
    (hA : ∀ a ∈ A, (∃ r, bl a.1 = 110 :: r) ∧ (∀ c ∈ bl a.1, okN c = true) ∧ (bl a.1).length ≤ 40 ∧ Lets (bl a.2)) :
    enterR ⟨kd, bl n, tagA s sp A, [], p⟩ d L c = .ok (⟨bl n, p, s, n, A, [], [], L⟩, L ++ newL s sp (d + 1)) := by
  unfold enterR
  rw [if_pos hc, if_pos hd]
  show enterC _ (enterL (d + 1) (toAtt (tagA s sp A)) [] L) (nameSp (enterL (d + 1) (toAtt (tagA s sp A)) [] L).2.2 (str (bl n))) L = _
  rw [enter_tag s sp A (d + 1) L (by have := hL.few; omega) (fun a ha => (hA a ha).1), name_own (of_new hL.of) hn hn2 hnl]
  have hok : attsOk A = true := List.all_eq_true.2 fun a ha => by
    obtain ⟨⟨r, hr⟩, h2, h3, _⟩ := hA a ha
    rw [hr] at h2 h3 ⊢
    exact ok_name h2 (by decide) (by simp at h3; omega)
  unfold enterC
  rw [if_pos rfl, if_pos rfl, if_pos hok]

end Go.Proofs.YtnlkpdodacphkaaGreatDoor

namespace Go.Proofs.YtnlkpdodacphkaaGreatDoor
open Go Go.RowKit Go.Lib
set_option maxRecDepth 100000

theorem nm_own {n : List UInt8} (hn : ∃ r, n = 110 :: r) (hn2 : ∀ c ∈ n, okN c = true) (hnl : n.length ≤ 40) : Nm n := by
  obtain ⟨r, rfl⟩ := hn
  exact ok_nm hn2 (by decide) (by simp at hnl; omega)
def AOk (A : List Att) : Prop := ∀ a ∈ A, (∃ r, bl a.1 = 110 :: r) ∧ (∀ c ∈ bl a.1, okN c = true) ∧ (bl a.1).length ≤ 40 ∧ Lets (bl a.2)
theorem tag_ok {s sp : ByteArray} {A : List Att} (hs : Lets (bl s)) (hA : AOk A) : ∀ a ∈ tagA s sp A, AtOk a := by
  have hown : ∀ a ∈ A.map (fun a => (bl a.1, bl a.2)), AtOk a := fun a ha => by
    obtain ⟨y, hy, rfl⟩ := List.mem_map.1 ha
    obtain ⟨h1, h2, h3, h4⟩ := hA y hy
    refine ⟨nm_own h1 h2 h3, h4, ?_⟩
    obtain ⟨r, hr⟩ := h1
    exact ⟨110, r, hr, by kernel_rfl, by decide, by decide⟩
  intro a ha
  unfold tagA at ha
  split at ha
  · exact hown a ha
  · rcases List.mem_append.1 ha with h | h
    · rw [List.mem_singleton.1 h]
      exact ⟨ok_nm (by decide) (by decide) (by decide), hs, ⟨120, [109, 108, 110, 115], rfl, by kernel_rfl, by decide, by decide⟩⟩
    · exact hown a h
theorem tag_pair {s sp : ByteArray} {A : List Att} (hA : AOk A) (hd : A.Pairwise (fun x y => (bl x.1 == bl y.1) = false)) : (tagA s sp A).Pairwise (fun x y => (x.1 == y.1) = false) := by
  have h2 : (A.map (fun a => (bl a.1, bl a.2))).Pairwise (fun x y => (x.1 == y.1) = false) := List.pairwise_map.2 hd
  unfold tagA
  split
  · exact h2
  · refine List.pairwise_append.2 ⟨List.pairwise_singleton _ _, h2, fun x hx y hy => ?_⟩
    rw [List.mem_singleton.1 hx]
    obtain ⟨z, hz, rfl⟩ := List.mem_map.1 hy
    obtain ⟨⟨r, hr⟩, _⟩ := hA z hz
    show (bXm == bl z.1) = false
    rw [hr]; rfl
theorem tag_len {s sp : ByteArray} {A : List Att} (h : A.length ≤ 15) : (tagA s sp A).length ≤ 16 := by
  unfold tagA
  rw [List.length_append, List.length_map]
  split
  · simp; omega
  · simp; omega
theorem open_near {D r e : List UInt8} {p : Nat} {kd : Int} {s sp n : ByteArray} {A : List Att} (hn : ∃ r, bl n = 110 :: r) (hn2 : ∀ c ∈ bl n, okN c = true) (hnl : (bl n).length ≤ 40) (hs : Lets (bl s)) (hA : AOk A)
    (hAd : A.Pairwise (fun x y => (bl x.1 == bl y.1) = false)) (hAl : A.length ≤ 15) (he : Ends e kd) (hd : D.drop p = 60 :: (bl n ++ (atsT [32] (tagA s sp A) ++ (e ++ r)))) :
    nextP D (P_ p) = ⟨kd, bl n, tagA s sp A, [], p⟩ ∧ nextS D (P_ p) = P_ (p + (1 + (bl n).length + (atsT [32] (tagA s sp A)).length + e.length)) := by
  have h := open_on (D := D) (b := [32]) (eb := []) (e := e) (r := r) (kd := kd) (p := p) (nm_own hn hn2 hnl) (by obtain ⟨r, hr⟩ := hn; exact ⟨110, r, hr, by decide, by decide, by decide⟩) (by decide) (by decide) (by decide) (fun _ h => by cases h) (fun _ h => by cases h) he
    (tag_ok hs hA) (tag_pair hA hAd) (tag_len hAl) hd
  exact h
/-- What it is that an element's text is taken as it. -/
def Takes (x : Nd) : Prop := ∀ (sp : ByteArray) (pad D r : List UInt8) (p : Nat) (S : List Fr) (L : List Tell) (c : Nat), Knows L sp S.length → D.drop p = bodyT x sp pad ++ r → (∀ b ∈ pad, b = 32) → c + x.count ≤ 2000 → S.length + x.depth ≤ 32 →
  ∃ Q q, nextP D (P_ p) = Q ∧ nextS D (P_ p) = P_ q ∧ opens Q ∧ ((opn Q S L c).on fun m' => runAt D (P_ q) m') = runAt D (P_ (p + (bodyT x sp pad).length)) (give x S, L, c + x.count)
theorem body_head (x : Nd) (sp : ByteArray) (pad : List UInt8) : ∃ t, bodyT x sp pad = 60 :: t := by
  cases x with
  | mk s n A K t => exact ⟨_, by unfold bodyT; rfl⟩
theorem kids_run : ∀ (K : List Nd), (∀ k ∈ K, Takes k) → ∀ (s : ByteArray) (pad D r : List UInt8) (p : Nat) (F : Fr) (S : List Fr) (L : List Tell) (c : Nat), Knows L s (F :: S).length → D.drop p = kidsT K s pad ++ r → p ≤ D.length → (∀ b ∈ pad, b = 32) →
    c + countK K ≤ 2000 → (F :: S).length + depthK K ≤ 32 → (∀ b ∈ F.tx, b = 32 ∨ b = 10) →
    ∃ tx', (∀ b ∈ tx', b = 32 ∨ b = 10) ∧ runAt D (P_ p) (.inside F S, L, c) = runAt D (P_ (p + (kidsT K s pad).length)) (.inside { F with K := F.K ++ K, tx := tx' } S, L, c + countK K)
  | [], _, s, pad, D, r, p, F, S, L, c, _, _, _, _, _, _, hF => ⟨F.tx, hF, by simp [kidsT, countK]⟩
  | k :: K, hP, s, pad, D, r, p, F, S, L, c, hL, hd, hp, hpad, hc, hdep, hF => by
    obtain ⟨t, ht⟩ := body_head k s pad
    have hbl : ∀ b ∈ (10 :: pad), b = 32 ∨ b = 10 := fun b hb => by
      rcases List.mem_cons.1 hb with rfl | hb
      · exact .inr rfl
      · exact .inl (hpad b hb)
    have hd1 : D.drop p = (10 :: pad) ++ (bodyT k s pad ++ (kidsT K s pad ++ r)) := by
      rw [hd, kidsT]; simp
    have hd2 : D.drop p = (10 :: pad) ++ 60 :: (t ++ (kidsT K s pad ++ r)) := by rw [hd1, ht]; rfl
    have h1 := run_blanks hbl (by simp) hd2 F S L c
    have hd3 := drop_on hd1
    have hp3 := drop_le hd1 (by simp)
    rw [countK] at hc
    rw [depthK] at hdep
    obtain ⟨Q, q, hQ, hq, hop, hrun⟩ := hP k (List.mem_cons_self ..) s pad D _ _ ({ F with tx := F.tx ++ (10 :: pad) } :: S) L c hL hd3 hpad (by omega) (by have e : ({ F with tx := F.tx ++ (10 :: pad) } :: S).length = (F :: S).length := rfl; rw [e]; omega)
    have hk0 : Q.kind ≠ 0 ∧ Q.kind ≠ 2 := by rcases hop with h | h <;> rw [h] <;> decide
    have h2 : runAt D (P_ (p + (10 :: pad).length)) (.inside { F with tx := F.tx ++ (10 :: pad) } S, L, c) = runAt D (P_ (p + (10 :: pad).length + (bodyT k s pad).length)) (.inside { F with K := F.K ++ [k], tx := F.tx ++ (10 :: pad) } S, L, c + k.count) := by
      rw [run_piece hp3 ⟨hQ, hq⟩ hk0.1, step_in, if_neg hk0.2, if_pos hop, hrun]
      rfl
    have hd4 := drop_on hd3
    have hp4 := drop_le hd3 (by rw [ht]; simp)
    obtain ⟨tx', htx, h3⟩ := kids_run K (fun y hy => hP y (List.mem_cons_of_mem _ hy)) s pad D r _ { F with K := F.K ++ [k], tx := F.tx ++ (10 :: pad) } S L (c + k.count) hL hd4 hp4 hpad (by omega) (by have e : ({ F with K := F.K ++ [k], tx := F.tx ++ (10 :: pad) } :: S).length = (F :: S).length := rfl; rw [e]; omega)
      (fun b hb => by rcases List.mem_append.1 hb with h | h; exact hF b h; exact hbl b h)
    refine ⟨tx', htx, ?_⟩
    rw [h1, h2, h3, kidsT, countK]
    have el : p + (10 :: pad).length + (bodyT k s pad).length + (kidsT K s pad).length = p + (10 :: (pad ++ (bodyT k s pad ++ kidsT K s pad))).length := by simp; omega
    rw [el, Nat.add_assoc c]
    simp
theorem start_near {s n sp : ByteArray} {A : List Att} {D e r : List UInt8} {p c : Nat} {kd : Int} {S : List Fr} {L : List Tell} (hL : Knows L sp S.length) (hS : S.length < 32) (hc : c < 2000) (hn : ∃ r, bl n = 110 :: r) (hn2 : ∀ c ∈ bl n, okN c = true)
    (hnl : (bl n).length ≤ 40) (hs : Lets (bl s)) (hA : AOk A) (hAd : A.Pairwise (fun x y => (bl x.1 == bl y.1) = false)) (hAl : A.length ≤ 15) (he : Ends e kd) (hd : D.drop p = 60 :: (bl n ++ (atsT [32] (tagA s sp A) ++ (e ++ r)))) :
    ∃ Q q, nextP D (P_ p) = Q ∧ nextS D (P_ p) = P_ q ∧ opens Q ∧ q = p + (1 + (bl n).length + (atsT [32] (tagA s sp A)).length + e.length) ∧ D.drop q = r ∧ q ≤ D.length ∧
      opn Q S L c = if kd = 1 then .ok (.inside ⟨bl n, p, s, n, A, [], [], L⟩ S, L ++ newL s sp (S.length + 1), c + 1) else .ok (give (.mk s n A [] (str [])) S, L, c + 1) := by
  obtain ⟨h1, h2⟩ := open_near hn hn2 hnl hs hA hAd hAl he hd
  have hd1 : D.drop p = (60 :: (bl n ++ (atsT [32] (tagA s sp A) ++ e))) ++ r := by rw [hd]; simp
  have el : p + (60 :: (bl n ++ (atsT [32] (tagA s sp A) ++ e))).length = p + (1 + (bl n).length + (atsT [32] (tagA s sp A)).length + e.length) := by simp; omega
  have h3 := drop_on hd1
  have h4 := drop_le hd1 (by simp)
  rw [el] at h3 h4
  refine ⟨_, _, h1, h2, ?_, rfl, h3, h4, ?_⟩
  · rcases he with ⟨_, h⟩ | ⟨_, h⟩
    · exact .inl h
    · exact .inr h
  · unfold opn
    rw [enter_near hL hS hc hn hn2 hnl hA]
    rfl
theorem shut_near {D r : List UInt8} {p c : Nat} {n : List UInt8} {F : Fr} {S : List Fr} {L : List Tell} {x : Nd} (hn : Nm n) (hF : F.tag = n) (hx : shut F = .ok x) (hd : D.drop p = 60 :: 47 :: (n ++ 62 :: r)) :
    runAt D (P_ p) (.inside F S, L, c) = runAt D (P_ (p + (2 + n.length + 1))) (give x S, F.L, c) := by
  have h := close_on (eb := []) hn (fun _ h => by cases h) (fun _ h => by cases h) hd
  have hp := drop_lt hd
  rw [run_piece (by omega) h (show (2 : Int) ≠ 0 by decide), step_in, if_pos rfl, if_pos hF.symm, hx]
  rfl
theorem takes_mk {s n t : ByteArray} {A : List Att} {K : List Nd} (hn : ∃ r, bl n = 110 :: r) (hn2 : ∀ c ∈ bl n, okN c = true) (hnl : (bl n).length ≤ 40) (hs : Lets (bl s)) (ht : Lets (bl t)) (htr : trimL (bl t) = bl t) (hA : AOk A)
    (hAd : A.Pairwise (fun x y => (bl x.1 == bl y.1) = false)) (hAl : A.length ≤ 15) (hKt : K = [] ∨ bl t = []) (hK : ∀ k ∈ K, Takes k) : Takes (.mk s n A K t) := by
  intro sp pad D r p S L c hL hd hpad hc hdep
  have hcnt : (Nd.mk s n A K t).count = 1 + countK K := by rw [Nd.count]
  have hdp : (Nd.mk s n A K t).depth = 1 + depthK K := by rw [Nd.depth]
  rw [hcnt] at hc ⊢
  rw [hdp] at hdep
  have hnm := nm_own hn hn2 hnl
  by_cases hK0 : K.isEmpty = true
  · have hK1 : K = [] := List.isEmpty_iff.1 hK0
    subst hK1
    by_cases ht0 : bl t = []
    · have ht1 : str [] = t := by rw [← ht0, str_bl_]
      have hb : bodyT (.mk s n A [] t) sp pad = 60 :: (bl n ++ (atsT [32] (tagA s sp A) ++ [47, 62])) := by
        rw [bodyT, if_pos hK0, if_pos ht0]
      rw [hb] at hd ⊢
      obtain ⟨Q, q, h1, h2, h3, hq, -, -, ho⟩ := start_near (e := [47, 62]) (kd := 3) (r := r) (c := c) hL (by omega) (by omega) hn hn2 hnl hs hA hAd hAl (.inr ⟨rfl, rfl⟩) (by rw [hd]; simp)
      refine ⟨Q, q, h1, h2, h3, ?_⟩
      have el : p + (60 :: (bl n ++ (atsT [32] (tagA s sp A) ++ [47, 62]))).length = q := by rw [hq]; simp; omega
      rw [ho, el, if_neg (by decide), ht1, countK]
      rfl
    · have hb : bodyT (.mk s n A [] t) sp pad = 60 :: (bl n ++ (atsT [32] (tagA s sp A) ++ 62 :: (closeL (bl t) ++ (60 :: 47 :: (bl n ++ [62]))))) := by
        rw [bodyT, if_pos hK0, if_neg ht0]
      rw [hb] at hd ⊢
      obtain ⟨Q, q, h1, h2, h3, hq, hdq, hql, ho⟩ := start_near (e := [62]) (kd := 1) (r := closeL (bl t) ++ (60 :: 47 :: (bl n ++ 62 :: r))) (c := c) hL (by omega) (by omega) hn hn2 hnl hs hA hAd hAl (.inl ⟨rfl, rfl⟩) (by rw [hd]; simp)
      refine ⟨Q, q, h1, h2, h3, ?_⟩
      have h4 := text_on ht ht0 (.inr ⟨_, rfl⟩) hdq
      have hd5 := drop_on hdq
      have el : p + (60 :: (bl n ++ (atsT [32] (tagA s sp A) ++ 62 :: (closeL (bl t) ++ (60 :: 47 :: (bl n ++ [62])))))).length = q + (closeL (bl t)).length + (2 + (bl n).length + 1) := by rw [hq]; simp; omega
      rw [ho, el, if_pos rfl, countK]
      show runAt D (P_ q) _ = _
      rw [run_piece hql h4 (show (4 : Int) ≠ 0 by decide), step_in, if_neg (show ¬ (4 : Int) = 2 by decide), if_neg (by rintro (h | h) <;> exact absurd (show (4 : Int) = _ from h) (by decide))]
      show runAt D _ _ = _
      rw [shut_near (x := .mk s n A [] t) hnm rfl (by
        unfold shut
        rw [if_pos (.inr rfl)]
        show Res.ok (Nd.mk s n A [] (str (trimL (bl t)))) = _
        rw [htr, str_bl_]) hd5]
  · have hne : K ≠ [] := fun e => hK0 (by rw [e]; rfl)
    have ht0 : bl t = [] := hKt.resolve_left hne
    have ht1 : str [] = t := by rw [← ht0, str_bl_]
    have hb : bodyT (.mk s n A K t) sp pad = 60 :: (bl n ++ (atsT [32] (tagA s sp A) ++ 62 :: (kidsT K s (pad ++ [32]) ++ (10 :: (pad ++ (60 :: 47 :: (bl n ++ [62]))))))) := by
      rw [bodyT, if_neg hK0]
    rw [hb] at hd ⊢
    obtain ⟨Q, q, h1, h2, h3, hq, hdq, hql, ho⟩ := start_near (e := [62]) (kd := 1) (r := kidsT K s (pad ++ [32]) ++ (10 :: (pad ++ (60 :: 47 :: (bl n ++ 62 :: r))))) (c := c) hL (by omega) (by omega) hn hn2 hnl hs hA hAd hAl (.inl ⟨rfl, rfl⟩) (by rw [hd]; simp)
    refine ⟨Q, q, h1, h2, h3, ?_⟩
    obtain ⟨tx', htx, h4⟩ := kids_run K hK s (pad ++ [32]) D _ q ⟨bl n, p, s, n, A, [], [], L⟩ S (L ++ newL s sp (S.length + 1)) (c + 1) hL.more hdq hql
      (fun b hb => by rcases List.mem_append.1 hb with h | h; exact hpad b h; exact List.mem_singleton.1 h) (by omega) (by rw [List.length_cons]; omega) (fun _ h => by cases h)
    have hd5 : D.drop (q + (kidsT K s (pad ++ [32])).length) = (10 :: pad) ++ 60 :: (47 :: (bl n ++ 62 :: r)) := drop_on hdq
    have hbl : ∀ b ∈ (10 :: pad), b = 32 ∨ b = 10 := fun b hb => by
      rcases List.mem_cons.1 hb with rfl | hb
      · exact .inr rfl
      · exact .inl (hpad b hb)
    have hd6 := drop_on hd5
    have el : p + (60 :: (bl n ++ (atsT [32] (tagA s sp A) ++ 62 :: (kidsT K s (pad ++ [32]) ++ (10 :: (pad ++ (60 :: 47 :: (bl n ++ [62])))))))).length = q + (kidsT K s (pad ++ [32])).length + (10 :: pad).length + (2 + (bl n).length + 1) := by rw [hq]; simp; omega
    rw [ho, el, if_pos rfl]
    show runAt D (P_ q) _ = _
    rw [h4, run_blanks hbl (by simp) hd5, shut_near (x := .mk s n A K t) hnm rfl (by
      unfold shut
      have htr2 : trimL (tx' ++ 10 :: pad) = [] := trim_blanks fun b hb => by
        rcases List.mem_append.1 hb with h | h
        · exact htx b h
        · exact hbl b h
      rw [if_pos (.inl htr2)]
      show Res.ok (Nd.mk s n A ([] ++ K) (str (trimL (tx' ++ 10 :: pad)))) = _
      rw [htr2, ht1]; rfl) hd6, Nat.add_assoc c]
theorem takes {x : Nd} (hx : NearN x) : Takes x := by
  induction hx with
  | mk s n t A K hn hn2 hnl hs ht htr hA hAd hAl hKt _ ih => exact takes_mk hn hn2 hnl hs ht htr hA hAd hAl hKt ih

end Go.Proofs.YtnlkpdodacphkaaGreatDoor

namespace Go.Proofs.YtnlkpdodacphkaaGreatDoor
open Go Go.RowKit Go.Lib
set_option maxRecDepth 100000

theorem step_blank {v : List UInt8} {p : Nat} (ht : trimL v = []) (L : List Tell) (c : Nat) : step ⟨4, [], [], v, p⟩ (.before, L, c) = .ok (.before, L, c) ∧ ∀ x, step ⟨4, [], [], v, p⟩ (.behind x, L, c) = .ok (.behind x, L, c) := by
  have hb : blankP ⟨4, [], [], v, p⟩ := ⟨rfl, ht⟩
  exact ⟨by show (if _ then _ else _) = _; rw [if_pos hb], fun x => by show (if _ then _ else _) = _; rw [if_pos hb]⟩
end Go.Proofs.YtnlkpdodacphkaaGreatDoor
