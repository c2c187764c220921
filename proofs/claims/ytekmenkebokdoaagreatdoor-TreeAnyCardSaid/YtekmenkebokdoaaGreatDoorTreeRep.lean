/-
  Documents in memory: frames by types, elements as values, the three blocks of a document that is read.
-/
import Derived.Test.YtekmenkebokdoaaGreatDoorTreeMath
import Derived.Test.YtekmenkebokdoaaGreatDoorScanNew
import Derived.Test.YtekmenkebokdoaaGreatDoorSpaceEnter
import Derived.Test.YtekmenkebokdoaaGreatDoorSpaceLeave
namespace Go.Proofs.YtekmenkebokdoaaGreatDoor
open Go Go.RowKit
set_option maxRecDepth 100000

/-! ### Frames -/
/-- What is of none of these types lies as it lay. -/
structure Kept (ts : List TypeId) (w w' : World) : Prop where
  size : w.heap.size ≤ w'.heap.size
  block : ∀ j, j < w.heap.size → (∀ c t z, w.heap[j]? = some (.cells c t z) → t ∉ ts) → w'.heap[j]? = w.heap[j]?
theorem Kept.refl (ts : List TypeId) (w : World) : Kept ts w w := ⟨Nat.le_refl _, fun _ _ _ => rfl⟩
theorem Kept.trans {ts : List TypeId} {a b c : World} (h : Kept ts a b) (k : Kept ts b c) : Kept ts a c :=
  ⟨Nat.le_trans h.size k.size, fun j hj hn => by
    have e := h.block j hj hn
    exact (k.block j (Nat.lt_of_lt_of_le hj h.size) (by rw [e]; exact hn)).trans e⟩
theorem Kept.of {w w' : World} (ts : List TypeId) (h : Below w.heap.size w w') : Kept ts w w' := ⟨h.size, fun j hj _ => h.block j hj⟩
theorem Kept.alloc (ts : List TypeId) (w : World) (o : Obj) : Kept ts w (w.alloc o) := Kept.of ts ((Below.refl _ _).alloc (Nat.le_refl _) _)
theorem Kept.mono {ts us : List TypeId} {w w' : World} (h : Kept ts w w') (hs : ∀ t ∈ ts, t ∈ us) : Kept us w w' :=
  ⟨h.size, fun j hj hn => h.block j hj fun c t z e ht => hn c t z e (hs t ht)⟩
theorem Kept.heap {ts : List TypeId} {w w' : World} (h : Kept ts w w') {b : Nat} {cs : Array Value} {t : TypeId} {z : Nat × Nat} (hb : w.heap[b]? = some (.cells cs t z)) (ht : t ∉ ts) : w'.heap[b]? = some (.cells cs t z) :=
  (h.block b (Array.getElem?_eq_some_iff.1 hb).1 (fun c t' z' e => by rw [hb] at e; cases e; exact ht)).trans hb
theorem Kept.only {ts : List TypeId} {b : Nat} {w w' : World} (h : Only b w w') {cs : Array Value} {t : TypeId} {z : Nat × Nat} (hb : w.heap[b]? = some (.cells cs t z)) (ht : t ∈ ts) : Kept ts w w' :=
  ⟨h.size, fun j hj hn => h.block j hj (fun e => by rw [e] at hn; exact hn cs t z hb ht)⟩
theorem Kept.set {ts : List TypeId} {w : World} {b : Nat} {cs : Array Value} {t : TypeId} {z : Nat × Nat} (h : w.heap[b]? = some (.cells cs t z)) (ht : t ∈ ts) (o : Nat) (v : Value) : Kept ts w (w.setCell ⟨b, o, none⟩ v) :=
  Kept.only (Only.set b o w v) h ht
theorem Kept.apart {w w' : World} (h : Apart w w') : Kept [68, 71] w w' :=
  ⟨h.size, fun j hj hn => h.block j hj (fun ⟨c, t, z, e, ht⟩ => hn c t z e (by rcases ht with h | h <;> simp [h]))⟩
theorem Kept.owns {ts : List TypeId} {w w' : World} (h : Kept ts w w') {base : Nat} {e : TypeId} {z n : Nat} {v : Value} {xs : List Value} (ho : w.ownsRow base e z v n xs) (he : e ∉ ts) : w'.ownsRow base e z v n xs := by
  refine ⟨ho.1, ?_⟩
  rcases ho.2 with hn | ⟨g, cap, cur, hv, hb, hg, r⟩
  · exact .inl hn
  · exact .inr ⟨g, cap, cur, hv, hb, h.heap hg he, r⟩
/-- The types of what a document's reading changes. -/
def docT : List TypeId := [68, 71, 58, 65]
theorem Kept.doc {w w' : World} (h : Apart w w') : Kept docT w w' := (Kept.apart h).mono (by decide)

/-! ### Elements as values -/
/-- A slice of attributes, as it reads. -/
def AttV (P : Nat → Prop) (w : World) (v : Value) (A : List Att) : Prop :=
  ∃ ao cap, v = .slice ao A.length cap ∧ (0 < A.length → ∃ g o, ao = some ⟨g, o, none⟩ ∧ P g ∧ g < w.heap.size ∧
    ∀ j (h : j < A.length), w.cell? ⟨g, o + j * 2, none⟩ = some (.string (A[j]'h).1) ∧ w.cell? ⟨g, o + j * 2 + 1, none⟩ = some (.string (A[j]'h).2))
/-- An element's value; its blocks are those that P says. -/
inductive NodeV (P : Nat → Prop) (w : World) : Value → Nd → Prop where
  | mk (sp nm tx : ByteArray) (A : List Att) (K : List Nd) (va : Value) (ao : Option Addr) (cap : Nat) (c : Nat → Nat → Value) (ha : AttV P w va A)
    (hk : 0 < K.length → ∃ g o, ao = some ⟨g, o, none⟩ ∧ P g ∧ g < w.heap.size ∧ ∀ j, j < K.length → ∀ q, q < 5 → w.cell? ⟨g, o + j * 5 + q, none⟩ = some (c j q))
    (hn : ∀ j (h : j < K.length), NodeV P w (.agg #[c j 0, c j 1, c j 2, c j 3, c j 4]) (K[j]'h)) :
    NodeV P w (.agg #[.string sp, .string nm, va, .slice ao K.length cap, .string tx]) (.mk sp nm A K tx)
theorem AttV.to {P P' : Nat → Prop} {w w' : World} {v : Value} {A : List Att} (h : AttV P w v A) (hs : w.heap.size ≤ w'.heap.size) (hb : ∀ g, P g → g < w.heap.size → P' g ∧ w'.heap[g]? = w.heap[g]?) : AttV P' w' v A := by
  obtain ⟨ao, cap, hv, h⟩ := h
  refine ⟨ao, cap, hv, fun h0 => ?_⟩
  obtain ⟨g, o, ha, hp, hg, h⟩ := h h0
  obtain ⟨hp', he⟩ := hb g hp hg
  exact ⟨g, o, ha, hp', Nat.lt_of_lt_of_le hg hs, fun j hj => ⟨(World.cell?_of_block (w := w) he).trans (h j hj).1, (World.cell?_of_block (w := w) he).trans (h j hj).2⟩⟩
theorem NodeV.to {P P' : Nat → Prop} {w w' : World} {v : Value} {x : Nd} (h : NodeV P w v x) (hs : w.heap.size ≤ w'.heap.size) (hb : ∀ g, P g → g < w.heap.size → P' g ∧ w'.heap[g]? = w.heap[g]?) : NodeV P' w' v x := by
  induction h with
  | mk sp nm tx A K va ao cap c ha hk hn ih =>
    refine .mk sp nm tx A K va ao cap c (ha.to hs hb) (fun h0 => ?_) ih
    obtain ⟨g, o, hao, hp, hg, h⟩ := hk h0
    obtain ⟨hp', he⟩ := hb g hp hg
    exact ⟨g, o, hao, hp', Nat.lt_of_lt_of_le hg hs, fun j hj q hq => (World.cell?_of_block (w := w) he).trans (h j hj q hq)⟩
theorem NodeV.stay {P : Nat → Prop} {w w' : World} {v : Value} {x : Nd} (h : NodeV P w v x) (hb : Below w.heap.size w w') : NodeV P w' v x := h.to hb.size fun g hp hg => ⟨hp, hb.block g hg⟩
theorem AttV.stay {P : Nat → Prop} {w w' : World} {v : Value} {A : List Att} (h : AttV P w v A) (hb : Below w.heap.size w w') : AttV P w' v A := h.to hb.size fun g hp hg => ⟨hp, hb.block g hg⟩
/-- The five cells of an element. -/
structure NV where
  a : Value
  b : Value
  c : Value
  d : Value
  e : Value
def NV.val (x : NV) : Value := .agg #[x.a, x.b, x.c, x.d, x.e]
def NV.at_ (x : NV) (q : Nat) : Value := match q with | 0 => x.a | 1 => x.b | 2 => x.c | 3 => x.d | _ => x.e
def cellsN (L : List NV) : List Value := L.flatMap fun x => [x.a, x.b, x.c, x.d, x.e]
theorem cellsN_len : ∀ L : List NV, (cellsN L).length = L.length * 5
  | [] => rfl
  | x :: L => by
    have ih := cellsN_len L
    have e : cellsN (x :: L) = [x.a, x.b, x.c, x.d, x.e] ++ cellsN L := rfl
    rw [e, List.length_append, ih]
    show 5 + _ = (L.length + 1) * 5
    omega
theorem cellsN_app (L M : List NV) : cellsN (L ++ M) = cellsN L ++ cellsN M := by unfold cellsN; simp
theorem cellsN_get : ∀ (L : List NV) (j : Nat) (h : j < L.length) (q : Nat), q < 5 → (cellsN L)[j * 5 + q]? = some ((L[j]'h).at_ q)
  | x :: L, 0, h, q, hq => by
    have e : cellsN (x :: L) = [x.a, x.b, x.c, x.d, x.e] ++ cellsN L := rfl
    rw [e, Nat.zero_mul, Nat.zero_add, List.getElem?_append_left (by show q < 5; exact hq)]
    match q, hq with
    | 0, _ => rfl
    | 1, _ => rfl
    | 2, _ => rfl
    | 3, _ => rfl
    | 4, _ => rfl
  | x :: L, j + 1, h, q, hq => by
    have ih := cellsN_get L j (by simpa using h) q hq
    have e : cellsN (x :: L) = [x.a, x.b, x.c, x.d, x.e] ++ cellsN L := rfl
    rw [e, List.getElem?_append_right (by show 5 ≤ _; omega), show (j + 1) * 5 + q - ([x.a, x.b, x.c, x.d, x.e] : List Value).length = j * 5 + q by show (j + 1) * 5 + q - 5 = _; omega, ih]
    rfl
/-- An element's value has five cells. -/
theorem NodeV.cells {P : Nat → Prop} {w : World} {v : Value} {x : Nd} (h : NodeV P w v x) : ∃ y : NV, v = y.val ∧ ∃ sp nm tx va ao n cap, y = ⟨.string sp, .string nm, va, .slice ao n cap, .string tx⟩ := by
  cases h
  exact ⟨⟨_, _, _, _, _⟩, rfl, _, _, _, _, _, _, _, rfl⟩
/-- Elements that stand in a row. -/
def RowN (Q : Nat) (w : World) (v : Value) (V : List NV) (K : List Nd) : Prop :=
  V.length = K.length ∧ w.ownsRow Q 25 5 v V.length (cellsN V) ∧ ∀ j (h : j < V.length) (h' : j < K.length), NodeV (fun g => Q ≤ g ∧ v.ownBlock ≠ some g) w (V[j]'h).val (K[j]'h')

end Go.Proofs.YtekmenkebokdoaaGreatDoor
