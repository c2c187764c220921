/-
  What element and fill keep, and what they leave; what the machine does at each piece.
  An element that is put behind those that are there: what fill keeps, behind its append.
  The walk of galliardref06.name.
  The walk of galliardref01.Plain.
  The walk of galliardref01.Trim: two loops, from both ends.
  Operations of a region that asks the tape, where what is known of the world hangs on which of them have come up already.
-/
import Derived.Test.YtincdacickhdkaaGreatDoorB16
import Derived.Test.YtincdacickhdkaaGreatDoorB4
import Derived.Test.YtincdacickhdkaaGreatDoorB14
import Derived.Test.YtincdacickhdkaaGreatDoorB7
import Derived.Deep.LoopGhost
import Derived.Test.YtincdacickhdkaaGreatDoorB10
import Derived.Test.YtincdacickhdkaaGreatDoorB2
import Derived.OwnWalk
import Derived.IntWalk
import Derived.Test.YtincdacickhdkaaGreatDoorB9
import Derived.OrdersHeld
import Derived.Deep.RegionHeld
namespace Go.Proofs.YtincdacickhdkaaGreatDoor
open Go Go.RowKit
set_option maxRecDepth 100000

/-! ### the machine, piece by piece, within an element -/
theorem taken_end {D : List UInt8} {σ : St} {p : Pc} {F : Fr} {S : List Fr} {L : List Tell} {c : Nat} (h : p.kind = 0) : takenAt D σ p (.inside F S, L, c) = .bad 3 σ.pos := by
  unfold takenAt; rw [if_pos h]; rfl
theorem taken_in {D : List UInt8} {σ : St} {p : Pc} {m : Mach} (h : p.kind ≠ 0) : takenAt D σ p m = (step p m).on fun m' => runAt D σ m' := by
  unfold takenAt; rw [if_neg h]
theorem taken_close {D : List UInt8} {σ : St} {p : Pc} {F : Fr} {S : List Fr} {L : List Tell} {c : Nat} (h : p.kind = 2) :
    takenAt D σ p (.inside F S, L, c) = if p.name = F.tag then (if trimL F.tx = [] ∨ F.K = [] then runAt D σ (give (.mk F.sp F.nm F.A F.K (str (trimL F.tx))) S, F.L, c) else .bad 3 F.at_) else .bad 3 p.at_ := by
  rw [taken_in (by rw [h]; decide), step_in, if_pos h]
  split
  · unfold shut
    split
    · rfl
    · rfl
  · rfl
theorem taken_open {D : List UInt8} {σ : St} {p : Pc} {F : Fr} {S : List Fr} {L : List Tell} {c : Nat} (h : opens p) : takenAt D σ p (.inside F S, L, c) = (opn p (F :: S) L c).on fun m' => runAt D σ m' := by
  have h0 : p.kind ≠ 0 ∧ p.kind ≠ 2 := by rcases h with h | h <;> rw [h] <;> decide
  rw [taken_in h0.1, step_in, if_neg h0.2, if_pos h]
theorem taken_text {D : List UInt8} {σ : St} {p : Pc} {F : Fr} {S : List Fr} {L : List Tell} {c : Nat} (h0 : p.kind ≠ 0) (h2 : p.kind ≠ 2) (h : ¬ opens p) :
    takenAt D σ p (.inside F S, L, c) = runAt D σ (.inside { F with tx := F.tx ++ p.text } S, L, c) := by
  rw [taken_in h0, step_in, if_neg h2, if_neg h]; rfl

/-! ### frames but for one block -/
structure KeptB (ts : List TypeId) (X : Nat) (w w' : World) : Prop where
  size : w.heap.size ≤ w'.heap.size
  block : ∀ j, j < w.heap.size → j ≠ X → (∀ c t z, w.heap[j]? = some (.cells c t z) → t ∉ ts) → w'.heap[j]? = w.heap[j]?
theorem KeptB.of {ts : List TypeId} {w w' : World} (X : Nat) (h : Kept ts w w') : KeptB ts X w w' := ⟨h.size, fun j hj _ hn => h.block j hj hn⟩
theorem KeptB.trans {ts : List TypeId} {X : Nat} {a b c : World} (h : KeptB ts X a b) (k : KeptB ts X b c) : KeptB ts X a c :=
  ⟨Nat.le_trans h.size k.size, fun j hj hx hn => by
    have e := h.block j hj hx hn
    exact (k.block j (Nat.lt_of_lt_of_le hj h.size) hx (by rw [e]; exact hn)).trans e⟩
theorem KeptB.only {ts : List TypeId} {X : Nat} {w w' w'' : World} (h : KeptB ts X w w') (ho : Only X w' w'') : KeptB ts X w w'' :=
  ⟨Nat.le_trans h.size ho.size, fun j hj hx hn => (ho.block j (Nat.lt_of_lt_of_le hj h.size) hx).trans (h.block j hj hx hn)⟩
theorem KeptB.new {ts : List TypeId} {X : Nat} {w w' w'' : World} (h : KeptB ts X w w') {k : Nat} (ho : Only k w' w'') (hk : w.heap.size ≤ k) : KeptB ts X w w'' :=
  ⟨Nat.le_trans h.size ho.size, fun j hj hx hn => (ho.block j (Nat.lt_of_lt_of_le hj h.size) (by omega)).trans (h.block j hj hx hn)⟩
theorem KeptB.grownNew {ts : List TypeId} {X : Nat} {w w' w'' : World} {row : Option Nat} (h : KeptB ts X w w') (hg : w'.grownBy w'' row) (hr : ∀ r, row = some r → w.heap.size ≤ r) : KeptB ts X w w'' :=
  ⟨Nat.le_trans h.size hg.size, fun j hj hx hn => (hg.block j (Nat.lt_of_lt_of_le hj h.size) (fun e => by have := hr j e.symm; omega)).trans (h.block j hj hx hn)⟩
theorem Kept.butNew {ts : List TypeId} {X : Nat} {w w' w'' : World} (h : Kept ts w w') (k : KeptB ts X w' w'') (hX : w.heap.size ≤ X) : Kept ts w w'' :=
  ⟨Nat.le_trans h.size k.size, fun j hj hn => by
    have e := h.block j hj hn
    exact (k.block j (Nat.lt_of_lt_of_le hj h.size) (by omega) (by rw [e]; exact hn)).trans e⟩
theorem KeptB.heap {ts : List TypeId} {X : Nat} {w w' : World} (h : KeptB ts X w w') {b : Nat} {cs : Array Value} {t : TypeId} {z : Nat × Nat} (hb : w.heap[b]? = some (.cells cs t z)) (hx : b ≠ X) (ht : t ∉ ts) : w'.heap[b]? = some (.cells cs t z) :=
  (h.block b (Array.getElem?_eq_some_iff.1 hb).1 hx (fun c t' z' e => by rw [hb] at e; cases e; exact ht)).trans hb

/-! ### a document in a world where others are touched -/
theorem DS.kept {B dd b q d c : Nat} {s : ByteArray} {σ : St} {L : List Tell} {w w' : World} (h : DS B dd b q s σ d L c w) {ts : List TypeId} (hk : Kept ts w w') (hb : Below B w w') (ht : ∀ t ∈ docT, t ∉ ts) : DS B dd b q s σ d L c w' := by
  have hdt : 75 ∈ docT ∧ 78 ∈ docT ∧ 56 ∈ docT ∧ 72 ∈ docT := by decide
  refine ⟨⟨h.sc.base, h.sc.len, h.sc.pos, h.sc.glob.step hb, hk.heap h.sc.heap (ht _ hdt.2.2.2)⟩, ?_, h.base, hk.heap h.heap (ht _ hdt.2.2.1), h.pu⟩
  obtain ⟨h0, k, cap, hq, ho⟩ := h.sp
  exact ⟨h0, k, cap, hk.heap hq (ht _ hdt.2.1), hk.owns ho (ht _ hdt.1)⟩

/-! ### elements in a row -/
def RowK (Q : Nat) (w : World) (v : Value) (V : List NV) (K : List Nd) : Prop :=
  V.length = K.length ∧ w.ownsRow Q 25 5 v V.length (cellsN V) ∧ ∀ j (h : j < V.length) (h' : j < K.length), NodeV (NB Q v.ownBlock w) w (V[j]'h).val (K[j]'h')
theorem RowK.nil (Q : Nat) (w : World) : RowK Q w (.slice none 0 0) [] [] := ⟨rfl, World.ownsRow_nil _ _ _ _, fun j h => absurd h (Nat.not_lt_zero j)⟩
theorem RowK.kept {Q : Nat} {w w' : World} {v : Value} {V : List NV} {K : List Nd} (h : RowK Q w v V K) {ts : List TypeId} (hk : Kept ts w w') (h1 : 48 ∉ ts) (h2 : 25 ∉ ts) : RowK Q w' v V K :=
  ⟨h.1, hk.owns h.2.1 h2, fun j hj hj' => (h.2.2 j hj hj').kept hk h1 h2⟩
/-- Another block than those of the row, and of its elements, is touched. -/
theorem RowK.only {Q k : Nat} {w w' : World} {v : Value} {V : List NV} {K : List Nd} (h : RowK Q w v V K) (ho : Only k w w') (hk : k < Q) : RowK Q w' v V K := by
  refine ⟨h.1, ?_, fun j hj hj' => (h.2.2 j hj hj').to ho.size fun g hp hg => ?_⟩
  · refine h.2.1.kept ho.grown (.inr fun e => ?_)
    have := (h.2.1.lt k e).1
    omega
  · have e := ho.block g hg (by have := hp.1; omega)
    obtain ⟨h0, hr, cs, t, z, h3, h4⟩ := hp
    exact ⟨⟨h0, hr, cs, t, z, e.trans h3, h4⟩, e⟩

/-! ### what element and fill leave -/
def ElGives (B dd b q : Nat) (s : ByteArray) (S : List Fr) (L : List Tell) (R0 : Res Nd) (σ : St) (c : Nat) (w : World) (r : Ending) (w' : World) : Prop :=
  ((∃ e a, r = dies e a ∧ R0 = .bad e a) ∨
    ∃ x v σ' c', r = .returned v ∧ NodeV (NB w.heap.size none w') w' v x ∧ DS B dd b q s σ' S.length L c' w' ∧ R0 = runAt (bl s) σ' (give x S, L, c') ∧ σ.pos ≤ σ'.pos ∧ c < c') ∧
  Below B w w' ∧ Kept docT w w'
def pieceV (p : Pc) (v : Value) : Value := .agg #[.int .i64 p.kind, .string (str p.name), v, .string (str p.text), .int .i64 p.at_]
/-- The contract of element, within k elements. -/
def ElSpec (B dd b q : Nat) (s : ByteArray) (k : Nat) : Prop :=
  ∀ (S : List Fr) (L : List Tell) (c : Nat) (σ : St) (p : Pc) (v : Value) (w : World) (R0 : Res Nd), S.length = k → DS B dd b q s σ k L c w → RowsB b w v p.attrs → Took (bl s) σ p → opens p →
    R0 = ((opn p S L c).on fun m' => runAt (bl s) σ m') → Calls Tryz.prog 40 #[.pointer (some ⟨dd, 0, none⟩), pieceV p v] w (ElGives B dd b q s S L R0 σ c w)
def FiGives (B dd b q : Nat) (s : ByteArray) (S : List Fr) (F : Fr) (L' : List Tell) (X : Nat) (va : Value) (R0 : Res Nd) (σ : St) (c : Nat) (w : World) (r : Ending) (w' : World) : Prop :=
  ((∃ e a, r = dies e a ∧ R0 = .bad e a) ∨
    ∃ K V vk tx σ' c', r = .returned (.tuple #[]) ∧ w'.heap[X]? = some (.cells #[.string F.sp, .string F.nm, va, vk, .string tx] 25 (0, 0)) ∧ RowK w.heap.size w' vk V K ∧
      DS B dd b q s σ' (S.length + 1) L' c' w' ∧ R0 = runAt (bl s) σ' (give (.mk F.sp F.nm F.A K tx) S, F.L, c') ∧ σ.pos ≤ σ'.pos ∧ c ≤ c') ∧
  Below B w w' ∧ KeptB docT X w w'

/-! ### what fill's loop keeps -/
/-- Apart from the piece that was taken last. -/
structure FiC (B dd b q : Nat) (s : ByteArray) (S : List Fr) (F : Fr) (L' : List Tell) (σ0 : St) (c0 X Q : Nat) (va vo : Value) (o : Pc) (w : World) (σr : St) (K : List Nd) (V : List NV) (vk : Value) (tx : List UInt8) (cr : Nat) (wr : World) : Prop where
  ds : DS B dd b q s σr (S.length + 1) L' cr wr
  below : Below B w wr
  kept : KeptB docT X w wr
  hO : wr.heap[Q]? = some (.cells #[.int .i64 o.kind, .string (str o.name), vo, .string (str o.text), .int .i64 o.at_] 81 (0, 0))
  bl : Bl (Q + 1) (Q + 1) tx wr
  hX : wr.heap[X]? = some (.cells #[.string F.sp, .string F.nm, va, vk, .string ⟨#[]⟩] 25 (0, 0))
  row : RowK Q wr vk V K
  few : K.length ≤ cr
  txl : tx.length ≤ 800000 * σr.pos
  pos : σ0.pos ≤ σr.pos
  cnt : c0 ≤ cr
theorem FiC.move {B dd b q : Nat} {s : ByteArray} {S : List Fr} {F : Fr} {L' : List Tell} {σ0 : St} {c0 X Q : Nat} {va vo : Value} {o : Pc} {w : World} {σr : St} {K : List Nd} {V : List NV} {vk : Value} {tx : List UInt8} {cr : Nat} {wr : World}
    (h : FiC B dd b q s S F L' σ0 c0 X Q va vo o w σr K V vk tx cr wr) {σ' : St} {c' : Nat} {wx : World} (hd : DS B dd b q s σ' (S.length + 1) L' c' wx) (hb : Below B wr wx) (hk : Kept docT wr wx) (hc : cr ≤ c') (hp : σr.pos ≤ σ'.pos) :
    FiC B dd b q s S F L' σ0 c0 X Q va vo o w σ' K V vk tx c' wx :=
  ⟨hd, h.below.trans hb, h.kept.trans (.of X hk), hk.heap h.hO (by decide), h.bl.kept hk (by decide) (by decide), hk.heap h.hX (by decide), h.row.kept hk (by decide) (by decide), Nat.le_trans h.few hc,
    Nat.le_trans h.txl (Nat.mul_le_mul_left _ hp), Nat.le_trans h.pos hp, Nat.le_trans h.cnt hc⟩
theorem FiC.step {B dd b q : Nat} {s : ByteArray} {S : List Fr} {F : Fr} {L' : List Tell} {σ0 : St} {c0 X Q : Nat} {va vo : Value} {o : Pc} {w : World} {σr : St} {K : List Nd} {V : List NV} {vk : Value} {tx : List UInt8} {cr : Nat} {wr : World}
    (h : FiC B dd b q s S F L' σ0 c0 X Q va vo o w σr K V vk tx cr wr) {wx : World} (hb : Below wr.heap.size wr wx) : FiC B dd b q s S F L' σ0 c0 X Q va vo o w σr K V vk tx cr wx :=
  h.move (h.ds.step hb) (hb.mono h.ds.le) (Kept.of docT hb) (Nat.le_refl _) (Nat.le_refl _)
/-- Block P is written. -/
theorem FiC.put {B dd b q : Nat} {s : ByteArray} {S : List Fr} {F : Fr} {L' : List Tell} {σ0 : St} {c0 X Q : Nat} {va vo : Value} {o : Pc} {w : World} {σr : St} {K : List Nd} {V : List NV} {vk : Value} {tx : List UInt8} {cr : Nat} {wr : World}
    (h : FiC B dd b q s S F L' σ0 c0 X Q va vo o w σr K V vk tx cr wr) {P : Nat} {wx : World} (ho : Only P wr wx) {cs : Array Value} {z : Nat × Nat} (hP : wr.heap[P]? = some (.cells cs 81 z)) (hPQ : Q < P) (hw : w.heap.size = Q) (hBw : B ≤ w.heap.size) :
    FiC B dd b q s S F L' σ0 c0 X Q va vo o w σr K V vk tx cr wx := by
  have hk : Kept [81] wr wx := Kept.only ho hP (by decide)
  refine ⟨h.ds.only ho hP (by decide) (by omega), h.below.trans (ho.below (by omega) h.ds.le), h.kept.new ho (by omega), ho.heap h.hO (by omega), h.bl.kept hk (by decide) (by decide), hk.heap h.hX (by decide), h.row.kept hk (by decide) (by decide), h.few, h.txl, h.pos, h.cnt⟩
/-- The text grows. -/
theorem FiC.text {B dd b q : Nat} {s : ByteArray} {S : List Fr} {F : Fr} {L' : List Tell} {σ0 : St} {c0 X Q : Nat} {va vo : Value} {o : Pc} {w : World} {σr : St} {K : List Nd} {V : List NV} {vk : Value} {tx : List UInt8} {cr : Nat} {wr : World}
    (h : FiC B dd b q s S F L' σ0 c0 X Q va vo o w σr K V vk tx cr wr) {wx : World} {tx' : List UInt8} (hbl : Bl (Q + 1) (Q + 1) tx' wx) (hb : Below (Q + 1) wr wx) (hk : Kept bldT wr wx) (hw : w.heap.size = Q) (hBw : B ≤ w.heap.size) (σ' : St) (hd : DS B dd b q s σ' (S.length + 1) L' cr wr) (hp : σr.pos ≤ σ'.pos) (ht : tx'.length ≤ 800000 * σ'.pos) :
    FiC B dd b q s S F L' σ0 c0 X Q va vo o w σ' K V vk tx' cr wx := by
  have hb0 : Below B wr wx := hb.mono (by omega)
  refine ⟨hd.kept hk hb0 (by decide), h.below.trans hb0, ⟨Nat.le_trans h.kept.size hk.size, fun j hj hx hn => (hb.block j (by omega)).trans (h.kept.block j hj hx hn)⟩, hk.heap h.hO (by decide), hbl, hk.heap h.hX (by decide), h.row.kept hk (by decide) (by decide), h.few, ht, Nat.le_trans h.pos hp, h.cnt⟩

end Go.Proofs.YtincdacickhdkaaGreatDoor

namespace Go.Proofs.YtincdacickhdkaaGreatDoor
open Go Go.RowKit
set_option maxRecDepth 100000

theorem own_set {w : World} {base g n cap size : Nat} {e : TypeId} {xs : List Value} (h : w.ownsRow base e size (.slice (some ⟨g, 0, none⟩) n cap) n xs) (o : Nat) (u : Value) :
    (w.setCell ⟨g, o, none⟩ u).ownsRow base e size (.slice (some ⟨g, 0, none⟩) n cap) n (xs.set o u) := by
  refine ⟨by rw [List.length_set]; exact h.1, ?_⟩
  rcases h.2 with ⟨hv, _⟩ | ⟨g', cap', cur, hv, hb, hg, h1, h2, h3, h4⟩
  · cases hv
  · injection hv with e1 e2 e3
    injection e1 with e1
    injection e1 with e1
    subst e1 e3
    exact .inr ⟨g, cap, cur.setIfInBounds o u, rfl, hb, heap_put u hg, h1, h2, by rw [Array.size_setIfInBounds]; exact h3, by rw [Array.toList_setIfInBounds, List.take_set, h4]⟩
theorem own_cell {w : World} {base g n cap size : Nat} {e : TypeId} {xs : List Value} (h : w.ownsRow base e size (.slice (some ⟨g, 0, none⟩) n cap) n xs) : ∃ cur, w.heap[g]? = some (.cells cur e (0, 0)) ∧ base ≤ g := by
  rcases h.2 with ⟨hv, _⟩ | ⟨g', cap', cur, hv, hb, hg, _⟩
  · cases hv
  · injection hv with e1 e2 e3
    injection e1 with e1
    injection e1 with e1
    subst e1
    exact ⟨cur, hg, hb⟩
abbrev zeroC : List Value := [.string ⟨#[]⟩, .string ⟨#[]⟩, .slice none 0 0, .slice none 0 0, .string ⟨#[]⟩]
/-- A row's last element is written, cell by cell. -/
theorem own_last {w : World} {base g n cap : Nat} {V : List NV} (hn : V.length = n) (h : w.ownsRow base 25 5 (.slice (some ⟨g, 0, none⟩) (n + 1) cap) (n + 1) (cellsN V ++ zeroC)) (y : NV) :
    (((((w.setCell ⟨g, n * 5, none⟩ y.a).setCell ⟨g, n * 5 + 1, none⟩ y.b).setCell ⟨g, n * 5 + 2, none⟩ y.c).setCell ⟨g, n * 5 + 3, none⟩ y.d).setCell ⟨g, n * 5 + 4, none⟩ y.e).ownsRow base 25 5 (.slice (some ⟨g, 0, none⟩) (n + 1) cap) (n + 1) (cellsN (V ++ [y])) := by
  have h5 := own_set (own_set (own_set (own_set (own_set h (n * 5) y.a) (n * 5 + 1) y.b) (n * 5 + 2) y.c) (n * 5 + 3) y.d) (n * 5 + 4) y.e
  have hl : (cellsN V).length = n * 5 := by rw [cellsN_len, hn]
  have e : ((((((cellsN V ++ zeroC).set (n * 5) y.a).set (n * 5 + 1) y.b).set (n * 5 + 2) y.c).set (n * 5 + 3) y.d).set (n * 5 + 4) y.e) = cellsN (V ++ [y]) := by
    rw [cellsN_app]
    rw [List.set_append_right _ _ (by omega), List.set_append_right _ _ (by omega), List.set_append_right _ _ (by omega), List.set_append_right _ _ (by omega), List.set_append_right _ _ (by omega)]
    rw [hl, show n * 5 - n * 5 = 0 by omega, show n * 5 + 1 - n * 5 = 1 by omega, show n * 5 + 2 - n * 5 = 2 by omega, show n * 5 + 3 - n * 5 = 3 by omega, show n * 5 + 4 - n * 5 = 4 by omega]
    rfl
  rw [e] at h5
  exact h5
abbrev st5at (w : World) (g o : Nat) (y : NV) : World := ((((w.setCell ⟨g, o, none⟩ y.a).setCell ⟨g, o + 1, none⟩ y.b).setCell ⟨g, o + 2, none⟩ y.c).setCell ⟨g, o + 3, none⟩ y.d).setCell ⟨g, o + 4, none⟩ y.e
theorem st5at_only (w : World) (g o : Nat) (y : NV) : Only g w (st5at w g o y) :=
  ((((Only.set g o w y.a).trans (Only.set g (o + 1) _ y.b)).trans (Only.set g (o + 2) _ y.c)).trans (Only.set g (o + 3) _ y.d)).trans (Only.set g (o + 4) _ y.e)
/-- Behind the append: the row is a longer one, the element stands in it. -/
theorem FiC.kid {B dd b q : Nat} {s : ByteArray} {S : List Fr} {F : Fr} {L' : List Tell} {σ0 : St} {c0 X Q : Nat} {va vo : Value} {o : Pc} {w : World} {σr : St} {K : List Nd} {V : List NV} {vk : Value} {tx : List UInt8} {c' : Nat} {w6 wA w7 : World}
    (h : FiC B dd b q s S F L' σ0 c0 X Q va vo o w σr K V vk tx c' w6) (hfew : K.length < c') (hw : w.heap.size = Q) (hXQ : X < Q) (hBX : B ≤ X)
    {y : NV} {x : Nd} {lo : Nat} (hy : NodeV (NB lo none w6) w6 y.val x) (hlo : ∀ r, vk.ownBlock = some r → r < lo) (hQlo : Q ≤ lo)
    (hA : Below w6.heap.size w6 wA) {g n cap : Nat} (hn : V.length = n) (hown : w7.ownsRow Q 25 5 (.slice (some ⟨g, 0, none⟩) (n + 1) cap) (n + 1) (cellsN V ++ zeroC))
    (hg : wA.grownBy w7 vk.ownBlock) (hat : vk.ownBlock = some g ∨ g = wA.heap.size) :
    FiC B dd b q s S F L' σ0 c0 X Q va vo o w σr (K ++ [x]) (V ++ [y]) (.slice (some ⟨g, 0, none⟩) (n + 1) cap) tx c' ((st5at w7 g (n * 5) y).setCell ⟨X, 3, none⟩ (.slice (some ⟨g, 0, none⟩) (n + 1) cap)) ∧
      Kept [25] wA ((st5at w7 g (n * 5) y).setCell ⟨X, 3, none⟩ (.slice (some ⟨g, 0, none⟩) (n + 1) cap)) := by
  have hA6 := h.step hA
  have hrow : ∀ r, vk.ownBlock = some r → Q ≤ r ∧ ∃ cs, wA.heap[r]? = some (.cells cs 25 (0, 0)) := fun r hr => by
    rcases hA6.row.2.1.2 with ⟨hv, _⟩ | ⟨g', cap', cur, hv, hb', hg', _⟩
    · rw [hv] at hr; cases hr
    · rw [hv] at hr; cases hr; exact ⟨hb', cur, hg'⟩
  obtain ⟨cur7, hg7, hQg⟩ := own_cell hown
  have ho5 := st5at_only w7 g (n * 5) y
  have hgX : g ≠ X := by omega
  have hoX := Only.set X 3 (st5at w7 g (n * 5) y) (.slice (some ⟨g, 0, none⟩) (n + 1) cap)
  have heq : ∀ j, j < wA.heap.size → vk.ownBlock ≠ some j → j ≠ g → j ≠ X → ((st5at w7 g (n * 5) y).setCell ⟨X, 3, none⟩ (.slice (some ⟨g, 0, none⟩) (n + 1) cap)).heap[j]? = wA.heap[j]? := fun j hj hne hjg hjX =>
    (hoX.block j (Nat.lt_of_lt_of_le hj (Nat.le_trans hg.size ho5.size)) hjX).trans ((ho5.block j (Nat.lt_of_lt_of_le hj hg.size) hjg).trans (hg.block j hj (fun e => hne e.symm)))
  have hsz : wA.heap.size ≤ ((st5at w7 g (n * 5) y).setCell ⟨X, 3, none⟩ (.slice (some ⟨g, 0, none⟩) (n + 1) cap)).heap.size := Nat.le_trans hg.size (Nat.le_trans ho5.size hoX.size)
  have hjg : ∀ j, j < wA.heap.size → vk.ownBlock ≠ some j → j ≠ g := fun j hj hne e => by
    rcases hat with h2 | h2
    · exact hne (by rw [h2, e])
    · omega
  have hk : Kept [25] wA ((st5at w7 g (n * 5) y).setCell ⟨X, 3, none⟩ (.slice (some ⟨g, 0, none⟩) (n + 1) cap)) := ⟨hsz, fun j hj hn' => by
    have h1 : vk.ownBlock ≠ some j := fun e => by obtain ⟨_, cs', hc⟩ := hrow j e; exact hn' _ _ _ hc (by decide)
    exact heq j hj h1 (hjg j hj h1) (fun e => by rw [e] at hn'; exact hn' _ _ _ hA6.hX (by decide))⟩
  have hB9 : Below B wA ((st5at w7 g (n * 5) y).setCell ⟨X, 3, none⟩ (.slice (some ⟨g, 0, none⟩) (n + 1) cap)) := by
    have h1 : Below B wA w7 := (Below.refl B wA).grown hg hA6.ds.le (fun r hr => by have := (hrow r hr).1; omega)
    have h2 := h1.trans (ho5.below (by omega) (Nat.le_trans hA6.ds.le hg.size))
    exact h2.trans (hoX.below hBX (Nat.le_trans hA6.ds.le (Nat.le_trans hg.size ho5.size)))
  have hX7 : (st5at w7 g (n * 5) y).heap[X]? = some (.cells #[.string F.sp, .string F.nm, va, vk, .string ⟨#[]⟩] 25 (0, 0)) := by
    have hXl := (Array.getElem?_eq_some_iff.1 hA6.hX).1
    have hne : vk.ownBlock ≠ some X := fun e => by have := (hrow X e).1; omega
    exact (ho5.block X (Nat.lt_of_lt_of_le hXl hg.size) (fun e => hgX e.symm)).trans ((hg.block X hXl (fun e => hne e.symm)).trans hA6.hX)
  refine ⟨⟨hA6.ds.kept hk hB9 (by decide), hA6.below.trans hB9, ((hA6.kept.grownNew hg (fun r hr => by have := (hrow r hr).1; omega)).new ho5 (by omega)).only hoX, hk.heap hA6.hO (by decide), hA6.bl.kept hk (by decide) (by decide), ?_, ?_, ?_, hA6.txl, hA6.pos, hA6.cnt⟩, hk⟩
  · rw [heap_put _ hX7]; rfl
  · refine ⟨by rw [List.length_append, List.length_append, hA6.row.1]; rfl, ?_, fun j hj hj' => ?_⟩
    · have h9 := ownsRow_setCell_other (own_last hn hown y) (a := ⟨X, 3, none⟩) (by intro e; exact hgX (by cases e; rfl)) (.slice (some ⟨g, 0, none⟩) (n + 1) cap)
      have hl : (V ++ [y]).length = n + 1 := by rw [List.length_append, hn]; rfl
      rw [hl]
      exact h9
    · have hto : ∀ (v : Value) (z : Nd) (lo' : Nat) (row : Option Nat), NodeV (NB lo' row wA) wA v z → Q ≤ lo' → (∀ r, vk.ownBlock = some r → r < lo' ∨ row = some r) →
          NodeV (NB Q (Value.ownBlock (.slice (some ⟨g, 0, none⟩) (n + 1) cap)) ((st5at w7 g (n * 5) y).setCell ⟨X, 3, none⟩ (.slice (some ⟨g, 0, none⟩) (n + 1) cap))) ((st5at w7 g (n * 5) y).setCell ⟨X, 3, none⟩ (.slice (some ⟨g, 0, none⟩) (n + 1) cap)) v z := fun v z lo' row hv hl' hr => by
        refine hv.to hsz fun g' hp hg' => ?_
        obtain ⟨p1, p2, cs, t, zz, p3, p4⟩ := hp
        have hne : vk.ownBlock ≠ some g' := fun e => by
          rcases hr g' e with h1 | h1
          · omega
          · exact p2 h1
        have hgg := hjg g' hg' hne
        have he := heq g' hg' hne hgg (by omega)
        exact ⟨⟨by omega, fun e => hgg (by cases e; rfl), cs, t, zz, he.trans p3, p4⟩, he⟩
      by_cases hjn : j < V.length
      · rw [List.getElem_append_left hjn, List.getElem_append_left (by rw [← hA6.row.1]; exact hjn)]
        exact hto _ _ Q _ (hA6.row.2.2 j hjn (by rw [← hA6.row.1]; exact hjn)) (Nat.le_refl _) (fun r hr => .inr hr)
      · have hjV : j = V.length := by rw [List.length_append] at hj; have : [y].length = 1 := rfl; omega
        subst hjV
        rw [List.getElem_append_right (Nat.le_refl _), List.getElem_append_right (by rw [hA6.row.1]; exact Nat.le_refl _)]
        simp only [List.getElem_singleton]
        exact hto _ _ lo none (hy.kept (Kept.of [] hA) (by simp) (by simp)) hQlo (fun r hr => .inl (hlo r hr))
  · rw [List.length_append]; show K.length + 1 ≤ c'; omega

/-! ### two stores into two blocks -/
theorem setCell_comm (w : World) {p q : Addr} (h : p.block ≠ q.block) (u v : Value) : (w.setCell p u).setCell q v = (w.setCell q v).setCell p u := by
  unfold World.setCell
  simp only [World.mk.injEq, and_true]
  apply Array.ext_getElem?
  intro i
  simp only [Array.getElem?_modify]
  by_cases h1 : p.block = i
  · by_cases h2 : q.block = i
    · exact absurd (h1.trans h2.symm) h
    · simp [h1, h2]
  · by_cases h2 : q.block = i
    · simp [h1, h2]
    · simp [h1, h2]
theorem st5at_comm (w : World) {X g : Nat} (h : g ≠ X) (o k : Nat) (y : NV) (u : Value) : (st5at w g o y).setCell ⟨X, k, none⟩ u = st5at (w.setCell ⟨X, k, none⟩ u) g o y := by
  show (((((w.setCell ⟨g, o, none⟩ y.a).setCell ⟨g, o + 1, none⟩ y.b).setCell ⟨g, o + 2, none⟩ y.c).setCell ⟨g, o + 3, none⟩ y.d).setCell ⟨g, o + 4, none⟩ y.e).setCell ⟨X, k, none⟩ u = _
  rw [setCell_comm _ (p := ⟨g, o + 4, none⟩) (q := ⟨X, k, none⟩) h, setCell_comm _ (p := ⟨g, o + 3, none⟩) (q := ⟨X, k, none⟩) h, setCell_comm _ (p := ⟨g, o + 2, none⟩) (q := ⟨X, k, none⟩) h, setCell_comm _ (p := ⟨g, o + 1, none⟩) (q := ⟨X, k, none⟩) h, setCell_comm _ (p := ⟨g, o, none⟩) (q := ⟨X, k, none⟩) h]

end Go.Proofs.YtincdacickhdkaaGreatDoor

namespace Go.Proofs.YtincdacickhdkaaGreatDoor
open Go Go.RowKit Go.Lib
set_option maxRecDepth 100000

def nmB (b : Nat) : UInt8 := [97, 98, 90, 95, 48, 45, 46, 57].getD (b % 8) 0
def nmR (l : List UInt8) : List UInt8 := 110 :: (l.take 5).map fun c => nmB c.toNat
def abZ : ByteArray := ⟨#[97, 98, 90, 95, 48, 45, 46, 57]⟩
theorem abZ_at (b : Nat) (h : b % 8 < (⟨#[97, 98, 90, 95, 48, 45, 46, 57]⟩ : ByteArray).size) : (⟨#[97, 98, 90, 95, 48, 45, 46, 57]⟩ : ByteArray)[b % 8]'h = nmB b := by
  unfold nmB
  have h8 : b % 8 < 8 := Nat.mod_lt _ (by decide)
  have key : ∀ i : Fin 8, (⟨#[97, 98, 90, 95, 48, 45, 46, 57]⟩ : ByteArray)[i.val]'i.isLt = ([97, 98, 90, 95, 48, 45, 46, 57] : List UInt8).getD i.val 0 := by decide +kernel
  exact key ⟨b % 8, h8⟩
theorem nm_next {s X : ByteArray} {k : Nat} (hk : k < s.size) (h : bl X = 110 :: (((bl s).take k).map fun c => nmB c.toNat)) : bl (X ++ ⟨#[ub (nmB s[k].toNat).toNat]⟩) = 110 :: (((bl s).take (k + 1)).map fun c => nmB c.toNat) := by
  have hub : ub ((nmB s[k].toNat).toNat : Int) = nmB s[k].toNat := by
    rw [ub_eq (x := ((nmB s[k].toNat).toNat : Int)) (n := (nmB s[k].toNat).toNat) rfl]
    simp
  have hl : k < (bl s).length := by rw [bl_size]; exact hk
  have e : (bl s)[k]'hl = s[k] := rfl
  rw [hub, bl_append, h, List.take_succ_eq_append_getElem hl, List.map_append, e]
  rfl
theorem nm_all {s X : ByteArray} {k : Nat} (h : bl X = 110 :: (((bl s).take k).map fun c => nmB c.toNat)) (hk : ¬ k < s.size ∨ k = 5) (h5 : k ≤ 5) : X = str (nmR (bl s)) := by
  have e : (bl s).take k = (bl s).take 5 := by
    rcases hk with hk | rfl
    · rw [List.take_of_length_le (by rw [bl_size]; omega), List.take_of_length_le (by rw [bl_size]; omega)]
    · rfl
  unfold nmR
  rw [← str_bl_ X, h, e]
set_option maxHeartbeats 4000000 in
theorem name06 (s : ByteArray) (w : World) :
    Calls Tryz.prog 19 #[.string s] w fun e w' => e = .returned (.string (str (nmR (bl s)))) ∧ Below w.heap.size w w' := by
  go_enter Tryz.func19, Tryz.ntmps19
  go_wp2
  go_loopg [3, 4] s.size (fun g out at_ wr => ∃ (k : Nat) (X : ByteArray), g + k = s.size ∧ k ≤ 5 ∧ at_ = .int .i64 k ∧ out = .string X ∧ X.size = k + 1 ∧ Hid (bl X = 110 :: (((bl s).take k).map fun c => nmB c.toNat)) ∧ Below w.heap.size w wr)
  case atStart => exact ⟨0, ⟨#[110]⟩, rfl, by decide, rfl, rfl, by decide, Lib.hid (by simp [bl]), Below.refl _ _⟩
  case round =>
    obtain ⟨k, X, hg, hk5, rfl, rfl, hX, HX, hb⟩ := hrel
    by_cases hk : k < s.size
    · by_cases h5 : k < 5
      · have hk' : (k : Int) < (s.size : Int) := by omega
        have h5' : (k : Int) < 5 := by omega
        have h8 : s[k].toNat % 8 < (⟨#[97, 98, 90, 95, 48, 45, 46, 57]⟩ : ByteArray).size := Nat.mod_lt _ (by decide)
        have CV := conv1 wr ((nmB s[k].toNat).toNat : Int) (by have := (nmB s[k].toNat).toNat_lt; omega)
        rw [← abZ_at s[k].toNat h8] at CV
        have HN := Lib.hid (nm_next hk HX.out)
        rw [← abZ_at s[k].toNat h8] at HN
        generalize ub ((⟨#[97, 98, 90, 95, 48, 45, 46, 57]⟩ : ByteArray)[s[k].toNat % 8]'h8).toNat = c at CV HN
        clear HX
        go_wp2
        go_roundg (s.size - (k + 1))
        case measure => omega
        case rel => exact ⟨k + 1, X ++ ⟨#[c]⟩, by omega, by omega, rfl, rfl, by rw [ByteArray.size_append, hX]; rfl, HN, hb.alloc hb.size _⟩
      · have hk' : (k : Int) < (s.size : Int) := by omega
        have h5' : ¬ (k : Int) < 5 := by omega
        go_wp2
        go_ret
        exact ⟨by rw [← nm_all HX.out (.inr (by omega)) hk5]; rfl, hb⟩
    · have hk' : ¬ (k : Int) < (s.size : Int) := by omega
      go_wp2
      go_ret
      exact ⟨by rw [← nm_all HX.out (.inl hk) hk5]; rfl, hb⟩
theorem nmB_ok (b : Nat) : okN (nmB b) = true := by
  have key : ∀ i : Fin 8, okN (([97, 98, 90, 95, 48, 45, 46, 57] : List UInt8).getD i.val 0) = true := by decide +kernel
  exact key ⟨b % 8, Nat.mod_lt _ (by decide)⟩
theorem nmR_ok (l : List UInt8) : ∀ c ∈ nmR l, okN c = true := by
  intro c hc
  unfold nmR at hc
  rcases List.mem_cons.1 hc with rfl | h
  · decide
  · obtain ⟨x, _, rfl⟩ := List.mem_map.1 h
    exact nmB_ok _
theorem nmR_len (l : List UInt8) : (nmR l).length ≤ 6 := by
  unfold nmR
  rw [List.length_cons, List.length_map, List.length_take]
  omega

/-- An element's value: its attributes and its elements, as they read. -/
theorem parts06 {P : Nat → Prop} {w : World} {v : Value} {x : Nd} (h : NodeV P w v x) : ∃ (sp nm tx : ByteArray) (A : List Att) (K : List Nd) (a1 : Option Addr) (c1 : Nat) (a2 : Option Addr) (c2 : Nat) (c : Nat → Nat → Value),
    v = .agg #[.string sp, .string nm, .slice a1 A.length c1, .slice a2 K.length c2, .string tx] ∧ x = .mk sp nm A K tx ∧
    (0 < A.length → ∃ g o, a1 = some ⟨g, o, none⟩ ∧ P g ∧ g < w.heap.size ∧ ∀ j (h : j < A.length), w.cell? ⟨g, o + j * 2, none⟩ = some (.string (A[j]'h).1) ∧ w.cell? ⟨g, o + j * 2 + 1, none⟩ = some (.string (A[j]'h).2)) ∧
    (0 < K.length → ∃ g o, a2 = some ⟨g, o, none⟩ ∧ P g ∧ g < w.heap.size ∧ ∀ j, j < K.length → ∀ q, q < 5 → w.cell? ⟨g, o + j * 5 + q, none⟩ = some (c j q)) ∧
    (∀ j (h : j < K.length), NodeV P w (.agg #[c j 0, c j 1, c j 2, c j 3, c j 4]) (K[j]'h)) := by
  cases h with
  | mk sp nm tx A K va ao cap c ha hk hn =>
    obtain ⟨a1, c1, rfl, ha⟩ := ha
    exact ⟨sp, nm, tx, A, K, a1, c1, ao, cap, c, rfl, rfl, ha, hk, hn⟩

end Go.Proofs.YtincdacickhdkaaGreatDoor

namespace Go.Proofs.YtincdacickhdkaaGreatDoor
open Go.RowKit
set_option maxRecDepth 100000

/-- What Plain hands back: a text whose letters may all stand in one. -/
def Plains (s : ByteArray) (w : World) (r : Ending) (w' : World) : Prop := ∃ P, r = .returned (.string (str P)) ∧ Lets P ∧ P.length = s.size ∧ Below w.heap.size w w'
def PlR (s : ByteArray) (w : World) (g : Nat) (out at_ : Value) (wr : World) : Prop :=
  ∃ (k : Nat) (P : List UInt8), g + k = s.size ∧ at_ = .int .i64 k ∧ out = .string (str P) ∧ Lets P ∧ P.length = k ∧ Below w.heap.size w wr
theorem str_x (P : List UInt8) : str P ++ ⟨#[120]⟩ = str (P ++ [120]) := str_append P [120]
set_option maxHeartbeats 4000000 in
theorem rplain (s : ByteArray) (w : World) (hs : s.size ≤ 1000000) :
    Calls Tryz.prog 20 #[.string s] w (Plains s w) := by
  go_enter Tryz.func20, Tryz.ntmps20
  go_wp2
  go_loopg [3, 4] s.size (fun g out at_ wr => PlR s w g out at_ wr)
  case atStart => exact ⟨0, [], rfl, rfl, rfl, Lets.nil, rfl, Below.refl _ _⟩
  case round =>
    obtain ⟨k, P, hg, rfl, rfl, hP, hPl, hb⟩ := hrel
    by_cases hk : k < s.size
    · have hk' : (k : Int) < (s.size : Int) := by omega
      have hk2 : (k : Int) ≤ (s.size : Int) := by omega
      have C1 := rget (s.extract k s.size) wr (by have := size_from s k; omega)
      rw [bl_from] at C1
      have hgl := gl_pos ((bl s).drop k)
      have htk := gl_take ((bl s).drop k)
      rw [List.length_drop, bl_size] at hgl
      obtain ⟨A, hA⟩ : ∃ A, (gl ((bl s).drop k)).1 = A := ⟨_, rfl⟩
      obtain ⟨Bi, hB⟩ : ∃ Bi, (gl ((bl s).drop k)).2 = Bi := ⟨_, rfl⟩
      have hmay := gl_may ((bl s).drop k)
      rw [hA, hB] at C1 htk hmay
      rw [hB] at hgl
      obtain ⟨n, rfl⟩ : ∃ n : Nat, Bi = n := ⟨Bi.toNat, by omega⟩
      have hn4 : n ≤ s.size - k := by omega
      have C1 := Lib.hid C1
      have HP := Lib.hid hP
      have HPl := Lib.hid hPl
      clear hP hPl hA hB
      have hx : ∀ w', Below w.heap.size w w' → PlR s w (s.size - (k + 1)) (.string (str P ++ ⟨#[120]⟩)) (.int .i64 ((k : Int) + 1)) w' := fun w' h =>
        ⟨k + 1, P ++ [120], by omega, rfl, by rw [str_x], by have := HP.out.snoc 120 (by decide); rw [put_120] at this; exact this, by rw [List.length_append, HPl.out]; rfl, h⟩
      have HX := Lib.hid hx
      have hPz : (str P).size ≤ 1000000 := by rw [str_size, HPl.out]; omega
      clear hx
      by_cases h0 : n = 0
      · subst h0
        clear hgl htk hmay
        go_wp2_with fail
        refine C1.out.mono ?_
        rintro r w1 ⟨rfl, hb1⟩
        have hgo := HX.out w1 (hb.trans (hb1.mono hb.size))
        clear hb hb1 C1
        go_wp2
        go_roundg (s.size - (k + 1))
        case measure => omega
        case rel => exact hgo
      · have q0 : ((n : Int) == 0) = false := by simp; omega
        have htk := htk (by omega)
        have hmay := hmay (by omega)
        simp only [Int.toNat_natCast] at htk
        have hsub : bl (s.extract k (k + n)) = put A := by
          rw [bl_sub, List.drop_take, Nat.add_sub_cancel_left]; exact htk
        have hss : (s.extract k (k + n)).size = n := by
          have h1 := congrArg List.length htk
          rw [← bl_size, hsub, ← htk, List.length_take, List.length_drop, bl_size]; omega
        have C2 := fun w1 => rtext (s.extract k (k + n)) w1 (by rw [hss]; omega)
        rw [hsub] at C2
        have hpt := textL_put A hmay
        obtain ⟨X, hX⟩ : ∃ X, textL (put A) = X := ⟨_, rfl⟩
        rw [hX] at hpt C2
        have C2 := Lib.hid C2
        obtain ⟨Y, hY⟩ : ∃ Y, s.extract k (k + n) = Y := ⟨_, rfl⟩
        have hYs : Y = str (put A) := by rw [← hY, ← bl_str (s.extract k (k + n)), hsub]
        have hpl : (put A).length = n := by rw [← hsub, bl_size, hss]
        have e1 : (k : Int) + (n : Int) ≤ (s.size : Int) := by omega
        by_cases hX0 : 0 ≤ X
        · clear htk hmay hsub hss hpt hX hYs hpl hgl hn4 hY
          go_wp2_with fail
          refine C1.out.mono ?_
          rintro r w1 ⟨rfl, hb1⟩
          have hb2 := hb.trans (hb1.mono hb.size)
          clear hb hb1 C1
          go_wp2_with fail
          refine (C2.out w1).mono ?_
          rintro r w2 ⟨rfl, hb3⟩
          have hgo := HX.out w2 (hb2.trans (hb3.mono hb2.size))
          clear hb2 hb3 C2
          go_wp2
          go_roundg (s.size - (k + 1))
          case measure => omega
          case rel => exact hgo
        · have hlet : letB A = true := hpt.1 (by omega)
          have hX1 : decide (0 ≤ X) = false := decide_eq_false hX0
          have hgo : ∀ w', Below w.heap.size w w' → PlR s w (s.size - (k + n)) (.string (str P ++ s.extract k (k + n))) (.int .i64 ((k : Int) + (n : Int))) w' := fun w' h =>
            ⟨k + n, P ++ put A, by omega, rfl, by rw [hY, hYs, str_append], HP.out.snoc A hlet, by rw [List.length_append, HPl.out, hpl], h⟩
          have HG := Lib.hid hgo
          have hYz : (s.extract k (k + n)).size ≤ 1000000 := by rw [hss]; omega
          clear hgo htk hmay hsub hss hpt hX hYs hpl hgl hn4 hY hlet hX0
          go_wp2_with fail
          refine C1.out.mono ?_
          rintro r w1 ⟨rfl, hb1⟩
          have hb2 := hb.trans (hb1.mono hb.size)
          clear hb hb1 C1
          go_wp2_with fail
          refine (C2.out w1).mono ?_
          rintro r w2 ⟨rfl, hb3⟩
          have hgo := HG.out w2 (hb2.trans (hb3.mono hb2.size))
          clear hb2 hb3 C2
          go_wp2
          go_roundg (s.size - (k + n))
          case measure => omega
          case rel => exact hgo
    · go_wp2
      go_ret
      exact ⟨P, rfl, hP, by omega, hb⟩

end Go.Proofs.YtincdacickhdkaaGreatDoor

namespace Go.Proofs.YtincdacickhdkaaGreatDoor
open Go.RowKit
set_option maxRecDepth 100000

theorem trimmed_cut (s : ByteArray) (a b : Nat) (hab : a ≤ b) (hb : b ≤ s.size) (h1 : ∀ j, j < a → blankB (nth (bl s) j : Int) = true) (h2 : a < s.size → blankB (nth (bl s) a : Int) = false)
    (h3 : ∀ j, b ≤ j → j < s.size → blankB (nth (bl s) j : Int) = true) (h4 : a < b → blankB (nth (bl s) (b - 1) : Int) = false) : s.extract a b = trimmed s := by
  have h := trim_cut (bl s) a b hab (by rw [bl_size]; exact hb) h1 (by rw [bl_size]; exact h2) (by rw [bl_size]; exact h3) h4
  rw [Lib.extract_eq]
  unfold trimmed
  rw [h, List.drop_take]; rfl
theorem ext_none (s : ByteArray) (m : Nat) : s.extract m m = ByteArray.empty := by
  rw [Lib.extract_eq, Nat.sub_self, List.take_zero]; rfl
/-- What is known behind the first loop; behind the second one. -/
def Ahead (s : ByteArray) (a : Nat) : Prop := ∀ j, j < a → blankB (nth (bl s) j : Int) = true
def Behind (s : ByteArray) (b : Nat) : Prop := ∀ j, b ≤ j → j < s.size → blankB (nth (bl s) j : Int) = true
def Stands (s : ByteArray) (a : Nat) : Prop := a < s.size → blankB (nth (bl s) a : Int) = false
theorem Ahead.step {s : ByteArray} {a : Nat} (h : Ahead s a) (hc : blankB (nth (bl s) a : Int) = true) : Ahead s (a + 1) := by
  intro j hj
  by_cases e : j = a
  · subst e; exact hc
  · exact h j (by omega)
theorem Behind.step {s : ByteArray} {b : Nat} (h : Behind s (b + 1)) (hc : blankB (nth (bl s) b : Int) = true) : Behind s b := by
  intro j hj hl
  by_cases e : j = b
  · subst e; exact hc
  · exact h j (by omega) hl
set_option maxRecDepth 100000 in
set_option maxHeartbeats 16000000 in
theorem rtrim0 (s : ByteArray) (w : World) (A : ByteArray) (hs : s.size ≤ 9223372036854775807) (HR : Hid (A = trimmed s)) :
    Calls Tryz.prog 21 #[.string s] w fun e w' => e = .returned (.string A) ∧ Below w.heap.size w w' := by
  go_enter Tryz.func21, Tryz.ntmps21
  go_wp2
  go_loop [3] (fun i => ∃ k : Nat, k ≤ s.size ∧ i = .int .i64 k ∧ Hid (Ahead s k)) (fun i => s.size - (intOf i).toNat)
  case atStart => exact ⟨0, by omega, rfl, Lib.hid (fun j h => absurd h (by omega))⟩
  case round =>
    obtain ⟨k, hk, rfl, HK⟩ := hrel
    by_cases hin : k < s.size
    · have hin' : (k : Int) < (s.size : Int) := by omega
      obtain ⟨x, hx⟩ : ∃ x, s[k]'hin = x := ⟨_, rfl⟩
      have hn : nth (bl s) k = x.toNat := by rw [nth_get s k hin, hx]
      obtain ⟨c, hc⟩ : ∃ c : Int, (x.toNat : Int) = c := ⟨_, rfl⟩
      have HNc : Hid ((nth (bl s) k : Int) = c) := Lib.hid (by rw [hn, hc])
      clear hn
      by_cases hbl : c = 32 ∨ c = 9 ∨ c = 10 ∨ c = 13
      · have HN := Lib.hid (HK.out.step (by rw [HNc.out]; exact decide_eq_true hbl))
        clear HK HNc
        rcases hbl with h | h | h | h
        · have q32 : (c == 32) = true := by simp; omega
          have q9 : (c == 9) = false := by simp; omega
          have q10 : (c == 10) = false := by simp; omega
          have q13 : (c == 13) = false := by simp; omega
          clear h
          go_wp2
          go_round
          case rel => exact ⟨k + 1, by omega, by go_num, HN⟩
          case measure => simp [intOf]; omega
        · have q32 : (c == 32) = false := by simp; omega
          have q9 : (c == 9) = true := by simp; omega
          have q10 : (c == 10) = false := by simp; omega
          have q13 : (c == 13) = false := by simp; omega
          clear h
          go_wp2
          go_round
          case rel => exact ⟨k + 1, by omega, by go_num, HN⟩
          case measure => simp [intOf]; omega
        · have q32 : (c == 32) = false := by simp; omega
          have q9 : (c == 9) = false := by simp; omega
          have q10 : (c == 10) = true := by simp; omega
          have q13 : (c == 13) = false := by simp; omega
          clear h
          go_wp2
          go_round
          case rel => exact ⟨k + 1, by omega, by go_num, HN⟩
          case measure => simp [intOf]; omega
        · have q32 : (c == 32) = false := by simp; omega
          have q9 : (c == 9) = false := by simp; omega
          have q10 : (c == 10) = false := by simp; omega
          have q13 : (c == 13) = true := by simp; omega
          clear h
          go_wp2
          go_round
          case rel => exact ⟨k + 1, by omega, by go_num, HN⟩
          case measure => simp [intOf]; omega
      · have HS : Hid (Stands s k) := Lib.hid (fun _ => by rw [HNc.out]; exact decide_eq_false hbl)
        have q32 : (c == 32) = false := by simp; omega
        have q9 : (c == 9) = false := by simp; omega
        have q10 : (c == 10) = false := by simp; omega
        have q13 : (c == 13) = false := by simp; omega
        clear HNc hbl
        go_wp2
        go_loop [4] (fun i => ∃ m : Nat, k ≤ m ∧ m ≤ s.size ∧ i = .int .i64 m ∧ Hid (Behind s m)) (fun i => (intOf i).toNat)
        case atStart => exact ⟨s.size, by omega, by omega, rfl, Lib.hid (fun j h h' => absurd h (by omega))⟩
        case round =>
          obtain ⟨m, hkm, hm, rfl, HM⟩ := hrel
          by_cases hmk : m = k
          · subst hmk
            have HA : Hid (A = s.extract m m) := Lib.hid (HR.out.trans (trimmed_cut s m m (Nat.le_refl _) hm HK.out HS.out HM.out (fun h => absurd h (by omega))).symm)
            clear HR hkm
            go_wp2
            go_ret
            exact ⟨by rw [HA.out]; first | rfl | (rw [ext_none]; rfl), Below.refl _ _⟩
          · obtain ⟨q, rfl⟩ : ∃ q, m = q + 1 := ⟨m - 1, by omega⟩
            have hkq : k ≤ q := by omega
            have hq : q < s.size := by omega
            have hkq' : (k : Int) ≤ (q : Int) := by omega
            have hq' : (q : Int) < (s.size : Int) := by omega
            obtain ⟨y, hy⟩ : ∃ y, s[q]'hq = y := ⟨_, rfl⟩
            have hny : nth (bl s) q = y.toNat := by rw [nth_get s q hq, hy]
            obtain ⟨d, hd⟩ : ∃ d : Int, (y.toNat : Int) = d := ⟨_, rfl⟩
            have HNd : Hid ((nth (bl s) q : Int) = d) := Lib.hid (by rw [hny, hd])
            clear hny hmk
            by_cases hbd : d = 32 ∨ d = 9 ∨ d = 10 ∨ d = 13
            · have HN := Lib.hid (HM.out.step (by rw [HNd.out]; exact decide_eq_true hbd))
              clear HM HNd HR
              rcases hbd with h | h | h | h
              · have p32 : (d == 32) = true := by simp; omega
                have p9 : (d == 9) = false := by simp; omega
                have p10 : (d == 10) = false := by simp; omega
                have p13 : (d == 13) = false := by simp; omega
                clear h
                go_wp2
                go_round
                case rel => exact ⟨q, by omega, by omega, by go_num, HN⟩
                case measure => simp [intOf]
              · have p32 : (d == 32) = false := by simp; omega
                have p9 : (d == 9) = true := by simp; omega
                have p10 : (d == 10) = false := by simp; omega
                have p13 : (d == 13) = false := by simp; omega
                clear h
                go_wp2
                go_round
                case rel => exact ⟨q, by omega, by omega, by go_num, HN⟩
                case measure => simp [intOf]
              · have p32 : (d == 32) = false := by simp; omega
                have p9 : (d == 9) = false := by simp; omega
                have p10 : (d == 10) = true := by simp; omega
                have p13 : (d == 13) = false := by simp; omega
                clear h
                go_wp2
                go_round
                case rel => exact ⟨q, by omega, by omega, by go_num, HN⟩
                case measure => simp [intOf]
              · have p32 : (d == 32) = false := by simp; omega
                have p9 : (d == 9) = false := by simp; omega
                have p10 : (d == 10) = false := by simp; omega
                have p13 : (d == 13) = true := by simp; omega
                clear h
                go_wp2
                go_round
                case rel => exact ⟨q, by omega, by omega, by go_num, HN⟩
                case measure => simp [intOf]
            · have HA : Hid (A = s.extract k (q + 1)) := Lib.hid (HR.out.trans (trimmed_cut s k (q + 1) (by omega) hm HK.out HS.out HM.out (fun _ => by rw [Nat.add_sub_cancel, HNd.out]; exact decide_eq_false hbd)).symm)
              have p32 : (d == 32) = false := by simp; omega
              have p9 : (d == 9) = false := by simp; omega
              have p10 : (d == 10) = false := by simp; omega
              have p13 : (d == 13) = false := by simp; omega
              clear HR HNd HM hbd
              go_wp2
              go_ret
              exact ⟨by rw [HA.out]; first | rfl | (rw [ext_none]; rfl), Below.refl _ _⟩
    · obtain rfl : k = s.size := by omega
      have HS : Hid (Stands s s.size) := Lib.hid (fun h => absurd h (by omega))
      clear hin
      have HA : Hid (A = s.extract s.size s.size) := Lib.hid (HR.out.trans (trimmed_cut s s.size s.size (Nat.le_refl _) (Nat.le_refl _) HK.out HS.out (fun j h h' => absurd h (by omega)) (fun h => absurd h (by omega))).symm)
      go_wp2
      go_loop [4] (fun i => i = .int .i64 s.size) (fun i => 0)
      case atStart => rfl
      case round =>
        obtain rfl := hrel
        go_wp2
        go_ret
        exact ⟨by rw [HA.out]; first | rfl | (rw [ext_none]; rfl), Below.refl _ _⟩
/-- **galliardref01.Trim at every string.** -/
theorem rtrim (s : ByteArray) (w : World) (hs : s.size ≤ 9223372036854775807) :
    Calls Tryz.prog 21 #[.string s] w fun e w' => e = .returned (.string (trimmed s)) ∧ Below w.heap.size w w' :=
  rtrim0 s w _ hs (Lib.hid rfl)

end Go.Proofs.YtincdacickhdkaaGreatDoor

namespace Go.Proofs.YtincdacickhdkaaGreatDoor
open Go

section
variable {P : Program} {ops : Array Oper} {Q : Exit → Act → World → Prop} {md : Region.Mode} {S : Array Bool → World → Prop}
/-- All orders from here on; S holds, behind each operation, of those that have come up and of the world. -/
def AnyG (P : Program) (md : Region.Mode) (ops : Array Oper) (Q : Exit → Act → World → Prop) (S : Array Bool → World → Prop) : Nat → Array Bool → Act → World → Prop
  | 0, L, a, w => Region.ready md ops L = [] ∧ Q .normal a w
  | f + 1, L, a, w => (Region.ready md ops L = [] → Q .normal a w) ∧ ∀ i ∈ Region.ready md ops L, wpOp P ops Q i (fun a' w' => S (L.setIfInBounds i true) w' ∧ AnyG P md ops Q S f (L.setIfInBounds i true) a' w') a w
theorem AnyG.any {f : Nat} : ∀ {L : Array Bool} {a : Act} {w : World}, AnyG P md ops Q S f L a w → wpAny P md ops Q f L a w := by
  induction f with
  | zero => exact id
  | succ f ih => exact fun h => ⟨h.1, fun i hi => wpOp_mono (fun _ _ k => ih k.2) (h.2 i hi)⟩
/-- Nobody who may come ahead of number i touches what it reads or leaves. -/
def FreeG (md : Region.Mode) (ops : Array Oper) (i : Nat) (oi : Oper) (L : Array Bool) : Prop :=
  ∀ j oj, ops[j]? = some oj → j ≠ i → L.getD j true = false → (∀ e ∈ oj.after, Region.binds md e = true → e.on ≠ i) → oi.apart ops oj = true
theorem FreeG.next {i j : Nat} {oi : Oper} {L : Array Bool} (h : FreeG md ops i oi L) (hj : L.getD j true = false) : FreeG md ops i oi (L.setIfInBounds j true) := fun k ok hk hki hun =>
  h k ok hk hki (if e : j = k then e ▸ hj else (getD_set_ne true e).symm.trans hun)
theorem unlisted_getD {L : Array Bool} {i : Nat} (h : L.getD i true = false) : L.getD i false = false := by
  by_cases hl : i < L.size
  · simpa [hl] using h
  · simp [hl]
/-- Two that may come up do not wait for one another. -/
theorem ready_apart {L : Array Bool} {i j : Nat} {oj : Oper} (hi : i ∈ Region.ready md ops L) (hj : j ∈ Region.ready md ops L) (ho : ops[j]? = some oj) : ∀ e ∈ oj.after, Region.binds md e = true → e.on ≠ i := by
  rintro e he hb rfl
  obtain ⟨_, o, ho', hall⟩ := mem_ready.1 hj
  obtain rfl : oj = o := by rw [ho] at ho'; exact Option.some.inj ho'
  have h := hall e he hb
  rw [unlisted_getD (mem_ready.1 hi).1] at h
  cases h
/-- What is asked of an operation that is taken first: R is what is known of those that have come up while it has not. -/
structure TakeG (P : Program) (md : Region.Mode) (ops : Array Oper) (Q : Exit → Act → World → Prop) (S : Array Bool → World → Prop) (R : Array Bool → Prop) (i : Nat) (oi : Oper) (v : Value) : Prop where
  at_ : ops[i]? = some oi
  sel : ∀ (j : Nat) (o : Oper) cs b, ops[j]? = some o → o.op ≠ .select cs b
  panic : ∀ c a w, Q (.panic c) (a.put oi.dst v) w → Q (.panic c) a w
  keeps : ∀ L j, R L → i ∈ Region.ready md ops L → j ∈ Region.ready md ops L → j ≠ i → R (L.setIfInBounds j true)
  less : ∀ L w, S (L.setIfInBounds i true) w → S L w
theorem TakeG.first {R : Array Bool → Prop} {i : Nat} {oi : Oper} {v : Value} (T : TakeG P md ops Q S R i oi v) : ∀ (f : Nat) (L : Array Bool) (a : Act) (w : World), FreeG md ops i oi L → i ∈ Region.ready md ops L → R L →
    YieldsIf P ops (fun w => ∃ L, R L ∧ S L w) oi v a → S (L.setIfInBounds i true) w → AnyG P md ops Q S f (L.setIfInBounds i true) (a.put oi.dst v) w → AnyG P md ops Q S (f + 1) L a w := by
  intro f
  induction f with
  | zero =>
    refine fun L a w _ hr hR hy hS H => ⟨fun e => absurd hr (by rw [e]; exact List.not_mem_nil), fun j hj => ?_⟩
    rcases Decidable.em (j = i) with rfl | hne
    · exact hy.wpOp T.at_ ⟨L, hR, T.less _ _ hS⟩ ⟨hS, H⟩
    · exact absurd (ready_mono hj hne) (by rw [H.1]; exact List.not_mem_nil)
  | succ f ih =>
    refine fun L a w hf hr hR hy hS H => ⟨fun e => absurd hr (by rw [e]; exact List.not_mem_nil), fun j hj => ?_⟩
    rcases Decidable.em (j = i) with rfl | hne
    · exact hy.wpOp T.at_ ⟨L, hR, T.less _ _ hS⟩ ⟨hS, H⟩
    obtain ⟨hun, oj, hoj, _⟩ := mem_ready.1 hj
    have hcomm : (L.setIfInBounds i true).setIfInBounds j true = (L.setIfInBounds j true).setIfInBounds i true := (Array.setIfInBounds_comm _ _ hne).symm
    have hstep := wpOp_putIf hoj (hf j oj hoj hne hun (ready_apart hr hj hoj)) (fun cs b => T.sel i oi cs b T.at_) (fun cs b => T.sel j oj cs b hoj) T.panic hy (H.2 j (ready_mono hj hne))
    refine wpOp_mono (fun a' w' k => ?_) hstep
    obtain ⟨ky, kS, kH⟩ := k
    rw [hcomm] at kS kH
    exact ⟨T.less _ _ kS, ih _ a' w' (hf.next hun) (ready_mono hr fun e => hne e.symm) (T.keeps L j hR hr hj hne) ky kS kH⟩

/-! ### cells that are loaded (C), and one that is stored behind operation s (T) -/
def SG (C T : World → Prop) (s : Nat) : Array Bool → World → Prop := fun L w => C w ∧ (L.getD s false = false → T w)
theorem SG.set {C T : World → Prop} {s i : Nat} {L : Array Bool} {w : World} (h : i ≠ s) : SG C T s (L.setIfInBounds i true) w ↔ SG C T s L w := by
  unfold SG; rw [getD_set_ne false h]
theorem SG.take {C T : World → Prop} {s i : Nat} {oi : Oper} {v : Value} {f : Nat} {L : Array Bool} {a : Act} {w : World} (hi : ops[i]? = some oi) (hs : Region.noSelect ops = true) (hf : Region.free md ops L i = true) (hr : (Region.ready md ops L).contains i = true)
    (hQ : ∀ c a w, Q (.panic c) (a.put oi.dst v) w → Q (.panic c) a w) (his : i ≠ s) (hw : Region.wanted oi (yielded ops a.tmps) = true) (hy : ∀ w, C w → (execOp a.eval oi).run P w = .ok (.value v) w) (hS : SG C T s L w)
    (h : AnyG P md ops Q (SG C T s) f (L.setIfInBounds i true) (a.put oi.dst v) w) : AnyG P md ops Q (SG C T s) (f + 1) L a w :=
  TakeG.first (R := fun _ => True) ⟨hi, Region.noSelect_spec hs, hQ, fun _ _ _ _ _ _ => trivial, fun L' w' k => (SG.set (C := C) (T := T) (L := L') (w := w') his).1 k⟩ f L a w (fun j oj => Region.free_spec hi hf j oj) (by simpa using hr) trivial
    (.inl ⟨hw, fun w hw => hy w (by obtain ⟨_, _, k, _⟩ := hw; exact k)⟩) ((SG.set his).2 hS) h
theorem SG.takeT {C T : World → Prop} {s i : Nat} {oi os : Oper} {v : Value} {f : Nat} {L : Array Bool} {a : Act} {w : World} (hi : ops[i]? = some oi) (hs : Region.noSelect ops = true) (hf : Region.free md ops L i = true) (hr : (Region.ready md ops L).contains i = true)
    (hQ : ∀ c a w, Q (.panic c) (a.put oi.dst v) w → Q (.panic c) a w) (his : i ≠ s) (hw : Region.wanted oi (yielded ops a.tmps) = true) (hos : ops[s]? = some os) (hwait : (os.after.any fun e => Region.binds md e && e.on == i) = true) (hL : L.getD s false = false)
    (hy : ∀ w, C w → T w → (execOp a.eval oi).run P w = .ok (.value v) w) (hS : SG C T s L w)
    (h : AnyG P md ops Q (SG C T s) f (L.setIfInBounds i true) (a.put oi.dst v) w) : AnyG P md ops Q (SG C T s) (f + 1) L a w :=
  TakeG.first (R := fun L => L.getD s false = false) ⟨hi, Region.noSelect_spec hs, hQ, fun L j hR hri hrj hne => by
      have hjs : j ≠ s := by
        rintro rfl
        rw [Array.any_eq_true'] at hwait
        obtain ⟨e, he, hb⟩ := hwait
        rw [Bool.and_eq_true, beq_iff_eq] at hb
        exact ready_apart hri hrj hos e he hb.1 hb.2
      rw [getD_set_ne false hjs]; exact hR, fun L' w' k => (SG.set (C := C) (T := T) (L := L') (w := w') his).1 k⟩ f L a w (fun j oj => Region.free_spec hi hf j oj) (by simpa using hr) hL
    (.inl ⟨hw, fun w hw => by obtain ⟨L', hR, hC, hT⟩ := hw; exact hy w hC (hT hR)⟩) ((SG.set his).2 hS) h
theorem no_listed {L : Array Bool} {s : Nat} (h : L.getD s false = true) (k : L.getD s false = false) : False := by rw [h] at k; cases k
/-- Each of those that may come up comes up next. -/
def AllG (P : Program) (md : Region.Mode) (ops : Array Oper) (Q : Exit → Act → World → Prop) (S : Array Bool → World → Prop) (f : Nat) (L : Array Bool) (a : Act) (w : World) (rs : List Nat) : Prop :=
  ∀ i ∈ rs, wpOp P ops Q i (fun a' w' => S (L.setIfInBounds i true) w' ∧ AnyG P md ops Q S f (L.setIfInBounds i true) a' w') a w
theorem AllG.nil {f : Nat} {L : Array Bool} {a : Act} {w : World} : AllG P md ops Q S f L a w [] := fun _ h => (by cases h)
theorem AllG.cons {f : Nat} {L : Array Bool} {a : Act} {w : World} {i : Nat} {o : Oper} {rs : List Nat} (ho : ops[i]? = some o)
    (h : ∀ K' : Act → World → Prop, Shut (∀ a w, S (L.setIfInBounds i true) w → (S (L.setIfInBounds i true) w → AnyG P md ops Q S f (L.setIfInBounds i true) a w) → K' a w) → if Region.wanted o (yielded ops a.tmps) = true then Oper.wp P o a w K' Q else K' (a.put o.dst undef) w)
    (hs : AllG P md ops Q S f L a w rs) : AllG P md ops Q S f L a w (i :: rs) := fun j hj => by
  rcases List.mem_cons.1 hj with rfl | hj
  · exact wpOp_step ho (fun K' hK => h K' (fun a w hS hW => hK a w ⟨hS, hW hS⟩))
  · exact hs j hj
theorem AllG.ready {rs : List Nat} {f : Nat} {L : Array Bool} {a : Act} {w : World} (hr : Region.ready md ops L = rs) (hne : rs ≠ []) (h : AllG P md ops Q S f L a w rs) : AnyG P md ops Q S (f + 1) L a w :=
  ⟨fun e => absurd (hr.symm.trans e) hne, fun i hi => h i (hr ▸ hi)⟩
theorem AnyG.done {L : Array Bool} {a : Act} {w : World} (hr : Region.ready md ops L = []) (h : Q .normal a w) : ∀ f, AnyG P md ops Q S f L a w
  | 0 => ⟨hr, h⟩
  | _ + 1 => ⟨fun _ => h, fun i hi => absurd hi (by rw [hr]; exact List.not_mem_nil)⟩
theorem AnyG.begin {id : Nat} {a : Act} {w : World} (hm : P.follows .mixedOrders = true) (hS : S (Array.replicate ops.size false) w.drew) (h : S (Array.replicate ops.size false) w.drew → AnyG P .any ops Q S ops.size (Array.replicate ops.size false) a w.drew) : (Code.region id ops true).wp P Q a w :=
  wp_region_any hm (h hS).any
end

end Go.Proofs.YtincdacickhdkaaGreatDoor
