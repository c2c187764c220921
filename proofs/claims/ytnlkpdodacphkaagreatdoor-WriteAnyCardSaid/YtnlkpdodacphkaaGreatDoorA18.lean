/-
  What element and fill keep, and what they leave; what the machine does at each piece.
  An element that is put behind those that are there: what fill keeps, behind its append.
  The walk of galliardref06.Size.
  The walk of galliardref01.Plain.
-/
import Derived.Test.YtnlkpdodacphkaaGreatDoorA17
import Derived.Test.YtnlkpdodacphkaaGreatDoorA16
import Derived.Test.YtnlkpdodacphkaaGreatDoorA13
import Derived.Deep.LoopGhost
import Derived.IntWalk
import Derived.Test.YtnlkpdodacphkaaGreatDoorA9
import Derived.Test.YtnlkpdodacphkaaGreatDoorA2
import Derived.OwnWalk
namespace Go.Proofs.YtnlkpdodacphkaaGreatDoor
open Go Go.RowKit
set_option maxRecDepth 100000

/-! ### the machine, piece by piece, within an element -/
theorem taken_end {D : List UInt8} {σ : St} {p : Pc} {F : Fr} {S : List Fr} {L : List Tell} {c : Nat} (h : p.kind = 0) : takenAt D σ p (.inside F S, L, c) = .bad 3 σ.pos := by
  unfold takenAt; rw [if_pos h]; rfl
theorem taken_in {D : List UInt8} {σ : St} {p : Pc} {m : Mach} (h : p.kind ≠ 0) : takenAt D σ p m = (step p m).on fun m' => runAt D σ m' := by
  unfold takenAt; rw [if_neg h]
theorem taken_close {D : List UInt8} {σ : St} {p : Pc} {F : Fr} {S : List Fr} {L : List Tell} {c : Nat} (h : p.kind = 2) :
    takenAt D σ p (.inside F S, L, c) = if p.name = F.tag then (if trimL F.tx = [] ∨ F.K = [] then runAt D σ (give (.mk F.sp F.nm F.A F.K (str (trimL F.tx))) S, F.L, c) else .bad 3 F.at_) else .bad 3 p.at_ := by
  rw [taken_in (by rw [h]; decide), step_in, if_pos h]
  split
  · unfold shut
    split
    · rfl
    · rfl
  · rfl
theorem taken_open {D : List UInt8} {σ : St} {p : Pc} {F : Fr} {S : List Fr} {L : List Tell} {c : Nat} (h : opens p) : takenAt D σ p (.inside F S, L, c) = (opn p (F :: S) L c).on fun m' => runAt D σ m' := by
  have h0 : p.kind ≠ 0 ∧ p.kind ≠ 2 := by rcases h with h | h <;> rw [h] <;> decide
  rw [taken_in h0.1, step_in, if_neg h0.2, if_pos h]
theorem taken_text {D : List UInt8} {σ : St} {p : Pc} {F : Fr} {S : List Fr} {L : List Tell} {c : Nat} (h0 : p.kind ≠ 0) (h2 : p.kind ≠ 2) (h : ¬ opens p) :
    takenAt D σ p (.inside F S, L, c) = runAt D σ (.inside { F with tx := F.tx ++ p.text } S, L, c) := by
  rw [taken_in h0, step_in, if_neg h2, if_neg h]; rfl

/-! ### frames but for one block -/
structure KeptB (ts : List TypeId) (X : Nat) (w w' : World) : Prop where
  size : w.heap.size ≤ w'.heap.size
  block : ∀ j, j < w.heap.size → j ≠ X → (∀ c t z, w.heap[j]? = some (.cells c t z) → t ∉ ts) → w'.heap[j]? = w.heap[j]?
theorem KeptB.of {ts : List TypeId} {w w' : World} (X : Nat) (h : Kept ts w w') : KeptB ts X w w' := ⟨h.size, fun j hj _ hn => h.block j hj hn⟩
theorem KeptB.trans {ts : List TypeId} {X : Nat} {a b c : World} (h : KeptB ts X a b) (k : KeptB ts X b c) : KeptB ts X a c :=
  ⟨Nat.le_trans h.size k.size, fun j hj hx hn => by
    have e := h.block j hj hx hn
    exact (k.block j (Nat.lt_of_lt_of_le hj h.size) hx (by rw [e]; exact hn)).trans e⟩
theorem KeptB.only {ts : List TypeId} {X : Nat} {w w' w'' : World} (h : KeptB ts X w w') (ho : Only X w' w'') : KeptB ts X w w'' :=
  ⟨Nat.le_trans h.size ho.size, fun j hj hx hn => (ho.block j (Nat.lt_of_lt_of_le hj h.size) hx).trans (h.block j hj hx hn)⟩
theorem KeptB.new {ts : List TypeId} {X : Nat} {w w' w'' : World} (h : KeptB ts X w w') {k : Nat} (ho : Only k w' w'') (hk : w.heap.size ≤ k) : KeptB ts X w w'' :=
  ⟨Nat.le_trans h.size ho.size, fun j hj hx hn => (ho.block j (Nat.lt_of_lt_of_le hj h.size) (by omega)).trans (h.block j hj hx hn)⟩
theorem KeptB.grownNew {ts : List TypeId} {X : Nat} {w w' w'' : World} {row : Option Nat} (h : KeptB ts X w w') (hg : w'.grownBy w'' row) (hr : ∀ r, row = some r → w.heap.size ≤ r) : KeptB ts X w w'' :=
  ⟨Nat.le_trans h.size hg.size, fun j hj hx hn => (hg.block j (Nat.lt_of_lt_of_le hj h.size) (fun e => by have := hr j e.symm; omega)).trans (h.block j hj hx hn)⟩
theorem Kept.butNew {ts : List TypeId} {X : Nat} {w w' w'' : World} (h : Kept ts w w') (k : KeptB ts X w' w'') (hX : w.heap.size ≤ X) : Kept ts w w'' :=
  ⟨Nat.le_trans h.size k.size, fun j hj hn => by
    have e := h.block j hj hn
    exact (k.block j (Nat.lt_of_lt_of_le hj h.size) (by omega) (by rw [e]; exact hn)).trans e⟩
theorem KeptB.heap {ts : List TypeId} {X : Nat} {w w' : World} (h : KeptB ts X w w') {b : Nat} {cs : Array Value} {t : TypeId} {z : Nat × Nat} (hb : w.heap[b]? = some (.cells cs t z)) (hx : b ≠ X) (ht : t ∉ ts) : w'.heap[b]? = some (.cells cs t z) :=
  (h.block b (Array.getElem?_eq_some_iff.1 hb).1 hx (fun c t' z' e => by rw [hb] at e; cases e; exact ht)).trans hb

/-! ### a document in a world where others are touched -/
theorem DS.kept {B dd b q d c : Nat} {s : ByteArray} {σ : St} {L : List Tell} {w w' : World} (h : DS B dd b q s σ d L c w) {ts : List TypeId} (hk : Kept ts w w') (hb : Below B w w') (ht : ∀ t ∈ docT, t ∉ ts) : DS B dd b q s σ d L c w' := by
  have hdt : 111 ∈ docT ∧ 114 ∈ docT ∧ 66 ∈ docT ∧ 108 ∈ docT := by decide
  refine ⟨⟨h.sc.base, h.sc.len, h.sc.pos, h.sc.glob.step hb, hk.heap h.sc.heap (ht _ hdt.2.2.2)⟩, ?_, h.base, hk.heap h.heap (ht _ hdt.2.2.1), h.pu⟩
  obtain ⟨h0, k, cap, hq, ho⟩ := h.sp
  exact ⟨h0, k, cap, hk.heap hq (ht _ hdt.2.1), hk.owns ho (ht _ hdt.1)⟩

/-! ### elements in a row -/
def RowK (Q : Nat) (w : World) (v : Value) (V : List NV) (K : List Nd) : Prop :=
  V.length = K.length ∧ w.ownsRow Q 25 5 v V.length (cellsN V) ∧ ∀ j (h : j < V.length) (h' : j < K.length), NodeV (NB Q v.ownBlock w) w (V[j]'h).val (K[j]'h')
theorem RowK.nil (Q : Nat) (w : World) : RowK Q w (.slice none 0 0) [] [] := ⟨rfl, World.ownsRow_nil _ _ _ _, fun j h => absurd h (Nat.not_lt_zero j)⟩
theorem RowK.kept {Q : Nat} {w w' : World} {v : Value} {V : List NV} {K : List Nd} (h : RowK Q w v V K) {ts : List TypeId} (hk : Kept ts w w') (h1 : 56 ∉ ts) (h2 : 25 ∉ ts) : RowK Q w' v V K :=
  ⟨h.1, hk.owns h.2.1 h2, fun j hj hj' => (h.2.2 j hj hj').kept hk h1 h2⟩
/-- Another block than those of the row, and of its elements, is touched. -/
theorem RowK.only {Q k : Nat} {w w' : World} {v : Value} {V : List NV} {K : List Nd} (h : RowK Q w v V K) (ho : Only k w w') (hk : k < Q) : RowK Q w' v V K := by
  refine ⟨h.1, ?_, fun j hj hj' => (h.2.2 j hj hj').to ho.size fun g hp hg => ?_⟩
  · refine h.2.1.kept ho.grown (.inr fun e => ?_)
    have := (h.2.1.lt k e).1
    omega
  · have e := ho.block g hg (by have := hp.1; omega)
    obtain ⟨h0, hr, cs, t, z, h3, h4⟩ := hp
    exact ⟨⟨h0, hr, cs, t, z, e.trans h3, h4⟩, e⟩

/-! ### what element and fill leave -/
def ElGives (B dd b q : Nat) (s : ByteArray) (S : List Fr) (L : List Tell) (R0 : Res Nd) (σ : St) (c : Nat) (w : World) (r : Ending) (w' : World) : Prop :=
  ((∃ e a, r = dies e a ∧ R0 = .bad e a) ∨
    ∃ x v σ' c', r = .returned v ∧ NodeV (NB w.heap.size none w') w' v x ∧ DS B dd b q s σ' S.length L c' w' ∧ R0 = runAt (bl s) σ' (give x S, L, c') ∧ σ.pos ≤ σ'.pos ∧ c < c') ∧
  Below B w w' ∧ Kept docT w w'
def pieceV (p : Pc) (v : Value) : Value := .agg #[.int .i64 p.kind, .string (str p.name), v, .string (str p.text), .int .i64 p.at_]
/-- The contract of element, within k elements. -/
def ElSpec (B dd b q : Nat) (s : ByteArray) (k : Nat) : Prop :=
  ∀ (S : List Fr) (L : List Tell) (c : Nat) (σ : St) (p : Pc) (v : Value) (w : World) (R0 : Res Nd), S.length = k → DS B dd b q s σ k L c w → RowsB b w v p.attrs → Took (bl s) σ p → opens p →
    R0 = ((opn p S L c).on fun m' => runAt (bl s) σ m') → Calls Tryz.prog 47 #[.pointer (some ⟨dd, 0, none⟩), pieceV p v] w (ElGives B dd b q s S L R0 σ c w)
def FiGives (B dd b q : Nat) (s : ByteArray) (S : List Fr) (F : Fr) (L' : List Tell) (X : Nat) (va : Value) (R0 : Res Nd) (σ : St) (c : Nat) (w : World) (r : Ending) (w' : World) : Prop :=
  ((∃ e a, r = dies e a ∧ R0 = .bad e a) ∨
    ∃ K V vk tx σ' c', r = .returned (.tuple #[]) ∧ w'.heap[X]? = some (.cells #[.string F.sp, .string F.nm, va, vk, .string tx] 25 (0, 0)) ∧ RowK w.heap.size w' vk V K ∧
      DS B dd b q s σ' (S.length + 1) L' c' w' ∧ R0 = runAt (bl s) σ' (give (.mk F.sp F.nm F.A K tx) S, F.L, c') ∧ σ.pos ≤ σ'.pos ∧ c ≤ c') ∧
  Below B w w' ∧ KeptB docT X w w'

/-! ### what fill's loop keeps -/
/-- Apart from the piece that was taken last. -/
structure FiC (B dd b q : Nat) (s : ByteArray) (S : List Fr) (F : Fr) (L' : List Tell) (σ0 : St) (c0 X Q : Nat) (va vo : Value) (o : Pc) (w : World) (σr : St) (K : List Nd) (V : List NV) (vk : Value) (tx : List UInt8) (cr : Nat) (wr : World) : Prop where
  ds : DS B dd b q s σr (S.length + 1) L' cr wr
  below : Below B w wr
  kept : KeptB docT X w wr
  hO : wr.heap[Q]? = some (.cells #[.int .i64 o.kind, .string (str o.name), vo, .string (str o.text), .int .i64 o.at_] 117 (0, 0))
  bl : Bl (Q + 1) (Q + 1) tx wr
  hX : wr.heap[X]? = some (.cells #[.string F.sp, .string F.nm, va, vk, .string ⟨#[]⟩] 25 (0, 0))
  row : RowK Q wr vk V K
  few : K.length ≤ cr
  txl : tx.length ≤ 800000 * σr.pos
  pos : σ0.pos ≤ σr.pos
  cnt : c0 ≤ cr
theorem FiC.move {B dd b q : Nat} {s : ByteArray} {S : List Fr} {F : Fr} {L' : List Tell} {σ0 : St} {c0 X Q : Nat} {va vo : Value} {o : Pc} {w : World} {σr : St} {K : List Nd} {V : List NV} {vk : Value} {tx : List UInt8} {cr : Nat} {wr : World}
    (h : FiC B dd b q s S F L' σ0 c0 X Q va vo o w σr K V vk tx cr wr) {σ' : St} {c' : Nat} {wx : World} (hd : DS B dd b q s σ' (S.length + 1) L' c' wx) (hb : Below B wr wx) (hk : Kept docT wr wx) (hc : cr ≤ c') (hp : σr.pos ≤ σ'.pos) :
    FiC B dd b q s S F L' σ0 c0 X Q va vo o w σ' K V vk tx c' wx :=
  ⟨hd, h.below.trans hb, h.kept.trans (.of X hk), hk.heap h.hO (by decide), h.bl.kept hk (by decide) (by decide), hk.heap h.hX (by decide), h.row.kept hk (by decide) (by decide), Nat.le_trans h.few hc,
    Nat.le_trans h.txl (Nat.mul_le_mul_left _ hp), Nat.le_trans h.pos hp, Nat.le_trans h.cnt hc⟩
theorem FiC.step {B dd b q : Nat} {s : ByteArray} {S : List Fr} {F : Fr} {L' : List Tell} {σ0 : St} {c0 X Q : Nat} {va vo : Value} {o : Pc} {w : World} {σr : St} {K : List Nd} {V : List NV} {vk : Value} {tx : List UInt8} {cr : Nat} {wr : World}
    (h : FiC B dd b q s S F L' σ0 c0 X Q va vo o w σr K V vk tx cr wr) {wx : World} (hb : Below wr.heap.size wr wx) : FiC B dd b q s S F L' σ0 c0 X Q va vo o w σr K V vk tx cr wx :=
  h.move (h.ds.step hb) (hb.mono h.ds.le) (Kept.of docT hb) (Nat.le_refl _) (Nat.le_refl _)
/-- Block P is written. -/
theorem FiC.put {B dd b q : Nat} {s : ByteArray} {S : List Fr} {F : Fr} {L' : List Tell} {σ0 : St} {c0 X Q : Nat} {va vo : Value} {o : Pc} {w : World} {σr : St} {K : List Nd} {V : List NV} {vk : Value} {tx : List UInt8} {cr : Nat} {wr : World}
    (h : FiC B dd b q s S F L' σ0 c0 X Q va vo o w σr K V vk tx cr wr) {P : Nat} {wx : World} (ho : Only P wr wx) {cs : Array Value} {z : Nat × Nat} (hP : wr.heap[P]? = some (.cells cs 117 z)) (hPQ : Q < P) (hw : w.heap.size = Q) (hBw : B ≤ w.heap.size) :
    FiC B dd b q s S F L' σ0 c0 X Q va vo o w σr K V vk tx cr wx := by
  have hk : Kept [117] wr wx := Kept.only ho hP (by decide)
  refine ⟨h.ds.only ho hP (by decide) (by omega), h.below.trans (ho.below (by omega) h.ds.le), h.kept.new ho (by omega), ho.heap h.hO (by omega), h.bl.kept hk (by decide) (by decide), hk.heap h.hX (by decide), h.row.kept hk (by decide) (by decide), h.few, h.txl, h.pos, h.cnt⟩
/-- The text grows. -/
theorem FiC.text {B dd b q : Nat} {s : ByteArray} {S : List Fr} {F : Fr} {L' : List Tell} {σ0 : St} {c0 X Q : Nat} {va vo : Value} {o : Pc} {w : World} {σr : St} {K : List Nd} {V : List NV} {vk : Value} {tx : List UInt8} {cr : Nat} {wr : World}
    (h : FiC B dd b q s S F L' σ0 c0 X Q va vo o w σr K V vk tx cr wr) {wx : World} {tx' : List UInt8} (hbl : Bl (Q + 1) (Q + 1) tx' wx) (hb : Below (Q + 1) wr wx) (hk : Kept bldT wr wx) (hw : w.heap.size = Q) (hBw : B ≤ w.heap.size) (σ' : St) (hd : DS B dd b q s σ' (S.length + 1) L' cr wr) (hp : σr.pos ≤ σ'.pos) (ht : tx'.length ≤ 800000 * σ'.pos) :
    FiC B dd b q s S F L' σ0 c0 X Q va vo o w σ' K V vk tx' cr wx := by
  have hb0 : Below B wr wx := hb.mono (by omega)
  refine ⟨hd.kept hk hb0 (by decide), h.below.trans hb0, ⟨Nat.le_trans h.kept.size hk.size, fun j hj hx hn => (hb.block j (by omega)).trans (h.kept.block j hj hx hn)⟩, hk.heap h.hO (by decide), hbl, hk.heap h.hX (by decide), h.row.kept hk (by decide) (by decide), h.few, ht, Nat.le_trans h.pos hp, h.cnt⟩

end Go.Proofs.YtnlkpdodacphkaaGreatDoor

namespace Go.Proofs.YtnlkpdodacphkaaGreatDoor
open Go Go.RowKit
set_option maxRecDepth 100000

theorem own_set {w : World} {base g n cap size : Nat} {e : TypeId} {xs : List Value} (h : w.ownsRow base e size (.slice (some ⟨g, 0, none⟩) n cap) n xs) (o : Nat) (u : Value) :
    (w.setCell ⟨g, o, none⟩ u).ownsRow base e size (.slice (some ⟨g, 0, none⟩) n cap) n (xs.set o u) := by
  refine ⟨by rw [List.length_set]; exact h.1, ?_⟩
  rcases h.2 with ⟨hv, _⟩ | ⟨g', cap', cur, hv, hb, hg, h1, h2, h3, h4⟩
  · cases hv
  · injection hv with e1 e2 e3
    injection e1 with e1
    injection e1 with e1
    subst e1 e3
    exact .inr ⟨g, cap, cur.setIfInBounds o u, rfl, hb, heap_put u hg, h1, h2, by rw [Array.size_setIfInBounds]; exact h3, by rw [Array.toList_setIfInBounds, List.take_set, h4]⟩
theorem own_cell {w : World} {base g n cap size : Nat} {e : TypeId} {xs : List Value} (h : w.ownsRow base e size (.slice (some ⟨g, 0, none⟩) n cap) n xs) : ∃ cur, w.heap[g]? = some (.cells cur e (0, 0)) ∧ base ≤ g := by
  rcases h.2 with ⟨hv, _⟩ | ⟨g', cap', cur, hv, hb, hg, _⟩
  · cases hv
  · injection hv with e1 e2 e3
    injection e1 with e1
    injection e1 with e1
    subst e1
    exact ⟨cur, hg, hb⟩
abbrev zeroC : List Value := [.string ⟨#[]⟩, .string ⟨#[]⟩, .slice none 0 0, .slice none 0 0, .string ⟨#[]⟩]
/-- A row's last element is written, cell by cell. -/
theorem own_last {w : World} {base g n cap : Nat} {V : List NV} (hn : V.length = n) (h : w.ownsRow base 25 5 (.slice (some ⟨g, 0, none⟩) (n + 1) cap) (n + 1) (cellsN V ++ zeroC)) (y : NV) :
    (((((w.setCell ⟨g, n * 5, none⟩ y.a).setCell ⟨g, n * 5 + 1, none⟩ y.b).setCell ⟨g, n * 5 + 2, none⟩ y.c).setCell ⟨g, n * 5 + 3, none⟩ y.d).setCell ⟨g, n * 5 + 4, none⟩ y.e).ownsRow base 25 5 (.slice (some ⟨g, 0, none⟩) (n + 1) cap) (n + 1) (cellsN (V ++ [y])) := by
  have h5 := own_set (own_set (own_set (own_set (own_set h (n * 5) y.a) (n * 5 + 1) y.b) (n * 5 + 2) y.c) (n * 5 + 3) y.d) (n * 5 + 4) y.e
  have hl : (cellsN V).length = n * 5 := by rw [cellsN_len, hn]
  have e : ((((((cellsN V ++ zeroC).set (n * 5) y.a).set (n * 5 + 1) y.b).set (n * 5 + 2) y.c).set (n * 5 + 3) y.d).set (n * 5 + 4) y.e) = cellsN (V ++ [y]) := by
    rw [cellsN_app]
    rw [List.set_append_right _ _ (by omega), List.set_append_right _ _ (by omega), List.set_append_right _ _ (by omega), List.set_append_right _ _ (by omega), List.set_append_right _ _ (by omega)]
    rw [hl, show n * 5 - n * 5 = 0 by omega, show n * 5 + 1 - n * 5 = 1 by omega, show n * 5 + 2 - n * 5 = 2 by omega, show n * 5 + 3 - n * 5 = 3 by omega, show n * 5 + 4 - n * 5 = 4 by omega]
    rfl
  rw [e] at h5
  exact h5
abbrev st5at (w : World) (g o : Nat) (y : NV) : World := ((((w.setCell ⟨g, o, none⟩ y.a).setCell ⟨g, o + 1, none⟩ y.b).setCell ⟨g, o + 2, none⟩ y.c).setCell ⟨g, o + 3, none⟩ y.d).setCell ⟨g, o + 4, none⟩ y.e
theorem st5at_only (w : World) (g o : Nat) (y : NV) : Only g w (st5at w g o y) :=
  ((((Only.set g o w y.a).trans (Only.set g (o + 1) _ y.b)).trans (Only.set g (o + 2) _ y.c)).trans (Only.set g (o + 3) _ y.d)).trans (Only.set g (o + 4) _ y.e)
/-- Behind the append: the row is a longer one, the element stands in it. -/
theorem FiC.kid {B dd b q : Nat} {s : ByteArray} {S : List Fr} {F : Fr} {L' : List Tell} {σ0 : St} {c0 X Q : Nat} {va vo : Value} {o : Pc} {w : World} {σr : St} {K : List Nd} {V : List NV} {vk : Value} {tx : List UInt8} {c' : Nat} {w6 wA w7 : World}
    (h : FiC B dd b q s S F L' σ0 c0 X Q va vo o w σr K V vk tx c' w6) (hfew : K.length < c') (hw : w.heap.size = Q) (hXQ : X < Q) (hBX : B ≤ X)
    {y : NV} {x : Nd} {lo : Nat} (hy : NodeV (NB lo none w6) w6 y.val x) (hlo : ∀ r, vk.ownBlock = some r → r < lo) (hQlo : Q ≤ lo)
    (hA : Below w6.heap.size w6 wA) {g n cap : Nat} (hn : V.length = n) (hown : w7.ownsRow Q 25 5 (.slice (some ⟨g, 0, none⟩) (n + 1) cap) (n + 1) (cellsN V ++ zeroC))
    (hg : wA.grownBy w7 vk.ownBlock) (hat : vk.ownBlock = some g ∨ g = wA.heap.size) :
    FiC B dd b q s S F L' σ0 c0 X Q va vo o w σr (K ++ [x]) (V ++ [y]) (.slice (some ⟨g, 0, none⟩) (n + 1) cap) tx c' ((st5at w7 g (n * 5) y).setCell ⟨X, 3, none⟩ (.slice (some ⟨g, 0, none⟩) (n + 1) cap)) ∧
      Kept [25] wA ((st5at w7 g (n * 5) y).setCell ⟨X, 3, none⟩ (.slice (some ⟨g, 0, none⟩) (n + 1) cap)) := by
  have hA6 := h.step hA
  have hrow : ∀ r, vk.ownBlock = some r → Q ≤ r ∧ ∃ cs, wA.heap[r]? = some (.cells cs 25 (0, 0)) := fun r hr => by
    rcases hA6.row.2.1.2 with ⟨hv, _⟩ | ⟨g', cap', cur, hv, hb', hg', _⟩
    · rw [hv] at hr; cases hr
    · rw [hv] at hr; cases hr; exact ⟨hb', cur, hg'⟩
  obtain ⟨cur7, hg7, hQg⟩ := own_cell hown
  have ho5 := st5at_only w7 g (n * 5) y
  have hgX : g ≠ X := by omega
  have hoX := Only.set X 3 (st5at w7 g (n * 5) y) (.slice (some ⟨g, 0, none⟩) (n + 1) cap)
  have heq : ∀ j, j < wA.heap.size → vk.ownBlock ≠ some j → j ≠ g → j ≠ X → ((st5at w7 g (n * 5) y).setCell ⟨X, 3, none⟩ (.slice (some ⟨g, 0, none⟩) (n + 1) cap)).heap[j]? = wA.heap[j]? := fun j hj hne hjg hjX =>
    (hoX.block j (Nat.lt_of_lt_of_le hj (Nat.le_trans hg.size ho5.size)) hjX).trans ((ho5.block j (Nat.lt_of_lt_of_le hj hg.size) hjg).trans (hg.block j hj (fun e => hne e.symm)))
  have hsz : wA.heap.size ≤ ((st5at w7 g (n * 5) y).setCell ⟨X, 3, none⟩ (.slice (some ⟨g, 0, none⟩) (n + 1) cap)).heap.size := Nat.le_trans hg.size (Nat.le_trans ho5.size hoX.size)
  have hjg : ∀ j, j < wA.heap.size → vk.ownBlock ≠ some j → j ≠ g := fun j hj hne e => by
    rcases hat with h2 | h2
    · exact hne (by rw [h2, e])
    · omega
  have hk : Kept [25] wA ((st5at w7 g (n * 5) y).setCell ⟨X, 3, none⟩ (.slice (some ⟨g, 0, none⟩) (n + 1) cap)) := ⟨hsz, fun j hj hn' => by
    have h1 : vk.ownBlock ≠ some j := fun e => by obtain ⟨_, cs', hc⟩ := hrow j e; exact hn' _ _ _ hc (by decide)
    exact heq j hj h1 (hjg j hj h1) (fun e => by rw [e] at hn'; exact hn' _ _ _ hA6.hX (by decide))⟩
  have hB9 : Below B wA ((st5at w7 g (n * 5) y).setCell ⟨X, 3, none⟩ (.slice (some ⟨g, 0, none⟩) (n + 1) cap)) := by
    have h1 : Below B wA w7 := (Below.refl B wA).grown hg hA6.ds.le (fun r hr => by have := (hrow r hr).1; omega)
    have h2 := h1.trans (ho5.below (by omega) (Nat.le_trans hA6.ds.le hg.size))
    exact h2.trans (hoX.below hBX (Nat.le_trans hA6.ds.le (Nat.le_trans hg.size ho5.size)))
  have hX7 : (st5at w7 g (n * 5) y).heap[X]? = some (.cells #[.string F.sp, .string F.nm, va, vk, .string ⟨#[]⟩] 25 (0, 0)) := by
    have hXl := (Array.getElem?_eq_some_iff.1 hA6.hX).1
    have hne : vk.ownBlock ≠ some X := fun e => by have := (hrow X e).1; omega
    exact (ho5.block X (Nat.lt_of_lt_of_le hXl hg.size) (fun e => hgX e.symm)).trans ((hg.block X hXl (fun e => hne e.symm)).trans hA6.hX)
  refine ⟨⟨hA6.ds.kept hk hB9 (by decide), hA6.below.trans hB9, ((hA6.kept.grownNew hg (fun r hr => by have := (hrow r hr).1; omega)).new ho5 (by omega)).only hoX, hk.heap hA6.hO (by decide), hA6.bl.kept hk (by decide) (by decide), ?_, ?_, ?_, hA6.txl, hA6.pos, hA6.cnt⟩, hk⟩
  · rw [heap_put _ hX7]; rfl
  · refine ⟨by rw [List.length_append, List.length_append, hA6.row.1]; rfl, ?_, fun j hj hj' => ?_⟩
    · have h9 := ownsRow_setCell_other (own_last hn hown y) (a := ⟨X, 3, none⟩) (by intro e; exact hgX (by cases e; rfl)) (.slice (some ⟨g, 0, none⟩) (n + 1) cap)
      have hl : (V ++ [y]).length = n + 1 := by rw [List.length_append, hn]; rfl
      rw [hl]
      exact h9
    · have hto : ∀ (v : Value) (z : Nd) (lo' : Nat) (row : Option Nat), NodeV (NB lo' row wA) wA v z → Q ≤ lo' → (∀ r, vk.ownBlock = some r → r < lo' ∨ row = some r) →
          NodeV (NB Q (Value.ownBlock (.slice (some ⟨g, 0, none⟩) (n + 1) cap)) ((st5at w7 g (n * 5) y).setCell ⟨X, 3, none⟩ (.slice (some ⟨g, 0, none⟩) (n + 1) cap))) ((st5at w7 g (n * 5) y).setCell ⟨X, 3, none⟩ (.slice (some ⟨g, 0, none⟩) (n + 1) cap)) v z := fun v z lo' row hv hl' hr => by
        refine hv.to hsz fun g' hp hg' => ?_
        obtain ⟨p1, p2, cs, t, zz, p3, p4⟩ := hp
        have hne : vk.ownBlock ≠ some g' := fun e => by
          rcases hr g' e with h1 | h1
          · omega
          · exact p2 h1
        have hgg := hjg g' hg' hne
        have he := heq g' hg' hne hgg (by omega)
        exact ⟨⟨by omega, fun e => hgg (by cases e; rfl), cs, t, zz, he.trans p3, p4⟩, he⟩
      by_cases hjn : j < V.length
      · rw [List.getElem_append_left hjn, List.getElem_append_left (by rw [← hA6.row.1]; exact hjn)]
        exact hto _ _ Q _ (hA6.row.2.2 j hjn (by rw [← hA6.row.1]; exact hjn)) (Nat.le_refl _) (fun r hr => .inr hr)
      · have hjV : j = V.length := by rw [List.length_append] at hj; have : [y].length = 1 := rfl; omega
        subst hjV
        rw [List.getElem_append_right (Nat.le_refl _), List.getElem_append_right (by rw [hA6.row.1]; exact Nat.le_refl _)]
        simp only [List.getElem_singleton]
        exact hto _ _ lo none (hy.kept (Kept.of [] hA) (by simp) (by simp)) hQlo (fun r hr => .inl (hlo r hr))
  · rw [List.length_append]; show K.length + 1 ≤ c'; omega

/-! ### two stores into two blocks -/
theorem setCell_comm (w : World) {p q : Addr} (h : p.block ≠ q.block) (u v : Value) : (w.setCell p u).setCell q v = (w.setCell q v).setCell p u := by
  unfold World.setCell
  simp only [World.mk.injEq, and_true]
  apply Array.ext_getElem?
  intro i
  simp only [Array.getElem?_modify]
  by_cases h1 : p.block = i
  · by_cases h2 : q.block = i
    · exact absurd (h1.trans h2.symm) h
    · simp [h1, h2]
  · by_cases h2 : q.block = i
    · simp [h1, h2]
    · simp [h1, h2]
theorem st5at_comm (w : World) {X g : Nat} (h : g ≠ X) (o k : Nat) (y : NV) (u : Value) : (st5at w g o y).setCell ⟨X, k, none⟩ u = st5at (w.setCell ⟨X, k, none⟩ u) g o y := by
  show (((((w.setCell ⟨g, o, none⟩ y.a).setCell ⟨g, o + 1, none⟩ y.b).setCell ⟨g, o + 2, none⟩ y.c).setCell ⟨g, o + 3, none⟩ y.d).setCell ⟨g, o + 4, none⟩ y.e).setCell ⟨X, k, none⟩ u = _
  rw [setCell_comm _ (p := ⟨g, o + 4, none⟩) (q := ⟨X, k, none⟩) h, setCell_comm _ (p := ⟨g, o + 3, none⟩) (q := ⟨X, k, none⟩) h, setCell_comm _ (p := ⟨g, o + 2, none⟩) (q := ⟨X, k, none⟩) h, setCell_comm _ (p := ⟨g, o + 1, none⟩) (q := ⟨X, k, none⟩) h, setCell_comm _ (p := ⟨g, o, none⟩) (q := ⟨X, k, none⟩) h]

end Go.Proofs.YtnlkpdodacphkaaGreatDoor
namespace Go.Proofs.YtnlkpdodacphkaaGreatDoor
open Go Go.RowKit Go.Lib
set_option maxRecDepth 100000

theorem depth_kid {K : List Nd} {k : Nd} (h : k ∈ K) : k.depth ≤ depthK K := by
  induction K with
  | nil => cases h
  | cons x K ih =>
    rw [depthK]
    rcases List.mem_cons.1 h with rfl | h
    · omega
    · have := ih h; omega
theorem count_kid {K : List Nd} {k : Nd} (h : k ∈ K) : k.count ≤ countK K := by
  induction K with
  | nil => cases h
  | cons x K ih =>
    rw [countK]
    rcases List.mem_cons.1 h with rfl | h
    · omega
    · have := ih h; omega
end Go.Proofs.YtnlkpdodacphkaaGreatDoor
namespace Go.Proofs.YtnlkpdodacphkaaGreatDoor
open Go.RowKit
set_option maxRecDepth 100000

/-- What Plain hands back: a text whose letters may all stand in one. -/
def Plains (s : ByteArray) (w : World) (r : Ending) (w' : World) : Prop := ∃ P, r = .returned (.string (str P)) ∧ Lets P ∧ P.length = s.size ∧ Below w.heap.size w w'
def PlR (s : ByteArray) (w : World) (g : Nat) (out at_ : Value) (wr : World) : Prop :=
  ∃ (k : Nat) (P : List UInt8), g + k = s.size ∧ at_ = .int .i64 k ∧ out = .string (str P) ∧ Lets P ∧ P.length = k ∧ Below w.heap.size w wr
theorem str_x (P : List UInt8) : str P ++ ⟨#[120]⟩ = str (P ++ [120]) := str_append P [120]
set_option maxHeartbeats 4000000 in
theorem rplain (s : ByteArray) (w : World) (hs : s.size ≤ 1000000) :
    Calls Tryz.prog 24 #[.string s] w (Plains s w) := by
  go_enter Tryz.func24, Tryz.ntmps24
  go_wp2
  go_loopg [3, 4] s.size (fun g out at_ wr => PlR s w g out at_ wr)
  case atStart => exact ⟨0, [], rfl, rfl, rfl, Lets.nil, rfl, Below.refl _ _⟩
  case round =>
    obtain ⟨k, P, hg, rfl, rfl, hP, hPl, hb⟩ := hrel
    by_cases hk : k < s.size
    · have hk' : (k : Int) < (s.size : Int) := by omega
      have hk2 : (k : Int) ≤ (s.size : Int) := by omega
      have C1 := rget (s.extract k s.size) wr (by have := size_from s k; omega)
      rw [bl_from] at C1
      have hgl := gl_pos ((bl s).drop k)
      have htk := gl_take ((bl s).drop k)
      rw [List.length_drop, bl_size] at hgl
      obtain ⟨A, hA⟩ : ∃ A, (gl ((bl s).drop k)).1 = A := ⟨_, rfl⟩
      obtain ⟨Bi, hB⟩ : ∃ Bi, (gl ((bl s).drop k)).2 = Bi := ⟨_, rfl⟩
      have hmay := gl_may ((bl s).drop k)
      rw [hA, hB] at C1 htk hmay
      rw [hB] at hgl
      obtain ⟨n, rfl⟩ : ∃ n : Nat, Bi = n := ⟨Bi.toNat, by omega⟩
      have hn4 : n ≤ s.size - k := by omega
      have C1 := Lib.hid C1
      have HP := Lib.hid hP
      have HPl := Lib.hid hPl
      clear hP hPl hA hB
      have hx : ∀ w', Below w.heap.size w w' → PlR s w (s.size - (k + 1)) (.string (str P ++ ⟨#[120]⟩)) (.int .i64 ((k : Int) + 1)) w' := fun w' h =>
        ⟨k + 1, P ++ [120], by omega, rfl, by rw [str_x], by have := HP.out.snoc 120 (by decide); rw [put_120] at this; exact this, by rw [List.length_append, HPl.out]; rfl, h⟩
      have HX := Lib.hid hx
      have hPz : (str P).size ≤ 1000000 := by rw [str_size, HPl.out]; omega
      clear hx
      by_cases h0 : n = 0
      · subst h0
        clear hgl htk hmay
        go_wp2_with fail
        refine C1.out.mono ?_
        rintro r w1 ⟨rfl, hb1⟩
        have hgo := HX.out w1 (hb.trans (hb1.mono hb.size))
        clear hb hb1 C1
        go_wp2
        go_roundg (s.size - (k + 1))
        case measure => omega
        case rel => exact hgo
      · have q0 : ((n : Int) == 0) = false := by simp; omega
        have htk := htk (by omega)
        have hmay := hmay (by omega)
        simp only [Int.toNat_natCast] at htk
        have hsub : bl (s.extract k (k + n)) = put A := by
          rw [bl_sub, List.drop_take, Nat.add_sub_cancel_left]; exact htk
        have hss : (s.extract k (k + n)).size = n := by
          have h1 := congrArg List.length htk
          rw [← bl_size, hsub, ← htk, List.length_take, List.length_drop, bl_size]; omega
        have C2 := fun w1 => rtext (s.extract k (k + n)) w1 (by rw [hss]; omega)
        rw [hsub] at C2
        have hpt := textL_put A hmay
        obtain ⟨X, hX⟩ : ∃ X, textL (put A) = X := ⟨_, rfl⟩
        rw [hX] at hpt C2
        have C2 := Lib.hid C2
        obtain ⟨Y, hY⟩ : ∃ Y, s.extract k (k + n) = Y := ⟨_, rfl⟩
        have hYs : Y = str (put A) := by rw [← hY, ← bl_str (s.extract k (k + n)), hsub]
        have hpl : (put A).length = n := by rw [← hsub, bl_size, hss]
        have e1 : (k : Int) + (n : Int) ≤ (s.size : Int) := by omega
        by_cases hX0 : 0 ≤ X
        · clear htk hmay hsub hss hpt hX hYs hpl hgl hn4 hY
          go_wp2_with fail
          refine C1.out.mono ?_
          rintro r w1 ⟨rfl, hb1⟩
          have hb2 := hb.trans (hb1.mono hb.size)
          clear hb hb1 C1
          go_wp2_with fail
          refine (C2.out w1).mono ?_
          rintro r w2 ⟨rfl, hb3⟩
          have hgo := HX.out w2 (hb2.trans (hb3.mono hb2.size))
          clear hb2 hb3 C2
          go_wp2
          go_roundg (s.size - (k + 1))
          case measure => omega
          case rel => exact hgo
        · have hlet : letB A = true := hpt.1 (by omega)
          have hX1 : decide (0 ≤ X) = false := decide_eq_false hX0
          have hgo : ∀ w', Below w.heap.size w w' → PlR s w (s.size - (k + n)) (.string (str P ++ s.extract k (k + n))) (.int .i64 ((k : Int) + (n : Int))) w' := fun w' h =>
            ⟨k + n, P ++ put A, by omega, rfl, by rw [hY, hYs, str_append], HP.out.snoc A hlet, by rw [List.length_append, HPl.out, hpl], h⟩
          have HG := Lib.hid hgo
          have hYz : (s.extract k (k + n)).size ≤ 1000000 := by rw [hss]; omega
          clear hgo htk hmay hsub hss hpt hX hYs hpl hgl hn4 hY hlet hX0
          go_wp2_with fail
          refine C1.out.mono ?_
          rintro r w1 ⟨rfl, hb1⟩
          have hb2 := hb.trans (hb1.mono hb.size)
          clear hb hb1 C1
          go_wp2_with fail
          refine (C2.out w1).mono ?_
          rintro r w2 ⟨rfl, hb3⟩
          have hgo := HG.out w2 (hb2.trans (hb3.mono hb2.size))
          clear hb2 hb3 C2
          go_wp2
          go_roundg (s.size - (k + n))
          case measure => omega
          case rel => exact hgo
    · go_wp2
      go_ret
      exact ⟨P, rfl, hP, by omega, hb⟩

end Go.Proofs.YtnlkpdodacphkaaGreatDoor
