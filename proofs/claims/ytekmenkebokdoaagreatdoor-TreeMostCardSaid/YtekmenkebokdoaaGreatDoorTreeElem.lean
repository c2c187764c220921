/-
  What element and fill keep, and what they leave; what the machine does at each piece.
-/
import Derived.Test.YtekmenkebokdoaaGreatDoorTreeBegun
import Derived.Test.YtekmenkebokdoaaGreatDoorBuildK
namespace Go.Proofs.YtekmenkebokdoaaGreatDoor
open Go Go.RowKit
set_option maxRecDepth 100000

/-! ### the machine, piece by piece, within an element -/
theorem taken_end {D : List UInt8} {σ : St} {p : Pc} {F : Fr} {S : List Fr} {L : List Tell} {c : Nat} (h : p.kind = 0) : takenAt D σ p (.inside F S, L, c) = .bad 3 σ.pos := by
  unfold takenAt; rw [if_pos h]; rfl
theorem step_in (p : Pc) (F : Fr) (S : List Fr) (L : List Tell) (c : Nat) : step p (.inside F S, L, c) =
    if p.kind = 2 then (if p.name = F.tag then (shut F).on fun x => .ok (give x S, F.L, c) else .bad 3 p.at_)
    else if opens p then opn p (F :: S) L c else .ok (.inside { F with tx := F.tx ++ p.text } S, L, c) := rfl
theorem taken_in {D : List UInt8} {σ : St} {p : Pc} {m : Mach} (h : p.kind ≠ 0) : takenAt D σ p m = (step p m).on fun m' => runAt D σ m' := by
  unfold takenAt; rw [if_neg h]
theorem taken_close {D : List UInt8} {σ : St} {p : Pc} {F : Fr} {S : List Fr} {L : List Tell} {c : Nat} (h : p.kind = 2) :
    takenAt D σ p (.inside F S, L, c) = if p.name = F.tag then (if trimL F.tx = [] ∨ F.K = [] then runAt D σ (give (.mk F.sp F.nm F.A F.K (str (trimL F.tx))) S, F.L, c) else .bad 3 F.at_) else .bad 3 p.at_ := by
  rw [taken_in (by rw [h]; decide), step_in, if_pos h]
  split
  · unfold shut
    split
    · rfl
    · rfl
  · rfl
theorem taken_open {D : List UInt8} {σ : St} {p : Pc} {F : Fr} {S : List Fr} {L : List Tell} {c : Nat} (h : opens p) : takenAt D σ p (.inside F S, L, c) = (opn p (F :: S) L c).on fun m' => runAt D σ m' := by
  have h0 : p.kind ≠ 0 ∧ p.kind ≠ 2 := by rcases h with h | h <;> rw [h] <;> decide
  rw [taken_in h0.1, step_in, if_neg h0.2, if_pos h]
theorem taken_text {D : List UInt8} {σ : St} {p : Pc} {F : Fr} {S : List Fr} {L : List Tell} {c : Nat} (h0 : p.kind ≠ 0) (h2 : p.kind ≠ 2) (h : ¬ opens p) :
    takenAt D σ p (.inside F S, L, c) = runAt D σ (.inside { F with tx := F.tx ++ p.text } S, L, c) := by
  rw [taken_in h0, step_in, if_neg h2, if_neg h]; rfl

/-! ### frames but for one block -/
structure KeptB (ts : List TypeId) (X : Nat) (w w' : World) : Prop where
  size : w.heap.size ≤ w'.heap.size
  block : ∀ j, j < w.heap.size → j ≠ X → (∀ c t z, w.heap[j]? = some (.cells c t z) → t ∉ ts) → w'.heap[j]? = w.heap[j]?
theorem KeptB.of {ts : List TypeId} {w w' : World} (X : Nat) (h : Kept ts w w') : KeptB ts X w w' := ⟨h.size, fun j hj _ hn => h.block j hj hn⟩
theorem KeptB.trans {ts : List TypeId} {X : Nat} {a b c : World} (h : KeptB ts X a b) (k : KeptB ts X b c) : KeptB ts X a c :=
  ⟨Nat.le_trans h.size k.size, fun j hj hx hn => by
    have e := h.block j hj hx hn
    exact (k.block j (Nat.lt_of_lt_of_le hj h.size) hx (by rw [e]; exact hn)).trans e⟩
theorem KeptB.only {ts : List TypeId} {X : Nat} {w w' w'' : World} (h : KeptB ts X w w') (ho : Only X w' w'') : KeptB ts X w w'' :=
  ⟨Nat.le_trans h.size ho.size, fun j hj hx hn => (ho.block j (Nat.lt_of_lt_of_le hj h.size) hx).trans (h.block j hj hx hn)⟩
theorem KeptB.new {ts : List TypeId} {X : Nat} {w w' w'' : World} (h : KeptB ts X w w') {k : Nat} (ho : Only k w' w'') (hk : w.heap.size ≤ k) : KeptB ts X w w'' :=
  ⟨Nat.le_trans h.size ho.size, fun j hj hx hn => (ho.block j (Nat.lt_of_lt_of_le hj h.size) (by omega)).trans (h.block j hj hx hn)⟩
theorem KeptB.grownNew {ts : List TypeId} {X : Nat} {w w' w'' : World} {row : Option Nat} (h : KeptB ts X w w') (hg : w'.grownBy w'' row) (hr : ∀ r, row = some r → w.heap.size ≤ r) : KeptB ts X w w'' :=
  ⟨Nat.le_trans h.size hg.size, fun j hj hx hn => (hg.block j (Nat.lt_of_lt_of_le hj h.size) (fun e => by have := hr j e.symm; omega)).trans (h.block j hj hx hn)⟩
theorem Kept.butNew {ts : List TypeId} {X : Nat} {w w' w'' : World} (h : Kept ts w w') (k : KeptB ts X w' w'') (hX : w.heap.size ≤ X) : Kept ts w w'' :=
  ⟨Nat.le_trans h.size k.size, fun j hj hn => by
    have e := h.block j hj hn
    exact (k.block j (Nat.lt_of_lt_of_le hj h.size) (by omega) (by rw [e]; exact hn)).trans e⟩
theorem KeptB.heap {ts : List TypeId} {X : Nat} {w w' : World} (h : KeptB ts X w w') {b : Nat} {cs : Array Value} {t : TypeId} {z : Nat × Nat} (hb : w.heap[b]? = some (.cells cs t z)) (hx : b ≠ X) (ht : t ∉ ts) : w'.heap[b]? = some (.cells cs t z) :=
  (h.block b (Array.getElem?_eq_some_iff.1 hb).1 hx (fun c t' z' e => by rw [hb] at e; cases e; exact ht)).trans hb

/-! ### a document in a world where others are touched -/
theorem DS.kept {B dd b q d c : Nat} {s : ByteArray} {σ : St} {L : List Tell} {w w' : World} (h : DS B dd b q s σ d L c w) {ts : List TypeId} (hk : Kept ts w w') (hb : Below B w w') (ht : ∀ t ∈ docT, t ∉ ts) : DS B dd b q s σ d L c w' := by
  have hdt : 68 ∈ docT ∧ 71 ∈ docT ∧ 58 ∈ docT ∧ 65 ∈ docT := by decide
  refine ⟨⟨h.sc.base, h.sc.len, h.sc.pos, h.sc.glob.step hb, hk.heap h.sc.heap (ht _ hdt.2.2.2)⟩, ?_, h.base, hk.heap h.heap (ht _ hdt.2.2.1), h.pu⟩
  obtain ⟨h0, k, cap, hq, ho⟩ := h.sp
  exact ⟨h0, k, cap, hk.heap hq (ht _ hdt.2.1), hk.owns ho (ht _ hdt.1)⟩

/-! ### elements in a row -/
def RowK (Q : Nat) (w : World) (v : Value) (V : List NV) (K : List Nd) : Prop :=
  V.length = K.length ∧ w.ownsRow Q 25 5 v V.length (cellsN V) ∧ ∀ j (h : j < V.length) (h' : j < K.length), NodeV (NB Q v.ownBlock w) w (V[j]'h).val (K[j]'h')
theorem RowK.nil (Q : Nat) (w : World) : RowK Q w (.slice none 0 0) [] [] := ⟨rfl, World.ownsRow_nil _ _ _ _, fun j h => absurd h (Nat.not_lt_zero j)⟩
theorem RowK.kept {Q : Nat} {w w' : World} {v : Value} {V : List NV} {K : List Nd} (h : RowK Q w v V K) {ts : List TypeId} (hk : Kept ts w w') (h1 : 50 ∉ ts) (h2 : 25 ∉ ts) : RowK Q w' v V K :=
  ⟨h.1, hk.owns h.2.1 h2, fun j hj hj' => (h.2.2 j hj hj').kept hk h1 h2⟩
/-- Another block than those of the row, and of its elements, is touched. -/
theorem RowK.only {Q k : Nat} {w w' : World} {v : Value} {V : List NV} {K : List Nd} (h : RowK Q w v V K) (ho : Only k w w') (hk : k < Q) : RowK Q w' v V K := by
  refine ⟨h.1, ?_, fun j hj hj' => (h.2.2 j hj hj').to ho.size fun g hp hg => ?_⟩
  · refine h.2.1.kept ho.grown (.inr fun e => ?_)
    have := (h.2.1.lt k e).1
    omega
  · have e := ho.block g hg (by have := hp.1; omega)
    obtain ⟨h0, hr, cs, t, z, h3, h4⟩ := hp
    exact ⟨⟨h0, hr, cs, t, z, e.trans h3, h4⟩, e⟩

/-! ### what element and fill leave -/
def ElGives (B dd b q : Nat) (s : ByteArray) (S : List Fr) (L : List Tell) (R0 : Res Nd) (σ : St) (c : Nat) (w : World) (r : Ending) (w' : World) : Prop :=
  ((∃ e a, r = dies e a ∧ R0 = .bad e a) ∨
    ∃ x v σ' c', r = .returned v ∧ NodeV (NB w.heap.size none w') w' v x ∧ DS B dd b q s σ' S.length L c' w' ∧ R0 = runAt (bl s) σ' (give x S, L, c') ∧ σ.pos ≤ σ'.pos ∧ c < c') ∧
  Below B w w' ∧ Kept docT w w'
def pieceV (p : Pc) (v : Value) : Value := .agg #[.int .i64 p.kind, .string (str p.name), v, .string (str p.text), .int .i64 p.at_]
/-- The contract of element, within k elements. -/
def ElSpec (B dd b q : Nat) (s : ByteArray) (k : Nat) : Prop :=
  ∀ (S : List Fr) (L : List Tell) (c : Nat) (σ : St) (p : Pc) (v : Value) (w : World) (R0 : Res Nd), S.length = k → DS B dd b q s σ k L c w → RowsB b w v p.attrs → Took (bl s) σ p → opens p →
    R0 = ((opn p S L c).on fun m' => runAt (bl s) σ m') → Calls Tryz.prog 37 #[.pointer (some ⟨dd, 0, none⟩), pieceV p v] w (ElGives B dd b q s S L R0 σ c w)
def FiGives (B dd b q : Nat) (s : ByteArray) (S : List Fr) (F : Fr) (L' : List Tell) (X : Nat) (va : Value) (R0 : Res Nd) (σ : St) (c : Nat) (w : World) (r : Ending) (w' : World) : Prop :=
  ((∃ e a, r = dies e a ∧ R0 = .bad e a) ∨
    ∃ K V vk tx σ' c', r = .returned (.tuple #[]) ∧ w'.heap[X]? = some (.cells #[.string F.sp, .string F.nm, va, vk, .string tx] 25 (0, 0)) ∧ RowK w.heap.size w' vk V K ∧
      DS B dd b q s σ' (S.length + 1) L' c' w' ∧ R0 = runAt (bl s) σ' (give (.mk F.sp F.nm F.A K tx) S, F.L, c') ∧ σ.pos ≤ σ'.pos ∧ c ≤ c') ∧
  Below B w w' ∧ KeptB docT X w w'

/-! ### what fill's loop keeps -/
/-- Apart from the piece that was taken last. -/
structure FiC (B dd b q : Nat) (s : ByteArray) (S : List Fr) (F : Fr) (L' : List Tell) (σ0 : St) (c0 X Q : Nat) (va vo : Value) (o : Pc) (w : World) (σr : St) (K : List Nd) (V : List NV) (vk : Value) (tx : List UInt8) (cr : Nat) (wr : World) : Prop where
  ds : DS B dd b q s σr (S.length + 1) L' cr wr
  below : Below B w wr
  kept : KeptB docT X w wr
  hO : wr.heap[Q]? = some (.cells #[.int .i64 o.kind, .string (str o.name), vo, .string (str o.text), .int .i64 o.at_] 74 (0, 0))
  bl : Bl (Q + 1) (Q + 1) tx wr
  hX : wr.heap[X]? = some (.cells #[.string F.sp, .string F.nm, va, vk, .string ⟨#[]⟩] 25 (0, 0))
  row : RowK Q wr vk V K
  few : K.length ≤ cr
  txl : tx.length ≤ 800000 * σr.pos
  pos : σ0.pos ≤ σr.pos
  cnt : c0 ≤ cr
theorem FiC.move {B dd b q : Nat} {s : ByteArray} {S : List Fr} {F : Fr} {L' : List Tell} {σ0 : St} {c0 X Q : Nat} {va vo : Value} {o : Pc} {w : World} {σr : St} {K : List Nd} {V : List NV} {vk : Value} {tx : List UInt8} {cr : Nat} {wr : World}
    (h : FiC B dd b q s S F L' σ0 c0 X Q va vo o w σr K V vk tx cr wr) {σ' : St} {c' : Nat} {wx : World} (hd : DS B dd b q s σ' (S.length + 1) L' c' wx) (hb : Below B wr wx) (hk : Kept docT wr wx) (hc : cr ≤ c') (hp : σr.pos ≤ σ'.pos) :
    FiC B dd b q s S F L' σ0 c0 X Q va vo o w σ' K V vk tx c' wx :=
  ⟨hd, h.below.trans hb, h.kept.trans (.of X hk), hk.heap h.hO (by decide), h.bl.kept hk (by decide) (by decide), hk.heap h.hX (by decide), h.row.kept hk (by decide) (by decide), Nat.le_trans h.few hc,
    Nat.le_trans h.txl (Nat.mul_le_mul_left _ hp), Nat.le_trans h.pos hp, Nat.le_trans h.cnt hc⟩
theorem FiC.step {B dd b q : Nat} {s : ByteArray} {S : List Fr} {F : Fr} {L' : List Tell} {σ0 : St} {c0 X Q : Nat} {va vo : Value} {o : Pc} {w : World} {σr : St} {K : List Nd} {V : List NV} {vk : Value} {tx : List UInt8} {cr : Nat} {wr : World}
    (h : FiC B dd b q s S F L' σ0 c0 X Q va vo o w σr K V vk tx cr wr) {wx : World} (hb : Below wr.heap.size wr wx) : FiC B dd b q s S F L' σ0 c0 X Q va vo o w σr K V vk tx cr wx :=
  h.move (h.ds.step hb) (hb.mono h.ds.le) (Kept.of docT hb) (Nat.le_refl _) (Nat.le_refl _)
/-- Block P is written. -/
theorem FiC.put {B dd b q : Nat} {s : ByteArray} {S : List Fr} {F : Fr} {L' : List Tell} {σ0 : St} {c0 X Q : Nat} {va vo : Value} {o : Pc} {w : World} {σr : St} {K : List Nd} {V : List NV} {vk : Value} {tx : List UInt8} {cr : Nat} {wr : World}
    (h : FiC B dd b q s S F L' σ0 c0 X Q va vo o w σr K V vk tx cr wr) {P : Nat} {wx : World} (ho : Only P wr wx) {cs : Array Value} {z : Nat × Nat} (hP : wr.heap[P]? = some (.cells cs 74 z)) (hPQ : Q < P) (hw : w.heap.size = Q) (hBw : B ≤ w.heap.size) :
    FiC B dd b q s S F L' σ0 c0 X Q va vo o w σr K V vk tx cr wx := by
  have hk : Kept [74] wr wx := Kept.only ho hP (by decide)
  refine ⟨h.ds.only ho hP (by decide) (by omega), h.below.trans (ho.below (by omega) h.ds.le), h.kept.new ho (by omega), ho.heap h.hO (by omega), h.bl.kept hk (by decide) (by decide), hk.heap h.hX (by decide), h.row.kept hk (by decide) (by decide), h.few, h.txl, h.pos, h.cnt⟩
/-- The text grows. -/
theorem FiC.text {B dd b q : Nat} {s : ByteArray} {S : List Fr} {F : Fr} {L' : List Tell} {σ0 : St} {c0 X Q : Nat} {va vo : Value} {o : Pc} {w : World} {σr : St} {K : List Nd} {V : List NV} {vk : Value} {tx : List UInt8} {cr : Nat} {wr : World}
    (h : FiC B dd b q s S F L' σ0 c0 X Q va vo o w σr K V vk tx cr wr) {wx : World} {tx' : List UInt8} (hbl : Bl (Q + 1) (Q + 1) tx' wx) (hb : Below (Q + 1) wr wx) (hk : Kept bldT wr wx) (hw : w.heap.size = Q) (hBw : B ≤ w.heap.size) (σ' : St) (hd : DS B dd b q s σ' (S.length + 1) L' cr wr) (hp : σr.pos ≤ σ'.pos) (ht : tx'.length ≤ 800000 * σ'.pos) :
    FiC B dd b q s S F L' σ0 c0 X Q va vo o w σ' K V vk tx' cr wx := by
  have hb0 : Below B wr wx := hb.mono (by omega)
  refine ⟨hd.kept hk hb0 (by decide), h.below.trans hb0, ⟨Nat.le_trans h.kept.size hk.size, fun j hj hx hn => (hb.block j (by omega)).trans (h.kept.block j hj hx hn)⟩, hk.heap h.hO (by decide), hbl, hk.heap h.hX (by decide), h.row.kept hk (by decide) (by decide), h.few, ht, Nat.le_trans h.pos hp, h.cnt⟩

end Go.Proofs.YtekmenkebokdoaaGreatDoor
