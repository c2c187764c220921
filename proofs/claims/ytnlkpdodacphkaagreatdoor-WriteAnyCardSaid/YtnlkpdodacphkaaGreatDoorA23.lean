/-
  The walk of (*document).fill.
-/
import Derived.Test.YtnlkpdodacphkaaGreatDoorA18
import Derived.Deep.RegionLaw
import Derived.Deep.AppendLies
import Derived.Deep.CutBlock
import Derived.Deep.CutRange
import Derived.Deep.DeepCutAuto
import Derived.KernelRfl
namespace Go.Proofs.YtnlkpdodacphkaaGreatDoor
open Go Go.RowKit
set_option maxRecDepth 100000

theorem node_info : (Tryz.prog.info? 25).map (fun i => (i.zero, i.size, i.bytes)) = some (some (.agg #[.string ⟨#[]⟩, .string ⟨#[]⟩, .slice none 0 0, .slice none 0 0, .string ⟨#[]⟩]), 5, 96) := by kernel_rfl
/-- What fill's loop keeps: the piece that was taken last, in block P, and the rest. -/
structure FiR (B dd b q : Nat) (s : ByteArray) (S : List Fr) (F : Fr) (L' : List Tell) (R0 : Res Nd) (σ0 : St) (c0 X Q P : Nat) (va vo : Value) (o : Pc) (w : World) (σr : St) (p : Pc) (v : Value) (K : List Nd) (V : List NV) (vk : Value) (tx : List UInt8) (cr : Nat) (wr : World) : Prop where
  core : FiC B dd b q s S F L' σ0 c0 X Q va vo o w σr K V vk tx cr wr
  hP : wr.heap[P]? = some (.cells #[.int .i64 p.kind, .string (str p.name), v, .string (str p.text), .int .i64 p.at_] 117 (0, 0))
  rowp : RowsB b wr v p.attrs
  took : Took (bl s) σr p
  same : R0 = takenAt (bl s) σr p (.inside { F with K := K, tx := tx } S, L', cr)
  room : p.kind ≠ 0 → tx.length + 800000 ≤ 800000 * σr.pos
def FiRel (B dd b q : Nat) (s : ByteArray) (S : List Fr) (F : Fr) (L' : List Tell) (R0 : Res Nd) (σ0 : St) (c0 X Q P : Nat) (va vo : Value) (o : Pc) (w : World) (g : Nat) (wr : World) : Prop :=
  ∃ σr p v K V vk tx cr, FiR B dd b q s S F L' R0 σ0 c0 X Q P va vo o w σr p v K V vk tx cr wr ∧ mea (bl s) σr p = g
/-- The next piece is taken. -/
theorem fi_again {B dd b q : Nat} {s : ByteArray} {S : List Fr} {F : Fr} {L' : List Tell} {R0 : Res Nd} {σ0 : St} {c0 X Q P : Nat} {va vo : Value} {o : Pc} {w : World} {σr : St} {K : List Nd} {V : List NV} {vk : Value} {tx : List UInt8} {cr : Nat} {w5 w6 : World}
    (h : FiC B dd b q s S F L' σ0 c0 X Q va vo o w σr K V vk tx cr w5) (hw : w.heap.size = Q) (hBw : B ≤ Q) (hQP : Q < P) {cs : Array Value} (hP : w5.heap[P]? = some (.cells cs 117 (0, 0)))
    {x0 x1 x2 x3 x4 : Value} (hcs : cs = #[x0, x1, x2, x3, x4]) (hsame : R0 = runAt (bl s) σr (.inside { F with K := K, tx := tx } S, L', cr)) (he : (nextS (bl s) σr).err = 0)
    (hD : DS B dd b q s (nextS (bl s) σr) (S.length + 1) L' cr w6) (hB : Below B w5 w6) (hK : Kept docT w5 w6) {v : Value} (hrows : RowsB b w6 v (nextP (bl s) σr).attrs) :
    FiRel B dd b q s S F L' R0 σ0 c0 X Q P va vo o w (mea (bl s) (nextS (bl s) σr) (nextP (bl s) σr))
      (st5 w6 P (.int .i64 (nextP (bl s) σr).kind) (.string (str (nextP (bl s) σr).name)) v (.string (str (nextP (bl s) σr).text)) (.int .i64 (nextP (bl s) σr).at_)) := by
  subst hcs
  have hC6 := h.move hD hB hK (Nat.le_refl _) (next_pos h.ds.pu.scn he)
  have hP6 := hK.heap hP (by decide)
  have hs5 := st5_onlyR w6 P (.int .i64 (nextP (bl s) σr).kind) (.string (str (nextP (bl s) σr).name)) v (.string (str (nextP (bl s) σr).text)) (.int .i64 (nextP (bl s) σr).at_)
  refine ⟨_, _, v, K, V, vk, tx, cr, ⟨hC6.put hs5 hP6 hQP hw (by omega), st5_heap hP6 _ _ _ _ _, hrows.onlyOf hs5 hP6 (by decide), next_took h.ds.pu.scn he, hsame.trans (next_taken h.ds.pu.scn he _), fun hk => ?_⟩, rfl⟩
  have h1 := h.txl
  have h2 := next_pos1 h.ds.pu.scn hk
  omega
theorem atS_ok' {σ : St} (h : σ.err = 0) : atS σ = σ.pos := by unfold atS; rw [if_pos h]
theorem fr_same (G : Fr) (h1 : G.K = []) (h2 : G.tx = []) : { G with K := [], tx := [] } = G := by cases G; cases h1; cases h2; rfl
theorem trim_str (l : List UInt8) : trimmed (str l) = str (trimL l) := by unfold trimmed; rw [str_bl]; rfl
theorem NodeV.form {P : Nat → Prop} {w : World} {v : Value} {x : Nd} (h : NodeV P w v x) : ∃ sp nm tx a1 n1 c1 a2 n2 c2, v = .agg #[.string sp, .string nm, .slice a1 n1 c1, .slice a2 n2 c2, .string tx] := by
  cases h with
  | mk sp nm tx A K va ao cap c ha hk hn =>
    obtain ⟨a1, c1, rfl, _⟩ := ha
    exact ⟨_, _, _, _, _, _, _, _, _, rfl⟩
/-- What element leaves, for fill. -/
def KidGives (B dd b q : Nat) (s : ByteArray) (S : List Fr) (F : Fr) (L' : List Tell) (R0 : Res Nd) (σ0 : St) (c0 X Q : Nat) (va vo : Value) (o : Pc) (w : World) (K : List Nd) (V : List NV) (ak : Option Addr) (nv ck : Nat) (tx : List UInt8) (P : Nat) (PO : Obj) (pos4 cr lo : Nat) (wx : World) (e : Ending) (w6 : World) : Prop :=
  (∃ e' a', e = dies e' a' ∧ Hid (R0 = .bad e' a' ∧ Below B w w6 ∧ KeptB docT X w w6)) ∨
  ∃ sp nm t a1 n1 c1 a2 n2 c2, e = .returned (.agg #[.string sp, .string nm, .slice a1 n1 c1, .slice a2 n2 c2, .string t]) ∧
    w6.cell? ⟨X, 3, none⟩ = some (.slice ak nv ck) ∧ w6.frozen? ⟨X, 3, none⟩ = false ∧
    Hid (∃ x σ' c', FiC B dd b q s S F L' σ0 c0 X Q va vo o w σ' K V (.slice ak nv ck) tx c' w6 ∧ NodeV (NB lo none w6) w6 (.agg #[.string sp, .string nm, .slice a1 n1 c1, .slice a2 n2 c2, .string t]) x ∧
      R0 = runAt (bl s) σ' (.inside { F with K := K ++ [x], tx := tx } S, L', c') ∧ pos4 ≤ σ'.pos ∧ cr < c') ∧
    Hid (w6.heap[P]? = some PO) ∧ Hid (lo ≤ w6.heap.size) ∧ Hid (∀ (k : Nat) (cs : Array Value) (z : Nat × Nat), wx.heap[k]? = some (Obj.cells cs 25 z) → w6.heap[k]? = some (Obj.cells cs 25 z))
theorem kid_gives {B dd b q : Nat} {s : ByteArray} {S : List Fr} {F : Fr} {L' : List Tell} {R0 : Res Nd} {σ0 : St} {c0 X Q : Nat} {va vo : Value} {o : Pc} {w : World} {σr : St} {K : List Nd} {V : List NV} {ak : Option Addr} {nv ck : Nat} {tx : List UInt8} {cr P : Nat} {w4 : World} {cs : Array Value}
    (h : FiC B dd b q s S F L' σ0 c0 X Q va vo o w σr K V (.slice ak nv ck) tx cr w4) (hP : w4.heap[P]? = some (.cells cs 117 (0, 0))) (wx : World) (hb : Below w4.heap.size w4 wx) (e : Ending) (w6 : World)
    (hE : ElGives B dd b q s ({ F with K := K, tx := tx } :: S) L' R0 σr cr wx e w6) : KidGives B dd b q s S F L' R0 σ0 c0 X Q va vo o w K V ak nv ck tx P (.cells cs 117 (0, 0)) σr.pos cr w4.heap.size wx e w6 := by
  have hx := h.step hb
  obtain ⟨hcase, hB6, hK6⟩ := hE
  rcases hcase with ⟨e', a', rfl, hbad⟩ | ⟨x, v, σ', c', rfl, hn, hd, hs, hp, hc⟩
  · exact Or.inl ⟨_, _, rfl, Lib.hid ⟨hbad, hx.below.trans hB6, hx.kept.trans (.of X hK6)⟩⟩
  · obtain ⟨sp, nm, t, a1, n1, c1, a2, n2, c2, rfl⟩ := hn.form
    have h6 := hx.move hd hB6 hK6 (Nat.le_of_lt hc) hp
    refine Or.inr ⟨sp, nm, t, a1, n1, c1, a2, n2, c2, rfl, ?_, Lib.frozen_of_heap h6.hX 3, Lib.hid ⟨x, σ', c', h6, ?_, hs, hp, hc⟩, Lib.hid (hK6.heap ((Kept.of docT hb).heap hP (by decide)) (by decide)), Lib.hid (Nat.le_trans hb.size hK6.size), Lib.hid fun k cs z hk => hK6.heap hk (by decide)⟩
    · rw [Lib.cell_of_heap h6.hX]; rfl
    · exact hn.to (Nat.le_refl _) fun g hp hg => ⟨⟨Nat.le_trans hb.size hp.1, hp.2⟩, rfl⟩
/-- What stands behind a round's statement: whatever piece it was. -/
def FiMid (B dd b q : Nat) (s : ByteArray) (S : List Fr) (F : Fr) (L' : List Tell) (R0 : Res Nd) (σ0 : St) (c0 X Q P : Nat) (va vo : Value) (o : Pc) (w : World) (p : Pc) (v : Value) (pos : Nat) (wx : World) : Prop :=
  ∃ K V vk tx σ5 c5, FiC B dd b q s S F L' σ0 c0 X Q va vo o w σ5 K V vk tx c5 wx ∧ R0 = runAt (bl s) σ5 (.inside { F with K := K, tx := tx } S, L', c5) ∧ pos ≤ σ5.pos ∧
    wx.heap[P]? = some (.cells #[.int .i64 p.kind, .string (str p.name), v, .string (str p.text), .int .i64 p.at_] 117 (0, 0))
theorem kid_own {B dd b q : Nat} {s : ByteArray} {S : List Fr} {F : Fr} {L' : List Tell} {R0 : Res Nd} {σ0 : St} {c0 X Q : Nat} {va vo : Value} {o : Pc} {w : World} {K : List Nd} {V : List NV} {ak : Option Addr} {nv ck : Nat} {tx : List UInt8} {pos4 cr lo : Nat} {w6 : World} {yv : Value}
    (h : Hid (∃ x σ' c', FiC B dd b q s S F L' σ0 c0 X Q va vo o w σ' K V (.slice ak nv ck) tx c' w6 ∧ NodeV (NB lo none w6) w6 yv x ∧ R0 = runAt (bl s) σ' (.inside { F with K := K ++ [x], tx := tx } S, L', c') ∧ pos4 ≤ σ'.pos ∧ cr < c')) (hn : V.length = nv) :
    w6.ownsRow Q 25 5 (.slice ak nv ck) nv (cellsN V) := by
  obtain ⟨x, σ', c', h, _⟩ := h.out
  have := h.row.2.1
  rw [hn] at this
  exact this
theorem kid_cells {w : World} {Q g n cap : Nat} {V : List NV} (hn : V.length = n) (h : w.ownsRow Q 25 5 (.slice (some ⟨g, 0, none⟩) (n + 1) cap) (n + 1) (cellsN V ++ zeroC)) :
    w.cell? ⟨g, n * 5, none⟩ = some (.string ⟨#[]⟩) ∧ w.cell? ⟨g, n * 5 + 1, none⟩ = some (.string ⟨#[]⟩) ∧ w.cell? ⟨g, n * 5 + 2, none⟩ = some (.slice none 0 0) ∧ w.cell? ⟨g, n * 5 + 3, none⟩ = some (.slice none 0 0) ∧ w.cell? ⟨g, n * 5 + 4, none⟩ = some (.string ⟨#[]⟩) ∧
    w.frozen? ⟨g, n * 5, none⟩ = false ∧ w.frozen? ⟨g, n * 5 + 1, none⟩ = false ∧ w.frozen? ⟨g, n * 5 + 2, none⟩ = false ∧ w.frozen? ⟨g, n * 5 + 3, none⟩ = false ∧ w.frozen? ⟨g, n * 5 + 4, none⟩ = false := by
  obtain ⟨cur, hg, _⟩ := own_cell h
  have hl : (cellsN V).length = n * 5 := by rw [cellsN_len, hn]
  have hc : ∀ q, q < 5 → w.cell? ⟨g, n * 5 + q, none⟩ = zeroC[q]? := fun q hq => by
    rw [h.cellAt _ (by omega), List.getElem?_append_right (by omega), hl, show n * 5 + q - n * 5 = q by omega]
  exact ⟨hc 0 (by decide), hc 1 (by decide), hc 2 (by decide), hc 3 (by decide), hc 4 (by decide), Lib.frozen_of_heap hg _, Lib.frozen_of_heap hg _, Lib.frozen_of_heap hg _, Lib.frozen_of_heap hg _, Lib.frozen_of_heap hg _⟩
theorem kid_far {w w' : World} {row : Option Nat} (hg : w.grownBy w' row) {X : Nat} (hX : X < w.heap.size) (hne : row ≠ some X) {v : Value} (h : w.cell? ⟨X, 3, none⟩ = some v) (hf : w.frozen? ⟨X, 3, none⟩ = false) : w'.cell? ⟨X, 3, none⟩ = some v ∧ w'.frozen? ⟨X, 3, none⟩ = false :=
  ⟨(hg.cell_far ⟨X, 3, none⟩ hX (fun e => hne e.symm)).trans h, (hg.frozen_far ⟨X, 3, none⟩ hX (fun e => hne e.symm)).trans hf⟩
theorem fz_alloc {w : World} {o : Obj} {X : Nat} (h : w.frozen? ⟨X, 3, none⟩ = false) (hX : X < w.heap.size) : (w.alloc o).frozen? ⟨X, 3, none⟩ = false := (World.frozen?_of_block (w := w) (Below.heap_alloc w o X hX)).trans h
theorem kid_done {B dd b q : Nat} {s : ByteArray} {S : List Fr} {F : Fr} {L' : List Tell} {R0 : Res Nd} {σ0 : St} {c0 X Q : Nat} {va vo : Value} {o : Pc} {w : World} {K : List Nd} {V : List NV} {ak : Option Addr} {nv ck : Nat} {tx : List UInt8} {pos4 cr lo : Nat} {w6 wA w7 : World} {sp nm t : ByteArray} {a1 a2 : Option Addr} {n1 c1 n2 c2 : Nat}
    (hXQ : X < Q) (hBX : B ≤ X) (hw : w.heap.size = Q) (hn : V.length = nv)
    (h : Hid (∃ x σ' c', FiC B dd b q s S F L' σ0 c0 X Q va vo o w σ' K V (.slice ak nv ck) tx c' w6 ∧ NodeV (NB lo none w6) w6 (.agg #[.string sp, .string nm, .slice a1 n1 c1, .slice a2 n2 c2, .string t]) x ∧ R0 = runAt (bl s) σ' (.inside { F with K := K ++ [x], tx := tx } S, L', c') ∧ pos4 ≤ σ'.pos ∧ cr < c'))
    (hA : Below w6.heap.size w6 wA) {g cap : Nat} (hown : w7.ownsRow Q 25 5 (.slice (some ⟨g, 0, none⟩) (nv + 1) cap) (nv + 1) (cellsN V ++ zeroC)) (hg : wA.grownBy w7 (Value.ownBlock (.slice ak nv ck))) (hat : Value.ownBlock (.slice ak nv ck) = some g ∨ g = wA.heap.size)
    {P : Nat} {cs : Array Value} (hP : Hid (w6.heap[P]? = some (Obj.cells cs 117 (0, 0)))) (hlo : K.length ≤ cr ∧ Q ≤ lo ∧ ∀ r, Value.ownBlock (.slice ak nv ck) = some r → r < lo) :
    ∃ K' V' σ' c', FiC B dd b q s S F L' σ0 c0 X Q va vo o w σ' K' V' (.slice (some ⟨g, 0, none⟩) (nv + 1) cap) tx c' ((st5at w7 g (nv * 5) ⟨.string sp, .string nm, .slice a1 n1 c1, .slice a2 n2 c2, .string t⟩).setCell ⟨X, 3, none⟩ (.slice (some ⟨g, 0, none⟩) (nv + 1) cap)) ∧
      R0 = runAt (bl s) σ' (.inside { F with K := K', tx := tx } S, L', c') ∧ pos4 ≤ σ'.pos ∧
      ((st5at w7 g (nv * 5) ⟨.string sp, .string nm, .slice a1 n1 c1, .slice a2 n2 c2, .string t⟩).setCell ⟨X, 3, none⟩ (.slice (some ⟨g, 0, none⟩) (nv + 1) cap)).heap[P]? = some (Obj.cells cs 117 (0, 0)) := by
  obtain ⟨x, σ', c', h6, hy, hs, hp, hc⟩ := h.out
  have hk := h6.kid (y := ⟨.string sp, .string nm, .slice a1 n1 c1, .slice a2 n2 c2, .string t⟩) (by omega) hw hXQ hBX hy hlo.2.2 hlo.2.1 hA hn hown hg hat
  exact ⟨_, _, σ', c', hk.1, hs, hp, hk.2.heap ((Kept.of [] hA).heap hP.out (by simp)) (by decide)⟩
set_option maxHeartbeats 16000000 in
theorem dfill (B dd b q : Nat) (s : ByteArray) (S : List Fr) (F : Fr) (L' : List Tell) (σ : St) (c X : Nat) (va vo : Value) (o : Pc) (w : World) (R0 : Res Nd) (hIH : ElSpec B dd b q s (S.length + 1)) (h : DS B dd b q s σ (S.length + 1) L' c w)
    (hX : w.heap[X]? = some (.cells #[.string F.sp, .string F.nm, va, .slice none 0 0, .string ⟨#[]⟩] 25 (0, 0))) (hBX : B ≤ X) (hK : F.K = []) (ht : F.tx = []) (htag : F.tag = o.name) (hat : F.at_ = o.at_) (hvo : ∃ ao n cap, vo = .slice ao n cap)
    (hR0 : R0 = runAt (bl s) σ (.inside F S, L', c)) :
    Calls Tryz.prog 70 #[.pointer (some ⟨dd, 0, none⟩), .pointer (some ⟨X, 0, none⟩), pieceV o vo] w (FiGives B dd b q s S F L' X va R0 σ c w) := by
  obtain ⟨oa, on, ocap, rfl⟩ := hvo
  have hA1 := (Below.refl w.heap.size w).alloc (Nat.le_refl _) (.cells #[.int .i64 o.kind, .string (str o.name), .slice oa on ocap, .string (str o.text), .int .i64 o.at_] 117)
  have hA2 := (Below.refl (w.alloc (.cells #[.int .i64 o.kind, .string (str o.name), .slice oa on ocap, .string (str o.text), .int .i64 o.at_] 117)).heap.size _).alloc (Nat.le_refl _) (.cells #[.pointer none, .slice none 0 0] 70)
  have hA := hA1.trans (hA2.mono hA1.size)
  have hbl := bl_new (w.alloc (.cells #[.int .i64 o.kind, .string (str o.name), .slice oa on ocap, .string (str o.text), .int .i64 o.at_] 117))
  rw [World.size_alloc] at hbl
  have hXl : X < w.heap.size := (Array.getElem?_eq_some_iff.1 hX).1
  have HC := Lib.hid (show FiC B dd b q s S F L' σ c X w.heap.size va (.slice oa on ocap) o w σ [] [] (.slice none 0 0) [] c ((w.alloc (.cells #[.int .i64 o.kind, .string (str o.name), .slice oa on ocap, .string (str o.text), .int .i64 o.at_] 117)).alloc (.cells #[.pointer none, .slice none 0 0] 70)) from
    ⟨h.step hA, hA.mono h.le, .of X (Kept.of docT hA), (Kept.of docT hA2).heap (heap_alloc_new w _) (by decide), hbl, (Kept.of docT hA).heap hX (by decide), RowK.nil _ _, Nat.zero_le _, Nat.zero_le _, Nat.le_refl _, Nat.le_refl _⟩)
  have HBw := Lib.hid h.le
  have HBX := Lib.hid hBX
  have HIH := Lib.hid hIH
  have HR0 := Lib.hid (show R0 = runAt (bl s) σ (.inside { F with K := [], tx := [] } S, L', c) by rw [hR0, fr_same F hK ht])
  have Htag := Lib.hid htag
  have Hat := Lib.hid hat
  clear h hX hBX hIH hR0 hK ht htag hat hA hA1 hA2 hbl
  unfold pieceV
  go_enter Tryz.func70, Tryz.ntmps70
  go_wp2_with fail
  obtain ⟨Q, hQe⟩ : ∃ Q, w.heap.size = Q := ⟨_, rfl⟩
  rw [hQe] at HC hXl HBw ⊢
  have HQe := Lib.hid hQe
  clear hQe
  generalize (w.alloc (.cells #[.int .i64 o.kind, .string (str o.name), .slice oa on ocap, .string (str o.text), .int .i64 o.at_] 117)).alloc (.cells #[.pointer none, .slice none 0 0] 70) = w0 at HC ⊢
  have C := Lib.hid (dnext B dd b q s σ (S.length + 1) L' c w0 HC.out.ds)
  refine C.out.mono ?_
  rintro r w1 ⟨hok, hbad, hD1, hB1, hK1⟩
  by_cases he : (nextS (bl s) σ).err = 0
  rotate_left
  · have hr := hbad he
    subst hr
    have HE := Lib.hid (show R0 = .bad (nextS (bl s) σ).err (nextS (bl s) σ).wrg from HR0.out.trans (runAt_bad he _))
    exact ⟨rfl, .inl ⟨_, _, rfl, HE.out⟩, HC.out.below.trans hB1, HC.out.kept.trans (.of X hK1)⟩
  obtain ⟨x, rfl, v, rfl, hrows, hfresh⟩ := hok he
  obtain ⟨ao, n, cap, rfl⟩ := rows_form hrows
  have hsame := HR0.out.trans (next_taken HC.out.ds.pu.scn he _)
  have htook := next_took HC.out.ds.pu.scn he
  have hroom : (nextP (bl s) σ).kind ≠ 0 → ([] : List UInt8).length + 800000 ≤ 800000 * (nextS (bl s) σ).pos := fun hk => by
    have := next_pos1 HC.out.ds.pu.scn hk
    show 0 + 800000 ≤ _
    omega
  have hC1 := HC.out.move hD1 hB1 hK1 (Nat.le_refl _) (next_pos HC.out.ds.pu.scn he)
  generalize nextS (bl s) σ = σ1 at *
  generalize nextP (bl s) σ = p1 at *
  have hAA := (Below.refl w1.heap.size w1).alloc (Nat.le_refl _) (.cells #[.int .i64 p1.kind, .string (str p1.name), .slice ao n cap, .string (str p1.text), .int .i64 p1.at_] 117)
  obtain ⟨P, hPe⟩ : ∃ P, w1.heap.size = P := ⟨_, rfl⟩
  have hQP : Q < P := by rw [← hPe]; exact (Array.getElem?_eq_some_iff.1 hC1.hO).1
  have HRel := Lib.hid (show FiRel B dd b q s S F L' R0 σ c X Q P va (.slice oa on ocap) o w (mea (bl s) σ1 p1) (w1.alloc (.cells #[.int .i64 p1.kind, .string (str p1.name), .slice ao n cap, .string (str p1.text), .int .i64 p1.at_] 117)) from
    ⟨σ1, p1, _, [], [], _, [], c, ⟨hC1.step hAA, by rw [← hPe]; exact heap_alloc_new w1 _, hrows.keptOf (Kept.of docT hAA) (by decide), htook, hsame, hroom⟩, rfl⟩)
  clear hok hbad hD1 hB1 hK1 hrows hfresh hsame htook hroom hC1 hAA he C HC HR0
  have HPe := Lib.hid hPe
  go_wp2_with fail
  clear hPe
  generalize w1.alloc (.cells #[.int .i64 p1.kind, .string (str p1.name), .slice ao n cap, .string (str p1.text), .int .i64 p1.at_] 117) = w2 at HRel ⊢
  go_loopg [] (mea (bl s) σ1 p1) (fun g wr => FiRel B dd b q s S F L' R0 σ c X Q P va (.slice oa on ocap) o w g wr)
  case atStart => exact HRel.out
  case round =>
    clear HRel
    obtain ⟨σr, p, v, K, V, vk, tx, cr, hr, hg⟩ := hrel
    obtain ⟨ap, np, cp, rfl⟩ := rows_form hr.rowp
    have HX := Lib.hid hr
    have HG := Lib.hid hg
    have p0 := Lib.cell_of_heap hr.hP 0
    simp only [List.getElem?_toArray, List.getElem?_cons_zero] at p0
    clear hr hg
    by_cases hk2 : p.kind = 2
    · have o1 := Lib.cell_of_heap HX.out.core.hO 1
      have o4 := Lib.cell_of_heap HX.out.core.hO 4
      have p1' := Lib.cell_of_heap HX.out.hP 1
      have p4 := Lib.cell_of_heap HX.out.hP 4
      simp only [List.getElem?_toArray, List.getElem?_cons_zero, List.getElem?_cons_succ] at o1 o4 p1' p4
      have q2 : (p.kind != 2) = false := by simp [hk2]
      have hclose := HX.out.same.trans (taken_close hk2)
      by_cases hnm : p.name = F.tag
      rotate_left
      · rw [if_neg (show ¬ p.name = ({ F with K := K, tx := tx } : Fr).tag from hnm)] at hclose
        have q9 : ((str p.name).toList == (str o.name).toList) = false := by rw [toList_str, toList_str, ← Htag.out]; simp [hnm]
        have HE := Lib.hid hclose
        clear hclose hnm hk2
        go_wp2_with fail
        refine (must_bad _ _ _).mono ?_
        rintro e wy ⟨rfl, hw⟩
        obtain rfl := hw.symm
        exact ⟨rfl, .inl ⟨_, _, rfl, HE.out⟩, HX.out.core.below, HX.out.core.kept⟩
      rw [if_pos (show p.name = ({ F with K := K, tx := tx } : Fr).tag from hnm)] at hclose
      have hcl2 : R0 = if trimL tx = [] ∨ K = [] then runAt (bl s) σr (give (.mk F.sp F.nm F.A K (str (trimL tx))) S, F.L, cr) else .bad 3 F.at_ := hclose
      have q9 : ((str p.name).toList == (str o.name).toList) = true := by rw [toList_str, toList_str, ← Htag.out, hnm]; simp
      have HCL := Lib.hid hcl2
      have CM := Lib.hid (must_ok 3 p.at_ wr)
      have CO := Lib.hid (kout (Q + 1) (Q + 1) tx wr HX.out.core.bl)
      clear hclose hcl2 hnm hk2
      go_wp2_with fail
      refine CM.out.mono ?_
      rintro e wy ⟨rfl, hw⟩
      obtain rfl := hw.symm
      clear CM q9 q2 o1 p1' p4 o4 p0
      go_wp2_with fail
      refine CO.out.mono ?_
      rintro e w3 ⟨rfl, hb3, hk3⟩
      have hd3 := HX.out.core.ds.kept hk3 (hb3.mono (by have := HBw.out; omega)) (by decide)
      have hr3 := HX.out.core.row.kept hk3 (by decide) (by decide)
      have hx3 := hk3.heap HX.out.core.hX (by decide)
      have ho3 := hk3.heap HX.out.core.hO (by decide)
      have hB3 : Below B w w3 := HX.out.core.below.trans (hb3.mono (by have := HBw.out; omega))
      have hK3 : KeptB docT X w w3 := ⟨Nat.le_trans HX.out.core.kept.size hk3.size, fun j hj hx hn => (hb3.block j (by have := HQe.out; omega)).trans (HX.out.core.kept.block j hj hx hn)⟩
      have hlen : (str tx).size ≤ 9223372036854775807 := by
        have h1 := HX.out.core.txl
        have h2 := HX.out.core.ds.pu.scn.pos
        have h3 := HX.out.core.ds.pu.small HX.out.took.err
        rw [str_size]; omega
      have CT := ctrim (str tx) w3 hlen
      rw [trim_str] at CT
      have CT : Calls Tryz.prog 81 #[.string ⟨tx.toArray⟩] w3 fun e w' => e = .returned (.string (str (trimL tx))) ∧ Below w3.heap.size w3 w' := CT
      have CT := Lib.hid CT
      have HD3 := Lib.hid hd3
      have HR3 := Lib.hid hr3
      have HX3 := Lib.hid hx3
      have HO3 := Lib.hid ho3
      have HB3 := Lib.hid hB3
      have HK3 := Lib.hid hK3
      clear hb3 hk3 CO hd3 hr3 hx3 ho3 hB3 hK3 hlen
      go_wp2_with fail
      refine CT.out.mono ?_
      rintro e w4 ⟨rfl, hb4⟩
      have HD4 := Lib.hid (HD3.out.step hb4)
      have HR4 := Lib.hid (HR3.out.kept (Kept.of docT hb4) (by decide) (by decide))
      have HX4 := Lib.hid ((Kept.of docT hb4).heap HX3.out (by decide))
      have HO4 := Lib.hid ((Kept.of docT hb4).heap HO3.out (by decide))
      have HB4 := Lib.hid (HB3.out.trans (hb4.mono HD3.out.le))
      have HK4 := Lib.hid (HK3.out.trans (.of X (Kept.of docT hb4)))
      clear hb4 HD3 HR3 HX3 HO3 HB3 HK3 CT
      have hs := Only.set X 4 w4 (.string (str (trimL tx)))
      have HD5 := Lib.hid (HD4.out.only hs HX4.out (by decide) HBX.out)
      have HR5 := Lib.hid (HR4.out.only hs hXl)
      have HX5 : Hid ((w4.setCell ⟨X, 4, none⟩ (.string (str (trimL tx)))).heap[X]? = some (.cells #[.string F.sp, .string F.nm, va, vk, .string (str (trimL tx))] 25 (0, 0))) := Lib.hid (by rw [heap_put _ HX4.out]; rfl)
      have HO5 := Lib.hid (hs.heap HO4.out (by omega))
      have HB5 := Lib.hid (HB4.out.trans (hs.below HBX.out HD4.out.le))
      have HK5 := Lib.hid (HK4.out.only hs)
      have fx := Lib.frozen_of_heap HX4.out 4
      have x4 := Lib.cell_of_heap HX4.out 4
      simp only [List.getElem?_toArray, List.getElem?_cons_zero, List.getElem?_cons_succ] at x4
      clear hs HD4 HR4 HX4 HO4 HB4 HK4
      go_wp2_with fail
      clear fx x4
      generalize w4.setCell ⟨X, 4, none⟩ (.string (str (trimL tx))) = w5 at HD5 HR5 HX5 HO5 HB5 HK5 ⊢
      obtain ⟨ak, nk, ck, rfl, hnk⟩ : ∃ ak nk ck, vk = .slice ak nk ck ∧ nk = V.length := by
        obtain ⟨ak, ck, h⟩ := own_form HR5.out.2.1
        exact ⟨ak, V.length, ck, h, rfl⟩
      have x3 := Lib.cell_of_heap HX5.out 3
      have x4 := Lib.cell_of_heap HX5.out 4
      have o4 := Lib.cell_of_heap HO5.out 4
      simp only [List.getElem?_toArray, List.getElem?_cons_zero, List.getElem?_cons_succ] at x3 x4 o4
      have hVK := HR5.out.1
      have HPC := Lib.hid (show σ.pos ≤ σr.pos ∧ c ≤ cr from ⟨HX.out.core.pos, HX.out.core.cnt⟩)
      have hend : (trimL tx = [] ∨ K = []) → ∀ w6, Below w5.heap.size w5 w6 → FiGives B dd b q s S F L' X va R0 σ c w (.returned (.tuple #[])) w6 := fun hor w6 hb6 =>
        ⟨.inr ⟨K, V, _, _, σr, cr, rfl, (Kept.of docT hb6).heap HX5.out (by decide), by rw [HQe.out]; exact HR5.out.kept (Kept.of docT hb6) (by decide) (by decide), HD5.out.step hb6, by rw [HCL.out, if_pos hor], HPC.out.1, HPC.out.2⟩,
          HB5.out.trans (hb6.mono HD5.out.le), HK5.out.trans (.of X (Kept.of docT hb6))⟩
      have HEND := Lib.hid hend
      have HBAD := Lib.hid (show ¬ (trimL tx = [] ∨ K = []) → R0 = .bad 3 o.at_ from fun hor => by rw [HCL.out, if_neg hor, Hat.out])
      clear hend HX
      by_cases ht : trimL tx = []
      · have qe : (str (trimL tx)).toList.isEmpty = true := by rw [toList_str, ht]; rfl
        have HE := Lib.hid (HEND.out (.inl ht))
        clear ht hnk hVK
        go_quiet ((go_at_call 45; exact Calls.quiet_of_same (must_ok _ _ _)))
        go_wp2
        go_end0
        exact HE.out _ (below_drewN _ _)
      · have qe : (str (trimL tx)).toList.isEmpty = false := by rw [toList_str]; cases h : trimL tx with | nil => exact absurd h ht | cons _ _ => rfl
        by_cases hK : K = []
        · have hn0 : nk = 0 := by rw [hnk, hVK, hK]; rfl
          have HE := Lib.hid (HEND.out (.inr hK))
          subst hn0
          clear ht hnk hVK hK
          go_quiet ((go_at_call 45; exact Calls.quiet_of_same (must_ok _ _ _)))
          go_wp2
          go_end0
          exact HE.out _ (below_drewN _ _)
        · have hn0 : ((nk : Int) == 0) = false := by
            have : K.length ≠ 0 := fun h => hK (List.eq_nil_of_length_eq_zero h)
            simp; omega
          have HE := Lib.hid (HBAD.out (by rintro (h | h); exact ht h; exact hK h))
          clear ht hnk hVK hK
          go_region_with (go_at_call 45; refine (must_bad _ _ _).mono ?_; rintro e wz ⟨rfl, hw⟩; obtain rfl := hw.symm
                          refine ends_any ⟨rfl, .inl ⟨_, _, rfl, HE.out⟩, HB5.out.trans (Below.refl _ _).drew, HK5.out.trans (.of X (Kept.of docT (Below.refl _ _).drew))⟩ w5 ?_)
          all_goals trivial
    · have q2 : (p.kind != 2) = true := by simp [hk2]
      have d0 := Lib.cell_of_heap HX.out.core.ds.heap 0
      simp only [List.getElem?_toArray, List.getElem?_cons_zero] at d0
      go_upto_block 1 with fail
      go_cut [] from 10 to 41 (fun wx => FiMid B dd b q s S F L' R0 σ c X Q P va (.slice oa on ocap) o w p (.slice ap np cp) σr.pos wx ∧ p.kind ≠ 0)
      case first =>
        have CA := Lib.hid ((sat B b s σr wr.drew (HX.out.core.ds.sc.step (Below.refl _ _).drew)).mono (fun e w' (h : _ ∧ _) => (show e = .returned (.int .i64 (atS σr)) ∧ w' = wr.drew from ⟨h.1, h.2.symm⟩)))
        go_wp2_with fail
        refine wp_region_still_tail 8 (by kernel_rfl) (by kernel_rfl) ?_
        simp only [List.take_succ_cons, List.take_zero, List.drop_succ_cons, List.drop_zero]
        repeat still_step
        still_call CA.out
        repeat still_step
        refine wpStill_nil ?_
        change wpList _ _ _ _ _ wr.drew
        by_cases hk0 : p.kind = 0
        · have q0 : (p.kind != 0) = false := by simp [hk0]
          have HE := Lib.hid (show R0 = .bad 3 (atS σr) by rw [atS_ok' HX.out.took.err]; exact HX.out.same.trans (taken_end hk0))
          go_wp2_with fail
          refine (must_bad _ _ _).mono ?_
          rintro e wy ⟨rfl, hw⟩
          obtain rfl := hw.symm
          exact ⟨rfl, .inl ⟨_, _, rfl, HE.out⟩, HX.out.core.below.trans (Below.refl _ _).drew, HX.out.core.kept.trans (.of X (Kept.of docT (Below.refl _ _).drew))⟩
        have q0 : (p.kind != 0) = true := by simp [hk0]
        have CM := Lib.hid (must_ok 3 (atS σr) wr.drew)
        have HC2 := Lib.hid (HX.out.core.step (Below.refl _ _).drew)
        have HP2 : Hid (wr.drew.heap[P]? = _) := Lib.hid HX.out.hP
        have HW2 := Lib.hid (HX.out.rowp.keptOf (Kept.of docT (Below.refl _ _).drew) (by decide))
        have HT2 := Lib.hid HX.out.took
        have HS2 := Lib.hid HX.out.same
        have HRM := Lib.hid (HX.out.room hk0)
        clear HX p0 d0 CA
        go_wp2_with fail
        refine CM.out.mono ?_
        rintro e wy ⟨rfl, hw⟩
        obtain rfl := hw.symm
        clear CM q0 q2 hw
        generalize wr.drew = w3 at HC2 HP2 HW2 ⊢
        have p0 := Lib.cell_of_heap HP2.out 0
        have p1' := Lib.cell_of_heap HP2.out 1
        have p2 := Lib.cell_of_heap HP2.out 2
        have p3 := Lib.cell_of_heap HP2.out 3
        have p4 := Lib.cell_of_heap HP2.out 4
        simp only [List.getElem?_toArray, List.getElem?_cons_zero, List.getElem?_cons_succ] at p0 p1' p2 p3 p4
        have CT := topens p.kind p.at_ (str p.name) (str p.text) (.slice ap np cp) ⟨_, _, _, rfl⟩ w3
        by_cases hop : opens p
        · rw [decide_eq_true (show p.kind = 1 ∨ p.kind = 3 from hop)] at CT
          have CT := Lib.hid CT
          go_wp2_with fail
          refine CT.out.mono ?_
          rintro e w4 ⟨rfl, hb4⟩
          have HC4 := Lib.hid (HC2.out.step hb4)
          have HP4 := Lib.hid ((Kept.of docT hb4).heap HP2.out (by decide))
          have HW4 := Lib.hid (HW2.out.keptOf (Kept.of docT hb4) (by decide))
          have HKN := Lib.hid hk0
          have HS4 := Lib.hid (HS2.out.trans (taken_open hop))
          have HOP := Lib.hid hop
          obtain ⟨ak, ck, hvk⟩ := own_form HC4.out.row.2.1
          obtain ⟨nv, hnv⟩ : ∃ nv, V.length = nv := ⟨_, rfl⟩
          rw [hnv] at hvk
          subst hvk
          have HNV := Lib.hid hnv
          have hnv2 : nv ≤ 2000 := by
            have h1 := HC4.out.few
            have h2 := HC4.out.ds.pu.cnt
            have h3 := HC4.out.row.1
            omega
          clear hb4 HC2 HW2 CT p0 p1' p2 p3 p4 hop hk0 hk2 hnv HP2
          have p0 := Lib.cell_of_heap HP4.out 0
          have p1' := Lib.cell_of_heap HP4.out 1
          have p2 := Lib.cell_of_heap HP4.out 2
          have p3 := Lib.cell_of_heap HP4.out 3
          have p4 := Lib.cell_of_heap HP4.out 4
          have x3 := Lib.cell_of_heap HC4.out.hX 3
          simp only [List.getElem?_toArray, List.getElem?_cons_zero, List.getElem?_cons_succ] at p0 p1' p2 p3 p4 x3
          obtain ⟨i0, hi, hz0, hz1, hz2⟩ := info_parts node_info
          have HI := Lib.hid hi
          have HI0 := Lib.hid hz0
          have HI1 := Lib.hid hz1
          have HI2 := Lib.hid hz2
          clear hi hz0 hz1 hz2
          have CE := Lib.hid (fun (wx : World) (hb : Below w4.heap.size w4 wx) =>
            (HIH.out ({ F with K := K, tx := tx } :: S) L' cr σr p (.slice ap np cp) wx R0 rfl (HC4.out.step hb).ds (HW4.out.keptOf (Kept.of docT hb) (by decide)) HT2.out HOP.out HS4.out).mono (fun e w6 h => kid_gives HC4.out HP4.out wx hb e w6 h))
          have CE : Hid (∀ wx : World, Below w4.heap.size w4 wx → Calls Tryz.prog 47 #[.pointer (some ⟨dd, 0, none⟩), .agg #[.int .i64 p.kind, .string (str p.name), .slice ap np cp, .string (str p.text), .int .i64 p.at_]] wx
            (KidGives B dd b q s S F L' R0 σ c X Q va (.slice oa on ocap) o w K V ak nv ck tx P (.cells #[.int .i64 p.kind, .string (str p.name), .slice ap np cp, .string (str p.text), .int .i64 p.at_] 117 (0, 0)) σr.pos cr w4.heap.size wx)) := CE
          have hXs : X < w4.heap.size := (Array.getElem?_eq_some_iff.1 HC4.out.hX).1
          have HQ4 := Lib.hid (show Q ≤ w4.heap.size by have := (Array.getElem?_eq_some_iff.1 HC4.out.hO).1; omega)
          have hne := Lib.hid (show Value.ownBlock (.slice ak nv ck) ≠ some X from fun e => by have := (HC4.out.row.2.1.lt X e).1; omega)
          have HW4s := Lib.hid (show K.length ≤ cr ∧ Q ≤ w4.heap.size ∧ ∀ r, Value.ownBlock (.slice ak nv ck) = some r → r < w4.heap.size from ⟨HC4.out.few, HQ4.out, fun r hr => (HC4.out.row.2.1.lt r hr).2⟩)
          go_wp2_with fail
          have hi1 : (nv : Int) < (nv : Int) + 1 := by omega
          have hZ := (Below.refl w4.heap.size w4).alloc (Nat.le_refl _) (.cells #[.string ⟨#[]⟩, .string ⟨#[]⟩, .slice none 0 0, .slice none 0 0, .string ⟨#[]⟩] 25)
          have HPZ := (Kept.of docT hZ).heap HP4.out (by decide)
          have HXZ := (Kept.of docT hZ).heap HC4.out.hX (by decide)
          have z0 := Lib.cell_of_heap HPZ 0
          have z1 := Lib.cell_of_heap HPZ 1
          have z2 := Lib.cell_of_heap HPZ 2
          have z3 := Lib.cell_of_heap HPZ 3
          have z4 := Lib.cell_of_heap HPZ 4
          have zx := Lib.cell_of_heap HXZ 3
          simp only [List.getElem?_toArray, List.getElem?_cons_zero, List.getElem?_cons_succ] at z0 z1 z2 z3 z4 zx
          clear hZ HPZ HXZ
          go_region_law (first
            | (go_simp; go_at_call 47; refine (CE.out _ (by first | exact (Below.refl _ _).drew | exact ((Below.refl _ _).drew).alloc (Nat.le_refl _) _ | exact ((Below.refl _ _).alloc (Nat.le_refl _) _).drew)).mono ?_
               rintro e w6 (⟨e', a', rfl, hbad⟩ | ⟨sp, nm, tt, a1, n1, c1, a2, n2, c2, rfl, k6, g6, H6, HP6, HL6, HO6⟩)
               · exact ⟨rfl, .inl ⟨_, _, rfl, hbad.out.1⟩, hbad.out.2⟩
               have k6a : (w6.alloc (.cells #[.string ⟨#[]⟩, .string ⟨#[]⟩, .slice none 0 0, .slice none 0 0, .string ⟨#[]⟩] 25)).cell? ⟨X, 3, none⟩ = some (.slice ak nv ck) := by
                 rw [World.cell?_of_block (w := w6) (Below.heap_alloc _ _ X (by have := HL6.out; omega))]; exact k6)
            | (refine step_append_lies _ (by rfl) _ _ _ (by rfl) Q 25 i0 _ 5 96 Tryz.underlying23 HI.out HI0.out HI1.out HI2.out rfl (by omega) (.slice ak nv ck) nv (cellsN V) (by rfl) ((kid_own H6 HNV.out).alloc _)
                      ⟨w6.heap.size, 0, none⟩ 1 1 zeroC (by rfl) (by rfl) (World.news_of_block (cs := #[.string ⟨#[]⟩, .string ⟨#[]⟩, .slice none 0 0, .slice none 0 0, .string ⟨#[]⟩]) (t := 25) (fr := (0, 0)) (heap_alloc_new w6 _)) (by simp [Value.oneCell'])
                      (by omega) (by unfold maxLen; omega) (by omega) (by simp; have := HL6.out; have := HQ4.out; omega) (w6.heap.size + 1) (by simp) ?_
               intro gg cap' w7 hown7 hgrow hat7 hlt7
               obtain ⟨s0, s1, s2, s3, s4, u0, u1, u2, u3, u4⟩ := kid_cells HNV.out hown7
               have hgx : ¬ gg = X := by obtain ⟨_, _, hQg⟩ := own_cell hown7; omega
               have hxg : ¬ X = gg := fun e => hgx e.symm
               obtain ⟨k7, g7⟩ := kid_far hgrow (by simp; have := HL6.out; omega) (hne.out) k6a (fz_alloc g6 (by have := HL6.out; omega))
               have H7 := Lib.hid (kid_done hXl HBX.out HQe.out HNV.out H6 ((Below.refl _ _).alloc (Nat.le_refl _) _) hown7 hgrow (by rcases hat7 with h | h; exact .inl h; exact .inr (by rw [h]; simp)) HP6 HW4s.out))
            | (refine step_append_lies _ (by rfl) _ _ _ (by rfl) Q 25 i0 _ 5 96 Tryz.underlying23 HI.out HI0.out HI1.out HI2.out rfl (by omega) (.slice ak nv ck) nv (cellsN V) (by rfl) (kid_own H6 HNV.out)
                      ⟨w4.heap.size, 0, none⟩ 1 1 zeroC (by rfl) (by rfl) (World.news_of_block (cs := #[.string ⟨#[]⟩, .string ⟨#[]⟩, .slice none 0 0, .slice none 0 0, .string ⟨#[]⟩]) (t := 25) (fr := (0, 0)) (HO6.out _ _ _ (heap_alloc_new w4 _))) (by simp [Value.oneCell'])
                      (by omega) (by unfold maxLen; omega) (by omega) (by have := HL6.out; have := HQ4.out; omega) w6.heap.size (by rfl) ?_
               intro gg cap' w7 hown7 hgrow hat7 hlt7
               obtain ⟨s0, s1, s2, s3, s4, u0, u1, u2, u3, u4⟩ := kid_cells HNV.out hown7
               have hgx : ¬ gg = X := by obtain ⟨_, _, hQg⟩ := own_cell hown7; omega
               have hxg : ¬ X = gg := fun e => hgx e.symm
               obtain ⟨k7, g7⟩ := kid_far hgrow (by have := HL6.out; omega) (hne.out) k6 g6
               have H7 := Lib.hid (kid_done hXl HBX.out HQe.out HNV.out H6 (Below.refl _ _) hown7 hgrow hat7 HP6 HW4s.out)))
          all_goals
            obtain ⟨K5, V5, σ5, c5, hC5, hS5, hP5s, hP5⟩ := H7.out
            have HM := Lib.hid (show FiMid B dd b q s S F L' R0 σ c X Q P va (.slice oa on ocap) o w p (.slice ap np cp) σr.pos _ from ⟨K5, V5, _, tx, σ5, c5, hC5, hS5, hP5s, hP5⟩)
            have HM2 := Lib.hid (show FiMid B dd b q s S F L' R0 σ c X Q P va (.slice oa on ocap) o w p (.slice ap np cp) σr.pos (st5at (w7.setCell ⟨X, 3, none⟩ (.slice (some ⟨gg, 0, none⟩) (nv + 1) cap')) gg (nv * 5) ⟨.string sp, .string nm, .slice a1 n1 c1, .slice a2 n2 c2, .string tt⟩) from by
              rw [← st5at_comm _ hgx]; exact HM.out)
            clear hC5 hS5 hP5s hP5 H7 hown7 hgrow hat7 hlt7 s0 s1 s2 s3 s4 u0 u1 u2 u3 u4 k7 g7 k6 g6 H6 HP6 HL6 HO6 p0 p1' p2 p3 p4 x3 HI HI0 HI1 HI2 CE HC4 HP4 HW4 HS4 HNV hnv2 hi1 hgx hxg z0 z1 z2 z3 z4 zx
            go_wp2_with fail
            go_meet
            first
              | with_reducible exact ⟨HM.out, HKN.out⟩
              | with_reducible exact ⟨HM2.out, HKN.out⟩
        · rw [decide_eq_false (show ¬ (p.kind = 1 ∨ p.kind = 3) from hop)] at CT
          have CT := Lib.hid CT
          go_wp2_with fail
          refine CT.out.mono ?_
          rintro e w4 ⟨rfl, hb4⟩
          have HC4 := Lib.hid (HC2.out.step hb4)
          have HP4 := Lib.hid ((Kept.of docT hb4).heap HP2.out (by decide))
          have HKN := Lib.hid hk0
          have hS4 := HS2.out.trans (taken_text hk0 hk2 hop)
          have HS4 := Lib.hid hS4
          clear hb4 HC2 HW2 CT p0 p1' p2 p3 p4 hS4 hop hk0 hk2
          have p3 := Lib.cell_of_heap HP4.out 3
          simp only [List.getElem?_toArray, List.getElem?_cons_zero, List.getElem?_cons_succ] at p3
          have hlen : tx.length + (str p.text).size ≤ 140737488355328 := by
            have h1 := HC4.out.txl
            have h2 := HC4.out.ds.pu.scn.pos
            have h3 := HC4.out.ds.pu.small HT2.out.err
            have h4 := HT2.out.ok.text
            rw [str_size]; omega
          have CW := Lib.hid (kstring (Q + 1) (Q + 1) tx (str p.text) w4 HC4.out.bl hlen)
          clear hlen
          go_wp2_with fail
          refine CW.out.mono ?_
          rintro e w5 ⟨rfl, hbl5, hb5, hk5⟩
          have htx : tx ++ (str p.text).data.toList = tx ++ p.text := congrArg _ (str_bl p.text)
          rw [htx] at hbl5
          have HC5 := Lib.hid (HC4.out.text hbl5 hb5 hk5 HQe.out (by have := HBw.out; have := HQe.out; omega) σr HC4.out.ds (Nat.le_refl _) (by
            have h1 := HRM.out
            have h3 := HC4.out.ds.pu.small HT2.out.err
            have h4 := HT2.out.ok.text
            rw [List.length_append]; omega))
          have HP5 := Lib.hid (hk5.heap HP4.out (by decide))
          have HS5 := HS4
          have HP5s := Lib.hid (Nat.le_refl σr.pos)
          clear hbl5 hb5 hk5 htx p3 HC4 HP4 CW HS4 HRM
          go_wp2_with fail
          go_meet
          exact ⟨⟨K, V, vk, _, σr, cr, HC5.out, HS5.out, Nat.le_refl _, HP5.out⟩, HKN.out⟩
      case rest =>
        obtain ⟨⟨K5, V5, vk5, tx5, σ5, c5, hC5, hS5, hP5s, hP5⟩, hkn⟩ := hcut
        have HC5 := Lib.hid hC5
        have HS5 := Lib.hid hS5
        have HP5s := Lib.hid hP5s
        have HP5 := Lib.hid hP5
        have HKN := Lib.hid hkn
        clear hC5 hS5 hP5s hP5 hkn p0 d0 q2 HX hk2
        have C := Lib.hid (dnext B dd b q s σ5 (S.length + 1) L' c5 wc HC5.out.ds)
        go_wp2_with fail
        refine C.out.mono ?_
        rintro r w6 ⟨hok, hbad, hD6, hB6, hK6⟩
        by_cases he : (nextS (bl s) σ5).err = 0
        · obtain ⟨x, rfl, v2, rfl, hrows, _⟩ := hok he
          obtain ⟨ao2, n2, cap2, rfl⟩ := rows_form hrows
          have HREL := Lib.hid (fi_again HC5.out HQe.out HBw.out hQP HP5.out rfl HS5.out he hD6 hB6 hK6 hrows)
          have HMg := Lib.hid (show mea (bl s) (nextS (bl s) σ5) (nextP (bl s) σ5) < gk by
            have h1 := next_mea HC5.out.ds.pu.scn he
            rw [← HG.out]
            unfold mea at h1 ⊢
            rw [if_neg HKN.out]
            have := HP5s.out
            omega)
          have HP6 := Lib.hid (hK6.heap HP5.out (by decide))
          generalize nextS (bl s) σ5 = σ6 at *
          generalize nextP (bl s) σ5 = p6 at *
          have r0 := Lib.cell_of_heap HP6.out 0
          have r1 := Lib.cell_of_heap HP6.out 1
          have r2 := Lib.cell_of_heap HP6.out 2
          have r3 := Lib.cell_of_heap HP6.out 3
          have r4 := Lib.cell_of_heap HP6.out 4
          have f0 := Lib.frozen_of_heap HP6.out 0
          have f1 := Lib.frozen_of_heap HP6.out 1
          have f2 := Lib.frozen_of_heap HP6.out 2
          have f3 := Lib.frozen_of_heap HP6.out 3
          have f4 := Lib.frozen_of_heap HP6.out 4
          simp only [List.getElem?_toArray, List.getElem?_cons_zero, List.getElem?_cons_succ] at r0 r1 r2 r3 r4
          clear hok hbad hD6 hB6 hK6 hrows he C
          go_wp2
          go_roundg (mea (bl s) σ6 p6)
          case measure => exact HMg.out
          case rel => exact HREL.out
        · have hr := hbad he
          subst hr
          have HE := Lib.hid (show R0 = .bad (nextS (bl s) σ5).err (nextS (bl s) σ5).wrg from HS5.out.trans (runAt_bad he _))
          exact ⟨rfl, .inl ⟨_, _, rfl, HE.out⟩, HC5.out.below.trans hB6, HC5.out.kept.trans (.of X hK6)⟩

end Go.Proofs.YtnlkpdodacphkaaGreatDoor
