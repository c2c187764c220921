/-
  What a method that hands back a piece leaves; the walk of (*Scanner).opening.
  The walks of (*Scanner).raw, text, closing, piece.
-/
import Derived.Test.YtnlkpdodacphkaaGreatDoorA10
import Derived.Deep.RegionLaw
import Derived.Deep.AppendLies
import Derived.Deep.LoopGhost
import Derived.KernelRfl
namespace Go.Proofs.YtnlkpdodacphkaaGreatDoor
open Go.RowKit
set_option maxRecDepth 100000

/-- A piece, as a value. -/
def PieceAt (b lo : Nat) (w : World) (x : Value) (p : Pc) : Prop := ∃ v, x = .agg #[.int .i64 p.kind, .string (str p.name), v, .string (str p.text), .int .i64 p.at_] ∧ RowsB b w v p.attrs ∧ ∀ g o n c, v = .slice (some ⟨g, o, none⟩) n c → lo ≤ g
theorem fresh_nil (lo : Nat) : ∀ g o n c, Value.slice none 0 0 = .slice (some ⟨g, o, none⟩) n c → lo ≤ g := fun _ _ _ _ h => by simp at h
/-- A method hands back a piece, and leaves the scanner at a place. -/
def Gives (B b : Nat) (s : ByteArray) (w : World) (p : Pc) (σ' : St) (r : Ending) (w' : World) : Prop := ∃ x, r = .returned x ∧ PieceAt b w.heap.size w' x p ∧ Sc B b s σ' w' ∧ Only b w w'
theorem rowsB_nil (b : Nat) (w : World) : RowsB b w (.slice none 0 0) [] := ⟨.inl ⟨rfl, rfl⟩, fun _ _ _ _ h => by simp at h⟩
theorem res_piece (fn : Func) (hr : fn.results = #[.cell 2 117]) (tmps : Array Value) (R : Nat) (ht : tmps.getD 2 undef = .pointer (some ⟨R, 0, none⟩)) (x0 x1 x2 x3 x4 : Value) (W : World) (t : TypeId) (z : Nat × Nat) (h : W.heap[R]? = some (.cells #[x0, x1, x2, x3, x4] t z)) :
    (results fn tmps).run Tryz.prog W = .ok (.agg #[x0, x1, x2, x3, x4]) W := by
  have e0 : W.cell? ⟨R, 0, none⟩ = some x0 := by rw [Lib.cell_of_heap h]; rfl
  have e1 : W.cell? ⟨R, 1, none⟩ = some x1 := by rw [Lib.cell_of_heap h]; rfl
  have e2 : W.cell? ⟨R, 2, none⟩ = some x2 := by rw [Lib.cell_of_heap h]; rfl
  have e3 : W.cell? ⟨R, 3, none⟩ = some x3 := by rw [Lib.cell_of_heap h]; rfl
  have e4 : W.cell? ⟨R, 4, none⟩ = some x4 := by rw [Lib.cell_of_heap h]; rfl
  rw [Array.getD_eq_getD_getElem?] at ht
  simp [results, hr, ht, go_sem, e0, e1, e2, e3, e4]
/-- The cells of attributes, one behind the other. -/
def atC (A : List (List UInt8 × List UInt8)) : List Value := A.flatMap fun a => [.string (str a.1), .string (str a.2)]
theorem atC_get : ∀ (A : List (List UInt8 × List UInt8)) (j : Nat) (h : j < A.length), (atC A)[j * 2]? = some (.string (str (A[j]'h).1)) ∧ (atC A)[j * 2 + 1]? = some (.string (str (A[j]'h).2))
  | [], j, h => absurd h (Nat.not_lt_zero j)
  | a :: A, 0, h => ⟨rfl, rfl⟩
  | a :: A, j + 1, h => by
    have ih := atC_get A j (by simpa using h)
    have e : atC (a :: A) = .string (str a.1) :: .string (str a.2) :: atC A := rfl
    rw [e, show (j + 1) * 2 = j * 2 + 1 + 1 by omega]
    exact ⟨ih.1, ih.2⟩
theorem atC_snoc (A : List (List UInt8 × List UInt8)) (a : List UInt8 × List UInt8) : atC (A ++ [a]) = atC A ++ [.string (str a.1), .string (str a.2)] := by unfold atC; simp
theorem owns_rows {w : World} {base b : Nat} {v : Value} {A : List (List UInt8 × List UInt8)} (h : w.ownsRow base 56 2 v A.length (atC A)) (hb : b < base) : RowsB b w v A := by
  rcases h.2 with ⟨rfl, h0⟩ | ⟨g, cap, cur, rfl, hg, hh, _⟩
  · rw [List.eq_nil_of_length_eq_zero h0]
    exact rowsB_nil b w
  · refine ⟨.inr ⟨g, cap, rfl, (Array.getElem?_eq_some_iff.1 hh).1, fun j hj => ?_⟩, fun g' o n c e => by injection e with e1; injection e1 with e2; injection e2 with e3; subst e3; exact ⟨by omega, _, _, hh⟩⟩
    have hc := h.cells (g := g) rfl
    have hadd : ∀ k, (⟨g, 0, none⟩ : Addr).add k = ⟨g, k, none⟩ := fun k => by unfold Addr.add; split <;> simp_all
    have h1 := hc (j * 2) _ (atC_get A j hj).1
    have h2 := hc (j * 2 + 1) _ (atC_get A j hj).2
    rw [hadd] at h1 h2
    exact ⟨h1, h2⟩
theorem Only.grown {b : Nat} {w w' : World} (h : Only b w w') : w.grownBy w' (some b) := ⟨h.os, h.tape, h.output, h.size, fun k hk hne => h.block k hk (fun e => hne (by rw [e]))⟩
theorem owns_only {w w' : World} {base b : Nat} {e : TypeId} {z n : Nat} {v : Value} {xs : List Value} (h : w.ownsRow base e z v n xs) (ho : Only b w w') (hb : b < base) : w'.ownsRow base e z v n xs := by
  refine h.kept ho.grown (.inr fun e => ?_)
  have := h.lt b e
  omega
theorem Only.grownBy {b base : Nat} {w x y : World} {row : Option Nat} (h : Only b w x) (hg : x.grownBy y row) (hr : ∀ k, row = some k → base ≤ k) (hb : w.heap.size ≤ base) : Only b w y :=
  ⟨hg.os.trans h.os, hg.tape.trans h.tape, hg.output.trans h.output, Nat.le_trans h.size hg.size, fun k hk hkb => (hg.block k (Nat.lt_of_lt_of_le hk h.size) (fun e => by have := hr k e.symm; omega)).trans (h.block k hk hkb)⟩
theorem Sc.grownBy {B b base : Nat} {s : ByteArray} {σ : St} {x y : World} {row : Option Nat} (h : Sc B b s σ x) (hg : x.grownBy y row) (hr : ∀ k, row = some k → base ≤ k) (hb : b < base) : Sc B b s σ y := by
  refine ⟨h.base, h.len, h.pos, h.glob.step ⟨hg.os, hg.tape, hg.output, hg.size, fun k hk => hg.block k (Nat.lt_of_lt_of_le hk h.glob.le) (fun e => ?_)⟩, ?_⟩
  · have := hr k e.symm; have := h.base; omega
  · rw [hg.block b h.lt (fun e => by have := hr b e.symm; omega)]; exact h.heap
theorem attr_info : (Tryz.prog.info? 56).map (fun i => (i.zero, i.size, i.bytes)) = some (some (.agg #[.string ⟨#[]⟩, .string ⟨#[]⟩]), 2, 32) := by kernel_rfl
/-! ### a piece that is stored, cell by cell -/
def st5 (w : World) (R : Nat) (x0 x1 x2 x3 x4 : Value) : World := ((((w.setCell ⟨R, 0, none⟩ x0).setCell ⟨R, 1, none⟩ x1).setCell ⟨R, 2, none⟩ x2).setCell ⟨R, 3, none⟩ x3).setCell ⟨R, 4, none⟩ x4
theorem st5_heap {w : World} {R : Nat} {a0 a1 a2 a3 a4 : Value} {t : TypeId} {z : Nat × Nat} (h : w.heap[R]? = some (.cells #[a0, a1, a2, a3, a4] t z)) (x0 x1 x2 x3 x4 : Value) : (st5 w R x0 x1 x2 x3 x4).heap[R]? = some (.cells #[x0, x1, x2, x3, x4] t z) := by
  unfold st5
  rw [heap_set _ (heap_set _ (heap_set _ (heap_set _ (heap_set _ h))))]; rfl
theorem st5_sc {B b : Nat} {s : ByteArray} {σ : St} {w : World} (h : Sc B b s σ w) {R : Nat} (hp : R ≠ b) (hB : B ≤ R) (x0 x1 x2 x3 x4 : Value) : Sc B b s σ (st5 w R x0 x1 x2 x3 x4) :=
  ((((h.setOther (p := ⟨R, 0, none⟩) hp hB x0).setOther (p := ⟨R, 1, none⟩) hp hB x1).setOther (p := ⟨R, 2, none⟩) hp hB x2).setOther (p := ⟨R, 3, none⟩) hp hB x3).setOther (p := ⟨R, 4, none⟩) hp hB x4
theorem st5_only {b : Nat} {w w' : World} (h : Only b w w') {R : Nat} (hp : w.heap.size ≤ R) (x0 x1 x2 x3 x4 : Value) : Only b w (st5 w' R x0 x1 x2 x3 x4) :=
  ((((h.setNew (p := ⟨R, 0, none⟩) hp x0).setNew (p := ⟨R, 1, none⟩) hp x1).setNew (p := ⟨R, 2, none⟩) hp x2).setNew (p := ⟨R, 3, none⟩) hp x3).setNew (p := ⟨R, 4, none⟩) hp x4
theorem st5_other {w : World} {R k : Nat} (hk : k ≠ R) (x0 x1 x2 x3 x4 : Value) : (st5 w R x0 x1 x2 x3 x4).heap[k]? = w.heap[k]? := by
  unfold st5
  rw [Below.heap_setCell _ _ _ _ hk, Below.heap_setCell _ _ _ _ hk, Below.heap_setCell _ _ _ _ hk, Below.heap_setCell _ _ _ _ hk, Below.heap_setCell _ _ _ _ hk]
theorem RowsB.heap {b : Nat} {w w' : World} {v : Value} {A : List (List UInt8 × List UInt8)} (h : RowsB b w v A) (hs : w.heap.size ≤ w'.heap.size) (hk : ∀ g o n c, v = .slice (some ⟨g, o, none⟩) n c → w'.heap[g]? = w.heap[g]?) : RowsB b w' v A := by
  obtain ⟨h, hne⟩ := h
  refine ⟨?_, fun g o n c hv => ?_⟩
  · rcases h with h | ⟨g, cap, hv, hg, h⟩
    · exact .inl h
    · have hb := hk _ _ _ _ hv
      exact .inr ⟨g, cap, hv, Nat.lt_of_lt_of_le hg hs, fun j hj => ⟨(World.cell?_of_block (w := w) hb).trans (h j hj).1, (World.cell?_of_block (w := w) hb).trans (h j hj).2⟩⟩
  · obtain ⟨h1, cs, z, h2⟩ := hne g o n c hv
    exact ⟨h1, cs, z, (hk g o n c hv).trans h2⟩
theorem st5_size (w : World) (R : Nat) (x0 x1 x2 x3 x4 : Value) : (st5 w R x0 x1 x2 x3 x4).heap.size = w.heap.size := by unfold st5; simp [World.setCell]
theorem owns_ne {w : World} {base : Nat} {e : TypeId} {z n : Nat} {v : Value} {xs : List Value} (h : w.ownsRow base e z v n xs) : ∀ g o n c, v = .slice (some ⟨g, o, none⟩) n c → base ≤ g := fun g o n c hv => (h.lt g (by rw [hv]; rfl)).1

/-- What the loop of opening keeps. -/
structure OpR (B b : Nat) (s : ByteArray) (n : List UInt8) (Z : Pc × St) (w : World) (P R base g : Nat) (wr : World) (al : List (List UInt8 × List UInt8)) (σr : St) (v : Value) : Prop where
  len : al.length ≤ 16
  fuel : 1 ≤ g
  more : σr.err = 0 → 18 ≤ g + al.length
  same : openF_ g (bl s) n al σr = Z
  sc : Sc B b s σr wr
  only : Only b w wr
  hP : wr.heap[P]? = some (.cells #[.int .i64 0, .string (str n), v, .string ⟨#[]⟩, .int .i64 0] 117 (0, 0))
  hR : wr.heap[R]? = some (.cells #[.int .i64 0, .string ⟨#[]⟩, .slice none 0 0, .string ⟨#[]⟩, .int .i64 0] 117 (0, 0))
  own : wr.ownsRow base 56 2 v al.length (atC al)
  base : base ≤ wr.heap.size
structure OpM (b : Nat) (n : List UInt8) (w : World) (P R base : Nat) (wr : World) (al : List (List UInt8 × List UInt8)) (v : Value) : Prop where
  only : Only b w wr
  hP : wr.heap[P]? = some (.cells #[.int .i64 0, .string (str n), v, .string ⟨#[]⟩, .int .i64 0] 117 (0, 0))
  hR : wr.heap[R]? = some (.cells #[.int .i64 0, .string ⟨#[]⟩, .slice none 0 0, .string ⟨#[]⟩, .int .i64 0] 117 (0, 0))
  own : wr.ownsRow base 56 2 v al.length (atC al)
  base : base ≤ wr.heap.size
theorem OpM.step {b : Nat} {n : List UInt8} {w : World} {P R base : Nat} {wr w' : World} {al : List (List UInt8 × List UInt8)} {v : Value} (h : OpM b n w P R base wr al v) (ho : Only b wr w') (hP : b < P) (hR : b < R) (hb : b < base) : OpM b n w P R base w' al v :=
  ⟨h.only.trans ho, ho.heap h.hP (by omega), ho.heap h.hR (by omega), owns_only h.own ho hb, Nat.le_trans h.base ho.size⟩
theorem OpM.append {b : Nat} {n : List UInt8} {w : World} {P R : Nat} {w6 w7 : World} {al : List (List UInt8 × List UInt8)} {v x : Value} {o : Obj} (h : OpM b n w P R (P + 1) w6 al v) (hR : R < P) (hw : w.heap.size = R) (a : List UInt8 × List UInt8)
    (hg : (w6.alloc o).grownBy w7 v.ownBlock) (hown : w7.ownsRow (P + 1) 56 2 x (al.length + 1) (atC al ++ [.string (str a.1), .string (str a.2)])) : OpM b n w P R (P + 1) (w7.setCell ⟨P, 2, none⟩ x) (al ++ [a]) x := by
  have hr : ∀ k, v.ownBlock = some k → P + 1 ≤ k := fun k hk => (h.own.lt k hk).1
  have hbs : P + 1 ≤ w6.heap.size := h.base
  have hsz : (w6.alloc o).heap.size = w6.heap.size + 1 := by simp
  have g : ∀ k, k ≤ P → w7.heap[k]? = w6.heap[k]? := fun k hk => (hg.block k (by omega) (fun e => by have := hr k e.symm; omega)).trans (Below.heap_alloc w6 o k (by omega))
  refine ⟨?_, ?_, ?_, ?_, ?_⟩
  · exact ((h.only.trans (Only.alloc b w6 o)).grownBy hg hr (by omega)).setNew (p := ⟨P, 2, none⟩) (by show _ ≤ P; omega) x
  · rw [heap_set x ((g P (Nat.le_refl _)).trans h.hP)]; rfl
  · rw [Below.heap_setCell _ _ _ _ (by show R ≠ P; omega), g R (by omega)]; exact h.hR
  · have h1 := owns_only hown (Only.set P 2 w7 x) (Nat.lt_succ_self P)
    rw [atC_snoc, List.length_append]
    exact h1
  · have h1 := hg.size
    rw [hsz] at h1
    simp [World.setCell]; omega
theorem Sc.append {B b : Nat} {n : List UInt8} {s : ByteArray} {σ : St} {w : World} {P R : Nat} {w6 w7 : World} {al : List (List UInt8 × List UInt8)} {v : Value} {o : Obj} (hS : Sc B b s σ w6) (h : OpM b n w P R (P + 1) w6 al v) (hb : b < P)
    (hg : (w6.alloc o).grownBy w7 v.ownBlock) (x : Value) : Sc B b s σ (w7.setCell ⟨P, 2, none⟩ x) :=
  ((hS.step ((Below.refl _ _).alloc (Nat.le_refl _) o)).grownBy hg (fun k hk => (h.own.lt k hk).1) (by omega)).setOther (p := ⟨P, 2, none⟩) (by show P ≠ b; omega) (by show B ≤ P; have := hS.base; omega) x
def OpRel (B b : Nat) (s : ByteArray) (n : List UInt8) (Z : Pc × St) (w : World) (P R base g : Nat) (wr : World) : Prop := ∃ al σr v, OpR B b s n Z w P R base g wr al σr v
set_option maxHeartbeats 8000000 in
theorem sopening0 (B b : Nat) (s : ByteArray) (σ : St) (w : World) (hS : Sc B b s σ w) (n : List UInt8) (Z : Pc × St) (hn : Hid (runW nb (bl s) σ = n)) (HZ : Hid (openF_ 19 (bl s) n [] (nameS (bl s) σ) = Z)) :
    Calls Tryz.prog 159 #[.pointer (some ⟨b, 0, none⟩)] w (Gives B b s w Z.1 Z.2) := by
  obtain ⟨i0, hi, hz0, hz1, hz2⟩ := info_parts attr_info
  have HI := Lib.hid hi
  have HI0 := Lib.hid hz0
  have HI1 := Lib.hid hz1
  have HI2 := Lib.hid hz2
  clear hi hz0 hz1 hz2
  have HS := Lib.hid (hS.step ((Below.refl _ _).alloc (Nat.le_refl _) (.cells #[.int .i64 0, .string ⟨#[]⟩, .slice none 0 0, .string ⟨#[]⟩, .int .i64 0] 117)))
  have HO := Lib.hid (Only.alloc b w (.cells #[.int .i64 0, .string ⟨#[]⟩, .slice none 0 0, .string ⟨#[]⟩, .int .i64 0] 117))
  have HR := Lib.hid (heap_alloc_new w (.cells #[.int .i64 0, .string ⟨#[]⟩, .slice none 0 0, .string ⟨#[]⟩, .int .i64 0] 117))
  have hbR : b < w.heap.size := hS.lt
  have hBb := hS.base
  clear hS
  go_enter Tryz.func159, Tryz.ntmps159
  go_wp2_with fail
  obtain ⟨R, hRe⟩ : ∃ R, w.heap.size = R := ⟨_, rfl⟩
  rw [hRe] at HR hbR ⊢
  have HRe := Lib.hid hRe
  clear hRe
  generalize w.alloc (.cells #[.int .i64 0, .string ⟨#[]⟩, .slice none 0 0, .string ⟨#[]⟩, .int .i64 0] 117) = w0 at HS HO HR ⊢
  have C := sname B b s σ w0 HS.out
  rw [hn.out] at C
  have C := Lib.hid C
  refine C.out.mono ?_
  rintro r w1 ⟨rfl, h1, o1⟩
  have HS1 := Lib.hid (h1.step ((Below.refl _ _).alloc (Nat.le_refl _) (.cells #[.int .i64 0, .string (str n), .slice none 0 0, .string ⟨#[]⟩, .int .i64 0] 117)))
  have HO1 := Lib.hid ((HO.out.trans o1).trans (Only.alloc b w1 (.cells #[.int .i64 0, .string (str n), .slice none 0 0, .string ⟨#[]⟩, .int .i64 0] 117)))
  have HP := Lib.hid (heap_alloc_new w1 (.cells #[.int .i64 0, .string (str n), .slice none 0 0, .string ⟨#[]⟩, .int .i64 0] 117))
  have hRP : R < w1.heap.size := (Array.getElem?_eq_some_iff.1 (o1.heap HR.out (by omega))).1
  have HR1 := Lib.hid ((Only.alloc b w1 (.cells #[.int .i64 0, .string (str n), .slice none 0 0, .string ⟨#[]⟩, .int .i64 0] 117)).heap (o1.heap HR.out (by omega)) (by omega))
  have HB1 := Lib.hid (show w1.heap.size + 1 ≤ (w1.alloc (.cells #[.int .i64 0, .string (str n), .slice none 0 0, .string ⟨#[]⟩, .int .i64 0] 117)).heap.size by simp)
  clear h1 o1 HS HO HR C
  go_wp2_with fail
  obtain ⟨P, hPe⟩ : ∃ P, w1.heap.size = P := ⟨_, rfl⟩
  rw [hPe] at HP hRP HB1 ⊢
  clear hPe
  generalize w1.alloc (.cells #[.int .i64 0, .string (str n), .slice none 0 0, .string ⟨#[]⟩, .int .i64 0] 117) = w2 at HS1 HO1 HP HR1 HB1 ⊢
  go_loopg [] 19 (fun g wr => OpRel B b s n Z w P R (P + 1) g wr)
  case atStart => exact ⟨[], nameS (bl s) σ, .slice none 0 0, by simp, by decide, fun _ => by simp, HZ.out, HS1.out, HO1.out, HP.out, HR1.out, World.ownsRow_nil _ _ _ _, HB1.out⟩
  case round =>
    obtain ⟨al, σr, v, hrel⟩ := hrel
    have hlen := hrel.len
    obtain ⟨ao, cap, rfl⟩ : ∃ ao cap, v = .slice ao al.length cap := by
      rcases hrel.own.2 with ⟨hv, h0⟩ | ⟨g, cap, cur, hv, _⟩
      · exact ⟨none, 0, by rw [hv, h0]⟩
      · exact ⟨_, _, hv⟩
    obtain ⟨f, rfl⟩ : ∃ f, gk = f + 1 := ⟨gk - 1, by have := hrel.fuel; omega⟩
    have H := Lib.hid hrel
    clear hrel
    by_cases herr : σr.err = 0
    · have c2 := H.out.sc.c2
      rw [herr] at c2
      have hs := H.out.same
      unfold openF_ at hs
      rw [if_pos herr] at hs
      have HM := Lib.hid (OpM.mk H.out.only H.out.hP H.out.hR H.out.own H.out.base)
      have C := sblanks B b s σr wr H.out.sc
      obtain ⟨T, hT⟩ : ∃ T, runW bb (bl s) σr = T := ⟨_, rfl⟩
      obtain ⟨σw, hσ⟩ : ∃ σw, whileS bb (bl s) σr = σw := ⟨_, rfl⟩
      rw [hT, hσ] at hs C
      have C := Lib.hid C
      have hmore := H.out.more herr
      clear hT hσ H herr
      go_wp2_with fail
      refine C.out.mono ?_
      rintro r w3 ⟨rfl, h3, o3⟩
      have HS3 := Lib.hid h3
      have HM3 := Lib.hid (HM.out.step o3 (by omega) (by omega) (by omega))
      clear h3 o3 c2 C HM
      cases s62 : standsS [62] (bl s) σw with
      | true =>
        rw [if_pos s62] at hs
        subst hs
        have C := Lib.hid (sskip_l B b s ⟨#[62]⟩ [62] rfl (by decide) σw w3 HS3.out true s62)
        clear s62
        go_wp2_with fail
        refine C.out.mono ?_
        rintro r w4 ⟨rfl, h4, o4⟩
        have HS4 := Lib.hid h4
        have HM4 := Lib.hid (HM3.out.step o4 (by omega) (by omega) (by omega))
        clear h4 o4 C HM3 HS3
        have p0 := Lib.cell_of_heap HM4.out.hP 0
        have p1 := Lib.cell_of_heap HM4.out.hP 1
        have p2 := Lib.cell_of_heap HM4.out.hP 2
        have p3 := Lib.cell_of_heap HM4.out.hP 3
        have p4 := Lib.cell_of_heap HM4.out.hP 4
        have pf := Lib.frozen_of_heap HM4.out.hP 0
        have r0 := Lib.cell_of_heap HM4.out.hR 0
        have r1 := Lib.cell_of_heap HM4.out.hR 1
        have r2 := Lib.cell_of_heap HM4.out.hR 2
        have r3 := Lib.cell_of_heap HM4.out.hR 3
        have r4 := Lib.cell_of_heap HM4.out.hR 4
        have f0 := Lib.frozen_of_heap HM4.out.hR 0
        have f1 := Lib.frozen_of_heap HM4.out.hR 1
        have f2 := Lib.frozen_of_heap HM4.out.hR 2
        have f3 := Lib.frozen_of_heap HM4.out.hR 3
        have f4 := Lib.frozen_of_heap HM4.out.hR 4
        simp only [List.getElem?_toArray, List.getElem?_cons_zero, List.getElem?_cons_succ] at p0 p1 p2 p3 p4 r0 r1 r2 r3 r4
        go_wp2
        refine bodyPost_ret (res_piece _ rfl _ R rfl _ _ _ _ _ _ 117 (0, 0) (st5_heap ((Below.heap_setCell _ _ _ _ (by show R ≠ P; omega)).trans HM4.out.hR) _ _ _ _ _)) rfl ⟨_, rfl, ⟨_, rfl, ?_, ?_⟩, ?_, ?_⟩
        · have h1 := owns_rows (b := b) HM4.out.own (by omega)
          refine h1.heap (by simp [World.setCell]) (fun g o n c hv => ?_)
          have h2 := owns_ne HM4.out.own g o n c hv
          exact (st5_other (by omega) _ _ _ _ _).trans (Below.heap_setCell _ _ _ _ (by show g ≠ P; omega))
        · intro g o n c hv
          have := owns_ne HM4.out.own g o n c hv
          have := HRe.out
          omega
        · exact st5_sc (HS4.out.setOther (p := ⟨P, 0, none⟩) (by show P ≠ b; omega) (by show B ≤ P; omega) _) (by omega) (by omega) _ _ _ _ _
        · exact st5_only (HM4.out.only.setNew (p := ⟨P, 0, none⟩) (by show _ ≤ P; have := HRe.out; omega) _) (by have := HRe.out; omega) _ _ _ _ _
      | false =>
        rw [if_neg (by rw [s62]; decide)] at hs
        have C := Lib.hid (sskip_l B b s ⟨#[62]⟩ [62] rfl (by decide) σw w3 HS3.out false s62)
        have hsk : skipS [62] (bl s) σw = σw := by unfold skipS; rw [if_neg (by rw [s62]; decide)]
        rw [hsk] at C
        clear s62 hsk
        go_wp2_with fail
        refine C.out.mono ?_
        rintro r w4 ⟨rfl, h4, o4⟩
        have HS4 := Lib.hid h4
        have HM4 := Lib.hid (HM3.out.step o4 (by omega) (by omega) (by omega))
        clear h4 o4 C HM3 HS3
        cases s47 : standsS [47, 62] (bl s) σw with
        | true =>
          rw [if_pos s47] at hs
          subst hs
          have C := Lib.hid (sskip_l B b s ⟨#[47, 62]⟩ [47, 62] rfl (by decide) σw w4 HS4.out true s47)
          clear s47
          go_wp2_with fail
          refine C.out.mono ?_
          rintro r w5 ⟨rfl, h5, o5⟩
          have HS5 := Lib.hid h5
          have HM5 := Lib.hid (HM4.out.step o5 (by omega) (by omega) (by omega))
          clear h5 o5 C HM4 HS4
          have p0 := Lib.cell_of_heap HM5.out.hP 0
          have p1 := Lib.cell_of_heap HM5.out.hP 1
          have p2 := Lib.cell_of_heap HM5.out.hP 2
          have p3 := Lib.cell_of_heap HM5.out.hP 3
          have p4 := Lib.cell_of_heap HM5.out.hP 4
          have pf := Lib.frozen_of_heap HM5.out.hP 0
          have r0 := Lib.cell_of_heap HM5.out.hR 0
          have r1 := Lib.cell_of_heap HM5.out.hR 1
          have r2 := Lib.cell_of_heap HM5.out.hR 2
          have r3 := Lib.cell_of_heap HM5.out.hR 3
          have r4 := Lib.cell_of_heap HM5.out.hR 4
          have f0 := Lib.frozen_of_heap HM5.out.hR 0
          have f1 := Lib.frozen_of_heap HM5.out.hR 1
          have f2 := Lib.frozen_of_heap HM5.out.hR 2
          have f3 := Lib.frozen_of_heap HM5.out.hR 3
          have f4 := Lib.frozen_of_heap HM5.out.hR 4
          simp only [List.getElem?_toArray, List.getElem?_cons_zero, List.getElem?_cons_succ] at p0 p1 p2 p3 p4 r0 r1 r2 r3 r4
          go_wp2
          refine bodyPost_ret (res_piece _ rfl _ R rfl _ _ _ _ _ _ 117 (0, 0) (st5_heap ((Below.heap_setCell _ _ _ _ (by show R ≠ P; omega)).trans HM5.out.hR) _ _ _ _ _)) rfl ⟨_, rfl, ⟨_, rfl, ?_, ?_⟩, ?_, ?_⟩
          · have h1 := owns_rows (b := b) HM5.out.own (by omega)
            refine h1.heap (by simp [World.setCell]) (fun g o n c hv => ?_)
            have h2 := owns_ne HM5.out.own g o n c hv
            exact (st5_other (by omega) _ _ _ _ _).trans (Below.heap_setCell _ _ _ _ (by show g ≠ P; omega))
          · intro g o n c hv
            have := owns_ne HM5.out.own g o n c hv
            have := HRe.out
            omega
          · exact st5_sc (HS5.out.setOther (p := ⟨P, 0, none⟩) (by show P ≠ b; omega) (by show B ≤ P; omega) _) (by omega) (by omega) _ _ _ _ _
          · exact st5_only (HM5.out.only.setNew (p := ⟨P, 0, none⟩) (by show _ ≤ P; have := HRe.out; omega) _) (by have := HRe.out; omega) _ _ _ _ _
        | false =>
          rw [if_neg (by rw [s47]; decide)] at hs
          have C := Lib.hid (sskip_l B b s ⟨#[47, 62]⟩ [47, 62] rfl (by decide) σw w4 HS4.out false s47)
          have hsk : skipS [47, 62] (bl s) σw = σw := by unfold skipS; rw [if_neg (by rw [s47]; decide)]
          rw [hsk] at C
          clear s47 hsk
          go_wp2_with fail
          refine C.out.mono ?_
          rintro r w5 ⟨rfl, h5, o5⟩
          have HS5 := Lib.hid h5
          have HM5 := Lib.hid (HM4.out.step o5 (by omega) (by omega) (by omega))
          clear h5 o5 C HM4 HS4
          have p2 := Lib.cell_of_heap HM5.out.hP 2
          have pf := Lib.frozen_of_heap HM5.out.hP 2
          simp only [List.getElem?_toArray, List.getElem?_cons_zero, List.getElem?_cons_succ] at p2
          have c1 := HS5.out.c1
          by_cases hw : T = [] ∨ al.length = 16
          · rw [if_pos hw] at hs
            have CW := Lib.hid (swrong B b s σw w5 HS5.out 3 σw.pos (by decide))
            have hgo : ∀ w6, Sc B b s (wrongS 3 σw.pos σw) w6 → Only b w5 w6 → OpRel B b s n Z w P R (P + 1) f w6 := fun w6 h6 o6 =>
              ⟨al, _, _, hlen, by omega, fun h => absurd h (wrong_err _ _ _ (by decide)), hs, h6, (HM5.out.step o6 (by omega) (by omega) (by omega)).only, (HM5.out.step o6 (by omega) (by omega) (by omega)).hP, (HM5.out.step o6 (by omega) (by omega) (by omega)).hR, (HM5.out.step o6 (by omega) (by omega) (by omega)).own, (HM5.out.step o6 (by omega) (by omega) (by omega)).base⟩
            have hgo := Lib.hid hgo
            clear hs
            cases hT : T with
            | nil =>
              subst hT
              have q1 : (str ([] : List UInt8)).toList.isEmpty = true := by rw [toList_str]; rfl
              have q2 : (!(str ([] : List UInt8)).toList.isEmpty) = false := by rw [q1]; rfl
              go_wp2_with fail
              refine CW.out.mono ?_
              rintro r w6 ⟨rfl, h6, o6⟩
              have hgo2 := hgo.out w6 h6 o6
              clear p2 pf c1
              go_wp2
              go_roundg f
              case measure => omega
              case rel => exact hgo2
            | cons x xs =>
              subst hT
              have q1 : (str (x :: xs)).toList.isEmpty = false := by rw [toList_str]; rfl
              have q3 : ((al.length : Int) == 16) = true := by
                rcases hw with h | h
                · cases h
                · rw [h]; rfl
              go_wp2_with fail
              refine CW.out.mono ?_
              rintro r w6 ⟨rfl, h6, o6⟩
              have hgo2 := hgo.out w6 h6 o6
              clear p2 pf c1
              go_wp2
              go_roundg f
              case measure => omega
              case rel => exact hgo2
          · rw [if_neg hw] at hs
            have q1 : (str T).toList.isEmpty = false := by
              rw [toList_str]
              cases T with
              | nil => exact absurd (.inl rfl) hw
              | cons x xs => rfl
            have q3 : ((al.length : Int) == 16) = false := by
              have : al.length ≠ 16 := fun h => hw (.inr h)
              simp; omega
            have hl16 : al.length < 16 := by
              have : al.length ≠ 16 := fun h => hw (.inr h)
              omega
            have hfrom : ∀ w6 (x : Value) (cap' : Nat), Sc B b s (attrS (bl s) al σw) w6 → OpM b n w P R (P + 1) w6 (al ++ [attrV (bl s) σw]) x → OpRel B b s n Z w P R (P + 1) f w6 := fun w6 x _ h6 m6 =>
              ⟨_, _, _, by rw [List.length_append]; simp; omega, by omega, fun _ => by rw [List.length_append]; simp; omega, hs, h6, m6.only, m6.hP, m6.hR, m6.own, m6.base⟩
            have hfrom := Lib.hid hfrom
            obtain ⟨N1, hN1⟩ : ∃ N1, str (attrV (bl s) σw).1 = N1 := ⟨_, rfl⟩
            obtain ⟨V1, hV1⟩ : ∃ V1, str (attrV (bl s) σw).2 = V1 := ⟨_, rfl⟩
            have hPw : P < w5.heap.size := by have := HM5.out.base; omega
            have CA := (sattr B b s σw w5.drew (.slice ao al.length cap) al (HS5.out.step (Below.refl _ _).drew) ((owns_rows HM5.out.own (by omega)).only (Only.of (Below.refl _ _).drew)) (by omega)).mono (fun r w6 (h : _ ∧ _ ∧ _) =>
              (show r = .returned (.agg #[.string (str (attrV (bl s) σw).1), .string (str (attrV (bl s) σw).2)]) ∧ w6.cell? ⟨P, 2, none⟩ = some (.slice ao al.length cap) ∧ w6.frozen? ⟨P, 2, none⟩ = false ∧ Hid (Sc B b s (attrS (bl s) al σw) w6 ∧ OpM b n w P R (P + 1) w6 al (.slice ao al.length cap)) from
                ⟨h.1, by rw [World.cell?_of_block (w := w5.drew) (h.2.2.block P hPw (by omega))]; exact p2, by rw [World.frozen?_of_block (w := w5.drew) (h.2.2.block P hPw (by omega))]; exact pf,
                  Lib.hid ⟨h.2.1, HM5.out.step ((Only.of (Below.refl _ _).drew).trans h.2.2) (by omega) (by omega) (by omega)⟩⟩))
            rw [hN1, hV1] at CA
            have HN1 := Lib.hid hN1
            have HV1 := Lib.hid hV1
            have CA := Lib.hid CA
            have hne : ∀ w6, OpM b n w P R (P + 1) w6 al (.slice ao al.length cap) → some P ≠ (Value.slice ao al.length cap).ownBlock := fun w6 m6 e => by
              have := (m6.own.lt P e.symm).1
              omega
            have hne := Lib.hid hne
            clear hs hN1 hV1 hw c1
            go_wp2_with fail
            go_region_law (first
                | (go_simp; go_at_call 177; refine CA.out.mono ?_; rintro e w6 ⟨rfl, k6, g6, H6⟩
                   have k6a : (w6.alloc (.cells #[.string N1, .string V1] 56)).cell? ⟨P, 2, none⟩ = some (.slice ao al.length cap) := by rw [World.cell?_of_block (w := w6) (Below.heap_alloc _ _ P (by have := H6.out.2.base; omega))]; exact k6)
                | (refine step_append_lies _ (by rfl) _ _ _ (by rfl) (P + 1) 56 i0 _ 2 32 Tryz.underlying22 HI.out HI0.out HI1.out HI2.out rfl (by omega) (.slice ao al.length cap) al.length (atC al) (by rfl) (H6.out.2.own.alloc _)
                    ⟨w6.heap.size, 0, none⟩ 1 1 [.string N1, .string V1] (by rfl) (by rfl) (World.news_of_block (cs := #[.string N1, .string V1]) (t := 56) (fr := (0, 0)) (heap_alloc_new w6 _)) (by simp [Value.oneCell'])
                    (by omega) (by unfold maxLen; omega) (by omega) (by simp; have := H6.out.2.base; omega) (w6.heap.size + 1) (by simp) ?_
                   intro gg cap' w7 hown7 hgrow hat hlt
                   have k7 : w7.cell? ⟨P, 2, none⟩ = some (.slice ao al.length cap) := by
                     rw [hgrow.cell_far _ (by simp; have := H6.out.2.base; omega) (hne.out _ H6.out.2), World.cell?_of_block (w := w6) (Below.heap_alloc _ _ P (by have := H6.out.2.base; omega))]; exact k6
                   have g7 : w7.frozen? ⟨P, 2, none⟩ = false := by
                     rw [hgrow.frozen_far _ (by simp; have := H6.out.2.base; omega) (hne.out _ H6.out.2), World.frozen?_of_block (w := w6) (Below.heap_alloc _ _ P (by have := H6.out.2.base; omega))]; exact g6))
            all_goals
              have hown8 := Lib.hid hown7
              rw [← HN1.out, ← HV1.out] at hown8
              have HM8 := Lib.hid (H6.out.2.append hRP HRe.out (attrV (bl s) σw) hgrow hown8.out)
              have HS8 := Lib.hid (H6.out.1.append H6.out.2 (by omega) hgrow (.slice (some ⟨gg, 0, none⟩) (al.length + 1) cap'))
              have hgo := hfrom.out _ _ cap' HS8.out HM8.out
              clear hown7 hgrow hown8 HM8 HS8 k7 g7 k6a k6 g6 hat hlt p2 pf q1 q3
              go_wp2
              go_roundg f
              case measure => omega
              case rel => exact hgo
    · have c2 := H.out.sc.c2
      have q : (σr.err == 0) = false := by simp [herr]
      have hs := H.out.same
      unfold openF_ at hs
      rw [if_neg herr] at hs
      subst hs
      have HS4 := Lib.hid H.out.sc
      have HO4 := Lib.hid H.out.only
      have HR4 := Lib.hid H.out.hR
      clear H herr
      have r0 := Lib.cell_of_heap HR4.out 0
      have r1 := Lib.cell_of_heap HR4.out 1
      have r2 := Lib.cell_of_heap HR4.out 2
      have r3 := Lib.cell_of_heap HR4.out 3
      have r4 := Lib.cell_of_heap HR4.out 4
      have f0 := Lib.frozen_of_heap HR4.out 0
      have f1 := Lib.frozen_of_heap HR4.out 1
      have f2 := Lib.frozen_of_heap HR4.out 2
      have f3 := Lib.frozen_of_heap HR4.out 3
      have f4 := Lib.frozen_of_heap HR4.out 4
      simp only [List.getElem?_toArray, List.getElem?_cons_zero, List.getElem?_cons_succ] at r0 r1 r2 r3 r4
      go_wp2
      refine bodyPost_ret (res_piece _ rfl _ R rfl _ _ _ _ _ _ 117 (0, 0) (st5_heap HR4.out _ _ _ _ _)) rfl ⟨_, rfl, ⟨_, rfl, rowsB_nil b _, fresh_nil _⟩, ?_, ?_⟩
      · exact st5_sc HS4.out (by omega) (by omega) _ _ _ _ _
      · exact st5_only HO4.out (by have := HRe.out; omega) _ _ _ _ _
/-- **(*Scanner).opening.** -/
theorem sopening (B b : Nat) (s : ByteArray) (σ : St) (w : World) (hS : Sc B b s σ w) :
    Calls Tryz.prog 159 #[.pointer (some ⟨b, 0, none⟩)] w (Gives B b s w (openingS (bl s) σ).1 (openingS (bl s) σ).2) :=
  sopening0 B b s σ w hS _ _ (Lib.hid rfl) (Lib.hid rfl)

end Go.Proofs.YtnlkpdodacphkaaGreatDoor
namespace Go.Proofs.YtnlkpdodacphkaaGreatDoor
open Go.RowKit
set_option maxRecDepth 100000

set_option maxHeartbeats 4000000 in
theorem sraw0 (B b : Nat) (s : ByteArray) (σ σ1 σ2 : St) (w : World) (hS : Sc B b s σ w) (X : List UInt8) (Y : ByteArray) (A : Bool) (hY : Y.size ≤ s.size)
    (C1 : Hid (∀ w, Glob B w → Calls Tryz.prog 162 #[.string (s.extract σ.pos s.size), .string ⟨#[93, 93, 62]⟩] w fun e w' => e = .returned (.tuple #[.string (str X), .string Y, .bool A]) ∧ ∃ n, w' = w.drewN n))
    (h1 : Hid (σ1 = if A = true then σ else wrongS 3 σ.pos σ))
    (C3 : Hid (∀ w, Sc B b s σ1 w → Calls Tryz.prog 172 #[.pointer (some ⟨b, 0, none⟩), .string (str X), .int .i64 σ.pos] w fun r w' => r = .returned (.tuple #[]) ∧ Sc B b s σ2 w' ∧ Only b w w')) :
    Calls Tryz.prog 157 #[.pointer (some ⟨b, 0, none⟩)] w (Gives B b s w ⟨4, [], [], X, 0⟩ (go_ σ2 (s.size - Y.size))) := by
  have HS := Lib.hid (hS.step ((Below.refl _ _).alloc (Nat.le_refl _) (.cells #[.int .i64 0, .string ⟨#[]⟩, .slice none 0 0, .string ⟨#[]⟩, .int .i64 0] 117)))
  have HO := Lib.hid (Only.alloc b w (.cells #[.int .i64 0, .string ⟨#[]⟩, .slice none 0 0, .string ⟨#[]⟩, .int .i64 0] 117))
  have HR := Lib.hid (heap_alloc_new w (.cells #[.int .i64 0, .string ⟨#[]⟩, .slice none 0 0, .string ⟨#[]⟩, .int .i64 0] 117))
  have hbR : b < w.heap.size := hS.lt
  have hBb := hS.base
  have hps := hS.pos
  have hps' : (σ.pos : Int) ≤ (s.size : Int) := by omega
  have hY' : (Y.size : Int) ≤ (s.size : Int) := by omega
  have hln := hS.len
  have c0 := HS.out.c0
  have c1 := HS.out.c1
  clear hS
  go_enter Tryz.func157, Tryz.ntmps157
  go_wp2_with fail
  clear c0 c1
  obtain ⟨R, hRe⟩ : ∃ R, w.heap.size = R := ⟨_, rfl⟩
  rw [hRe] at HR hbR ⊢
  have HRe := Lib.hid hRe
  clear hRe
  generalize w.alloc (.cells #[.int .i64 0, .string ⟨#[]⟩, .slice none 0 0, .string ⟨#[]⟩, .int .i64 0] 117) = w0 at HS HO HR ⊢
  refine (C1.out w0 HS.out.glob).mono ?_
  rintro r w1 ⟨rfl, n, rfl⟩
  have HS1 := Lib.hid (HS.out.step (below_drewN w0 n))
  have HO1 := Lib.hid (HO.out.trans (Only.drewN b w0 n))
  have HR1 := Lib.hid ((Only.drewN b w0 n).heap HR.out (by omega))
  clear HS HO HR C1
  generalize w0.drewN n = w1 at HS1 HO1 HR1 ⊢
  have key : ∀ w2, Sc B b s σ1 w2 → Only b w1 w2 → Hid (Sc B b s σ1 w2 ∧ Only b w w2 ∧ w2.heap[R]? = some (.cells #[.int .i64 0, .string ⟨#[]⟩, .slice none 0 0, .string ⟨#[]⟩, .int .i64 0] 117)) := fun w2 h2 o2 => Lib.hid ⟨h2, HO1.out.trans o2, o2.heap HR1.out (by omega)⟩
  cases A with
  | true =>
    have hk := key w1 (by rw [h1.out]; exact HS1.out) (Only.refl _ _)
    clear key HS1 HO1 HR1
    have C := Lib.hid (C3.out w1 hk.out.1)
    go_wp2_with fail
    refine C.out.mono ?_
    rintro r w3 ⟨rfl, h3, o3⟩
    have d0 := h3.c0
    have d1 := h3.c1
    have g1 := h3.fz 1
    have HR3 := o3.heap hk.out.2.2 (by omega)
    have HO3 := Lib.hid (hk.out.2.1.trans o3)
    have r0 := Lib.cell_of_heap HR3 0
    have r1 := Lib.cell_of_heap HR3 1
    have r2 := Lib.cell_of_heap HR3 2
    have r3 := Lib.cell_of_heap HR3 3
    have r4 := Lib.cell_of_heap HR3 4
    have f0 := Lib.frozen_of_heap HR3 0
    have f1 := Lib.frozen_of_heap HR3 1
    have f2 := Lib.frozen_of_heap HR3 2
    have f3 := Lib.frozen_of_heap HR3 3
    have f4 := Lib.frozen_of_heap HR3 4
    simp only [List.getElem?_toArray, List.getElem?_cons_zero, List.getElem?_cons_succ] at r0 r1 r2 r3 r4
    have HR3 := Lib.hid HR3
    have HS3 := Lib.hid h3
    have hsub : (s.size : Int) - (Y.size : Int) = ((s.size - Y.size : Nat) : Int) := by omega
    have hsub2 : (0 : Int) ≤ (s.size : Int) - (Y.size : Int) := by omega
    clear h3 o3 hk C
    go_wp2
    refine bodyPost_ret (res_piece _ rfl _ R rfl _ _ _ _ _ _ 117 (0, 0) (st5_heap ((Below.heap_setCell _ _ _ _ (by show R ≠ b; omega)).trans HR3.out) _ _ _ _ _)) rfl ⟨_, rfl, ⟨_, rfl, rowsB_nil b _, fresh_nil _⟩, ?_, ?_⟩
    · exact st5_sc (HS3.out.go (s.size - Y.size) (by omega)) (by omega) (by omega) _ _ _ _ _
    · exact st5_only (HO3.out.trans (Only.set b 1 _ _)) (by have := HRe.out; omega) _ _ _ _ _
  | false =>
    have CW := Lib.hid (swrong B b s σ w1 HS1.out 3 σ.pos (by decide))
    go_wp2_with fail
    refine CW.out.mono ?_
    rintro r w2 ⟨rfl, h2, o2⟩
    have hk := key w2 (by rw [h1.out]; exact h2) o2
    clear key HS1 HO1 HR1 h2 o2
    have C := Lib.hid (C3.out w2 hk.out.1)
    go_wp2_with fail
    refine C.out.mono ?_
    rintro r w3 ⟨rfl, h3, o3⟩
    have d0 := h3.c0
    have d1 := h3.c1
    have g1 := h3.fz 1
    have HR3 := o3.heap hk.out.2.2 (by omega)
    have HO3 := Lib.hid (hk.out.2.1.trans o3)
    have r0 := Lib.cell_of_heap HR3 0
    have r1 := Lib.cell_of_heap HR3 1
    have r2 := Lib.cell_of_heap HR3 2
    have r3 := Lib.cell_of_heap HR3 3
    have r4 := Lib.cell_of_heap HR3 4
    have f0 := Lib.frozen_of_heap HR3 0
    have f1 := Lib.frozen_of_heap HR3 1
    have f2 := Lib.frozen_of_heap HR3 2
    have f3 := Lib.frozen_of_heap HR3 3
    have f4 := Lib.frozen_of_heap HR3 4
    simp only [List.getElem?_toArray, List.getElem?_cons_zero, List.getElem?_cons_succ] at r0 r1 r2 r3 r4
    have HR3 := Lib.hid HR3
    have HS3 := Lib.hid h3
    have hsub : (s.size : Int) - (Y.size : Int) = ((s.size - Y.size : Nat) : Int) := by omega
    have hsub2 : (0 : Int) ≤ (s.size : Int) - (Y.size : Int) := by omega
    clear h3 o3 hk C
    go_wp2
    refine bodyPost_ret (res_piece _ rfl _ R rfl _ _ _ _ _ _ 117 (0, 0) (st5_heap ((Below.heap_setCell _ _ _ _ (by show R ≠ b; omega)).trans HR3.out) _ _ _ _ _)) rfl ⟨_, rfl, ⟨_, rfl, rowsB_nil b _, fresh_nil _⟩, ?_, ?_⟩
    · exact st5_sc (HS3.out.go (s.size - Y.size) (by omega)) (by omega) (by omega) _ _ _ _ _
    · exact st5_only (HO3.out.trans (Only.set b 1 _ _)) (by have := HRe.out; omega) _ _ _ _ _
/-- **(*Scanner).raw.** -/
theorem sraw (B b : Nat) (s : ByteArray) (σ : St) (w : World) (hS : Sc B b s σ w) :
    Calls Tryz.prog 157 #[.pointer (some ⟨b, 0, none⟩)] w (Gives B b s w (rawS (bl s) σ).1 (rawS (bl s) σ).2) := by
  have hl := hS.len
  have hps := hS.pos
  have hc : ∀ w, Glob B w → Calls Tryz.prog 162 #[.string (s.extract σ.pos s.size), .string ⟨#[93, 93, 62]⟩] w fun e w' => e = .returned (.tuple #[.string (str (rawC (bl s) σ).1), .string (str (rawC (bl s) σ).2.1), .bool (rawC (bl s) σ).2.2]) ∧ ∃ n, w' = w.drewN n := by
    intro w hg
    obtain ⟨m, hm⟩ := hg.ent.maxl
    have c := Tryz.strings_Cut (s.extract σ.pos s.size) ⟨#[93, 93, 62]⟩ m w (by have := size_from s σ.pos; omega) hm
    have e : (s.extract σ.pos s.size).data.toList = (bl s).drop σ.pos := bl_from s σ.pos
    rw [e] at c
    exact c
  have hlen := cut_len ((bl s).drop σ.pos) [93, 93, 62]
  rw [List.length_drop, bl_size] at hlen
  have hX : (rawC (bl s) σ).1.length ≤ s.size - σ.pos := hlen.1
  have hY : (rawC (bl s) σ).2.1.length ≤ s.size - σ.pos := hlen.2
  unfold rawS
  rw [bl_size]
  obtain ⟨C, hC⟩ : ∃ C, rawC (bl s) σ = C := ⟨_, rfl⟩
  rw [hC] at hc hX hY ⊢
  obtain ⟨σ1, h1⟩ : ∃ σ1, (if C.2.2 = true then σ else wrongS 3 σ.pos σ) = σ1 := ⟨_, rfl⟩
  rw [h1]
  have c3 := fun w (h : Sc B b s σ1 w) => sletters B b s (str C.1) σ1 w σ.pos (by rw [str_size]; omega) h
  rw [str_bl] at c3
  have hs : C.2.1.length = (str C.2.1).size := (str_size _).symm
  rw [hs] at hY ⊢
  exact sraw0 B b s σ σ1 _ w hS C.1 (str C.2.1) C.2.2 (by omega) (Lib.hid hc) (Lib.hid h1.symm) (Lib.hid c3)

set_option maxHeartbeats 4000000 in
theorem stext0 (B b : Nat) (s : ByteArray) (σ σ1 σ2 : St) (w : World) (hS : Sc B b s σ w) (T : ByteArray) (X : List UInt8)
    (C1 : Hid (∀ w, Sc B b s σ w → Calls Tryz.prog 174 #[.pointer (some ⟨b, 0, none⟩), .func (.func 178) #[] #[]] w fun r w' => r = .returned (.string T) ∧ Sc B b s σ1 w' ∧ Only b w w'))
    (C2 : Hid (∀ w, Sc B b s σ1 w → Calls Tryz.prog 179 #[.pointer (some ⟨b, 0, none⟩), .string T, .int .i64 σ.pos] w fun r w' => r = .returned (.string (str X)) ∧ Sc B b s σ2 w' ∧ Only b w w')) :
    Calls Tryz.prog 160 #[.pointer (some ⟨b, 0, none⟩)] w (Gives B b s w ⟨4, [], [], X, 0⟩ σ2) := by
  have HS := Lib.hid (hS.step ((Below.refl _ _).alloc (Nat.le_refl _) (.cells #[.int .i64 0, .string ⟨#[]⟩, .slice none 0 0, .string ⟨#[]⟩, .int .i64 0] 117)))
  have HO := Lib.hid (Only.alloc b w (.cells #[.int .i64 0, .string ⟨#[]⟩, .slice none 0 0, .string ⟨#[]⟩, .int .i64 0] 117))
  have HR := Lib.hid (heap_alloc_new w (.cells #[.int .i64 0, .string ⟨#[]⟩, .slice none 0 0, .string ⟨#[]⟩, .int .i64 0] 117))
  have hbR : b < w.heap.size := hS.lt
  have hBb := hS.base
  have c1 := HS.out.c1
  clear hS
  go_enter Tryz.func160, Tryz.ntmps160
  go_wp2_with fail
  clear c1
  obtain ⟨R, hRe⟩ : ∃ R, w.heap.size = R := ⟨_, rfl⟩
  rw [hRe] at HR hbR ⊢
  have HRe := Lib.hid hRe
  clear hRe
  generalize w.alloc (.cells #[.int .i64 0, .string ⟨#[]⟩, .slice none 0 0, .string ⟨#[]⟩, .int .i64 0] 117) = w0 at HS HO HR ⊢
  refine (C1.out w0 HS.out).mono ?_
  rintro r w1 ⟨rfl, h1, o1⟩
  have HS1 := Lib.hid h1
  have HO1 := Lib.hid (HO.out.trans o1)
  have HR1 := Lib.hid (o1.heap HR.out (by omega))
  clear h1 o1 HS HO HR C1
  go_wp2_with fail
  refine (C2.out w1 HS1.out).mono ?_
  rintro r w2 ⟨rfl, h2, o2⟩
  have HS2 := Lib.hid h2
  have HO2 := Lib.hid (HO1.out.trans o2)
  have HR2 := Lib.hid (o2.heap HR1.out (by omega))
  clear h2 o2 HS1 HO1 HR1 C2
  have r0 := Lib.cell_of_heap HR2.out 0
  have r1 := Lib.cell_of_heap HR2.out 1
  have r2 := Lib.cell_of_heap HR2.out 2
  have r3 := Lib.cell_of_heap HR2.out 3
  have r4 := Lib.cell_of_heap HR2.out 4
  have f0 := Lib.frozen_of_heap HR2.out 0
  have f1 := Lib.frozen_of_heap HR2.out 1
  have f2 := Lib.frozen_of_heap HR2.out 2
  have f3 := Lib.frozen_of_heap HR2.out 3
  have f4 := Lib.frozen_of_heap HR2.out 4
  simp only [List.getElem?_toArray, List.getElem?_cons_zero, List.getElem?_cons_succ] at r0 r1 r2 r3 r4
  go_wp2
  refine bodyPost_ret (res_piece _ rfl _ R rfl _ _ _ _ _ _ 117 (0, 0) (st5_heap HR2.out _ _ _ _ _)) rfl ⟨_, rfl, ⟨_, rfl, rowsB_nil b _, fresh_nil _⟩, ?_, ?_⟩
  · exact st5_sc HS2.out (by omega) (by omega) _ _ _ _ _
  · exact st5_only HO2.out (by have := HRe.out; omega) _ _ _ _ _
/-- **(*Scanner).text.** -/
theorem stext (B b : Nat) (s : ByteArray) (σ : St) (w : World) (hS : Sc B b s σ w) :
    Calls Tryz.prog 160 #[.pointer (some ⟨b, 0, none⟩)] w (Gives B b s w (textS (bl s) σ).1 (textS (bl s) σ).2) := by
  have hl := hS.len
  have hps := hS.pos
  have hr := run_len tb (bl s) σ
  rw [bl_size] at hr
  have c1 := fun w (h : Sc B b s σ w) => swhile B b s σ w h _ _ tb enters_text (fun w' _ => tells_text w')
  have c2 := fun w (h : Sc B b s (whileS tb (bl s) σ) w) => sopened B b s (str (runW tb (bl s) σ)) _ w σ.pos (by rw [str_size]; omega) (by rw [str_size]; omega) h
  rw [str_bl] at c2
  unfold textS
  generalize whileS tb (bl s) σ = σ1 at c1 c2 ⊢
  exact stext0 B b s σ σ1 _ w hS _ _ (Lib.hid c1) (Lib.hid c2)

set_option maxHeartbeats 4000000 in
theorem sclosing0 (B b : Nat) (s : ByteArray) (σ σ1 σ2 σ3 : St) (w : World) (hS : Sc B b s σ w) (n : List UInt8)
    (C1 : Hid (∀ w, Sc B b s σ w → Calls Tryz.prog 173 #[.pointer (some ⟨b, 0, none⟩)] w fun r w' => r = .returned (.string (str n)) ∧ Sc B b s σ1 w' ∧ Only b w w'))
    (C2 : Hid (∀ w, Sc B b s σ1 w → Calls Tryz.prog 174 #[.pointer (some ⟨b, 0, none⟩), .func (.func 175) #[] #[]] w fun r w' => (∃ T, r = .returned (.string T)) ∧ Sc B b s σ2 w' ∧ Only b w w'))
    (C3 : Hid (∀ w, Sc B b s σ2 w → Calls Tryz.prog 176 #[.pointer (some ⟨b, 0, none⟩), .string ⟨#[62]⟩] w fun r w' => r = .returned (.tuple #[]) ∧ Sc B b s σ3 w' ∧ Only b w w')) :
    Calls Tryz.prog 158 #[.pointer (some ⟨b, 0, none⟩)] w (Gives B b s w ⟨2, n, [], [], 0⟩ σ3) := by
  have HS := Lib.hid (hS.step ((Below.refl _ _).alloc (Nat.le_refl _) (.cells #[.int .i64 0, .string ⟨#[]⟩, .slice none 0 0, .string ⟨#[]⟩, .int .i64 0] 117)))
  have HO := Lib.hid (Only.alloc b w (.cells #[.int .i64 0, .string ⟨#[]⟩, .slice none 0 0, .string ⟨#[]⟩, .int .i64 0] 117))
  have HR := Lib.hid (heap_alloc_new w (.cells #[.int .i64 0, .string ⟨#[]⟩, .slice none 0 0, .string ⟨#[]⟩, .int .i64 0] 117))
  have hbR : b < w.heap.size := hS.lt
  have hBb := hS.base
  clear hS
  go_enter Tryz.func158, Tryz.ntmps158
  go_wp2_with fail
  obtain ⟨R, hRe⟩ : ∃ R, w.heap.size = R := ⟨_, rfl⟩
  rw [hRe] at HR hbR ⊢
  have HRe := Lib.hid hRe
  clear hRe
  generalize w.alloc (.cells #[.int .i64 0, .string ⟨#[]⟩, .slice none 0 0, .string ⟨#[]⟩, .int .i64 0] 117) = w0 at HS HO HR ⊢
  refine (C1.out w0 HS.out).mono ?_
  rintro r w1 ⟨rfl, h1, o1⟩
  have HS1 := Lib.hid (h1.step ((Below.refl _ _).alloc (Nat.le_refl _) (.cells #[.int .i64 2, .string (str n), .slice none 0 0, .string ⟨#[]⟩, .int .i64 0] 117)))
  have HO1 := Lib.hid ((HO.out.trans o1).trans (Only.alloc b w1 (.cells #[.int .i64 2, .string (str n), .slice none 0 0, .string ⟨#[]⟩, .int .i64 0] 117)))
  have HP := Lib.hid (heap_alloc_new w1 (.cells #[.int .i64 2, .string (str n), .slice none 0 0, .string ⟨#[]⟩, .int .i64 0] 117))
  have hRP : R < w1.heap.size := (Array.getElem?_eq_some_iff.1 (o1.heap HR.out (by omega))).1
  have HR1 := Lib.hid ((Only.alloc b w1 (.cells #[.int .i64 2, .string (str n), .slice none 0 0, .string ⟨#[]⟩, .int .i64 0] 117)).heap (o1.heap HR.out (by omega)) (by omega))
  clear h1 o1 HS HO HR C1
  go_wp2_with fail
  obtain ⟨P, hPe⟩ : ∃ P, w1.heap.size = P := ⟨_, rfl⟩
  rw [hPe] at HP hRP ⊢
  clear hPe
  generalize w1.alloc (.cells #[.int .i64 2, .string (str n), .slice none 0 0, .string ⟨#[]⟩, .int .i64 0] 117) = w2 at HS1 HO1 HP HR1 ⊢
  refine (C2.out w2 HS1.out).mono ?_
  rintro r w3 ⟨⟨T3, rfl⟩, h3, o3⟩
  have HS3 := Lib.hid h3
  have HO3 := Lib.hid o3
  clear h3 o3 C2 HS1
  go_wp2_with fail
  refine (C3.out w3 HS3.out).mono ?_
  rintro r w4 ⟨rfl, h4, o4⟩
  have HS4 := Lib.hid h4
  have HO4 := Lib.hid (HO3.out.trans o4)
  clear h4 o4 C3 HS3 HO3
  have HR2 := Lib.hid (HO4.out.heap HR1.out (by omega))
  have HP2 := Lib.hid (HO4.out.heap HP.out (by omega))
  have HO2 := Lib.hid (HO1.out.trans HO4.out)
  clear HR1 HP HO4 HO1
  have r0 := Lib.cell_of_heap HR2.out 0
  have r1 := Lib.cell_of_heap HR2.out 1
  have r2 := Lib.cell_of_heap HR2.out 2
  have r3 := Lib.cell_of_heap HR2.out 3
  have r4 := Lib.cell_of_heap HR2.out 4
  have f0 := Lib.frozen_of_heap HR2.out 0
  have f1 := Lib.frozen_of_heap HR2.out 1
  have f2 := Lib.frozen_of_heap HR2.out 2
  have f3 := Lib.frozen_of_heap HR2.out 3
  have f4 := Lib.frozen_of_heap HR2.out 4
  simp only [List.getElem?_toArray, List.getElem?_cons_zero, List.getElem?_cons_succ] at r0 r1 r2 r3 r4
  have p0 := Lib.cell_of_heap HP2.out 0
  have p1 := Lib.cell_of_heap HP2.out 1
  have p2 := Lib.cell_of_heap HP2.out 2
  have p3 := Lib.cell_of_heap HP2.out 3
  have p4 := Lib.cell_of_heap HP2.out 4
  simp only [List.getElem?_toArray, List.getElem?_cons_zero, List.getElem?_cons_succ] at p0 p1 p2 p3 p4
  go_wp2
  refine bodyPost_ret (res_piece _ rfl _ R rfl _ _ _ _ _ _ 117 (0, 0) (st5_heap HR2.out _ _ _ _ _)) rfl ⟨_, rfl, ⟨_, rfl, rowsB_nil b _, fresh_nil _⟩, ?_, ?_⟩
  · exact st5_sc HS4.out (by omega) (by omega) _ _ _ _ _
  · exact st5_only HO2.out (by have := HRe.out; omega) _ _ _ _ _
/-- **(*Scanner).closing.** -/
theorem sclosing (B b : Nat) (s : ByteArray) (σ : St) (w : World) (hS : Sc B b s σ w) :
    Calls Tryz.prog 158 #[.pointer (some ⟨b, 0, none⟩)] w (Gives B b s w (closingS (bl s) σ).1 (closingS (bl s) σ).2) := by
  have C1 := Lib.hid fun w h => sname B b s σ w h
  have C2 := Lib.hid fun w h => sblanks_t B b s (nameS (bl s) σ) w h
  have C3 := Lib.hid fun w h => smust_l B b s ⟨#[62]⟩ [62] rfl (by decide) (whileS bb (bl s) (nameS (bl s) σ)) w h
  unfold closingS
  generalize mustS [62] (bl s) (whileS bb (bl s) (nameS (bl s) σ)) = σ3 at C3 ⊢
  generalize whileS bb (bl s) (nameS (bl s) σ) = σ2 at C2 C3
  generalize nameS (bl s) σ = σ1 at C1 C2
  exact sclosing0 B b s σ σ1 σ2 σ3 w hS (runW nb (bl s) σ) C1 C2 C3

end Go.Proofs.YtnlkpdodacphkaaGreatDoor
