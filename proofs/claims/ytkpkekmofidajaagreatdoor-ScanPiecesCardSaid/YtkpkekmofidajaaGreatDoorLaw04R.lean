/-
  What the loops of the law ScanPieces keep.
-/
import Derived.Test.YtkpkekmofidajaaGreatDoorLaw04I
import Derived.Test.YtkpkekmofidajaaGreatDoorScanMathB
import Derived.Deep.AppendLies
import Derived.Laws.OwnMore
namespace Go.Proofs.YtkpkekmofidajaaGreatDoor
open Go Go.RowKit
set_option maxRecDepth 100000

/-- Pieces with the values of their attributes. -/
abbrev Pv := Pc × Value
def pvCells (p : Pv) : List Value := [.int .i64 p.1.kind, .string (str p.1.name), p.2, .string (str p.1.text), .int .i64 p.1.at_]
def pvC (PV : List Pv) : List Value := PV.flatMap pvCells
theorem pvC_len : ∀ PV : List Pv, (pvC PV).length = PV.length * 5
  | [] => rfl
  | p :: PV => by
    have ih := pvC_len PV
    have e : pvC (p :: PV) = pvCells p ++ pvC PV := rfl
    rw [e, List.length_append, ih, List.length_cons]
    show 5 + _ = _
    omega
theorem pvC_snoc (PV : List Pv) (p : Pv) : pvC (PV ++ [p]) = pvC PV ++ pvCells p := by unfold pvC; simp
theorem pvC_get : ∀ (PV : List Pv) (j : Nat) (h : j < PV.length) (q : Nat), q < 5 → (pvC PV)[j * 5 + q]? = (pvCells (PV[j]'h))[q]?
  | [], j, h, _, _ => absurd h (Nat.not_lt_zero j)
  | p :: PV, 0, h, q, hq => by
    have e : pvC (p :: PV) = pvCells p ++ pvC PV := rfl
    rw [e, List.getElem?_append_left (by show _ < 5; omega)]
    simp
  | p :: PV, j + 1, h, q, hq => by
    have ih := pvC_get PV j (by simpa using h) q hq
    have e : pvC (p :: PV) = pvCells p ++ pvC PV := rfl
    rw [e, List.getElem?_append_right (by show 5 ≤ _; omega), show (j + 1) * 5 + q - (pvCells p).length = j * 5 + q by show (j + 1) * 5 + q - 5 = _; omega, ih]
    rfl
theorem own_below {w w' : World} {base : Nat} {e : TypeId} {z n : Nat} {v : Value} {xs : List Value} (h : w.ownsRow base e z v n xs) (hb : Below w.heap.size w w') : w'.ownsRow base e z v n xs :=
  h.kept (⟨hb.os, hb.tape, hb.output, hb.size, fun k hk _ => hb.block k hk⟩ : w.grownBy w' none) (by
    cases hv : v.ownBlock with
    | none => exact .inl rfl
    | some g => exact .inr (fun e => by cases e))
theorem Below.grownQ {B : Nat} {w x y : World} {row : Option Nat} (h : Below B w x) (hg : x.grownBy y row) (hr : ∀ k, row = some k → B ≤ k) (hB : B ≤ x.heap.size) : Below B w y :=
  ⟨hg.os.trans h.os, hg.tape.trans h.tape, hg.output.trans h.output, Nat.le_trans h.size hg.size, fun k hk => (hg.block k (by omega) (fun e => by have := hr k e.symm; omega)).trans (h.block k hk)⟩
theorem rows_same {w w' : World} {v : Value} {A : List (List UInt8 × List UInt8)} (h : Rows w v A) (hs : w.heap.size ≤ w'.heap.size) (hk : ∀ g o n c, v = .slice (some ⟨g, o, none⟩) n c → g < w.heap.size → w'.heap[g]? = w.heap[g]?) : Rows w' v A := by
  rcases h with h | ⟨g, cap, hv, hg, h⟩
  · exact .inl h
  · have hb := hk _ _ _ _ hv hg
    exact .inr ⟨g, cap, hv, Nat.lt_of_lt_of_le hg hs, fun j hj => ⟨(World.cell?_of_block (w := w) hb).trans (h j hj).1, (World.cell?_of_block (w := w) hb).trans (h j hj).2⟩⟩
theorem wants_kinds : ∀ (its : List It) (p : Nat), (∀ i ∈ its, i.2.2 = true → ∃ Q, i.2.1 = some Q ∧ Q.kind = 4) → ∀ i, its.getLast? = some i → i.2.2 = true → ∃ W Q, wantsI its p = W ++ [Q] ∧ Q.kind = 4 := by
  intro its p ht i hi hi2
  obtain ⟨l, rfl⟩ : ∃ l, its = l ++ [i] := by
    rcases List.eq_nil_or_concat its with rfl | ⟨l, a, rfl⟩
    · cases hi
    · rw [List.concat_eq_append] at hi ⊢
      simp at hi
      exact ⟨l, by rw [hi]⟩
  obtain ⟨Q, hQ, hk⟩ := ht i (by simp) hi2
  obtain ⟨x, q, t⟩ := i
  simp only at hQ
  subst hQ
  exact ⟨wantsI l p, setAt Q (p + (flatI l).length), by rw [wants_app]; rfl, hk⟩
theorem wants_len : ∀ (its : List It) (p : Nat), (wantsI its p).length ≤ its.length
  | [], _ => Nat.le_refl _
  | (x, none, _) :: r, p => by
    have := wants_len r (p + x.length)
    show (wantsI r _).length ≤ r.length + 1
    omega
  | (x, some Q, _) :: r, p => by
    have := wants_len r (p + x.length)
    show (wantsI r _).length + 1 ≤ r.length + 1
    omega
/-- What the law's first loop keeps. -/
structure DcR (w : World) (its : List It) (PV : List Pv) (v : Value) (wr : World) : Prop where
  ok : OkI its
  adj : AdjI its
  txt : ∀ i ∈ its, i.2.2 = true → ∃ Q, i.2.1 = some Q ∧ Q.kind = 4
  pcs : PV.map (·.1) = wantsI its 0
  below : Below w.heap.size w wr
  own : wr.ownsRow w.heap.size 27 5 v PV.length (pvC PV)
  rows : ∀ p ∈ PV, p.1.attrs.length ≤ 3 ∧ Rows wr p.2 p.1.attrs ∧ ∀ g o n c, p.2 = .slice (some ⟨g, o, none⟩) n c → v.ownBlock ≠ some g
theorem DcR.step {w : World} {its : List It} {PV : List Pv} {v : Value} {wr w' : World} (h : DcR w its PV v wr) (hb : Below wr.heap.size wr w') : DcR w its PV v w' :=
  ⟨h.ok, h.adj, h.txt, h.pcs, h.below.trans (hb.mono h.below.size), own_below h.own hb, fun p hp => ⟨(h.rows p hp).1, (h.rows p hp).2.1.below hb, (h.rows p hp).2.2⟩⟩
/-- A piece that is not wanted is laid behind the text. -/
theorem DcR.keep {w : World} {its : List It} {PV : List Pv} {v : Value} {wr : World} (h : DcR w its PV v wr) {x : List UInt8} (hI : Item x none false) : DcR w (its ++ [(x, none, false)]) PV v wr where
  ok := fun i hi => by
    rcases List.mem_append.1 hi with hi | hi
    · exact h.ok i hi
    · rw [List.mem_singleton.1 hi]; exact hI
  adj := adj_app its _ h.adj (fun e => by cases e)
  txt := fun i hi ht => by
    rcases List.mem_append.1 hi with hi | hi
    · exact h.txt i hi ht
    · rw [List.mem_singleton.1 hi] at ht; cases ht
  pcs := by rw [wants_app, h.pcs]; simp [wantsI]
  below := h.below
  own := h.own
  rows := h.rows
/-- A piece that is wanted is laid behind the text, and behind the row. -/
theorem DcR.more {w : World} {its : List It} {PV : List Pv} {v x : Value} {w6 w7 : World} {o : Obj} (h : DcR w its PV v w6) {X : List UInt8} {Q : Pc} {t : Bool} {va : Value} (hI : Item X (some Q) t) (ht : t = true → Q.kind = 4) (hadj : Q.kind = 4 → ∀ P V, PV.getLast? = some (P, V) → P.kind ≠ 4)
    (hl : Q.attrs.length ≤ 3) (hr : Rows w6 va Q.attrs) (hf : ∀ g o n c, va = .slice (some ⟨g, o, none⟩) n c → v.ownBlock ≠ some g) (g : Nat) (cap n : Nat) (hn : PV.length = n)
    (hx : x = .slice (some ⟨g, 0, none⟩) (n + 1) cap) (hat : v.ownBlock = some g ∨ g = w6.heap.size + 1)
    (hg : (w6.alloc o).grownBy w7 v.ownBlock) (hown : w7.ownsRow w.heap.size 27 5 x (n + 1) (pvC PV ++ pvCells (setAt Q (flatI its).length, va))) :
    DcR w (its ++ [(X, some Q, t)]) (PV ++ [(setAt Q (flatI its).length, va)]) x w7 := by
  have hsz : (w6.alloc o).heap.size = w6.heap.size + 1 := by simp
  have hbl : ∀ u A, Rows w6 u A → (∀ g o n c, u = .slice (some ⟨g, o, none⟩) n c → v.ownBlock ≠ some g) → Rows w7 u A ∧ ∀ g o n c, u = .slice (some ⟨g, o, none⟩) n c → x.ownBlock ≠ some g := fun u A hu hne => by
    refine ⟨rows_same hu (by have := hg.size; omega) (fun g' o' n' c' hv hg' => ?_), fun g' o' n' c' hv e => ?_⟩
    · exact (hg.block g' (by omega) (fun e => hne _ _ _ _ hv e.symm)).trans (Below.heap_alloc w6 o g' hg')
    · rw [hx] at e
      obtain rfl : g = g' := by injection e
      rcases hat with h1 | h1
      · exact hne _ _ _ _ hv h1
      · rcases hu with ⟨_, h2⟩ | ⟨g2, c2, h2, h3, _⟩
        · rw [h2] at hv; cases hv
        · rw [h2] at hv
          injection hv with e1
          injection e1 with e2
          injection e2 with e3
          omega
  refine ⟨?_, ?_, ?_, ?_, ?_, ?_, ?_⟩
  · intro i hi
    rcases List.mem_append.1 hi with hi | hi
    · exact h.ok i hi
    · rw [List.mem_singleton.1 hi]; exact hI
  · refine adj_app its _ h.adj (fun e j hj => ?_)
    cases hj2 : j.2.2 with
    | false => rfl
    | true =>
      exfalso
      obtain ⟨W, Q', hw, hk⟩ := wants_kinds its 0 h.txt j hj hj2
      have hm := h.pcs
      rw [hw] at hm
      rcases List.eq_nil_or_concat PV with rfl | ⟨l, a, rfl⟩
      · have := congrArg List.length hm
        simp at this
      · rw [List.concat_eq_append, List.map_append] at hm
        have h1 := (List.append_inj' hm rfl).2
        simp at h1
        exact hadj (ht e) a.1 a.2 (by rw [List.concat_eq_append]; simp) (by rw [h1]; exact hk)
  · intro i hi hi2
    rcases List.mem_append.1 hi with hi | hi
    · exact h.txt i hi hi2
    · rw [List.mem_singleton.1 hi] at hi2 ⊢
      exact ⟨Q, rfl, ht hi2⟩
  · rw [List.map_append, h.pcs, wants_app]
    simp [wantsI]
  · have hb := h.below.size
    exact Below.grownQ (h.below.alloc h.below.size o) hg (fun k hk => (h.own.lt k hk).1) (by rw [hsz]; omega)
  · rw [pvC_snoc, List.length_append, hn]
    exact hown
  · intro p hp
    rcases List.mem_append.1 hp with hp | hp
    · have h1 := h.rows p hp
      have h2 := hbl _ _ h1.2.1 h1.2.2
      exact ⟨h1.1, h2.1, h2.2⟩
    · rw [List.mem_singleton.1 hp]
      have h2 := hbl _ _ hr hf
      exact ⟨hl, h2.1, h2.2⟩
theorem piece_info : (Tryz.prog.info? 27).map (fun i => (i.zero, i.size, i.bytes)) = some (some (.agg #[.int .i64 0, .string ⟨#[]⟩, .slice none 0 0, .string ⟨#[]⟩, .int .i64 0]), 5, 72) := by kernel_rfl

end Go.Proofs.YtkpkekmofidajaaGreatDoor
