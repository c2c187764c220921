/-
  What the walk of galliardlaw04.piece keeps where it begins an element.
-/
import Derived.Test.YtkpkekmofidajaaGreatDoorLaw04I
import Derived.Deep.CutBlock
import Derived.Deep.DeepCutAuto
import Derived.Deep.AppendLies
import Derived.Deep.LoopGhost
namespace Go.Proofs.YtkpkekmofidajaaGreatDoor
open Go Go.RowKit
set_option maxRecDepth 100000

/-- A name of an element that may stand. -/
structure NameOk (n : List UInt8) : Prop where
  nm : Nm n
  lets : Lets n
  len : n.length ≤ 9
  head : ∃ c r', n = c :: r' ∧ c ≠ 47 ∧ c ≠ 33 ∧ c ≠ 63
theorem nameOk_g (s : List UInt8) : NameOk (nameG s) := by
  obtain ⟨r, hr, _⟩ := nameG_cons s
  exact ⟨nameG_nm s, ok_lets (nameG_ok s), by have := (nameG_len s).2; omega, ⟨110, r, hr, by decide, by decide, by decide⟩⟩
theorem nameOk_p (s : List UInt8) : NameOk (112 :: 58 :: nameG s) :=
  ⟨nameG_p s, lets_cons (by decide) (lets_cons (by decide) (ok_lets (nameG_ok s))), by have := (nameG_len s).2; simp; omega, ⟨112, _, rfl, by decide, by decide, by decide⟩⟩
theorem lt_str (n : List UInt8) : (⟨#[60]⟩ : ByteArray) ++ str n = str (60 :: n) := str_append [60] n
def OpN (w : World) (R P : Nat) (u : Value) (wx : World) : Prop := ∃ NM, u = .string (str (60 :: NM)) ∧ NameOk NM ∧ KI w R wx ∧ wx.heap[P]? = some (.cells #[.int .i64 1, .string (str NM), .slice none 0 0, .string ⟨#[]⟩, .int .i64 0] 27 (0, 0))
theorem convC (w : World) (q : Nat) (x : Int) (hx : 0 ≤ x ∧ x < 256) (h : w.cell? ⟨q, 0, none⟩ = some (.int .u8 x)) :
    (convert 41 9 (.slice (some ⟨q, 0, none⟩) 1 1)).run Tryz.prog w = .ok (.string ⟨#[ub x]⟩) w :=
  run_convert_bytes_back _ 41 9 5 ⟨q, 0, none⟩ 1 [ub x] Tryz.underlying41 Tryz.underlying5 Tryz.underlying9 (fun j hj => by
    obtain rfl : j = 0 := by simpa using hj
    rw [show Addr.add ⟨q, 0, none⟩ 0 = ⟨q, 0, none⟩ from rfl, h]
    show some (Value.int .u8 x) = _
    rw [← ub_toNat hx]; simp [ub_toNat hx])
theorem bcell {W w1 : World} (hb : Below W.heap.size W w1) : (∀ b o, b < W.heap.size → w1.cell? ⟨b, o, none⟩ = W.cell? ⟨b, o, none⟩) ∧ (∀ b o, b < W.heap.size → w1.frozen? ⟨b, o, none⟩ = W.frozen? ⟨b, o, none⟩) :=
  ⟨fun b o h => hb.cell (p := ⟨b, o, none⟩) h, fun b o h => hb.frozen (p := ⟨b, o, none⟩) h⟩
/-- An attribute in a block of its own. -/
def AtR (wr : World) (S V : ByteArray) (u : Value) (wx : World) : Prop := ∃ A, u = .pointer (some ⟨A, 0, none⟩) ∧ wr.heap.size ≤ A ∧ wx.heap[A]? = some (.cells #[.string S, .string V] 47 (0, 0)) ∧ Below wr.heap.size wr wx
theorem atR_fin {wr W : World} {A : Nat} {S V : ByteArray} (hb : Below wr.heap.size wr W) (hA : wr.heap.size ≤ A) (h : W.heap[A]? = some (.cells #[.string ⟨#[]⟩, .string ⟨#[]⟩] 47 (0, 0))) :
    AtR wr S V (.pointer (some ⟨A, 0, none⟩)) ((W.setCell ⟨A, 0, none⟩ (.string S)).setCell ⟨A, 1, none⟩ (.string V)) :=
  ⟨A, rfl, hA, by rw [heap_set _ (heap_set _ h)]; rfl, (hb.setCell (p := ⟨A, 0, none⟩) hA _).setCell (p := ⟨A, 1, none⟩) hA _⟩
theorem AtR.alloc {wr wx : World} {S V : ByteArray} {u : Value} (h : AtR wr S V u wx) (o : Obj) : AtR wr S V u (wx.alloc o) := by
  obtain ⟨A, hu, hA, hh, hb⟩ := h
  exact ⟨A, hu, hA, (Below.heap_alloc wx o A (Array.getElem?_eq_some_iff.1 hh).1).trans hh, hb.alloc hb.size o⟩
theorem AtR.drew {wr wx : World} {S V : ByteArray} {u : Value} (h : AtR wr S V u wx) : AtR wr S V u wx.drew := by
  obtain ⟨A, hu, hA, hh, hb⟩ := h
  exact ⟨A, hu, hA, hh, hb.drew⟩
/-- The attributes of the tag that the law writes. -/
def atL (G V : List UInt8) (n : Nat) : List (List UInt8 × List UInt8) := (List.range n).map fun q => (G ++ [UInt8.ofNat (65 + q)], V)
theorem atL_succ (G V : List UInt8) (n : Nat) : atL G V (n + 1) = atL G V n ++ [(G ++ [UInt8.ofNat (65 + n)], V)] := by
  unfold atL; rw [List.range_succ]; simp
theorem atL_len (G V : List UInt8) (n : Nat) : (atL G V n).length = n := by simp [atL]
structure LpW (w : World) (R P : Nat) (NM : List UInt8) (v : Value) (A : List (List UInt8 × List UInt8)) (wx : World) : Prop where
  ki : KI w R wx
  hP : wx.heap[P]? = some (.cells #[.int .i64 1, .string (str NM), v, .string ⟨#[]⟩, .int .i64 0] 27 (0, 0))
  own : wx.ownsRow (P + 1) 47 2 v A.length (atC A)
theorem LpW.step {w : World} {R P : Nat} {NM : List UInt8} {v : Value} {A : List (List UInt8 × List UInt8)} {wx wy : World} (h : LpW w R P NM v A wx) (hb : Below wx.heap.size wx wy) : LpW w R P NM v A wy :=
  ⟨h.ki.step hb, (hb.block P (Array.getElem?_eq_some_iff.1 h.hP).1).trans h.hP, owns_only h.own (Only.of (b := P) hb) (Nat.lt_succ_self P)⟩
def LpR (w : World) (R P : Nat) (NM b G V : List UInt8) (n g : Nat) (u11 u13 : Value) (wx : World) : Prop := ∃ (i : Nat) (v : Value), i + g = n ∧ u13 = .int .i64 i ∧ u11 = .string (str (60 :: (NM ++ atsT b (atL G V i)))) ∧ LpW w R P NM v (atL G V i) wx

theorem Below.grownR {B : Nat} {w x y : World} {row : Option Nat} (h : Below B w x) (hg : x.grownBy y row) (hr : ∀ k, row = some k → B ≤ k) (hB : B ≤ x.heap.size) : Below B w y :=
  ⟨hg.os.trans h.os, hg.tape.trans h.tape, hg.output.trans h.output, Nat.le_trans h.size hg.size, fun k hk => (hg.block k (by omega) (fun e => by have := hr k e.symm; omega)).trans (h.block k hk)⟩
theorem LpW.append {w : World} {R P n : Nat} {NM : List UInt8} {w6 w7 : World} {A : List (List UInt8 × List UInt8)} {v x : Value} {o : Obj} (h : LpW w R P NM v A w6) (hR : R < P) (hw : w.heap.size = R) (a : List UInt8 × List UInt8) (hn : A.length = n)
    (hg : (w6.alloc o).grownBy w7 v.ownBlock) (hown : w7.ownsRow (P + 1) 47 2 x (n + 1) (atC A ++ [.string (str a.1), .string (str a.2)])) : LpW w R P NM x (A ++ [a]) (w7.setCell ⟨P, 2, none⟩ x) := by
  have hr : ∀ k, v.ownBlock = some k → P + 1 ≤ k := fun k hk => (h.own.lt k hk).1
  have hP : P < w6.heap.size := (Array.getElem?_eq_some_iff.1 h.hP).1
  have hsz : (w6.alloc o).heap.size = w6.heap.size + 1 := by simp
  have g : ∀ k, k ≤ P → w7.heap[k]? = w6.heap[k]? := fun k hk => (hg.block k (by omega) (fun e => by have := hr k e.symm; omega)).trans (Below.heap_alloc w6 o k (by omega))
  refine ⟨⟨?_, ?_⟩, ?_, ?_⟩
  · have h1 := (h.ki.below.alloc h.ki.below.size o)
    exact (Below.grownR h1 hg (fun k hk => by have := hr k hk; omega) (by rw [hsz]; omega)).setCell (p := ⟨P, 2, none⟩) (by show _ ≤ P; omega) x
  · rw [Below.heap_setCell _ _ _ _ (by show R ≠ P; omega), g R (by omega)]; exact h.ki.heap
  · rw [heap_set x ((g P (Nat.le_refl _)).trans h.hP)]; rfl
  · have h1 := owns_only hown (Only.set P 2 w7 x) (Nat.lt_succ_self P)
    rw [atC_snoc, List.length_append, hn]
    exact h1
theorem at_str (x b n c : List UInt8) : str x ++ (((((str b ++ str n) ++ ⟨#[61]⟩) ++ ⟨#[34]⟩) ++ str c) ++ ⟨#[34]⟩) = str (x ++ (b ++ (n ++ 61 :: 34 :: (c ++ [34])))) := by
  rw [show (⟨#[61]⟩ : ByteArray) = str [61] from rfl, show (⟨#[34]⟩ : ByteArray) = str [34] from rfl, str_append, str_append, str_append, str_append, str_append, str_append]
  simp
theorem atsT_snoc (b : List UInt8) (A : List (List UInt8 × List UInt8)) (a : List UInt8 × List UInt8) : atsT b (A ++ [a]) = atsT b A ++ (b ++ atT a.1 a.2) := by unfold atsT; simp
/-- The text of a tag grows by an attribute. -/
theorem at_next (NM b G V : List UInt8) (i : Nat) : (60 :: (NM ++ atsT b (atL G V i))) ++ (b ++ ((G ++ [UInt8.ofNat (65 + i)]) ++ 61 :: 34 :: (closeL V ++ [34]))) = 60 :: (NM ++ atsT b (atL G V (i + 1))) := by
  rw [atL_succ, atsT_snoc]; unfold atT; simp
theorem atT_len (n v : List UInt8) : (atT n v).length ≤ n.length + 3 + 6 * v.length := by
  unfold atT
  have := closeL_len v
  rw [List.length_append, List.length_cons, List.length_cons, List.length_append, List.length_singleton]; omega
theorem atsT_len (b G V : List UInt8) (hb : b.length ≤ 2) (hG : G.length ≤ 7) (hV : V.length ≤ 9) : ∀ n, (atsT b (atL G V n)).length ≤ 100 * n
  | 0 => by simp [atL, atsT]
  | n + 1 => by
    have ih := atsT_len b G V hb hG hV n
    have h := atT_len (G ++ [UInt8.ofNat (65 + n)]) V
    rw [List.length_append, List.length_singleton] at h
    rw [atL_succ, atsT_snoc, List.length_append, List.length_append]
    simp only
    omega
theorem okN_at (q : Nat) (hq : q < 3) : okN (UInt8.ofNat (65 + q)) = true := by
  match q, hq with
  | 0, _ => decide
  | 1, _ => decide
  | 2, _ => decide
  | q + 3, h => exact absurd h (by omega)
theorem bb_110 : bb 110 = false := by kernel_rfl
theorem atL_ok (s V : List UInt8) (hV : Lets V) (n : Nat) (hn : n < 4) : ∀ a ∈ atL (nameG s) V n, AtOk a ∧ Lets a.1 := by
  intro a ha
  unfold atL at ha
  obtain ⟨q, hq, rfl⟩ := List.mem_map.1 ha
  have hq3 : q < 3 := by have := List.mem_range.1 hq; omega
  have hc := okN_at q hq3
  refine ⟨⟨nameG_at s _ hc, hV, ?_⟩, ?_⟩
  · obtain ⟨r, hr, _⟩ := nameG_cons s
    exact ⟨110, r ++ [UInt8.ofNat (65 + q)], by rw [hr]; rfl, bb_110, by decide, by decide⟩
  · refine ok_lets (fun c h => ?_)
    rcases List.mem_append.1 h with h | h
    · exact nameG_ok s c h
    · rw [List.mem_singleton.1 h]; exact hc
theorem atL_pair (G V : List UInt8) (n : Nat) (hn : n < 4) : (atL G V n).Pairwise (fun x y => (x.1 == y.1) = false) := by
  unfold atL
  match n, hn with
  | 0, _ => exact .nil
  | 1, _ => simp [List.range_succ]
  | 2, _ => simp [List.range_succ]
  | 3, _ => simp [List.range_succ]
  | n + 4, h => exact absurd h (by omega)
/-- Behind the loop: what piece hands back. -/
theorem open_done {w W : World} {NM s V eb e : List UInt8} {j n : Nat} {kd : Int} {v : Value} (hNM : NameOk NM) (hV : Lets V) (hVl : V.length ≤ 9) (hn : n < 4) (he : Ends e kd) (hkd : kd = 1 ∨ kd = 3) (heb : eb = [] ∨ eb = blk j) (X : ByteArray) (hX : X = str (60 :: (NM ++ (atsT (blk j) (atL (nameG s) V n) ++ (eb ++ e)))))
    (hr : Rows W v (atL (nameG s) V n)) (hf : ∀ g o n c, v = .slice (some ⟨g, o, none⟩) n c → w.heap.size ≤ g) (hb : Below w.heap.size w W) : GivesI w (.returned (.tuple #[.agg #[.int .i64 kd, .string (str NM), v, .string ⟨#[]⟩, .int .i64 0], .string X])) W := by
  subst hX
  have hbk := blk_ok j
  have hok := atL_ok s V hV n hn
  refine ⟨_, ⟨kd, NM, atL (nameG s) V n, [], 0⟩, false, v, rfl, ?_, ⟨fun h => (by cases h), fun h => ?_⟩, rfl, by rw [atL_len]; omega, hr, hf, hb⟩
  · rw [if_neg (by show ¬ kd = 0; omega)]
    have hE : (∀ c ∈ eb, bb c = true) ∧ (∀ c ∈ eb, nb c = false) ∧ Lets eb ∧ eb.length ≤ 10 := by
      rcases heb with rfl | rfl
      · exact ⟨fun _ h => (by cases h), fun _ h => (by cases h), Lets.nil, by decide⟩
      · exact ⟨hbk.1, hbk.2.1, hbk.2.2.2.1, by have := hbk.2.2.2.2; omega⟩
    exact item_open hNM.nm hNM.lets (by have := hNM.len; omega) hNM.head hbk.1 hbk.2.1 hbk.2.2.1 hbk.2.2.2.1 hE.1 hE.2.1 hE.2.2.1 hE.2.2.2 he (fun a ha => (hok a ha).1) (fun a ha => (hok a ha).2) (atL_pair _ _ n hn) (by rw [atL_len]; omega)
      (by have := atsT_len (blk j) (nameG s) V hbk.2.2.2.2 (nameG_len s).2 hVl n; omega)
  · exact absurd h (by show ¬ kd = 4; omega)

end Go.Proofs.YtkpkekmofidajaaGreatDoor
