/-
  Documents as elements, in plain mathematics: the pieces of a text one behind the other, and what takes them, with a stack of the elements that are open.
-/
import Derived.Test.YtekmenkebokdoaaGreatDoorScanMathA
import Derived.Test.YtekmenkebokdoaaGreatDoorScanMathB
import Derived.Test.YtekmenkebokdoaaGreatDoorSpaceName
namespace Go.Proofs.YtekmenkebokdoaaGreatDoor
open Go.Lib
set_option maxRecDepth 100000

/-! ### the pieces, one behind the other -/
/-- What comes next: something wrong, the end, or a piece. -/
inductive Tok where
  | bad (e a : Int)
  | fin (a : Int)
  | pc (p : Pc)
def tokS (D : List UInt8) (σ : St) : Tok :=
  if (nextS D σ).err = 0 then (if (nextP D σ).kind = 0 then .fin (nextS D σ).pos else .pc (nextP D σ)) else .bad (nextS D σ).err (nextS D σ).wrg
def toksF : Nat → List UInt8 → St → List Tok
  | 0, _, _ => []
  | f + 1, D, σ => match tokS D σ with
    | .pc p => .pc p :: toksF f D (nextS D σ)
    | .fin a => [.fin a]
    | .bad e a => [.bad e a]
def toks (D : List UInt8) (σ : St) : List Tok := toksF (D.length - σ.pos + 1) D σ
/-- Fine, or something that was wrong at the very beginning. -/
def Scn (n : Nat) (σ : St) : Prop := Fine n σ ∨ ((σ.err = 2 ∨ σ.err = 5) ∧ σ.pos ≤ n ∧ 0 ≤ σ.wrg ∧ σ.wrg ≤ n)
theorem Scn.pos {n : Nat} {σ : St} (h : Scn n σ) : σ.pos ≤ n := by rcases h with h | h; exact h.pos; exact h.2.1
theorem Scn.err_or {n : Nat} {σ : St} (h : Scn n σ) : σ.err = 0 ∨ σ.err = 2 ∨ σ.err = 3 ∨ σ.err = 5 ∨ σ.err = 7 := by
  rcases h with h | h
  · rcases h.err with h | h | h <;> simp [h]
  · rcases h.1 with h | h <;> simp [h]
theorem Scn.wrg {n : Nat} {σ : St} (h : Scn n σ) : 0 ≤ σ.wrg ∧ σ.wrg ≤ n := by rcases h with h | h; exact ⟨h.lo, h.hi⟩; exact h.2.2
theorem next_bad (D : List UInt8) (σ : St) (h : σ.err ≠ 0) : nextS D σ = σ ∧ nextP D σ = pc0 := (next_err D σ h).symm
theorem next_scn (D : List UInt8) (σ : St) (h : Scn D.length σ) : Scn D.length (nextS D σ) ∧ ((nextP D σ).kind = 0 → (nextS D σ).err = 0 → (nextS D σ).pos = D.length) ∧
    ((nextP D σ).kind ≠ 0 → (σ.pos : Int) ≤ (nextP D σ).at_ ∧ (nextP D σ).at_ < (nextS D σ).pos ∧ (nextP D σ).at_ < D.length) := by
  rcases h with h | h
  · have hn := next_any D σ (.inl h)
    refine ⟨?_, hn.2⟩
    rcases hn.1 with h1 | ⟨h1, h2⟩
    · exact .inl h1
    · exact .inr ⟨.inl h1, h2⟩
  · have he : σ.err ≠ 0 := by rcases h.1 with h | h <;> rw [h] <;> decide
    rw [(next_bad D σ he).1, (next_bad D σ he).2]
    exact ⟨.inr h, fun _ h0 => absurd h0 he, fun hk => absurd rfl hk⟩
theorem new_scn (D : List UInt8) : Scn D.length (newS D) := by
  by_cases h : 200000 < D.length
  · unfold newS; rw [if_pos h]; exact .inr ⟨.inr rfl, Nat.zero_le _, by show (0 : Int) ≤ 200000; decide, by show (200000 : Int) ≤ _; omega⟩
  · rcases (new_any D (by omega)).1 with h1 | ⟨h1, h2⟩
    · exact .inl h1
    · exact .inr ⟨.inl h1, h2⟩
theorem tok_pc {D : List UInt8} {σ : St} (h0 : (nextS D σ).err = 0) (h1 : (nextP D σ).kind ≠ 0) : tokS D σ = .pc (nextP D σ) := by unfold tokS; rw [if_pos h0, if_neg h1]
theorem tok_fin {D : List UInt8} {σ : St} (h0 : (nextS D σ).err = 0) (h1 : (nextP D σ).kind = 0) : tokS D σ = .fin (nextS D σ).pos := by unfold tokS; rw [if_pos h0, if_pos h1]
theorem tok_bad {D : List UInt8} {σ : St} (h0 : (nextS D σ).err ≠ 0) : tokS D σ = .bad (nextS D σ).err (nextS D σ).wrg := by unfold tokS; rw [if_neg h0]
theorem toks_fuel (D : List UInt8) : ∀ (f k : Nat) (σ : St), Scn D.length σ → D.length - σ.pos < f → D.length - σ.pos < k → toksF f D σ = toksF k D σ
  | 0, _, _, _, h, _ => absurd h (Nat.not_lt_zero _)
  | _, 0, _, _, _, h => absurd h (Nat.not_lt_zero _)
  | f + 1, k + 1, σ, hs, hf, hk => by
    unfold toksF
    have hn := next_scn D σ hs
    cases ht : tokS D σ with
    | bad e a => rfl
    | fin a => rfl
    | pc p =>
      have hk0 : (nextP D σ).kind ≠ 0 := by
        intro h0
        by_cases he : (nextS D σ).err = 0
        · rw [tok_fin he h0] at ht; cases ht
        · rw [tok_bad he] at ht; cases ht
      have h3 := hn.2.2 hk0
      have hp := hn.1.pos
      show Tok.pc p :: _ = Tok.pc p :: _
      rw [toks_fuel D f k (nextS D σ) hn.1 (by omega) (by omega)]
theorem toks_pc {D : List UInt8} {σ : St} (hs : Scn D.length σ) (h0 : (nextS D σ).err = 0) (h1 : (nextP D σ).kind ≠ 0) : toks D σ = .pc (nextP D σ) :: toks D (nextS D σ) := by
  have hn := next_scn D σ hs
  have h3 := hn.2.2 h1
  have hp := hn.1.pos
  unfold toks
  rw [toksF, tok_pc h0 h1]
  show Tok.pc _ :: _ = Tok.pc _ :: _
  rw [toks_fuel D (D.length - σ.pos) (D.length - (nextS D σ).pos + 1) (nextS D σ) hn.1 (by omega) (by omega)]
theorem toks_fin {D : List UInt8} {σ : St} (h0 : (nextS D σ).err = 0) (h1 : (nextP D σ).kind = 0) : toks D σ = [.fin (nextS D σ).pos] := by unfold toks; rw [toksF, tok_fin h0 h1]
theorem toks_bad {D : List UInt8} {σ : St} (h0 : (nextS D σ).err ≠ 0) : toks D σ = [.bad (nextS D σ).err (nextS D σ).wrg] := by unfold toks; rw [toksF, tok_bad h0]

/-! ### what takes them -/
/-- An element. -/
inductive Nd where
  | mk (sp nm : ByteArray) (A : List Att) (K : List Nd) (tx : ByteArray)
/-- An element that is open: what opened it, where; where its name is from, and its rest; its attributes, its elements and its text so far; what was known ahead of it. -/
structure Fr where
  tag : List UInt8
  at_ : Int
  sp : ByteArray
  nm : ByteArray
  A : List Att
  K : List Nd
  tx : List UInt8
  L : List Tell
inductive Ph where
  | before
  | inside (F : Fr) (S : List Fr)
  | behind (x : Nd)
/-- What comes of it: an error and where, or something. -/
inductive Res (α : Type) where
  | bad (e a : Int)
  | ok (x : α)
def Res.on {α β : Type} : Res α → (α → Res β) → Res β
  | .bad e a, _ => .bad e a
  | .ok x, f => f x
def toAtt (A : List (List UInt8 × List UInt8)) : List Att := A.map fun a => (str a.1, str a.2)
def attsOk (A : List Att) : Bool := A.all fun a => nameL (bl a.1)
def enterC (p : Pc) (Z : List Att × Int × List Tell) (N : ByteArray × ByteArray × Bool) (L : List Tell) : Res (Fr × List Tell) :=
  if Z.2.1 = 0 then (if N.2.2 = true then (if attsOk Z.1 = true then .ok (⟨p.name, p.at_, N.1, N.2.1, Z.1, [], [], L⟩, Z.2.2) else .bad 3 p.at_) else .bad 3 p.at_) else .bad Z.2.1 p.at_
def enterR (p : Pc) (d : Nat) (L : List Tell) (c : Nat) : Res (Fr × List Tell) :=
  if c < 2000 then (if d < 32 then enterC p (enterL (d + 1) (toAtt p.attrs) [] L) (nameSp (enterL (d + 1) (toAtt p.attrs) [] L).2.2 (str p.name)) L else .bad 4 p.at_) else .bad 5 p.at_
def shut (F : Fr) : Res Nd := if trimL F.tx = [] ∨ F.K = [] then .ok (.mk F.sp F.nm F.A F.K (str (trimL F.tx))) else .bad 3 F.at_
def give (x : Nd) : List Fr → Ph
  | [] => .behind x
  | F :: S => .inside { F with K := F.K ++ [x] } S
abbrev Mach := Ph × List Tell × Nat
def opn (p : Pc) (S : List Fr) (L : List Tell) (c : Nat) : Res Mach :=
  (enterR p S.length L c).on fun E => if p.kind = 1 then .ok (.inside E.1 S, E.2, c + 1) else .ok (give (.mk E.1.sp E.1.nm E.1.A [] (str [])) S, L, c + 1)
def opens (p : Pc) : Prop := p.kind = 1 ∨ p.kind = 3
instance (p : Pc) : Decidable (opens p) := by unfold opens; exact inferInstance
def blankP (p : Pc) : Prop := p.kind = 4 ∧ trimL p.text = []
instance (p : Pc) : Decidable (blankP p) := by unfold blankP; exact inferInstance
def step (p : Pc) : Mach → Res Mach
  | (.before, L, c) => if blankP p then .ok (.before, L, c) else if opens p then opn p [] L c else .bad 3 p.at_
  | (.inside F S, L, c) =>
    if p.kind = 2 then (if p.name = F.tag then (shut F).on fun x => .ok (give x S, F.L, c) else .bad 3 p.at_)
    else if opens p then opn p (F :: S) L c else .ok (.inside { F with tx := F.tx ++ p.text } S, L, c)
  | (.behind x, L, c) => if blankP p then .ok (.behind x, L, c) else .bad 3 p.at_
def run : List Tok → Mach → Res Nd
  | [], _ => .bad 0 0
  | .bad e a :: _, _ => .bad e a
  | .fin _ :: _, (.before, _, _) => .bad 3 0
  | .fin a :: _, (.inside _ _, _, _) => .bad 3 a
  | .fin _ :: _, (.behind x, _, _) => .ok x
  | .pc p :: ts, m => (step p m).on fun m' => run ts m'
/-- **Parse**, in plain mathematics. -/
def parseL (D : List UInt8) : Res Nd := run (toks D (newS D)) (.before, tells0, 0)
/-- What is to be done with the pieces from a place on. -/
def runAt (D : List UInt8) (σ : St) (m : Mach) : Res Nd := run (toks D σ) m
theorem runAt_pc {D : List UInt8} {σ : St} (hs : Scn D.length σ) (h0 : (nextS D σ).err = 0) (h1 : (nextP D σ).kind ≠ 0) (m : Mach) : runAt D σ m = (step (nextP D σ) m).on fun m' => runAt D (nextS D σ) m' := by
  unfold runAt; rw [toks_pc hs h0 h1]; rfl
theorem runAt_bad {D : List UInt8} {σ : St} (h0 : (nextS D σ).err ≠ 0) (m : Mach) : runAt D σ m = .bad (nextS D σ).err (nextS D σ).wrg := by
  unfold runAt; rw [toks_bad h0]; obtain ⟨ph, L, c⟩ := m; cases ph <;> rfl

theorem awake06a : parseL [60, 97, 62, 32, 98, 32, 60, 47, 97, 62] = .ok (.mk ⟨#[]⟩ ⟨#[97]⟩ [] [] ⟨#[98]⟩) := by kernel_rfl
theorem awake06b : parseL [60, 97, 62, 60, 98, 62, 60, 47, 97, 62] = .bad 3 6 := by kernel_rfl

end Go.Proofs.YtekmenkebokdoaaGreatDoor
