/-
  Documents as elements, in plain mathematics: the pieces of a text one behind the other, and what takes them, with a stack of the elements that are open.
  What holds of pieces, and of what is known, always: how long they are; plain mathematics.
  Elements as documents, as galliardref06.Text writes them, and that the machine takes them as what they are; plain mathematics.
  An element's text is taken as that element, wherever it stands; plain mathematics.
  What says nothing around an element, and that a document is read as the element that it was written of; plain mathematics.
  Elements of few parts: how many, how deep, how long their texts are; trimmed texts; plain mathematics.
  The walks of strconv.ParseUint at eight digits at most, base 10 and base 16, and of entity.numbered.
  The walk of entity.One.
-/
import Derived.Test.YtincdacickhdkaaDoorM4
import Derived.Test.YtincdacickhdkaaDoorM2
import Derived.Test.YtincdacickhdkaaDoorM1
import Derived.Lib.ConvBytes
import Derived.Lib.ParseIntBMem
import Derived.Laws.Strings3
import Derived.Laws.Closers25
import Derived.Laws.Closers25b
import Derived.BigCall
import Derived.BigGuard
import Derived.Lib.IfaceEq
import Derived.Deep.LoopGhost
import Derived.Laws.Rows
namespace Go.Proofs.YtincdacickhdkaaDoor
open Go.Lib
set_option maxRecDepth 100000

/-! ### the pieces, one behind the other -/
/-- What comes next: something wrong, the end, or a piece. -/
inductive Tok where
  | bad (e a : Int)
  | fin (a : Int)
  | pc (p : Pc)
def tokS (D : List UInt8) (σ : St) : Tok :=
  if (nextS D σ).err = 0 then (if (nextP D σ).kind = 0 then .fin (nextS D σ).pos else .pc (nextP D σ)) else .bad (nextS D σ).err (nextS D σ).wrg
def toksF : Nat → List UInt8 → St → List Tok
  | 0, _, _ => []
  | f + 1, D, σ => match tokS D σ with
    | .pc p => .pc p :: toksF f D (nextS D σ)
    | .fin a => [.fin a]
    | .bad e a => [.bad e a]
def toks (D : List UInt8) (σ : St) : List Tok := toksF (D.length - σ.pos + 1) D σ
/-- Fine, or something that was wrong at the very beginning. -/
def Scn (n : Nat) (σ : St) : Prop := Fine n σ ∨ ((σ.err = 2 ∨ σ.err = 5) ∧ σ.pos ≤ n ∧ 0 ≤ σ.wrg ∧ σ.wrg ≤ n)
theorem Scn.pos {n : Nat} {σ : St} (h : Scn n σ) : σ.pos ≤ n := by rcases h with h | h; exact h.pos; exact h.2.1
theorem Scn.wrg {n : Nat} {σ : St} (h : Scn n σ) : 0 ≤ σ.wrg ∧ σ.wrg ≤ n := by rcases h with h | h; exact ⟨h.lo, h.hi⟩; exact h.2.2
theorem next_bad (D : List UInt8) (σ : St) (h : σ.err ≠ 0) : nextS D σ = σ ∧ nextP D σ = pc0 := (next_err D σ h).symm
theorem next_scn (D : List UInt8) (σ : St) (h : Scn D.length σ) : Scn D.length (nextS D σ) ∧ ((nextP D σ).kind = 0 → (nextS D σ).err = 0 → (nextS D σ).pos = D.length) ∧
    ((nextP D σ).kind ≠ 0 → (σ.pos : Int) ≤ (nextP D σ).at_ ∧ (nextP D σ).at_ < (nextS D σ).pos ∧ (nextP D σ).at_ < D.length) := by
  rcases h with h | h
  · have hn := next_any D σ (.inl h)
    refine ⟨?_, hn.2⟩
    rcases hn.1 with h1 | ⟨h1, h2⟩
    · exact .inl h1
    · exact .inr ⟨.inl h1, h2⟩
  · have he : σ.err ≠ 0 := by rcases h.1 with h | h <;> rw [h] <;> decide
    rw [(next_bad D σ he).1, (next_bad D σ he).2]
    exact ⟨.inr h, fun _ h0 => absurd h0 he, fun hk => absurd rfl hk⟩
theorem tok_pc {D : List UInt8} {σ : St} (h0 : (nextS D σ).err = 0) (h1 : (nextP D σ).kind ≠ 0) : tokS D σ = .pc (nextP D σ) := by unfold tokS; rw [if_pos h0, if_neg h1]
theorem tok_fin {D : List UInt8} {σ : St} (h0 : (nextS D σ).err = 0) (h1 : (nextP D σ).kind = 0) : tokS D σ = .fin (nextS D σ).pos := by unfold tokS; rw [if_pos h0, if_pos h1]
theorem tok_bad {D : List UInt8} {σ : St} (h0 : (nextS D σ).err ≠ 0) : tokS D σ = .bad (nextS D σ).err (nextS D σ).wrg := by unfold tokS; rw [if_neg h0]
theorem toks_fuel (D : List UInt8) : ∀ (f k : Nat) (σ : St), Scn D.length σ → D.length - σ.pos < f → D.length - σ.pos < k → toksF f D σ = toksF k D σ
  | 0, _, _, _, h, _ => absurd h (Nat.not_lt_zero _)
  | _, 0, _, _, _, h => absurd h (Nat.not_lt_zero _)
  | f + 1, k + 1, σ, hs, hf, hk => by
    unfold toksF
    have hn := next_scn D σ hs
    cases ht : tokS D σ with
    | bad e a => rfl
    | fin a => rfl
    | pc p =>
      have hk0 : (nextP D σ).kind ≠ 0 := by
        intro h0
        by_cases he : (nextS D σ).err = 0
        · rw [tok_fin he h0] at ht; cases ht
        · rw [tok_bad he] at ht; cases ht
      have h3 := hn.2.2 hk0
      have hp := hn.1.pos
      show Tok.pc p :: _ = Tok.pc p :: _
      rw [toks_fuel D f k (nextS D σ) hn.1 (by omega) (by omega)]
theorem toks_pc {D : List UInt8} {σ : St} (hs : Scn D.length σ) (h0 : (nextS D σ).err = 0) (h1 : (nextP D σ).kind ≠ 0) : toks D σ = .pc (nextP D σ) :: toks D (nextS D σ) := by
  have hn := next_scn D σ hs
  have h3 := hn.2.2 h1
  have hp := hn.1.pos
  unfold toks
  rw [toksF, tok_pc h0 h1]
  show Tok.pc _ :: _ = Tok.pc _ :: _
  rw [toks_fuel D (D.length - σ.pos) (D.length - (nextS D σ).pos + 1) (nextS D σ) hn.1 (by omega) (by omega)]
/-! ### what takes them -/
/-- An element. -/
inductive Nd where
  | mk (sp nm : ByteArray) (A : List Att) (K : List Nd) (tx : ByteArray)
/-- An element that is open: what opened it, where; where its name is from, and its rest; its attributes, its elements and its text so far; what was known ahead of it. -/
structure Fr where
  tag : List UInt8
  at_ : Int
  sp : ByteArray
  nm : ByteArray
  A : List Att
  K : List Nd
  tx : List UInt8
  L : List Tell
inductive Ph where
  | before
  | inside (F : Fr) (S : List Fr)
  | behind (x : Nd)
/-- What comes of it: an error and where, or something. -/
inductive Res (α : Type) where
  | bad (e a : Int)
  | ok (x : α)
def Res.on {α β : Type} : Res α → (α → Res β) → Res β
  | .bad e a, _ => .bad e a
  | .ok x, f => f x
def toAtt (A : List (List UInt8 × List UInt8)) : List Att := A.map fun a => (str a.1, str a.2)
def attsOk (A : List Att) : Bool := A.all fun a => nameL (bl a.1)
def enterC (p : Pc) (Z : List Att × Int × List Tell) (N : ByteArray × ByteArray × Bool) (L : List Tell) : Res (Fr × List Tell) :=
  if Z.2.1 = 0 then (if N.2.2 = true then (if attsOk Z.1 = true then .ok (⟨p.name, p.at_, N.1, N.2.1, Z.1, [], [], L⟩, Z.2.2) else .bad 3 p.at_) else .bad 3 p.at_) else .bad Z.2.1 p.at_
def enterR (p : Pc) (d : Nat) (L : List Tell) (c : Nat) : Res (Fr × List Tell) :=
  if c < 2000 then (if d < 32 then enterC p (enterL (d + 1) (toAtt p.attrs) [] L) (nameSp (enterL (d + 1) (toAtt p.attrs) [] L).2.2 (str p.name)) L else .bad 4 p.at_) else .bad 5 p.at_
def shut (F : Fr) : Res Nd := if trimL F.tx = [] ∨ F.K = [] then .ok (.mk F.sp F.nm F.A F.K (str (trimL F.tx))) else .bad 3 F.at_
def give (x : Nd) : List Fr → Ph
  | [] => .behind x
  | F :: S => .inside { F with K := F.K ++ [x] } S
abbrev Mach := Ph × List Tell × Nat
def opn (p : Pc) (S : List Fr) (L : List Tell) (c : Nat) : Res Mach :=
  (enterR p S.length L c).on fun E => if p.kind = 1 then .ok (.inside E.1 S, E.2, c + 1) else .ok (give (.mk E.1.sp E.1.nm E.1.A [] (str [])) S, L, c + 1)
def opens (p : Pc) : Prop := p.kind = 1 ∨ p.kind = 3
instance (p : Pc) : Decidable (opens p) := by unfold opens; exact inferInstance
def blankP (p : Pc) : Prop := p.kind = 4 ∧ trimL p.text = []
instance (p : Pc) : Decidable (blankP p) := by unfold blankP; exact inferInstance
def step (p : Pc) : Mach → Res Mach
  | (.before, L, c) => if blankP p then .ok (.before, L, c) else if opens p then opn p [] L c else .bad 3 p.at_
  | (.inside F S, L, c) =>
    if p.kind = 2 then (if p.name = F.tag then (shut F).on fun x => .ok (give x S, F.L, c) else .bad 3 p.at_)
    else if opens p then opn p (F :: S) L c else .ok (.inside { F with tx := F.tx ++ p.text } S, L, c)
  | (.behind x, L, c) => if blankP p then .ok (.behind x, L, c) else .bad 3 p.at_
def run : List Tok → Mach → Res Nd
  | [], _ => .bad 0 0
  | .bad e a :: _, _ => .bad e a
  | .fin _ :: _, (.before, _, _) => .bad 3 0
  | .fin a :: _, (.inside _ _, _, _) => .bad 3 a
  | .fin _ :: _, (.behind x, _, _) => .ok x
  | .pc p :: ts, m => (step p m).on fun m' => run ts m'
/-- What is to be done with the pieces from a place on. -/
def runAt (D : List UInt8) (σ : St) (m : Mach) : Res Nd := run (toks D σ) m
theorem runAt_pc {D : List UInt8} {σ : St} (hs : Scn D.length σ) (h0 : (nextS D σ).err = 0) (h1 : (nextP D σ).kind ≠ 0) (m : Mach) : runAt D σ m = (step (nextP D σ) m).on fun m' => runAt D (nextS D σ) m' := by
  unfold runAt; rw [toks_pc hs h0 h1]; rfl
end Go.Proofs.YtincdacickhdkaaDoor

namespace Go.Proofs.YtincdacickhdkaaDoor
open Go.Lib
set_option maxRecDepth 100000

/-! ### Enter -/
/-! ### how long what a piece says is -/
/-- What a piece says is no longer than its text, but for letters that are written as names. -/
structure PcOk (n : Nat) (p : Pc) : Prop where
  few : p.attrs.length ≤ 16
  name : p.name.length ≤ n
  text : p.text.length ≤ 4 * n
  atts : ∀ a ∈ p.attrs, a.1.length ≤ n
/-! ### a place in a text, with what is known there -/
structure Pu (D : List UInt8) (σ : St) (d : Nat) (L : List Tell) (c : Nat) : Prop where
  scn : Scn D.length σ
  small : σ.err = 0 → D.length ≤ 200000
  dep : ∀ t ∈ L, t.d ≤ d
  few : L.length ≤ 100
  cnt : c ≤ 2000
  lim : d ≤ 32
theorem next_err0 {D : List UInt8} {σ : St} (h : (nextS D σ).err = 0) : σ.err = 0 := by
  by_cases he : σ.err = 0
  · exact he
  · rw [(next_bad D σ he).1] at h; exact h
theorem Pu.next {D : List UInt8} {σ : St} {d : Nat} {L : List Tell} {c : Nat} (h : Pu D σ d L c) : Pu D (nextS D σ) d L c :=
  ⟨(next_scn D σ h.scn).1, fun he => h.small (next_err0 he), h.dep, h.few, h.cnt, h.lim⟩
/-- A piece that was taken. -/
structure Took (D : List UInt8) (σ : St) (p : Pc) : Prop where
  err : σ.err = 0
  ok : PcOk D.length p
  zero : p.kind = 0 → p = pc0 ∧ σ.pos = D.length
end Go.Proofs.YtincdacickhdkaaDoor

namespace Go.Proofs.YtincdacickhdkaaDoor
open Go Go.RowKit Go.Lib
set_option maxRecDepth 100000

theorem step_in (p : Pc) (F : Fr) (S : List Fr) (L : List Tell) (c : Nat) : step p (.inside F S, L, c) =
    if p.kind = 2 then (if p.name = F.tag then (shut F).on fun x => .ok (give x S, F.L, c) else .bad 3 p.at_)
    else if opens p then opn p (F :: S) L c else .ok (.inside { F with tx := F.tx ++ p.text } S, L, c) := rfl
theorem P_scn {D : List UInt8} {p : Nat} (h : p ≤ D.length) : Scn D.length (P_ p) := .inl ⟨h, .inl rfl, Int.le_refl _, by show (0 : Int) ≤ _; omega⟩
theorem drop_le {D x r : List UInt8} {p : Nat} (h : D.drop p = x ++ r) (hx : x ≠ []) : p + x.length ≤ D.length := by
  have := congrArg List.length h
  rw [List.length_drop, List.length_append] at this
  have h0 : x.length ≠ 0 := fun e => hx (List.eq_nil_of_length_eq_zero e)
  omega
/-- A piece that stands at a place, and what is behind it. -/
theorem run_piece {D : List UInt8} {p q : Nat} {Q : Pc} (hp : p ≤ D.length) (h : nextP D (P_ p) = Q ∧ nextS D (P_ p) = P_ q) (hk : Q.kind ≠ 0) (m : Mach) : runAt D (P_ p) m = (step Q m).on fun m' => runAt D (P_ q) m' := by
  rw [runAt_pc (P_scn hp) (by rw [h.2]; rfl) (by rw [h.1]; exact hk), h.1, h.2]
/-! ### how many, how deep -/
def Nd.kids : Nd → List Nd
  | .mk _ _ _ K _ => K
mutual
def Nd.count : Nd → Nat
  | .mk _ _ _ K _ => 1 + countK K
def countK : List Nd → Nat
  | [] => 0
  | x :: r => x.count + countK r
end
mutual
def Nd.depth : Nd → Nat
  | .mk _ _ _ K _ => 1 + depthK K
def depthK : List Nd → Nat
  | [] => 0
  | x :: r => max x.depth (depthK r)
end
theorem depth_kids : ∀ x : Nd, x.depth = 1 + depthK x.kids
  | .mk _ _ _ _ _ => by simp [Nd.depth, Nd.kids]
end Go.Proofs.YtincdacickhdkaaDoor
namespace Go.Proofs.YtincdacickhdkaaDoor
open Go Go.RowKit Go.Lib
set_option maxRecDepth 100000

def bXm : List UInt8 := [120, 109, 108, 110, 115]
/-- The attributes of an element's tag: what it tells of the space, and its own. -/
def tagA (s sp : ByteArray) (A : List Att) : List (List UInt8 × List UInt8) := (if s = sp then [] else [(bXm, bl s)]) ++ A.map fun a => (bl a.1, bl a.2)
mutual
/-- An element's text, from its < to its >. -/
def bodyT : Nd → ByteArray → List UInt8 → List UInt8
  | .mk s n A K t, sp, pad =>
    60 :: (bl n ++ (atsT [32] (tagA s sp A) ++
      (if K.isEmpty = true then (if bl t = [] then [47, 62] else 62 :: (closeL (bl t) ++ (60 :: 47 :: (bl n ++ [62]))))
       else 62 :: (kidsT K s (pad ++ [32]) ++ (10 :: (pad ++ (60 :: 47 :: (bl n ++ [62]))))))))
def kidsT : List Nd → ByteArray → List UInt8 → List UInt8
  | [], _, _ => []
  | k :: r, s, pad => 10 :: (pad ++ (bodyT k s pad ++ kidsT r s pad))
end
/-- The text of galliardref06.Text. -/
def textT (x : Nd) (sp : ByteArray) (pad : List UInt8) : List UInt8 := pad ++ (bodyT x sp pad ++ [10])
/-- An element that galliardref06.Near makes. -/
inductive NearN : Nd → Prop where
  | mk (s n t : ByteArray) (A : List Att) (K : List Nd) (hn : ∃ r, bl n = 110 :: r) (hn2 : ∀ c ∈ bl n, okN c = true) (hnl : (bl n).length ≤ 40) (hs : Lets (bl s)) (ht : Lets (bl t)) (htr : trimL (bl t) = bl t)
    (hA : ∀ a ∈ A, (∃ r, bl a.1 = 110 :: r) ∧ (∀ c ∈ bl a.1, okN c = true) ∧ (bl a.1).length ≤ 40 ∧ Lets (bl a.2)) (hAd : A.Pairwise (fun x y => (bl x.1 == bl y.1) = false)) (hAl : A.length ≤ 15)
    (hKt : K = [] ∨ bl t = []) (hK : ∀ k ∈ K, NearN k) : NearN (.mk s n A K t)
/-- A text of blanks. -/
theorem blanks_lets {l : List UInt8} (h : ∀ c ∈ l, c = 32 ∨ c = 10) : Lets l := by
  induction l with
  | nil => exact Lets.nil
  | cons c l ih =>
    have h1 : Lets [c] := by
      rcases h c (List.mem_cons_self ..) with rfl | rfl
      · exact ⟨[32], by decide, by kernel_rfl⟩
      · exact ⟨[10], by decide, by kernel_rfl⟩
    exact h1.append (ih fun x hx => h x (List.mem_cons_of_mem _ hx))
theorem openF_plain : ∀ (f : Nat) (l done : List UInt8) (a : Nat), l.length ≤ f → (∀ c ∈ l, c ≠ 38) → openF f l done a = (done ++ l, -1)
  | 0, [], done, a, _, _ => by unfold openF; simp
  | 0, c :: l, done, a, h, _ => absurd h (by simp)
  | f + 1, [], done, a, _, _ => by unfold openF; simp
  | f + 1, c :: l, done, a, h, hc => by
    unfold openF
    rw [if_pos (hc c (List.mem_cons_self ..)), openF_plain f l (done ++ [c]) (a + 1) (by simp at h; omega) (fun x hx => hc x (List.mem_cons_of_mem _ hx))]
    simp
theorem openL_plain {l : List UInt8} (hc : ∀ c ∈ l, c ≠ 38) : openL l = (l, -1) := by
  unfold openL; rw [openF_plain _ l [] 0 (Nat.le_refl _) hc]; rfl
/-- A text in which nothing is written as a name. -/
theorem text_raw {D v r : List UInt8} {p : Nat} (hv : Lets v) (hv0 : v ≠ []) (hc : ∀ c ∈ v, c ≠ 60 ∧ c ≠ 38) (hr : r = [] ∨ ∃ r', r = 60 :: r') (hd : D.drop p = v ++ r) :
    nextP D (P_ p) = ⟨4, [], [], v, p⟩ ∧ nextS D (P_ p) = P_ (p + v.length) := by
  obtain ⟨c, t, hct⟩ : ∃ c t, v = c :: t := by
    cases v with
    | nil => exact absurd rfl hv0
    | cons x v => exact ⟨x, v, rfl⟩
  have hc60 : c ≠ 60 := (hc c (by rw [hct]; exact List.mem_cons_self ..)).1
  have hd' : D.drop p = c :: (t ++ r) := by rw [hd, hct]; rfl
  refine next_on (Q := ⟨4, [], [], v, 0⟩) hd' (.inl hc60) ?_
  have hraw := (bcom_no hd' (.inl hc60)).2.2
  have hrun := run_on (h := tb) hd (fun x hx => by have := (hc x hx).1; unfold tb; simp [this]) (by rcases hr with rfl | ⟨r', rfl⟩; exact .inl rfl; exact Stops.cons tb_60)
  have ho : openedS v ((P_ p).pos : Int) (P_ (p + v.length)) = P_ (p + v.length) := by
    unfold openedS lettersS
    rw [hv.text, openL_plain (fun x hx => (hc x hx).2), if_neg (show ¬ 0 ≤ (-1 : Int) by decide), if_neg (show ¬ 0 ≤ (-1 : Int) by decide)]
  unfold pieceR
  rw [if_neg (by rw [hraw]; decide), if_neg (by rw [show standsS [60, 47] D (P_ p) = false from stands_no (x := [47]) hd' (fun e => hc60 e.symm)]; decide), if_neg (by rw [show standsS [60] D (P_ p) = false from stands_no (x := []) hd' (fun e => hc60 e.symm)]; decide)]
  unfold textS
  rw [hrun.1, hrun.2, ho, openL_plain (fun x hx => (hc x hx).2)]
/-- Blanks within an element are taken as text. -/
theorem run_blanks {D v r : List UInt8} {p : Nat} (hv : ∀ c ∈ v, c = 32 ∨ c = 10) (hv0 : v ≠ []) (hd : D.drop p = v ++ 60 :: r) (F : Fr) (S : List Fr) (L : List Tell) (c : Nat) :
    runAt D (P_ p) (.inside F S, L, c) = runAt D (P_ (p + v.length)) (.inside { F with tx := F.tx ++ v } S, L, c) := by
  have hp := drop_le hd hv0
  have h := text_raw (D := D) (v := v) (r := 60 :: r) (p := p) (blanks_lets hv) hv0 (fun x hx => by rcases hv x hx with rfl | rfl <;> decide) (.inr ⟨_, rfl⟩) hd
  rw [run_piece (by omega) h (show (4 : Int) ≠ 0 by decide), step_in, if_neg (show ¬ (4 : Int) = 2 by decide), if_neg (by rintro (h | h) <;> exact absurd (show (4 : Int) = _ from h) (by decide))]
  rfl
theorem trim_blanks {l : List UInt8} (hl : ∀ c ∈ l, c = 32 ∨ c = 10) : trimL l = [] := by
  have h := trim_cut l l.length l.length (Nat.le_refl _) (Nat.le_refl _) (fun j hj => by
    have hm := hl _ (List.getElem_mem hj)
    have e : nth l j = (l[j]'hj).toNat := by unfold nth; simp [List.getD, hj]
    rw [e]
    rcases hm with hm | hm <;> rw [hm] <;> decide) (fun h => absurd h (Nat.lt_irrefl _)) (fun j h1 h2 => by omega) (fun h => absurd h (Nat.lt_irrefl _))
  rw [h]
  simp

/-! ### what a tag says -/
theorem str_bl_ (s : ByteArray) : str (bl s) = s := by cases s; rfl
theorem toAtt_tag (s sp : ByteArray) (A : List Att) : toAtt (tagA s sp A) = (if s = sp then [] else [(bXmlns, s)]) ++ A := by
  have hA : (A.map fun a => (bl a.1, bl a.2)).map (fun a => (str a.1, str a.2)) = A := by
    rw [List.map_map]
    conv => rhs; rw [← List.map_id A]
    refine List.map_congr_left fun a _ => ?_
    show (str (bl a.1), str (bl a.2)) = a
    rw [str_bl_, str_bl_]
  unfold toAtt tagA
  rw [List.map_append, hA]
  split
  · rfl
  · show [(str bXm, str (bl s))] ++ A = _
    rw [str_bl_]; rfl
theorem tell_n {n : ByteArray} (h : ∃ r, bl n = 110 :: r) : (tellS n).2 = false := by
  obtain ⟨r, hr⟩ := h
  have hne : n ≠ bXmlns := fun e => by rw [e] at hr; exact absurd (congrArg (List.head? ·) hr) (by show ¬ some (120 : UInt8) = some 110; decide)
  unfold tellS
  rw [if_neg hne]
  show Lib.hasPrefix n.data.toList _ = false
  rw [show n.data.toList = 110 :: r from hr]
  rfl
theorem enter_own (d : Nat) (L : List Tell) : ∀ (A R : List Att), (∀ a ∈ A, ∃ r, bl a.1 = 110 :: r) → enterL d A R L = (R ++ A, 0, L)
  | [], R, _ => by simp [enterL]
  | a :: A, R, h => by
    unfold enterL
    rw [if_pos (tell_n (h a (List.mem_cons_self ..))), enter_own d L A (R ++ [a]) fun x hx => h x (List.mem_cons_of_mem _ hx)]
    simp
def newL (s sp : ByteArray) (d : Nat) : List Tell := if s = sp then [] else [⟨bNone, s, d⟩]
theorem enter_tag (s sp : ByteArray) (A : List Att) (d : Nat) (L : List Tell) (hL : L.length < 100) (hA : ∀ a ∈ A, ∃ r, bl a.1 = 110 :: r) : enterL d (toAtt (tagA s sp A)) [] L = (A, 0, L ++ newL s sp d) := by
  rw [toAtt_tag]
  unfold newL
  split
  · rw [List.nil_append, enter_own d L A [] hA, List.append_nil]; rfl
  · show enterL d ((bXmlns, s) :: A) [] L = _
    unfold enterL
    have ht : tellS bXmlns = (bNone, true) := by kernel_rfl
    have hk : knowE L bNone s = 0 := by
      unfold knowE
      rw [if_neg (by rintro (h | h | h); exact absurd h (by decide); exact absurd h (by decide); exact h.1 rfl), if_neg (by omega)]
    rw [if_neg (by rw [ht]; decide), if_pos (by rw [ht]; exact hk), ht]
    exact enter_own d _ A [] hA

theorem of_new {L : List Tell} {sp s : ByteArray} {d : Nat} (h : ofT L bNone = some sp) : ofT (L ++ newL s sp d) bNone = some s := by
  unfold newL
  split
  · rename_i e; rw [List.append_nil, h, e]
  · unfold ofT
    rw [List.reverse_append]
    rfl
theorem name_own {L : List Tell} {s n : ByteArray} (h : ofT L bNone = some s) (hn : ∃ r, bl n = 110 :: r) (hn2 : ∀ c ∈ bl n, okN c = true) (hnl : (bl n).length ≤ 40) : nameSp L (str (bl n)) = (s, n, true) := by
  obtain ⟨r, hr⟩ := hn
  have hname : nameL (bl n) = true := by
    rw [hr] at hn2 hnl ⊢
    exact ok_name hn2 (by decide) (by simp at hnl; omega)
  rw [str_bl_]
  unfold nameSp
  rw [split_none _ (ok_colon hn2), hname]
  have e0 : str ([] : List UInt8) = bNone := rfl
  unfold nameZ
  rw [if_neg (show ¬ true = false by decide), e0, h, str_bl_]
/-- What is known where an element stands whose default space is sp. -/
structure Knows (L : List Tell) (sp : ByteArray) (d : Nat) : Prop where
  of : ofT L bNone = some sp
  few : L.length ≤ 2 + d
theorem Knows.more {L : List Tell} {sp s : ByteArray} {d : Nat} (h : Knows L sp d) : Knows (L ++ newL s sp (d + 1)) s (d + 1) := by
  refine ⟨of_new h.of, ?_⟩
  have := h.few
  rw [List.length_append]
  unfold newL
  split
  · simp; omega
  · simp; omega
theorem enter_near {s n sp : ByteArray} {A : List Att} {L : List Tell} {d c p : Nat} {kd : Int} (hL : Knows L sp d) (hd : d < 32) (hc : c < 2000) (hn : ∃ r, bl n = 110 :: r) (hn2 : ∀ c ∈ bl n, okN c = true) (hnl : (bl n).length ≤ 40)
    (hA : ∀ a ∈ A, (∃ r, bl a.1 = 110 :: r) ∧ (∀ c ∈ bl a.1, okN c = true) ∧ (bl a.1).length ≤ 40 ∧ Lets (bl a.2)) :
    enterR ⟨kd, bl n, tagA s sp A, [], p⟩ d L c = .ok (⟨bl n, p, s, n, A, [], [], L⟩, L ++ newL s sp (d + 1)) := by
  unfold enterR
  rw [if_pos hc, if_pos hd]
  show enterC _ (enterL (d + 1) (toAtt (tagA s sp A)) [] L) (nameSp (enterL (d + 1) (toAtt (tagA s sp A)) [] L).2.2 (str (bl n))) L = _
  rw [enter_tag s sp A (d + 1) L (by have := hL.few; omega) (fun a ha => (hA a ha).1), name_own (of_new hL.of) hn hn2 hnl]
  have hok : attsOk A = true := List.all_eq_true.2 fun a ha => by
    obtain ⟨⟨r, hr⟩, h2, h3, _⟩ := hA a ha
    rw [hr] at h2 h3 ⊢
    exact ok_name h2 (by decide) (by simp at h3; omega)
  unfold enterC
  rw [if_pos rfl, if_pos rfl, if_pos hok]

end Go.Proofs.YtincdacickhdkaaDoor

namespace Go.Proofs.YtincdacickhdkaaDoor
open Go Go.RowKit Go.Lib
set_option maxRecDepth 100000

theorem nm_own {n : List UInt8} (hn : ∃ r, n = 110 :: r) (hn2 : ∀ c ∈ n, okN c = true) (hnl : n.length ≤ 40) : Nm n := by
  obtain ⟨r, rfl⟩ := hn
  exact ok_nm hn2 (by decide) (by simp at hnl; omega)
def AOk (A : List Att) : Prop := ∀ a ∈ A, (∃ r, bl a.1 = 110 :: r) ∧ (∀ c ∈ bl a.1, okN c = true) ∧ (bl a.1).length ≤ 40 ∧ Lets (bl a.2)
theorem tag_ok {s sp : ByteArray} {A : List Att} (hs : Lets (bl s)) (hA : AOk A) : ∀ a ∈ tagA s sp A, AtOk a := by
  have hown : ∀ a ∈ A.map (fun a => (bl a.1, bl a.2)), AtOk a := fun a ha => by
    obtain ⟨y, hy, rfl⟩ := List.mem_map.1 ha
    obtain ⟨h1, h2, h3, h4⟩ := hA y hy
    refine ⟨nm_own h1 h2 h3, h4, ?_⟩
    obtain ⟨r, hr⟩ := h1
    exact ⟨110, r, hr, by kernel_rfl, by decide, by decide⟩
  intro a ha
  unfold tagA at ha
  split at ha
  · exact hown a ha
  · rcases List.mem_append.1 ha with h | h
    · rw [List.mem_singleton.1 h]
      exact ⟨ok_nm (by decide) (by decide) (by decide), hs, ⟨120, [109, 108, 110, 115], rfl, by kernel_rfl, by decide, by decide⟩⟩
    · exact hown a h
theorem tag_pair {s sp : ByteArray} {A : List Att} (hA : AOk A) (hd : A.Pairwise (fun x y => (bl x.1 == bl y.1) = false)) : (tagA s sp A).Pairwise (fun x y => (x.1 == y.1) = false) := by
  have h2 : (A.map (fun a => (bl a.1, bl a.2))).Pairwise (fun x y => (x.1 == y.1) = false) := List.pairwise_map.2 hd
  unfold tagA
  split
  · exact h2
  · refine List.pairwise_append.2 ⟨List.pairwise_singleton _ _, h2, fun x hx y hy => ?_⟩
    rw [List.mem_singleton.1 hx]
    obtain ⟨z, hz, rfl⟩ := List.mem_map.1 hy
    obtain ⟨⟨r, hr⟩, _⟩ := hA z hz
    show (bXm == bl z.1) = false
    rw [hr]; rfl
theorem tag_len {s sp : ByteArray} {A : List Att} (h : A.length ≤ 15) : (tagA s sp A).length ≤ 16 := by
  unfold tagA
  rw [List.length_append, List.length_map]
  split
  · simp; omega
  · simp; omega
theorem open_near {D r e : List UInt8} {p : Nat} {kd : Int} {s sp n : ByteArray} {A : List Att} (hn : ∃ r, bl n = 110 :: r) (hn2 : ∀ c ∈ bl n, okN c = true) (hnl : (bl n).length ≤ 40) (hs : Lets (bl s)) (hA : AOk A)
    (hAd : A.Pairwise (fun x y => (bl x.1 == bl y.1) = false)) (hAl : A.length ≤ 15) (he : Ends e kd) (hd : D.drop p = 60 :: (bl n ++ (atsT [32] (tagA s sp A) ++ (e ++ r)))) :
    nextP D (P_ p) = ⟨kd, bl n, tagA s sp A, [], p⟩ ∧ nextS D (P_ p) = P_ (p + (1 + (bl n).length + (atsT [32] (tagA s sp A)).length + e.length)) := by
  have h := open_on (D := D) (b := [32]) (eb := []) (e := e) (r := r) (kd := kd) (p := p) (nm_own hn hn2 hnl) (by obtain ⟨r, hr⟩ := hn; exact ⟨110, r, hr, by decide, by decide, by decide⟩) (by decide) (by decide) (by decide) (fun _ h => by cases h) (fun _ h => by cases h) he
    (tag_ok hs hA) (tag_pair hA hAd) (tag_len hAl) hd
  exact h
/-- What it is that an element's text is taken as it. -/
def Takes (x : Nd) : Prop := ∀ (sp : ByteArray) (pad D r : List UInt8) (p : Nat) (S : List Fr) (L : List Tell) (c : Nat), Knows L sp S.length → D.drop p = bodyT x sp pad ++ r → (∀ b ∈ pad, b = 32) → c + x.count ≤ 2000 → S.length + x.depth ≤ 32 →
  ∃ Q q, nextP D (P_ p) = Q ∧ nextS D (P_ p) = P_ q ∧ opens Q ∧ ((opn Q S L c).on fun m' => runAt D (P_ q) m') = runAt D (P_ (p + (bodyT x sp pad).length)) (give x S, L, c + x.count)
theorem body_head (x : Nd) (sp : ByteArray) (pad : List UInt8) : ∃ t, bodyT x sp pad = 60 :: t := by
  cases x with
  | mk s n A K t => exact ⟨_, by unfold bodyT; rfl⟩
theorem kids_run : ∀ (K : List Nd), (∀ k ∈ K, Takes k) → ∀ (s : ByteArray) (pad D r : List UInt8) (p : Nat) (F : Fr) (S : List Fr) (L : List Tell) (c : Nat), Knows L s (F :: S).length → D.drop p = kidsT K s pad ++ r → p ≤ D.length → (∀ b ∈ pad, b = 32) →
    c + countK K ≤ 2000 → (F :: S).length + depthK K ≤ 32 → (∀ b ∈ F.tx, b = 32 ∨ b = 10) →
    ∃ tx', (∀ b ∈ tx', b = 32 ∨ b = 10) ∧ runAt D (P_ p) (.inside F S, L, c) = runAt D (P_ (p + (kidsT K s pad).length)) (.inside { F with K := F.K ++ K, tx := tx' } S, L, c + countK K)
  | [], _, s, pad, D, r, p, F, S, L, c, _, _, _, _, _, _, hF => ⟨F.tx, hF, by simp [kidsT, countK]⟩
  | k :: K, hP, s, pad, D, r, p, F, S, L, c, hL, hd, hp, hpad, hc, hdep, hF => by
    obtain ⟨t, ht⟩ := body_head k s pad
    have hbl : ∀ b ∈ (10 :: pad), b = 32 ∨ b = 10 := fun b hb => by
      rcases List.mem_cons.1 hb with rfl | hb
      · exact .inr rfl
      · exact .inl (hpad b hb)
    have hd1 : D.drop p = (10 :: pad) ++ (bodyT k s pad ++ (kidsT K s pad ++ r)) := by
      rw [hd, kidsT]; simp
    have hd2 : D.drop p = (10 :: pad) ++ 60 :: (t ++ (kidsT K s pad ++ r)) := by rw [hd1, ht]; rfl
    have h1 := run_blanks hbl (by simp) hd2 F S L c
    have hd3 := drop_on hd1
    have hp3 := drop_le hd1 (by simp)
    rw [countK] at hc
    rw [depthK] at hdep
    obtain ⟨Q, q, hQ, hq, hop, hrun⟩ := hP k (List.mem_cons_self ..) s pad D _ _ ({ F with tx := F.tx ++ (10 :: pad) } :: S) L c hL hd3 hpad (by omega) (by have e : ({ F with tx := F.tx ++ (10 :: pad) } :: S).length = (F :: S).length := rfl; rw [e]; omega)
    have hk0 : Q.kind ≠ 0 ∧ Q.kind ≠ 2 := by rcases hop with h | h <;> rw [h] <;> decide
    have h2 : runAt D (P_ (p + (10 :: pad).length)) (.inside { F with tx := F.tx ++ (10 :: pad) } S, L, c) = runAt D (P_ (p + (10 :: pad).length + (bodyT k s pad).length)) (.inside { F with K := F.K ++ [k], tx := F.tx ++ (10 :: pad) } S, L, c + k.count) := by
      rw [run_piece hp3 ⟨hQ, hq⟩ hk0.1, step_in, if_neg hk0.2, if_pos hop, hrun]
      rfl
    have hd4 := drop_on hd3
    have hp4 := drop_le hd3 (by rw [ht]; simp)
    obtain ⟨tx', htx, h3⟩ := kids_run K (fun y hy => hP y (List.mem_cons_of_mem _ hy)) s pad D r _ { F with K := F.K ++ [k], tx := F.tx ++ (10 :: pad) } S L (c + k.count) hL hd4 hp4 hpad (by omega) (by have e : ({ F with K := F.K ++ [k], tx := F.tx ++ (10 :: pad) } :: S).length = (F :: S).length := rfl; rw [e]; omega)
      (fun b hb => by rcases List.mem_append.1 hb with h | h; exact hF b h; exact hbl b h)
    refine ⟨tx', htx, ?_⟩
    rw [h1, h2, h3, kidsT, countK]
    have el : p + (10 :: pad).length + (bodyT k s pad).length + (kidsT K s pad).length = p + (10 :: (pad ++ (bodyT k s pad ++ kidsT K s pad))).length := by simp; omega
    rw [el, Nat.add_assoc c]
    simp
theorem start_near {s n sp : ByteArray} {A : List Att} {D e r : List UInt8} {p c : Nat} {kd : Int} {S : List Fr} {L : List Tell} (hL : Knows L sp S.length) (hS : S.length < 32) (hc : c < 2000) (hn : ∃ r, bl n = 110 :: r) (hn2 : ∀ c ∈ bl n, okN c = true)
    (hnl : (bl n).length ≤ 40) (hs : Lets (bl s)) (hA : AOk A) (hAd : A.Pairwise (fun x y => (bl x.1 == bl y.1) = false)) (hAl : A.length ≤ 15) (he : Ends e kd) (hd : D.drop p = 60 :: (bl n ++ (atsT [32] (tagA s sp A) ++ (e ++ r)))) :
    ∃ Q q, nextP D (P_ p) = Q ∧ nextS D (P_ p) = P_ q ∧ opens Q ∧ q = p + (1 + (bl n).length + (atsT [32] (tagA s sp A)).length + e.length) ∧ D.drop q = r ∧ q ≤ D.length ∧
      opn Q S L c = if kd = 1 then .ok (.inside ⟨bl n, p, s, n, A, [], [], L⟩ S, L ++ newL s sp (S.length + 1), c + 1) else .ok (give (.mk s n A [] (str [])) S, L, c + 1) := by
  obtain ⟨h1, h2⟩ := open_near hn hn2 hnl hs hA hAd hAl he hd
  have hd1 : D.drop p = (60 :: (bl n ++ (atsT [32] (tagA s sp A) ++ e))) ++ r := by rw [hd]; simp
  have el : p + (60 :: (bl n ++ (atsT [32] (tagA s sp A) ++ e))).length = p + (1 + (bl n).length + (atsT [32] (tagA s sp A)).length + e.length) := by simp; omega
  have h3 := drop_on hd1
  have h4 := drop_le hd1 (by simp)
  rw [el] at h3 h4
  refine ⟨_, _, h1, h2, ?_, rfl, h3, h4, ?_⟩
  · rcases he with ⟨_, h⟩ | ⟨_, h⟩
    · exact .inl h
    · exact .inr h
  · unfold opn
    rw [enter_near hL hS hc hn hn2 hnl hA]
    rfl
theorem shut_near {D r : List UInt8} {p c : Nat} {n : List UInt8} {F : Fr} {S : List Fr} {L : List Tell} {x : Nd} (hn : Nm n) (hF : F.tag = n) (hx : shut F = .ok x) (hd : D.drop p = 60 :: 47 :: (n ++ 62 :: r)) :
    runAt D (P_ p) (.inside F S, L, c) = runAt D (P_ (p + (2 + n.length + 1))) (give x S, F.L, c) := by
  have h := close_on (eb := []) hn (fun _ h => by cases h) (fun _ h => by cases h) hd
  have hp := drop_lt hd
  rw [run_piece (by omega) h (show (2 : Int) ≠ 0 by decide), step_in, if_pos rfl, if_pos hF.symm, hx]
  rfl
theorem takes_mk {s n t : ByteArray} {A : List Att} {K : List Nd} (hn : ∃ r, bl n = 110 :: r) (hn2 : ∀ c ∈ bl n, okN c = true) (hnl : (bl n).length ≤ 40) (hs : Lets (bl s)) (ht : Lets (bl t)) (htr : trimL (bl t) = bl t) (hA : AOk A)
    (hAd : A.Pairwise (fun x y => (bl x.1 == bl y.1) = false)) (hAl : A.length ≤ 15) (hKt : K = [] ∨ bl t = []) (hK : ∀ k ∈ K, Takes k) : Takes (.mk s n A K t) := by
  intro sp pad D r p S L c hL hd hpad hc hdep
  have hcnt : (Nd.mk s n A K t).count = 1 + countK K := by rw [Nd.count]
  have hdp : (Nd.mk s n A K t).depth = 1 + depthK K := by rw [Nd.depth]
  rw [hcnt] at hc ⊢
  rw [hdp] at hdep
  have hnm := nm_own hn hn2 hnl
  by_cases hK0 : K.isEmpty = true
  · have hK1 : K = [] := List.isEmpty_iff.1 hK0
    subst hK1
    by_cases ht0 : bl t = []
    · have ht1 : str [] = t := by rw [← ht0, str_bl_]
      have hb : bodyT (.mk s n A [] t) sp pad = 60 :: (bl n ++ (atsT [32] (tagA s sp A) ++ [47, 62])) := by
        rw [bodyT, if_pos hK0, if_pos ht0]
      rw [hb] at hd ⊢
      obtain ⟨Q, q, h1, h2, h3, hq, -, -, ho⟩ := start_near (e := [47, 62]) (kd := 3) (r := r) (c := c) hL (by omega) (by omega) hn hn2 hnl hs hA hAd hAl (.inr ⟨rfl, rfl⟩) (by rw [hd]; simp)
      refine ⟨Q, q, h1, h2, h3, ?_⟩
      have el : p + (60 :: (bl n ++ (atsT [32] (tagA s sp A) ++ [47, 62]))).length = q := by rw [hq]; simp; omega
      rw [ho, el, if_neg (by decide), ht1, countK]
      rfl
    · have hb : bodyT (.mk s n A [] t) sp pad = 60 :: (bl n ++ (atsT [32] (tagA s sp A) ++ 62 :: (closeL (bl t) ++ (60 :: 47 :: (bl n ++ [62]))))) := by
        rw [bodyT, if_pos hK0, if_neg ht0]
      rw [hb] at hd ⊢
      obtain ⟨Q, q, h1, h2, h3, hq, hdq, hql, ho⟩ := start_near (e := [62]) (kd := 1) (r := closeL (bl t) ++ (60 :: 47 :: (bl n ++ 62 :: r))) (c := c) hL (by omega) (by omega) hn hn2 hnl hs hA hAd hAl (.inl ⟨rfl, rfl⟩) (by rw [hd]; simp)
      refine ⟨Q, q, h1, h2, h3, ?_⟩
      have h4 := text_on ht ht0 (.inr ⟨_, rfl⟩) hdq
      have hd5 := drop_on hdq
      have el : p + (60 :: (bl n ++ (atsT [32] (tagA s sp A) ++ 62 :: (closeL (bl t) ++ (60 :: 47 :: (bl n ++ [62])))))).length = q + (closeL (bl t)).length + (2 + (bl n).length + 1) := by rw [hq]; simp; omega
      rw [ho, el, if_pos rfl, countK]
      show runAt D (P_ q) _ = _
      rw [run_piece hql h4 (show (4 : Int) ≠ 0 by decide), step_in, if_neg (show ¬ (4 : Int) = 2 by decide), if_neg (by rintro (h | h) <;> exact absurd (show (4 : Int) = _ from h) (by decide))]
      show runAt D _ _ = _
      rw [shut_near (x := .mk s n A [] t) hnm rfl (by
        unfold shut
        rw [if_pos (.inr rfl)]
        show Res.ok (Nd.mk s n A [] (str (trimL (bl t)))) = _
        rw [htr, str_bl_]) hd5]
  · have hne : K ≠ [] := fun e => hK0 (by rw [e]; rfl)
    have ht0 : bl t = [] := hKt.resolve_left hne
    have ht1 : str [] = t := by rw [← ht0, str_bl_]
    have hb : bodyT (.mk s n A K t) sp pad = 60 :: (bl n ++ (atsT [32] (tagA s sp A) ++ 62 :: (kidsT K s (pad ++ [32]) ++ (10 :: (pad ++ (60 :: 47 :: (bl n ++ [62]))))))) := by
      rw [bodyT, if_neg hK0]
    rw [hb] at hd ⊢
    obtain ⟨Q, q, h1, h2, h3, hq, hdq, hql, ho⟩ := start_near (e := [62]) (kd := 1) (r := kidsT K s (pad ++ [32]) ++ (10 :: (pad ++ (60 :: 47 :: (bl n ++ 62 :: r))))) (c := c) hL (by omega) (by omega) hn hn2 hnl hs hA hAd hAl (.inl ⟨rfl, rfl⟩) (by rw [hd]; simp)
    refine ⟨Q, q, h1, h2, h3, ?_⟩
    obtain ⟨tx', htx, h4⟩ := kids_run K hK s (pad ++ [32]) D _ q ⟨bl n, p, s, n, A, [], [], L⟩ S (L ++ newL s sp (S.length + 1)) (c + 1) hL.more hdq hql
      (fun b hb => by rcases List.mem_append.1 hb with h | h; exact hpad b h; exact List.mem_singleton.1 h) (by omega) (by rw [List.length_cons]; omega) (fun _ h => by cases h)
    have hd5 : D.drop (q + (kidsT K s (pad ++ [32])).length) = (10 :: pad) ++ 60 :: (47 :: (bl n ++ 62 :: r)) := drop_on hdq
    have hbl : ∀ b ∈ (10 :: pad), b = 32 ∨ b = 10 := fun b hb => by
      rcases List.mem_cons.1 hb with rfl | hb
      · exact .inr rfl
      · exact .inl (hpad b hb)
    have hd6 := drop_on hd5
    have el : p + (60 :: (bl n ++ (atsT [32] (tagA s sp A) ++ 62 :: (kidsT K s (pad ++ [32]) ++ (10 :: (pad ++ (60 :: 47 :: (bl n ++ [62])))))))).length = q + (kidsT K s (pad ++ [32])).length + (10 :: pad).length + (2 + (bl n).length + 1) := by rw [hq]; simp; omega
    rw [ho, el, if_pos rfl]
    show runAt D (P_ q) _ = _
    rw [h4, run_blanks hbl (by simp) hd5, shut_near (x := .mk s n A K t) hnm rfl (by
      unfold shut
      have htr2 : trimL (tx' ++ 10 :: pad) = [] := trim_blanks fun b hb => by
        rcases List.mem_append.1 hb with h | h
        · exact htx b h
        · exact hbl b h
      rw [if_pos (.inl htr2)]
      show Res.ok (Nd.mk s n A ([] ++ K) (str (trimL (tx' ++ 10 :: pad)))) = _
      rw [htr2, ht1]; rfl) hd6, Nat.add_assoc c]
theorem takes {x : Nd} (hx : NearN x) : Takes x := by
  induction hx with
  | mk s n t A K hn hn2 hnl hs ht htr hA hAd hAl hKt _ ih => exact takes_mk hn hn2 hnl hs ht htr hA hAd hAl hKt ih

end Go.Proofs.YtincdacickhdkaaDoor

namespace Go.Proofs.YtincdacickhdkaaDoor
open Go Go.RowKit Go.Lib
set_option maxRecDepth 100000

end Go.Proofs.YtincdacickhdkaaDoor
namespace Go.Proofs.YtincdacickhdkaaDoor
open Go Go.RowKit Go.Lib
set_option maxRecDepth 100000

/-! ### texts, trimmed -/
theorem blank_lt {c : UInt8} (h : blankB (c.toNat : Int) = true) : c.toNat < 128 := by
  unfold blankB at h
  have := of_decide_eq_true h
  omega
theorem lets_tail {c : UInt8} {l : List UInt8} (h : Lets (c :: l)) (hc : c.toNat < 128) : Lets l := by
  obtain ⟨rs, h1, h2⟩ := h
  cases rs with
  | nil => cases h2
  | cons r rs =>
    have hr := h1 r (List.mem_cons_self ..)
    have hm := (letB_iff r).1 hr
    rw [List.flatMap_cons] at h2
    by_cases a : r < 128
    · rw [put_f1 r (by omega)] at h2
      exact ⟨rs, fun x hx => h1 x (List.mem_cons_of_mem _ hx), (List.cons.inj h2).2⟩
    · have hp := put_hi r hr (by omega)
      have h0 := put_pos r (let_may r hr)
      cases hput : put r with
      | nil => rw [hput] at h0; exact absurd h0 (by decide)
      | cons d t =>
        rw [hput] at h2 hp
        have := hp d (List.mem_cons_self ..)
        rw [(List.cons.inj h2).1] at hc
        omega
theorem lets_init {c : UInt8} {l : List UInt8} (h : Lets (l ++ [c])) (hc : c.toNat < 128) : Lets l := by
  obtain ⟨rs, h1, h2⟩ := h
  rcases List.eq_nil_or_concat rs with rfl | ⟨qs, r, rfl⟩
  · simp at h2
  · have hr := h1 r (by simp)
    have hm := (letB_iff r).1 hr
    rw [List.concat_eq_append, List.flatMap_append] at h2
    have e1 : [r].flatMap put = put r := by simp
    rw [e1] at h2
    by_cases a : r < 128
    · rw [put_f1 r (by omega)] at h2
      exact ⟨qs, fun x hx => h1 x (by simp [hx]), (List.append_inj' h2 rfl).1⟩
    · have hp := put_hi r hr (by omega)
      have h0 := put_pos r (let_may r hr)
      have hl := congrArg List.getLast? h2
      rw [List.getLast?_append, List.getLast?_append] at hl
      cases hg : (put r).getLast? with
      | none => rw [List.getLast?_eq_none_iff] at hg; rw [hg] at h0; exact absurd h0 (by decide)
      | some d =>
        rw [hg] at hl
        have hcd : c = d := by simpa using hl
        have := hp d (List.mem_of_getLast? hg)
        rw [hcd] at hc
        omega
theorem nth_succ (c : UInt8) (l : List UInt8) (j : Nat) : nth (c :: l) (j + 1) = nth l j := by unfold nth; simp
theorem nth_blank {l : List UInt8} {j : Nat} (h : blankB (nth l j : Int) = true) : j < l.length ∧ (l.getD j 0).toNat < 128 := by
  refine ⟨?_, blank_lt h⟩
  rcases Nat.lt_or_ge j l.length with h' | h'
  · exact h'
  · have e : nth l j = 0 := by unfold nth; simp [List.getD, List.getElem?_eq_none h']
    rw [e] at h
    exact absurd h (by decide)
theorem drop_lets : ∀ (a : Nat) (l : List UInt8), Lets l → (∀ j, j < a → blankB (nth l j : Int) = true) → Lets (l.drop a)
  | 0, l, h, _ => by rw [List.drop_zero]; exact h
  | a + 1, [], _, h => by rw [List.drop_nil]; exact Lets.nil
  | a + 1, c :: l, h, hb => by
    have h0 := hb 0 (by omega)
    have hc : c.toNat < 128 := by
      have := (nth_blank h0).2
      simpa using this
    rw [List.drop_succ_cons]
    exact drop_lets a l (lets_tail h hc) fun j hj => by have := hb (j + 1) (by omega); rw [nth_succ] at this; exact this
theorem take_lets : ∀ (k : Nat) (l : List UInt8) (b : Nat), b + k = l.length → Lets l → (∀ j, b ≤ j → j < l.length → blankB (nth l j : Int) = true) → Lets (l.take b)
  | 0, l, b, hl, h, _ => by rw [List.take_of_length_le (by omega)]; exact h
  | k + 1, l, b, hl, h, hb => by
    rcases List.eq_nil_or_concat l with rfl | ⟨l', c, rfl⟩
    · simp at hl
    · rw [List.concat_eq_append] at hl h hb ⊢
      rw [List.length_append, List.length_singleton] at hl hb
      have hc0 := hb l'.length (by omega) (by omega)
      have hc : c.toNat < 128 := by
        have := (nth_blank hc0).2
        simpa [List.getD] using this
      have hl' := lets_init h hc
      have e : (l' ++ [c]).take b = l'.take b := by rw [List.take_append_of_le_length (by omega)]
      rw [e]
      refine take_lets k l' b (by omega) hl' fun j h1 h2 => ?_
      have := hb j h1 (by omega)
      have e2 : nth (l' ++ [c]) j = nth l' j := by unfold nth; simp [List.getD, List.getElem?_append_left h2]
      rw [e2] at this
      exact this
theorem first_non (p : Nat → Bool) : ∀ n, ∃ a, a ≤ n ∧ (∀ j, j < a → p j = true) ∧ (a < n → p a = false)
  | 0 => ⟨0, Nat.le_refl _, fun j h => absurd h (Nat.not_lt_zero j), fun h => absurd h (Nat.lt_irrefl _)⟩
  | n + 1 => by
    obtain ⟨a, h1, h2, h3⟩ := first_non p n
    by_cases ha : a < n
    · exact ⟨a, by omega, h2, fun _ => h3 ha⟩
    · have e : a = n := by omega
      subst e
      cases hp : p a with
      | false => exact ⟨a, by omega, h2, fun _ => hp⟩
      | true => exact ⟨a + 1, Nat.le_refl _, fun j hj => by
          by_cases h : j = a
          · rw [h]; exact hp
          · exact h2 j (by omega), fun h => absurd h (Nat.lt_irrefl _)⟩
theorem last_non (p : Nat → Bool) (a : Nat) : ∀ k, ∃ b, a ≤ b ∧ b ≤ a + k ∧ (∀ j, b ≤ j → j < a + k → p j = true) ∧ (a < b → p (b - 1) = false)
  | 0 => ⟨a, Nat.le_refl _, Nat.le_refl _, fun j h1 h2 => absurd h2 (by omega), fun h => absurd h (Nat.lt_irrefl _)⟩
  | k + 1 => by
    cases hp : p (a + k) with
    | false => exact ⟨a + k + 1, by omega, by omega, fun j h1 h2 => by omega, fun _ => hp⟩
    | true =>
      obtain ⟨b, h1, h2, h3, h4⟩ := last_non p a k
      refine ⟨b, h1, by omega, fun j hj hj2 => ?_, h4⟩
      by_cases h : j = a + k
      · rw [h]; exact hp
      · exact h3 j hj (by omega)
theorem trim_ex (l : List UInt8) : ∃ a b, a ≤ b ∧ b ≤ l.length ∧ (∀ j, j < a → blankB (nth l j : Int) = true) ∧ (a < l.length → blankB (nth l a : Int) = false) ∧
    (∀ j, b ≤ j → j < l.length → blankB (nth l j : Int) = true) ∧ (a < b → blankB (nth l (b - 1) : Int) = false) := by
  obtain ⟨a, h1, h2, h3⟩ := first_non (fun j => blankB (nth l j : Int)) l.length
  obtain ⟨b, h4, h5, h6, h7⟩ := last_non (fun j => blankB (nth l j : Int)) a (l.length - a)
  have e : a + (l.length - a) = l.length := by omega
  rw [e] at h5 h6
  exact ⟨a, b, h4, h5, h2, h3, h6, h7⟩
theorem trim_lets {l : List UInt8} (h : Lets l) : Lets (trimL l) := by
  obtain ⟨a, b, h1, h2, h3, h4, h5, h6⟩ := trim_ex l
  rw [trim_cut l a b h1 h2 h3 h4 h5 h6]
  refine drop_lets a _ (take_lets (l.length - b) l b (by omega) h h5) fun j hj => ?_
  have e : nth (l.take b) j = nth l j := by unfold nth; simp [List.getD, show j < b by omega]
  rw [e]; exact h3 j hj
theorem trim_trim (l : List UInt8) : trimL (trimL l) = trimL l := by
  obtain ⟨a, b, h1, h2, h3, h4, h5, h6⟩ := trim_ex l
  rw [trim_cut l a b h1 h2 h3 h4 h5 h6]
  have hlen : ((l.take b).drop a).length = b - a := by rw [List.length_drop, List.length_take, Nat.min_eq_left h2]
  have hn : ∀ j, j < b - a → nth ((l.take b).drop a) j = nth l (a + j) := fun j hj => by unfold nth; simp [List.getD, List.getElem?_drop, show a + j < b by omega]
  have h := trim_cut ((l.take b).drop a) 0 ((l.take b).drop a).length (Nat.zero_le _) (Nat.le_refl _) (fun j hj => absurd hj (Nat.not_lt_zero j)) (fun h0 => by
      rw [hlen] at h0
      rw [hn 0 h0]; exact h4 (by omega)) (fun j hj1 hj2 => by omega) (fun h0 => by
      rw [hlen] at h0 ⊢
      rw [hn _ (by omega), show a + (b - a - 1) = b - 1 by omega]; exact h6 (by omega))
  rw [h, List.drop_zero, List.take_length]

/-! ### elements of few parts -/
/-- An attribute of galliardref06.Near. -/
structure AttB (a : Att) : Prop where
  head : ∃ r, bl a.1 = 110 :: r
  ok : ∀ c ∈ bl a.1, okN c = true
  len : (bl a.1).length ≤ 7
  lets : Lets (bl a.2)
  vlen : (bl a.2).length ≤ 9
  no : ¬ bl a.1 = [110, 111]
/-- An element of galliardref06.Near, so deep at most. -/
inductive NearB : Nat → Nd → Prop where
  | mk (d : Nat) (s n t : ByteArray) (A : List Att) (K : List Nd) (hn : ∃ r, bl n = 110 :: r) (hn2 : ∀ c ∈ bl n, okN c = true) (hnl : (bl n).length ≤ 6) (hs : Lets (bl s)) (hsl : (bl s).length ≤ 3) (ht : Lets (bl t)) (htl : (bl t).length ≤ 12) (htr : trimL (bl t) = bl t)
    (hA : ∀ a ∈ A, AttB a) (hAd : A.Pairwise (fun x y => (bl x.1 == bl y.1) = false)) (hAl : A.length ≤ 3)
    (hKt : K = [] ∨ bl t = []) (hKl : K.length ≤ 3) (hK : ∀ k ∈ K, NearB d k) : NearB (d + 1) (.mk s n A K t)
theorem NearB.near {d : Nat} {x : Nd} (h : NearB d x) : NearN x := by
  induction h with
  | mk d s n t A K hn hn2 hnl hs hsl ht htl htr hA hAd hAl hKt hKl hK ih =>
    exact .mk s n t A K hn hn2 (by omega) hs ht htr (fun a ha => ⟨(hA a ha).head, (hA a ha).ok, by have := (hA a ha).len; omega, (hA a ha).lets⟩) hAd (by omega) hKt ih
theorem NearB.atts {d : Nat} {s n t : ByteArray} {A : List Att} {K : List Nd} (h : NearB d (.mk s n A K t)) : ∀ a ∈ A, AttB a := by cases h; assumption
theorem depthK_le {d : Nat} : ∀ K : List Nd, (∀ k ∈ K, k.depth ≤ d) → depthK K ≤ d
  | [], _ => by rw [depthK]; exact Nat.zero_le _
  | x :: K, h => by
    have h1 := h x (List.mem_cons_self ..)
    have h2 := depthK_le K fun k hk => h k (List.mem_cons_of_mem _ hk)
    rw [depthK]; omega
theorem NearB.depth {d : Nat} {x : Nd} (h : NearB d x) : x.depth ≤ d := by
  induction h with
  | mk d s n t A K hn hn2 hnl hs hsl ht htl htr hA hAd hAl hKt hKl hK ih =>
    have := depthK_le K ih
    rw [Nd.depth]; omega
/-- How many elements there are at most, of three within each. -/
def cntB : Nat → Nat
  | 0 => 0
  | d + 1 => 1 + 3 * cntB d
theorem countK_le {m : Nat} : ∀ K : List Nd, (∀ k ∈ K, k.count ≤ m) → countK K ≤ K.length * m
  | [], _ => by rw [countK]; exact Nat.zero_le _
  | x :: K, h => by
    have h1 := h x (List.mem_cons_self ..)
    have h2 := countK_le K fun k hk => h k (List.mem_cons_of_mem _ hk)
    rw [countK, List.length_cons, Nat.succ_mul]; omega
theorem NearB.count {d : Nat} {x : Nd} (h : NearB d x) : x.count ≤ cntB d := by
  induction h with
  | mk d s n t A K hn hn2 hnl hs hsl ht htl htr hA hAd hAl hKt hKl hK ih =>
    have h1 := countK_le K ih
    have h2 := Nat.mul_le_mul_right (cntB d) hKl
    rw [Nd.count, cntB]; omega
/-- How long a text is at most. -/
def lenB : Nat → Nat → Nat
  | 0, _ => 0
  | d + 1, p => 500 + p + 3 * (1 + (p + 1) + lenB d (p + 1))
theorem atsT_few {m : Nat} : ∀ A : List (List UInt8 × List UInt8), (∀ a ∈ A, (atT a.1 a.2).length ≤ m) → (atsT [32] A).length ≤ A.length * (m + 1)
  | [], _ => by unfold atsT; simp
  | a :: A, h => by
    have h1 := h a (List.mem_cons_self ..)
    have h2 := atsT_few A fun x hx => h x (List.mem_cons_of_mem _ hx)
    have e : atsT [32] (a :: A) = ([32] ++ atT a.1 a.2) ++ atsT [32] A := rfl
    have e1 : ([32] : List UInt8).length = 1 := rfl
    have e2 : (a :: A).length = A.length + 1 := rfl
    rw [e, List.length_append, List.length_append, e1, e2, Nat.succ_mul]
    omega
theorem tag_few {s sp : ByteArray} {A : List Att} (hs : (bl s).length ≤ 3) (hA : ∀ a ∈ A, AttB a) : ∀ a ∈ tagA s sp A, (atT a.1 a.2).length ≤ 64 := by
  have hat : ∀ n v : List UInt8, n.length ≤ 7 → v.length ≤ 9 → (atT n v).length ≤ 64 := fun n v h1 h2 => by
    have := closeL_len v
    unfold atT
    simp only [List.length_append, List.length_cons, List.length_nil]
    omega
  intro a ha
  unfold tagA at ha
  rcases List.mem_append.1 ha with h | h
  · split at h
    · cases h
    · rw [List.mem_singleton.1 h]
      exact hat bXm (bl s) (by decide) (by omega)
  · obtain ⟨y, hy, rfl⟩ := List.mem_map.1 h
    exact hat _ _ (hA y hy).len (hA y hy).vlen
theorem tag_len4 (s sp : ByteArray) {A : List Att} (h : A.length ≤ 3) : (tagA s sp A).length ≤ 4 := by
  unfold tagA
  rw [List.length_append, List.length_map]
  split
  · simp; omega
  · simp; omega
theorem kidsT_len {m : Nat} (s : ByteArray) (pad : List UInt8) : ∀ K : List Nd, (∀ k ∈ K, (bodyT k s pad).length ≤ m) → (kidsT K s pad).length ≤ K.length * (1 + pad.length + m)
  | [], _ => by rw [kidsT]; simp
  | x :: K, h => by
    have h1 := h x (List.mem_cons_self ..)
    have h2 := kidsT_len s pad K fun k hk => h k (List.mem_cons_of_mem _ hk)
    rw [kidsT, List.length_cons, List.length_append, List.length_append, List.length_cons, Nat.succ_mul]; omega
theorem NearB.len {d : Nat} {x : Nd} (h : NearB d x) : ∀ sp pad, (bodyT x sp pad).length ≤ lenB d pad.length := by
  induction h with
  | mk d s n t A K hn hn2 hnl hs hsl ht htl htr hA hAd hAl hKt hKl hK ih =>
    intro sp pad
    have h1 := atsT_few _ (tag_few (sp := sp) hsl hA)
    have h2 := Nat.mul_le_mul_right 65 (tag_len4 s sp hAl)
    have h3 := closeL_len (bl t)
    rw [bodyT, lenB]
    split
    · split
      · simp only [List.length_append, List.length_cons, List.length_nil]
        omega
      · simp only [List.length_append, List.length_cons, List.length_nil]
        omega
    · have h4 := kidsT_len s (pad ++ [32]) K fun k hk => ih k hk s (pad ++ [32])
      rw [List.length_append] at h4
      have e1 : ([32] : List UInt8).length = 1 := rfl
      rw [e1] at h4
      have h5 := Nat.mul_le_mul_right (1 + (pad.length + 1) + lenB d (pad.length + 1)) hKl
      simp only [List.length_append, List.length_cons, List.length_nil]
      omega
theorem NearB.lets {d : Nat} {x : Nd} (h : NearB d x) : ∀ sp pad, (∀ b ∈ pad, b = 32) → Lets (bodyT x sp pad) := by
  induction h with
  | mk d s n t A K hn hn2 hnl hs hsl ht htl htr hA hAd hAl hKt hKl hK ih =>
    intro sp pad hpad
    have l10 : Lets [10] := blanks_lets (fun c h => .inr (List.mem_singleton.1 h))
    have hp : Lets pad := blanks_lets (fun c h => .inl (hpad c h))
    have hnm : Lets (bl n) := ok_lets hn2
    have hat : Lets (atsT [32] (tagA s sp A)) := atsT_lets (blanks_lets (fun c h => .inl (List.mem_singleton.1 h))) _ fun a ha => by
      unfold tagA at ha
      rcases List.mem_append.1 ha with h | h
      · split at h
        · cases h
        · rw [List.mem_singleton.1 h]
          exact ⟨asc_lets bXm (by decide), hs⟩
      · obtain ⟨y, hy, rfl⟩ := List.mem_map.1 h
        exact ⟨ok_lets (hA y hy).ok, (hA y hy).lets⟩
    have hcl : Lets (60 :: 47 :: (bl n ++ [62])) := lets_cons (by decide) (lets_cons (by decide) (hnm.append (lets_one 62 (by decide))))
    rw [bodyT]
    refine lets_cons (by decide) (hnm.append (hat.append ?_))
    split
    · split
      · exact asc_lets _ (by decide)
      · exact lets_cons (by decide) (ht.close.append hcl)
    · refine lets_cons (by decide) (Lets.append ?_ (l10.append (hp.append hcl)))
      have hp2 : ∀ b ∈ pad ++ [32], b = 32 := fun b hb => by
        rcases List.mem_append.1 hb with h | h
        · exact hpad b h
        · exact List.mem_singleton.1 h
      have hpl : Lets (pad ++ [32]) := blanks_lets (fun c h => .inl (hp2 c h))
      have key : ∀ K : List Nd, (∀ k ∈ K, Lets (bodyT k s (pad ++ [32]))) → Lets (kidsT K s (pad ++ [32])) := by
        intro K
        induction K with
        | nil => intro _; rw [kidsT]; exact Lets.nil
        | cons k K ihK =>
          intro hk
          rw [kidsT]
          exact l10.append (hpl.append ((hk k (List.mem_cons_self ..)).append (ihK fun y hy => hk y (List.mem_cons_of_mem _ hy))))
      exact key K fun k hk => ih k hk s (pad ++ [32]) hp2
/-- How many < there are. -/
def lts (l : List UInt8) : Nat := l.count 60
theorem lts_app (a b : List UInt8) : lts (a ++ b) = lts a + lts b := by unfold lts; exact List.count_append ..
theorem lts_cons (c : UInt8) (l : List UInt8) (h : c ≠ 60) : lts (c :: l) = lts l := by unfold lts; exact List.count_cons_of_ne h
theorem lts_60 (l : List UInt8) : lts (60 :: l) = lts l + 1 := by unfold lts; exact List.count_cons_self ..
theorem lts_none {l : List UInt8} (h : ∀ c ∈ l, c ≠ 60) : lts l = 0 := by unfold lts; exact List.count_eq_zero.2 fun hm => h 60 hm rfl
theorem ok_60 {n : List UInt8} (h : ∀ c ∈ n, okN c = true) : ∀ c ∈ n, c ≠ 60 := fun c hc e => by
  have := h c hc
  rw [e] at this
  exact absurd this (by decide)
theorem NearB.few {d : Nat} {x : Nd} (h : NearB d x) : ∀ sp pad, (∀ b ∈ pad, b = 32) → lts (bodyT x sp pad) ≤ 2 * x.count := by
  induction h with
  | mk d s n t A K hn hn2 hnl hs hsl ht htl htr hA hAd hAl hKt hKl hK ih =>
    intro sp pad hpad
    have hnm := lts_none (ok_60 hn2)
    have hpd : lts pad = 0 := lts_none fun c hc => by rw [hpad c hc]; decide
    have hat : lts (atsT [32] (tagA s sp A)) = 0 := lts_none fun c hc => by
      unfold atsT at hc
      obtain ⟨a, ha, hc⟩ := List.mem_flatMap.1 hc
      have hname : ∀ c ∈ a.1, c ≠ 60 := by
        unfold tagA at ha
        rcases List.mem_append.1 ha with h | h
        · split at h
          · cases h
          · rw [List.mem_singleton.1 h]; exact (by decide : ∀ c ∈ bXm, c ≠ 60)
        · obtain ⟨y, hy, rfl⟩ := List.mem_map.1 h
          exact ok_60 (hA y hy).ok
      unfold atT at hc
      rcases List.mem_append.1 hc with h | h
      · rw [List.mem_singleton.1 h]; decide
      rcases List.mem_append.1 h with h | h
      · exact hname c h
      rcases List.mem_cons.1 h with rfl | h
      · decide
      rcases List.mem_cons.1 h with rfl | h
      · decide
      rcases List.mem_append.1 h with h | h
      · exact (closeL_no _ c h).1
      · rw [List.mem_singleton.1 h]; decide
    have hcl : lts (60 :: 47 :: (bl n ++ [62])) = 1 := by
      rw [lts_60, lts_cons 47 _ (by decide), lts_app, hnm]; rfl
    rw [bodyT, Nd.count, lts_60, lts_app, lts_app, hnm, hat]
    split
    · split
      · have : lts [47, 62] = 0 := rfl
        omega
      · rw [lts_cons 62 _ (by decide), lts_app, hcl, lts_none fun c hc => (closeL_no _ c hc).1]
        omega
    · rw [lts_cons 62 _ (by decide), lts_app, lts_cons 10 _ (by decide), lts_app, hpd, hcl]
      have hp2 : ∀ b ∈ pad ++ [32], b = 32 := fun b hb => by
        rcases List.mem_append.1 hb with h | h
        · exact hpad b h
        · exact List.mem_singleton.1 h
      have key : ∀ K : List Nd, (∀ k ∈ K, lts (bodyT k s (pad ++ [32])) ≤ 2 * k.count) → lts (kidsT K s (pad ++ [32])) ≤ 2 * countK K := by
        intro K
        induction K with
        | nil => intro _; rw [kidsT]; exact Nat.zero_le _
        | cons k K ihK =>
          intro hk
          have h1 := hk k (List.mem_cons_self ..)
          have h2 := ihK fun y hy => hk y (List.mem_cons_of_mem _ hy)
          have hpd2 : lts (pad ++ [32]) = 0 := lts_none fun c hc => by rw [hp2 c hc]; decide
          rw [kidsT, lts_cons 10 _ (by decide), lts_app, hpd2, lts_app, countK]
          omega
      have := key K fun k hk => ih k hk s (pad ++ [32]) hp2
      omega

end Go.Proofs.YtincdacickhdkaaDoor
namespace Go.Proofs.YtincdacickhdkaaDoor
open Go.RowKit
set_option maxRecDepth 100000

/-! ### ten's digits: what the shelf's contract says, at eight digits at most -/
/-! ### sixteen's digits -/
/-- k digits are behind the loop: they spell acc. -/
def Spelt (l : List UInt8) (k acc : Nat) : Prop := acc < 16 ^ k ∧ parseD 16 0 l = parseD 16 acc (l.drop k)
theorem Spelt.start (l : List UInt8) : Spelt l 0 0 := ⟨by decide, by rw [List.drop_zero]⟩
theorem Spelt.step {l : List UInt8} {k acc : Nat} (h : Spelt l k acc) (c : UInt8) (r : List UInt8) (hd : l.drop k = c :: r) (hc : digV c.toNat < 16) : Spelt l (k + 1) (acc * 16 + digV c.toNat) := by
  obtain ⟨h1, h2⟩ := h
  have hr : l.drop (k + 1) = r := by rw [← List.drop_drop, hd]; rfl
  refine ⟨by rw [Nat.pow_succ]; omega, ?_⟩
  rw [h2, hd, hr]
  conv => lhs; unfold parseD
  rw [if_pos hc]
theorem Spelt.bad {l : List UInt8} {k acc : Nat} (h : Spelt l k acc) (c : UInt8) (r : List UInt8) (hd : l.drop k = c :: r) (hc : 16 ≤ digV c.toNat) : parseD 16 0 l = none := by
  rw [h.2, hd]; unfold parseD; rw [if_neg (by omega)]
theorem Spelt.done {l : List UInt8} {k acc : Nat} (h : Spelt l k acc) (hk : l.length ≤ k) : parseD 16 0 l = some acc := by
  rw [h.2, List.drop_eq_nil_of_le hk]; rfl

/-! ### what the package-level variables hold -/
def nameCells : Array Value := #[.string ⟨#[97, 109, 112]⟩, .int .u8 38, .bool true, .string ⟨#[108, 116]⟩, .int .u8 60, .bool true, .string ⟨#[103, 116]⟩, .int .u8 62, .bool true, .string ⟨#[113, 117, 111, 116]⟩, .int .u8 34, .bool true, .string ⟨#[97, 112, 111, 115]⟩, .int .u8 39, .bool false]
structure EntV (w : World) : Prop where
  names : ∃ t fr, w.heap[0]? = some (.cells nameCells t fr)
theorem EntV.below {w w' : World} (h : EntV w) (hb : Below w.heap.size w w') : EntV w' := by
  obtain ⟨⟨t, fr, h1⟩⟩ := h
  refine ⟨⟨t, fr, ?_⟩⟩
  rw [hb.block _ (Array.getElem?_eq_some_iff.1 h1).1]; exact h1

/-! ### strconv.ParseUint -/
end Go.Proofs.YtincdacickhdkaaDoor
namespace Go.Proofs.YtincdacickhdkaaDoor
open Go.RowKit
set_option maxRecDepth 100000

end Go.Proofs.YtincdacickhdkaaDoor
