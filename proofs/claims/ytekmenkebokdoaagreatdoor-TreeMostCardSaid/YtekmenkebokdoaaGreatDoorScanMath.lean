/-
  Pieces of documents, in plain mathematics: what takes them, step by step, and what holds of it. No program in this text.
-/
import Derived.Test.YtekmenkebokdoaaGreatDoorEntMath
namespace Go.Proofs.YtekmenkebokdoaaGreatDoor
open Go.Lib

/-- Where a scanner is, what was wrong first, and where. -/
structure St where
  pos : Nat
  err : Int
  wrg : Int
/-- A piece. -/
structure Pc where
  kind : Int
  name : List UInt8
  attrs : List (List UInt8 × List UInt8)
  text : List UInt8
  at_ : Int
def pc0 : Pc := ⟨0, [], [], [], 0⟩
def wrongS (e a : Int) (σ : St) : St := if σ.err = 0 then ⟨σ.pos, e, a⟩ else σ
def go_ (σ : St) (p : Nat) : St := ⟨p, σ.err, σ.wrg⟩
def standsS (p D : List UInt8) (σ : St) : Bool := p.isPrefixOf (D.drop σ.pos)
def skipS (p D : List UInt8) (σ : St) : St := if standsS p D σ = true then go_ σ (σ.pos + p.length) else σ
def mustS (p D : List UInt8) (σ : St) : St := if standsS p D σ = true then go_ σ (σ.pos + p.length) else wrongS 3 σ.pos σ
def lettersS (x : List UInt8) (a : Int) (σ : St) : St := if 0 ≤ textL x then wrongS 3 (a + textL x) σ else σ
def openedS (x : List UInt8) (a : Int) (σ : St) : St := if 0 ≤ (openL x).2 then wrongS 3 (a + (openL x).2) (lettersS x a σ) else lettersS x a σ
def runW (h : UInt8 → Bool) (D : List UInt8) (σ : St) : List UInt8 := (D.drop σ.pos).takeWhile h
def whileS (h : UInt8 → Bool) (D : List UInt8) (σ : St) : St := go_ σ (σ.pos + (runW h D σ).length)
def nb (c : UInt8) : Bool := partB (c.toNat : Int) || c == 58
def bb (c : UInt8) : Bool := blankB (c.toNat : Int)
def qb (q c : UInt8) : Bool := c != q && c != 60
def tb (c : UInt8) : Bool := c != 60
def nameS (D : List UInt8) (σ : St) : St := if (splitL (runW nb D σ)).2.2 = true then whileS nb D σ else wrongS 3 σ.pos (whileS nb D σ)
/-- The byte at a place (255 behind the end). -/
def byteAt (D : List UInt8) (k : Nat) : UInt8 := D.getD k 255
def quoteS (D : List UInt8) (σ : St) : St := whileS (qb (byteAt D σ.pos)) D (go_ σ (σ.pos + 1))
def endsB (D : List UInt8) (σ : St) : Bool := decide ((quoteS D σ).pos < D.length) && byteAt D (quoteS D σ).pos == byteAt D σ.pos
def quotedV (D : List UInt8) (σ : St) : List UInt8 :=
  if standsS [34] D σ = true ∨ standsS [39] D σ = true then
    if endsB D σ = true then (openL (runW (qb (byteAt D σ.pos)) D (go_ σ (σ.pos + 1)))).1 else []
  else []
def quotedS (D : List UInt8) (σ : St) : St :=
  if standsS [34] D σ = true ∨ standsS [39] D σ = true then
    if endsB D σ = true then openedS (runW (qb (byteAt D σ.pos)) D (go_ σ (σ.pos + 1))) (σ.pos + 1) (go_ (quoteS D σ) ((quoteS D σ).pos + 1)) else wrongS 3 (σ.pos + 1) (quoteS D σ)
  else wrongS 3 σ.pos σ
/-- An attribute, up to its text. -/
def attrP (D : List UInt8) (σ : St) : St := whileS bb D (mustS [61] D (whileS bb D (nameS D σ)))
def attrV (D : List UInt8) (σ : St) : List UInt8 × List UInt8 := (runW nb D σ, quotedV D (attrP D σ))
def attrS (D : List UInt8) (ahead : List (List UInt8 × List UInt8)) (σ : St) : St :=
  if ahead.any (fun a => a.1 == runW nb D σ) = true then wrongS 7 σ.pos (quotedS D (attrP D σ)) else quotedS D (attrP D σ)
def openF_ : Nat → List UInt8 → List UInt8 → List (List UInt8 × List UInt8) → St → Pc × St
  | 0, _, _, _, σ => (pc0, σ)
  | f + 1, D, n, al, σ =>
    if σ.err = 0 then
      if standsS [62] D (whileS bb D σ) = true then (⟨1, n, al, [], 0⟩, skipS [62] D (whileS bb D σ))
      else if standsS [47, 62] D (whileS bb D σ) = true then (⟨3, n, al, [], 0⟩, skipS [47, 62] D (whileS bb D σ))
      else if runW bb D σ = [] ∨ al.length = 16 then openF_ f D n al (wrongS 3 (whileS bb D σ).pos (whileS bb D σ))
      else openF_ f D n (al ++ [attrV D (whileS bb D σ)]) (attrS D al (whileS bb D σ))
    else (pc0, σ)
def openingS (D : List UInt8) (σ : St) : Pc × St := openF_ 19 D (runW nb D σ) [] (nameS D σ)
def rawC (D : List UInt8) (σ : St) : List UInt8 × List UInt8 × Bool := cut (D.drop σ.pos) [93, 93, 62]
def rawS (D : List UInt8) (σ : St) : Pc × St :=
  (⟨4, [], [], (rawC D σ).1, 0⟩, go_ (lettersS (rawC D σ).1 σ.pos (if (rawC D σ).2.2 = true then σ else wrongS 3 σ.pos σ)) (D.length - (rawC D σ).2.1.length))
def textS (D : List UInt8) (σ : St) : Pc × St := (⟨4, [], [], (openL (runW tb D σ)).1, 0⟩, openedS (runW tb D σ) σ.pos (whileS tb D σ))
def closingS (D : List UInt8) (σ : St) : Pc × St := (⟨2, runW nb D σ, [], [], 0⟩, mustS [62] D (whileS bb D (nameS D σ)))
def bRaw : List UInt8 := [60, 33, 91, 67, 68, 65, 84, 65, 91]
def pieceR (D : List UInt8) (σ : St) : Pc × St :=
  if standsS bRaw D σ = true then rawS D (skipS bRaw D σ)
  else if standsS [60, 47] D σ = true then closingS D (skipS [60, 47] D σ)
  else if standsS [60] D σ = true then openingS D (skipS [60] D σ)
  else textS D σ
def setAt (p : Pc) (a : Int) : Pc := ⟨p.kind, p.name, p.attrs, p.text, a⟩
def pieceS (D : List UInt8) (σ : St) : Pc × St := (setAt (pieceR D σ).1 σ.pos, (pieceR D σ).2)
def passC (b e D : List UInt8) (σ : St) : List UInt8 × List UInt8 × Bool := cut (D.drop (σ.pos + b.length)) e
def passS (b e : List UInt8) (may : List UInt8 → Bool) (D : List UInt8) (σ : St) : St :=
  if (passC b e D σ).2.2 = true ∧ may (passC b e D σ).1 = true then go_ σ (D.length - (passC b e D σ).2.1.length) else wrongS 3 σ.pos σ
def mayC (x : List UInt8) : Bool := !contains x [45, 45] && !hasSuffix x [45]
def mayH (_ : List UInt8) : Bool := true
def bCom : List UInt8 := [60, 33, 45, 45]
def eCom : List UInt8 := [45, 45, 62]
def bHint : List UInt8 := [60, 63]
def eHint : List UInt8 := [63, 62]
def passF : Nat → List UInt8 → St → St
  | 0, _, σ => σ
  | f + 1, D, σ =>
    if σ.err = 0 then
      if standsS bCom D σ = true then passF f D (passS bCom eCom mayC D σ)
      else if standsS bHint D σ = true then passF f D (passS bHint eHint mayH D σ)
      else σ
    else σ
def passAllS (D : List UInt8) (σ : St) : St := passF (D.length + 1) D σ
def nextP (D : List UInt8) (σ : St) : Pc :=
  if (passAllS D σ).err = 0 ∧ (passAllS D σ).pos < D.length then
    if (pieceS D (passAllS D σ)).2.err = 0 then (pieceS D (passAllS D σ)).1 else pc0
  else pc0
def nextS (D : List UInt8) (σ : St) : St :=
  if (passAllS D σ).err = 0 ∧ (passAllS D σ).pos < D.length then (pieceS D (passAllS D σ)).2 else passAllS D σ
def newS (D : List UInt8) : St := if 200000 < D.length then ⟨0, 5, 200000⟩ else if 0 ≤ badL D then ⟨0, 2, badL D⟩ else ⟨0, 0, 0⟩

/-! ### what holds of a place, always -/
structure Fine (n : Nat) (σ : St) : Prop where
  pos : σ.pos ≤ n
  err : σ.err = 0 ∨ σ.err = 3 ∨ σ.err = 7
  lo : 0 ≤ σ.wrg
  hi : σ.wrg ≤ n
theorem Fine.wrong {n : Nat} {σ : St} (h : Fine n σ) (e a : Int) (he : e = 3 ∨ e = 7) (h0 : 0 ≤ a) (h1 : a ≤ n) : Fine n (wrongS e a σ) := by
  unfold wrongS
  split
  · exact ⟨h.pos, .inr he, h0, h1⟩
  · exact h
theorem Fine.go {n : Nat} {σ : St} (h : Fine n σ) (p : Nat) (hp : p ≤ n) : Fine n (go_ σ p) := ⟨hp, h.err, h.lo, h.hi⟩
theorem wrong_pos (e a : Int) (σ : St) : (wrongS e a σ).pos = σ.pos := by unfold wrongS; split <;> rfl
theorem wrong_err (e a : Int) (σ : St) (he : e ≠ 0) : (wrongS e a σ).err ≠ 0 := by
  unfold wrongS; split
  · exact he
  · assumption
theorem stands_len {p D : List UInt8} {σ : St} (h : standsS p D σ = true) (hp : p ≠ []) : σ.pos + p.length ≤ D.length := by
  unfold standsS at h
  have h1 := (List.isPrefixOf_iff_prefix.1 h).length_le
  rw [List.length_drop] at h1
  have h2 : p.length ≠ 0 := fun e => hp (List.eq_nil_of_length_eq_zero e)
  omega
theorem run_len (h : UInt8 → Bool) (D : List UInt8) (σ : St) : (runW h D σ).length ≤ D.length - σ.pos := by
  unfold runW
  have h1 := (List.takeWhile_prefix (p := h) (l := D.drop σ.pos)).length_le
  rw [List.length_drop] at h1
  exact h1
theorem Fine.while_ {D : List UInt8} {σ : St} (h : Fine D.length σ) (f : UInt8 → Bool) : Fine D.length (whileS f D σ) := by
  have h1 := run_len f D σ
  have h2 := h.pos
  exact h.go _ (by omega)
theorem Fine.skip {p D : List UInt8} {σ : St} (h : Fine D.length σ) (hp : p ≠ []) : Fine D.length (skipS p D σ) := by
  unfold skipS
  split
  · rename_i hs; exact h.go _ (stands_len hs hp)
  · exact h
theorem Fine.must {p D : List UInt8} {σ : St} (h : Fine D.length σ) (hp : p ≠ []) : Fine D.length (mustS p D σ) := by
  unfold mustS
  have := h.pos
  split
  · rename_i hs; exact h.go _ (stands_len hs hp)
  · exact h.wrong _ _ (.inl rfl) (by omega) (by omega)
theorem textL_lt (x : List UInt8) (h : 0 ≤ textL x) : textL x < x.length := by
  unfold textL at h ⊢
  split
  · omega
  · rename_i hn; rw [if_neg hn] at h; omega
theorem openF_lt : ∀ (f : Nat) (l done : List UInt8) (a : Nat), (openF f l done a).2 < a + l.length ∧ -1 ≤ (openF f l done a).2 ∨ (openF f l done a).2 = -1
  | 0, l, done, a => by unfold openF; exact .inr rfl
  | f + 1, [], done, a => by unfold openF; exact .inr rfl
  | f + 1, c :: l, done, a => by
    unfold openF
    have hl : (c :: l).length = l.length + 1 := rfl
    split
    · have ih := openF_lt f l (done ++ [c]) (a + 1)
      rcases ih with ih | ih
      · left; omega
      · right; exact ih
    · split
      · rename_i h2
        have ih := openF_lt f (l.drop (semi l + 1)) (done ++ put (oneL (l.take (semi l)))) (a + semi l + 2)
        have hd : (l.drop (semi l + 1)).length = l.length - (semi l + 1) := List.length_drop
        rcases ih with ih | ih
        · left; omega
        · right; exact ih
      · left; simp only [hl]; omega
theorem openL_lt (x : List UInt8) (h : 0 ≤ (openL x).2) : (openL x).2 < x.length := by
  have := openF_lt x.length x [] 0
  unfold openL at h ⊢
  rcases this with h1 | h1
  · omega
  · omega
theorem Fine.letters {n : Nat} {σ : St} (h : Fine n σ) (x : List UInt8) (a : Nat) (ha : a + x.length ≤ n) : Fine n (lettersS x a σ) := by
  unfold lettersS
  split
  · rename_i h0; have := textL_lt x h0; exact h.wrong _ _ (.inl rfl) (by omega) (by omega)
  · exact h
theorem Fine.opened {n : Nat} {σ : St} (h : Fine n σ) (x : List UInt8) (a : Nat) (ha : a + x.length ≤ n) : Fine n (openedS x a σ) := by
  unfold openedS
  have h1 := h.letters x a ha
  split
  · rename_i h0; have := openL_lt x h0; exact h1.wrong _ _ (.inl rfl) (by omega) (by omega)
  · exact h1
theorem letters_pos (x : List UInt8) (a : Int) (σ : St) : (lettersS x a σ).pos = σ.pos := by unfold lettersS; split <;> simp [wrong_pos]
theorem opened_pos (x : List UInt8) (a : Int) (σ : St) : (openedS x a σ).pos = σ.pos := by unfold openedS; split <;> simp [wrong_pos, letters_pos]
theorem Fine.name {D : List UInt8} {σ : St} (h : Fine D.length σ) : Fine D.length (nameS D σ) := by
  unfold nameS
  have := h.pos
  split
  · exact h.while_ _
  · exact (h.while_ _).wrong _ _ (.inl rfl) (by omega) (by omega)
theorem while_pos (f : UInt8 → Bool) (D : List UInt8) (σ : St) : (whileS f D σ).pos = σ.pos + (runW f D σ).length := rfl
theorem name_pos (D : List UInt8) (σ : St) : (nameS D σ).pos = σ.pos + (runW nb D σ).length := by unfold nameS; split <;> simp [wrong_pos, while_pos]
theorem must_pos (p D : List UInt8) (σ : St) : σ.pos ≤ (mustS p D σ).pos := by
  unfold mustS; split
  · exact Nat.le_add_right _ _
  · rw [wrong_pos]; exact Nat.le_refl _
theorem quote_fine {D : List UInt8} {σ : St} (h : Fine D.length σ) (hs : σ.pos < D.length) : Fine D.length (quoteS D σ) := (h.go _ (by omega)).while_ _
theorem quote_pos (D : List UInt8) (σ : St) : (quoteS D σ).pos = σ.pos + 1 + (runW (qb (byteAt D σ.pos)) D (go_ σ (σ.pos + 1))).length := rfl
theorem Fine.quoted {D : List UInt8} {σ : St} (h : Fine D.length σ) : Fine D.length (quotedS D σ) ∧ σ.pos ≤ (quotedS D σ).pos := by
  unfold quotedS
  have hp := h.pos
  split
  · rename_i hs
    have hl : σ.pos < D.length := by rcases hs with hs | hs <;> (have := stands_len hs (by decide); simp at this; omega)
    have hq := quote_fine h hl
    have hqp := quote_pos D σ
    split
    · rename_i he
      have he' : (quoteS D σ).pos < D.length := by unfold endsB at he; simp at he; exact he.1
      refine ⟨(hq.go _ (by omega)).opened _ (σ.pos + 1) (by omega), ?_⟩
      rw [opened_pos]; show _ ≤ (quoteS D σ).pos + 1; omega
    · refine ⟨hq.wrong _ _ (.inl rfl) (by omega) (by omega), ?_⟩
      rw [wrong_pos]; omega
  · refine ⟨h.wrong _ _ (.inl rfl) (by omega) (by omega), ?_⟩
    rw [wrong_pos]; omega
theorem Fine.attrp {D : List UInt8} {σ : St} (h : Fine D.length σ) : Fine D.length (attrP D σ) ∧ σ.pos ≤ (attrP D σ).pos := by
  unfold attrP
  refine ⟨(((h.name).while_ _).must (by decide)).while_ _, ?_⟩
  rw [while_pos]
  have h1 := must_pos [61] D (whileS bb D (nameS D σ))
  rw [while_pos, name_pos] at h1
  omega
theorem Fine.attr {D : List UInt8} {σ : St} (h : Fine D.length σ) (al : List (List UInt8 × List UInt8)) : Fine D.length (attrS D al σ) ∧ σ.pos ≤ (attrS D al σ).pos := by
  unfold attrS
  have h1 := h.attrp
  have h2 := h1.1.quoted
  have hp := h.pos
  split
  · exact ⟨h2.1.wrong _ _ (.inr rfl) (by omega) (by omega), by rw [wrong_pos]; omega⟩
  · exact ⟨h2.1, by omega⟩
theorem opening_fine : ∀ (f : Nat) (D n : List UInt8) (al : List (List UInt8 × List UInt8)) (σ : St), Fine D.length σ → Fine D.length (openF_ f D n al σ).2 ∧ σ.pos ≤ (openF_ f D n al σ).2.pos ∧
    ((openF_ f D n al σ).1.kind = 1 ∨ (openF_ f D n al σ).1.kind = 3 ∨ (openF_ f D n al σ).1 = pc0)
  | 0, D, n, al, σ, h => ⟨h, Nat.le_refl _, .inr (.inr rfl)⟩
  | f + 1, D, n, al, σ, h => by
    unfold openF_
    split
    · have h1 := h.while_ bb
      have hw := while_pos bb D σ
      split
      · refine ⟨h1.skip (by decide), ?_, .inl rfl⟩
        rename_i hs; unfold skipS; rw [if_pos hs]; show _ ≤ (whileS bb D σ).pos + _; omega
      split
      · refine ⟨h1.skip (by decide), ?_, .inr (.inl rfl)⟩
        rename_i hs; unfold skipS; rw [if_pos hs]; show _ ≤ (whileS bb D σ).pos + _; omega
      split
      · have hp := h1.pos
        have ih := opening_fine f D n al (wrongS 3 (whileS bb D σ).pos (whileS bb D σ)) (h1.wrong _ _ (.inl rfl) (by omega) (by omega))
        refine ⟨ih.1, ?_, ih.2.2⟩
        have := ih.2.1; rw [wrong_pos] at this; omega
      · have h2 := h1.attr al
        have ih := opening_fine f D n (al ++ [attrV D (whileS bb D σ)]) (attrS D al (whileS bb D σ)) h2.1
        exact ⟨ih.1, by omega, ih.2.2⟩
    · exact ⟨h, Nat.le_refl _, .inr (.inr rfl)⟩

end Go.Proofs.YtekmenkebokdoaaGreatDoor
