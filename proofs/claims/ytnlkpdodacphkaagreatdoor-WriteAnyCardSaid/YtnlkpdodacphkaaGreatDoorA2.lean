/-
  Pieces of documents, in plain mathematics: what takes them, step by step, and what holds of it. No program in this text.
  What holds of a scanner's pieces, whatever the text: they come in order, and to an end. No program in this text.
  Texts whose letters may all stand in one; and names for some of their letters. No program in this text.
  Pieces that stand in a text are what is taken of it, with their places. No program in this text.
  The names of galliardlaw04, and pieces one behind the other. No program in this text.
-/
import Derived.Test.YtnlkpdodacphkaaGreatDoorA1
import Derived.KernelRfl
namespace Go.Proofs.YtnlkpdodacphkaaGreatDoor
open Go.Lib

/-- Where a scanner is, what was wrong first, and where. -/
structure St where
  pos : Nat
  err : Int
  wrg : Int
/-- A piece. -/
structure Pc where
  kind : Int
  name : List UInt8
  attrs : List (List UInt8 × List UInt8)
  text : List UInt8
  at_ : Int
def pc0 : Pc := ⟨0, [], [], [], 0⟩
def wrongS (e a : Int) (σ : St) : St := if σ.err = 0 then ⟨σ.pos, e, a⟩ else σ
def go_ (σ : St) (p : Nat) : St := ⟨p, σ.err, σ.wrg⟩
def standsS (p D : List UInt8) (σ : St) : Bool := p.isPrefixOf (D.drop σ.pos)
def skipS (p D : List UInt8) (σ : St) : St := if standsS p D σ = true then go_ σ (σ.pos + p.length) else σ
def mustS (p D : List UInt8) (σ : St) : St := if standsS p D σ = true then go_ σ (σ.pos + p.length) else wrongS 3 σ.pos σ
def lettersS (x : List UInt8) (a : Int) (σ : St) : St := if 0 ≤ textL x then wrongS 3 (a + textL x) σ else σ
def openedS (x : List UInt8) (a : Int) (σ : St) : St := if 0 ≤ (openL x).2 then wrongS 3 (a + (openL x).2) (lettersS x a σ) else lettersS x a σ
def runW (h : UInt8 → Bool) (D : List UInt8) (σ : St) : List UInt8 := (D.drop σ.pos).takeWhile h
def whileS (h : UInt8 → Bool) (D : List UInt8) (σ : St) : St := go_ σ (σ.pos + (runW h D σ).length)
def nb (c : UInt8) : Bool := partB (c.toNat : Int) || c == 58
def bb (c : UInt8) : Bool := blankB (c.toNat : Int)
def qb (q c : UInt8) : Bool := c != q && c != 60
def tb (c : UInt8) : Bool := c != 60
def nameS (D : List UInt8) (σ : St) : St := if (splitL (runW nb D σ)).2.2 = true then whileS nb D σ else wrongS 3 σ.pos (whileS nb D σ)
/-- The byte at a place (255 behind the end). -/
def byteAt (D : List UInt8) (k : Nat) : UInt8 := D.getD k 255
def quoteS (D : List UInt8) (σ : St) : St := whileS (qb (byteAt D σ.pos)) D (go_ σ (σ.pos + 1))
def endsB (D : List UInt8) (σ : St) : Bool := decide ((quoteS D σ).pos < D.length) && byteAt D (quoteS D σ).pos == byteAt D σ.pos
def quotedV (D : List UInt8) (σ : St) : List UInt8 :=
  if standsS [34] D σ = true ∨ standsS [39] D σ = true then
    if endsB D σ = true then (openL (runW (qb (byteAt D σ.pos)) D (go_ σ (σ.pos + 1)))).1 else []
  else []
def quotedS (D : List UInt8) (σ : St) : St :=
  if standsS [34] D σ = true ∨ standsS [39] D σ = true then
    if endsB D σ = true then openedS (runW (qb (byteAt D σ.pos)) D (go_ σ (σ.pos + 1))) (σ.pos + 1) (go_ (quoteS D σ) ((quoteS D σ).pos + 1)) else wrongS 3 (σ.pos + 1) (quoteS D σ)
  else wrongS 3 σ.pos σ
/-- An attribute, up to its text. -/
def attrP (D : List UInt8) (σ : St) : St := whileS bb D (mustS [61] D (whileS bb D (nameS D σ)))
def attrV (D : List UInt8) (σ : St) : List UInt8 × List UInt8 := (runW nb D σ, quotedV D (attrP D σ))
def attrS (D : List UInt8) (ahead : List (List UInt8 × List UInt8)) (σ : St) : St :=
  if ahead.any (fun a => a.1 == runW nb D σ) = true then wrongS 7 σ.pos (quotedS D (attrP D σ)) else quotedS D (attrP D σ)
def openF_ : Nat → List UInt8 → List UInt8 → List (List UInt8 × List UInt8) → St → Pc × St
  | 0, _, _, _, σ => (pc0, σ)
  | f + 1, D, n, al, σ =>
    if σ.err = 0 then
      if standsS [62] D (whileS bb D σ) = true then (⟨1, n, al, [], 0⟩, skipS [62] D (whileS bb D σ))
      else if standsS [47, 62] D (whileS bb D σ) = true then (⟨3, n, al, [], 0⟩, skipS [47, 62] D (whileS bb D σ))
      else if runW bb D σ = [] ∨ al.length = 16 then openF_ f D n al (wrongS 3 (whileS bb D σ).pos (whileS bb D σ))
      else openF_ f D n (al ++ [attrV D (whileS bb D σ)]) (attrS D al (whileS bb D σ))
    else (pc0, σ)
def openingS (D : List UInt8) (σ : St) : Pc × St := openF_ 19 D (runW nb D σ) [] (nameS D σ)
def rawC (D : List UInt8) (σ : St) : List UInt8 × List UInt8 × Bool := cut (D.drop σ.pos) [93, 93, 62]
def rawS (D : List UInt8) (σ : St) : Pc × St :=
  (⟨4, [], [], (rawC D σ).1, 0⟩, go_ (lettersS (rawC D σ).1 σ.pos (if (rawC D σ).2.2 = true then σ else wrongS 3 σ.pos σ)) (D.length - (rawC D σ).2.1.length))
def textS (D : List UInt8) (σ : St) : Pc × St := (⟨4, [], [], (openL (runW tb D σ)).1, 0⟩, openedS (runW tb D σ) σ.pos (whileS tb D σ))
def closingS (D : List UInt8) (σ : St) : Pc × St := (⟨2, runW nb D σ, [], [], 0⟩, mustS [62] D (whileS bb D (nameS D σ)))
def bRaw : List UInt8 := [60, 33, 91, 67, 68, 65, 84, 65, 91]
def pieceR (D : List UInt8) (σ : St) : Pc × St :=
  if standsS bRaw D σ = true then rawS D (skipS bRaw D σ)
  else if standsS [60, 47] D σ = true then closingS D (skipS [60, 47] D σ)
  else if standsS [60] D σ = true then openingS D (skipS [60] D σ)
  else textS D σ
def setAt (p : Pc) (a : Int) : Pc := ⟨p.kind, p.name, p.attrs, p.text, a⟩
def pieceS (D : List UInt8) (σ : St) : Pc × St := (setAt (pieceR D σ).1 σ.pos, (pieceR D σ).2)
def passC (b e D : List UInt8) (σ : St) : List UInt8 × List UInt8 × Bool := cut (D.drop (σ.pos + b.length)) e
def passS (b e : List UInt8) (may : List UInt8 → Bool) (D : List UInt8) (σ : St) : St :=
  if (passC b e D σ).2.2 = true ∧ may (passC b e D σ).1 = true then go_ σ (D.length - (passC b e D σ).2.1.length) else wrongS 3 σ.pos σ
def mayC (x : List UInt8) : Bool := !contains x [45, 45] && !hasSuffix x [45]
def mayH (_ : List UInt8) : Bool := true
def bCom : List UInt8 := [60, 33, 45, 45]
def eCom : List UInt8 := [45, 45, 62]
def bHint : List UInt8 := [60, 63]
def eHint : List UInt8 := [63, 62]
def passF : Nat → List UInt8 → St → St
  | 0, _, σ => σ
  | f + 1, D, σ =>
    if σ.err = 0 then
      if standsS bCom D σ = true then passF f D (passS bCom eCom mayC D σ)
      else if standsS bHint D σ = true then passF f D (passS bHint eHint mayH D σ)
      else σ
    else σ
def passAllS (D : List UInt8) (σ : St) : St := passF (D.length + 1) D σ
def nextP (D : List UInt8) (σ : St) : Pc :=
  if (passAllS D σ).err = 0 ∧ (passAllS D σ).pos < D.length then
    if (pieceS D (passAllS D σ)).2.err = 0 then (pieceS D (passAllS D σ)).1 else pc0
  else pc0
def nextS (D : List UInt8) (σ : St) : St :=
  if (passAllS D σ).err = 0 ∧ (passAllS D σ).pos < D.length then (pieceS D (passAllS D σ)).2 else passAllS D σ
def newS (D : List UInt8) : St := if 200000 < D.length then ⟨0, 5, 200000⟩ else if 0 ≤ badL D then ⟨0, 2, badL D⟩ else ⟨0, 0, 0⟩

/-! ### what holds of a place, always -/
structure Fine (n : Nat) (σ : St) : Prop where
  pos : σ.pos ≤ n
  err : σ.err = 0 ∨ σ.err = 3 ∨ σ.err = 7
  lo : 0 ≤ σ.wrg
  hi : σ.wrg ≤ n
theorem Fine.wrong {n : Nat} {σ : St} (h : Fine n σ) (e a : Int) (he : e = 3 ∨ e = 7) (h0 : 0 ≤ a) (h1 : a ≤ n) : Fine n (wrongS e a σ) := by
  unfold wrongS
  split
  · exact ⟨h.pos, .inr he, h0, h1⟩
  · exact h
theorem Fine.go {n : Nat} {σ : St} (h : Fine n σ) (p : Nat) (hp : p ≤ n) : Fine n (go_ σ p) := ⟨hp, h.err, h.lo, h.hi⟩
theorem wrong_pos (e a : Int) (σ : St) : (wrongS e a σ).pos = σ.pos := by unfold wrongS; split <;> rfl
theorem wrong_err (e a : Int) (σ : St) (he : e ≠ 0) : (wrongS e a σ).err ≠ 0 := by
  unfold wrongS; split
  · exact he
  · assumption
theorem stands_len {p D : List UInt8} {σ : St} (h : standsS p D σ = true) (hp : p ≠ []) : σ.pos + p.length ≤ D.length := by
  unfold standsS at h
  have h1 := (List.isPrefixOf_iff_prefix.1 h).length_le
  rw [List.length_drop] at h1
  have h2 : p.length ≠ 0 := fun e => hp (List.eq_nil_of_length_eq_zero e)
  omega
theorem run_len (h : UInt8 → Bool) (D : List UInt8) (σ : St) : (runW h D σ).length ≤ D.length - σ.pos := by
  unfold runW
  have h1 := (List.takeWhile_prefix (p := h) (l := D.drop σ.pos)).length_le
  rw [List.length_drop] at h1
  exact h1
theorem Fine.while_ {D : List UInt8} {σ : St} (h : Fine D.length σ) (f : UInt8 → Bool) : Fine D.length (whileS f D σ) := by
  have h1 := run_len f D σ
  have h2 := h.pos
  exact h.go _ (by omega)
theorem Fine.skip {p D : List UInt8} {σ : St} (h : Fine D.length σ) (hp : p ≠ []) : Fine D.length (skipS p D σ) := by
  unfold skipS
  split
  · rename_i hs; exact h.go _ (stands_len hs hp)
  · exact h
theorem Fine.must {p D : List UInt8} {σ : St} (h : Fine D.length σ) (hp : p ≠ []) : Fine D.length (mustS p D σ) := by
  unfold mustS
  have := h.pos
  split
  · rename_i hs; exact h.go _ (stands_len hs hp)
  · exact h.wrong _ _ (.inl rfl) (by omega) (by omega)
theorem textL_lt (x : List UInt8) (h : 0 ≤ textL x) : textL x < x.length := by
  unfold textL at h ⊢
  split
  · omega
  · rename_i hn; rw [if_neg hn] at h; omega
theorem openF_lt : ∀ (f : Nat) (l done : List UInt8) (a : Nat), (openF f l done a).2 < a + l.length ∧ -1 ≤ (openF f l done a).2 ∨ (openF f l done a).2 = -1
  | 0, l, done, a => by unfold openF; exact .inr rfl
  | f + 1, [], done, a => by unfold openF; exact .inr rfl
  | f + 1, c :: l, done, a => by
    unfold openF
    have hl : (c :: l).length = l.length + 1 := rfl
    split
    · have ih := openF_lt f l (done ++ [c]) (a + 1)
      rcases ih with ih | ih
      · left; omega
      · right; exact ih
    · split
      · rename_i h2
        have ih := openF_lt f (l.drop (semi l + 1)) (done ++ put (oneL (l.take (semi l)))) (a + semi l + 2)
        have hd : (l.drop (semi l + 1)).length = l.length - (semi l + 1) := List.length_drop
        rcases ih with ih | ih
        · left; omega
        · right; exact ih
      · left; simp only [hl]; omega
theorem openL_lt (x : List UInt8) (h : 0 ≤ (openL x).2) : (openL x).2 < x.length := by
  have := openF_lt x.length x [] 0
  unfold openL at h ⊢
  rcases this with h1 | h1
  · omega
  · omega
theorem Fine.letters {n : Nat} {σ : St} (h : Fine n σ) (x : List UInt8) (a : Nat) (ha : a + x.length ≤ n) : Fine n (lettersS x a σ) := by
  unfold lettersS
  split
  · rename_i h0; have := textL_lt x h0; exact h.wrong _ _ (.inl rfl) (by omega) (by omega)
  · exact h
theorem Fine.opened {n : Nat} {σ : St} (h : Fine n σ) (x : List UInt8) (a : Nat) (ha : a + x.length ≤ n) : Fine n (openedS x a σ) := by
  unfold openedS
  have h1 := h.letters x a ha
  split
  · rename_i h0; have := openL_lt x h0; exact h1.wrong _ _ (.inl rfl) (by omega) (by omega)
  · exact h1
theorem letters_pos (x : List UInt8) (a : Int) (σ : St) : (lettersS x a σ).pos = σ.pos := by unfold lettersS; split <;> simp [wrong_pos]
theorem opened_pos (x : List UInt8) (a : Int) (σ : St) : (openedS x a σ).pos = σ.pos := by unfold openedS; split <;> simp [wrong_pos, letters_pos]
theorem Fine.name {D : List UInt8} {σ : St} (h : Fine D.length σ) : Fine D.length (nameS D σ) := by
  unfold nameS
  have := h.pos
  split
  · exact h.while_ _
  · exact (h.while_ _).wrong _ _ (.inl rfl) (by omega) (by omega)
theorem while_pos (f : UInt8 → Bool) (D : List UInt8) (σ : St) : (whileS f D σ).pos = σ.pos + (runW f D σ).length := rfl
theorem name_pos (D : List UInt8) (σ : St) : (nameS D σ).pos = σ.pos + (runW nb D σ).length := by unfold nameS; split <;> simp [wrong_pos, while_pos]
theorem must_pos (p D : List UInt8) (σ : St) : σ.pos ≤ (mustS p D σ).pos := by
  unfold mustS; split
  · exact Nat.le_add_right _ _
  · rw [wrong_pos]; exact Nat.le_refl _
theorem quote_fine {D : List UInt8} {σ : St} (h : Fine D.length σ) (hs : σ.pos < D.length) : Fine D.length (quoteS D σ) := (h.go _ (by omega)).while_ _
theorem quote_pos (D : List UInt8) (σ : St) : (quoteS D σ).pos = σ.pos + 1 + (runW (qb (byteAt D σ.pos)) D (go_ σ (σ.pos + 1))).length := rfl
theorem Fine.quoted {D : List UInt8} {σ : St} (h : Fine D.length σ) : Fine D.length (quotedS D σ) ∧ σ.pos ≤ (quotedS D σ).pos := by
  unfold quotedS
  have hp := h.pos
  split
  · rename_i hs
    have hl : σ.pos < D.length := by rcases hs with hs | hs <;> (have := stands_len hs (by decide); simp at this; omega)
    have hq := quote_fine h hl
    have hqp := quote_pos D σ
    split
    · rename_i he
      have he' : (quoteS D σ).pos < D.length := by unfold endsB at he; simp at he; exact he.1
      refine ⟨(hq.go _ (by omega)).opened _ (σ.pos + 1) (by omega), ?_⟩
      rw [opened_pos]; show _ ≤ (quoteS D σ).pos + 1; omega
    · refine ⟨hq.wrong _ _ (.inl rfl) (by omega) (by omega), ?_⟩
      rw [wrong_pos]; omega
  · refine ⟨h.wrong _ _ (.inl rfl) (by omega) (by omega), ?_⟩
    rw [wrong_pos]; omega
theorem Fine.attrp {D : List UInt8} {σ : St} (h : Fine D.length σ) : Fine D.length (attrP D σ) ∧ σ.pos ≤ (attrP D σ).pos := by
  unfold attrP
  refine ⟨(((h.name).while_ _).must (by decide)).while_ _, ?_⟩
  rw [while_pos]
  have h1 := must_pos [61] D (whileS bb D (nameS D σ))
  rw [while_pos, name_pos] at h1
  omega
theorem Fine.attr {D : List UInt8} {σ : St} (h : Fine D.length σ) (al : List (List UInt8 × List UInt8)) : Fine D.length (attrS D al σ) ∧ σ.pos ≤ (attrS D al σ).pos := by
  unfold attrS
  have h1 := h.attrp
  have h2 := h1.1.quoted
  have hp := h.pos
  split
  · exact ⟨h2.1.wrong _ _ (.inr rfl) (by omega) (by omega), by rw [wrong_pos]; omega⟩
  · exact ⟨h2.1, by omega⟩
theorem opening_fine : ∀ (f : Nat) (D n : List UInt8) (al : List (List UInt8 × List UInt8)) (σ : St), Fine D.length σ → Fine D.length (openF_ f D n al σ).2 ∧ σ.pos ≤ (openF_ f D n al σ).2.pos ∧
    ((openF_ f D n al σ).1.kind = 1 ∨ (openF_ f D n al σ).1.kind = 3 ∨ (openF_ f D n al σ).1 = pc0)
  | 0, D, n, al, σ, h => ⟨h, Nat.le_refl _, .inr (.inr rfl)⟩
  | f + 1, D, n, al, σ, h => by
    unfold openF_
    split
    · have h1 := h.while_ bb
      have hw := while_pos bb D σ
      split
      · refine ⟨h1.skip (by decide), ?_, .inl rfl⟩
        rename_i hs; unfold skipS; rw [if_pos hs]; show _ ≤ (whileS bb D σ).pos + _; omega
      split
      · refine ⟨h1.skip (by decide), ?_, .inr (.inl rfl)⟩
        rename_i hs; unfold skipS; rw [if_pos hs]; show _ ≤ (whileS bb D σ).pos + _; omega
      split
      · have hp := h1.pos
        have ih := opening_fine f D n al (wrongS 3 (whileS bb D σ).pos (whileS bb D σ)) (h1.wrong _ _ (.inl rfl) (by omega) (by omega))
        refine ⟨ih.1, ?_, ih.2.2⟩
        have := ih.2.1; rw [wrong_pos] at this; omega
      · have h2 := h1.attr al
        have ih := opening_fine f D n (al ++ [attrV D (whileS bb D σ)]) (attrS D al (whileS bb D σ)) h2.1
        exact ⟨ih.1, by omega, ih.2.2⟩
    · exact ⟨h, Nat.le_refl _, .inr (.inr rfl)⟩

end Go.Proofs.YtnlkpdodacphkaaGreatDoor

namespace Go.Proofs.YtnlkpdodacphkaaGreatDoor
open Go.Lib

theorem pass_fine (b e : List UInt8) (may : List UInt8 → Bool) (D : List UInt8) (σ : St) (h : Fine D.length σ) (hb : σ.pos + b.length ≤ D.length) : Fine D.length (passS b e may D σ) ∧ σ.pos ≤ (passS b e may D σ).pos := by
  unfold passS
  have hp := h.pos
  by_cases hc : (passC b e D σ).2.2 = true ∧ may (passC b e D σ).1 = true
  · rw [if_pos hc]
    have hY : (passC b e D σ).2.1.length ≤ D.length - (σ.pos + b.length) := by
      unfold passC Lib.cut
      split
      · simp only [List.length_drop]; omega
      · simp
    refine ⟨h.go _ (by omega), ?_⟩
    show _ ≤ D.length - _
    omega
  · rw [if_neg hc]
    exact ⟨h.wrong _ _ (.inl rfl) (by omega) (by omega), by rw [wrong_pos]; exact Nat.le_refl _⟩
theorem passF_fine (D : List UInt8) : ∀ (f : Nat) (σ : St), Fine D.length σ → Fine D.length (passF f D σ) ∧ σ.pos ≤ (passF f D σ).pos
  | 0, σ, h => ⟨h, Nat.le_refl _⟩
  | f + 1, σ, h => by
    unfold passF
    split
    · split
      · rename_i hs
        have h1 := pass_fine bCom eCom mayC D σ h (stands_len hs (by decide))
        have h2 := passF_fine D f _ h1.1
        exact ⟨h2.1, by omega⟩
      · split
        · rename_i hs
          have h1 := pass_fine bHint eHint mayH D σ h (stands_len hs (by decide))
          have h2 := passF_fine D f _ h1.1
          exact ⟨h2.1, by omega⟩
        · exact ⟨h, Nat.le_refl _⟩
    · exact ⟨h, Nat.le_refl _⟩
theorem opening_end : ∀ (f : Nat) (D n : List UInt8) (al : List (List UInt8 × List UInt8)) (σ : St), 1 ≤ f → (σ.err = 0 → 18 ≤ f + al.length) → al.length ≤ 16 → (openF_ f D n al σ).1.kind = 0 → (openF_ f D n al σ).2.err ≠ 0
  | 0, _, _, _, _, h, _, _, _ => absurd h (by decide)
  | f + 1, D, n, al, σ, _, hm, hl, hk => by
    unfold openF_ at hk ⊢
    by_cases he : σ.err = 0
    · rw [if_pos he] at hk ⊢
      have hm := hm he
      by_cases h1 : standsS [62] D (whileS bb D σ) = true
      · rw [if_pos h1] at hk; exact absurd hk (show ¬ (1 : Int) = 0 by decide)
      rw [if_neg h1] at hk ⊢
      by_cases h2 : standsS [47, 62] D (whileS bb D σ) = true
      · rw [if_pos h2] at hk; exact absurd hk (show ¬ (3 : Int) = 0 by decide)
      rw [if_neg h2] at hk ⊢
      by_cases h3 : runW bb D σ = [] ∨ al.length = 16
      · rw [if_pos h3] at hk ⊢
        exact opening_end f D n al _ (by omega) (fun h => absurd h (wrong_err _ _ _ (by decide))) hl hk
      · rw [if_neg h3] at hk ⊢
        have hl' : al.length < 16 := by
          have : al.length ≠ 16 := fun h => h3 (.inr h)
          omega
        exact opening_end f D n _ _ (by omega) (fun _ => by rw [List.length_append]; simp; omega) (by rw [List.length_append]; simp; omega) hk
    · rw [if_neg he]; exact he
theorem while_some (D : List UInt8) (σ : St) (hin : σ.pos < D.length) (h : standsS [60] D σ = false) : 1 ≤ (runW tb D σ).length := by
  unfold runW
  unfold standsS at h
  rw [List.drop_eq_getElem_cons hin] at h ⊢
  have hne : ¬ (60 = D[σ.pos]) := by
    intro e
    rw [← e] at h
    simp [List.isPrefixOf] at h
  rw [List.takeWhile_cons]
  have : tb D[σ.pos] = true := by unfold tb; simp; exact fun e => hne e.symm
  rw [if_pos this]
  simp
theorem skip_stands {p D : List UInt8} {σ : St} (h : standsS p D σ = true) : skipS p D σ = go_ σ (σ.pos + p.length) := by unfold skipS; rw [if_pos h]
theorem piece_fine (D : List UInt8) (σ : St) (h : Fine D.length σ) (hin : σ.pos < D.length) :
    Fine D.length (pieceS D σ).2 ∧ σ.pos < (pieceS D σ).2.pos ∧ ((pieceS D σ).1.kind = 0 → (pieceS D σ).2.err ≠ 0) ∧ (pieceS D σ).1.at_ = σ.pos := by
  have key : Fine D.length (pieceR D σ).2 ∧ σ.pos < (pieceR D σ).2.pos ∧ ((pieceR D σ).1.kind = 0 → (pieceR D σ).2.err ≠ 0) := by
    unfold pieceR
    by_cases h1 : standsS bRaw D σ = true
    · rw [if_pos h1, skip_stands h1]
      have hb : bRaw.length = 9 := rfl
      have hl := stands_len h1 (by decide)
      rw [hb] at hl ⊢
      have hf := h.go (σ.pos + 9) hl
      have hX : (rawC D (go_ σ (σ.pos + 9))).1.length ≤ D.length - (σ.pos + 9) ∧ (rawC D (go_ σ (σ.pos + 9))).2.1.length ≤ D.length - (σ.pos + 9) := by
        unfold rawC Lib.cut
        show _ ≤ _ ∧ _ ≤ _
        split
        · simp only [List.length_take, List.length_drop]; simp [go_]; omega
        · simp [go_]
      have hf2 : Fine D.length (if (rawC D (go_ σ (σ.pos + 9))).2.2 = true then go_ σ (σ.pos + 9) else wrongS 3 (go_ σ (σ.pos + 9)).pos (go_ σ (σ.pos + 9))) := by
        split
        · exact hf
        · exact hf.wrong _ _ (.inl rfl) (by show (0 : Int) ≤ ((σ.pos + 9 : Nat) : Int); omega) (by show ((σ.pos + 9 : Nat) : Int) ≤ _; omega)
      have hf3 := hf2.letters (rawC D (go_ σ (σ.pos + 9))).1 (σ.pos + 9) (by omega)
      refine ⟨hf3.go _ (by omega), ?_, fun hk => absurd hk (show ¬ (4 : Int) = 0 by decide)⟩
      show σ.pos < D.length - _
      omega
    rw [if_neg h1]
    by_cases h2 : standsS [60, 47] D σ = true
    · rw [if_pos h2, skip_stands h2]
      have hl := stands_len h2 (by decide)
      have hb : ([60, 47] : List UInt8).length = 2 := rfl
      rw [hb] at hl ⊢
      have hf := h.go (σ.pos + 2) hl
      refine ⟨((hf.name).while_ _).must (by decide), ?_, fun hk => absurd hk (show ¬ (2 : Int) = 0 by decide)⟩
      have h3 := must_pos [62] D (whileS bb D (nameS D (go_ σ (σ.pos + 2))))
      rw [while_pos, name_pos] at h3
      have h4 : (go_ σ (σ.pos + 2)).pos = σ.pos + 2 := rfl
      show σ.pos < (mustS [62] D (whileS bb D (nameS D (go_ σ (σ.pos + 2))))).pos
      omega
    rw [if_neg h2]
    by_cases h3 : standsS [60] D σ = true
    · rw [if_pos h3, skip_stands h3]
      have hl := stands_len h3 (by decide)
      have hb : ([60] : List UInt8).length = 1 := rfl
      rw [hb] at hl ⊢
      have hf := h.go (σ.pos + 1) hl
      have ho := opening_fine 19 D (runW nb D (go_ σ (σ.pos + 1))) [] (nameS D (go_ σ (σ.pos + 1))) hf.name
      refine ⟨ho.1, ?_, fun hk => opening_end 19 D _ [] _ (by decide) (fun _ => by decide) (by decide) hk⟩
      have h4 := ho.2.1
      rw [name_pos] at h4
      have h5 : (go_ σ (σ.pos + 1)).pos = σ.pos + 1 := rfl
      show σ.pos < (openF_ 19 D (runW nb D (go_ σ (σ.pos + 1))) [] (nameS D (go_ σ (σ.pos + 1)))).2.pos
      omega
    rw [if_neg h3]
    have hw := while_some D σ hin (by simpa using h3)
    have hr := run_len tb D σ
    refine ⟨(h.while_ tb).opened _ σ.pos (by omega), ?_, fun hk => absurd hk (show ¬ (4 : Int) = 0 by decide)⟩
    show σ.pos < (openedS _ _ _).pos
    rw [opened_pos, while_pos]
    omega
  exact ⟨key.1, key.2.1, key.2.2, rfl⟩
/-- Fine, or no letters. -/
def Any_ (n : Nat) (σ : St) : Prop := Fine n σ ∨ (σ.err = 2 ∧ σ.pos ≤ n ∧ 0 ≤ σ.wrg ∧ σ.wrg ≤ n)
theorem next_any (D : List UInt8) (σ : St) (h : Any_ D.length σ) : Any_ D.length (nextS D σ) ∧ ((nextP D σ).kind = 0 → (nextS D σ).err = 0 → (nextS D σ).pos = D.length) ∧
    ((nextP D σ).kind ≠ 0 → (σ.pos : Int) ≤ (nextP D σ).at_ ∧ (nextP D σ).at_ < (nextS D σ).pos ∧ (nextP D σ).at_ < D.length) := by
  rcases h with h | ⟨h1, h2, h3, h4⟩
  · have hp := passF_fine D (D.length + 1) σ h
    unfold nextP nextS passAllS
    generalize passF (D.length + 1) D σ = σ1 at hp ⊢
    by_cases hc : σ1.err = 0 ∧ σ1.pos < D.length
    · rw [if_pos hc, if_pos hc]
      have hq := piece_fine D σ1 hp.1 hc.2
      refine ⟨.inl hq.1, fun hk he => ?_, fun hk => ?_⟩
      · rw [if_pos he] at hk
        exact absurd he (hq.2.2.1 hk)
      · by_cases he : (pieceS D σ1).2.err = 0
        · rw [if_pos he, hq.2.2.2]
          have := hq.2.1
          exact ⟨by omega, by omega, by omega⟩
        · rw [if_neg he] at hk; exact absurd rfl hk
    · rw [if_neg hc, if_neg hc]
      refine ⟨.inl hp.1, fun _ he => ?_, fun hk => absurd rfl hk⟩
      have := hp.1.pos
      have : ¬ σ1.pos < D.length := fun h => hc ⟨he, h⟩
      omega
  · have hp : passAllS D σ = σ := by
      unfold passAllS passF
      rw [if_neg (by rw [h1]; decide)]
    have hc : ¬ (σ.err = 0 ∧ σ.pos < D.length) := fun h => by rw [h1] at h; exact absurd h.1 (by decide)
    unfold nextP nextS
    rw [hp, if_neg hc, if_neg hc]
    exact ⟨.inr ⟨h1, h2, h3, h4⟩, fun _ he => absurd he (by rw [h1]; decide), fun hk => absurd rfl hk⟩
theorem new_any (D : List UInt8) (h : D.length ≤ 200000) : Any_ D.length (newS D) ∧ (newS D).pos = 0 := by
  unfold newS
  rw [if_neg (by omega)]
  split
  · rename_i hb
    have : badL D < D.length := by unfold badL at hb ⊢; split <;> rename_i hh; omega; rw [if_neg hh] at hb; omega
    exact ⟨.inr ⟨rfl, Nat.zero_le _, hb, by show badL D ≤ _; omega⟩, rfl⟩
  · exact ⟨.inl ⟨Nat.zero_le _, .inl rfl, Int.le_refl _, by show (0 : Int) ≤ _; omega⟩, rfl⟩
end Go.Proofs.YtnlkpdodacphkaaGreatDoor

namespace Go.Proofs.YtnlkpdodacphkaaGreatDoor
open Go Go.Lib

theorem ref_take : ∀ (f n : Nat) (l : List UInt8), (refFrom f n l).2 ≠ 0 → l.take (refFrom f n l).2.toNat = put (refFrom f n l).1
  | 0, n, l, h => absurd rfl h
  | f + 1, n, l, h => by
    unfold refFrom at h ⊢
    by_cases h1 : n ≤ l.length
    · rw [if_pos h1] at h ⊢
      by_cases h2 : put (candN n l) = l.take n
      · rw [if_pos h2] at h ⊢
        simp only [Int.toNat_natCast]
        exact h2.symm
      · rw [if_neg h2] at h ⊢
        exact ref_take f (n + 1) l h
    · rw [if_neg h1] at h; exact absurd rfl h
theorem gl_take (l : List UInt8) (h : (gl l).2 ≠ 0) : l.take (gl l).2.toNat = put (gl l).1 := by
  rw [gl_from] at h ⊢
  exact ref_take 4 1 l h
/-- All letters may stand in a text. -/
def Lets (l : List UInt8) : Prop := ∃ rs : List Int, (∀ r ∈ rs, letB r = true) ∧ l = rs.flatMap put
theorem Lets.nil : Lets [] := ⟨[], fun _ h => (by cases h), rfl⟩
theorem Lets.snoc {l : List UInt8} (h : Lets l) (r : Int) (hr : letB r = true) : Lets (l ++ put r) := by
  obtain ⟨rs, h1, rfl⟩ := h
  refine ⟨rs ++ [r], fun x hx => ?_, by simp⟩
  rcases List.mem_append.1 hx with hx | hx
  · exact h1 x hx
  · rw [List.mem_singleton.1 hx]; exact hr
theorem Lets.append {l m : List UInt8} (h : Lets l) (k : Lets m) : Lets (l ++ m) := by
  obtain ⟨rs, h1, rfl⟩ := h
  obtain ⟨qs, h2, rfl⟩ := k
  refine ⟨rs ++ qs, fun x hx => ?_, by simp⟩
  rcases List.mem_append.1 hx with hx | hx
  · exact h1 x hx
  · exact h2 x hx
theorem stop_lets : ∀ rs : List Int, (∀ r ∈ rs, letB r = true) → stopL (rs.flatMap put) = (rs.flatMap put).length
  | [], _ => rfl
  | r :: rs, h => by
    have hr := h r (List.mem_cons_self ..)
    have ih := stop_lets rs (fun x hx => h x (List.mem_cons_of_mem _ hx))
    rw [List.flatMap_cons]
    have hg := gl_put r (let_may r hr) (rs.flatMap put)
    rw [stopL_step _ (by rw [hg]; exact hr), hg]
    simp only [Int.toNat_natCast]
    rw [List.drop_left, ih, List.length_append]; omega
theorem Lets.text {l : List UInt8} (h : Lets l) : textL l = -1 := by
  obtain ⟨rs, h1, rfl⟩ := h
  unfold textL
  rw [stop_lets rs h1, if_neg (Nat.lt_irrefl _)]
theorem run_none : runL [255] = (0, 0) := by kernel_rfl
theorem run_lets : ∀ rs : List Int, (∀ r ∈ rs, letB r = true) → (runL (rs.flatMap put ++ [255])).2 = (rs.flatMap put).length
  | [], _ => by rw [List.flatMap_nil, List.nil_append, run_none]; rfl
  | r :: rs, h => by
    have hr := h r (List.mem_cons_self ..)
    have ih := run_lets rs (fun x hx => h x (List.mem_cons_of_mem _ hx))
    rw [List.flatMap_cons, List.append_assoc]
    have hg := gl_put r (let_may r hr) (rs.flatMap put ++ [255])
    have hp := put_pos r (let_may r hr)
    rw [runL_step _ (by rw [hg]; simp only; omega), hg]
    simp only [Int.toNat_natCast]
    rw [List.drop_left, ih, List.length_append]; omega
theorem Lets.bad {l : List UInt8} (h : Lets l) : badL (l ++ [255]) = l.length := by
  obtain ⟨rs, h1, rfl⟩ := h
  unfold badL
  rw [run_lets rs h1, if_pos (by rw [List.length_append]; simp)]
theorem next_err (D : List UInt8) (σ : St) (h : σ.err ≠ 0) : nextP D σ = pc0 ∧ nextS D σ = σ := by
  have hp : passAllS D σ = σ := by unfold passAllS passF; rw [if_neg h]
  have hc : ¬ (σ.err = 0 ∧ σ.pos < D.length) := fun h' => h h'.1
  unfold nextP nextS
  rw [hp, if_neg hc, if_neg hc]
  exact ⟨rfl, rfl⟩
theorem put_120 : put 120 = [120] := by kernel_rfl
theorem mask_i64 (n : Int) (i : Nat) (hi : i ≤ 62) (m : Int) (hm : m = 2 ^ i - 1) : ∃ k : Nat, k < 2 ^ i ∧ bits .and .i64 n m = (k : Int) := by
  subst hm
  have hpos : 0 < 2 ^ i := Nat.two_pow_pos i
  have hle : 2 ^ i ≤ 2 ^ 62 := Nat.pow_le_pow_right (by decide) hi
  have hc : ((2 : Int) ^ i - 1) = ((2 ^ i - 1 : Nat) : Int) := by rw [Int.natCast_sub hpos]; simp
  have h2 : (BitVec.ofInt 64 (((2 ^ i - 1 : Nat)) : Int)).toNat = 2 ^ i - 1 := by
    rw [BitVec.ofInt_natCast, BitVec.toNat_ofNat]; exact Nat.mod_eq_of_lt (by omega)
  refine ⟨(BitVec.ofInt 64 n).toNat % 2 ^ i, Nat.mod_lt _ hpos, ?_⟩
  show IntKind.i64.wrap ((BitVec.ofInt 64 n &&& BitVec.ofInt 64 ((2 : Int) ^ i - 1)).toNat : Int) = _
  rw [hc, BitVec.toNat_and, h2, Nat.and_two_pow_sub_one_eq_mod, IntKind.wrap_i64]
  have := Nat.mod_lt (BitVec.ofInt 64 n).toNat hpos
  omega

/-! ### the sixteen texts that are no pieces -/
def q0 : St := ⟨0, 0, 0⟩
def q1 : St := ⟨4, 0, 0⟩
end Go.Proofs.YtnlkpdodacphkaaGreatDoor

namespace Go.Proofs.YtnlkpdodacphkaaGreatDoor
open Go Go.Lib

def P_ (p : Nat) : St := ⟨p, 0, 0⟩
theorem drop_on {D x r : List UInt8} {p : Nat} (h : D.drop p = x ++ r) : D.drop (p + x.length) = r := by
  rw [← List.drop_drop, h, List.drop_left]
theorem drop_lt {D r : List UInt8} {p : Nat} {c : UInt8} (h : D.drop p = c :: r) : p < D.length := by
  have := congrArg List.length h
  rw [List.length_drop, List.length_cons] at this; omega
theorem byte_on {D r : List UInt8} {p : Nat} {c : UInt8} (h : D.drop p = c :: r) : byteAt D p = c := by
  have hl := drop_lt h
  rw [List.drop_eq_getElem_cons hl] at h
  unfold byteAt
  simp [List.getD, hl]
  exact (List.cons.inj h).1
theorem stands_yes {D x r : List UInt8} {p : Nat} (h : D.drop p = x ++ r) : standsS x D (P_ p) = true := by
  unfold standsS
  show x.isPrefixOf (D.drop p) = true
  rw [h]; exact List.isPrefixOf_iff_prefix.2 (List.prefix_append x r)
theorem stands_no {D x r : List UInt8} {p : Nat} {c y : UInt8} (h : D.drop p = c :: r) (hy : y ≠ c) : standsS (y :: x) D (P_ p) = false := by
  unfold standsS
  show (y :: x).isPrefixOf (D.drop p) = false
  rw [h]; simp [List.isPrefixOf, hy]
theorem stands_no2 {D x r : List UInt8} {p : Nat} {c d y : UInt8} (h : D.drop p = c :: d :: r) (hy : y ≠ d) : standsS (c :: y :: x) D (P_ p) = false := by
  unfold standsS
  show (c :: y :: x).isPrefixOf (D.drop p) = false
  rw [h]; simp [List.isPrefixOf, hy]
theorem stands_end {D x : List UInt8} {p : Nat} {y : UInt8} (h : D.drop p = []) : standsS (y :: x) D (P_ p) = false := by
  unfold standsS
  show (y :: x).isPrefixOf (D.drop p) = false
  rw [h]; rfl
/-- What follows begins with no such byte. -/
def Stops (h : UInt8 → Bool) (r : List UInt8) : Prop := r = [] ∨ ∃ c r', r = c :: r' ∧ h c = false
theorem Stops.cons {h : UInt8 → Bool} {c : UInt8} {r : List UInt8} (hc : h c = false) : Stops h (c :: r) := .inr ⟨c, r, rfl, hc⟩
theorem run_on {h : UInt8 → Bool} {D x r : List UInt8} {p : Nat} (hd : D.drop p = x ++ r) (hx : ∀ c ∈ x, h c = true) (hr : Stops h r) : runW h D (P_ p) = x ∧ whileS h D (P_ p) = P_ (p + x.length) := by
  have e : runW h D (P_ p) = x := by
    unfold runW
    show (D.drop p).takeWhile h = x
    rw [hd]
    clear hd
    induction x with
    | nil =>
      rcases hr with rfl | ⟨c, r', rfl, hc⟩
      · rfl
      · rw [List.nil_append, List.takeWhile_cons, if_neg (by rw [hc]; decide)]
    | cons a x ih =>
      rw [List.cons_append, List.takeWhile_cons, if_pos (hx a (List.mem_cons_self ..)), ih (fun c hc => hx c (List.mem_cons_of_mem _ hc))]
  refine ⟨e, ?_⟩
  unfold whileS
  rw [e]; rfl
/-- A name that parts may be read of. -/
structure Nm (n : List UInt8) : Prop where
  parts : ∀ c ∈ n, nb c = true
  split : (splitL n).2.2 = true
theorem name_on {D n r : List UInt8} {p : Nat} (hd : D.drop p = n ++ r) (hn : Nm n) (hr : Stops nb r) : runW nb D (P_ p) = n ∧ nameS D (P_ p) = P_ (p + n.length) := by
  have h := run_on hd hn.parts hr
  refine ⟨h.1, ?_⟩
  unfold nameS
  rw [h.1, h.2, if_pos hn.split]
theorem must_on {D x r : List UInt8} {p : Nat} (hd : D.drop p = x ++ r) : mustS x D (P_ p) = P_ (p + x.length) := by
  unfold mustS
  rw [if_pos (stands_yes hd)]; rfl
theorem skip_on {D x r : List UInt8} {p : Nat} (hd : D.drop p = x ++ r) : skipS x D (P_ p) = P_ (p + x.length) := by
  unfold skipS
  rw [if_pos (stands_yes hd)]; rfl

/-! ### letters that stand as names -/
theorem closeB_no (c : UInt8) : ∀ x ∈ closeB c, x ≠ 60 ∧ x ≠ 34 := by
  have key : ∀ i : Fin 256, ∀ x ∈ closeB (UInt8.ofNat i.val), x ≠ 60 ∧ x ≠ 34 := by decide +kernel
  have := key ⟨c.toNat, UInt8.toNat_lt c⟩
  rw [show UInt8.ofNat c.toNat = c by simp] at this
  exact this
theorem closeL_no (v : List UInt8) : ∀ x ∈ closeL v, x ≠ 60 ∧ x ≠ 34 := by
  intro x hx
  unfold closeL at hx
  obtain ⟨c, _, hc⟩ := List.mem_flatMap.1 hx
  exact closeB_no c x hc
theorem closeB_hi (c : UInt8) (h : 128 ≤ c.toNat) : closeB c = [c] := closeB_plain c (by omega) (by omega) (by omega) (by omega) (by omega) (by omega) (by omega)
theorem closeB_ne (c : UInt8) : closeB c ≠ [] := by
  intro e
  have := (closeB_len c).2
  rw [e] at this
  exact absurd this (by decide)
theorem asc_lets : ∀ l : List UInt8, (∀ c ∈ l, 32 ≤ c.toNat ∧ c.toNat < 128) → Lets l
  | [], _ => Lets.nil
  | c :: l, h => by
    have hc := h c (List.mem_cons_self ..)
    have ih := asc_lets l (fun x hx => h x (List.mem_cons_of_mem _ hx))
    have h1 : Lets [c] := by
      have := Lets.nil.snoc (c.toNat : Int) ((letB_iff _).2 (by omega))
      rw [List.nil_append, put_f1 _ (by omega)] at this
      simpa using this
    exact h1.append ih
theorem closeB_asc (c : UInt8) (h : c.toNat < 128) (hl : letB (c.toNat : Int) = true) : Lets (closeB c) := by
  have hput : put (c.toNat : Int) = [c] := by rw [put_f1 _ (by omega)]; simp
  have h1 : Lets [c] := by
    have := Lets.nil.snoc (c.toNat : Int) hl
    rw [List.nil_append, hput] at this; exact this
  by_cases hp : closeB c = [c]
  · rw [hp]; exact h1
  · have key : ∀ i : Fin 256, closeB (UInt8.ofNat i.val) ≠ [UInt8.ofNat i.val] → ∀ x ∈ closeB (UInt8.ofNat i.val), 32 ≤ x.toNat ∧ x.toNat < 128 := by decide +kernel
    have := key ⟨c.toNat, UInt8.toNat_lt c⟩
    rw [show UInt8.ofNat c.toNat = c by simp] at this
    exact asc_lets _ (this hp)
theorem closeL_hi : ∀ l : List UInt8, (∀ c ∈ l, 128 ≤ c.toNat) → closeL l = l
  | [], _ => rfl
  | c :: l, h => by
    rw [closeL_cons, closeB_hi c (h c (List.mem_cons_self ..)), closeL_hi l (fun x hx => h x (List.mem_cons_of_mem _ hx))]; rfl
theorem put_hi (r : Int) (h : letB r = true) (h1 : 128 ≤ r) : ∀ c ∈ put r, 128 ≤ c.toNat := by
  have hm := (letB_iff r).1 h
  intro c hc
  by_cases a : r < 2048
  · rw [put_f2 r (by omega)] at hc
    simp only [List.mem_cons, List.not_mem_nil, or_false] at hc
    rcases hc with rfl | rfl
    all_goals (rw [toNat_byte (by omega)]; omega)
  by_cases b : r < 65536
  · rw [put_f3 r (by omega) (by omega)] at hc
    simp only [List.mem_cons, List.not_mem_nil, or_false] at hc
    rcases hc with rfl | rfl | rfl
    all_goals (rw [toNat_byte (by omega)]; omega)
  · rw [put_f4 r (by omega)] at hc
    simp only [List.mem_cons, List.not_mem_nil, or_false] at hc
    rcases hc with rfl | rfl | rfl | rfl
    all_goals (rw [toNat_byte (by omega)]; omega)
theorem Lets.close {l : List UInt8} (h : Lets l) : Lets (closeL l) := by
  obtain ⟨rs, h1, rfl⟩ := h
  induction rs with
  | nil => exact Lets.nil
  | cons r rs ih =>
    rw [List.flatMap_cons, closeL_append]
    have hr := h1 r (List.mem_cons_self ..)
    refine Lets.append ?_ (ih (fun x hx => h1 x (List.mem_cons_of_mem _ hx)))
    have hm := (letB_iff r).1 hr
    by_cases a : r < 128
    · rw [put_f1 r (by omega), closeL_one]
      have e : (UInt8.ofNat r.toNat).toNat = r.toNat := toNat_byte (by omega)
      exact closeB_asc _ (by omega) (by rw [e, show ((r.toNat : Nat) : Int) = r by omega]; exact hr)
    · rw [closeL_hi _ (put_hi r hr (by omega))]
      have := Lets.nil.snoc r hr
      rw [List.nil_append] at this; exact this
theorem opened_on {v : List UInt8} (hv : Lets v) (a : Int) (σ : St) : openedS (closeL v) a σ = σ ∧ (openL (closeL v)).1 = v := by
  have h1 := hv.close.text
  have h2 := openL_closeL v
  refine ⟨?_, by rw [h2]⟩
  unfold openedS lettersS
  rw [h1, h2, if_neg (show ¬ 0 ≤ (-1 : Int) by decide), if_neg (show ¬ 0 ≤ (-1 : Int) by decide)]
theorem quoted_on {D v r : List UInt8} {p : Nat} (hd : D.drop p = 34 :: (closeL v ++ 34 :: r)) (hv : Lets v) : quotedS D (P_ p) = P_ (p + (1 + (closeL v).length + 1)) ∧ quotedV D (P_ p) = v := by
  have h0 : byteAt D (P_ p).pos = 34 := byte_on hd
  have hs : standsS [34] D (P_ p) = true := stands_yes (x := [34]) (r := closeL v ++ 34 :: r) hd
  have hd1 : D.drop (p + 1) = closeL v ++ 34 :: r := drop_on (x := [34]) hd
  have hrun := run_on (h := qb 34) hd1 (fun c hc => by have := closeL_no v c hc; unfold qb; simp [this.1, this.2]) (Stops.cons (by rfl))
  have hq : quoteS D (P_ p) = P_ (p + 1 + (closeL v).length) := by
    unfold quoteS
    rw [h0]
    exact hrun.2
  have hd2 : D.drop (p + 1 + (closeL v).length) = 34 :: r := drop_on hd1
  have he : endsB D (P_ p) = true := by
    unfold endsB
    rw [hq, h0]
    show (decide (p + 1 + (closeL v).length < D.length) && byteAt D (p + 1 + (closeL v).length) == 34) = true
    rw [byte_on hd2, decide_eq_true (drop_lt hd2)]; rfl
  have ho := opened_on hv (((P_ p).pos : Int) + 1) (go_ (quoteS D (P_ p)) ((quoteS D (P_ p)).pos + 1))
  have hr2 : runW (qb (byteAt D (P_ p).pos)) D (go_ (P_ p) ((P_ p).pos + 1)) = closeL v := by rw [h0]; exact hrun.1
  refine ⟨?_, ?_⟩
  · unfold quotedS
    rw [if_pos (.inl hs), if_pos he, hr2, ho.1, hq]
    show P_ (p + 1 + (closeL v).length + 1) = _
    rw [show p + 1 + (closeL v).length + 1 = p + (1 + (closeL v).length + 1) by omega]
  · unfold quotedV
    rw [if_pos (.inl hs), if_pos he, hr2]
    exact ho.2
theorem nb_61 : nb 61 = false := by kernel_rfl
theorem bb_61 : bb 61 = false := by kernel_rfl
theorem bb_34 : bb 34 = false := by kernel_rfl
def atT (n v : List UInt8) : List UInt8 := n ++ 61 :: 34 :: (closeL v ++ [34])
theorem attr_on {D n v r : List UInt8} {p : Nat} (hd : D.drop p = atT n v ++ r) (hn : Nm n) (hv : Lets v) (al : List (List UInt8 × List UInt8)) (ha : al.any (fun a => a.1 == n) = false) :
    attrV D (P_ p) = (n, v) ∧ attrS D al (P_ p) = P_ (p + (atT n v).length) := by
  have hd0 : D.drop p = n ++ (61 :: 34 :: (closeL v ++ 34 :: r)) := by rw [hd]; unfold atT; simp
  have h1 := name_on hd0 hn (Stops.cons nb_61)
  have hd1 := drop_on hd0
  have h2 := run_on (h := bb) (x := []) (r := 61 :: 34 :: (closeL v ++ 34 :: r)) hd1 (fun _ h => by cases h) (Stops.cons bb_61)
  have h3 := must_on (x := [61]) (r := 34 :: (closeL v ++ 34 :: r)) hd1
  have hd2 : D.drop (p + n.length + 1) = 34 :: (closeL v ++ 34 :: r) := drop_on (x := [61]) hd1
  have h4 := run_on (h := bb) (x := []) (r := 34 :: (closeL v ++ 34 :: r)) hd2 (fun _ h => by cases h) (Stops.cons bb_34)
  have hp : attrP D (P_ p) = P_ (p + n.length + 1) := by
    unfold attrP
    rw [h1.2, h2.2]
    show whileS bb D (mustS [61] D (P_ (p + n.length))) = _
    rw [h3]
    exact h4.2
  have h5 := quoted_on hd2 hv
  refine ⟨?_, ?_⟩
  · unfold attrV
    rw [h1.1, hp, h5.2]
  · unfold attrS
    rw [h1.1, ha, if_neg (by decide), hp, h5.1]
    unfold atT
    congr 1
    simp; omega

/-! ### elements -/
/-- Attributes, each behind blanks b. -/
def atsT (b : List UInt8) (A : List (List UInt8 × List UInt8)) : List UInt8 := A.flatMap fun a => b ++ atT a.1 a.2
/-- An attribute that may stand there. -/
structure AtOk (a : List UInt8 × List UInt8) : Prop where
  nm : Nm a.1
  lets : Lets a.2
  head : ∃ c r, a.1 = c :: r ∧ bb c = false ∧ c ≠ 62 ∧ c ≠ 47
/-- How a tag ends: > or />. -/
def Ends (e : List UInt8) (kd : Int) : Prop := (e = [62] ∧ kd = 1) ∨ (e = [47, 62] ∧ kd = 3)
theorem bb_62 : bb 62 = false := by kernel_rfl
theorem bb_47 : bb 47 = false := by kernel_rfl
theorem opening_on (D n b eb e r : List UInt8) (kd : Int) (hb : ∀ c ∈ b, bb c = true) (hb0 : b ≠ []) (heb : ∀ c ∈ eb, bb c = true) (he : Ends e kd) :
    ∀ (A al : List (List UInt8 × List UInt8)) (f p : Nat), A.length < f → al.length + A.length ≤ 16 → (∀ a ∈ A, AtOk a) → (∀ a ∈ A, al.any (fun x => x.1 == a.1) = false) → A.Pairwise (fun x y => (x.1 == y.1) = false) →
      D.drop p = atsT b A ++ (eb ++ (e ++ r)) → openF_ f D n al (P_ p) = (⟨kd, n, al ++ A, [], 0⟩, P_ (p + (atsT b A).length + eb.length + e.length))
  | [], al, 0, p, hf, _, _, _, _, _ => absurd hf (by decide)
  | a :: A, al, 0, p, hf, _, _, _, _, _ => absurd hf (Nat.not_lt_zero _)
  | [], al, f + 1, p, _, _, _, _, _, hd => by
    have hd' : D.drop p = eb ++ (e ++ r) := hd
    unfold openF_
    rw [if_pos (show (P_ p).err = 0 from rfl)]
    rcases he with ⟨rfl, rfl⟩ | ⟨rfl, rfl⟩
    · have hw := run_on hd' heb (Stops.cons bb_62)
      have hd2 := drop_on hd'
      rw [hw.2, if_pos (stands_yes hd2), skip_on hd2, List.append_nil]
      rfl
    · have hw := run_on hd' heb (Stops.cons bb_47)
      have hd2 := drop_on hd'
      have hno : standsS [62] D (P_ (p + eb.length)) = false := stands_no (x := []) (r := 62 :: r) hd2 (by decide)
      rw [hw.2, if_neg (by rw [hno]; decide), if_pos (stands_yes hd2), skip_on hd2, List.append_nil]
      rfl
  | a :: A, al, f + 1, p, hf, hl, ha, hn, hp, hd => by
    have hA := ha a (List.mem_cons_self ..)
    obtain ⟨c, cr, hc, hc1, hc2, hc3⟩ := hA.head
    have hd' : D.drop p = b ++ (atT a.1 a.2 ++ (atsT b A ++ (eb ++ (e ++ r)))) := by
      rw [hd]; unfold atsT; rw [List.flatMap_cons]; simp
    have hat : ∃ t, atT a.1 a.2 ++ (atsT b A ++ (eb ++ (e ++ r))) = c :: t := by unfold atT; rw [hc]; exact ⟨_, by simp; rfl⟩
    obtain ⟨t, ht⟩ := hat
    have hw := run_on hd' hb (by rw [ht]; exact Stops.cons hc1)
    have hd2 := drop_on hd'
    have hd3 : D.drop (p + b.length) = c :: t := by rw [hd2, ht]
    have h62 : standsS [62] D (P_ (p + b.length)) = false := stands_no (x := []) hd3 (fun e => hc2 e.symm)
    have h47 : standsS [47, 62] D (P_ (p + b.length)) = false := stands_no (x := [62]) hd3 (fun e => hc3 e.symm)
    have hattr := attr_on hd2 hA.nm hA.lets al (hn a (List.mem_cons_self ..))
    have hlen : al.length + (A.length + 1) ≤ 16 := by simpa using hl
    unfold openF_
    rw [if_pos (show (P_ p).err = 0 from rfl), hw.2, hw.1, if_neg (by rw [h62]; decide), if_neg (by rw [h47]; decide), if_neg (by rintro (h | h); exact hb0 h; omega), hattr.1, hattr.2]
    have hd4 := drop_on hd2
    have ih := opening_on D n b eb e r kd hb hb0 heb he A (al ++ [(a.1, a.2)]) f _ (by simpa using hf) (by rw [List.length_append]; simp; omega) (fun x hx => ha x (List.mem_cons_of_mem _ hx))
      (fun x hx => by
        rw [List.any_append, hn x (List.mem_cons_of_mem _ hx)]
        have := (List.pairwise_cons.1 hp).1 x hx
        simp [this]) (List.pairwise_cons.1 hp).2 hd4
    rw [ih]
    have e1 : (atsT b (a :: A)).length = b.length + (atT a.1 a.2).length + (atsT b A).length := by unfold atsT; rw [List.flatMap_cons]; simp; omega
    rw [e1]
    congr 1
    · simp
    · congr 1; omega
theorem bcom_no {D r : List UInt8} {p : Nat} {c : UInt8} (h : D.drop p = c :: r) (hc : c ≠ 60 ∨ ∃ d r', r = d :: r' ∧ d ≠ 33 ∧ d ≠ 63) : standsS bCom D (P_ p) = false ∧ standsS bHint D (P_ p) = false ∧ standsS bRaw D (P_ p) = false := by
  rcases hc with hc | ⟨d, r', rfl, h1, h2⟩
  · exact ⟨stands_no (x := [33, 45, 45]) h (fun e => hc e.symm), stands_no (x := [63]) h (fun e => hc e.symm), stands_no (x := [33, 91, 67, 68, 65, 84, 65, 91]) h (fun e => hc e.symm)⟩
  · by_cases hc : c = 60
    · subst hc
      exact ⟨stands_no2 (x := [45, 45]) h (fun e => h1 e.symm), stands_no2 (x := []) h (fun e => h2 e.symm), stands_no2 (x := [91, 67, 68, 65, 84, 65, 91]) h (fun e => h1 e.symm)⟩
    · exact ⟨stands_no (x := [33, 45, 45]) h (fun e => hc e.symm), stands_no (x := [63]) h (fun e => hc e.symm), stands_no (x := [33, 91, 67, 68, 65, 84, 65, 91]) h (fun e => hc e.symm)⟩
/-- Where no comment and no hint stands, the next piece is the one that stands there. -/
theorem next_on {D r : List UInt8} {p q : Nat} {c : UInt8} {Q : Pc} (h : D.drop p = c :: r) (hc : c ≠ 60 ∨ ∃ d r', r = d :: r' ∧ d ≠ 33 ∧ d ≠ 63) (hq : pieceR D (P_ p) = (Q, P_ q)) : nextP D (P_ p) = setAt Q p ∧ nextS D (P_ p) = P_ q := by
  have hb := bcom_no h hc
  have hp : passAllS D (P_ p) = P_ p := by
    unfold passAllS passF
    rw [if_pos (show (P_ p).err = 0 from rfl), if_neg (by rw [hb.1]; decide), if_neg (by rw [hb.2.1]; decide)]
  have hl := drop_lt h
  have hc : (P_ p).err = 0 ∧ (P_ p).pos < D.length := ⟨rfl, hl⟩
  unfold nextP nextS
  rw [hp, if_pos hc, if_pos hc]
  unfold pieceS
  rw [hq]
  exact ⟨if_pos rfl, rfl⟩
theorem next_end {D : List UInt8} {p : Nat} (h : D.drop p = []) (hp : p ≤ D.length) : nextP D (P_ p) = pc0 ∧ nextS D (P_ p) = P_ D.length := by
  have hl : p = D.length := by
    have := congrArg List.length h
    rw [List.length_drop, List.length_nil] at this; omega
  have hpass : passAllS D (P_ p) = P_ p := by
    unfold passAllS passF
    rw [if_pos (show (P_ p).err = 0 from rfl), if_neg (by rw [show standsS bCom D (P_ p) = false from stands_end h]; decide), if_neg (by rw [show standsS bHint D (P_ p) = false from stands_end h]; decide)]
  have hc : ¬ ((P_ p).err = 0 ∧ (P_ p).pos < D.length) := fun h => by have := h.2; have e : (P_ p).pos = p := rfl; omega
  unfold nextP nextS
  rw [hpass, if_neg hc, if_neg hc, hl]
  exact ⟨rfl, rfl⟩
theorem close_on {D n eb r : List UInt8} {p : Nat} (hn : Nm n) (heb : ∀ c ∈ eb, bb c = true) (hebn : ∀ c ∈ eb, nb c = false) (hd : D.drop p = 60 :: 47 :: (n ++ (eb ++ 62 :: r))) :
    nextP D (P_ p) = ⟨2, n, [], [], p⟩ ∧ nextS D (P_ p) = P_ (p + (2 + n.length + eb.length + 1)) := by
  refine next_on (Q := ⟨2, n, [], [], 0⟩) hd (.inr ⟨47, _, rfl, by decide, by decide⟩) ?_
  have hraw := (bcom_no hd (.inr ⟨47, _, rfl, by decide, by decide⟩)).2.2
  have hd1 : D.drop (p + 2) = n ++ (eb ++ 62 :: r) := drop_on (x := [60, 47]) hd
  have hst : Stops nb (eb ++ 62 :: r) := by
    cases eb with
    | nil => exact Stops.cons (by kernel_rfl)
    | cons c t => exact Stops.cons (hebn c (List.mem_cons_self ..))
  have h1 := name_on hd1 hn hst
  have hd2 := drop_on hd1
  have h2 := run_on hd2 heb (Stops.cons bb_62)
  have hd3 : D.drop (p + 2 + n.length + eb.length) = [62] ++ r := drop_on hd2
  unfold pieceR
  rw [if_neg (by rw [hraw]; decide), if_pos (show standsS [60, 47] D (P_ p) = true from stands_yes (x := [60, 47]) hd), show skipS [60, 47] D (P_ p) = P_ (p + 2) from skip_on (x := [60, 47]) hd]
  unfold closingS
  rw [h1.1, h1.2, h2.2, must_on hd3]
  congr 2; show p + 2 + n.length + eb.length + 1 = _; omega
theorem open_on {D n b eb e r : List UInt8} {kd : Int} {p : Nat} {A : List (List UInt8 × List UInt8)} (hn : Nm n) (hh : ∃ c r', n = c :: r' ∧ c ≠ 47 ∧ c ≠ 33 ∧ c ≠ 63) (hb : ∀ c ∈ b, bb c = true) (hbn : ∀ c ∈ b, nb c = false) (hb0 : b ≠ []) (heb : ∀ c ∈ eb, bb c = true) (hebn : ∀ c ∈ eb, nb c = false) (he : Ends e kd)
    (hA : ∀ a ∈ A, AtOk a) (hp : A.Pairwise (fun x y => (x.1 == y.1) = false)) (hl : A.length ≤ 16) (hd : D.drop p = 60 :: (n ++ (atsT b A ++ (eb ++ (e ++ r))))) :
    nextP D (P_ p) = ⟨kd, n, A, [], p⟩ ∧ nextS D (P_ p) = P_ (p + (1 + n.length + (atsT b A).length + eb.length + e.length)) := by
  obtain ⟨c, r', rfl, hc1, hc2, hc3⟩ := hh
  refine next_on (Q := ⟨kd, c :: r', A, [], 0⟩) hd (.inr ⟨c, _, rfl, hc2, hc3⟩) ?_
  have hraw := (bcom_no hd (.inr ⟨c, _, rfl, hc2, hc3⟩)).2.2
  have hd1 : D.drop (p + 1) = (c :: r') ++ (atsT b A ++ (eb ++ (e ++ r))) := drop_on (x := [60]) hd
  have hst : Stops nb (atsT b A ++ (eb ++ (e ++ r))) := by
    cases A with
    | cons a A =>
      cases b with
      | nil => exact absurd rfl hb0
      | cons x b => unfold atsT; rw [List.flatMap_cons]; exact Stops.cons (hbn x (List.mem_cons_self ..))
    | nil =>
      cases eb with
      | cons x eb => exact Stops.cons (hebn x (List.mem_cons_self ..))
      | nil =>
        rcases he with ⟨rfl, _⟩ | ⟨rfl, _⟩
        · exact Stops.cons (by kernel_rfl)
        · exact Stops.cons (by kernel_rfl)
  have h1 := name_on hd1 hn hst
  have hd2 := drop_on hd1
  have ho := opening_on D (c :: r') b eb e r kd hb hb0 heb he A [] 19 _ (by omega) (by simpa using hl) hA (fun _ _ => rfl) hp hd2
  unfold pieceR
  rw [if_neg (by rw [hraw]; decide), if_neg (by rw [show standsS [60, 47] D (P_ p) = false from stands_no2 (x := []) hd (fun e => hc1 e.symm)]; decide), if_pos (show standsS [60] D (P_ p) = true from stands_yes (x := [60]) hd),
    show skipS [60] D (P_ p) = P_ (p + 1) from skip_on (x := [60]) hd]
  unfold openingS
  rw [h1.1, h1.2, ho, List.nil_append]
  congr 2; omega
theorem tb_60 : tb 60 = false := by kernel_rfl
theorem text_on {D v r : List UInt8} {p : Nat} (hv : Lets v) (hv0 : v ≠ []) (hr : r = [] ∨ ∃ r', r = 60 :: r') (hd : D.drop p = closeL v ++ r) :
    nextP D (P_ p) = ⟨4, [], [], v, p⟩ ∧ nextS D (P_ p) = P_ (p + (closeL v).length) := by
  obtain ⟨c, t, hc⟩ : ∃ c t, closeL v = c :: t := by
    cases v with
    | nil => exact absurd rfl hv0
    | cons x v =>
      rw [closeL_cons]
      cases h : closeB x with
      | nil => exact absurd h (closeB_ne x)
      | cons y z => exact ⟨y, _, rfl⟩
  have hc60 : c ≠ 60 := (closeL_no v c (by rw [hc]; exact List.mem_cons_self ..)).1
  have hd' : D.drop p = c :: (t ++ r) := by rw [hd, hc]; rfl
  refine next_on (Q := ⟨4, [], [], v, 0⟩) hd' (.inl hc60) ?_
  have hraw := (bcom_no hd' (.inl hc60)).2.2
  have hrun := run_on (h := tb) hd (fun x hx => by have := (closeL_no v x hx).1; unfold tb; simp [this]) (by rcases hr with rfl | ⟨r', rfl⟩; exact .inl rfl; exact Stops.cons tb_60)
  have ho := opened_on hv ((P_ p).pos : Int) (P_ (p + (closeL v).length))
  unfold pieceR
  rw [if_neg (by rw [hraw]; decide), if_neg (by rw [show standsS [60, 47] D (P_ p) = false from stands_no (x := [47]) hd' (fun e => hc60 e.symm)]; decide), if_neg (by rw [show standsS [60] D (P_ p) = false from stands_no (x := []) hd' (fun e => hc60 e.symm)]; decide)]
  unfold textS
  rw [hrun.1, hrun.2, ho.1, ho.2]

/-! ### a comment with a hint says nothing -/
end Go.Proofs.YtnlkpdodacphkaaGreatDoor

namespace Go.Proofs.YtnlkpdodacphkaaGreatDoor
open Go Go.Lib

theorem run_lets0 : ∀ rs : List Int, (∀ r ∈ rs, letB r = true) → (runL (rs.flatMap put)).2 = (rs.flatMap put).length
  | [], _ => rfl
  | r :: rs, h => by
    have hr := h r (List.mem_cons_self ..)
    have ih := run_lets0 rs (fun x hx => h x (List.mem_cons_of_mem _ hx))
    rw [List.flatMap_cons]
    have hg := gl_put r (let_may r hr) (rs.flatMap put)
    have hp := put_pos r (let_may r hr)
    rw [runL_step _ (by rw [hg]; simp only; omega), hg]
    simp only [Int.toNat_natCast]
    rw [List.drop_left, ih, List.length_append]; omega
theorem Lets.ok {l : List UInt8} (h : Lets l) : badL l = -1 := by
  obtain ⟨rs, h1, rfl⟩ := h
  unfold badL
  rw [run_lets0 rs h1, if_neg (Nat.lt_irrefl _)]
/-- A byte of such a name. -/
def okN (c : UInt8) : Bool := partB (c.toNat : Int) && decide (c ≠ 58 ∧ c ≠ 63 ∧ 32 ≤ c.toNat ∧ c.toNat < 128)
theorem okN_iff {c : UInt8} (h : okN c = true) : partB (c.toNat : Int) = true ∧ c ≠ 58 ∧ c ≠ 63 ∧ 32 ≤ c.toNat ∧ c.toNat < 128 := by
  unfold okN at h
  rw [Bool.and_eq_true, decide_eq_true_iff] at h
  exact ⟨h.1, h.2⟩
theorem ok_lets {n : List UInt8} (h : ∀ c ∈ n, okN c = true) : Lets n := asc_lets n (fun c hc => by have := okN_iff (h c hc); omega)
theorem ok_colon {n : List UInt8} (h : ∀ c ∈ n, okN c = true) : colonAt n = n.length := by
  induction n with
  | nil => rfl
  | cons c n ih => rw [colonAt_miss c n (okN_iff (h c (List.mem_cons_self ..))).2.1, ih (fun x hx => h x (List.mem_cons_of_mem _ hx)), List.length_cons]
theorem ok_name {c : UInt8} {n : List UInt8} (h : ∀ x ∈ c :: n, okN x = true) (hs : startB (c.toNat : Int) = true) (hl : n.length ≤ 59) : nameL (c :: n) = true := by
  unfold nameL
  apply decide_eq_true
  refine ⟨by simp, by simp; omega, hs, fun x hx => (okN_iff (h x hx)).1, ?_⟩
  rw [(ok_lets h).ok]; decide
theorem ok_nb {n : List UInt8} (h : ∀ c ∈ n, okN c = true) : ∀ c ∈ n, nb c = true := fun c hc => by
  unfold nb; rw [(okN_iff (h c hc)).1]; rfl
theorem ok_nm {c : UInt8} {n : List UInt8} (h : ∀ x ∈ c :: n, okN x = true) (hs : startB (c.toNat : Int) = true) (hl : n.length ≤ 59) : Nm (c :: n) :=
  ⟨ok_nb h, by rw [split_none _ (ok_colon h)]; exact ok_name h hs hl⟩
/-! ### pieces, one behind the other -/
/-- A text that is a piece (or says nothing), wherever it stands. -/
structure Item (x : List UInt8) (q : Option Pc) (t : Bool) : Prop where
  lets : Lets x
  len : x.length ≤ 10000
  head : t = false → ∃ r, x = 60 :: r
  sem : ∀ (D r : List UInt8) (p : Nat), D.drop p = x ++ r → (t = true → r = [] ∨ ∃ r', r = 60 :: r') →
    (q = none → nextP D (P_ p) = nextP D (P_ (p + x.length)) ∧ nextS D (P_ p) = nextS D (P_ (p + x.length))) ∧
    (∀ Q, q = some Q → nextP D (P_ p) = setAt Q p ∧ nextS D (P_ p) = P_ (p + x.length))
abbrev It := List UInt8 × Option Pc × Bool
def AdjI : List It → Prop
  | [] => True
  | [_] => True
  | i :: j :: r => ¬ (i.2.2 = true ∧ j.2.2 = true) ∧ AdjI (j :: r)
theorem AdjI.tail {i : It} {r : List It} (h : AdjI (i :: r)) : AdjI r := by
  cases r with
  | nil => trivial
  | cons j r => exact h.2
/-! ### the four kinds -/
theorem lets_one (c : UInt8) (h : 32 ≤ c.toNat ∧ c.toNat < 128) : Lets [c] := asc_lets [c] (fun x hx => by rw [List.mem_singleton.1 hx]; exact h)
theorem lets_cons {c : UInt8} {l : List UInt8} (h : 32 ≤ c.toNat ∧ c.toNat < 128) (hl : Lets l) : Lets (c :: l) := (lets_one c h).append hl
theorem atT_lets {n v : List UInt8} (hn : Lets n) (hv : Lets v) : Lets (atT n v) := by
  unfold atT
  exact hn.append (lets_cons (by decide) (lets_cons (by decide) (hv.close.append (lets_one 34 (by decide)))))
theorem atsT_lets {b : List UInt8} (hb : Lets b) : ∀ A : List (List UInt8 × List UInt8), (∀ a ∈ A, Lets a.1 ∧ Lets a.2) → Lets (atsT b A)
  | [], _ => Lets.nil
  | a :: A, h => by
    have h1 := h a (List.mem_cons_self ..)
    unfold atsT
    rw [List.flatMap_cons]
    exact (hb.append (atT_lets h1.1 h1.2)).append (atsT_lets hb A (fun x hx => h x (List.mem_cons_of_mem _ hx)))
end Go.Proofs.YtnlkpdodacphkaaGreatDoor
