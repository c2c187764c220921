/-
  Letters that are written as names, in plain mathematics: which letter a name or a number stands for, texts that are opened and closed. No program in this text.
-/
import Derived.Test.YtekmenkebokdoaaGreatDoorCharsMath
namespace Go.Proofs.YtekmenkebokdoaaGreatDoor
open Go.Lib

/-- What a name stands for. -/
def nameV (l : List UInt8) : Int :=
  if l = [97, 109, 112] then 38 else if l = [108, 116] then 60 else if l = [103, 116] then 62 else if l = [113, 117, 111, 116] then 34 else if l = [97, 112, 111, 115] then 39 else 0
/-- A byte's worth as a digit (99: none). -/
def digV (c : Nat) : Nat := if 48 ≤ c ∧ c ≤ 57 then c - 48 else if 65 ≤ c ∧ c ≤ 90 then c - 55 else if 97 ≤ c ∧ c ≤ 122 then c - 87 else 99
def parseD (base : Nat) : Nat → List UInt8 → Option Nat
  | acc, [] => some acc
  | acc, c :: r => if digV c.toNat < base then parseD base (acc * base + digV c.toNat) r else none
/-- What digits spell: none, or a number. -/
def spellL (base : Nat) (l : List UInt8) : Option Nat := if l = [] then none else parseD base 0 l
/-- The letter of a number's digits. -/
def numL (base : Nat) (l : List UInt8) : Int :=
  if 8 < l.length then 0 else match spellL base l with
    | some n => if letB n = true then (n : Int) else 0
    | none => 0
/-- The letter that a name between & and ; stands for. -/
def oneL (l : List UInt8) : Int :=
  match l with
  | 35 :: 120 :: r => numL 16 r
  | 35 :: r => numL 10 r
  | _ => nameV l

/-- How many bytes stand ahead of the first semicolon. -/
def semi (l : List UInt8) : Nat := (l.takeWhile (· != 59)).length
theorem semi_nil : semi [] = 0 := rfl
theorem semi_hit (l : List UInt8) : semi (59 :: l) = 0 := by unfold semi; simp
theorem semi_miss (c : UInt8) (l : List UInt8) (h : c ≠ 59) : semi (c :: l) = semi l + 1 := by unfold semi; simp [h]
theorem semi_le (l : List UInt8) : semi l ≤ l.length := by unfold semi; exact List.IsPrefix.length_le (List.takeWhile_prefix _)

/-- A text in which each name is its letter: what stands ahead is done. -/
def openF : Nat → List UInt8 → List UInt8 → Nat → List UInt8 × Int
  | 0, _, done, _ => (done, -1)
  | _ + 1, [], done, _ => (done, -1)
  | f + 1, c :: r, done, at' =>
    if c ≠ 38 then openF f r (done ++ [c]) (at' + 1)
    else if semi r < r.length ∧ oneL (r.take (semi r)) ≠ 0 then openF f (r.drop (semi r + 1)) (done ++ put (oneL (r.take (semi r)))) (at' + semi r + 2)
    else ([], (at' : Int))
def openL (l : List UInt8) : List UInt8 × Int := openF l.length l [] 0
theorem openF_more : ∀ (f k : Nat) (l done : List UInt8) (a : Nat), l.length ≤ f → l.length ≤ k → openF f l done a = openF k l done a
  | 0, 0, _, _, _, _, _ => rfl
  | 0, k + 1, l, done, a, h, _ => by
    obtain rfl : l = [] := List.eq_nil_of_length_eq_zero (by omega)
    rfl
  | f + 1, 0, l, done, a, _, h => by
    obtain rfl : l = [] := List.eq_nil_of_length_eq_zero (by omega)
    rfl
  | f + 1, k + 1, [], done, a, _, _ => rfl
  | f + 1, k + 1, c :: r, done, a, h1, h2 => by
    simp only [List.length_cons] at h1 h2
    unfold openF
    by_cases hc : c ≠ 38
    · rw [if_pos hc, if_pos hc]; exact openF_more f k r _ _ (by omega) (by omega)
    · rw [if_neg hc, if_neg hc]
      by_cases hs : semi r < r.length ∧ oneL (r.take (semi r)) ≠ 0
      · rw [if_pos hs, if_pos hs]
        have hd : (r.drop (semi r + 1)).length = r.length - (semi r + 1) := List.length_drop
        exact openF_more f k _ _ _ (by omega) (by omega)
      · rw [if_neg hs, if_neg hs]

/-- The loop of Open: 'done' is what has been written, k bytes are behind it. -/
def Opens (l done : List UInt8) (k : Nat) : Prop := k ≤ l.length ∧ done.length ≤ 2 * k ∧ openL l = openF (l.drop k).length (l.drop k) done k
theorem Opens.start (l : List UInt8) : Opens l [] 0 := ⟨Nat.zero_le _, by simp, by unfold openL; simp⟩
theorem Opens.whole {l done : List UInt8} {k : Nat} (h : Opens l done k) (hk : l.length ≤ k) : openL l = (done, -1) := by
  rw [h.2.2, List.drop_eq_nil_of_le hk]; rfl
theorem drop_nth (l : List UInt8) (k : Nat) (hk : k < l.length) : ∃ c, c.toNat = nth l k ∧ l.drop k = c :: l.drop (k + 1) := by
  refine ⟨l[k], ?_, List.drop_eq_getElem_cons hk⟩
  unfold nth; simp [List.getD, hk]
theorem Opens.plain {l done : List UInt8} {k : Nat} (h : Opens l done k) (hk : k < l.length) (c : UInt8) (hc : c.toNat = nth l k) (hn : c.toNat ≠ 38) : Opens l (done ++ [c]) (k + 1) := by
  obtain ⟨h1, h2, h3⟩ := h
  obtain ⟨d, hd, hdr⟩ := drop_nth l k hk
  obtain rfl : c = d := UInt8.toNat_inj.1 (hc.trans hd.symm)
  refine ⟨by omega, by rw [List.length_append]; simp; omega, ?_⟩
  have hl : (l.drop k).length = (l.drop (k + 1)).length + 1 := by rw [hdr]; rfl
  rw [h3, hl, hdr]
  conv => lhs; unfold openF
  rw [if_pos (by intro e; subst e; exact hn rfl)]
/-- What stands between & and the next semicolon. -/
def within (l : List UInt8) (k : Nat) : List UInt8 := (l.drop (k + 1)).take (semi (l.drop (k + 1)))
theorem Opens.step {l done : List UInt8} {k : Nat} (h : Opens l done k) (hk : k < l.length) (hc : nth l k = 38) (hs : k + 1 + semi (l.drop (k + 1)) < l.length) (hne : oneL (within l k) ≠ 0) :
    Opens l (done ++ put (oneL (within l k))) (k + semi (l.drop (k + 1)) + 2) := by
  obtain ⟨h1, h2, h3⟩ := h
  obtain ⟨d, hd, hdr⟩ := drop_nth l k hk
  obtain rfl : d = 38 := UInt8.toNat_inj.1 (hd.trans hc)
  have hdl : (l.drop (k + 1)).length = l.length - (k + 1) := List.length_drop
  have hpl := put_len (oneL (within l k))
  refine ⟨by omega, by rw [List.length_append]; omega, ?_⟩
  have hl : (l.drop k).length = (l.drop (k + 1)).length + 1 := by rw [hdr]; rfl
  rw [h3, hl, hdr]
  conv => lhs; unfold openF
  have he : l.drop (k + semi (l.drop (k + 1)) + 2) = (l.drop (k + 1)).drop (semi (l.drop (k + 1)) + 1) := by rw [List.drop_drop]; congr 1; omega
  rw [if_neg (by simp), if_pos ⟨by omega, hne⟩, he]
  exact openF_more _ _ _ _ _ (by rw [List.length_drop]; omega) (Nat.le_refl _)
theorem Opens.none {l done : List UInt8} {k : Nat} (h : Opens l done k) (hk : k < l.length) (hc : nth l k = 38) (hs : ¬ (k + 1 + semi (l.drop (k + 1)) < l.length ∧ oneL (within l k) ≠ 0)) : openL l = ([], (k : Int)) := by
  obtain ⟨h1, h2, h3⟩ := h
  obtain ⟨d, hd, hdr⟩ := drop_nth l k hk
  obtain rfl : d = 38 := UInt8.toNat_inj.1 (hd.trans hc)
  have hdl : (l.drop (k + 1)).length = l.length - (k + 1) := List.length_drop
  have hl : (l.drop k).length = (l.drop (k + 1)).length + 1 := by rw [hdr]; rfl
  rw [h3, hl, hdr]
  unfold openF
  rw [if_neg (by simp), if_neg]
  rintro ⟨h4, h5⟩
  exact hs ⟨by omega, h5⟩

/-! ### what a name stands for may be a letter -/
theorem oneL_let (l : List UInt8) (h : oneL l ≠ 0) : letB (oneL l) = true := by
  have hn : ∀ base l, numL base l ≠ 0 → letB (numL base l) = true := by
    intro base l h
    unfold numL at h ⊢
    by_cases h8 : 8 < l.length
    · rw [if_pos h8] at h; exact absurd rfl h
    · rw [if_neg h8] at h ⊢
      cases hs : spellL base l with
      | none => rw [hs] at h; exact absurd rfl h
      | some n =>
        rw [hs] at h
        simp only at h ⊢
        by_cases hl : letB (n : Int) = true
        · rw [if_pos hl]; exact hl
        · rw [if_neg hl] at h; exact absurd rfl h
  have hm : ∀ l, nameV l ≠ 0 → letB (nameV l) = true := by
    intro l h
    unfold nameV at h ⊢
    repeat' split
    all_goals first | decide | skip
    rename_i h1 h2 h3 h4 h5
    rw [if_neg h1, if_neg h2, if_neg h3, if_neg h4, if_neg h5] at h
    exact absurd rfl h
  unfold oneL at h ⊢
  split at h <;> first | exact hn _ _ h | exact hm _ h
theorem let_may (r : Int) (h : letB r = true) : mayB r = true := by
  rw [letB_iff] at h; rw [mayB_iff]; omega
theorem oneL_range (l : List UInt8) : 0 ≤ oneL l ∧ oneL l ≤ 1114111 := by
  by_cases h : oneL l = 0
  · omega
  · have := (letB_iff _).1 (oneL_let l h); omega

/-! ### texts that are closed -/
def closeB (c : UInt8) : List UInt8 :=
  if c = 38 then [38, 97, 109, 112, 59] else if c = 60 then [38, 108, 116, 59] else if c = 62 then [38, 103, 116, 59] else if c = 34 then [38, 113, 117, 111, 116, 59]
  else if c = 9 then [38, 35, 57, 59] else if c = 10 then [38, 35, 49, 48, 59] else if c = 13 then [38, 35, 49, 51, 59] else [c]
def closeL (l : List UInt8) : List UInt8 := l.flatMap closeB
theorem closeB_plain (c : UInt8) (h : c.toNat ≠ 38) (h1 : c.toNat ≠ 60) (h2 : c.toNat ≠ 62) (h3 : c.toNat ≠ 34) (h4 : c.toNat ≠ 9) (h5 : c.toNat ≠ 10) (h6 : c.toNat ≠ 13) : closeB c = [c] := by
  unfold closeB
  rw [if_neg (by rintro rfl; exact h rfl), if_neg (by rintro rfl; exact h1 rfl), if_neg (by rintro rfl; exact h2 rfl), if_neg (by rintro rfl; exact h3 rfl), if_neg (by rintro rfl; exact h4 rfl), if_neg (by rintro rfl; exact h5 rfl), if_neg (by rintro rfl; exact h6 rfl)]
theorem closeB_len (c : UInt8) : (closeB c).length ≤ 6 ∧ 1 ≤ (closeB c).length := by
  unfold closeB
  repeat' split
  all_goals simp
theorem closeL_nil : closeL [] = [] := rfl
theorem closeL_cons (c : UInt8) (l : List UInt8) : closeL (c :: l) = closeB c ++ closeL l := by unfold closeL; simp
theorem closeL_append (a b : List UInt8) : closeL (a ++ b) = closeL a ++ closeL b := by unfold closeL; simp
theorem closeL_one (c : UInt8) : closeL [c] = closeB c := by unfold closeL; simp
theorem closeL_len (l : List UInt8) : (closeL l).length ≤ 6 * l.length := by
  induction l with
  | nil => simp [closeL_nil]
  | cons c l ih => rw [closeL_cons, List.length_append, List.length_cons]; have := closeB_len c; omega
theorem open_close : ∀ (l done : List UInt8) (a f : Nat), (closeL l).length ≤ f → openF f (closeL l) done a = (done ++ l, -1)
  | [], done, a, f, _ => by rw [closeL_nil]; cases f <;> simp [openF]
  | c :: l, done, a, f, hf => by
    rw [closeL_cons] at hf ⊢
    rw [List.length_append] at hf
    have hcl := (closeB_len c).2
    obtain ⟨g, rfl⟩ : ∃ g, f = g + 1 := ⟨f - 1, by omega⟩
    have key : ∀ (m : List UInt8) (v : UInt8), (∀ x ∈ m, x ≠ 59) → oneL m = v.toNat → v.toNat ≠ 0 → put v.toNat = [v] → m.length + 2 + (closeL l).length ≤ g + 1 →
        openF (g + 1) (38 :: m ++ 59 :: closeL l) done a = (done ++ v :: l, -1) := by
      intro m v hm hv h0 hp hg
      have hs : semi (m ++ 59 :: closeL l) = m.length := by
        clear hv hg
        induction m with
        | nil => rw [List.nil_append, semi_hit]; rfl
        | cons x m ih =>
          rw [List.cons_append, semi_miss x _ (hm x (by simp)), ih (fun y hy => hm y (by simp [hy]))]; rfl
      rw [List.cons_append]
      unfold openF
      have ht : (m ++ 59 :: closeL l).take m.length = m := by simp
      have hd : (m ++ 59 :: closeL l).drop (m.length + 1) = closeL l := by
        rw [← List.drop_drop]; simp
      rw [if_neg (by simp), hs, ht, hd, if_pos ⟨by simp, by rw [hv]; omega⟩, hv, hp, open_close l _ _ g (by omega)]
      simp
    by_cases c1 : c.toNat = 38
    · obtain rfl : c = 38 := UInt8.toNat_inj.1 c1
      exact key [97, 109, 112] 38 (by decide) (by decide) (by decide) (by decide) (by simp [closeB] at hf ⊢; omega)
    by_cases c2 : c.toNat = 60
    · obtain rfl : c = 60 := UInt8.toNat_inj.1 c2
      exact key [108, 116] 60 (by decide) (by decide) (by decide) (by decide) (by simp [closeB] at hf ⊢; omega)
    by_cases c3 : c.toNat = 62
    · obtain rfl : c = 62 := UInt8.toNat_inj.1 c3
      exact key [103, 116] 62 (by decide) (by decide) (by decide) (by decide) (by simp [closeB] at hf ⊢; omega)
    by_cases c4 : c.toNat = 34
    · obtain rfl : c = 34 := UInt8.toNat_inj.1 c4
      exact key [113, 117, 111, 116] 34 (by decide) (by decide) (by decide) (by decide) (by simp [closeB] at hf ⊢; omega)
    by_cases c5 : c.toNat = 9
    · obtain rfl : c = 9 := UInt8.toNat_inj.1 c5
      exact key [35, 57] 9 (by decide) (by decide) (by decide) (by decide) (by simp [closeB] at hf ⊢; omega)
    by_cases c6 : c.toNat = 10
    · obtain rfl : c = 10 := UInt8.toNat_inj.1 c6
      exact key [35, 49, 48] 10 (by decide) (by decide) (by decide) (by decide) (by simp [closeB] at hf ⊢; omega)
    by_cases c7 : c.toNat = 13
    · obtain rfl : c = 13 := UInt8.toNat_inj.1 c7
      exact key [35, 49, 51] 13 (by decide) (by decide) (by decide) (by decide) (by simp [closeB] at hf ⊢; omega)
    have hcb := closeB_plain c c1 c2 c3 c4 c5 c6 c7
    rw [hcb] at hf ⊢
    rw [List.cons_append, List.nil_append]
    unfold openF
    rw [if_pos (by rintro rfl; exact c1 rfl), open_close l _ _ g (by simp at hf; omega)]
    simp
theorem openL_closeL (l : List UInt8) : openL (closeL l) = (l, -1) := by
  unfold openL; rw [open_close l [] 0 _ (Nat.le_refl _)]; simp

/-! ### digits -/
def decB (n : Nat) : List UInt8 := if _h : n < 10 then [UInt8.ofNat (48 + n)] else decB (n / 10) ++ [UInt8.ofNat (48 + n % 10)]
termination_by n
def hexD (x : Nat) : UInt8 := if x < 10 then UInt8.ofNat (48 + x) else UInt8.ofNat (87 + x)
def hexB (n : Nat) : List UInt8 := if _h : n < 16 then [hexD n] else hexB (n / 16) ++ [hexD (n % 16)]
termination_by n
theorem decB_lo (n : Nat) (h : n < 10) : decB n = [UInt8.ofNat (48 + n)] := by unfold decB; rw [dif_pos h]
theorem decB_hi (n : Nat) (h : ¬ n < 10) : decB n = decB (n / 10) ++ [UInt8.ofNat (48 + n % 10)] := by rw [decB, dif_neg h]
theorem hexB_lo (n : Nat) (h : n < 16) : hexB n = [hexD n] := by unfold hexB; rw [dif_pos h]
theorem hexB_hi (n : Nat) (h : ¬ n < 16) : hexB n = hexB (n / 16) ++ [hexD (n % 16)] := by rw [hexB, dif_neg h]
theorem parseD_snoc (base : Nat) (c : UInt8) : ∀ (l : List UInt8) (acc : Nat), parseD base acc (l ++ [c]) = (parseD base acc l).bind fun n => if digV c.toNat < base then some (n * base + digV c.toNat) else none
  | [], acc => by
    simp only [List.nil_append, parseD, Option.bind_some]
  | x :: l, acc => by
    rw [List.cons_append]
    unfold parseD
    by_cases h : digV x.toNat < base
    · rw [if_pos h, if_pos h, parseD_snoc base c l]
    · rw [if_neg h, if_neg h]; rfl
theorem digV_dec (x : Nat) (h : x < 10) : digV (UInt8.ofNat (48 + x)).toNat = x := by
  rw [toNat_byte (by omega)]; unfold digV; rw [if_pos (by omega)]; omega
theorem digV_hex (x : Nat) (h : x < 16) : digV (hexD x).toNat = x := by
  unfold hexD
  by_cases h1 : x < 10
  · rw [if_pos h1]; exact digV_dec x h1
  · rw [if_neg h1, toNat_byte (by omega)]; unfold digV; rw [if_neg (by omega), if_neg (by omega), if_pos (by omega)]; omega
theorem parse_dec (n : Nat) : parseD 10 0 (decB n) = some n := by
  induction n using Nat.strongRecOn with
  | ind n ih =>
    by_cases h : n < 10
    · rw [decB_lo n h]; unfold parseD; rw [digV_dec n h, if_pos h]; simp [parseD]
    · rw [decB_hi n h, parseD_snoc, ih (n / 10) (by omega), Option.bind_some, digV_dec _ (by omega), if_pos (by omega)]; congr 1; omega
theorem parse_hex (n : Nat) : parseD 16 0 (hexB n) = some n := by
  induction n using Nat.strongRecOn with
  | ind n ih =>
    by_cases h : n < 16
    · rw [hexB_lo n h]; unfold parseD; rw [digV_hex n h, if_pos h]; simp [parseD]
    · rw [hexB_hi n h, parseD_snoc, ih (n / 16) (by omega), Option.bind_some, digV_hex _ (by omega), if_pos (by omega)]; congr 1; omega
theorem decB_len : ∀ (k n : Nat), n < 10 ^ (k + 1) → (decB n).length ≤ k + 1
  | 0, n, h => by rw [decB_lo n (by simpa using h)]; simp
  | k + 1, n, h => by
    by_cases h1 : n < 10
    · rw [decB_lo n h1]; simp
    · rw [decB_hi n h1, List.length_append]
      have := decB_len k (n / 10) (by rw [Nat.pow_succ] at h; omega)
      simp; omega
theorem hexB_len : ∀ (k n : Nat), n < 16 ^ (k + 1) → (hexB n).length ≤ k + 1
  | 0, n, h => by rw [hexB_lo n (by simpa using h)]; simp
  | k + 1, n, h => by
    by_cases h1 : n < 16
    · rw [hexB_lo n h1]; simp
    · rw [hexB_hi n h1, List.length_append]
      have := hexB_len k (n / 16) (by rw [Nat.pow_succ] at h; omega)
      simp; omega
theorem decB_digits (n : Nat) : ∃ c r, decB n = c :: r ∧ 48 ≤ c.toNat ∧ c.toNat ≤ 57 := by
  induction n using Nat.strongRecOn with
  | ind n ih =>
    by_cases h : n < 10
    · exact ⟨_, _, decB_lo n h, by rw [toNat_byte (by omega)]; omega, by rw [toNat_byte (by omega)]; omega⟩
    · obtain ⟨c, r, hc, h1, h2⟩ := ih (n / 10) (by omega)
      exact ⟨c, r ++ [UInt8.ofNat (48 + n % 10)], by rw [decB_hi n h, hc]; rfl, h1, h2⟩
theorem decB_no59 (n : Nat) : ∀ c ∈ decB n, c ≠ 59 := by
  induction n using Nat.strongRecOn with
  | ind n ih =>
    have key : ∀ x, x < 10 → UInt8.ofNat (48 + x) ≠ 59 := by
      intro x hx e
      have := congrArg UInt8.toNat e
      rw [toNat_byte (by omega)] at this
      have h59 : (59 : UInt8).toNat = 59 := rfl
      omega
    by_cases h : n < 10
    · rw [decB_lo n h]; intro c hc; simp only [List.mem_singleton] at hc; subst hc; exact key n h
    · rw [decB_hi n h]; intro c hc
      rcases List.mem_append.1 hc with hc | hc
      · exact ih (n / 10) (by omega) c hc
      · simp only [List.mem_singleton] at hc; subst hc; exact key _ (by omega)
theorem hexB_ne (n : Nat) : hexB n ≠ [] := by
  by_cases h : n < 16
  · rw [hexB_lo n h]; simp
  · rw [hexB_hi n h]; simp
/-- The letter that a number stands for. -/
def wantV (n : Nat) : Int := if letB n = true then (n : Int) else 0
theorem one_dec (n : Nat) (h : n < 10000000) : oneL (35 :: decB n) = wantV n := by
  obtain ⟨c, r, hc, h1, h2⟩ := decB_digits n
  have hl := decB_len 6 n h
  have hp := parse_dec n
  rw [hc] at hl hp ⊢
  have hne : c ≠ 120 := by rintro rfl; exact absurd h2 (by decide)
  have : oneL (35 :: c :: r) = numL 10 (c :: r) := by
    unfold oneL
    split
    · rename_i heq; injection heq with _ heq; injection heq with heq _; exact absurd heq hne
    · rename_i heq; injection heq with _ heq; subst heq; rfl
    · rename_i h3; exact absurd rfl (h3 _)
  rw [this]
  unfold numL spellL wantV
  rw [if_neg (by omega), if_neg (by simp), hp]
theorem one_hex (n : Nat) (h : n < 16777216) : oneL (35 :: 120 :: hexB n) = wantV n := by
  have hl := hexB_len 5 n h
  have hp := parse_hex n
  show numL 16 (hexB n) = _
  unfold numL spellL wantV
  rw [if_neg (by omega), if_neg (hexB_ne n), hp]
theorem semi_dec (n : Nat) (rest : List UInt8) : semi (35 :: decB n ++ 59 :: rest) = (decB n).length + 1 := by
  have key : ∀ (m : List UInt8), (∀ x ∈ m, x ≠ 59) → semi (m ++ 59 :: rest) = m.length := by
    intro m hm
    induction m with
    | nil => rw [List.nil_append, semi_hit]; rfl
    | cons x m ih => rw [List.cons_append, semi_miss x _ (hm x (by simp)), ih (fun y hy => hm y (by simp [hy]))]; rfl
  exact key (35 :: decB n) (by intro x hx; rcases List.mem_cons.1 hx with rfl | hx
                               · decide
                               · exact decB_no59 n x hx)
theorem open_dec (n : Nat) (h : n < 10000000) : openL (38 :: 35 :: decB n ++ [59]) = if wantV n = 0 then ([], 0) else (put (wantV n), -1) := by
  have hs := semi_dec n []
  have ho := one_dec n h
  have ht : (35 :: decB n ++ [59]).take ((decB n).length + 1) = 35 :: decB n := by
    rw [List.take_append_of_le_length (by simp)]; simp
  have hd : (35 :: decB n ++ [59]).drop ((decB n).length + 1 + 1) = [] := by simp
  unfold openL
  have hl : (38 :: 35 :: decB n ++ [59]).length = (35 :: decB n ++ [59]).length + 1 := rfl
  have hc : (38 :: 35 :: decB n ++ [59]) = 38 :: (35 :: decB n ++ [59]) := rfl
  rw [hl, hc]
  unfold openF
  rw [if_neg (by simp), hs, ht, hd, ho]
  by_cases hw : wantV n = 0
  · rw [if_pos hw, if_neg (by simp [hw])]; rfl
  · rw [if_neg hw, if_pos ⟨by simp, hw⟩]
    cases (35 :: decB n ++ [59]).length <;> simp [openF]

/-! ### how great a number digits spell -/
theorem parseD_lt (base : Nat) : ∀ (l : List UInt8) (acc k n : Nat), acc < base ^ k → parseD base acc l = some n → n < base ^ (k + l.length)
  | [], acc, k, n, ha, h => by
    simp only [parseD, Option.some.injEq] at h
    subst h; simpa using ha
  | c :: r, acc, k, n, ha, h => by
    unfold parseD at h
    by_cases hd : digV c.toNat < base
    · rw [if_pos hd] at h
      have h1 : acc * base + digV c.toNat < base ^ (k + 1) := by
        have h2 : acc * base + base ≤ base ^ k * base := by
          have := Nat.mul_le_mul_right base (show acc + 1 ≤ base ^ k from ha)
          rw [Nat.add_mul, Nat.one_mul] at this; exact this
        rw [Nat.pow_succ]; omega
      have := parseD_lt base r _ (k + 1) n h1 h
      rw [List.length_cons, show k + (r.length + 1) = k + 1 + r.length by omega]; exact this
    · rw [if_neg hd] at h; cases h
theorem spell_le (base : Nat) (l : List UInt8) (n : Nat) (hb : base = 10 ∨ base = 16) (hl : l.length ≤ 8) (h : spellL base l = some n) : n ≤ 4294967295 := by
  unfold spellL at h
  by_cases h0 : l = []
  · rw [if_pos h0] at h; cases h
  · rw [if_neg h0] at h
    have h1 : 0 < base ^ 0 := by rw [Nat.pow_zero]; omega
    have h2 := parseD_lt base l 0 0 n h1 h
    rw [Nat.zero_add] at h2
    have h3 : base ^ l.length ≤ 4294967296 := by
      rcases hb with rfl | rfl
      · exact Nat.le_trans (Nat.pow_le_pow_right (by omega) hl) (by decide)
      · exact Nat.le_trans (Nat.pow_le_pow_right (by omega) hl) (by decide)
    omega

/-! ### names -/
def nm (k : Nat) : List UInt8 := match k with
  | 0 => [97, 109, 112] | 1 => [108, 116] | 2 => [103, 116] | 3 => [113, 117, 111, 116] | _ => [97, 112, 111, 115]
/-- None of the first k names. -/
def Misses (l : List UInt8) (k : Nat) : Prop := ∀ j, j < k → l ≠ nm j
theorem Misses.start (l : List UInt8) : Misses l 0 := fun j h => absurd h (Nat.not_lt_zero j)
theorem Misses.step {l : List UInt8} {k : Nat} (h : Misses l k) (hn : l ≠ nm k) : Misses l (k + 1) := by
  intro j hj
  rcases Nat.lt_succ_iff_lt_or_eq.1 hj with h1 | rfl
  · exact h j h1
  · exact hn
def nmV (k : Nat) : Int := match k with
  | 0 => 38 | 1 => 60 | 2 => 62 | 3 => 34 | _ => 39
theorem nameV_hit (k : Nat) (h : k < 5) : nameV (nm k) = nmV k := by
  match k, h with
  | 0, _ | 1, _ | 2, _ | 3, _ | 4, _ => decide
theorem Misses.none {l : List UInt8} (h : Misses l 5) : nameV l = 0 := by
  unfold nameV
  rw [if_neg (show ¬ l = [97, 109, 112] from h 0 (by omega)), if_neg (show ¬ l = [108, 116] from h 1 (by omega)), if_neg (show ¬ l = [103, 116] from h 2 (by omega)), if_neg (show ¬ l = [113, 117, 111, 116] from h 3 (by omega)), if_neg (show ¬ l = [97, 112, 111, 115] from h 4 (by omega))]
theorem one_name (l : List UInt8) (h1 : List.isPrefixOf [35] l = false) : oneL l = nameV l := by
  unfold oneL
  split
  · exact absurd h1 (by simp [List.isPrefixOf])
  · exact absurd h1 (by simp [List.isPrefixOf])
  · rfl
theorem one_ten (r : List UInt8) (h : List.isPrefixOf [35, 120] (35 :: r) = false) : oneL (35 :: r) = numL 10 r := by
  cases r with
  | nil => rfl
  | cons c r =>
    have hc : c ≠ 120 := by rintro rfl; exact absurd h (by simp [List.isPrefixOf])
    unfold oneL
    split
    · rename_i heq; injection heq with _ heq; injection heq with heq _; exact absurd heq hc
    · rename_i heq; injection heq with _ heq; subst heq; rfl
    · rename_i h3; exact absurd rfl (h3 _)

end Go.Proofs.YtekmenkebokdoaaGreatDoor
