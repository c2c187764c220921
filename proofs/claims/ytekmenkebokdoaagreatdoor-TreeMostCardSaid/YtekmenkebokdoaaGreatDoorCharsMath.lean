/-
  What letters are, in plain mathematics: which may stand in a text, names, blanks, and parting by a colon. No program in this text.
-/
import Derived.Test.YtekmenkebokdoaaGreatDoorUtfMath
import Derived.Lib.SlTrimSet
import Derived.Lib.IndexMore
namespace Go.Proofs.YtekmenkebokdoaaGreatDoor
open Go.Lib

/-- May a letter stand in a text? -/
def letB (r : Int) : Bool := decide (r = 9 ∨ r = 10 ∨ r = 13 ∨ (32 ≤ r ∧ r ≠ 65534 ∧ r ≠ 65535 ∧ (r < 55296 ∨ (57343 < r ∧ r ≤ 1114111))))
theorem letB_iff (r : Int) : letB r = true ↔ (r = 9 ∨ r = 10 ∨ r = 13 ∨ (32 ≤ r ∧ r ≠ 65534 ∧ r ≠ 65535 ∧ (r < 55296 ∨ (57343 < r ∧ r ≤ 1114111)))) := by unfold letB; exact decide_eq_true_iff
theorem letB_not (r : Int) : letB r = false ↔ ¬ (r = 9 ∨ r = 10 ∨ r = 13 ∨ (32 ≤ r ∧ r ≠ 65534 ∧ r ≠ 65535 ∧ (r < 55296 ∨ (57343 < r ∧ r ≤ 1114111)))) := by unfold letB; exact decide_eq_false_iff_not
/-- May a name begin so? May it go on so? -/
def startB (c : Int) : Bool := decide ((97 ≤ c ∧ c ≤ 122) ∨ (65 ≤ c ∧ c ≤ 90) ∨ c = 95 ∨ 128 ≤ c)
def partB (c : Int) : Bool := decide ((97 ≤ c ∧ c ≤ 122) ∨ (65 ≤ c ∧ c ≤ 90) ∨ c = 95 ∨ 128 ≤ c ∨ (48 ≤ c ∧ c ≤ 57) ∨ c = 45 ∨ c = 46)
def blankB (c : Int) : Bool := decide (c = 32 ∨ c = 9 ∨ c = 10 ∨ c = 13)
theorem start_part {c : Int} (h : startB c = true) : partB c = true := by
  unfold startB at h; unfold partB; have := of_decide_eq_true h; exact decide_eq_true (by omega)
/-- The letter that is read may be one. -/
theorem gl_may (l : List UInt8) (h : (gl l).2 ≠ 0) : mayB (gl l).1 = true := by
  have hl : l ≠ [] := by intro e; subst e; rw [gl_nil] at h; exact h rfl
  have key : ∀ c : Int, ∀ x : Nat, ∀ r : List Nat, putN c = x :: r → mayB c = true := by
    intro c x r hc
    unfold putN at hc
    unfold mayB
    apply decide_eq_true
    by_cases h0 : c < 0 ∨ 1114111 < c ∨ (55296 ≤ c ∧ c ≤ 57343)
    · rw [if_pos h0] at hc; cases hc
    · omega
  rw [gl_ref l hl] at h ⊢
  unfold refN at h ⊢
  by_cases a1 : 1 ≤ l.length ∧ putN (cand1 (nth l 0)) = [nth l 0]
  · rw [if_pos a1]; exact key _ _ _ a1.2
  rw [if_neg a1] at h ⊢
  by_cases a2 : 2 ≤ l.length ∧ putN (cand2 (nth l 0) (nth l 1)) = [nth l 0, nth l 1]
  · rw [if_pos a2]; exact key _ _ _ a2.2
  rw [if_neg a2] at h ⊢
  by_cases a3 : 3 ≤ l.length ∧ putN (cand3 (nth l 0) (nth l 1) (nth l 2)) = [nth l 0, nth l 1, nth l 2]
  · rw [if_pos a3]; exact key _ _ _ a3.2
  rw [if_neg a3] at h ⊢
  by_cases a4 : 4 ≤ l.length ∧ putN (cand4 (nth l 0) (nth l 1) (nth l 2) (nth l 3)) = [nth l 0, nth l 1, nth l 2, nth l 3]
  · rw [if_pos a4]; exact key _ _ _ a4.2
  rw [if_neg a4] at h
  exact absurd rfl h
theorem let_pos (l : List UInt8) (h : letB (gl l).1 = true) : 1 ≤ (gl l).2 := by
  have hp := gl_pos l
  by_cases h0 : (gl l).2 = 0
  · rw [hp.2.2.2 h0] at h; exact absurd h (by decide)
  · omega

/-! ### the first place of a letter that may not stand in a text -/
def stopF : Nat → List UInt8 → Nat
  | 0, _ => 0
  | f + 1, l => if letB (gl l).1 = true then stopF f (l.drop (gl l).2.toNat) + (gl l).2.toNat else 0
def stopL (l : List UInt8) : Nat := stopF l.length l
def textL (l : List UInt8) : Int := if stopL l < l.length then (stopL l : Int) else -1
theorem stopF_more : ∀ (f k : Nat) (l : List UInt8), l.length ≤ f → l.length ≤ k → stopF f l = stopF k l
  | 0, 0, _, _, _ => rfl
  | 0, k + 1, l, h, _ => by
    obtain rfl : l = [] := List.eq_nil_of_length_eq_zero (by omega)
    rfl
  | f + 1, 0, l, _, h => by
    obtain rfl : l = [] := List.eq_nil_of_length_eq_zero (by omega)
    rfl
  | f + 1, k + 1, l, h1, h2 => by
    unfold stopF
    by_cases h0 : letB (gl l).1 = true
    · have hp := let_pos l h0
      have hp' := gl_pos l
      have hd : (l.drop (gl l).2.toNat).length = l.length - (gl l).2.toNat := List.length_drop
      rw [if_pos h0, if_pos h0, stopF_more f k _ (by omega) (by omega)]
    · rw [if_neg h0, if_neg h0]
theorem stopL_stop (l : List UInt8) (h : letB (gl l).1 = false) : stopL l = 0 := by
  unfold stopL
  cases l with
  | nil => rfl
  | cons c t => show stopF (t.length + 1) _ = _; unfold stopF; rw [if_neg (by rw [h]; decide)]
theorem stopL_step (l : List UInt8) (h : letB (gl l).1 = true) : stopL l = stopL (l.drop (gl l).2.toNat) + (gl l).2.toNat := by
  have hp := let_pos l h
  have hp' := gl_pos l
  cases l with
  | nil => rw [gl_nil] at hp; exact absurd hp (by decide)
  | cons c t =>
    unfold stopL
    show stopF (t.length + 1) _ = _
    have hd : ((c :: t).drop (gl (c :: t)).2.toNat).length = (c :: t).length - (gl (c :: t)).2.toNat := List.length_drop
    have hl : (c :: t).length = t.length + 1 := rfl
    conv => lhs; unfold stopF
    rw [if_pos h, stopF_more t.length _ _ (by omega) (Nat.le_refl _)]
/-- e bytes are behind the loop: they are letters that may stand there. -/
def Went (l : List UInt8) (e : Nat) : Prop := e ≤ l.length ∧ stopL l = e + stopL (l.drop e)
theorem Went.start (l : List UInt8) : Went l 0 := ⟨Nat.zero_le _, by simp⟩
theorem Went.step {l : List UInt8} {e : Nat} (h : Went l e) (hn : letB (gl (l.drop e)).1 = true) : Went l (e + (gl (l.drop e)).2.toNat) := by
  obtain ⟨h1, h3⟩ := h
  have hp := gl_pos (l.drop e)
  have hd : (l.drop e).length = l.length - e := List.length_drop
  refine ⟨by omega, ?_⟩
  rw [h3, stopL_step _ hn, List.drop_drop]
  omega
theorem Went.stop {l : List UInt8} {e : Nat} (h : Went l e) (hn : letB (gl (l.drop e)).1 = false) (he : e < l.length) : textL l = e := by
  unfold textL
  have : stopL l = e := by rw [h.2, stopL_stop _ hn]; rfl
  rw [this, if_pos he]
theorem Went.whole {l : List UInt8} {e : Nat} (h : Went l e) (hn : l.length ≤ e) : textL l = -1 := by
  unfold textL
  rw [if_neg (by rw [h.2]; omega)]
theorem textL_put (r : Int) (h : mayB r = true) : textL (put r) < 0 ↔ letB r = true := by
  have hg : gl (put r) = (r, ((put r).length : Int)) := by have := gl_put r h []; rw [List.append_nil] at this; exact this
  have hp := put_pos r h
  cases hl : letB r with
  | true =>
    have hw : Went (put r) (0 + (gl ((put r).drop 0)).2.toNat) := (Went.start _).step (by rw [List.drop_zero, hg]; exact hl)
    rw [hw.whole (by rw [List.drop_zero, hg]; simp)]
    simp
  | false =>
    rw [(Went.start (put r)).stop (by rw [List.drop_zero, hg]; exact hl) (by omega)]
    simp

/-! ### names -/
def nameL (l : List UInt8) : Bool := decide (l ≠ [] ∧ l.length ≤ 60 ∧ startB (nth l 0) = true ∧ (∀ c ∈ l, partB (c.toNat : Int) = true) ∧ badL l < 0)
/-- The bytes ahead of place k are parts. -/
def Parts (l : List UInt8) (k : Nat) : Prop := ∀ j, j < k → j < l.length → partB (nth l j : Int) = true
theorem Parts.start (l : List UInt8) : Parts l 0 := fun j h => by omega
theorem Parts.step {l : List UInt8} {k : Nat} (h : Parts l k) (hc : partB (nth l k : Int) = true) : Parts l (k + 1) := by
  intro j hj hl
  by_cases e : j = k
  · subst e; exact hc
  · exact h j (by omega) hl
theorem nth_mem (l : List UInt8) (k : Nat) (h : k < l.length) : ∃ c ∈ l, c.toNat = nth l k := by
  refine ⟨l[k], List.getElem_mem h, ?_⟩
  unfold nth; simp [List.getD, h]
theorem Parts.all {l : List UInt8} (h : Parts l l.length) : ∀ c ∈ l, partB (c.toNat : Int) = true := by
  intro c hc
  obtain ⟨k, hk, rfl⟩ := List.mem_iff_getElem.1 hc
  have := h k hk hk
  unfold nth at this
  simpa [List.getD, hk] using this
theorem name_none (l : List UInt8) (h : l.length = 0 ∨ 60 < l.length ∨ startB (nth l 0) = false ∨ 0 ≤ badL l) : nameL l = false := by
  unfold nameL
  apply decide_eq_false
  rintro ⟨h1, h2, h3, _, h5⟩
  rcases h with h | h | h | h
  · exact h1 (List.eq_nil_of_length_eq_zero h)
  · omega
  · rw [h] at h3; cases h3
  · omega
theorem name_bad (l : List UInt8) (k : Nat) (hk : k < l.length) (h : partB (nth l k : Int) = false) : nameL l = false := by
  unfold nameL
  apply decide_eq_false
  rintro ⟨_, _, _, h4, _⟩
  obtain ⟨c, hc, he⟩ := nth_mem l k hk
  have := h4 c hc
  rw [he, h] at this; cases this
theorem name_yes (l : List UInt8) (h0 : l.length ≠ 0) (h1 : l.length ≤ 60) (h2 : startB (nth l 0) = true) (h3 : Parts l l.length) : nameL l = decide (badL l < 0) := by
  unfold nameL
  have h0' : l ≠ [] := fun e => h0 (by rw [e]; rfl)
  by_cases hb : badL l < 0
  · rw [decide_eq_true hb]; exact decide_eq_true ⟨h0', h1, h2, h3.all, hb⟩
  · rw [decide_eq_false hb]; exact decide_eq_false fun h => hb h.2.2.2.2

/-! ### blanks -/
def blanks : List UInt8 := [32, 9, 10, 13]
def trimL (l : List UInt8) : List UInt8 := trimS l blanks
theorem blank_byte (c : UInt8) : blanks.contains c = blankB (c.toNat : Int) := by
  have : ∀ n : Fin 256, blanks.contains (UInt8.ofNat n.val) = blankB ((UInt8.ofNat n.val).toNat : Int) := by decide +kernel
  have h := this ⟨c.toNat, UInt8.toNat_lt c⟩
  simpa using h
theorem blank_at (l : List UInt8) (k : Nat) (b : UInt8) (h : l[k]? = some b) : blanks.contains b = blankB (nth l k : Int) := by
  rw [blank_byte]; unfold nth; simp [List.getD, h]
theorem trim_cut (l : List UInt8) (a b : Nat) (hab : a ≤ b) (hb : b ≤ l.length) (h1 : ∀ j, j < a → blankB (nth l j : Int) = true) (h2 : a < l.length → blankB (nth l a : Int) = false)
    (h3 : ∀ j, b ≤ j → j < l.length → blankB (nth l j : Int) = true) (h4 : a < b → blankB (nth l (b - 1) : Int) = false) : trimL l = (l.take b).drop a := by
  unfold trimL trimS
  have some_lt : ∀ (j : Nat) c, l[j]? = some c → j < l.length := fun j c h => by
    rcases Nat.lt_or_ge j l.length with h' | h'
    · exact h'
    · rw [List.getElem?_eq_none h'] at h; cases h
  by_cases ha : a < l.length
  · have hab' : a < b := by
      rcases Nat.lt_or_ge a b with h | h
      · exact h
      · have := h3 a h ha
        rw [h2 ha] at this; cases this
    rw [trimRightS_take l blanks b hb (fun j c hj hc => by rw [blank_at l j c hc]; exact h3 j hj (some_lt j c hc)) (fun c _ hc => by rw [blank_at l (b - 1) c hc]; exact h4 hab')]
    have tk : ∀ j c, (l.take b)[j]? = some c → l[j]? = some c := fun j c h => by
      rw [List.getElem?_take] at h; split at h
      · exact h
      · cases h
    exact trimLeftS_drop (l.take b) blanks a (by rw [List.length_take]; omega) (fun j c hj hc => by rw [blank_at l j c (tk j c hc)]; exact h1 j hj) (fun c hc => by rw [blank_at l a c (tk a c hc)]; exact h2 ha)
  · obtain rfl : a = b := by omega
    obtain rfl : a = l.length := by omega
    rw [trimRightS_take l blanks 0 (by omega) (fun j c _ hc => by rw [blank_at l j c hc]; exact h1 j (some_lt j c hc)) (fun c h => absurd h (by omega))]
    simp [trimLeftS]
theorem trimL_len (l : List UInt8) : (trimL l).length ≤ l.length := by
  unfold trimL trimS trimLeftS trimRightS
  have h1 : ∀ (m : List UInt8), (m.dropWhile (blanks.contains ·)).length ≤ m.length := fun m => (List.dropWhile_suffix _).length_le
  have h2 := h1 (l.reverse.dropWhile (blanks.contains ·)).reverse
  have h3 := h1 l.reverse
  simp at h2 h3 ⊢; omega
theorem indexByte_blank (c : UInt8) : 0 ≤ indexByte blanks c ↔ blankB (c.toNat : Int) = true := by
  have : ∀ n : Fin 256, decide (0 ≤ indexByte blanks (UInt8.ofNat n.val)) = blankB ((UInt8.ofNat n.val).toNat : Int) := by decide +kernel
  have h := this ⟨c.toNat, UInt8.toNat_lt c⟩
  simp only [UInt8.ofNat_toNat] at h
  rw [← h]; simp

/-! ### a colon -/
/-- How many bytes are ahead of the first colon. -/
def colonAt (l : List UInt8) : Nat := (l.takeWhile (· != 58)).length
theorem colonAt_nil : colonAt [] = 0 := rfl
theorem colonAt_hit (l : List UInt8) : colonAt (58 :: l) = 0 := by unfold colonAt; simp
theorem colonAt_miss (c : UInt8) (l : List UInt8) (h : c ≠ 58) : colonAt (c :: l) = colonAt l + 1 := by unfold colonAt; simp [h]
theorem colonAt_le (l : List UInt8) : colonAt l ≤ l.length := by unfold colonAt; exact List.IsPrefix.length_le (List.takeWhile_prefix _)
theorem prefix_one (c : UInt8) (l : List UInt8) : List.isPrefixOf [58] (c :: l) = (58 == c) := by
  simp [List.isPrefixOf]
theorem index_colon : ∀ (a b : List UInt8), index (a ++ 58 :: b) [58] = (colonAt a : Int)
  | [], b => by rw [List.nil_append]; unfold index; rw [prefix_one]; rfl
  | c :: a, b => by
    rw [List.cons_append]
    unfold index
    rw [prefix_one]
    by_cases h : c = 58
    · subst h; rw [colonAt_hit]; rfl
    · rw [colonAt_miss c a h, index_colon a b, if_neg (by simp; exact fun e => h e.symm), if_neg (by simp)]; simp
theorem index_none : ∀ (a : List UInt8), colonAt a = a.length → index a [58] = -1
  | [], _ => rfl
  | c :: a, h => by
    have hc : c ≠ 58 := by rintro rfl; rw [colonAt_hit] at h; simp at h
    rw [colonAt_miss c a hc] at h
    unfold index
    rw [prefix_one, index_none a (by simpa using h), if_neg (by simp; exact fun e => hc e.symm)]; rfl
theorem colonAt_take (a : List UInt8) : colonAt (a.take (colonAt a)) = (a.take (colonAt a)).length := by
  have key : ∀ a : List UInt8, colonAt (a.take (colonAt a)) = colonAt a := by
    intro a
    induction a with
    | nil => rfl
    | cons c a ih =>
      by_cases h : c = 58
      · subst h; rw [colonAt_hit]; rfl
      · rw [colonAt_miss c a h, List.take_succ_cons, colonAt_miss c _ h, ih]
  rw [key, List.length_take]; have := colonAt_le a; omega
/-- A name's prefix and the rest. -/
def splitL (l : List UInt8) : List UInt8 × List UInt8 × Bool :=
  if (cut l [58]).2.2 = true then ((cut l [58]).1, (cut l [58]).2.1, nameL (cut l [58]).1 && nameL (cut l [58]).2.1) else ([], l, nameL l)
theorem split_colon (a b : List UInt8) : splitL (a ++ 58 :: b) = (a.take (colonAt a), (a ++ 58 :: b).drop (colonAt a + 1), nameL (a.take (colonAt a)) && nameL ((a ++ 58 :: b).drop (colonAt a + 1))) := by
  have hc : cut (a ++ 58 :: b) [58] = (a.take (colonAt a), (a ++ 58 :: b).drop (colonAt a + 1), true) := by
    unfold cut
    rw [index_colon, if_pos (by omega)]
    simp only [Int.toNat_natCast, List.length_cons, List.length_nil]
    rw [List.take_append_of_le_length (colonAt_le a)]
  unfold splitL
  rw [hc, if_pos rfl]
theorem split_none (a : List UInt8) (h : colonAt a = a.length) : splitL a = ([], a, nameL a) := by
  have hc : cut a [58] = (a, [], false) := by
    unfold cut
    rw [index_none a h, if_neg (by decide)]
  unfold splitL
  rw [hc, if_neg (by simp)]
/-- One round of the loop that seeks a colon. -/
theorem colon_on (l : List UInt8) (k : Nat) (hk : k < l.length) (h : nth l k ≠ 58) (he : colonAt l = k + colonAt (l.drop k)) : colonAt l = (k + 1) + colonAt (l.drop (k + 1)) := by
  rw [he, List.drop_eq_getElem_cons hk, colonAt_miss _ _ (by intro e; apply h; unfold nth; simp [List.getD, hk, e])]; omega
theorem colon_off (l : List UInt8) (k : Nat) (hk : k < l.length) (h : nth l k = 58) (he : colonAt l = k + colonAt (l.drop k)) : colonAt l = k := by
  rw [he, List.drop_eq_getElem_cons hk]
  have : l[k] = 58 := by
    unfold nth at h; simp [List.getD, hk] at h
    exact UInt8.toNat_inj.1 h
  rw [this, colonAt_hit]; rfl
theorem colon_end (l : List UInt8) (k : Nat) (hk : l.length ≤ k) (he : colonAt l = k + colonAt (l.drop k)) : colonAt l = k := by
  rw [he, List.drop_eq_nil_of_le hk, colonAt_nil]; rfl

end Go.Proofs.YtekmenkebokdoaaGreatDoor
