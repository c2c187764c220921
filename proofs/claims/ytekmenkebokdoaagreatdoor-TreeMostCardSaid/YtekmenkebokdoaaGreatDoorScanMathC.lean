/-
  Pieces that stand in a text are what is taken of it, with their places. No program in this text.
-/
import Derived.Test.YtekmenkebokdoaaGreatDoorScanMathB
namespace Go.Proofs.YtekmenkebokdoaaGreatDoor
open Go Go.Lib

def P_ (p : Nat) : St := ⟨p, 0, 0⟩
theorem go_P (p q : Nat) : go_ (P_ p) q = P_ q := rfl
theorem drop_on {D x r : List UInt8} {p : Nat} (h : D.drop p = x ++ r) : D.drop (p + x.length) = r := by
  rw [← List.drop_drop, h, List.drop_left]
theorem drop_lt {D r : List UInt8} {p : Nat} {c : UInt8} (h : D.drop p = c :: r) : p < D.length := by
  have := congrArg List.length h
  rw [List.length_drop, List.length_cons] at this; omega
theorem byte_on {D r : List UInt8} {p : Nat} {c : UInt8} (h : D.drop p = c :: r) : byteAt D p = c := by
  have hl := drop_lt h
  rw [List.drop_eq_getElem_cons hl] at h
  unfold byteAt
  simp [List.getD, hl]
  exact (List.cons.inj h).1
theorem stands_yes {D x r : List UInt8} {p : Nat} (h : D.drop p = x ++ r) : standsS x D (P_ p) = true := by
  unfold standsS
  show x.isPrefixOf (D.drop p) = true
  rw [h]; exact List.isPrefixOf_iff_prefix.2 (List.prefix_append x r)
theorem stands_no {D x r : List UInt8} {p : Nat} {c y : UInt8} (h : D.drop p = c :: r) (hy : y ≠ c) : standsS (y :: x) D (P_ p) = false := by
  unfold standsS
  show (y :: x).isPrefixOf (D.drop p) = false
  rw [h]; simp [List.isPrefixOf, hy]
theorem stands_no2 {D x r : List UInt8} {p : Nat} {c d y : UInt8} (h : D.drop p = c :: d :: r) (hy : y ≠ d) : standsS (c :: y :: x) D (P_ p) = false := by
  unfold standsS
  show (c :: y :: x).isPrefixOf (D.drop p) = false
  rw [h]; simp [List.isPrefixOf, hy]
theorem stands_end {D x : List UInt8} {p : Nat} {y : UInt8} (h : D.drop p = []) : standsS (y :: x) D (P_ p) = false := by
  unfold standsS
  show (y :: x).isPrefixOf (D.drop p) = false
  rw [h]; rfl
/-- What follows begins with no such byte. -/
def Stops (h : UInt8 → Bool) (r : List UInt8) : Prop := r = [] ∨ ∃ c r', r = c :: r' ∧ h c = false
theorem Stops.cons {h : UInt8 → Bool} {c : UInt8} {r : List UInt8} (hc : h c = false) : Stops h (c :: r) := .inr ⟨c, r, rfl, hc⟩
theorem run_on {h : UInt8 → Bool} {D x r : List UInt8} {p : Nat} (hd : D.drop p = x ++ r) (hx : ∀ c ∈ x, h c = true) (hr : Stops h r) : runW h D (P_ p) = x ∧ whileS h D (P_ p) = P_ (p + x.length) := by
  have e : runW h D (P_ p) = x := by
    unfold runW
    show (D.drop p).takeWhile h = x
    rw [hd]
    clear hd
    induction x with
    | nil =>
      rcases hr with rfl | ⟨c, r', rfl, hc⟩
      · rfl
      · rw [List.nil_append, List.takeWhile_cons, if_neg (by rw [hc]; decide)]
    | cons a x ih =>
      rw [List.cons_append, List.takeWhile_cons, if_pos (hx a (List.mem_cons_self ..)), ih (fun c hc => hx c (List.mem_cons_of_mem _ hc))]
  refine ⟨e, ?_⟩
  unfold whileS
  rw [e]; rfl
/-- A name that parts may be read of. -/
structure Nm (n : List UInt8) : Prop where
  parts : ∀ c ∈ n, nb c = true
  split : (splitL n).2.2 = true
theorem name_on {D n r : List UInt8} {p : Nat} (hd : D.drop p = n ++ r) (hn : Nm n) (hr : Stops nb r) : runW nb D (P_ p) = n ∧ nameS D (P_ p) = P_ (p + n.length) := by
  have h := run_on hd hn.parts hr
  refine ⟨h.1, ?_⟩
  unfold nameS
  rw [h.1, h.2, if_pos hn.split]
theorem must_on {D x r : List UInt8} {p : Nat} (hd : D.drop p = x ++ r) : mustS x D (P_ p) = P_ (p + x.length) := by
  unfold mustS
  rw [if_pos (stands_yes hd)]; rfl
theorem skip_on {D x r : List UInt8} {p : Nat} (hd : D.drop p = x ++ r) : skipS x D (P_ p) = P_ (p + x.length) := by
  unfold skipS
  rw [if_pos (stands_yes hd)]; rfl

/-! ### letters that stand as names -/
theorem closeB_no (c : UInt8) : ∀ x ∈ closeB c, x ≠ 60 ∧ x ≠ 34 := by
  have key : ∀ i : Fin 256, ∀ x ∈ closeB (UInt8.ofNat i.val), x ≠ 60 ∧ x ≠ 34 := by decide +kernel
  have := key ⟨c.toNat, UInt8.toNat_lt c⟩
  rw [show UInt8.ofNat c.toNat = c by simp] at this
  exact this
theorem closeL_no (v : List UInt8) : ∀ x ∈ closeL v, x ≠ 60 ∧ x ≠ 34 := by
  intro x hx
  unfold closeL at hx
  obtain ⟨c, _, hc⟩ := List.mem_flatMap.1 hx
  exact closeB_no c x hc
theorem closeB_hi (c : UInt8) (h : 128 ≤ c.toNat) : closeB c = [c] := closeB_plain c (by omega) (by omega) (by omega) (by omega) (by omega) (by omega) (by omega)
theorem closeB_ne (c : UInt8) : closeB c ≠ [] := by
  intro e
  have := (closeB_len c).2
  rw [e] at this
  exact absurd this (by decide)
theorem asc_lets : ∀ l : List UInt8, (∀ c ∈ l, 32 ≤ c.toNat ∧ c.toNat < 128) → Lets l
  | [], _ => Lets.nil
  | c :: l, h => by
    have hc := h c (List.mem_cons_self ..)
    have ih := asc_lets l (fun x hx => h x (List.mem_cons_of_mem _ hx))
    have h1 : Lets [c] := by
      have := Lets.nil.snoc (c.toNat : Int) ((letB_iff _).2 (by omega))
      rw [List.nil_append, put_f1 _ (by omega)] at this
      simpa using this
    exact h1.append ih
theorem closeB_asc (c : UInt8) (h : c.toNat < 128) (hl : letB (c.toNat : Int) = true) : Lets (closeB c) := by
  have hput : put (c.toNat : Int) = [c] := by rw [put_f1 _ (by omega)]; simp
  have h1 : Lets [c] := by
    have := Lets.nil.snoc (c.toNat : Int) hl
    rw [List.nil_append, hput] at this; exact this
  by_cases hp : closeB c = [c]
  · rw [hp]; exact h1
  · have key : ∀ i : Fin 256, closeB (UInt8.ofNat i.val) ≠ [UInt8.ofNat i.val] → ∀ x ∈ closeB (UInt8.ofNat i.val), 32 ≤ x.toNat ∧ x.toNat < 128 := by decide +kernel
    have := key ⟨c.toNat, UInt8.toNat_lt c⟩
    rw [show UInt8.ofNat c.toNat = c by simp] at this
    exact asc_lets _ (this hp)
theorem closeL_hi : ∀ l : List UInt8, (∀ c ∈ l, 128 ≤ c.toNat) → closeL l = l
  | [], _ => rfl
  | c :: l, h => by
    rw [closeL_cons, closeB_hi c (h c (List.mem_cons_self ..)), closeL_hi l (fun x hx => h x (List.mem_cons_of_mem _ hx))]; rfl
theorem put_hi (r : Int) (h : letB r = true) (h1 : 128 ≤ r) : ∀ c ∈ put r, 128 ≤ c.toNat := by
  have hm := (letB_iff r).1 h
  intro c hc
  by_cases a : r < 2048
  · rw [put_f2 r (by omega)] at hc
    simp only [List.mem_cons, List.not_mem_nil, or_false] at hc
    rcases hc with rfl | rfl
    all_goals (rw [toNat_byte (by omega)]; omega)
  by_cases b : r < 65536
  · rw [put_f3 r (by omega) (by omega)] at hc
    simp only [List.mem_cons, List.not_mem_nil, or_false] at hc
    rcases hc with rfl | rfl | rfl
    all_goals (rw [toNat_byte (by omega)]; omega)
  · rw [put_f4 r (by omega)] at hc
    simp only [List.mem_cons, List.not_mem_nil, or_false] at hc
    rcases hc with rfl | rfl | rfl | rfl
    all_goals (rw [toNat_byte (by omega)]; omega)
theorem Lets.close {l : List UInt8} (h : Lets l) : Lets (closeL l) := by
  obtain ⟨rs, h1, rfl⟩ := h
  induction rs with
  | nil => exact Lets.nil
  | cons r rs ih =>
    rw [List.flatMap_cons, closeL_append]
    have hr := h1 r (List.mem_cons_self ..)
    refine Lets.append ?_ (ih (fun x hx => h1 x (List.mem_cons_of_mem _ hx)))
    have hm := (letB_iff r).1 hr
    by_cases a : r < 128
    · rw [put_f1 r (by omega), closeL_one]
      have e : (UInt8.ofNat r.toNat).toNat = r.toNat := toNat_byte (by omega)
      exact closeB_asc _ (by omega) (by rw [e, show ((r.toNat : Nat) : Int) = r by omega]; exact hr)
    · rw [closeL_hi _ (put_hi r hr (by omega))]
      have := Lets.nil.snoc r hr
      rw [List.nil_append] at this; exact this
theorem opened_on {v : List UInt8} (hv : Lets v) (a : Int) (σ : St) : openedS (closeL v) a σ = σ ∧ (openL (closeL v)).1 = v := by
  have h1 := hv.close.text
  have h2 := openL_closeL v
  refine ⟨?_, by rw [h2]⟩
  unfold openedS lettersS
  rw [h1, h2, if_neg (show ¬ 0 ≤ (-1 : Int) by decide), if_neg (show ¬ 0 ≤ (-1 : Int) by decide)]
theorem quoted_on {D v r : List UInt8} {p : Nat} (hd : D.drop p = 34 :: (closeL v ++ 34 :: r)) (hv : Lets v) : quotedS D (P_ p) = P_ (p + (1 + (closeL v).length + 1)) ∧ quotedV D (P_ p) = v := by
  have h0 : byteAt D (P_ p).pos = 34 := byte_on hd
  have hs : standsS [34] D (P_ p) = true := stands_yes (x := [34]) (r := closeL v ++ 34 :: r) hd
  have hd1 : D.drop (p + 1) = closeL v ++ 34 :: r := drop_on (x := [34]) hd
  have hrun := run_on (h := qb 34) hd1 (fun c hc => by have := closeL_no v c hc; unfold qb; simp [this.1, this.2]) (Stops.cons (by rfl))
  have hq : quoteS D (P_ p) = P_ (p + 1 + (closeL v).length) := by
    unfold quoteS
    rw [h0]
    exact hrun.2
  have hd2 : D.drop (p + 1 + (closeL v).length) = 34 :: r := drop_on hd1
  have he : endsB D (P_ p) = true := by
    unfold endsB
    rw [hq, h0]
    show (decide (p + 1 + (closeL v).length < D.length) && byteAt D (p + 1 + (closeL v).length) == 34) = true
    rw [byte_on hd2, decide_eq_true (drop_lt hd2)]; rfl
  have ho := opened_on hv (((P_ p).pos : Int) + 1) (go_ (quoteS D (P_ p)) ((quoteS D (P_ p)).pos + 1))
  have hr2 : runW (qb (byteAt D (P_ p).pos)) D (go_ (P_ p) ((P_ p).pos + 1)) = closeL v := by rw [h0]; exact hrun.1
  refine ⟨?_, ?_⟩
  · unfold quotedS
    rw [if_pos (.inl hs), if_pos he, hr2, ho.1, hq]
    show P_ (p + 1 + (closeL v).length + 1) = _
    rw [show p + 1 + (closeL v).length + 1 = p + (1 + (closeL v).length + 1) by omega]
  · unfold quotedV
    rw [if_pos (.inl hs), if_pos he, hr2]
    exact ho.2
theorem nb_61 : nb 61 = false := by kernel_rfl
theorem bb_61 : bb 61 = false := by kernel_rfl
theorem bb_34 : bb 34 = false := by kernel_rfl
def atT (n v : List UInt8) : List UInt8 := n ++ 61 :: 34 :: (closeL v ++ [34])
theorem attr_on {D n v r : List UInt8} {p : Nat} (hd : D.drop p = atT n v ++ r) (hn : Nm n) (hv : Lets v) (al : List (List UInt8 × List UInt8)) (ha : al.any (fun a => a.1 == n) = false) :
    attrV D (P_ p) = (n, v) ∧ attrS D al (P_ p) = P_ (p + (atT n v).length) := by
  have hd0 : D.drop p = n ++ (61 :: 34 :: (closeL v ++ 34 :: r)) := by rw [hd]; unfold atT; simp
  have h1 := name_on hd0 hn (Stops.cons nb_61)
  have hd1 := drop_on hd0
  have h2 := run_on (h := bb) (x := []) (r := 61 :: 34 :: (closeL v ++ 34 :: r)) hd1 (fun _ h => by cases h) (Stops.cons bb_61)
  have h3 := must_on (x := [61]) (r := 34 :: (closeL v ++ 34 :: r)) hd1
  have hd2 : D.drop (p + n.length + 1) = 34 :: (closeL v ++ 34 :: r) := drop_on (x := [61]) hd1
  have h4 := run_on (h := bb) (x := []) (r := 34 :: (closeL v ++ 34 :: r)) hd2 (fun _ h => by cases h) (Stops.cons bb_34)
  have hp : attrP D (P_ p) = P_ (p + n.length + 1) := by
    unfold attrP
    rw [h1.2, h2.2]
    show whileS bb D (mustS [61] D (P_ (p + n.length))) = _
    rw [h3]
    exact h4.2
  have h5 := quoted_on hd2 hv
  refine ⟨?_, ?_⟩
  · unfold attrV
    rw [h1.1, hp, h5.2]
  · unfold attrS
    rw [h1.1, ha, if_neg (by decide), hp, h5.1]
    unfold atT
    congr 1
    simp; omega

/-! ### elements -/
/-- Attributes, each behind blanks b. -/
def atsT (b : List UInt8) (A : List (List UInt8 × List UInt8)) : List UInt8 := A.flatMap fun a => b ++ atT a.1 a.2
/-- An attribute that may stand there. -/
structure AtOk (a : List UInt8 × List UInt8) : Prop where
  nm : Nm a.1
  lets : Lets a.2
  head : ∃ c r, a.1 = c :: r ∧ bb c = false ∧ c ≠ 62 ∧ c ≠ 47
/-- How a tag ends: > or />. -/
def Ends (e : List UInt8) (kd : Int) : Prop := (e = [62] ∧ kd = 1) ∨ (e = [47, 62] ∧ kd = 3)
theorem bb_62 : bb 62 = false := by kernel_rfl
theorem bb_47 : bb 47 = false := by kernel_rfl
theorem opening_on (D n b eb e r : List UInt8) (kd : Int) (hb : ∀ c ∈ b, bb c = true) (hb0 : b ≠ []) (heb : ∀ c ∈ eb, bb c = true) (he : Ends e kd) :
    ∀ (A al : List (List UInt8 × List UInt8)) (f p : Nat), A.length < f → al.length + A.length ≤ 16 → (∀ a ∈ A, AtOk a) → (∀ a ∈ A, al.any (fun x => x.1 == a.1) = false) → A.Pairwise (fun x y => (x.1 == y.1) = false) →
      D.drop p = atsT b A ++ (eb ++ (e ++ r)) → openF_ f D n al (P_ p) = (⟨kd, n, al ++ A, [], 0⟩, P_ (p + (atsT b A).length + eb.length + e.length))
  | [], al, 0, p, hf, _, _, _, _, _ => absurd hf (by decide)
  | a :: A, al, 0, p, hf, _, _, _, _, _ => absurd hf (Nat.not_lt_zero _)
  | [], al, f + 1, p, _, _, _, _, _, hd => by
    have hd' : D.drop p = eb ++ (e ++ r) := hd
    unfold openF_
    rw [if_pos (show (P_ p).err = 0 from rfl)]
    rcases he with ⟨rfl, rfl⟩ | ⟨rfl, rfl⟩
    · have hw := run_on hd' heb (Stops.cons bb_62)
      have hd2 := drop_on hd'
      rw [hw.2, if_pos (stands_yes hd2), skip_on hd2, List.append_nil]
      rfl
    · have hw := run_on hd' heb (Stops.cons bb_47)
      have hd2 := drop_on hd'
      have hno : standsS [62] D (P_ (p + eb.length)) = false := stands_no (x := []) (r := 62 :: r) hd2 (by decide)
      rw [hw.2, if_neg (by rw [hno]; decide), if_pos (stands_yes hd2), skip_on hd2, List.append_nil]
      rfl
  | a :: A, al, f + 1, p, hf, hl, ha, hn, hp, hd => by
    have hA := ha a (List.mem_cons_self ..)
    obtain ⟨c, cr, hc, hc1, hc2, hc3⟩ := hA.head
    have hd' : D.drop p = b ++ (atT a.1 a.2 ++ (atsT b A ++ (eb ++ (e ++ r)))) := by
      rw [hd]; unfold atsT; rw [List.flatMap_cons]; simp
    have hat : ∃ t, atT a.1 a.2 ++ (atsT b A ++ (eb ++ (e ++ r))) = c :: t := by unfold atT; rw [hc]; exact ⟨_, by simp; rfl⟩
    obtain ⟨t, ht⟩ := hat
    have hw := run_on hd' hb (by rw [ht]; exact Stops.cons hc1)
    have hd2 := drop_on hd'
    have hd3 : D.drop (p + b.length) = c :: t := by rw [hd2, ht]
    have h62 : standsS [62] D (P_ (p + b.length)) = false := stands_no (x := []) hd3 (fun e => hc2 e.symm)
    have h47 : standsS [47, 62] D (P_ (p + b.length)) = false := stands_no (x := [62]) hd3 (fun e => hc3 e.symm)
    have hattr := attr_on hd2 hA.nm hA.lets al (hn a (List.mem_cons_self ..))
    have hlen : al.length + (A.length + 1) ≤ 16 := by simpa using hl
    unfold openF_
    rw [if_pos (show (P_ p).err = 0 from rfl), hw.2, hw.1, if_neg (by rw [h62]; decide), if_neg (by rw [h47]; decide), if_neg (by rintro (h | h); exact hb0 h; omega), hattr.1, hattr.2]
    have hd4 := drop_on hd2
    have ih := opening_on D n b eb e r kd hb hb0 heb he A (al ++ [(a.1, a.2)]) f _ (by simpa using hf) (by rw [List.length_append]; simp; omega) (fun x hx => ha x (List.mem_cons_of_mem _ hx))
      (fun x hx => by
        rw [List.any_append, hn x (List.mem_cons_of_mem _ hx)]
        have := (List.pairwise_cons.1 hp).1 x hx
        simp [this]) (List.pairwise_cons.1 hp).2 hd4
    rw [ih]
    have e1 : (atsT b (a :: A)).length = b.length + (atT a.1 a.2).length + (atsT b A).length := by unfold atsT; rw [List.flatMap_cons]; simp; omega
    rw [e1]
    congr 1
    · simp
    · congr 1; omega
theorem bcom_no {D r : List UInt8} {p : Nat} {c : UInt8} (h : D.drop p = c :: r) (hc : c ≠ 60 ∨ ∃ d r', r = d :: r' ∧ d ≠ 33 ∧ d ≠ 63) : standsS bCom D (P_ p) = false ∧ standsS bHint D (P_ p) = false ∧ standsS bRaw D (P_ p) = false := by
  rcases hc with hc | ⟨d, r', rfl, h1, h2⟩
  · exact ⟨stands_no (x := [33, 45, 45]) h (fun e => hc e.symm), stands_no (x := [63]) h (fun e => hc e.symm), stands_no (x := [33, 91, 67, 68, 65, 84, 65, 91]) h (fun e => hc e.symm)⟩
  · by_cases hc : c = 60
    · subst hc
      exact ⟨stands_no2 (x := [45, 45]) h (fun e => h1 e.symm), stands_no2 (x := []) h (fun e => h2 e.symm), stands_no2 (x := [91, 67, 68, 65, 84, 65, 91]) h (fun e => h1 e.symm)⟩
    · exact ⟨stands_no (x := [33, 45, 45]) h (fun e => hc e.symm), stands_no (x := [63]) h (fun e => hc e.symm), stands_no (x := [33, 91, 67, 68, 65, 84, 65, 91]) h (fun e => hc e.symm)⟩
/-- Where no comment and no hint stands, the next piece is the one that stands there. -/
theorem next_on {D r : List UInt8} {p q : Nat} {c : UInt8} {Q : Pc} (h : D.drop p = c :: r) (hc : c ≠ 60 ∨ ∃ d r', r = d :: r' ∧ d ≠ 33 ∧ d ≠ 63) (hq : pieceR D (P_ p) = (Q, P_ q)) : nextP D (P_ p) = setAt Q p ∧ nextS D (P_ p) = P_ q := by
  have hb := bcom_no h hc
  have hp : passAllS D (P_ p) = P_ p := by
    unfold passAllS passF
    rw [if_pos (show (P_ p).err = 0 from rfl), if_neg (by rw [hb.1]; decide), if_neg (by rw [hb.2.1]; decide)]
  have hl := drop_lt h
  have hc : (P_ p).err = 0 ∧ (P_ p).pos < D.length := ⟨rfl, hl⟩
  unfold nextP nextS
  rw [hp, if_pos hc, if_pos hc]
  unfold pieceS
  rw [hq]
  exact ⟨if_pos rfl, rfl⟩
theorem next_end {D : List UInt8} {p : Nat} (h : D.drop p = []) (hp : p ≤ D.length) : nextP D (P_ p) = pc0 ∧ nextS D (P_ p) = P_ D.length := by
  have hl : p = D.length := by
    have := congrArg List.length h
    rw [List.length_drop, List.length_nil] at this; omega
  have hpass : passAllS D (P_ p) = P_ p := by
    unfold passAllS passF
    rw [if_pos (show (P_ p).err = 0 from rfl), if_neg (by rw [show standsS bCom D (P_ p) = false from stands_end h]; decide), if_neg (by rw [show standsS bHint D (P_ p) = false from stands_end h]; decide)]
  have hc : ¬ ((P_ p).err = 0 ∧ (P_ p).pos < D.length) := fun h => by have := h.2; have e : (P_ p).pos = p := rfl; omega
  unfold nextP nextS
  rw [hpass, if_neg hc, if_neg hc, hl]
  exact ⟨rfl, rfl⟩
theorem close_on {D n eb r : List UInt8} {p : Nat} (hn : Nm n) (heb : ∀ c ∈ eb, bb c = true) (hebn : ∀ c ∈ eb, nb c = false) (hd : D.drop p = 60 :: 47 :: (n ++ (eb ++ 62 :: r))) :
    nextP D (P_ p) = ⟨2, n, [], [], p⟩ ∧ nextS D (P_ p) = P_ (p + (2 + n.length + eb.length + 1)) := by
  refine next_on (Q := ⟨2, n, [], [], 0⟩) hd (.inr ⟨47, _, rfl, by decide, by decide⟩) ?_
  have hraw := (bcom_no hd (.inr ⟨47, _, rfl, by decide, by decide⟩)).2.2
  have hd1 : D.drop (p + 2) = n ++ (eb ++ 62 :: r) := drop_on (x := [60, 47]) hd
  have hst : Stops nb (eb ++ 62 :: r) := by
    cases eb with
    | nil => exact Stops.cons (by kernel_rfl)
    | cons c t => exact Stops.cons (hebn c (List.mem_cons_self ..))
  have h1 := name_on hd1 hn hst
  have hd2 := drop_on hd1
  have h2 := run_on hd2 heb (Stops.cons bb_62)
  have hd3 : D.drop (p + 2 + n.length + eb.length) = [62] ++ r := drop_on hd2
  unfold pieceR
  rw [if_neg (by rw [hraw]; decide), if_pos (show standsS [60, 47] D (P_ p) = true from stands_yes (x := [60, 47]) hd), show skipS [60, 47] D (P_ p) = P_ (p + 2) from skip_on (x := [60, 47]) hd]
  unfold closingS
  rw [h1.1, h1.2, h2.2, must_on hd3]
  congr 2; show p + 2 + n.length + eb.length + 1 = _; omega
theorem open_on {D n b eb e r : List UInt8} {kd : Int} {p : Nat} {A : List (List UInt8 × List UInt8)} (hn : Nm n) (hh : ∃ c r', n = c :: r' ∧ c ≠ 47 ∧ c ≠ 33 ∧ c ≠ 63) (hb : ∀ c ∈ b, bb c = true) (hbn : ∀ c ∈ b, nb c = false) (hb0 : b ≠ []) (heb : ∀ c ∈ eb, bb c = true) (hebn : ∀ c ∈ eb, nb c = false) (he : Ends e kd)
    (hA : ∀ a ∈ A, AtOk a) (hp : A.Pairwise (fun x y => (x.1 == y.1) = false)) (hl : A.length ≤ 16) (hd : D.drop p = 60 :: (n ++ (atsT b A ++ (eb ++ (e ++ r))))) :
    nextP D (P_ p) = ⟨kd, n, A, [], p⟩ ∧ nextS D (P_ p) = P_ (p + (1 + n.length + (atsT b A).length + eb.length + e.length)) := by
  obtain ⟨c, r', rfl, hc1, hc2, hc3⟩ := hh
  refine next_on (Q := ⟨kd, c :: r', A, [], 0⟩) hd (.inr ⟨c, _, rfl, hc2, hc3⟩) ?_
  have hraw := (bcom_no hd (.inr ⟨c, _, rfl, hc2, hc3⟩)).2.2
  have hd1 : D.drop (p + 1) = (c :: r') ++ (atsT b A ++ (eb ++ (e ++ r))) := drop_on (x := [60]) hd
  have hst : Stops nb (atsT b A ++ (eb ++ (e ++ r))) := by
    cases A with
    | cons a A =>
      cases b with
      | nil => exact absurd rfl hb0
      | cons x b => unfold atsT; rw [List.flatMap_cons]; exact Stops.cons (hbn x (List.mem_cons_self ..))
    | nil =>
      cases eb with
      | cons x eb => exact Stops.cons (hebn x (List.mem_cons_self ..))
      | nil =>
        rcases he with ⟨rfl, _⟩ | ⟨rfl, _⟩
        · exact Stops.cons (by kernel_rfl)
        · exact Stops.cons (by kernel_rfl)
  have h1 := name_on hd1 hn hst
  have hd2 := drop_on hd1
  have ho := opening_on D (c :: r') b eb e r kd hb hb0 heb he A [] 19 _ (by omega) (by simpa using hl) hA (fun _ _ => rfl) hp hd2
  unfold pieceR
  rw [if_neg (by rw [hraw]; decide), if_neg (by rw [show standsS [60, 47] D (P_ p) = false from stands_no2 (x := []) hd (fun e => hc1 e.symm)]; decide), if_pos (show standsS [60] D (P_ p) = true from stands_yes (x := [60]) hd),
    show skipS [60] D (P_ p) = P_ (p + 1) from skip_on (x := [60]) hd]
  unfold openingS
  rw [h1.1, h1.2, ho, List.nil_append]
  congr 2; omega
theorem tb_60 : tb 60 = false := by kernel_rfl
theorem text_on {D v r : List UInt8} {p : Nat} (hv : Lets v) (hv0 : v ≠ []) (hr : r = [] ∨ ∃ r', r = 60 :: r') (hd : D.drop p = closeL v ++ r) :
    nextP D (P_ p) = ⟨4, [], [], v, p⟩ ∧ nextS D (P_ p) = P_ (p + (closeL v).length) := by
  obtain ⟨c, t, hc⟩ : ∃ c t, closeL v = c :: t := by
    cases v with
    | nil => exact absurd rfl hv0
    | cons x v =>
      rw [closeL_cons]
      cases h : closeB x with
      | nil => exact absurd h (closeB_ne x)
      | cons y z => exact ⟨y, _, rfl⟩
  have hc60 : c ≠ 60 := (closeL_no v c (by rw [hc]; exact List.mem_cons_self ..)).1
  have hd' : D.drop p = c :: (t ++ r) := by rw [hd, hc]; rfl
  refine next_on (Q := ⟨4, [], [], v, 0⟩) hd' (.inl hc60) ?_
  have hraw := (bcom_no hd' (.inl hc60)).2.2
  have hrun := run_on (h := tb) hd (fun x hx => by have := (closeL_no v x hx).1; unfold tb; simp [this]) (by rcases hr with rfl | ⟨r', rfl⟩; exact .inl rfl; exact Stops.cons tb_60)
  have ho := opened_on hv ((P_ p).pos : Int) (P_ (p + (closeL v).length))
  unfold pieceR
  rw [if_neg (by rw [hraw]; decide), if_neg (by rw [show standsS [60, 47] D (P_ p) = false from stands_no (x := [47]) hd' (fun e => hc60 e.symm)]; decide), if_neg (by rw [show standsS [60] D (P_ p) = false from stands_no (x := []) hd' (fun e => hc60 e.symm)]; decide)]
  unfold textS
  rw [hrun.1, hrun.2, ho.1, ho.2]

/-! ### a comment with a hint says nothing -/
theorem pass_move (b e : List UInt8) (may : List UInt8 → Bool) (D : List UInt8) (σ : St) (hb : σ.pos + b.length ≤ D.length) : (passS b e may D σ).err ≠ 0 ∨ (σ.pos + b.length ≤ (passS b e may D σ).pos ∧ (passS b e may D σ).pos ≤ D.length) := by
  unfold passS
  by_cases h : (passC b e D σ).2.2 = true ∧ may (passC b e D σ).1 = true
  · rw [if_pos h]
    right
    have hY : (passC b e D σ).2.1.length ≤ D.length - (σ.pos + b.length) := by
      unfold passC Lib.cut
      split
      · simp only [List.length_drop]; omega
      · simp
    constructor
    · show _ ≤ D.length - _; omega
    · show D.length - _ ≤ _; omega
  · rw [if_neg h]
    left
    exact wrong_err _ _ _ (by decide)
theorem pass_fuel (D : List UInt8) : ∀ (f k : Nat) (σ : St), σ.pos ≤ D.length → D.length - σ.pos < f → D.length - σ.pos < k → passF f D σ = passF k D σ
  | 0, _, _, _, h, _ => absurd h (Nat.not_lt_zero _)
  | f + 1, 0, _, _, _, h => absurd h (Nat.not_lt_zero _)
  | f + 1, k + 1, σ, hp, h1, h2 => by
    unfold passF
    have key : ∀ (b e : List UInt8) (may : List UInt8 → Bool), b ≠ [] → standsS b D σ = true → passF f D (passS b e may D σ) = passF k D (passS b e may D σ) := by
      intro b e may hb0 hs
      have hl := stands_len hs hb0
      have hbl : 1 ≤ b.length := by
        cases b with
        | nil => exact absurd rfl hb0
        | cons _ _ => simp
      rcases pass_move b e may D σ hl with h | ⟨h3, h4⟩
      · have z : ∀ j, passF j D (passS b e may D σ) = passS b e may D σ := fun j => by
          cases j with
          | zero => rfl
          | succ j => unfold passF; rw [if_neg h]
        rw [z, z]
      · exact pass_fuel D f k _ h4 (by omega) (by omega)
    by_cases he : σ.err = 0
    · rw [if_pos he, if_pos he]
      by_cases c1 : standsS bCom D σ = true
      · rw [if_pos c1, if_pos c1]; exact key _ _ _ (by decide) c1
      rw [if_neg c1, if_neg c1]
      by_cases c2 : standsS bHint D σ = true
      · rw [if_pos c2, if_pos c2]; exact key _ _ _ (by decide) c2
      rw [if_neg c2, if_neg c2]
    · rw [if_neg he, if_neg he]
theorem index_hint : ∀ (x r : List UInt8), (∀ c ∈ x, c ≠ 63) → index (x ++ 63 :: 62 :: r) [63, 62] = x.length
  | [], r, _ => by unfold index; rfl
  | c :: x, r, h => by
    have hc : c ≠ 63 := h c (List.mem_cons_self ..)
    have ih := index_hint x r (fun y hy => h y (List.mem_cons_of_mem _ hy))
    rw [List.cons_append]
    unfold index
    have hp : List.isPrefixOf [63, 62] (c :: (x ++ 63 :: 62 :: r)) = false := by
      have : ¬ (63 : UInt8) = c := fun e => hc e.symm
      simp [List.isPrefixOf, this]
    rw [hp, if_neg (by decide), ih, List.length_cons]
    rw [if_neg (by simp)]
    omega
def comT (n : List UInt8) : List UInt8 := [60, 33, 45, 45, 32, 60, 110, 62, 32, 45, 45, 62] ++ ([60, 63] ++ (n ++ [63, 62]))
theorem com_on {D n r : List UInt8} {p : Nat} (hn : ∀ c ∈ n, c ≠ 63) (hd : D.drop p = comT n ++ r) : nextP D (P_ p) = nextP D (P_ (p + (comT n).length)) ∧ nextS D (P_ p) = nextS D (P_ (p + (comT n).length)) := by
  have hl0 : D.length = p + (comT n).length + r.length := by
    have h1 := congrArg List.length hd
    rw [List.length_drop, List.length_append] at h1
    have h2 : (comT n).length ≥ 12 := by unfold comT; simp
    omega
  have hd1 : D.drop p = bCom ++ ([32, 60, 110, 62, 32] ++ (eCom ++ ([60, 63] ++ (n ++ 63 :: 62 :: r)))) := by rw [hd]; unfold comT bCom eCom; simp
  have hs1 := stands_yes hd1
  have hd2 : D.drop (p + bCom.length) = [32, 60, 110, 62, 32] ++ (eCom ++ ([60, 63] ++ (n ++ 63 :: 62 :: r))) := drop_on hd1
  have hd4 : D.drop (p + 12) = bHint ++ (n ++ 63 :: 62 :: r) := by
    have := drop_on (x := bCom ++ ([32, 60, 110, 62, 32] ++ eCom)) (r := bHint ++ (n ++ 63 :: 62 :: r)) (show D.drop p = _ by rw [hd1]; simp; rfl)
    exact this
  have h1 : passS bCom eCom mayC D (P_ p) = P_ (p + 12) := by
    have hc : passC bCom eCom D (P_ p) = ([32, 60, 110, 62, 32], bHint ++ (n ++ 63 :: 62 :: r), true) := by
      unfold passC
      show cut (D.drop (p + bCom.length)) eCom = _
      rw [hd2]
      have hi : index ([32, 60, 110, 62, 32] ++ (eCom ++ ([60, 63] ++ (n ++ 63 :: 62 :: r)))) eCom = 5 := rfl
      unfold cut
      rw [hi]; rfl
    unfold passS
    rw [hc, if_pos ⟨rfl, by kernel_rfl⟩]
    show P_ (D.length - (bHint ++ (n ++ 63 :: 62 :: r)).length) = _
    have : (comT n).length = 12 + (2 + (n.length + 2)) := by unfold comT; simp; omega
    congr 1
    unfold bHint
    simp
    omega
  have hs2 := stands_yes hd4
  have hno : standsS bCom D (P_ (p + 12)) = false := stands_no2 (x := [45, 45]) (show D.drop (p + 12) = 60 :: 63 :: (n ++ 63 :: 62 :: r) from hd4) (by decide)
  have hd5 : D.drop (p + 12 + bHint.length) = n ++ 63 :: 62 :: r := drop_on hd4
  have hlen : (comT n).length = 12 + (2 + (n.length + 2)) := by unfold comT; simp; omega
  have h2 : passS bHint eHint mayH D (P_ (p + 12)) = P_ (p + (comT n).length) := by
    have hc : passC bHint eHint D (P_ (p + 12)) = (n, r, true) := by
      unfold passC
      show cut (D.drop (p + 12 + bHint.length)) eHint = _
      rw [hd5]
      have hi : index (n ++ 63 :: 62 :: r) eHint = n.length := index_hint n r hn
      unfold cut
      rw [hi, if_pos (by omega)]
      simp [eHint]
    unfold passS
    rw [hc, if_pos ⟨rfl, rfl⟩]
    show P_ (D.length - r.length) = _
    congr 1
    omega
  have hpass : passAllS D (P_ p) = passAllS D (P_ (p + (comT n).length)) := by
    unfold passAllS
    have e1 : passF (D.length + 1) D (P_ p) = passF D.length D (P_ (p + 12)) := by
      conv => lhs; unfold passF
      rw [if_pos (show (P_ p).err = 0 from rfl), if_pos hs1, h1]
    have e2 : passF D.length D (P_ (p + 12)) = passF (D.length - 1) D (P_ (p + (comT n).length)) := by
      obtain ⟨m, hm⟩ : ∃ m, D.length = m + 1 := ⟨D.length - 1, by omega⟩
      rw [hm]
      conv => lhs; unfold passF
      rw [if_pos (show (P_ (p + 12)).err = 0 from rfl), if_neg (by rw [hno]; decide), if_pos hs2, h2]
      rfl
    rw [e1, e2]
    exact pass_fuel D _ _ _ (by show p + (comT n).length ≤ _; omega) (by show D.length - (p + (comT n).length) < _; omega) (by show D.length - (p + (comT n).length) < _; omega)
  unfold nextP nextS
  rw [hpass]
  exact ⟨rfl, rfl⟩

end Go.Proofs.YtekmenkebokdoaaGreatDoor
