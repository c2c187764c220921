/-
  Elements of few parts: how many, how deep, how long their texts are; trimmed texts; plain mathematics.
-/
import Derived.Test.YtekmenkebokdoaaGreatDoorTreeText
namespace Go.Proofs.YtekmenkebokdoaaGreatDoor
open Go Go.RowKit Go.Lib
set_option maxRecDepth 100000

/-! ### texts, trimmed -/
theorem blank_lt {c : UInt8} (h : blankB (c.toNat : Int) = true) : c.toNat < 128 := by
  unfold blankB at h
  have := of_decide_eq_true h
  omega
theorem lets_tail {c : UInt8} {l : List UInt8} (h : Lets (c :: l)) (hc : c.toNat < 128) : Lets l := by
  obtain ⟨rs, h1, h2⟩ := h
  cases rs with
  | nil => cases h2
  | cons r rs =>
    have hr := h1 r (List.mem_cons_self ..)
    have hm := (letB_iff r).1 hr
    rw [List.flatMap_cons] at h2
    by_cases a : r < 128
    · rw [put_f1 r (by omega)] at h2
      exact ⟨rs, fun x hx => h1 x (List.mem_cons_of_mem _ hx), (List.cons.inj h2).2⟩
    · have hp := put_hi r hr (by omega)
      have h0 := put_pos r (let_may r hr)
      cases hput : put r with
      | nil => rw [hput] at h0; exact absurd h0 (by decide)
      | cons d t =>
        rw [hput] at h2 hp
        have := hp d (List.mem_cons_self ..)
        rw [(List.cons.inj h2).1] at hc
        omega
theorem lets_init {c : UInt8} {l : List UInt8} (h : Lets (l ++ [c])) (hc : c.toNat < 128) : Lets l := by
  obtain ⟨rs, h1, h2⟩ := h
  rcases List.eq_nil_or_concat rs with rfl | ⟨qs, r, rfl⟩
  · simp at h2
  · have hr := h1 r (by simp)
    have hm := (letB_iff r).1 hr
    rw [List.concat_eq_append, List.flatMap_append] at h2
    have e1 : [r].flatMap put = put r := by simp
    rw [e1] at h2
    by_cases a : r < 128
    · rw [put_f1 r (by omega)] at h2
      exact ⟨qs, fun x hx => h1 x (by simp [hx]), (List.append_inj' h2 rfl).1⟩
    · have hp := put_hi r hr (by omega)
      have h0 := put_pos r (let_may r hr)
      have hl := congrArg List.getLast? h2
      rw [List.getLast?_append, List.getLast?_append] at hl
      cases hg : (put r).getLast? with
      | none => rw [List.getLast?_eq_none_iff] at hg; rw [hg] at h0; exact absurd h0 (by decide)
      | some d =>
        rw [hg] at hl
        have hcd : c = d := by simpa using hl
        have := hp d (List.mem_of_getLast? hg)
        rw [hcd] at hc
        omega
theorem nth_succ (c : UInt8) (l : List UInt8) (j : Nat) : nth (c :: l) (j + 1) = nth l j := by unfold nth; simp
theorem nth_blank {l : List UInt8} {j : Nat} (h : blankB (nth l j : Int) = true) : j < l.length ∧ (l.getD j 0).toNat < 128 := by
  refine ⟨?_, blank_lt h⟩
  rcases Nat.lt_or_ge j l.length with h' | h'
  · exact h'
  · have e : nth l j = 0 := by unfold nth; simp [List.getD, List.getElem?_eq_none h']
    rw [e] at h
    exact absurd h (by decide)
theorem drop_lets : ∀ (a : Nat) (l : List UInt8), Lets l → (∀ j, j < a → blankB (nth l j : Int) = true) → Lets (l.drop a)
  | 0, l, h, _ => by rw [List.drop_zero]; exact h
  | a + 1, [], _, h => by rw [List.drop_nil]; exact Lets.nil
  | a + 1, c :: l, h, hb => by
    have h0 := hb 0 (by omega)
    have hc : c.toNat < 128 := by
      have := (nth_blank h0).2
      simpa using this
    rw [List.drop_succ_cons]
    exact drop_lets a l (lets_tail h hc) fun j hj => by have := hb (j + 1) (by omega); rw [nth_succ] at this; exact this
theorem take_lets : ∀ (k : Nat) (l : List UInt8) (b : Nat), b + k = l.length → Lets l → (∀ j, b ≤ j → j < l.length → blankB (nth l j : Int) = true) → Lets (l.take b)
  | 0, l, b, hl, h, _ => by rw [List.take_of_length_le (by omega)]; exact h
  | k + 1, l, b, hl, h, hb => by
    rcases List.eq_nil_or_concat l with rfl | ⟨l', c, rfl⟩
    · simp at hl
    · rw [List.concat_eq_append] at hl h hb ⊢
      rw [List.length_append, List.length_singleton] at hl hb
      have hc0 := hb l'.length (by omega) (by omega)
      have hc : c.toNat < 128 := by
        have := (nth_blank hc0).2
        simpa [List.getD] using this
      have hl' := lets_init h hc
      have e : (l' ++ [c]).take b = l'.take b := by rw [List.take_append_of_le_length (by omega)]
      rw [e]
      refine take_lets k l' b (by omega) hl' fun j h1 h2 => ?_
      have := hb j h1 (by omega)
      have e2 : nth (l' ++ [c]) j = nth l' j := by unfold nth; simp [List.getD, List.getElem?_append_left h2]
      rw [e2] at this
      exact this
theorem first_non (p : Nat → Bool) : ∀ n, ∃ a, a ≤ n ∧ (∀ j, j < a → p j = true) ∧ (a < n → p a = false)
  | 0 => ⟨0, Nat.le_refl _, fun j h => absurd h (Nat.not_lt_zero j), fun h => absurd h (Nat.lt_irrefl _)⟩
  | n + 1 => by
    obtain ⟨a, h1, h2, h3⟩ := first_non p n
    by_cases ha : a < n
    · exact ⟨a, by omega, h2, fun _ => h3 ha⟩
    · have e : a = n := by omega
      subst e
      cases hp : p a with
      | false => exact ⟨a, by omega, h2, fun _ => hp⟩
      | true => exact ⟨a + 1, Nat.le_refl _, fun j hj => by
          by_cases h : j = a
          · rw [h]; exact hp
          · exact h2 j (by omega), fun h => absurd h (Nat.lt_irrefl _)⟩
theorem last_non (p : Nat → Bool) (a : Nat) : ∀ k, ∃ b, a ≤ b ∧ b ≤ a + k ∧ (∀ j, b ≤ j → j < a + k → p j = true) ∧ (a < b → p (b - 1) = false)
  | 0 => ⟨a, Nat.le_refl _, Nat.le_refl _, fun j h1 h2 => absurd h2 (by omega), fun h => absurd h (Nat.lt_irrefl _)⟩
  | k + 1 => by
    cases hp : p (a + k) with
    | false => exact ⟨a + k + 1, by omega, by omega, fun j h1 h2 => by omega, fun _ => hp⟩
    | true =>
      obtain ⟨b, h1, h2, h3, h4⟩ := last_non p a k
      refine ⟨b, h1, by omega, fun j hj hj2 => ?_, h4⟩
      by_cases h : j = a + k
      · rw [h]; exact hp
      · exact h3 j hj (by omega)
theorem trim_ex (l : List UInt8) : ∃ a b, a ≤ b ∧ b ≤ l.length ∧ (∀ j, j < a → blankB (nth l j : Int) = true) ∧ (a < l.length → blankB (nth l a : Int) = false) ∧
    (∀ j, b ≤ j → j < l.length → blankB (nth l j : Int) = true) ∧ (a < b → blankB (nth l (b - 1) : Int) = false) := by
  obtain ⟨a, h1, h2, h3⟩ := first_non (fun j => blankB (nth l j : Int)) l.length
  obtain ⟨b, h4, h5, h6, h7⟩ := last_non (fun j => blankB (nth l j : Int)) a (l.length - a)
  have e : a + (l.length - a) = l.length := by omega
  rw [e] at h5 h6
  exact ⟨a, b, h4, h5, h2, h3, h6, h7⟩
theorem trim_lets {l : List UInt8} (h : Lets l) : Lets (trimL l) := by
  obtain ⟨a, b, h1, h2, h3, h4, h5, h6⟩ := trim_ex l
  rw [trim_cut l a b h1 h2 h3 h4 h5 h6]
  refine drop_lets a _ (take_lets (l.length - b) l b (by omega) h h5) fun j hj => ?_
  have e : nth (l.take b) j = nth l j := by unfold nth; simp [List.getD, show j < b by omega]
  rw [e]; exact h3 j hj
theorem trim_trim (l : List UInt8) : trimL (trimL l) = trimL l := by
  obtain ⟨a, b, h1, h2, h3, h4, h5, h6⟩ := trim_ex l
  rw [trim_cut l a b h1 h2 h3 h4 h5 h6]
  have hlen : ((l.take b).drop a).length = b - a := by rw [List.length_drop, List.length_take, Nat.min_eq_left h2]
  have hn : ∀ j, j < b - a → nth ((l.take b).drop a) j = nth l (a + j) := fun j hj => by unfold nth; simp [List.getD, List.getElem?_drop, show a + j < b by omega]
  have h := trim_cut ((l.take b).drop a) 0 ((l.take b).drop a).length (Nat.zero_le _) (Nat.le_refl _) (fun j hj => absurd hj (Nat.not_lt_zero j)) (fun h0 => by
      rw [hlen] at h0
      rw [hn 0 h0]; exact h4 (by omega)) (fun j hj1 hj2 => by omega) (fun h0 => by
      rw [hlen] at h0 ⊢
      rw [hn _ (by omega), show a + (b - a - 1) = b - 1 by omega]; exact h6 (by omega))
  rw [h, List.drop_zero, List.take_length]

/-! ### elements of few parts -/
/-- An attribute of galliardref06.Near. -/
structure AttB (a : Att) : Prop where
  head : ∃ r, bl a.1 = 110 :: r
  ok : ∀ c ∈ bl a.1, okN c = true
  len : (bl a.1).length ≤ 7
  lets : Lets (bl a.2)
  vlen : (bl a.2).length ≤ 9
/-- An element of galliardref06.Near, so deep at most. -/
inductive NearB : Nat → Nd → Prop where
  | mk (d : Nat) (s n t : ByteArray) (A : List Att) (K : List Nd) (hn : ∃ r, bl n = 110 :: r) (hn2 : ∀ c ∈ bl n, okN c = true) (hnl : (bl n).length ≤ 6) (hs : Lets (bl s)) (hsl : (bl s).length ≤ 3) (ht : Lets (bl t)) (htl : (bl t).length ≤ 12) (htr : trimL (bl t) = bl t)
    (hA : ∀ a ∈ A, AttB a) (hAd : A.Pairwise (fun x y => (bl x.1 == bl y.1) = false)) (hAl : A.length ≤ 3)
    (hKt : K = [] ∨ bl t = []) (hKl : K.length ≤ 3) (hK : ∀ k ∈ K, NearB d k) : NearB (d + 1) (.mk s n A K t)
theorem NearB.near {d : Nat} {x : Nd} (h : NearB d x) : NearN x := by
  induction h with
  | mk d s n t A K hn hn2 hnl hs hsl ht htl htr hA hAd hAl hKt hKl hK ih =>
    exact .mk s n t A K hn hn2 (by omega) hs ht htr (fun a ha => ⟨(hA a ha).head, (hA a ha).ok, by have := (hA a ha).len; omega, (hA a ha).lets⟩) hAd (by omega) hKt ih
theorem NearB.atts {d : Nat} {s n t : ByteArray} {A : List Att} {K : List Nd} (h : NearB d (.mk s n A K t)) : ∀ a ∈ A, AttB a := by cases h; assumption
theorem depthK_le {d : Nat} : ∀ K : List Nd, (∀ k ∈ K, k.depth ≤ d) → depthK K ≤ d
  | [], _ => by rw [depthK]; exact Nat.zero_le _
  | x :: K, h => by
    have h1 := h x (List.mem_cons_self ..)
    have h2 := depthK_le K fun k hk => h k (List.mem_cons_of_mem _ hk)
    rw [depthK]; omega
theorem NearB.depth {d : Nat} {x : Nd} (h : NearB d x) : x.depth ≤ d := by
  induction h with
  | mk d s n t A K hn hn2 hnl hs hsl ht htl htr hA hAd hAl hKt hKl hK ih =>
    have := depthK_le K ih
    rw [Nd.depth]; omega
/-- How many elements there are at most, of three within each. -/
def cntB : Nat → Nat
  | 0 => 0
  | d + 1 => 1 + 3 * cntB d
theorem countK_le {m : Nat} : ∀ K : List Nd, (∀ k ∈ K, k.count ≤ m) → countK K ≤ K.length * m
  | [], _ => by rw [countK]; exact Nat.zero_le _
  | x :: K, h => by
    have h1 := h x (List.mem_cons_self ..)
    have h2 := countK_le K fun k hk => h k (List.mem_cons_of_mem _ hk)
    rw [countK, List.length_cons, Nat.succ_mul]; omega
theorem NearB.count {d : Nat} {x : Nd} (h : NearB d x) : x.count ≤ cntB d := by
  induction h with
  | mk d s n t A K hn hn2 hnl hs hsl ht htl htr hA hAd hAl hKt hKl hK ih =>
    have h1 := countK_le K ih
    have h2 := Nat.mul_le_mul_right (cntB d) hKl
    rw [Nd.count, cntB]; omega
/-- How long a text is at most. -/
def lenB : Nat → Nat → Nat
  | 0, _ => 0
  | d + 1, p => 500 + p + 3 * (1 + (p + 1) + lenB d (p + 1))
theorem atsT_few {m : Nat} : ∀ A : List (List UInt8 × List UInt8), (∀ a ∈ A, (atT a.1 a.2).length ≤ m) → (atsT [32] A).length ≤ A.length * (m + 1)
  | [], _ => by unfold atsT; simp
  | a :: A, h => by
    have h1 := h a (List.mem_cons_self ..)
    have h2 := atsT_few A fun x hx => h x (List.mem_cons_of_mem _ hx)
    have e : atsT [32] (a :: A) = ([32] ++ atT a.1 a.2) ++ atsT [32] A := rfl
    have e1 : ([32] : List UInt8).length = 1 := rfl
    have e2 : (a :: A).length = A.length + 1 := rfl
    rw [e, List.length_append, List.length_append, e1, e2, Nat.succ_mul]
    omega
theorem tag_few {s sp : ByteArray} {A : List Att} (hs : (bl s).length ≤ 3) (hA : ∀ a ∈ A, AttB a) : ∀ a ∈ tagA s sp A, (atT a.1 a.2).length ≤ 64 := by
  have hat : ∀ n v : List UInt8, n.length ≤ 7 → v.length ≤ 9 → (atT n v).length ≤ 64 := fun n v h1 h2 => by
    have := closeL_len v
    unfold atT
    simp only [List.length_append, List.length_cons, List.length_nil]
    omega
  intro a ha
  unfold tagA at ha
  rcases List.mem_append.1 ha with h | h
  · split at h
    · cases h
    · rw [List.mem_singleton.1 h]
      exact hat bXm (bl s) (by decide) (by omega)
  · obtain ⟨y, hy, rfl⟩ := List.mem_map.1 h
    exact hat _ _ (hA y hy).len (hA y hy).vlen
theorem tag_len4 (s sp : ByteArray) {A : List Att} (h : A.length ≤ 3) : (tagA s sp A).length ≤ 4 := by
  unfold tagA
  rw [List.length_append, List.length_map]
  split
  · simp; omega
  · simp; omega
theorem kidsT_len {m : Nat} (s : ByteArray) (pad : List UInt8) : ∀ K : List Nd, (∀ k ∈ K, (bodyT k s pad).length ≤ m) → (kidsT K s pad).length ≤ K.length * (1 + pad.length + m)
  | [], _ => by rw [kidsT]; simp
  | x :: K, h => by
    have h1 := h x (List.mem_cons_self ..)
    have h2 := kidsT_len s pad K fun k hk => h k (List.mem_cons_of_mem _ hk)
    rw [kidsT, List.length_cons, List.length_append, List.length_append, List.length_cons, Nat.succ_mul]; omega
theorem NearB.len {d : Nat} {x : Nd} (h : NearB d x) : ∀ sp pad, (bodyT x sp pad).length ≤ lenB d pad.length := by
  induction h with
  | mk d s n t A K hn hn2 hnl hs hsl ht htl htr hA hAd hAl hKt hKl hK ih =>
    intro sp pad
    have h1 := atsT_few _ (tag_few (sp := sp) hsl hA)
    have h2 := Nat.mul_le_mul_right 65 (tag_len4 s sp hAl)
    have h3 := closeL_len (bl t)
    rw [bodyT, lenB]
    split
    · split
      · simp only [List.length_append, List.length_cons, List.length_nil]
        omega
      · simp only [List.length_append, List.length_cons, List.length_nil]
        omega
    · have h4 := kidsT_len s (pad ++ [32]) K fun k hk => ih k hk s (pad ++ [32])
      rw [List.length_append] at h4
      have e1 : ([32] : List UInt8).length = 1 := rfl
      rw [e1] at h4
      have h5 := Nat.mul_le_mul_right (1 + (pad.length + 1) + lenB d (pad.length + 1)) hKl
      simp only [List.length_append, List.length_cons, List.length_nil]
      omega
theorem NearB.lets {d : Nat} {x : Nd} (h : NearB d x) : ∀ sp pad, (∀ b ∈ pad, b = 32) → Lets (bodyT x sp pad) := by
  induction h with
  | mk d s n t A K hn hn2 hnl hs hsl ht htl htr hA hAd hAl hKt hKl hK ih =>
    intro sp pad hpad
    have l10 : Lets [10] := blanks_lets (fun c h => .inr (List.mem_singleton.1 h))
    have hp : Lets pad := blanks_lets (fun c h => .inl (hpad c h))
    have hnm : Lets (bl n) := ok_lets hn2
    have hat : Lets (atsT [32] (tagA s sp A)) := atsT_lets (blanks_lets (fun c h => .inl (List.mem_singleton.1 h))) _ fun a ha => by
      unfold tagA at ha
      rcases List.mem_append.1 ha with h | h
      · split at h
        · cases h
        · rw [List.mem_singleton.1 h]
          exact ⟨asc_lets bXm (by decide), hs⟩
      · obtain ⟨y, hy, rfl⟩ := List.mem_map.1 h
        exact ⟨ok_lets (hA y hy).ok, (hA y hy).lets⟩
    have hcl : Lets (60 :: 47 :: (bl n ++ [62])) := lets_cons (by decide) (lets_cons (by decide) (hnm.append (lets_one 62 (by decide))))
    rw [bodyT]
    refine lets_cons (by decide) (hnm.append (hat.append ?_))
    split
    · split
      · exact asc_lets _ (by decide)
      · exact lets_cons (by decide) (ht.close.append hcl)
    · refine lets_cons (by decide) (Lets.append ?_ (l10.append (hp.append hcl)))
      have hp2 : ∀ b ∈ pad ++ [32], b = 32 := fun b hb => by
        rcases List.mem_append.1 hb with h | h
        · exact hpad b h
        · exact List.mem_singleton.1 h
      have hpl : Lets (pad ++ [32]) := blanks_lets (fun c h => .inl (hp2 c h))
      have key : ∀ K : List Nd, (∀ k ∈ K, Lets (bodyT k s (pad ++ [32]))) → Lets (kidsT K s (pad ++ [32])) := by
        intro K
        induction K with
        | nil => intro _; rw [kidsT]; exact Lets.nil
        | cons k K ihK =>
          intro hk
          rw [kidsT]
          exact l10.append (hpl.append ((hk k (List.mem_cons_self ..)).append (ihK fun y hy => hk y (List.mem_cons_of_mem _ hy))))
      exact key K fun k hk => ih k hk s (pad ++ [32]) hp2
/-- How many < there are. -/
def lts (l : List UInt8) : Nat := l.count 60
theorem lts_app (a b : List UInt8) : lts (a ++ b) = lts a + lts b := by unfold lts; exact List.count_append ..
theorem lts_cons (c : UInt8) (l : List UInt8) (h : c ≠ 60) : lts (c :: l) = lts l := by unfold lts; exact List.count_cons_of_ne h
theorem lts_60 (l : List UInt8) : lts (60 :: l) = lts l + 1 := by unfold lts; exact List.count_cons_self ..
theorem lts_none {l : List UInt8} (h : ∀ c ∈ l, c ≠ 60) : lts l = 0 := by unfold lts; exact List.count_eq_zero.2 fun hm => h 60 hm rfl
theorem ok_60 {n : List UInt8} (h : ∀ c ∈ n, okN c = true) : ∀ c ∈ n, c ≠ 60 := fun c hc e => by
  have := h c hc
  rw [e] at this
  exact absurd this (by decide)
theorem NearB.few {d : Nat} {x : Nd} (h : NearB d x) : ∀ sp pad, (∀ b ∈ pad, b = 32) → lts (bodyT x sp pad) ≤ 2 * x.count := by
  induction h with
  | mk d s n t A K hn hn2 hnl hs hsl ht htl htr hA hAd hAl hKt hKl hK ih =>
    intro sp pad hpad
    have hnm := lts_none (ok_60 hn2)
    have hpd : lts pad = 0 := lts_none fun c hc => by rw [hpad c hc]; decide
    have hat : lts (atsT [32] (tagA s sp A)) = 0 := lts_none fun c hc => by
      unfold atsT at hc
      obtain ⟨a, ha, hc⟩ := List.mem_flatMap.1 hc
      have hname : ∀ c ∈ a.1, c ≠ 60 := by
        unfold tagA at ha
        rcases List.mem_append.1 ha with h | h
        · split at h
          · cases h
          · rw [List.mem_singleton.1 h]; exact (by decide : ∀ c ∈ bXm, c ≠ 60)
        · obtain ⟨y, hy, rfl⟩ := List.mem_map.1 h
          exact ok_60 (hA y hy).ok
      unfold atT at hc
      rcases List.mem_append.1 hc with h | h
      · rw [List.mem_singleton.1 h]; decide
      rcases List.mem_append.1 h with h | h
      · exact hname c h
      rcases List.mem_cons.1 h with rfl | h
      · decide
      rcases List.mem_cons.1 h with rfl | h
      · decide
      rcases List.mem_append.1 h with h | h
      · exact (closeL_no _ c h).1
      · rw [List.mem_singleton.1 h]; decide
    have hcl : lts (60 :: 47 :: (bl n ++ [62])) = 1 := by
      rw [lts_60, lts_cons 47 _ (by decide), lts_app, hnm]; rfl
    rw [bodyT, Nd.count, lts_60, lts_app, lts_app, hnm, hat]
    split
    · split
      · have : lts [47, 62] = 0 := rfl
        omega
      · rw [lts_cons 62 _ (by decide), lts_app, hcl, lts_none fun c hc => (closeL_no _ c hc).1]
        omega
    · rw [lts_cons 62 _ (by decide), lts_app, lts_cons 10 _ (by decide), lts_app, hpd, hcl]
      have hp2 : ∀ b ∈ pad ++ [32], b = 32 := fun b hb => by
        rcases List.mem_append.1 hb with h | h
        · exact hpad b h
        · exact List.mem_singleton.1 h
      have key : ∀ K : List Nd, (∀ k ∈ K, lts (bodyT k s (pad ++ [32])) ≤ 2 * k.count) → lts (kidsT K s (pad ++ [32])) ≤ 2 * countK K := by
        intro K
        induction K with
        | nil => intro _; rw [kidsT]; exact Nat.zero_le _
        | cons k K ihK =>
          intro hk
          have h1 := hk k (List.mem_cons_self ..)
          have h2 := ihK fun y hy => hk y (List.mem_cons_of_mem _ hy)
          have hpd2 : lts (pad ++ [32]) = 0 := lts_none fun c hc => by rw [hp2 c hc]; decide
          rw [kidsT, lts_cons 10 _ (by decide), lts_app, hpd2, lts_app, countK]
          omega
      have := key K fun k hk => ih k hk s (pad ++ [32]) hp2
      omega

end Go.Proofs.YtekmenkebokdoaaGreatDoor
