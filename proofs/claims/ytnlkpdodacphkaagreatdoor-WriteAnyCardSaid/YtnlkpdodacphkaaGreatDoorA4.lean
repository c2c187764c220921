/-
  Elements of few parts: how many, how deep, how long their texts are; trimmed texts; plain mathematics.
  Quotes in a tag's bytes: how many are closed; plain mathematics.
  Elements that may be, whatever their names: their documents are taken as they are; plain mathematics.
-/
import Derived.Test.YtnlkpdodacphkaaGreatDoorA3
namespace Go.Proofs.YtnlkpdodacphkaaGreatDoor
open Go Go.RowKit Go.Lib
set_option maxRecDepth 100000

/-! ### texts, trimmed -/
theorem blank_lt {c : UInt8} (h : blankB (c.toNat : Int) = true) : c.toNat < 128 := by
  unfold blankB at h
  have := of_decide_eq_true h
  omega
theorem lets_tail {c : UInt8} {l : List UInt8} (h : Lets (c :: l)) (hc : c.toNat < 128) : Lets l := by
  obtain ⟨rs, h1, h2⟩ := h
  cases rs with
  | nil => cases h2
  | cons r rs =>
    have hr := h1 r (List.mem_cons_self ..)
    have hm := (letB_iff r).1 hr
    rw [List.flatMap_cons] at h2
    by_cases a : r < 128
    · rw [put_f1 r (by omega)] at h2
      exact ⟨rs, fun x hx => h1 x (List.mem_cons_of_mem _ hx), (List.cons.inj h2).2⟩
    · have hp := put_hi r hr (by omega)
      have h0 := put_pos r (let_may r hr)
      cases hput : put r with
      | nil => rw [hput] at h0; exact absurd h0 (by decide)
      | cons d t =>
        rw [hput] at h2 hp
        have := hp d (List.mem_cons_self ..)
        rw [(List.cons.inj h2).1] at hc
        omega
theorem lets_init {c : UInt8} {l : List UInt8} (h : Lets (l ++ [c])) (hc : c.toNat < 128) : Lets l := by
  obtain ⟨rs, h1, h2⟩ := h
  rcases List.eq_nil_or_concat rs with rfl | ⟨qs, r, rfl⟩
  · simp at h2
  · have hr := h1 r (by simp)
    have hm := (letB_iff r).1 hr
    rw [List.concat_eq_append, List.flatMap_append] at h2
    have e1 : [r].flatMap put = put r := by simp
    rw [e1] at h2
    by_cases a : r < 128
    · rw [put_f1 r (by omega)] at h2
      exact ⟨qs, fun x hx => h1 x (by simp [hx]), (List.append_inj' h2 rfl).1⟩
    · have hp := put_hi r hr (by omega)
      have h0 := put_pos r (let_may r hr)
      have hl := congrArg List.getLast? h2
      rw [List.getLast?_append, List.getLast?_append] at hl
      cases hg : (put r).getLast? with
      | none => rw [List.getLast?_eq_none_iff] at hg; rw [hg] at h0; exact absurd h0 (by decide)
      | some d =>
        rw [hg] at hl
        have hcd : c = d := by simpa using hl
        have := hp d (List.mem_of_getLast? hg)
        rw [hcd] at hc
        omega
theorem nth_succ (c : UInt8) (l : List UInt8) (j : Nat) : nth (c :: l) (j + 1) = nth l j := by unfold nth; simp
theorem nth_blank {l : List UInt8} {j : Nat} (h : blankB (nth l j : Int) = true) : j < l.length ∧ (l.getD j 0).toNat < 128 := by
  refine ⟨?_, blank_lt h⟩
  rcases Nat.lt_or_ge j l.length with h' | h'
  · exact h'
  · have e : nth l j = 0 := by unfold nth; simp [List.getD, List.getElem?_eq_none h']
    rw [e] at h
    exact absurd h (by decide)
theorem drop_lets : ∀ (a : Nat) (l : List UInt8), Lets l → (∀ j, j < a → blankB (nth l j : Int) = true) → Lets (l.drop a)
  | 0, l, h, _ => by rw [List.drop_zero]; exact h
  | a + 1, [], _, h => by rw [List.drop_nil]; exact Lets.nil
  | a + 1, c :: l, h, hb => by
    have h0 := hb 0 (by omega)
    have hc : c.toNat < 128 := by
      have := (nth_blank h0).2
      simpa using this
    rw [List.drop_succ_cons]
    exact drop_lets a l (lets_tail h hc) fun j hj => by have := hb (j + 1) (by omega); rw [nth_succ] at this; exact this
theorem take_lets : ∀ (k : Nat) (l : List UInt8) (b : Nat), b + k = l.length → Lets l → (∀ j, b ≤ j → j < l.length → blankB (nth l j : Int) = true) → Lets (l.take b)
  | 0, l, b, hl, h, _ => by rw [List.take_of_length_le (by omega)]; exact h
  | k + 1, l, b, hl, h, hb => by
    rcases List.eq_nil_or_concat l with rfl | ⟨l', c, rfl⟩
    · simp at hl
    · rw [List.concat_eq_append] at hl h hb ⊢
      rw [List.length_append, List.length_singleton] at hl hb
      have hc0 := hb l'.length (by omega) (by omega)
      have hc : c.toNat < 128 := by
        have := (nth_blank hc0).2
        simpa [List.getD] using this
      have hl' := lets_init h hc
      have e : (l' ++ [c]).take b = l'.take b := by rw [List.take_append_of_le_length (by omega)]
      rw [e]
      refine take_lets k l' b (by omega) hl' fun j h1 h2 => ?_
      have := hb j h1 (by omega)
      have e2 : nth (l' ++ [c]) j = nth l' j := by unfold nth; simp [List.getD, List.getElem?_append_left h2]
      rw [e2] at this
      exact this
theorem first_non (p : Nat → Bool) : ∀ n, ∃ a, a ≤ n ∧ (∀ j, j < a → p j = true) ∧ (a < n → p a = false)
  | 0 => ⟨0, Nat.le_refl _, fun j h => absurd h (Nat.not_lt_zero j), fun h => absurd h (Nat.lt_irrefl _)⟩
  | n + 1 => by
    obtain ⟨a, h1, h2, h3⟩ := first_non p n
    by_cases ha : a < n
    · exact ⟨a, by omega, h2, fun _ => h3 ha⟩
    · have e : a = n := by omega
      subst e
      cases hp : p a with
      | false => exact ⟨a, by omega, h2, fun _ => hp⟩
      | true => exact ⟨a + 1, Nat.le_refl _, fun j hj => by
          by_cases h : j = a
          · rw [h]; exact hp
          · exact h2 j (by omega), fun h => absurd h (Nat.lt_irrefl _)⟩
theorem last_non (p : Nat → Bool) (a : Nat) : ∀ k, ∃ b, a ≤ b ∧ b ≤ a + k ∧ (∀ j, b ≤ j → j < a + k → p j = true) ∧ (a < b → p (b - 1) = false)
  | 0 => ⟨a, Nat.le_refl _, Nat.le_refl _, fun j h1 h2 => absurd h2 (by omega), fun h => absurd h (Nat.lt_irrefl _)⟩
  | k + 1 => by
    cases hp : p (a + k) with
    | false => exact ⟨a + k + 1, by omega, by omega, fun j h1 h2 => by omega, fun _ => hp⟩
    | true =>
      obtain ⟨b, h1, h2, h3, h4⟩ := last_non p a k
      refine ⟨b, h1, by omega, fun j hj hj2 => ?_, h4⟩
      by_cases h : j = a + k
      · rw [h]; exact hp
      · exact h3 j hj (by omega)
theorem trim_ex (l : List UInt8) : ∃ a b, a ≤ b ∧ b ≤ l.length ∧ (∀ j, j < a → blankB (nth l j : Int) = true) ∧ (a < l.length → blankB (nth l a : Int) = false) ∧
    (∀ j, b ≤ j → j < l.length → blankB (nth l j : Int) = true) ∧ (a < b → blankB (nth l (b - 1) : Int) = false) := by
  obtain ⟨a, h1, h2, h3⟩ := first_non (fun j => blankB (nth l j : Int)) l.length
  obtain ⟨b, h4, h5, h6, h7⟩ := last_non (fun j => blankB (nth l j : Int)) a (l.length - a)
  have e : a + (l.length - a) = l.length := by omega
  rw [e] at h5 h6
  exact ⟨a, b, h4, h5, h2, h3, h6, h7⟩
theorem trim_lets {l : List UInt8} (h : Lets l) : Lets (trimL l) := by
  obtain ⟨a, b, h1, h2, h3, h4, h5, h6⟩ := trim_ex l
  rw [trim_cut l a b h1 h2 h3 h4 h5 h6]
  refine drop_lets a _ (take_lets (l.length - b) l b (by omega) h h5) fun j hj => ?_
  have e : nth (l.take b) j = nth l j := by unfold nth; simp [List.getD, show j < b by omega]
  rw [e]; exact h3 j hj
theorem trim_trim (l : List UInt8) : trimL (trimL l) = trimL l := by
  obtain ⟨a, b, h1, h2, h3, h4, h5, h6⟩ := trim_ex l
  rw [trim_cut l a b h1 h2 h3 h4 h5 h6]
  have hlen : ((l.take b).drop a).length = b - a := by rw [List.length_drop, List.length_take, Nat.min_eq_left h2]
  have hn : ∀ j, j < b - a → nth ((l.take b).drop a) j = nth l (a + j) := fun j hj => by unfold nth; simp [List.getD, List.getElem?_drop, show a + j < b by omega]
  have h := trim_cut ((l.take b).drop a) 0 ((l.take b).drop a).length (Nat.zero_le _) (Nat.le_refl _) (fun j hj => absurd hj (Nat.not_lt_zero j)) (fun h0 => by
      rw [hlen] at h0
      rw [hn 0 h0]; exact h4 (by omega)) (fun j hj1 hj2 => by omega) (fun h0 => by
      rw [hlen] at h0 ⊢
      rw [hn _ (by omega), show a + (b - a - 1) = b - 1 by omega]; exact h6 (by omega))
  rw [h, List.drop_zero, List.take_length]

/-! ### elements of few parts -/
/-- An attribute of galliardref06.Near. -/
structure AttB (a : Att) : Prop where
  head : ∃ r, bl a.1 = 110 :: r
  ok : ∀ c ∈ bl a.1, okN c = true
  len : (bl a.1).length ≤ 7
  lets : Lets (bl a.2)
  vlen : (bl a.2).length ≤ 9
  no : ¬ bl a.1 = [110, 111]
/-- An element of galliardref06.Near, so deep at most. -/
inductive NearB : Nat → Nd → Prop where
  | mk (d : Nat) (s n t : ByteArray) (A : List Att) (K : List Nd) (hn : ∃ r, bl n = 110 :: r) (hn2 : ∀ c ∈ bl n, okN c = true) (hnl : (bl n).length ≤ 6) (hs : Lets (bl s)) (hsl : (bl s).length ≤ 3) (ht : Lets (bl t)) (htl : (bl t).length ≤ 12) (htr : trimL (bl t) = bl t)
    (hA : ∀ a ∈ A, AttB a) (hAd : A.Pairwise (fun x y => (bl x.1 == bl y.1) = false)) (hAl : A.length ≤ 3)
    (hKt : K = [] ∨ bl t = []) (hKl : K.length ≤ 3) (hK : ∀ k ∈ K, NearB d k) : NearB (d + 1) (.mk s n A K t)
theorem NearB.near {d : Nat} {x : Nd} (h : NearB d x) : NearN x := by
  induction h with
  | mk d s n t A K hn hn2 hnl hs hsl ht htl htr hA hAd hAl hKt hKl hK ih =>
    exact .mk s n t A K hn hn2 (by omega) hs ht htr (fun a ha => ⟨(hA a ha).head, (hA a ha).ok, by have := (hA a ha).len; omega, (hA a ha).lets⟩) hAd (by omega) hKt ih
theorem NearB.atts {d : Nat} {s n t : ByteArray} {A : List Att} {K : List Nd} (h : NearB d (.mk s n A K t)) : ∀ a ∈ A, AttB a := by cases h; assumption
theorem depthK_le {d : Nat} : ∀ K : List Nd, (∀ k ∈ K, k.depth ≤ d) → depthK K ≤ d
  | [], _ => by rw [depthK]; exact Nat.zero_le _
  | x :: K, h => by
    have h1 := h x (List.mem_cons_self ..)
    have h2 := depthK_le K fun k hk => h k (List.mem_cons_of_mem _ hk)
    rw [depthK]; omega
theorem NearB.depth {d : Nat} {x : Nd} (h : NearB d x) : x.depth ≤ d := by
  induction h with
  | mk d s n t A K hn hn2 hnl hs hsl ht htl htr hA hAd hAl hKt hKl hK ih =>
    have := depthK_le K ih
    rw [Nd.depth]; omega
/-- How many elements there are at most, of three within each. -/
def cntB : Nat → Nat
  | 0 => 0
  | d + 1 => 1 + 3 * cntB d
theorem countK_le {m : Nat} : ∀ K : List Nd, (∀ k ∈ K, k.count ≤ m) → countK K ≤ K.length * m
  | [], _ => by rw [countK]; exact Nat.zero_le _
  | x :: K, h => by
    have h1 := h x (List.mem_cons_self ..)
    have h2 := countK_le K fun k hk => h k (List.mem_cons_of_mem _ hk)
    rw [countK, List.length_cons, Nat.succ_mul]; omega
theorem NearB.count {d : Nat} {x : Nd} (h : NearB d x) : x.count ≤ cntB d := by
  induction h with
  | mk d s n t A K hn hn2 hnl hs hsl ht htl htr hA hAd hAl hKt hKl hK ih =>
    have h1 := countK_le K ih
    have h2 := Nat.mul_le_mul_right (cntB d) hKl
    rw [Nd.count, cntB]; omega
/-- How long a text is at most. -/
def lenB : Nat → Nat → Nat
  | 0, _ => 0
  | d + 1, p => 500 + p + 3 * (1 + (p + 1) + lenB d (p + 1))
theorem atsT_few {m : Nat} : ∀ A : List (List UInt8 × List UInt8), (∀ a ∈ A, (atT a.1 a.2).length ≤ m) → (atsT [32] A).length ≤ A.length * (m + 1)
  | [], _ => by unfold atsT; simp
  | a :: A, h => by
    have h1 := h a (List.mem_cons_self ..)
    have h2 := atsT_few A fun x hx => h x (List.mem_cons_of_mem _ hx)
    have e : atsT [32] (a :: A) = ([32] ++ atT a.1 a.2) ++ atsT [32] A := rfl
    have e1 : ([32] : List UInt8).length = 1 := rfl
    have e2 : (a :: A).length = A.length + 1 := rfl
    rw [e, List.length_append, List.length_append, e1, e2, Nat.succ_mul]
    omega
theorem tag_few {s sp : ByteArray} {A : List Att} (hs : (bl s).length ≤ 3) (hA : ∀ a ∈ A, AttB a) : ∀ a ∈ tagA s sp A, (atT a.1 a.2).length ≤ 64 := by
  have hat : ∀ n v : List UInt8, n.length ≤ 7 → v.length ≤ 9 → (atT n v).length ≤ 64 := fun n v h1 h2 => by
    have := closeL_len v
    unfold atT
    simp only [List.length_append, List.length_cons, List.length_nil]
    omega
  intro a ha
  unfold tagA at ha
  rcases List.mem_append.1 ha with h | h
  · split at h
    · cases h
    · rw [List.mem_singleton.1 h]
      exact hat bXm (bl s) (by decide) (by omega)
  · obtain ⟨y, hy, rfl⟩ := List.mem_map.1 h
    exact hat _ _ (hA y hy).len (hA y hy).vlen
theorem tag_len4 (s sp : ByteArray) {A : List Att} (h : A.length ≤ 3) : (tagA s sp A).length ≤ 4 := by
  unfold tagA
  rw [List.length_append, List.length_map]
  split
  · simp; omega
  · simp; omega
theorem kidsT_len {m : Nat} (s : ByteArray) (pad : List UInt8) : ∀ K : List Nd, (∀ k ∈ K, (bodyT k s pad).length ≤ m) → (kidsT K s pad).length ≤ K.length * (1 + pad.length + m)
  | [], _ => by rw [kidsT]; simp
  | x :: K, h => by
    have h1 := h x (List.mem_cons_self ..)
    have h2 := kidsT_len s pad K fun k hk => h k (List.mem_cons_of_mem _ hk)
    rw [kidsT, List.length_cons, List.length_append, List.length_append, List.length_cons, Nat.succ_mul]; omega
theorem NearB.len {d : Nat} {x : Nd} (h : NearB d x) : ∀ sp pad, (bodyT x sp pad).length ≤ lenB d pad.length := by
  induction h with
  | mk d s n t A K hn hn2 hnl hs hsl ht htl htr hA hAd hAl hKt hKl hK ih =>
    intro sp pad
    have h1 := atsT_few _ (tag_few (sp := sp) hsl hA)
    have h2 := Nat.mul_le_mul_right 65 (tag_len4 s sp hAl)
    have h3 := closeL_len (bl t)
    rw [bodyT, lenB]
    split
    · split
      · simp only [List.length_append, List.length_cons, List.length_nil]
        omega
      · simp only [List.length_append, List.length_cons, List.length_nil]
        omega
    · have h4 := kidsT_len s (pad ++ [32]) K fun k hk => ih k hk s (pad ++ [32])
      rw [List.length_append] at h4
      have e1 : ([32] : List UInt8).length = 1 := rfl
      rw [e1] at h4
      have h5 := Nat.mul_le_mul_right (1 + (pad.length + 1) + lenB d (pad.length + 1)) hKl
      simp only [List.length_append, List.length_cons, List.length_nil]
      omega
theorem NearB.lets {d : Nat} {x : Nd} (h : NearB d x) : ∀ sp pad, (∀ b ∈ pad, b = 32) → Lets (bodyT x sp pad) := by
  induction h with
  | mk d s n t A K hn hn2 hnl hs hsl ht htl htr hA hAd hAl hKt hKl hK ih =>
    intro sp pad hpad
    have l10 : Lets [10] := blanks_lets (fun c h => .inr (List.mem_singleton.1 h))
    have hp : Lets pad := blanks_lets (fun c h => .inl (hpad c h))
    have hnm : Lets (bl n) := ok_lets hn2
    have hat : Lets (atsT [32] (tagA s sp A)) := atsT_lets (blanks_lets (fun c h => .inl (List.mem_singleton.1 h))) _ fun a ha => by
      unfold tagA at ha
      rcases List.mem_append.1 ha with h | h
      · split at h
        · cases h
        · rw [List.mem_singleton.1 h]
          exact ⟨asc_lets bXm (by decide), hs⟩
      · obtain ⟨y, hy, rfl⟩ := List.mem_map.1 h
        exact ⟨ok_lets (hA y hy).ok, (hA y hy).lets⟩
    have hcl : Lets (60 :: 47 :: (bl n ++ [62])) := lets_cons (by decide) (lets_cons (by decide) (hnm.append (lets_one 62 (by decide))))
    rw [bodyT]
    refine lets_cons (by decide) (hnm.append (hat.append ?_))
    split
    · split
      · exact asc_lets _ (by decide)
      · exact lets_cons (by decide) (ht.close.append hcl)
    · refine lets_cons (by decide) (Lets.append ?_ (l10.append (hp.append hcl)))
      have hp2 : ∀ b ∈ pad ++ [32], b = 32 := fun b hb => by
        rcases List.mem_append.1 hb with h | h
        · exact hpad b h
        · exact List.mem_singleton.1 h
      have hpl : Lets (pad ++ [32]) := blanks_lets (fun c h => .inl (hp2 c h))
      have key : ∀ K : List Nd, (∀ k ∈ K, Lets (bodyT k s (pad ++ [32]))) → Lets (kidsT K s (pad ++ [32])) := by
        intro K
        induction K with
        | nil => intro _; rw [kidsT]; exact Lets.nil
        | cons k K ihK =>
          intro hk
          rw [kidsT]
          exact l10.append (hpl.append ((hk k (List.mem_cons_self ..)).append (ihK fun y hy => hk y (List.mem_cons_of_mem _ hy))))
      exact key K fun k hk => ih k hk s (pad ++ [32]) hp2
/-- How many < there are. -/
def lts (l : List UInt8) : Nat := l.count 60
theorem lts_app (a b : List UInt8) : lts (a ++ b) = lts a + lts b := by unfold lts; exact List.count_append ..
theorem lts_cons (c : UInt8) (l : List UInt8) (h : c ≠ 60) : lts (c :: l) = lts l := by unfold lts; exact List.count_cons_of_ne h
theorem lts_60 (l : List UInt8) : lts (60 :: l) = lts l + 1 := by unfold lts; exact List.count_cons_self ..
theorem lts_none {l : List UInt8} (h : ∀ c ∈ l, c ≠ 60) : lts l = 0 := by unfold lts; exact List.count_eq_zero.2 fun hm => h 60 hm rfl
theorem ok_60 {n : List UInt8} (h : ∀ c ∈ n, okN c = true) : ∀ c ∈ n, c ≠ 60 := fun c hc e => by
  have := h c hc
  rw [e] at this
  exact absurd this (by decide)
theorem NearB.few {d : Nat} {x : Nd} (h : NearB d x) : ∀ sp pad, (∀ b ∈ pad, b = 32) → lts (bodyT x sp pad) ≤ 2 * x.count := by
  induction h with
  | mk d s n t A K hn hn2 hnl hs hsl ht htl htr hA hAd hAl hKt hKl hK ih =>
    intro sp pad hpad
    have hnm := lts_none (ok_60 hn2)
    have hpd : lts pad = 0 := lts_none fun c hc => by rw [hpad c hc]; decide
    have hat : lts (atsT [32] (tagA s sp A)) = 0 := lts_none fun c hc => by
      unfold atsT at hc
      obtain ⟨a, ha, hc⟩ := List.mem_flatMap.1 hc
      have hname : ∀ c ∈ a.1, c ≠ 60 := by
        unfold tagA at ha
        rcases List.mem_append.1 ha with h | h
        · split at h
          · cases h
          · rw [List.mem_singleton.1 h]; exact (by decide : ∀ c ∈ bXm, c ≠ 60)
        · obtain ⟨y, hy, rfl⟩ := List.mem_map.1 h
          exact ok_60 (hA y hy).ok
      unfold atT at hc
      rcases List.mem_append.1 hc with h | h
      · rw [List.mem_singleton.1 h]; decide
      rcases List.mem_append.1 h with h | h
      · exact hname c h
      rcases List.mem_cons.1 h with rfl | h
      · decide
      rcases List.mem_cons.1 h with rfl | h
      · decide
      rcases List.mem_append.1 h with h | h
      · exact (closeL_no _ c h).1
      · rw [List.mem_singleton.1 h]; decide
    have hcl : lts (60 :: 47 :: (bl n ++ [62])) = 1 := by
      rw [lts_60, lts_cons 47 _ (by decide), lts_app, hnm]; rfl
    rw [bodyT, Nd.count, lts_60, lts_app, lts_app, hnm, hat]
    split
    · split
      · have : lts [47, 62] = 0 := rfl
        omega
      · rw [lts_cons 62 _ (by decide), lts_app, hcl, lts_none fun c hc => (closeL_no _ c hc).1]
        omega
    · rw [lts_cons 62 _ (by decide), lts_app, lts_cons 10 _ (by decide), lts_app, hpd, hcl]
      have hp2 : ∀ b ∈ pad ++ [32], b = 32 := fun b hb => by
        rcases List.mem_append.1 hb with h | h
        · exact hpad b h
        · exact List.mem_singleton.1 h
      have key : ∀ K : List Nd, (∀ k ∈ K, lts (bodyT k s (pad ++ [32])) ≤ 2 * k.count) → lts (kidsT K s (pad ++ [32])) ≤ 2 * countK K := by
        intro K
        induction K with
        | nil => intro _; rw [kidsT]; exact Nat.zero_le _
        | cons k K ihK =>
          intro hk
          have h1 := hk k (List.mem_cons_self ..)
          have h2 := ihK fun y hy => hk y (List.mem_cons_of_mem _ hy)
          have hpd2 : lts (pad ++ [32]) = 0 := lts_none fun c hc => by rw [hp2 c hc]; decide
          rw [kidsT, lts_cons 10 _ (by decide), lts_app, hpd2, lts_app, countK]
          omega
      have := key K fun k hk => ih k hk s (pad ++ [32]) hp2
      omega

end Go.Proofs.YtnlkpdodacphkaaGreatDoor
namespace Go.Proofs.YtnlkpdodacphkaaGreatDoor
open Go Go.RowKit Go.Lib
set_option maxRecDepth 100000

/-! ### quotes: outside (0), or within those of this byte; and how many were closed -/
def qS (q c : UInt8) : UInt8 := if q = 0 then (if c = 34 ∨ c = 39 then c else 0) else if c = q then 0 else q
def qN (q c : UInt8) : Nat := if q ≠ 0 ∧ c = q then 1 else 0
def qEnd : UInt8 → List UInt8 → UInt8
  | q, [] => q
  | q, c :: l => qEnd (qS q c) l
def qNum : UInt8 → List UInt8 → Nat
  | _, [] => 0
  | q, c :: l => qN q c + qNum (qS q c) l
/-- Bytes of a tag: no <, and no > outside of quotes. -/
def qOk : UInt8 → List UInt8 → Bool
  | _, [] => true
  | q, c :: l => (c != 60) && !(q == 0 && c == 62) && qOk (qS q c) l
theorem qEnd_app : ∀ (a b : List UInt8) (q : UInt8), qEnd q (a ++ b) = qEnd (qEnd q a) b
  | [], _, _ => rfl
  | c :: a, b, q => qEnd_app a b (qS q c)
theorem qNum_app : ∀ (a b : List UInt8) (q : UInt8), qNum q (a ++ b) = qNum q a + qNum (qEnd q a) b
  | [], _, _ => by simp [qNum, qEnd]
  | c :: a, b, q => by
    have ih := qNum_app a b (qS q c)
    show qN q c + qNum (qS q c) (a ++ b) = qN q c + qNum (qS q c) a + _
    rw [ih]
    show _ = _ + qNum (qEnd (qS q c) a) b
    omega
theorem qOk_app : ∀ (a b : List UInt8) (q : UInt8), qOk q (a ++ b) = (qOk q a && qOk (qEnd q a) b)
  | [], _, _ => by simp [qOk, qEnd]
  | c :: a, b, q => by
    have ih := qOk_app a b (qS q c)
    show ((c != 60) && !(q == 0 && c == 62) && qOk (qS q c) (a ++ b)) = ((c != 60) && !(q == 0 && c == 62) && qOk (qS q c) a && qOk (qEnd (qS q c) a) b)
    rw [ih]; simp only [Bool.and_assoc]
theorem qNum_le : ∀ (l : List UInt8) (q : UInt8), qNum q l ≤ l.length
  | [], _ => Nat.le_refl _
  | c :: l, q => by
    have ih := qNum_le l (qS q c)
    have h : qN q c ≤ 1 := by unfold qN; split <;> omega
    show qN q c + _ ≤ l.length + 1
    omega
theorem qOk_60 : ∀ (l : List UInt8) (q : UInt8), qOk q l = true → ∀ c ∈ l, c ≠ 60
  | [], _, _ => fun _ h => by cases h
  | d :: l, q, h => by
    unfold qOk at h
    rw [Bool.and_eq_true, Bool.and_eq_true] at h
    intro c hc
    rcases List.mem_cons.1 hc with rfl | hc
    · simpa using h.1.1
    · exact qOk_60 l _ h.2 c hc
/-- No quotes. -/
def NoQ (l : List UInt8) : Prop := ∀ c ∈ l, c ≠ 34 ∧ c ≠ 39
theorem NoQ.append {a b : List UInt8} (h : NoQ a) (k : NoQ b) : NoQ (a ++ b) := fun c hc => by
  rcases List.mem_append.1 hc with hc | hc
  · exact h c hc
  · exact k c hc
theorem plain_s {q c : UInt8} (hq : q = 0 ∨ q = 34 ∨ q = 39) (h : c ≠ 34 ∧ c ≠ 39) : qS q c = q ∧ qN q c = 0 := by
  unfold qS qN
  rcases hq with rfl | rfl | rfl
  · exact ⟨by rw [if_pos rfl, if_neg (by rintro (e | e); exact h.1 e; exact h.2 e)], by rw [if_neg (fun e => e.1 rfl)]⟩
  · exact ⟨by rw [if_neg (by decide), if_neg h.1], by rw [if_neg (fun e => h.1 e.2)]⟩
  · exact ⟨by rw [if_neg (by decide), if_neg h.2], by rw [if_neg (fun e => h.2 e.2)]⟩
theorem plain_run : ∀ (l : List UInt8) (q : UInt8), (q = 0 ∨ q = 34 ∨ q = 39) → NoQ l → qEnd q l = q ∧ qNum q l = 0
  | [], _, _, _ => ⟨rfl, rfl⟩
  | c :: l, q, hq, h => by
    have hs := plain_s hq (h c (List.mem_cons_self ..))
    have ih := plain_run l q hq fun x hx => h x (List.mem_cons_of_mem _ hx)
    refine ⟨?_, ?_⟩
    · show qEnd (qS q c) l = q
      rw [hs.1]; exact ih.1
    · show qN q c + qNum (qS q c) l = 0
      rw [hs.1, hs.2, ih.2]
theorem qS_or {q c : UInt8} (hq : q = 0 ∨ q = 34 ∨ q = 39) : qS q c = 0 ∨ qS q c = 34 ∨ qS q c = 39 := by
  unfold qS
  split
  · split
    · rename_i h
      rcases h with rfl | rfl
      · exact .inr (.inl rfl)
      · exact .inr (.inr rfl)
    · exact .inl rfl
  · split
    · exact .inl rfl
    · exact hq
theorem qEnd_or : ∀ (l : List UInt8) (q : UInt8), (q = 0 ∨ q = 34 ∨ q = 39) → qEnd q l = 0 ∨ qEnd q l = 34 ∨ qEnd q l = 39
  | [], _, hq => hq
  | _ :: l, _, hq => qEnd_or l _ (qS_or hq)
/-- Within double quotes, where there are none of them. -/
theorem dq_run : ∀ l : List UInt8, (∀ c ∈ l, c ≠ 34) → qEnd 34 l = 34 ∧ qNum 34 l = 0
  | [], _ => ⟨rfl, rfl⟩
  | c :: l, h => by
    have hc := h c (List.mem_cons_self ..)
    have hs : qS 34 c = 34 := by unfold qS; rw [if_neg (by decide), if_neg hc]
    have hn : qN 34 c = 0 := by unfold qN; rw [if_neg (fun e => hc e.2)]
    have ih := dq_run l fun x hx => h x (List.mem_cons_of_mem _ hx)
    refine ⟨?_, ?_⟩
    · show qEnd (qS 34 c) l = 34
      rw [hs]; exact ih.1
    · show qN 34 c + qNum (qS 34 c) l = 0
      rw [hs, hn, ih.2]
/-- From elsewhere, where there are no double quotes, nobody comes into them. -/
theorem no_dq : ∀ (l : List UInt8) (q : UInt8), (q = 0 ∨ q = 39) → (∀ c ∈ l, c ≠ 34) → qEnd q l = 0 ∨ qEnd q l = 39
  | [], _, hq, _ => hq
  | c :: l, q, hq, h => by
    refine no_dq l (qS q c) ?_ fun x hx => h x (List.mem_cons_of_mem _ hx)
    have hc := h c (List.mem_cons_self ..)
    unfold qS
    rcases hq with rfl | rfl
    · rw [if_pos rfl]
      split
      · rename_i h; exact .inr (h.resolve_left hc)
      · exact .inl rfl
    · rw [if_neg (by decide)]
      split
      · exact .inl rfl
      · exact .inr rfl

/-! ### an attribute as the document writes it: X, a double quote, V, a double quote -/
theorem att_fwd {X V : List UInt8} (hX : NoQ X) (hV : ∀ c ∈ V, c ≠ 34) : qEnd 0 (X ++ 34 :: (V ++ [34])) = 0 ∧ qNum 0 (X ++ 34 :: (V ++ [34])) = 1 := by
  have hx := plain_run X 0 (.inl rfl) hX
  have hv := dq_run V hV
  rw [qEnd_app, qNum_app, hx.1, hx.2]
  refine ⟨?_, ?_⟩
  · show qEnd (qS 0 34) (V ++ [34]) = 0
    have e : qS 0 34 = 34 := by decide
    rw [e, qEnd_app, hv.1]; decide
  · show 0 + (qN 0 34 + qNum (qS 0 34) (V ++ [34])) = 1
    have e : qS 0 34 = 34 := by decide
    have e2 : qN 0 34 = 0 := by decide
    rw [e, e2, qNum_app, hv.1, hv.2]; decide
/-- Who is outside behind it was outside ahead of it. -/
theorem att_back {X V : List UInt8} (hX : NoQ X) (hV : ∀ c ∈ V, c ≠ 34) {q : UInt8} (hq : q = 0 ∨ q = 34 ∨ q = 39) (h : qEnd q (X ++ 34 :: (V ++ [34])) = 0) : q = 0 := by
  have hx := plain_run X q hq hX
  rw [qEnd_app, hx.1] at h
  change qEnd (qS q 34) (V ++ [34]) = 0 at h
  rw [qEnd_app] at h
  change qS (qEnd (qS q 34) V) 34 = 0 at h
  rcases hq with rfl | rfl | rfl
  · rfl
  · have e : qS 34 34 = 0 := by decide
    rw [e] at h
    rcases no_dq V 0 (.inl rfl) hV with h2 | h2 <;> rw [h2] at h <;> exact absurd h (by decide)
  · have e : qS 39 34 = 39 := by decide
    rw [e] at h
    rcases no_dq V 39 (.inr rfl) hV with h2 | h2 <;> rw [h2] at h <;> exact absurd h (by decide)
/-- An end of it, that leads outside, closes one at most. -/
theorem att_end {X V P : List UInt8} (hX : NoQ X) (hV : ∀ c ∈ V, c ≠ 34) (hP : P <:+ X ++ 34 :: (V ++ [34])) {q : UInt8} (hq : q = 0 ∨ q = 34 ∨ q = 39) (h : qEnd q P = 0) : qNum q P ≤ 1 := by
  rcases List.eq_nil_or_concat P with rfl | ⟨P', c, rfl⟩
  · exact Nat.zero_le _
  rw [List.concat_eq_append] at hP h ⊢
  have e1 : X ++ 34 :: (V ++ [34]) = (X ++ 34 :: V) ++ [34] := by simp
  rw [e1] at hP
  obtain ⟨T, hT⟩ := hP
  rw [← List.append_assoc] at hT
  have hT2 := List.append_inj' hT rfl
  obtain rfl : c = 34 := by simpa using hT2.2
  have hsuf : T ++ P' = X ++ 34 :: V := hT2.1
  rw [qEnd_app] at h
  change qS (qEnd q P') 34 = 0 at h
  have hst : qEnd q P' = 34 := by
    rcases qEnd_or P' q hq with h2 | h2 | h2 <;> rw [h2] at h
    · exact absurd h (by decide)
    · exact h2
    · exact absurd h (by decide)
  have hz : qNum q P' = 0 := by
    -- where P' begins
    rcases List.append_eq_append_iff.1 hsuf with ⟨a, h1, h2⟩ | ⟨a, h1, h2⟩
    · -- X = T ++ a, P' = a ++ 34 :: V
      have ha : NoQ a := fun c hc => hX c (by rw [h1]; exact List.mem_append_right _ hc)
      have hx := plain_run a q hq ha
      rw [h2, qEnd_app, hx.1] at hst
      rw [h2, qNum_app, hx.1, hx.2]
      change qEnd (qS q 34) V = 34 at hst
      show 0 + (qN q 34 + qNum (qS q 34) V) = 0
      rcases hq with rfl | rfl | rfl
      · have e : qS 0 34 = 34 := by decide
        have e2 : qN 0 34 = 0 := by decide
        rw [e, e2, (dq_run V hV).2]
      · have e : qS 34 34 = 0 := by decide
        rw [e] at hst
        rcases no_dq V 0 (.inl rfl) hV with h3 | h3 <;> rw [h3] at hst <;> exact absurd hst (by decide)
      · have e : qS 39 34 = 39 := by decide
        rw [e] at hst
        rcases no_dq V 39 (.inr rfl) hV with h3 | h3 <;> rw [h3] at hst <;> exact absurd hst (by decide)
    · -- T = X ++ a, 34 :: V = a ++ P'
      cases a with
      | nil =>
        rw [List.nil_append] at h2
        rw [← h2] at hst ⊢
        change qEnd (qS q 34) V = 34 at hst
        show qN q 34 + qNum (qS q 34) V = 0
        rcases hq with rfl | rfl | rfl
        · have e : qS 0 34 = 34 := by decide
          have e2 : qN 0 34 = 0 := by decide
          rw [e, e2, (dq_run V hV).2]
        · have e : qS 34 34 = 0 := by decide
          rw [e] at hst
          rcases no_dq V 0 (.inl rfl) hV with h3 | h3 <;> rw [h3] at hst <;> exact absurd hst (by decide)
        · have e : qS 39 34 = 39 := by decide
          rw [e] at hst
          rcases no_dq V 39 (.inr rfl) hV with h3 | h3 <;> rw [h3] at hst <;> exact absurd hst (by decide)
      | cons b a =>
        have hV' : V = a ++ P' := (List.cons.inj h2).2
        have hP' : ∀ c ∈ P', c ≠ 34 := fun c hc => hV c (by rw [hV']; exact List.mem_append_right _ hc)
        rcases hq with rfl | rfl | rfl
        · rcases no_dq P' 0 (.inl rfl) hP' with h3 | h3 <;> rw [h3] at hst <;> exact absurd hst (by decide)
        · exact (dq_run P' hP').2
        · rcases no_dq P' 39 (.inr rfl) hP' with h3 | h3 <;> rw [h3] at hst <;> exact absurd hst (by decide)
  rw [qNum_app, hz]
  have := qNum_le [34] (qEnd q P')
  simpa using this

end Go.Proofs.YtnlkpdodacphkaaGreatDoor
namespace Go.Proofs.YtnlkpdodacphkaaGreatDoor
open Go Go.RowKit Go.Lib
set_option maxRecDepth 100000

/-! ### letters -/
theorem gl_tk {l : List UInt8} (h : (gl l).2 ≠ 0) : put (gl l).1 = l.take (gl l).2.toNat ∧ 1 ≤ (gl l).2.toNat ∧ (gl l).2.toNat ≤ l.length := by
  have key : ∀ f n, 1 ≤ n → (refFrom f n l).2 ≠ 0 → put (refFrom f n l).1 = l.take (refFrom f n l).2.toNat ∧ 1 ≤ (refFrom f n l).2.toNat ∧ (refFrom f n l).2.toNat ≤ l.length := by
    intro f
    induction f with
    | zero => intro n _ h; exact absurd rfl h
    | succ f ih =>
      intro n hn h
      by_cases a : n ≤ l.length
      · by_cases b : put (candN n l) = l.take n
        · rw [refFrom_hit f n l a b]
          exact ⟨by simpa using b, by simpa using hn, by simpa using a⟩
        · rw [refFrom_miss f n l a b] at h ⊢
          exact ih (n + 1) (by omega) h
      · rw [refFrom_out _ _ _ a] at h
        exact absurd rfl h
  rw [gl_from] at h ⊢
  exact key 4 1 (Nat.le_refl _) h
theorem gl_split {l : List UInt8} (h : (gl l).2 ≠ 0) : l = put (gl l).1 ++ l.drop (gl l).2.toNat := by
  rw [(gl_tk h).1, List.take_append_drop]
/-- Bytes of letters. -/
def Utf (l : List UInt8) : Prop := ∃ rs : List Int, (∀ r ∈ rs, mayB r = true) ∧ l = rs.flatMap put
theorem Utf.nil : Utf [] := ⟨[], fun _ h => (by cases h), rfl⟩
theorem Utf.append {l m : List UInt8} (h : Utf l) (k : Utf m) : Utf (l ++ m) := by
  obtain ⟨a, ha, rfl⟩ := h
  obtain ⟨b, hb, rfl⟩ := k
  refine ⟨a ++ b, fun r hr => ?_, by rw [List.flatMap_append]⟩
  rcases List.mem_append.1 hr with h | h
  · exact ha r h
  · exact hb r h
theorem Lets.utf {l : List UInt8} (h : Lets l) : Utf l := by
  obtain ⟨rs, h1, h2⟩ := h
  exact ⟨rs, fun r hr => let_may r (h1 r hr), h2⟩
theorem run_utf0 : ∀ rs : List Int, (∀ r ∈ rs, mayB r = true) → (runL (rs.flatMap put)).2 = (rs.flatMap put).length
  | [], _ => rfl
  | r :: rs, h => by
    have hr := h r (List.mem_cons_self ..)
    have ih := run_utf0 rs (fun x hx => h x (List.mem_cons_of_mem _ hx))
    rw [List.flatMap_cons]
    have hg := gl_put r hr (rs.flatMap put)
    have hp := put_pos r hr
    rw [runL_step _ (by rw [hg]; simp only; omega), hg]
    simp only [Int.toNat_natCast]
    rw [List.drop_left, ih, List.length_append]; omega
theorem Utf.ok {l : List UInt8} (h : Utf l) : badL l = -1 := by
  obtain ⟨rs, h1, rfl⟩ := h
  unfold badL
  rw [run_utf0 rs h1, if_neg (Nat.lt_irrefl _)]
theorem utf_of_bad : ∀ (n : Nat) (l : List UInt8), l.length ≤ n → badL l < 0 → Utf l
  | 0, l, hl, _ => by
    obtain rfl : l = [] := List.eq_nil_of_length_eq_zero (by omega)
    exact Utf.nil
  | n + 1, l, hl, h => by
    by_cases h0 : l = []
    · subst h0; exact Utf.nil
    have hp : 0 < l.length := List.length_pos_iff.2 h0
    have hr : (runL l).2 = l.length := by
      unfold badL at h
      have := (runL_le l).2
      by_cases hc : (runL l).2 < l.length
      · rw [if_pos hc] at h; omega
      · omega
    have hg : (gl l).2 ≠ 0 := fun e => by
      rw [runL_stop l e] at hr
      have : (0 : Nat) = l.length := hr
      omega
    have ht := gl_tk hg
    rw [runL_step l hg] at hr
    have hr' : (runL (l.drop (gl l).2.toNat)).2 + (gl l).2.toNat = l.length := hr
    have hd : (runL (l.drop (gl l).2.toNat)).2 = (l.drop (gl l).2.toNat).length := by rw [List.length_drop]; omega
    have ih := utf_of_bad n (l.drop (gl l).2.toNat) (by rw [List.length_drop]; omega) (by unfold badL; rw [hd, if_neg (Nat.lt_irrefl _)]; decide)
    rw [gl_split hg]
    have h1 : Utf (put (gl l).1) := ⟨[(gl l).1], fun r hr => by rw [List.mem_singleton.1 hr]; exact gl_may l hg, by simp⟩
    exact h1.append ih
theorem lets_of_text : ∀ (n : Nat) (l : List UInt8), l.length ≤ n → textL l < 0 → Lets l
  | 0, l, hl, _ => by
    obtain rfl : l = [] := List.eq_nil_of_length_eq_zero (by omega)
    exact Lets.nil
  | n + 1, l, hl, h => by
    by_cases h0 : l = []
    · subst h0; exact Lets.nil
    have hp : 0 < l.length := List.length_pos_iff.2 h0
    have hr : ¬ stopL l < l.length := fun hc => by
      unfold textL at h
      rw [if_pos hc] at h; omega
    have hb : letB (gl l).1 = true := by
      cases hb : letB (gl l).1 with
      | true => rfl
      | false => rw [stopL_stop l hb] at hr; omega
    have hpos := let_pos l hb
    have hg : (gl l).2 ≠ 0 := by omega
    have ht := gl_tk hg
    rw [stopL_step l hb] at hr
    have ih := lets_of_text n (l.drop (gl l).2.toNat) (by rw [List.length_drop]; omega) (by
      unfold textL
      rw [if_neg (by rw [List.length_drop]; omega)]; decide)
    rw [gl_split hg]
    have h1 : Lets (put (gl l).1) := ⟨[(gl l).1], fun r hr => by rw [List.mem_singleton.1 hr]; exact hb, by simp⟩
    exact h1.append ih
theorem text_iff {l : List UInt8} : textL l < 0 ↔ Lets l := ⟨lets_of_text l.length l (Nat.le_refl _), fun h => by rw [h.text]; decide⟩

/-! ### names -/
theorem name_facts {l : List UInt8} (h : nameL l = true) : l ≠ [] ∧ l.length ≤ 60 ∧ startB (nth l 0) = true ∧ (∀ c ∈ l, partB (c.toNat : Int) = true) ∧ badL l < 0 := by
  unfold nameL at h; exact of_decide_eq_true h
theorem part_no {c : UInt8} (h : partB (c.toNat : Int) = true) : c ≠ 58 ∧ c ≠ 62 ∧ c ≠ 47 ∧ c ≠ 33 ∧ c ≠ 63 ∧ bb c = false ∧ c ≠ 60 ∧ c ≠ 32 := by
  have key : ∀ i : Fin 256, partB ((UInt8.ofNat i.val).toNat : Int) = true → UInt8.ofNat i.val ≠ 58 ∧ UInt8.ofNat i.val ≠ 62 ∧ UInt8.ofNat i.val ≠ 47 ∧ UInt8.ofNat i.val ≠ 33 ∧ UInt8.ofNat i.val ≠ 63 ∧ bb (UInt8.ofNat i.val) = false ∧ UInt8.ofNat i.val ≠ 60 ∧ UInt8.ofNat i.val ≠ 32 := by decide +kernel
  have := key ⟨c.toNat, UInt8.toNat_lt c⟩
  rw [show UInt8.ofNat c.toNat = c by simp] at this
  exact this h
theorem part_colon {l : List UInt8} (h : ∀ c ∈ l, partB (c.toNat : Int) = true) : colonAt l = l.length := by
  induction l with
  | nil => rfl
  | cons c l ih => rw [colonAt_miss c l (part_no (h c (List.mem_cons_self ..))).1, ih (fun x hx => h x (List.mem_cons_of_mem _ hx)), List.length_cons]
theorem name_split {l : List UInt8} (h : nameL l = true) : splitL l = ([], l, true) := by
  rw [split_none _ (part_colon (name_facts h).2.2.2.1), h]
theorem name_nm {l : List UInt8} (h : nameL l = true) : Nm l :=
  ⟨fun c hc => by unfold nb; rw [(name_facts h).2.2.2.1 c hc]; rfl, by rw [name_split h]⟩
theorem name_cons {l : List UInt8} (h : nameL l = true) : ∃ c r, l = c :: r ∧ partB (c.toNat : Int) = true := by
  have hf := name_facts h
  cases l with
  | nil => exact absurd rfl hf.1
  | cons c r => exact ⟨c, r, rfl, hf.2.2.2.1 c (List.mem_cons_self ..)⟩
theorem name_utf {l : List UInt8} (h : nameL l = true) : Utf l := utf_of_bad l.length l (Nat.le_refl _) (name_facts h).2.2.2.2
/-- An attribute that may be. -/
structure GA (a : Att) : Prop where
  nm : nameL (bl a.1) = true
  no : ¬ a.1 = bXmlns
  lets : Lets (bl a.2)
/-- An element that may be. -/
inductive MayN : Nd → Prop where
  | mk (s n t : ByteArray) (A : List Att) (K : List Nd) (hn : nameL (bl n) = true) (hs : Lets (bl s)) (ht : Lets (bl t)) (htr : trimL (bl t) = bl t)
    (hA : ∀ a ∈ A, GA a) (hAd : A.Pairwise (fun x y => (bl x.1 == bl y.1) = false)) (hAl : A.length ≤ 15)
    (hKt : K = [] ∨ bl t = []) (hK : ∀ k ∈ K, MayN k) : MayN (.mk s n A K t)
theorem tell_g {n : ByteArray} (h : nameL (bl n) = true) (hno : ¬ n = bXmlns) : (tellS n).2 = false := by
  unfold tellS
  rw [if_neg hno]
  show Lib.hasPrefix n.data.toList _ = false
  cases hc : Lib.hasPrefix n.data.toList bXmlnsC.data.toList with
  | false => rfl
  | true =>
    exfalso
    unfold Lib.hasPrefix at hc
    obtain ⟨t, ht⟩ := List.isPrefixOf_iff_prefix.1 hc
    have hm : (58 : UInt8) ∈ bl n := by
      show (58 : UInt8) ∈ n.data.toList
      rw [← ht]
      exact List.mem_append_left _ (by decide)
    exact (part_no ((name_facts h).2.2.2.1 58 hm)).1 rfl
theorem enter_own_g (d : Nat) (L : List Tell) : ∀ (A R : List Att), (∀ a ∈ A, (tellS a.1).2 = false) → enterL d A R L = (R ++ A, 0, L)
  | [], R, _ => by simp [enterL]
  | a :: A, R, h => by
    unfold enterL
    rw [if_pos (h a (List.mem_cons_self ..)), enter_own_g d L A (R ++ [a]) fun x hx => h x (List.mem_cons_of_mem _ hx)]
    simp
theorem enter_tag_g (s sp : ByteArray) (A : List Att) (d : Nat) (L : List Tell) (hL : L.length < 100) (hA : ∀ a ∈ A, GA a) : enterL d (toAtt (tagA s sp A)) [] L = (A, 0, L ++ newL s sp d) := by
  have hA' : ∀ a ∈ A, (tellS a.1).2 = false := fun a ha => tell_g (hA a ha).nm (hA a ha).no
  rw [toAtt_tag]
  unfold newL
  split
  · rw [List.nil_append, enter_own_g d L A [] hA', List.append_nil]; rfl
  · show enterL d ((bXmlns, s) :: A) [] L = _
    unfold enterL
    have ht : tellS bXmlns = (bNone, true) := by kernel_rfl
    have hk : knowE L bNone s = 0 := by
      unfold knowE
      rw [if_neg (by rintro (h | h | h); exact absurd h (by decide); exact absurd h (by decide); exact h.1 rfl), if_neg (by omega)]
    rw [if_neg (by rw [ht]; decide), if_pos (by rw [ht]; exact hk), ht]
    exact enter_own_g d _ A [] hA'
theorem name_own_g {L : List Tell} {s n : ByteArray} (h : ofT L bNone = some s) (hn : nameL (bl n) = true) : nameSp L (str (bl n)) = (s, n, true) := by
  rw [str_bl_]
  unfold nameSp
  rw [name_split hn]
  have e0 : str ([] : List UInt8) = bNone := rfl
  unfold nameZ
  rw [if_neg (show ¬ true = false by decide), e0, h, str_bl_]
theorem enter_g {s n sp : ByteArray} {A : List Att} {L : List Tell} {d c p : Nat} {kd : Int} (hL : Knows L sp d) (hd : d < 32) (hc : c < 2000) (hn : nameL (bl n) = true) (hA : ∀ a ∈ A, GA a) :
    enterR ⟨kd, bl n, tagA s sp A, [], p⟩ d L c = .ok (⟨bl n, p, s, n, A, [], [], L⟩, L ++ newL s sp (d + 1)) := by
  unfold enterR
  rw [if_pos hc, if_pos hd]
  show enterC _ (enterL (d + 1) (toAtt (tagA s sp A)) [] L) (nameSp (enterL (d + 1) (toAtt (tagA s sp A)) [] L).2.2 (str (bl n))) L = _
  rw [enter_tag_g s sp A (d + 1) L (by have := hL.few; omega) hA, name_own_g (of_new hL.of) hn]
  have hok : attsOk A = true := List.all_eq_true.2 fun a ha => (hA a ha).nm
  unfold enterC
  rw [if_pos rfl, if_pos rfl, if_pos hok]
theorem at_head {l : List UInt8} (h : nameL l = true) : ∃ c r, l = c :: r ∧ bb c = false ∧ c ≠ 62 ∧ c ≠ 47 := by
  obtain ⟨c, r, e, hp⟩ := name_cons h
  have := part_no hp
  exact ⟨c, r, e, this.2.2.2.2.2.1, this.2.1, this.2.2.1⟩
theorem tag_ok_g {s sp : ByteArray} {A : List Att} (hs : Lets (bl s)) (hA : ∀ a ∈ A, GA a) : ∀ a ∈ tagA s sp A, AtOk a := by
  have hown : ∀ a ∈ A.map (fun a => (bl a.1, bl a.2)), AtOk a := fun a ha => by
    obtain ⟨y, hy, rfl⟩ := List.mem_map.1 ha
    have h := hA y hy
    exact ⟨name_nm h.nm, h.lets, at_head h.nm⟩
  intro a ha
  unfold tagA at ha
  split at ha
  · exact hown a ha
  · rcases List.mem_append.1 ha with h | h
    · rw [List.mem_singleton.1 h]
      exact ⟨ok_nm (by decide) (by decide) (by decide), hs, ⟨120, [109, 108, 110, 115], rfl, by kernel_rfl, by decide, by decide⟩⟩
    · exact hown a h
theorem tag_pair_g {s sp : ByteArray} {A : List Att} (hA : ∀ a ∈ A, GA a) (hd : A.Pairwise (fun x y => (bl x.1 == bl y.1) = false)) : (tagA s sp A).Pairwise (fun x y => (x.1 == y.1) = false) := by
  have h2 : (A.map (fun a => (bl a.1, bl a.2))).Pairwise (fun x y => (x.1 == y.1) = false) := List.pairwise_map.2 hd
  unfold tagA
  split
  · exact h2
  · refine List.pairwise_append.2 ⟨List.pairwise_singleton _ _, h2, fun x hx y hy => ?_⟩
    rw [List.mem_singleton.1 hx]
    obtain ⟨z, hz, rfl⟩ := List.mem_map.1 hy
    have h := (hA z hz).no
    show (bXm == bl z.1) = false
    refine beq_eq_false_iff_ne.2 fun e => h ?_
    rw [← bl_str z.1, ← e]; rfl
theorem open_g {D r e : List UInt8} {p : Nat} {kd : Int} {s sp n : ByteArray} {A : List Att} (hn : nameL (bl n) = true) (hs : Lets (bl s)) (hA : ∀ a ∈ A, GA a)
    (hAd : A.Pairwise (fun x y => (bl x.1 == bl y.1) = false)) (hAl : A.length ≤ 15) (he : Ends e kd) (hd : D.drop p = 60 :: (bl n ++ (atsT [32] (tagA s sp A) ++ (e ++ r)))) :
    nextP D (P_ p) = ⟨kd, bl n, tagA s sp A, [], p⟩ ∧ nextS D (P_ p) = P_ (p + (1 + (bl n).length + (atsT [32] (tagA s sp A)).length + e.length)) := by
  have h := open_on (D := D) (b := [32]) (eb := []) (e := e) (r := r) (kd := kd) (p := p) (name_nm hn) (by obtain ⟨c, r, e, hp⟩ := name_cons hn; have := part_no hp; exact ⟨c, r, e, this.2.2.1, this.2.2.2.1, this.2.2.2.2.1⟩) (by decide) (by decide) (by decide) (fun _ h => by cases h) (fun _ h => by cases h) he
    (tag_ok_g hs hA) (tag_pair_g hA hAd) (tag_len hAl) hd
  exact h
theorem start_g {s n sp : ByteArray} {A : List Att} {D e r : List UInt8} {p c : Nat} {kd : Int} {S : List Fr} {L : List Tell} (hL : Knows L sp S.length) (hS : S.length < 32) (hc : c < 2000) (hn : nameL (bl n) = true) (hs : Lets (bl s)) (hA : ∀ a ∈ A, GA a) (hAd : A.Pairwise (fun x y => (bl x.1 == bl y.1) = false)) (hAl : A.length ≤ 15) (he : Ends e kd) (hd : D.drop p = 60 :: (bl n ++ (atsT [32] (tagA s sp A) ++ (e ++ r)))) :
    ∃ Q q, nextP D (P_ p) = Q ∧ nextS D (P_ p) = P_ q ∧ opens Q ∧ q = p + (1 + (bl n).length + (atsT [32] (tagA s sp A)).length + e.length) ∧ D.drop q = r ∧ q ≤ D.length ∧
      opn Q S L c = if kd = 1 then .ok (.inside ⟨bl n, p, s, n, A, [], [], L⟩ S, L ++ newL s sp (S.length + 1), c + 1) else .ok (give (.mk s n A [] (str [])) S, L, c + 1) := by
  obtain ⟨h1, h2⟩ := open_g hn hs hA hAd hAl he hd
  have hd1 : D.drop p = (60 :: (bl n ++ (atsT [32] (tagA s sp A) ++ e))) ++ r := by rw [hd]; simp
  have el : p + (60 :: (bl n ++ (atsT [32] (tagA s sp A) ++ e))).length = p + (1 + (bl n).length + (atsT [32] (tagA s sp A)).length + e.length) := by simp; omega
  have h3 := drop_on hd1
  have h4 := drop_le hd1 (by simp)
  rw [el] at h3 h4
  refine ⟨_, _, h1, h2, ?_, rfl, h3, h4, ?_⟩
  · rcases he with ⟨_, h⟩ | ⟨_, h⟩
    · exact .inl h
    · exact .inr h
  · unfold opn
    rw [enter_g hL hS hc hn hA]
    rfl
theorem takes_mk_g {s n t : ByteArray} {A : List Att} {K : List Nd} (hn : nameL (bl n) = true) (hs : Lets (bl s)) (ht : Lets (bl t)) (htr : trimL (bl t) = bl t) (hA : ∀ a ∈ A, GA a)
    (hAd : A.Pairwise (fun x y => (bl x.1 == bl y.1) = false)) (hAl : A.length ≤ 15) (hKt : K = [] ∨ bl t = []) (hK : ∀ k ∈ K, Takes k) : Takes (.mk s n A K t) := by
  intro sp pad D r p S L c hL hd hpad hc hdep
  have hcnt : (Nd.mk s n A K t).count = 1 + countK K := by rw [Nd.count]
  have hdp : (Nd.mk s n A K t).depth = 1 + depthK K := by rw [Nd.depth]
  rw [hcnt] at hc ⊢
  rw [hdp] at hdep
  have hnm := name_nm hn
  by_cases hK0 : K.isEmpty = true
  · have hK1 : K = [] := List.isEmpty_iff.1 hK0
    subst hK1
    by_cases ht0 : bl t = []
    · have ht1 : str [] = t := by rw [← ht0, str_bl_]
      have hb : bodyT (.mk s n A [] t) sp pad = 60 :: (bl n ++ (atsT [32] (tagA s sp A) ++ [47, 62])) := by
        rw [bodyT, if_pos hK0, if_pos ht0]
      rw [hb] at hd ⊢
      obtain ⟨Q, q, h1, h2, h3, hq, -, -, ho⟩ := start_g (e := [47, 62]) (kd := 3) (r := r) (c := c) hL (by omega) (by omega) hn hs hA hAd hAl (.inr ⟨rfl, rfl⟩) (by rw [hd]; simp)
      refine ⟨Q, q, h1, h2, h3, ?_⟩
      have el : p + (60 :: (bl n ++ (atsT [32] (tagA s sp A) ++ [47, 62]))).length = q := by rw [hq]; simp; omega
      rw [ho, el, if_neg (by decide), ht1, countK]
      rfl
    · have hb : bodyT (.mk s n A [] t) sp pad = 60 :: (bl n ++ (atsT [32] (tagA s sp A) ++ 62 :: (closeL (bl t) ++ (60 :: 47 :: (bl n ++ [62]))))) := by
        rw [bodyT, if_pos hK0, if_neg ht0]
      rw [hb] at hd ⊢
      obtain ⟨Q, q, h1, h2, h3, hq, hdq, hql, ho⟩ := start_g (e := [62]) (kd := 1) (r := closeL (bl t) ++ (60 :: 47 :: (bl n ++ 62 :: r))) (c := c) hL (by omega) (by omega) hn hs hA hAd hAl (.inl ⟨rfl, rfl⟩) (by rw [hd]; simp)
      refine ⟨Q, q, h1, h2, h3, ?_⟩
      have h4 := text_on ht ht0 (.inr ⟨_, rfl⟩) hdq
      have hd5 := drop_on hdq
      have el : p + (60 :: (bl n ++ (atsT [32] (tagA s sp A) ++ 62 :: (closeL (bl t) ++ (60 :: 47 :: (bl n ++ [62])))))).length = q + (closeL (bl t)).length + (2 + (bl n).length + 1) := by rw [hq]; simp; omega
      rw [ho, el, if_pos rfl, countK]
      show runAt D (P_ q) _ = _
      rw [run_piece hql h4 (show (4 : Int) ≠ 0 by decide), step_in, if_neg (show ¬ (4 : Int) = 2 by decide), if_neg (by rintro (h | h) <;> exact absurd (show (4 : Int) = _ from h) (by decide))]
      show runAt D _ _ = _
      rw [shut_near (x := .mk s n A [] t) hnm rfl (by
        unfold shut
        rw [if_pos (.inr rfl)]
        show Res.ok (Nd.mk s n A [] (str (trimL (bl t)))) = _
        rw [htr, str_bl_]) hd5]
  · have hne : K ≠ [] := fun e => hK0 (by rw [e]; rfl)
    have ht0 : bl t = [] := hKt.resolve_left hne
    have ht1 : str [] = t := by rw [← ht0, str_bl_]
    have hb : bodyT (.mk s n A K t) sp pad = 60 :: (bl n ++ (atsT [32] (tagA s sp A) ++ 62 :: (kidsT K s (pad ++ [32]) ++ (10 :: (pad ++ (60 :: 47 :: (bl n ++ [62]))))))) := by
      rw [bodyT, if_neg hK0]
    rw [hb] at hd ⊢
    obtain ⟨Q, q, h1, h2, h3, hq, hdq, hql, ho⟩ := start_g (e := [62]) (kd := 1) (r := kidsT K s (pad ++ [32]) ++ (10 :: (pad ++ (60 :: 47 :: (bl n ++ 62 :: r))))) (c := c) hL (by omega) (by omega) hn hs hA hAd hAl (.inl ⟨rfl, rfl⟩) (by rw [hd]; simp)
    refine ⟨Q, q, h1, h2, h3, ?_⟩
    obtain ⟨tx', htx, h4⟩ := kids_run K hK s (pad ++ [32]) D _ q ⟨bl n, p, s, n, A, [], [], L⟩ S (L ++ newL s sp (S.length + 1)) (c + 1) hL.more hdq hql
      (fun b hb => by rcases List.mem_append.1 hb with h | h; exact hpad b h; exact List.mem_singleton.1 h) (by omega) (by rw [List.length_cons]; omega) (fun _ h => by cases h)
    have hd5 : D.drop (q + (kidsT K s (pad ++ [32])).length) = (10 :: pad) ++ 60 :: (47 :: (bl n ++ 62 :: r)) := drop_on hdq
    have hbl : ∀ b ∈ (10 :: pad), b = 32 ∨ b = 10 := fun b hb => by
      rcases List.mem_cons.1 hb with rfl | hb
      · exact .inr rfl
      · exact .inl (hpad b hb)
    have hd6 := drop_on hd5
    have el : p + (60 :: (bl n ++ (atsT [32] (tagA s sp A) ++ 62 :: (kidsT K s (pad ++ [32]) ++ (10 :: (pad ++ (60 :: 47 :: (bl n ++ [62])))))))).length = q + (kidsT K s (pad ++ [32])).length + (10 :: pad).length + (2 + (bl n).length + 1) := by rw [hq]; simp; omega
    rw [ho, el, if_pos rfl]
    show runAt D (P_ q) _ = _
    rw [h4, run_blanks hbl (by simp) hd5, shut_near (x := .mk s n A K t) hnm rfl (by
      unfold shut
      have htr2 : trimL (tx' ++ 10 :: pad) = [] := trim_blanks fun b hb => by
        rcases List.mem_append.1 hb with h | h
        · exact htx b h
        · exact hbl b h
      rw [if_pos (.inl htr2)]
      show Res.ok (Nd.mk s n A ([] ++ K) (str (trimL (tx' ++ 10 :: pad)))) = _
      rw [htr2, ht1]; rfl) hd6, Nat.add_assoc c]
theorem takes_g {x : Nd} (hx : MayN x) : Takes x := by
  induction hx with
  | mk s n t A K hn hs ht htr hA hAd hAl hKt _ ih => exact takes_mk_g hn hs ht htr hA hAd hAl hKt ih

/-- A document is read as the element that it was written of. -/
theorem new_U0 {D : List UInt8} (hl : D.length ≤ 200000) (hL : Utf D) : newS D = P_ 0 := by
  unfold newS
  rw [if_neg (by omega), if_neg (by rw [hL.ok]; decide)]
  rfl
theorem root_g {x : Nd} (hx : MayN x) (hl : (bodyT x bNone [] ++ [10]).length ≤ 200000) (hL : Utf (bodyT x bNone [] ++ [10])) (hc : x.count ≤ 2000) (hdep : x.depth ≤ 32) : parseL (bodyT x bNone [] ++ [10]) = .ok x := by
  generalize hD : bodyT x bNone [] ++ [10] = D at hl hL ⊢
  show runAt D (newS D) (.before, tells0, 0) = _
  rw [new_U0 hl hL]
  have d0 : D.drop 0 = bodyT x bNone [] ++ [10] := by rw [List.drop_zero, hD]
  have l10 : Lets [10] := blanks_lets (fun c h => .inr (List.mem_singleton.1 h))
  obtain ⟨Q, q, hQ, hq, hop, hrun⟩ := takes_g hx bNone [] D _ 0 [] tells0 0 ⟨by kernel_rfl, by decide⟩ d0 (fun _ h => by cases h) (by omega) (by rw [List.length_nil]; omega)
  have hk0 : Q.kind ≠ 0 ∧ Q.kind ≠ 4 := by rcases hop with h | h <;> rw [h] <;> decide
  have hst : step Q (.before, tells0, 0) = opn Q [] tells0 0 := by
    show (if _ then _ else _) = _
    rw [if_neg (fun h => hk0.2 h.1), if_pos hop]
  rw [run_piece (Nat.zero_le _) ⟨hQ, hq⟩ hk0.1, hst, hrun]
  have d1 : D.drop (0 + (bodyT x bNone []).length) = [10] ++ [] := drop_on d0
  have hle := drop_le d1 (by decide)
  have hle0 : 0 + (bodyT x bNone []).length ≤ D.length := by omega
  generalize 0 + (bodyT x bNone []).length = p at d1 hle hle0
  have h4 := text_raw l10 (by simp) (by decide) (.inl rfl) d1
  rw [run_piece hle0 h4 (show (4 : Int) ≠ 0 by decide)]
  show ((step _ (.behind x, tells0, _)).on _) = _
  rw [(step_blank (by kernel_rfl) _ _).2]
  show runAt D (P_ (p + ([10] : List UInt8).length)) _ = _
  have d2 : D.drop (p + ([10] : List UInt8).length) = [] := drop_on d1
  have h6 := next_end d2 hle
  unfold runAt
  rw [toks_fin (by rw [h6.2]; rfl) (by rw [h6.1]; rfl)]
  rfl
/-- Its text is one of letters. -/
theorem asc_utf (l : List UInt8) (h : ∀ c ∈ l, 32 ≤ c.toNat ∧ c.toNat < 128) : Utf l := (asc_lets l h).utf
theorem utf_cons {c : UInt8} {l : List UInt8} (h : 32 ≤ c.toNat ∧ c.toNat < 128) (hl : Utf l) : Utf (c :: l) := (lets_one c h).utf.append hl
theorem atsT_utf {b : List UInt8} (hb : Utf b) : ∀ A : List (List UInt8 × List UInt8), (∀ a ∈ A, Utf a.1 ∧ Lets a.2) → Utf (atsT b A)
  | [], _ => Utf.nil
  | a :: A, h => by
    have h1 := h a (List.mem_cons_self ..)
    unfold atsT
    rw [List.flatMap_cons]
    have h2 : Utf (atT a.1 a.2) := by
      unfold atT
      exact h1.1.append (utf_cons (by decide) (utf_cons (by decide) (h1.2.close.utf.append (utf_cons (by decide) Utf.nil))))
    exact (hb.append h2).append (atsT_utf hb A (fun x hx => h x (List.mem_cons_of_mem _ hx)))
theorem MayN.utf {x : Nd} (h : MayN x) : ∀ sp pad, (∀ b ∈ pad, b = 32) → Utf (bodyT x sp pad) := by
  induction h with
  | mk s n t A K hn hs ht htr hA hAd hAl hKt hK ih =>
    intro sp pad hpad
    have l10 : Utf [10] := (blanks_lets (fun c h => .inr (List.mem_singleton.1 h))).utf
    have hp : Utf pad := (blanks_lets (fun c h => .inl (hpad c h))).utf
    have hnm : Utf (bl n) := name_utf hn
    have hat : Utf (atsT [32] (tagA s sp A)) := atsT_utf (blanks_lets (fun c h => .inl (List.mem_singleton.1 h))).utf _ fun a ha => by
      unfold tagA at ha
      rcases List.mem_append.1 ha with h | h
      · split at h
        · cases h
        · rw [List.mem_singleton.1 h]
          exact ⟨asc_utf bXm (by decide), hs⟩
      · obtain ⟨y, hy, rfl⟩ := List.mem_map.1 h
        exact ⟨name_utf (hA y hy).nm, (hA y hy).lets⟩
    have hcl : Utf (60 :: 47 :: (bl n ++ [62])) := utf_cons (by decide) (utf_cons (by decide) (hnm.append (utf_cons (by decide) Utf.nil)))
    rw [bodyT]
    refine utf_cons (by decide) (hnm.append (hat.append ?_))
    split
    · split
      · exact asc_utf _ (by decide)
      · exact utf_cons (by decide) (ht.close.utf.append hcl)
    · refine utf_cons (by decide) (Utf.append ?_ (l10.append (hp.append hcl)))
      have hp2 : ∀ b ∈ pad ++ [32], b = 32 := fun b hb => by
        rcases List.mem_append.1 hb with h | h
        · exact hpad b h
        · exact List.mem_singleton.1 h
      have hpl : Utf (pad ++ [32]) := (blanks_lets (fun c h => .inl (hp2 c h))).utf
      have key : ∀ K : List Nd, (∀ k ∈ K, Utf (bodyT k s (pad ++ [32]))) → Utf (kidsT K s (pad ++ [32])) := by
        intro K
        induction K with
        | nil => intro _; rw [kidsT]; exact Utf.nil
        | cons k K ihK =>
          intro hk
          rw [kidsT]
          exact l10.append (hpl.append ((hk k (List.mem_cons_self ..)).append (ihK fun y hy => hk y (List.mem_cons_of_mem _ hy))))
      exact key K fun k hk => ih k hk s (pad ++ [32]) hp2
/-- What may be, is what is read of its text. -/
theorem parse_may {x : Nd} (hx : MayN x) (hl : (textT x ⟨#[]⟩ []).length ≤ 200000) (hc : x.count ≤ 2000) (hdep : x.depth ≤ 32) : parseL (textT x ⟨#[]⟩ []) = .ok x := by
  have l10 : Utf [10] := (blanks_lets (fun c h => .inr (List.mem_singleton.1 h))).utf
  have e : textT x ⟨#[]⟩ [] = bodyT x bNone [] ++ [10] := rfl
  rw [e] at hl ⊢
  exact root_g hx hl ((hx.utf bNone [] (fun b hb => by cases hb)).append l10) hc hdep
end Go.Proofs.YtnlkpdodacphkaaGreatDoor
