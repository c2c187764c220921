/-
  Elements of few parts: how many, how deep, how long their texts are; trimmed texts; plain mathematics.
  The walks of strconv.ParseUint at eight digits at most, base 10 and base 16, and of entity.numbered.
  The walk of entity.One.
-/
import Derived.Test.YtincdacickhdkaaGreatDoorW5
import Derived.Test.YtincdacickhdkaaGreatDoorW3
import Derived.Test.YtincdacickhdkaaGreatDoorW1
import Derived.Lib.ConvBytes
import Derived.Lib.ParseIntBMem
import Derived.Laws.Strings3
import Derived.Laws.Closers25
import Derived.Laws.Closers25b
import Derived.BigCall
import Derived.BigGuard
import Derived.Lib.IfaceEq
import Derived.Deep.LoopGhost
import Derived.Laws.Rows
namespace Go.Proofs.YtincdacickhdkaaGreatDoor
open Go Go.RowKit Go.Lib
set_option maxRecDepth 100000

/-! ### texts, trimmed -/
theorem blank_lt {c : UInt8} (h : blankB (c.toNat : Int) = true) : c.toNat < 128 := by
  unfold blankB at h
  have := of_decide_eq_true h
  omega
theorem lets_tail {c : UInt8} {l : List UInt8} (h : Lets (c :: l)) (hc : c.toNat < 128) : Lets l := by
  obtain ⟨rs, h1, h2⟩ := h
  cases rs with
  | nil => cases h2
  | cons r rs =>
    have hr := h1 r (List.mem_cons_self ..)
    have hm := (letB_iff r).1 hr
    rw [List.flatMap_cons] at h2
    by_cases a : r < 128
    · rw [put_f1 r (by omega)] at h2
      exact ⟨rs, fun x hx => h1 x (List.mem_cons_of_mem _ hx), (List.cons.inj h2).2⟩
    · have hp := put_hi r hr (by omega)
      have h0 := put_pos r (let_may r hr)
      cases hput : put r with
      | nil => rw [hput] at h0; exact absurd h0 (by decide)
      | cons d t =>
        rw [hput] at h2 hp
        have := hp d (List.mem_cons_self ..)
        rw [(List.cons.inj h2).1] at hc
        omega
theorem lets_init {c : UInt8} {l : List UInt8} (h : Lets (l ++ [c])) (hc : c.toNat < 128) : Lets l := by
  obtain ⟨rs, h1, h2⟩ := h
  rcases List.eq_nil_or_concat rs with rfl | ⟨qs, r, rfl⟩
  · simp at h2
  · have hr := h1 r (by simp)
    have hm := (letB_iff r).1 hr
    rw [List.concat_eq_append, List.flatMap_append] at h2
    have e1 : [r].flatMap put = put r := by simp
    rw [e1] at h2
    by_cases a : r < 128
    · rw [put_f1 r (by omega)] at h2
      exact ⟨qs, fun x hx => h1 x (by simp [hx]), (List.append_inj' h2 rfl).1⟩
    · have hp := put_hi r hr (by omega)
      have h0 := put_pos r (let_may r hr)
      have hl := congrArg List.getLast? h2
      rw [List.getLast?_append, List.getLast?_append] at hl
      cases hg : (put r).getLast? with
      | none => rw [List.getLast?_eq_none_iff] at hg; rw [hg] at h0; exact absurd h0 (by decide)
      | some d =>
        rw [hg] at hl
        have hcd : c = d := by simpa using hl
        have := hp d (List.mem_of_getLast? hg)
        rw [hcd] at hc
        omega
theorem nth_succ (c : UInt8) (l : List UInt8) (j : Nat) : nth (c :: l) (j + 1) = nth l j := by unfold nth; simp
theorem nth_blank {l : List UInt8} {j : Nat} (h : blankB (nth l j : Int) = true) : j < l.length ∧ (l.getD j 0).toNat < 128 := by
  refine ⟨?_, blank_lt h⟩
  rcases Nat.lt_or_ge j l.length with h' | h'
  · exact h'
  · have e : nth l j = 0 := by unfold nth; simp [List.getD, List.getElem?_eq_none h']
    rw [e] at h
    exact absurd h (by decide)
theorem drop_lets : ∀ (a : Nat) (l : List UInt8), Lets l → (∀ j, j < a → blankB (nth l j : Int) = true) → Lets (l.drop a)
  | 0, l, h, _ => by rw [List.drop_zero]; exact h
  | a + 1, [], _, h => by rw [List.drop_nil]; exact Lets.nil
  | a + 1, c :: l, h, hb => by
    have h0 := hb 0 (by omega)
    have hc : c.toNat < 128 := by
      have := (nth_blank h0).2
      simpa using this
    rw [List.drop_succ_cons]
    exact drop_lets a l (lets_tail h hc) fun j hj => by have := hb (j + 1) (by omega); rw [nth_succ] at this; exact this
theorem take_lets : ∀ (k : Nat) (l : List UInt8) (b : Nat), b + k = l.length → Lets l → (∀ j, b ≤ j → j < l.length → blankB (nth l j : Int) = true) → Lets (l.take b)
  | 0, l, b, hl, h, _ => by rw [List.take_of_length_le (by omega)]; exact h
  | k + 1, l, b, hl, h, hb => by
    rcases List.eq_nil_or_concat l with rfl | ⟨l', c, rfl⟩
    · simp at hl
    · rw [List.concat_eq_append] at hl h hb ⊢
      rw [List.length_append, List.length_singleton] at hl hb
      have hc0 := hb l'.length (by omega) (by omega)
      have hc : c.toNat < 128 := by
        have := (nth_blank hc0).2
        simpa [List.getD] using this
      have hl' := lets_init h hc
      have e : (l' ++ [c]).take b = l'.take b := by rw [List.take_append_of_le_length (by omega)]
      rw [e]
      refine take_lets k l' b (by omega) hl' fun j h1 h2 => ?_
      have := hb j h1 (by omega)
      have e2 : nth (l' ++ [c]) j = nth l' j := by unfold nth; simp [List.getD, List.getElem?_append_left h2]
      rw [e2] at this
      exact this
theorem first_non (p : Nat → Bool) : ∀ n, ∃ a, a ≤ n ∧ (∀ j, j < a → p j = true) ∧ (a < n → p a = false)
  | 0 => ⟨0, Nat.le_refl _, fun j h => absurd h (Nat.not_lt_zero j), fun h => absurd h (Nat.lt_irrefl _)⟩
  | n + 1 => by
    obtain ⟨a, h1, h2, h3⟩ := first_non p n
    by_cases ha : a < n
    · exact ⟨a, by omega, h2, fun _ => h3 ha⟩
    · have e : a = n := by omega
      subst e
      cases hp : p a with
      | false => exact ⟨a, by omega, h2, fun _ => hp⟩
      | true => exact ⟨a + 1, Nat.le_refl _, fun j hj => by
          by_cases h : j = a
          · rw [h]; exact hp
          · exact h2 j (by omega), fun h => absurd h (Nat.lt_irrefl _)⟩
theorem last_non (p : Nat → Bool) (a : Nat) : ∀ k, ∃ b, a ≤ b ∧ b ≤ a + k ∧ (∀ j, b ≤ j → j < a + k → p j = true) ∧ (a < b → p (b - 1) = false)
  | 0 => ⟨a, Nat.le_refl _, Nat.le_refl _, fun j h1 h2 => absurd h2 (by omega), fun h => absurd h (Nat.lt_irrefl _)⟩
  | k + 1 => by
    cases hp : p (a + k) with
    | false => exact ⟨a + k + 1, by omega, by omega, fun j h1 h2 => by omega, fun _ => hp⟩
    | true =>
      obtain ⟨b, h1, h2, h3, h4⟩ := last_non p a k
      refine ⟨b, h1, by omega, fun j hj hj2 => ?_, h4⟩
      by_cases h : j = a + k
      · rw [h]; exact hp
      · exact h3 j hj (by omega)
theorem trim_ex (l : List UInt8) : ∃ a b, a ≤ b ∧ b ≤ l.length ∧ (∀ j, j < a → blankB (nth l j : Int) = true) ∧ (a < l.length → blankB (nth l a : Int) = false) ∧
    (∀ j, b ≤ j → j < l.length → blankB (nth l j : Int) = true) ∧ (a < b → blankB (nth l (b - 1) : Int) = false) := by
  obtain ⟨a, h1, h2, h3⟩ := first_non (fun j => blankB (nth l j : Int)) l.length
  obtain ⟨b, h4, h5, h6, h7⟩ := last_non (fun j => blankB (nth l j : Int)) a (l.length - a)
  have e : a + (l.length - a) = l.length := by omega
  rw [e] at h5 h6
  exact ⟨a, b, h4, h5, h2, h3, h6, h7⟩
theorem trim_lets {l : List UInt8} (h : Lets l) : Lets (trimL l) := by
  obtain ⟨a, b, h1, h2, h3, h4, h5, h6⟩ := trim_ex l
  rw [trim_cut l a b h1 h2 h3 h4 h5 h6]
  refine drop_lets a _ (take_lets (l.length - b) l b (by omega) h h5) fun j hj => ?_
  have e : nth (l.take b) j = nth l j := by unfold nth; simp [List.getD, show j < b by omega]
  rw [e]; exact h3 j hj
theorem trim_trim (l : List UInt8) : trimL (trimL l) = trimL l := by
  obtain ⟨a, b, h1, h2, h3, h4, h5, h6⟩ := trim_ex l
  rw [trim_cut l a b h1 h2 h3 h4 h5 h6]
  have hlen : ((l.take b).drop a).length = b - a := by rw [List.length_drop, List.length_take, Nat.min_eq_left h2]
  have hn : ∀ j, j < b - a → nth ((l.take b).drop a) j = nth l (a + j) := fun j hj => by unfold nth; simp [List.getD, List.getElem?_drop, show a + j < b by omega]
  have h := trim_cut ((l.take b).drop a) 0 ((l.take b).drop a).length (Nat.zero_le _) (Nat.le_refl _) (fun j hj => absurd hj (Nat.not_lt_zero j)) (fun h0 => by
      rw [hlen] at h0
      rw [hn 0 h0]; exact h4 (by omega)) (fun j hj1 hj2 => by omega) (fun h0 => by
      rw [hlen] at h0 ⊢
      rw [hn _ (by omega), show a + (b - a - 1) = b - 1 by omega]; exact h6 (by omega))
  rw [h, List.drop_zero, List.take_length]

/-! ### elements of few parts -/
/-- An attribute of galliardref06.Near. -/
structure AttB (a : Att) : Prop where
  head : ∃ r, bl a.1 = 110 :: r
  ok : ∀ c ∈ bl a.1, okN c = true
  len : (bl a.1).length ≤ 7
  lets : Lets (bl a.2)
  vlen : (bl a.2).length ≤ 9
  no : ¬ bl a.1 = [110, 111]
/-- An element of galliardref06.Near, so deep at most. -/
inductive NearB : Nat → Nd → Prop where
  | mk (d : Nat) (s n t : ByteArray) (A : List Att) (K : List Nd) (hn : ∃ r, bl n = 110 :: r) (hn2 : ∀ c ∈ bl n, okN c = true) (hnl : (bl n).length ≤ 6) (hs : Lets (bl s)) (hsl : (bl s).length ≤ 3) (ht : Lets (bl t)) (htl : (bl t).length ≤ 12) (htr : trimL (bl t) = bl t)
    (hA : ∀ a ∈ A, AttB a) (hAd : A.Pairwise (fun x y => (bl x.1 == bl y.1) = false)) (hAl : A.length ≤ 3)
    (hKt : K = [] ∨ bl t = []) (hKl : K.length ≤ 3) (hK : ∀ k ∈ K, NearB d k) : NearB (d + 1) (.mk s n A K t)
theorem NearB.near {d : Nat} {x : Nd} (h : NearB d x) : NearN x := by
  induction h with
  | mk d s n t A K hn hn2 hnl hs hsl ht htl htr hA hAd hAl hKt hKl hK ih =>
    exact .mk s n t A K hn hn2 (by omega) hs ht htr (fun a ha => ⟨(hA a ha).head, (hA a ha).ok, by have := (hA a ha).len; omega, (hA a ha).lets⟩) hAd (by omega) hKt ih
theorem NearB.atts {d : Nat} {s n t : ByteArray} {A : List Att} {K : List Nd} (h : NearB d (.mk s n A K t)) : ∀ a ∈ A, AttB a := by cases h; assumption
theorem depthK_le {d : Nat} : ∀ K : List Nd, (∀ k ∈ K, k.depth ≤ d) → depthK K ≤ d
  | [], _ => by rw [depthK]; exact Nat.zero_le _
  | x :: K, h => by
    have h1 := h x (List.mem_cons_self ..)
    have h2 := depthK_le K fun k hk => h k (List.mem_cons_of_mem _ hk)
    rw [depthK]; omega
theorem NearB.depth {d : Nat} {x : Nd} (h : NearB d x) : x.depth ≤ d := by
  induction h with
  | mk d s n t A K hn hn2 hnl hs hsl ht htl htr hA hAd hAl hKt hKl hK ih =>
    have := depthK_le K ih
    rw [Nd.depth]; omega
/-- How many elements there are at most, of three within each. -/
def cntB : Nat → Nat
  | 0 => 0
  | d + 1 => 1 + 3 * cntB d
theorem countK_le {m : Nat} : ∀ K : List Nd, (∀ k ∈ K, k.count ≤ m) → countK K ≤ K.length * m
  | [], _ => by rw [countK]; exact Nat.zero_le _
  | x :: K, h => by
    have h1 := h x (List.mem_cons_self ..)
    have h2 := countK_le K fun k hk => h k (List.mem_cons_of_mem _ hk)
    rw [countK, List.length_cons, Nat.succ_mul]; omega
theorem NearB.count {d : Nat} {x : Nd} (h : NearB d x) : x.count ≤ cntB d := by
  induction h with
  | mk d s n t A K hn hn2 hnl hs hsl ht htl htr hA hAd hAl hKt hKl hK ih =>
    have h1 := countK_le K ih
    have h2 := Nat.mul_le_mul_right (cntB d) hKl
    rw [Nd.count, cntB]; omega
/-- How long a text is at most. -/
def lenB : Nat → Nat → Nat
  | 0, _ => 0
  | d + 1, p => 500 + p + 3 * (1 + (p + 1) + lenB d (p + 1))
theorem atsT_few {m : Nat} : ∀ A : List (List UInt8 × List UInt8), (∀ a ∈ A, (atT a.1 a.2).length ≤ m) → (atsT [32] A).length ≤ A.length * (m + 1)
  | [], _ => by unfold atsT; simp
  | a :: A, h => by
    have h1 := h a (List.mem_cons_self ..)
    have h2 := atsT_few A fun x hx => h x (List.mem_cons_of_mem _ hx)
    have e : atsT [32] (a :: A) = ([32] ++ atT a.1 a.2) ++ atsT [32] A := rfl
    have e1 : ([32] : List UInt8).length = 1 := rfl
    have e2 : (a :: A).length = A.length + 1 := rfl
    rw [e, List.length_append, List.length_append, e1, e2, Nat.succ_mul]
    omega
theorem tag_few {s sp : ByteArray} {A : List Att} (hs : (bl s).length ≤ 3) (hA : ∀ a ∈ A, AttB a) : ∀ a ∈ tagA s sp A, (atT a.1 a.2).length ≤ 64 := by
  have hat : ∀ n v : List UInt8, n.length ≤ 7 → v.length ≤ 9 → (atT n v).length ≤ 64 := fun n v h1 h2 => by
    have := closeL_len v
    unfold atT
    simp only [List.length_append, List.length_cons, List.length_nil]
    omega
  intro a ha
  unfold tagA at ha
  rcases List.mem_append.1 ha with h | h
  · split at h
    · cases h
    · rw [List.mem_singleton.1 h]
      exact hat bXm (bl s) (by decide) (by omega)
  · obtain ⟨y, hy, rfl⟩ := List.mem_map.1 h
    exact hat _ _ (hA y hy).len (hA y hy).vlen
theorem tag_len4 (s sp : ByteArray) {A : List Att} (h : A.length ≤ 3) : (tagA s sp A).length ≤ 4 := by
  unfold tagA
  rw [List.length_append, List.length_map]
  split
  · simp; omega
  · simp; omega
theorem kidsT_len {m : Nat} (s : ByteArray) (pad : List UInt8) : ∀ K : List Nd, (∀ k ∈ K, (bodyT k s pad).length ≤ m) → (kidsT K s pad).length ≤ K.length * (1 + pad.length + m)
  | [], _ => by rw [kidsT]; simp
  | x :: K, h => by
    have h1 := h x (List.mem_cons_self ..)
    have h2 := kidsT_len s pad K fun k hk => h k (List.mem_cons_of_mem _ hk)
    rw [kidsT, List.length_cons, List.length_append, List.length_append, List.length_cons, Nat.succ_mul]; omega
theorem NearB.len {d : Nat} {x : Nd} (h : NearB d x) : ∀ sp pad, (bodyT x sp pad).length ≤ lenB d pad.length := by
  induction h with
  | mk d s n t A K hn hn2 hnl hs hsl ht htl htr hA hAd hAl hKt hKl hK ih =>
    intro sp pad
    have h1 := atsT_few _ (tag_few (sp := sp) hsl hA)
    have h2 := Nat.mul_le_mul_right 65 (tag_len4 s sp hAl)
    have h3 := closeL_len (bl t)
    rw [bodyT, lenB]
    split
    · split
      · simp only [List.length_append, List.length_cons, List.length_nil]
        omega
      · simp only [List.length_append, List.length_cons, List.length_nil]
        omega
    · have h4 := kidsT_len s (pad ++ [32]) K fun k hk => ih k hk s (pad ++ [32])
      rw [List.length_append] at h4
      have e1 : ([32] : List UInt8).length = 1 := rfl
      rw [e1] at h4
      have h5 := Nat.mul_le_mul_right (1 + (pad.length + 1) + lenB d (pad.length + 1)) hKl
      simp only [List.length_append, List.length_cons, List.length_nil]
      omega
theorem NearB.lets {d : Nat} {x : Nd} (h : NearB d x) : ∀ sp pad, (∀ b ∈ pad, b = 32) → Lets (bodyT x sp pad) := by
  induction h with
  | mk d s n t A K hn hn2 hnl hs hsl ht htl htr hA hAd hAl hKt hKl hK ih =>
    intro sp pad hpad
    have l10 : Lets [10] := blanks_lets (fun c h => .inr (List.mem_singleton.1 h))
    have hp : Lets pad := blanks_lets (fun c h => .inl (hpad c h))
    have hnm : Lets (bl n) := ok_lets hn2
    have hat : Lets (atsT [32] (tagA s sp A)) := atsT_lets (blanks_lets (fun c h => .inl (List.mem_singleton.1 h))) _ fun a ha => by
      unfold tagA at ha
      rcases List.mem_append.1 ha with h | h
      · split at h
        · cases h
        · rw [List.mem_singleton.1 h]
          exact ⟨asc_lets bXm (by decide), hs⟩
      · obtain ⟨y, hy, rfl⟩ := List.mem_map.1 h
        exact ⟨ok_lets (hA y hy).ok, (hA y hy).lets⟩
    have hcl : Lets (60 :: 47 :: (bl n ++ [62])) := lets_cons (by decide) (lets_cons (by decide) (hnm.append (lets_one 62 (by decide))))
    rw [bodyT]
    refine lets_cons (by decide) (hnm.append (hat.append ?_))
    split
    · split
      · exact asc_lets _ (by decide)
      · exact lets_cons (by decide) (ht.close.append hcl)
    · refine lets_cons (by decide) (Lets.append ?_ (l10.append (hp.append hcl)))
      have hp2 : ∀ b ∈ pad ++ [32], b = 32 := fun b hb => by
        rcases List.mem_append.1 hb with h | h
        · exact hpad b h
        · exact List.mem_singleton.1 h
      have hpl : Lets (pad ++ [32]) := blanks_lets (fun c h => .inl (hp2 c h))
      have key : ∀ K : List Nd, (∀ k ∈ K, Lets (bodyT k s (pad ++ [32]))) → Lets (kidsT K s (pad ++ [32])) := by
        intro K
        induction K with
        | nil => intro _; rw [kidsT]; exact Lets.nil
        | cons k K ihK =>
          intro hk
          rw [kidsT]
          exact l10.append (hpl.append ((hk k (List.mem_cons_self ..)).append (ihK fun y hy => hk y (List.mem_cons_of_mem _ hy))))
      exact key K fun k hk => ih k hk s (pad ++ [32]) hp2
/-- How many < there are. -/
def lts (l : List UInt8) : Nat := l.count 60
theorem lts_app (a b : List UInt8) : lts (a ++ b) = lts a + lts b := by unfold lts; exact List.count_append ..
theorem lts_cons (c : UInt8) (l : List UInt8) (h : c ≠ 60) : lts (c :: l) = lts l := by unfold lts; exact List.count_cons_of_ne h
theorem lts_60 (l : List UInt8) : lts (60 :: l) = lts l + 1 := by unfold lts; exact List.count_cons_self ..
theorem lts_none {l : List UInt8} (h : ∀ c ∈ l, c ≠ 60) : lts l = 0 := by unfold lts; exact List.count_eq_zero.2 fun hm => h 60 hm rfl
theorem ok_60 {n : List UInt8} (h : ∀ c ∈ n, okN c = true) : ∀ c ∈ n, c ≠ 60 := fun c hc e => by
  have := h c hc
  rw [e] at this
  exact absurd this (by decide)
theorem NearB.few {d : Nat} {x : Nd} (h : NearB d x) : ∀ sp pad, (∀ b ∈ pad, b = 32) → lts (bodyT x sp pad) ≤ 2 * x.count := by
  induction h with
  | mk d s n t A K hn hn2 hnl hs hsl ht htl htr hA hAd hAl hKt hKl hK ih =>
    intro sp pad hpad
    have hnm := lts_none (ok_60 hn2)
    have hpd : lts pad = 0 := lts_none fun c hc => by rw [hpad c hc]; decide
    have hat : lts (atsT [32] (tagA s sp A)) = 0 := lts_none fun c hc => by
      unfold atsT at hc
      obtain ⟨a, ha, hc⟩ := List.mem_flatMap.1 hc
      have hname : ∀ c ∈ a.1, c ≠ 60 := by
        unfold tagA at ha
        rcases List.mem_append.1 ha with h | h
        · split at h
          · cases h
          · rw [List.mem_singleton.1 h]; exact (by decide : ∀ c ∈ bXm, c ≠ 60)
        · obtain ⟨y, hy, rfl⟩ := List.mem_map.1 h
          exact ok_60 (hA y hy).ok
      unfold atT at hc
      rcases List.mem_append.1 hc with h | h
      · rw [List.mem_singleton.1 h]; decide
      rcases List.mem_append.1 h with h | h
      · exact hname c h
      rcases List.mem_cons.1 h with rfl | h
      · decide
      rcases List.mem_cons.1 h with rfl | h
      · decide
      rcases List.mem_append.1 h with h | h
      · exact (closeL_no _ c h).1
      · rw [List.mem_singleton.1 h]; decide
    have hcl : lts (60 :: 47 :: (bl n ++ [62])) = 1 := by
      rw [lts_60, lts_cons 47 _ (by decide), lts_app, hnm]; rfl
    rw [bodyT, Nd.count, lts_60, lts_app, lts_app, hnm, hat]
    split
    · split
      · have : lts [47, 62] = 0 := rfl
        omega
      · rw [lts_cons 62 _ (by decide), lts_app, hcl, lts_none fun c hc => (closeL_no _ c hc).1]
        omega
    · rw [lts_cons 62 _ (by decide), lts_app, lts_cons 10 _ (by decide), lts_app, hpd, hcl]
      have hp2 : ∀ b ∈ pad ++ [32], b = 32 := fun b hb => by
        rcases List.mem_append.1 hb with h | h
        · exact hpad b h
        · exact List.mem_singleton.1 h
      have key : ∀ K : List Nd, (∀ k ∈ K, lts (bodyT k s (pad ++ [32])) ≤ 2 * k.count) → lts (kidsT K s (pad ++ [32])) ≤ 2 * countK K := by
        intro K
        induction K with
        | nil => intro _; rw [kidsT]; exact Nat.zero_le _
        | cons k K ihK =>
          intro hk
          have h1 := hk k (List.mem_cons_self ..)
          have h2 := ihK fun y hy => hk y (List.mem_cons_of_mem _ hy)
          have hpd2 : lts (pad ++ [32]) = 0 := lts_none fun c hc => by rw [hp2 c hc]; decide
          rw [kidsT, lts_cons 10 _ (by decide), lts_app, hpd2, lts_app, countK]
          omega
      have := key K fun k hk => ih k hk s (pad ++ [32]) hp2
      omega

end Go.Proofs.YtincdacickhdkaaGreatDoor
namespace Go.Proofs.YtincdacickhdkaaGreatDoor
open Go.RowKit
set_option maxRecDepth 100000

/-! ### ten's digits: what the shelf's contract says, at eight digits at most -/
theorem pow_le {b a c : Nat} (h : a ≤ c) (hb : 0 < b) : b ^ a ≤ b ^ c := Nat.pow_le_pow_right hb h
theorem digV_ten (c : Nat) : digV c < 10 ↔ 48 ≤ c ∧ c ≤ 57 := by
  unfold digV
  by_cases h1 : 48 ≤ c ∧ c ≤ 57
  · rw [if_pos h1]; exact ⟨fun _ => h1, fun _ => by omega⟩
  · rw [if_neg h1]
    refine ⟨fun h => ?_, fun h => absurd h h1⟩
    by_cases h2 : 65 ≤ c ∧ c ≤ 90
    · rw [if_pos h2] at h; omega
    · rw [if_neg h2] at h
      by_cases h3 : 97 ≤ c ∧ c ≤ 122
      · rw [if_pos h3] at h; omega
      · rw [if_neg h3] at h; omega
def endOf : Option Nat → Lib.NumEnd Nat
  | some n => .ok n
  | none => Lib.parseUintB 32 []
theorem parseM_ten : ∀ (l : List UInt8) (acc k : Nat), l.length + k ≤ 8 → acc < 10 ^ k → Lib.parseUintM 4294967295 acc l = endOf (parseD 10 acc l)
  | [], acc, k, _, _ => rfl
  | c :: r, acc, k, hk, ha => by
    simp only [List.length_cons] at hk
    have hp : 10 ^ k ≤ 10 ^ 7 := pow_le (by omega) (by omega)
    unfold Lib.parseUintM parseD
    by_cases h : 48 ≤ c.toNat ∧ c.toNat ≤ 57
    · have hd : digV c.toNat = c.toNat - 48 := by unfold digV; rw [if_pos h]
      have e7 : (10 : Nat) ^ 7 = 10000000 := by decide
      rw [if_pos h, if_pos ((digV_ten _).2 h), hd, if_neg (by omega), if_neg (by omega)]
      exact parseM_ten r _ (k + 1) (by omega) (by rw [Nat.pow_succ]; omega)
    · rw [if_neg h, if_neg (fun h' => h ((digV_ten _).1 h'))]; rfl
theorem parseB_ten (l : List UInt8) (h : l.length ≤ 8) : Lib.parseUintB 32 l = endOf (spellL 10 l) := by
  unfold Lib.parseUintB spellL
  by_cases h0 : l = []
  · rw [if_pos h0, if_pos h0]; rfl
  · rw [if_neg h0, if_neg h0]
    have eM : (2 : Nat) ^ 32 - 1 = 4294967295 := by decide
    rw [eM]; exact parseM_ten l 0 0 (by omega) (by decide)

/-! ### sixteen's digits -/
/-- What internal/strconv.ParseUint hands back. -/
def uintV : Option Nat → Value
  | some n => .tuple #[.int .u64 n, .nilIface]
  | none => .tuple #[.int .u64 0, .iface 191 (.int .i64 2)]
theorem low_fact (c : UInt8) (h : ¬ (48 ≤ c.toNat ∧ c.toNat ≤ 57)) : ∃ v : Int, bits .or .u8 (c.toNat : Int) 32 = v ∧ 0 ≤ v ∧ v < 256 ∧ (c.toNat = 95 → v = 127) ∧
    ((97 ≤ v ∧ v ≤ 102 ∧ (digV c.toNat : Int) = v - 87) ∨ (103 ≤ v ∧ v ≤ 122 ∧ 16 ≤ digV c.toNat) ∨ (v < 97 ∧ 16 ≤ digV c.toNat) ∨ (122 < v ∧ 16 ≤ digV c.toNat)) := by
  refine ⟨_, rfl, ?_⟩
  have key : ∀ n : Fin 256, ¬ (48 ≤ n.val ∧ n.val ≤ 57) → 0 ≤ bits .or .u8 (n.val : Int) 32 ∧ bits .or .u8 (n.val : Int) 32 < 256 ∧ (n.val = 95 → bits .or .u8 (n.val : Int) 32 = 127) ∧
    ((97 ≤ bits .or .u8 (n.val : Int) 32 ∧ bits .or .u8 (n.val : Int) 32 ≤ 102 ∧ (digV n.val : Int) = bits .or .u8 (n.val : Int) 32 - 87) ∨ (103 ≤ bits .or .u8 (n.val : Int) 32 ∧ bits .or .u8 (n.val : Int) 32 ≤ 122 ∧ 16 ≤ digV n.val) ∨ (bits .or .u8 (n.val : Int) 32 < 97 ∧ 16 ≤ digV n.val) ∨ (122 < bits .or .u8 (n.val : Int) 32 ∧ 16 ≤ digV n.val)) := by decide +kernel
  exact key ⟨c.toNat, c.toNat_lt⟩ h
/-- k digits are behind the loop: they spell acc. -/
def Spelt (l : List UInt8) (k acc : Nat) : Prop := acc < 16 ^ k ∧ parseD 16 0 l = parseD 16 acc (l.drop k)
theorem Spelt.start (l : List UInt8) : Spelt l 0 0 := ⟨by decide, by rw [List.drop_zero]⟩
theorem Spelt.step {l : List UInt8} {k acc : Nat} (h : Spelt l k acc) (c : UInt8) (r : List UInt8) (hd : l.drop k = c :: r) (hc : digV c.toNat < 16) : Spelt l (k + 1) (acc * 16 + digV c.toNat) := by
  obtain ⟨h1, h2⟩ := h
  have hr : l.drop (k + 1) = r := by rw [← List.drop_drop, hd]; rfl
  refine ⟨by rw [Nat.pow_succ]; omega, ?_⟩
  rw [h2, hd, hr]
  conv => lhs; unfold parseD
  rw [if_pos hc]
theorem Spelt.bad {l : List UInt8} {k acc : Nat} (h : Spelt l k acc) (c : UInt8) (r : List UInt8) (hd : l.drop k = c :: r) (hc : 16 ≤ digV c.toNat) : parseD 16 0 l = none := by
  rw [h.2, hd]; unfold parseD; rw [if_neg (by omega)]
theorem Spelt.done {l : List UInt8} {k acc : Nat} (h : Spelt l k acc) (hk : l.length ≤ k) : parseD 16 0 l = some acc := by
  rw [h.2, List.drop_eq_nil_of_le hk]; rfl

set_option maxHeartbeats 32000000 in
set_option maxRecDepth 100000 in
/-- internal/strconv.ParseUint(s, 16, 32) at one to eight bytes. -/
theorem pu16 (t : ByteArray) (hne : t.size ≠ 0) (h8 : t.size ≤ 8) (w : World) (A : Option Nat) (HA : Hid (A = parseD 16 0 (bl t))) :
    Calls Tryz.prog 173 #[.string t, .int .i64 16, .int .i64 32] w fun e w' => e = .returned (uintV A) ∧ w' = Lib.bytesWorld w 5 t := by
  have hemp : t.toList.isEmpty = false := bl_more t hne
  have hcv := Lib.run_convert_string_bytes (P := Tryz.prog) w 9 28 5 t (u := .string) Tryz.underlying9 Tryz.underlying28 Tryz.underlying5
  have HB := Lib.hid (fun j (hj : j < t.size) => Lib.bytesWorld_cell w 5 t j hj)
  obtain ⟨W1, hW1⟩ : ∃ W1, W1 = Lib.bytesWorld w 5 t := ⟨_, rfl⟩
  rw [← hW1] at hcv HB ⊢
  clear hW1
  have HL := Lib.hid (bl_size t)
  have hmv : IntKind.u64.wrap (IntKind.u64.wrap 4294967296 - 1) = 4294967295 := by
    rw [IntKind.wrap_u64, IntKind.wrap_u64]
    decide
  go_enter Tryz.func173, Tryz.ntmps173
  go_wp2
  go_loop [12, 13, 101] (fun vu vn vi => ∃ (k acc : Nat) (a : Int), vu = .bool false ∧ vn = .int .u64 a ∧ vi = .int .i64 k ∧ k ≤ t.size ∧ Hid (a = (acc : Int) ∧ Spelt (bl t) k acc))
    (fun _ _ vi => t.size - (intOf vi).toNat)
  case atStart => exact ⟨0, 0, 0, rfl, rfl, rfl, by omega, rfl, Spelt.start _⟩
  case round =>
    obtain ⟨k, acc, a, rfl, rfl, rfl, hk, hh⟩ := hrel
    obtain ⟨ha, hsp⟩ := hh.out
    clear hh
    have HK := Lib.hid hsp
    clear hsp
    by_cases hkn : k < t.size
    · have hc := HB.out k hkn
      have hacc : acc ≤ 268435455 := by
        have h1 := HK.out.1
        have h2 : 16 ^ k ≤ 16 ^ 7 := pow_le (by omega) (by omega)
        have e7 : (16 : Nat) ^ 7 = 268435456 := by decide
        omega
      have hdrop : (bl t).drop k = (bl t)[k]'(by rw [HL.out]; exact hkn) :: (bl t).drop (k + 1) := List.drop_eq_getElem_cons (by rw [HL.out]; exact hkn)
      have hget : t.data.toList.getD k 0 = (bl t)[k]'(by rw [HL.out]; exact hkn) := by unfold bl; simp [List.getD, List.getElem?_eq_getElem (show k < t.data.toList.length by have := HL.out; unfold bl at this; omega)]
      rw [hget] at hc
      generalize (bl t)[k]'(by rw [HL.out]; exact hkn) = c at hc hdrop
      have hstep := fun h => HK.out.step c _ hdrop h
      have hbad := fun h => HA.out.trans (HK.out.bad c _ hdrop h)
      have hc256 : c.toNat < 256 := c.toNat_lt
      have a0 : 0 ≤ a := by omega
      have a1 : a ≤ 268435455 := by omega
      clear hget hdrop HB hacc
      by_cases hdig : 48 ≤ c.toNat ∧ c.toNat ≤ 57
      · have hd : digV c.toNat = c.toNat - 48 := by unfold digV; rw [if_pos hdig]
        have hn := hstep (by omega)
        rw [hd] at hn
        have HN : Hid (a * 16 + ((c.toNat : Int) - 48) = ((acc * 16 + (c.toNat - 48) : Nat) : Int) ∧ Spelt (bl t) (k + 1) (acc * 16 + (c.toNat - 48))) := Lib.hid ⟨by omega, hn⟩
        clear hstep hbad hd hn ha
        obtain ⟨hd0, hd1⟩ := hdig
        go_wp2
        refine ⟨⟨k + 1, acc * 16 + (c.toNat - 48), a * 16 + ((c.toNat : Int) - 48), rfl, (by first | rfl | (congr 1; omega)), (by first | rfl | (congr 1; omega)), by omega, HN⟩, by simp [intOf]; omega⟩
      · obtain ⟨v, hv, hv0, hv1, h95, hcase⟩ := low_fact c hdig
        have CL : Hid (∀ w, Calls Tryz.prog 175 #[.int .u8 (c.toNat : Int)] w fun e w' => e = .returned (.int .u8 v) ∧ w = w') := Lib.hid (fun w => by
          have h := Tryz.internal_strconv_lower (c.toNat : Int) w
          rw [hv] at h
          exact h.mono fun e w' h => ⟨h.1, h.2.symm⟩)
        have q1 : (c.toNat : Int) < 48 ∨ 57 < (c.toNat : Int) := by omega
        clear hv hdig
        rcases hcase with ⟨v1, v2, v3⟩ | ⟨v1, v2, v3⟩ | ⟨v1, v3⟩ | ⟨v1, v3⟩
        · have hn := hstep (by omega)
          have HN : Hid (a * 16 + (v - 97 + 10) = ((acc * 16 + digV c.toNat : Nat) : Int) ∧ Spelt (bl t) (k + 1) (acc * 16 + digV c.toNat)) := Lib.hid ⟨by omega, hn⟩
          have e95 : ((c.toNat : Int) == 95) = false := by simp; omega
          clear hstep hbad hn v3 ha h95
          go_wp2_with (go_at_call 175; refine (CL.out _).mono ?_; rintro e w' ⟨rfl, rfl⟩)
          all_goals
            refine ⟨⟨k + 1, acc * 16 + digV c.toNat, a * 16 + (v - 97 + 10), rfl, (by first | rfl | (congr 1; omega)), (by first | rfl | (congr 1; omega)), by omega, HN⟩, by simp [intOf]; omega⟩
        · have hA := hbad v3
          subst hA
          have e95 : ((c.toNat : Int) == 95) = false := by simp; omega
          clear hstep hbad ha h95
          go_wp2_with (go_at_call 175; refine (CL.out _).mono ?_; rintro e w' ⟨rfl, rfl⟩)
          all_goals go_ret2
          all_goals exact ⟨rfl, rfl⟩
        · have hA := hbad v3
          subst hA
          have e95 : ((c.toNat : Int) == 95) = false := by simp; omega
          clear hstep hbad ha h95
          have p1 : decide (97 ≤ v) = false := decide_eq_false (by omega)
          go_wp2_with (go_at_call 175; refine (CL.out _).mono ?_; rintro e w' ⟨rfl, rfl⟩)
          all_goals go_ret2
          all_goals exact ⟨rfl, rfl⟩
        · have hA := hbad v3
          subst hA
          have p1 : decide (v ≤ 122) = false := decide_eq_false (by omega)
          clear hstep hbad ha
          by_cases c95 : c.toNat = 95
          · obtain rfl := h95 c95
            obtain rfl : c = 95 := UInt8.toNat_inj.1 c95
            clear h95
            go_wp2_with (go_at_call 175; refine (CL.out _).mono ?_; rintro e w' ⟨rfl, rfl⟩)
            all_goals go_ret2
            all_goals exact ⟨rfl, rfl⟩
          · have e95 : ((c.toNat : Int) == 95) = false := by simp; omega
            clear h95
            go_wp2_with (go_at_call 175; refine (CL.out _).mono ?_; rintro e w' ⟨rfl, rfl⟩)
            all_goals go_ret2
            all_goals exact ⟨rfl, rfl⟩
    · obtain rfl : k = t.size := by omega
      have hA : A = some acc := HA.out.trans (HK.out.done (by rw [HL.out]; exact Nat.le_refl _))
      subst hA
      subst ha
      clear HB
      go_wp2
      go_ret2
      exact ⟨rfl, rfl⟩

/-! ### what the package-level variables hold -/
def nameCells : Array Value := #[.string ⟨#[97, 109, 112]⟩, .int .u8 38, .bool true, .string ⟨#[108, 116]⟩, .int .u8 60, .bool true, .string ⟨#[103, 116]⟩, .int .u8 62, .bool true, .string ⟨#[113, 117, 111, 116]⟩, .int .u8 34, .bool true, .string ⟨#[97, 112, 111, 115]⟩, .int .u8 39, .bool false]
structure EntV (w : World) : Prop where
  names : ∃ t fr, w.heap[0]? = some (.cells nameCells t fr)
  base0 : w.cell? ⟨5, 0, none⟩ = some (.int .i64 10)
  base1 : w.cell? ⟨5, 1, none⟩ = some (.int .i64 16)
  syn : ∃ te pe, w.cell? ⟨8, 0, none⟩ = some (.iface te pe)
  maxl : MaxL w
theorem cell_below {w w' : World} {b o : Nat} {v : Value} (h : w.cell? ⟨b, o, none⟩ = some v) (hb : Below w.heap.size w w') : w'.cell? ⟨b, o, none⟩ = some v :=
  (hb.cell (World.block_lt_of_cell? _ _ h)).trans h
theorem EntV.below {w w' : World} (h : EntV w) (hb : Below w.heap.size w w') : EntV w' := by
  obtain ⟨⟨t, fr, h1⟩, h2, h3, ⟨te, pe, h4⟩, h5⟩ := h
  refine ⟨⟨t, fr, ?_⟩, cell_below h2 hb, cell_below h3 hb, ⟨te, pe, cell_below h4 hb⟩, h5.below hb⟩
  rw [hb.block _ (Array.getElem?_eq_some_iff.1 h1).1]; exact h1

/-! ### strconv.ParseUint -/
set_option maxHeartbeats 4000000 in
set_option maxRecDepth 100000 in
theorem pub_some (base : Int) (s : ByteArray) (n : Nat) (w : World)
    (C : Hid (Calls Tryz.prog 173 #[.string s, .int .i64 base, .int .i64 32] w fun e w' => e = .returned (.tuple #[.int .u64 n, .nilIface]) ∧ Below w.heap.size w w')) :
    Calls Tryz.prog 171 #[.string s, .int .i64 base, .int .i64 32] w fun e w' => e = .returned (.tuple #[.int .u64 n, .nilIface]) ∧ Below w.heap.size w w' := by
  go_enter Tryz.func171, Tryz.ntmps171
  go_wp2_with (go_at_call 173; refine C.out.mono ?_; rintro e w1 ⟨rfl, hb⟩)
  go_ret2
  exact ⟨rfl, hb⟩
set_option maxHeartbeats 4000000 in
set_option maxRecDepth 100000 in
theorem pub_none (base : Int) (s : ByteArray) (hs : s.size ≤ 8) (w : World) (HE : Hid (EntV w))
    (C : Hid (Calls Tryz.prog 173 #[.string s, .int .i64 base, .int .i64 32] w fun e w' => e = .returned (.tuple #[.int .u64 0, .iface 191 (.int .i64 2)]) ∧ Below w.heap.size w w')) :
    Calls Tryz.prog 171 #[.string s, .int .i64 base, .int .i64 32] w fun e w' => ∃ N : Nat, e = .returned (.tuple #[.int .u64 0, .iface 193 (.pointer (some ⟨N, 0, none⟩))]) ∧ Below w.heap.size w w' := by
  obtain ⟨te, pe, hv⟩ := HE.out.syn
  have HT : Hid (∀ w1, Below w.heap.size w w1 → Calls Tryz.prog 174 #[.string ⟨#[80, 97, 114, 115, 101, 85, 105, 110, 116]⟩, .string s, .int .i64 base, .int .i64 32, .iface 191 (.int .i64 2)] w1 fun e w' => ∃ N : Nat, e = .returned (.iface 193 (.pointer (some ⟨N, 0, none⟩))) ∧ Below w1.heap.size w1 w') := by
    have h := fun w1 (hb : Below w.heap.size w w1) => AnyPu.strconv_toError_syntax (P := Tryz.prog) (ρ := Tryz.laysPu14_ren) { Tryz.laysPu14 with } ⟨#[80, 97, 114, 115, 101, 85, 105, 110, 116]⟩ s base 32 (.iface te pe) w1 (by omega) (cell_below hv hb) (Or.inr ⟨te, pe, rfl⟩)
    exact Lib.hid fun w1 hb => (h w1 hb).mono fun e w' ⟨N, he, _, _, h4⟩ => ⟨N, he, h4⟩
  clear hv
  go_enter Tryz.func171, Tryz.ntmps171
  go_wp2_with (go_at_call 173; refine C.out.mono ?_; rintro e w1 ⟨rfl, hb⟩)
  refine (HT.out _ hb).mono ?_
  rintro e w2 ⟨N, rfl, hb2⟩
  have hb2' := hb.trans (hb2.mono hb.size)
  clear hb hb2
  go_wp2_with fail
  go_ret2
  exact ⟨N, rfl, hb2'⟩
/-- The two bases. -/
theorem internal_both (base : Nat) (hbase : base = 10 ∨ base = 16) (s : ByteArray) (hs : s.size ≤ 8) (w : World) :
    Calls Tryz.prog 173 #[.string s, .int .i64 base, .int .i64 32] w fun e w' => e = .returned (uintV (spellL base (bl s))) ∧ Below w.heap.size w w' := by
  rcases hbase with rfl | rfl
  · have h := Tryz.internal_strconv_ParseUint_10_at32 s (by omega) w
    have e : Lib.parseUintB 32 s.data.toList = endOf (spellL 10 (bl s)) := parseB_ten (bl s) (by rw [bl_size]; exact hs)
    rw [e] at h
    refine h.mono fun e w' ⟨he, hw⟩ => ⟨?_, ?_⟩
    · rw [he]; cases spellL 10 (bl s) <;> rfl
    · rcases hw with rfl | rfl
      · exact Below.refl _ _
      · exact Lib.bytesWorld_below _ _ _
  · by_cases h0 : s.size = 0
    · have hs0 : s = ⟨#[]⟩ := ByteArray.ext (Array.eq_empty_of_size_eq_zero h0)
      subst hs0
      refine (Tryz.internal_strconv_ParseUint_empty 16 32 w).mono fun e w' ⟨he, hw⟩ => ⟨?_, by subst hw; exact Below.refl _ _⟩
      rw [he]; rfl
    · have hne : bl s ≠ [] := fun h => h0 (by rw [← bl_size, h]; rfl)
      refine (pu16 s h0 hs w _ (Lib.hid rfl)).mono fun e w' ⟨he, hw⟩ => ⟨?_, by subst hw; exact Lib.bytesWorld_below _ _ _⟩
      rw [he]; unfold spellL; rw [if_neg hne]

set_option maxHeartbeats 4000000 in
set_option maxRecDepth 100000 in
/-- **entity.numbered, ten and sixteen.** -/
theorem enum0 (k base : Nat) (hk : (k = 0 ∧ base = 10) ∨ (k = 1 ∧ base = 16)) (s : ByteArray) (w : World) (HE : Hid (EntV w)) (A : Int) (HA : Hid (A = numL base (bl s))) :
    Calls Tryz.prog 167 #[.string s, .int .i64 k] w fun e w' => e = .returned (.int .i64 A) ∧ Below w.heap.size w w' := by
  by_cases h8 : 8 < s.size
  · have hA : A = 0 := by rw [HA.out]; unfold numL; rw [if_pos (by rw [bl_size]; exact h8)]
    subst hA
    have h8' : (8 : Int) < (s.size : Int) := by omega
    clear h8
    go_enter Tryz.func167, Tryz.ntmps167
    go_wp2
    go_ret
    exact ⟨rfl, Below.refl _ _⟩
  have hc : w.cell? ⟨5, k, none⟩ = some (.int .i64 base) := by
    rcases hk with ⟨rfl, rfl⟩ | ⟨rfl, rfl⟩
    · exact HE.out.base0
    · exact HE.out.base1
  have hk2 : (k : Int) < 2 := by omega
  have hA : A = match spellL base (bl s) with | some n => (if letB n = true then (n : Int) else 0) | none => 0 := by rw [HA.out]; unfold numL; rw [if_neg (by rw [bl_size]; exact h8)]; rfl
  have h8' : decide ((8 : Int) < (s.size : Int)) = false := decide_eq_false (by omega)
  have hI := internal_both base (by omega) s (by omega) w
  have hlt : ∀ n, spellL base (bl s) = some n → n ≤ 4294967295 := fun n h => spell_le base _ n (by omega) (by rw [bl_size]; omega) h
  cases hsp : spellL base (bl s) with
  | none =>
    rw [hsp] at hI hA
    simp only at hA
    subst hA
    have C := Lib.hid (pub_none base s (by omega) w HE (Lib.hid hI))
    clear hI hsp hlt h8 hk
    go_enter Tryz.func167, Tryz.ntmps167
    go_wp2_with (go_at_call 171; refine C.out.mono ?_; rintro e w1 ⟨N, rfl, hb⟩)
    go_ret
    exact ⟨rfl, hb⟩
  | some n =>
    rw [hsp] at hI hA
    simp only at hA
    have hn := hlt n hsp
    have C := Lib.hid (pub_some base s n w (Lib.hid hI))
    have CL := Lib.hid (fun w => cletter (n : Int) w)
    have hn' : (n : Int) ≤ 4294967295 := by omega
    clear hI hsp hlt h8 hk hn
    cases hl : letB (n : Int) with
    | true =>
      rw [hl] at CL hA
      rw [if_pos rfl] at hA
      subst hA
      clear hl
      go_enter Tryz.func167, Tryz.ntmps167
      go_wp2_with (first | (go_at_call 171; refine C.out.mono ?_; rintro e w1 ⟨rfl, hb⟩) | (go_at_call 97; refine (CL.out _).mono ?_; rintro e w2 ⟨rfl, rfl⟩))
      go_ret
      exact ⟨rfl, hb⟩
    | false =>
      rw [hl] at CL hA
      rw [if_neg (by decide)] at hA
      subst hA
      clear hl
      go_enter Tryz.func167, Tryz.ntmps167
      go_wp2_with (first | (go_at_call 171; refine C.out.mono ?_; rintro e w1 ⟨rfl, hb⟩) | (go_at_call 97; refine (CL.out _).mono ?_; rintro e w2 ⟨rfl, rfl⟩))
      go_ret
      exact ⟨rfl, hb⟩

end Go.Proofs.YtincdacickhdkaaGreatDoor
namespace Go.Proofs.YtincdacickhdkaaGreatDoor
open Go.RowKit
set_option maxRecDepth 100000

theorem enum10 (s : ByteArray) (w : World) (HE : Hid (EntV w)) :
    Calls Tryz.prog 167 #[.string s, .int .i64 0] w fun e w' => e = .returned (.int .i64 (numL 10 (bl s))) ∧ Below w.heap.size w w' :=
  enum0 0 10 (.inl ⟨rfl, rfl⟩) s w HE _ (Lib.hid rfl)
theorem enum16 (s : ByteArray) (w : World) (HE : Hid (EntV w)) :
    Calls Tryz.prog 167 #[.string s, .int .i64 1] w fun e w' => e = .returned (.int .i64 (numL 16 (bl s))) ∧ Below w.heap.size w w' :=
  enum0 1 16 (.inr ⟨rfl, rfl⟩) s w HE _ (Lib.hid rfl)
theorem prefix_two (l : List UInt8) (h : Lib.hasPrefix l [35, 120] = true) : ∃ r, l = 35 :: 120 :: r := by
  match l, h with
  | [], h => simp [Lib.hasPrefix, List.isPrefixOf] at h
  | [c], h => simp [Lib.hasPrefix, List.isPrefixOf] at h
  | c :: d :: r, h =>
    simp [Lib.hasPrefix, List.isPrefixOf] at h
    exact ⟨r, by rw [← h.1, ← h.2]⟩
theorem prefix_hash (l : List UInt8) (h : Lib.hasPrefix l [35] = true) : ∃ r, l = 35 :: r := by
  match l, h with
  | [], h => simp [Lib.hasPrefix, List.isPrefixOf] at h
  | c :: r, h =>
    simp [Lib.hasPrefix, List.isPrefixOf] at h
    exact ⟨r, by rw [← h]⟩
theorem tl_eq (k : Nat) (s : ByteArray) (h : bl s = nm k) : s.toList = nm k := by rw [Lib.toList_data]; exact h

theorem tl_ne (k : Nat) (s : ByteArray) (h : ¬ bl s = nm k) : (nm k == s.toList) = false := by
  rw [Lib.toList_data]
  exact beq_eq_false_iff_ne.2 fun e => h e.symm

set_option maxRecDepth 100000 in
set_option maxHeartbeats 4000000 in
/-- **entity.One at every string.** -/
theorem eone0 (s : ByteArray) (w : World) (HE : Hid (EntV w)) (A : Int) (HA : Hid (A = oneL (bl s))) :
    Calls Tryz.prog 158 #[.string s] w fun e w' => e = .returned (.int .i64 A) ∧ Below w.heap.size w w' := by
  have c1 := Tryz.strings_CutPrefix s ⟨#[35, 120]⟩ w
  have c2 := Tryz.strings_CutPrefix s ⟨#[35]⟩ w
  change Calls _ _ _ _ (fun e w' => e = .returned (.tuple #[.string ⟨(Lib.trimPrefix (bl s) [35, 120]).toArray⟩, .bool (Lib.hasPrefix (bl s) [35, 120])]) ∧ w' = w) at c1
  change Calls _ _ _ _ (fun e w' => e = .returned (.tuple #[.string ⟨(Lib.trimPrefix (bl s) [35]).toArray⟩, .bool (Lib.hasPrefix (bl s) [35])]) ∧ w' = w) at c2
  cases h1 : Lib.hasPrefix (bl s) [35, 120] with
  | true =>
    obtain ⟨r, hr⟩ := prefix_two _ h1
    have ht : Lib.trimPrefix (bl s) [35, 120] = r := by unfold Lib.trimPrefix; rw [if_pos h1, hr]; rfl
    rw [h1, ht] at c1
    have hA : A = numL 16 r := by rw [HA.out, hr]; rfl
    subst hA
    have C1 := Lib.hid c1
    have C2 := enum16 ⟨r.toArray⟩ w HE
    rw [show bl (⟨r.toArray⟩ : ByteArray) = r by simp [bl]] at C2
    have C2 := Lib.hid C2
    clear c1 c2 h1 hr ht HA
    generalize numL 16 r = A at C2
    go_enter Tryz.func158, Tryz.ntmps158
    go_wp2_with (first | (go_at_call 118; refine C1.out.mono ?_; rintro e w' ⟨rfl, rfl⟩) | (go_at_call 167; refine C2.out.mono ?_; rintro e w' ⟨rfl, hb⟩))
    go_ret
    exact ⟨rfl, hb⟩
  | false =>
    have ht : Lib.trimPrefix (bl s) [35, 120] = bl s := by unfold Lib.trimPrefix; rw [h1]; rfl
    rw [h1, ht] at c1
    cases h2 : Lib.hasPrefix (bl s) [35] with
    | true =>
      obtain ⟨r, hr⟩ := prefix_hash _ h2
      have ht2 : Lib.trimPrefix (bl s) [35] = r := by unfold Lib.trimPrefix; rw [if_pos h2, hr]; rfl
      rw [h2, ht2] at c2
      have hA : A = numL 10 r := by rw [HA.out, hr]; exact one_ten r (by rw [hr] at h1; exact h1)
      subst hA
      have C1 := Lib.hid c1
      have C2 := Lib.hid c2
      have C3 := enum10 ⟨r.toArray⟩ w HE
      rw [show bl (⟨r.toArray⟩ : ByteArray) = r by simp [bl]] at C3
      have C3 := Lib.hid C3
      clear c1 c2 h1 h2 hr ht ht2 HA
      generalize numL 10 r = A at C3
      go_enter Tryz.func158, Tryz.ntmps158
      go_wp2_with fail
      refine C1.out.mono ?_
      rintro e w' ⟨rfl, hw⟩
      obtain rfl := hw.symm
      clear hw
      go_wp2_with fail
      refine C2.out.mono ?_
      rintro e w' ⟨rfl, hw⟩
      obtain rfl := hw.symm
      clear hw
      go_wp2_with fail
      refine C3.out.mono ?_
      rintro e w1 ⟨rfl, hb⟩
      go_wp2_with fail
      go_ret
      exact ⟨rfl, hb⟩
    | false =>
      have ht2 : Lib.trimPrefix (bl s) [35] = bl s := by unfold Lib.trimPrefix; rw [h2]; rfl
      rw [h2, ht2] at c2
      have hA := HA.out
      rw [one_name (bl s) h2] at hA
      have HA := Lib.hid hA
      have C1 := Lib.hid c1
      have C2 := Lib.hid c2
      obtain ⟨tt, fr, hg⟩ := HE.out.names
      clear c1 c2 h1 h2 ht ht2 hA
      have i0 : ∀ w, (Instr.index 139 (.agg nameCells) (.int .i64 0)).run Tryz.prog w = .ok (.agg #[.string ⟨#[97, 109, 112]⟩, .int .u8 38, .bool true]) w := fun _ => by kernel_rfl
      have i1 : ∀ w, (Instr.index 139 (.agg nameCells) (.int .i64 1)).run Tryz.prog w = .ok (.agg #[.string ⟨#[108, 116]⟩, .int .u8 60, .bool true]) w := fun _ => by kernel_rfl
      have i2 : ∀ w, (Instr.index 139 (.agg nameCells) (.int .i64 2)).run Tryz.prog w = .ok (.agg #[.string ⟨#[103, 116]⟩, .int .u8 62, .bool true]) w := fun _ => by kernel_rfl
      have i3 : ∀ w, (Instr.index 139 (.agg nameCells) (.int .i64 3)).run Tryz.prog w = .ok (.agg #[.string ⟨#[113, 117, 111, 116]⟩, .int .u8 34, .bool true]) w := fun _ => by kernel_rfl
      have i4 : ∀ w, (Instr.index 139 (.agg nameCells) (.int .i64 4)).run Tryz.prog w = .ok (.agg #[.string ⟨#[97, 112, 111, 115]⟩, .int .u8 39, .bool false]) w := fun _ => by kernel_rfl
      go_enter Tryz.func158, Tryz.ntmps158
      go_wp2_with fail
      refine C1.out.mono ?_
      rintro e w' ⟨rfl, hw⟩
      obtain rfl := hw.symm
      clear hw
      go_wp2_with fail
      refine C2.out.mono ?_
      rintro e w' ⟨rfl, hw⟩
      obtain rfl := hw.symm
      clear hw
      go_wp2_with (refine wpList_load_row rfl 139 _ rfl 0 rfl tt _ fr _ hg Tryz.underlying139 rfl (by kernel_rfl) ?_)
      clear hg
      go_loopg [26] 5 (fun g i wr => ∃ k : Nat, g + k = 5 ∧ i = .int .i64 k ∧ Below w.heap.size w wr ∧ Hid (Misses (bl s) k))
      case atStart => exact ⟨0, rfl, rfl, Below.refl _ _, Lib.hid (Misses.start _)⟩
      case round =>
        obtain ⟨k, hg, rfl, hb, HK⟩ := hrel
        have hk : k = 0 ∨ k = 1 ∨ k = 2 ∨ k = 3 ∨ k = 4 ∨ k = 5 := by omega
        rcases hk with rfl | rfl | rfl | rfl | rfl | rfl
        · by_cases hn : bl s = nm 0
          · have hA := HA.out
            rw [hn, nameV_hit 0 (by omega)] at hA
            replace hA : A = 38 := hA
            subst hA
            have e1 : s.toList = [97, 109, 112] := tl_eq 0 s hn
            clear hn HA hg
            go_wp2
            go_ret
            exact ⟨rfl, hb.alloc hb.size _⟩
          · have HN := Lib.hid (HK.out.step hn)
            have e1 : ([97, 109, 112] == s.toList) = false := tl_ne 0 s hn
            clear hn
            go_wp2
            go_roundg 4
            case measure => omega
            case rel => exact ⟨1, by omega, by go_num, hb.alloc hb.size _, HN⟩
        · by_cases hn : bl s = nm 1
          · have hA := HA.out
            rw [hn, nameV_hit 1 (by omega)] at hA
            replace hA : A = 60 := hA
            subst hA
            have e1 : s.toList = [108, 116] := tl_eq 1 s hn
            clear hn HA hg
            go_wp2
            go_ret
            exact ⟨rfl, hb.alloc hb.size _⟩
          · have HN := Lib.hid (HK.out.step hn)
            have e1 : ([108, 116] == s.toList) = false := tl_ne 1 s hn
            clear hn
            go_wp2
            go_roundg 3
            case measure => omega
            case rel => exact ⟨2, by omega, by go_num, hb.alloc hb.size _, HN⟩
        · by_cases hn : bl s = nm 2
          · have hA := HA.out
            rw [hn, nameV_hit 2 (by omega)] at hA
            replace hA : A = 62 := hA
            subst hA
            have e1 : s.toList = [103, 116] := tl_eq 2 s hn
            clear hn HA hg
            go_wp2
            go_ret
            exact ⟨rfl, hb.alloc hb.size _⟩
          · have HN := Lib.hid (HK.out.step hn)
            have e1 : ([103, 116] == s.toList) = false := tl_ne 2 s hn
            clear hn
            go_wp2
            go_roundg 2
            case measure => omega
            case rel => exact ⟨3, by omega, by go_num, hb.alloc hb.size _, HN⟩
        · by_cases hn : bl s = nm 3
          · have hA := HA.out
            rw [hn, nameV_hit 3 (by omega)] at hA
            replace hA : A = 34 := hA
            subst hA
            have e1 : s.toList = [113, 117, 111, 116] := tl_eq 3 s hn
            clear hn HA hg
            go_wp2
            go_ret
            exact ⟨rfl, hb.alloc hb.size _⟩
          · have HN := Lib.hid (HK.out.step hn)
            have e1 : ([113, 117, 111, 116] == s.toList) = false := tl_ne 3 s hn
            clear hn
            go_wp2
            go_roundg 1
            case measure => omega
            case rel => exact ⟨4, by omega, by go_num, hb.alloc hb.size _, HN⟩
        · by_cases hn : bl s = nm 4
          · have hA := HA.out
            rw [hn, nameV_hit 4 (by omega)] at hA
            replace hA : A = 39 := hA
            subst hA
            have e1 : s.toList = [97, 112, 111, 115] := tl_eq 4 s hn
            clear hn HA hg
            go_wp2
            go_ret
            exact ⟨rfl, hb.alloc hb.size _⟩
          · have HN := Lib.hid (HK.out.step hn)
            have e1 : ([97, 112, 111, 115] == s.toList) = false := tl_ne 4 s hn
            clear hn
            go_wp2
            go_roundg 0
            case measure => omega
            case rel => exact ⟨5, by omega, by go_num, hb.alloc hb.size _, HN⟩
        · have hA : A = 0 := HA.out.trans HK.out.none
          subst hA
          clear HA hg
          go_wp2
          go_ret
          exact ⟨rfl, hb⟩
/-- **entity.One.** -/
theorem eone (s : ByteArray) (w : World) (HE : Hid (EntV w)) :
    Calls Tryz.prog 158 #[.string s] w fun e w' => e = .returned (.int .i64 (oneL (bl s))) ∧ Below w.heap.size w w' :=
  eone0 s w HE _ (Lib.hid rfl)

end Go.Proofs.YtincdacickhdkaaGreatDoor
