/-
  The names of galliardlaw04, and pieces one behind the other. No program in this text.
-/
import Derived.Test.YtekmenkebokdoaaGreatDoorScanMathC
namespace Go.Proofs.YtekmenkebokdoaaGreatDoor
open Go Go.Lib

theorem run_lets0 : ∀ rs : List Int, (∀ r ∈ rs, letB r = true) → (runL (rs.flatMap put)).2 = (rs.flatMap put).length
  | [], _ => rfl
  | r :: rs, h => by
    have hr := h r (List.mem_cons_self ..)
    have ih := run_lets0 rs (fun x hx => h x (List.mem_cons_of_mem _ hx))
    rw [List.flatMap_cons]
    have hg := gl_put r (let_may r hr) (rs.flatMap put)
    have hp := put_pos r (let_may r hr)
    rw [runL_step _ (by rw [hg]; simp only; omega), hg]
    simp only [Int.toNat_natCast]
    rw [List.drop_left, ih, List.length_append]; omega
theorem Lets.ok {l : List UInt8} (h : Lets l) : badL l = -1 := by
  obtain ⟨rs, h1, rfl⟩ := h
  unfold badL
  rw [run_lets0 rs h1, if_neg (Nat.lt_irrefl _)]
def alphL : List UInt8 := [97, 98, 90, 95, 48, 45, 46, 57]
def alph (c : UInt8) : UInt8 := alphL.getD (c.toNat % 8) 0
def nameG (s : List UInt8) : List UInt8 := 110 :: (s.take 6).map alph
theorem alph_mem (c : UInt8) : alph c ∈ alphL := by
  unfold alph
  have h : c.toNat % 8 < 8 := Nat.mod_lt _ (by decide)
  have key : ∀ i : Fin 8, alphL.getD i.val 0 ∈ alphL := by decide
  exact key ⟨c.toNat % 8, h⟩
/-- A byte of such a name. -/
def okN (c : UInt8) : Bool := partB (c.toNat : Int) && decide (c ≠ 58 ∧ c ≠ 63 ∧ 32 ≤ c.toNat ∧ c.toNat < 128)
theorem okN_alph : ∀ c ∈ alphL, okN c = true := by decide
theorem nameG_ok (s : List UInt8) : ∀ c ∈ nameG s, okN c = true := by
  intro c hc
  unfold nameG at hc
  rcases List.mem_cons.1 hc with rfl | hc
  · decide
  · obtain ⟨x, _, rfl⟩ := List.mem_map.1 hc
    exact okN_alph _ (alph_mem x)
theorem nameG_len (s : List UInt8) : 1 ≤ (nameG s).length ∧ (nameG s).length ≤ 7 := by
  unfold nameG
  simp
  omega
theorem okN_iff {c : UInt8} (h : okN c = true) : partB (c.toNat : Int) = true ∧ c ≠ 58 ∧ c ≠ 63 ∧ 32 ≤ c.toNat ∧ c.toNat < 128 := by
  unfold okN at h
  rw [Bool.and_eq_true, decide_eq_true_iff] at h
  exact ⟨h.1, h.2⟩
theorem ok_lets {n : List UInt8} (h : ∀ c ∈ n, okN c = true) : Lets n := asc_lets n (fun c hc => by have := okN_iff (h c hc); omega)
theorem ok_colon {n : List UInt8} (h : ∀ c ∈ n, okN c = true) : colonAt n = n.length := by
  induction n with
  | nil => rfl
  | cons c n ih => rw [colonAt_miss c n (okN_iff (h c (List.mem_cons_self ..))).2.1, ih (fun x hx => h x (List.mem_cons_of_mem _ hx)), List.length_cons]
theorem ok_name {c : UInt8} {n : List UInt8} (h : ∀ x ∈ c :: n, okN x = true) (hs : startB (c.toNat : Int) = true) (hl : n.length ≤ 59) : nameL (c :: n) = true := by
  unfold nameL
  apply decide_eq_true
  refine ⟨by simp, by simp; omega, hs, fun x hx => (okN_iff (h x hx)).1, ?_⟩
  rw [(ok_lets h).ok]; decide
theorem ok_nb {n : List UInt8} (h : ∀ c ∈ n, okN c = true) : ∀ c ∈ n, nb c = true := fun c hc => by
  unfold nb; rw [(okN_iff (h c hc)).1]; rfl
theorem ok_nm {c : UInt8} {n : List UInt8} (h : ∀ x ∈ c :: n, okN x = true) (hs : startB (c.toNat : Int) = true) (hl : n.length ≤ 59) : Nm (c :: n) :=
  ⟨ok_nb h, by rw [split_none _ (ok_colon h)]; exact ok_name h hs hl⟩
theorem nameG_cons (s : List UInt8) : ∃ r, nameG s = 110 :: r ∧ r.length ≤ 6 := ⟨_, rfl, by simp; omega⟩
theorem nameG_nm (s : List UInt8) : Nm (nameG s) := by
  obtain ⟨r, hr, hl⟩ := nameG_cons s
  have h := nameG_ok s
  rw [hr] at h ⊢
  exact ok_nm h (by decide) (by omega)
theorem nameG_p (s : List UInt8) : Nm (112 :: 58 :: nameG s) := by
  obtain ⟨r, hr, hl⟩ := nameG_cons s
  have h := nameG_ok s
  have h1 : nameL [112] = true := by kernel_rfl
  have h2 : nameL (nameG s) = true := by rw [hr] at h ⊢; exact ok_name h (by decide) (by omega)
  have hc : colonAt [112] = 1 := rfl
  have hsp := split_colon [112] (nameG s)
  rw [hc] at hsp
  refine ⟨fun c hc => ?_, ?_⟩
  · rcases List.mem_cons.1 hc with rfl | hc
    · kernel_rfl
    rcases List.mem_cons.1 hc with rfl | hc
    · kernel_rfl
    · exact ok_nb h c hc
  · have e : (112 :: 58 :: nameG s : List UInt8) = [112] ++ 58 :: nameG s := rfl
    rw [e, hsp]
    show (nameL [112] && nameL (nameG s)) = true
    rw [h1, h2]; rfl
theorem nameG_at (s : List UInt8) (c : UInt8) (hc : okN c = true) : Nm (nameG s ++ [c]) := by
  obtain ⟨r, hr, hl⟩ := nameG_cons s
  have h := nameG_ok s
  rw [hr] at h ⊢
  refine ok_nm (n := r ++ [c]) (fun x hx => ?_) (by decide) (by rw [List.length_append]; simp; omega)
  rcases List.mem_cons.1 hx with rfl | hx
  · exact h _ (List.mem_cons_self ..)
  · rcases List.mem_append.1 hx with hx | hx
    · exact h x (List.mem_cons_of_mem _ hx)
    · rw [List.mem_singleton.1 hx]; exact hc

/-! ### pieces, one behind the other -/
/-- A text that is a piece (or says nothing), wherever it stands. -/
structure Item (x : List UInt8) (q : Option Pc) (t : Bool) : Prop where
  lets : Lets x
  len : x.length ≤ 10000
  head : t = false → ∃ r, x = 60 :: r
  sem : ∀ (D r : List UInt8) (p : Nat), D.drop p = x ++ r → (t = true → r = [] ∨ ∃ r', r = 60 :: r') →
    (q = none → nextP D (P_ p) = nextP D (P_ (p + x.length)) ∧ nextS D (P_ p) = nextS D (P_ (p + x.length))) ∧
    (∀ Q, q = some Q → nextP D (P_ p) = setAt Q p ∧ nextS D (P_ p) = P_ (p + x.length))
abbrev It := List UInt8 × Option Pc × Bool
def flatI (its : List It) : List UInt8 := its.flatMap (·.1)
def wantsI : List It → Nat → List Pc
  | [], _ => []
  | (x, none, _) :: r, p => wantsI r (p + x.length)
  | (x, some Q, _) :: r, p => setAt Q p :: wantsI r (p + x.length)
def AdjI : List It → Prop
  | [] => True
  | [_] => True
  | i :: j :: r => ¬ (i.2.2 = true ∧ j.2.2 = true) ∧ AdjI (j :: r)
theorem AdjI.tail {i : It} {r : List It} (h : AdjI (i :: r)) : AdjI r := by
  cases r with
  | nil => trivial
  | cons j r => exact h.2
def OkI (its : List It) : Prop := ∀ i ∈ its, Item i.1 i.2.1 i.2.2
theorem next_text {i : It} {r : List It} (h : AdjI (i :: r)) (hk : OkI (i :: r)) (ht : i.2.2 = true) : flatI r = [] ∨ ∃ r', flatI r = 60 :: r' := by
  cases r with
  | nil => exact .inl rfl
  | cons j r =>
    right
    have hj : j.2.2 = false := by
      cases hh : j.2.2 with
      | false => rfl
      | true => exact absurd ⟨ht, hh⟩ h.1
    obtain ⟨t, ht⟩ := (hk j (List.mem_cons_of_mem _ (List.mem_cons_self ..))).head hj
    unfold flatI
    rw [List.flatMap_cons, ht]
    exact ⟨_, rfl⟩
theorem walk_items (D : List UInt8) : ∀ (its : List It) (p : Nat), AdjI its → OkI its → D.drop p = flatI its → p ≤ D.length →
    (wantsI its p = [] → nextP D (P_ p) = pc0 ∧ nextS D (P_ p) = P_ D.length) ∧
    (∀ Q W, wantsI its p = Q :: W → nextP D (P_ p) = Q ∧ ∃ its' p', nextS D (P_ p) = P_ p' ∧ wantsI its' p' = W ∧ AdjI its' ∧ OkI its' ∧ D.drop p' = flatI its' ∧ p' ≤ D.length)
  | [], p, _, _, hd, hp => by
    refine ⟨fun _ => next_end hd hp, fun Q W h => ?_⟩
    cases h
  | (x, q, t) :: its, p, ha, hk, hd, hp => by
    have hI := hk (x, q, t) (List.mem_cons_self ..)
    have hd' : D.drop p = x ++ flatI its := by rw [hd]; unfold flatI; rw [List.flatMap_cons]
    have hs := hI.sem D (flatI its) p hd' (fun ht => next_text ha hk ht)
    have hd2 := drop_on hd'
    have hp2 : p + x.length ≤ D.length := by
      have := congrArg List.length hd'
      rw [List.length_drop, List.length_append] at this; omega
    have hk2 : OkI its := fun i hi => hk i (List.mem_cons_of_mem _ hi)
    cases q with
    | none =>
      have ih := walk_items D its (p + x.length) ha.tail hk2 hd2 hp2
      have h := hs.1 rfl
      rw [h.1, h.2]
      exact ih
    | some Q0 =>
      have h := hs.2 Q0 rfl
      refine ⟨fun hw => (by unfold wantsI at hw; cases hw), fun Q W hw => ?_⟩
      unfold wantsI at hw
      injection hw with h1 h2
      exact ⟨by rw [h.1, h1], its, p + x.length, h.2, h2, ha.tail, hk2, hd2, hp2⟩

/-! ### the four kinds -/
theorem lets_one (c : UInt8) (h : 32 ≤ c.toNat ∧ c.toNat < 128) : Lets [c] := asc_lets [c] (fun x hx => by rw [List.mem_singleton.1 hx]; exact h)
theorem lets_cons {c : UInt8} {l : List UInt8} (h : 32 ≤ c.toNat ∧ c.toNat < 128) (hl : Lets l) : Lets (c :: l) := (lets_one c h).append hl
theorem item_close {n eb : List UInt8} (hn : Nm n) (hL : Lets n) (hl : n.length ≤ 100) (heb : ∀ c ∈ eb, bb c = true) (hebn : ∀ c ∈ eb, nb c = false) (hLe : Lets eb) (hle : eb.length ≤ 10) :
    Item (60 :: 47 :: (n ++ (eb ++ [62]))) (some ⟨2, n, [], [], 0⟩) false where
  lets := lets_cons (by decide) (lets_cons (by decide) (hL.append (hLe.append (lets_one 62 (by decide)))))
  len := by simp; omega
  head := fun _ => ⟨_, rfl⟩
  sem := fun D r p hd _ => by
    refine ⟨fun h => (by cases h), fun Q hQ => ?_⟩
    cases hQ
    have h := close_on (r := r) hn heb hebn (show D.drop p = 60 :: 47 :: (n ++ (eb ++ 62 :: r)) by rw [hd]; simp)
    refine ⟨h.1, ?_⟩
    rw [h.2]; congr 1; simp; omega
theorem atT_lets {n v : List UInt8} (hn : Lets n) (hv : Lets v) : Lets (atT n v) := by
  unfold atT
  exact hn.append (lets_cons (by decide) (lets_cons (by decide) (hv.close.append (lets_one 34 (by decide)))))
theorem atsT_lets {b : List UInt8} (hb : Lets b) : ∀ A : List (List UInt8 × List UInt8), (∀ a ∈ A, Lets a.1 ∧ Lets a.2) → Lets (atsT b A)
  | [], _ => Lets.nil
  | a :: A, h => by
    have h1 := h a (List.mem_cons_self ..)
    unfold atsT
    rw [List.flatMap_cons]
    exact (hb.append (atT_lets h1.1 h1.2)).append (atsT_lets hb A (fun x hx => h x (List.mem_cons_of_mem _ hx)))
theorem item_open {n b eb e : List UInt8} {kd : Int} {A : List (List UInt8 × List UInt8)} (hn : Nm n) (hL : Lets n) (hl : n.length ≤ 100) (hh : ∃ c r', n = c :: r' ∧ c ≠ 47 ∧ c ≠ 33 ∧ c ≠ 63) (hb : ∀ c ∈ b, bb c = true) (hbn : ∀ c ∈ b, nb c = false) (hb0 : b ≠ []) (hLb : Lets b)
    (heb : ∀ c ∈ eb, bb c = true) (hebn : ∀ c ∈ eb, nb c = false) (hLe : Lets eb) (hle : eb.length ≤ 10) (he : Ends e kd) (hA : ∀ a ∈ A, AtOk a) (hAL : ∀ a ∈ A, Lets a.1) (hp : A.Pairwise (fun x y => (x.1 == y.1) = false)) (hl2 : A.length ≤ 16) (hlt : (atsT b A).length ≤ 5000) :
    Item (60 :: (n ++ (atsT b A ++ (eb ++ e)))) (some ⟨kd, n, A, [], 0⟩) false where
  lets := by
    have h2 : Lets e := by
      rcases he with ⟨rfl, _⟩ | ⟨rfl, _⟩
      · exact lets_one 62 (by decide)
      · exact lets_cons (by decide) (lets_one 62 (by decide))
    exact lets_cons (by decide) (hL.append ((atsT_lets hLb A (fun a ha => ⟨hAL a ha, (hA a ha).lets⟩)).append (hLe.append h2)))
  len := by
    have h2 : e.length ≤ 2 := by rcases he with ⟨rfl, _⟩ | ⟨rfl, _⟩ <;> decide
    rw [List.length_cons, List.length_append, List.length_append, List.length_append]; omega
  head := fun _ => ⟨_, rfl⟩
  sem := fun D r p hd _ => by
    refine ⟨fun h => (by cases h), fun Q hQ => ?_⟩
    cases hQ
    have h := open_on (r := r) hn hh hb hbn hb0 heb hebn he hA hp hl2 (show D.drop p = 60 :: (n ++ (atsT b A ++ (eb ++ (e ++ r)))) by rw [hd]; simp)
    refine ⟨h.1, ?_⟩
    rw [h.2]; congr 1
    rw [List.length_cons, List.length_append, List.length_append, List.length_append]; omega
theorem item_com {n : List UInt8} (hn : ∀ c ∈ n, okN c = true) (hl : n.length ≤ 100) : Item (comT n) none false where
  lets := by
    unfold comT
    have h1 : Lets [60, 33, 45, 45, 32, 60, 110, 62, 32, 45, 45, 62] := asc_lets _ (by decide)
    have h2 : Lets [60, 63] := asc_lets _ (by decide)
    have h3 : Lets [63, 62] := asc_lets _ (by decide)
    exact h1.append (h2.append ((ok_lets hn).append h3))
  len := by unfold comT; simp; omega
  head := fun _ => ⟨_, rfl⟩
  sem := fun D r p hd _ => by
    refine ⟨fun _ => com_on (fun c hc => (okN_iff (hn c hc)).2.2.1) hd, fun Q hQ => (by cases hQ)⟩
theorem item_text {v : List UInt8} (hv : Lets v) (hv0 : v ≠ []) (hl : v.length ≤ 100) : Item (closeL v) (some ⟨4, [], [], v, 0⟩) true where
  lets := hv.close
  len := by have := closeL_len v; omega
  head := fun h => by cases h
  sem := fun D r p hd hr => by
    refine ⟨fun h => (by cases h), fun Q hQ => ?_⟩
    cases hQ
    have h := text_on hv hv0 (hr rfl) hd
    exact ⟨h.1, h.2⟩
theorem flat_lets : ∀ its : List It, OkI its → Lets (flatI its)
  | [], _ => Lets.nil
  | i :: its, h => by
    unfold flatI
    rw [List.flatMap_cons]
    exact (h i (List.mem_cons_self ..)).lets.append (flat_lets its (fun j hj => h j (List.mem_cons_of_mem _ hj)))
theorem flat_len : ∀ its : List It, OkI its → (flatI its).length ≤ 10000 * its.length
  | [], _ => by simp [flatI]
  | i :: its, h => by
    have h1 := (h i (List.mem_cons_self ..)).len
    have h2 := flat_len its (fun j hj => h j (List.mem_cons_of_mem _ hj))
    unfold flatI at h2 ⊢
    rw [List.flatMap_cons, List.length_append, List.length_cons]
    omega
theorem new_items (its : List It) (h : OkI its) (hl : its.length ≤ 10) : newS (flatI its) = P_ 0 := by
  have h1 := flat_len its h
  unfold newS
  rw [if_neg (by omega), (flat_lets its h).ok, if_neg (by decide)]
  rfl
theorem wants_app : ∀ (its : List It) (p : Nat) (i : It), wantsI (its ++ [i]) p = wantsI its p ++ wantsI [i] (p + (flatI its).length)
  | [], p, i => by simp [wantsI, flatI]
  | (x, none, t) :: its, p, i => by
    have ih := wants_app its (p + x.length) i
    show wantsI (its ++ [i]) (p + x.length) = wantsI its (p + x.length) ++ _
    rw [ih]
    congr 2
    unfold flatI; rw [List.flatMap_cons, List.length_append]; show p + x.length + _ = p + (x.length + _); omega
  | (x, some Q, t) :: its, p, i => by
    have ih := wants_app its (p + x.length) i
    show setAt Q p :: wantsI (its ++ [i]) (p + x.length) = (setAt Q p :: wantsI its (p + x.length)) ++ _
    rw [ih, List.cons_append]
    congr 3
    unfold flatI; rw [List.flatMap_cons, List.length_append]; show p + x.length + _ = p + (x.length + _); omega
theorem adj_app : ∀ (its : List It) (i : It), AdjI its → (i.2.2 = true → ∀ j, its.getLast? = some j → j.2.2 = false) → AdjI (its ++ [i])
  | [], _, _, _ => trivial
  | [a], i, _, h => ⟨fun hh => by have := h hh.2 a rfl; rw [this] at hh; exact absurd hh.1 (by decide), trivial⟩
  | a :: b :: r, i, ha, h => ⟨ha.1, adj_app (b :: r) i ha.2 (fun hi j hj => h hi j (by rw [List.getLast?_cons_cons]; exact hj))⟩

end Go.Proofs.YtekmenkebokdoaaGreatDoor
