/-
  What an opening piece says: its values and its texts are letters, its attributes differ, and its bytes count its attributes by their quotes; plain mathematics.
  An opening piece's attributes, one behind the other, and their quotes; plain mathematics.
  What the next piece of a text says, if nothing is wrong; plain mathematics.
  Whatever a text is whose tags say little, what is read of it may be, and how much it holds; plain mathematics.
  A near element's text, cut and put together with six bytes between: its tags say little; plain mathematics.
-/
import Derived.Test.YtnlkpdodacphkaaGreatDoorA4
namespace Go.Proofs.YtnlkpdodacphkaaGreatDoor
open Go Go.RowKit Go.Lib
set_option maxRecDepth 100000

/-! ### letters around a byte that is one -/
theorem lets_at : ∀ (rs : List Int) (a b : List UInt8) (c : UInt8), (∀ r ∈ rs, letB r = true) → c.toNat < 128 → rs.flatMap put = a ++ c :: b → Lets a ∧ Lets b
  | [], a, b, c, _, _, h => by cases a <;> cases h
  | r :: rs, a, b, c, hr, hc, h => by
    have h1 : letB r = true := hr r (List.mem_cons_self ..)
    have hrs : ∀ x ∈ rs, letB x = true := fun x hx => hr x (List.mem_cons_of_mem _ hx)
    have l1 : Lets (put r) := ⟨[r], fun x hx => by rw [List.mem_singleton.1 hx]; exact h1, by simp⟩
    rw [List.flatMap_cons] at h
    rcases List.append_eq_append_iff.1 h with ⟨d, h2, h3⟩ | ⟨d, h2, h3⟩
    · have ih := lets_at rs d b c hrs hc h3
      rw [h2]
      exact ⟨l1.append ih.1, ih.2⟩
    · cases d with
      | nil =>
        rw [List.append_nil] at h2
        rw [← h2]
        rw [List.nil_append] at h3
        exact ⟨l1, lets_tail (c := c) ⟨rs, hrs, h3⟩ hc⟩
      | cons e d =>
        have he : c = e := (List.cons.inj h3).1
        subst he
        have hb : b = d ++ rs.flatMap put := (List.cons.inj h3).2
        have hr' : r < 128 := by
          rcases Int.lt_or_le r 128 with h | h
          · exact h
          · exfalso
            have := put_hi r h1 h c (by rw [h2]; exact List.mem_append_right _ (List.mem_cons_self ..))
            omega
        have hm := (letB_iff r).1 h1
        rw [put_f1 r (by omega)] at h2
        have hl := congrArg List.length h2
        simp only [List.length_append, List.length_cons, List.length_nil] at hl
        obtain rfl : a = [] := List.eq_nil_of_length_eq_zero (by omega)
        obtain rfl : d = [] := List.eq_nil_of_length_eq_zero (by omega)
        exact ⟨Lets.nil, by rw [hb]; exact ⟨rs, hrs, rfl⟩⟩
theorem Lets.at {a b : List UInt8} {c : UInt8} (h : Lets (a ++ c :: b)) (hc : c.toNat < 128) : Lets a ∧ Lets b := by
  obtain ⟨rs, h1, h2⟩ := h
  exact lets_at rs a b c h1 hc h2.symm

/-! ### a text in which each name is its letter -/
theorem one_two {l : List UInt8} (h : oneL l ≠ 0) : 2 ≤ l.length := by
  have key : ∀ i : Fin 256, oneL [UInt8.ofNat i.val] = 0 := by decide +kernel
  cases l with
  | nil => exact absurd (by decide +kernel) h
  | cons c l =>
    cases l with
    | nil =>
      have := key ⟨c.toNat, UInt8.toNat_lt c⟩
      rw [show UInt8.ofNat c.toNat = c by simp] at this
      exact absurd this h
    | cons d l => simp
theorem semi_split {r : List UInt8} (h : semi r < r.length) : r = r.take (semi r) ++ 59 :: r.drop (semi r + 1) := by
  induction r with
  | nil => exact absurd h (Nat.not_lt_zero _)
  | cons c r ih =>
    by_cases hc : c = 59
    · subst hc; rw [semi_hit]; rfl
    · rw [semi_miss c r hc] at h ⊢
      have h' : semi r < r.length := by rw [List.length_cons] at h; omega
      have := ih h'
      rw [List.take_succ_cons, List.drop_succ_cons, List.cons_append, ← this]
theorem openF_lets : ∀ (f : Nat) (l done : List UInt8) (a : Nat), l.length ≤ f → Lets (done ++ l) → (openF f l done a).2 < 0 → Lets (openF f l done a).1 ∧ (openF f l done a).1.length ≤ done.length + l.length
  | 0, l, done, a, hf, hL, _ => by
    obtain rfl : l = [] := List.eq_nil_of_length_eq_zero (by omega)
    rw [List.append_nil] at hL
    exact ⟨hL, by simp [openF]⟩
  | f + 1, [], done, a, _, hL, _ => by
    rw [List.append_nil] at hL
    exact ⟨hL, by simp [openF]⟩
  | f + 1, c :: r, done, a, hf, hL, h => by
    rw [List.length_cons] at hf
    unfold openF at h ⊢
    by_cases hc : c ≠ 38
    · rw [if_pos hc] at h ⊢
      have ih := openF_lets f r (done ++ [c]) (a + 1) (by omega) (by simpa using hL) h
      refine ⟨ih.1, ?_⟩
      have := ih.2
      simp at this ⊢
      omega
    · rw [if_neg hc] at h ⊢
      obtain rfl : c = 38 := by simpa using hc
      by_cases hs : semi r < r.length ∧ oneL (r.take (semi r)) ≠ 0
      · rw [if_pos hs] at h ⊢
        have h1 := hL.at (by decide)
        have h2 := h1.2
        rw [semi_split hs.1] at h2
        have h3 := (h2.at (by decide)).2
        have hone := oneL_let _ hs.2
        have ih := openF_lets f (r.drop (semi r + 1)) (done ++ put (oneL (r.take (semi r)))) (a + semi r + 2) (by rw [List.length_drop]; omega) ((h1.1.snoc _ hone).append h3) h
        refine ⟨ih.1, ?_⟩
        have h4 := ih.2
        have h5 := put_len (oneL (r.take (semi r)))
        have h6 := one_two hs.2
        rw [List.length_take] at h6
        rw [List.length_append, List.length_drop] at h4
        rw [List.length_cons]
        omega
      · rw [if_neg hs] at h; exact absurd h (by show ¬ ((a : Nat) : Int) < 0; omega)
theorem openL_lets {l : List UInt8} (hL : Lets l) (h : (openL l).2 < 0) : Lets (openL l).1 ∧ (openL l).1.length ≤ l.length := by
  have := openF_lets l.length l [] 0 (Nat.le_refl _) (by simpa using hL) h
  unfold openL
  simpa using this
theorem wrong_ok {e a : Int} {σ : St} (he : e ≠ 0) : (wrongS e a σ).err ≠ 0 := wrong_err e a σ he
theorem letters_ok0 {x : List UInt8} {a : Int} {σ : St} (h : (lettersS x a σ).err = 0) : σ.err = 0 ∧ Lets x := by
  unfold lettersS at h
  split at h
  · exact absurd h (wrong_ok (by decide))
  · rename_i hx; exact ⟨h, text_iff.1 (by omega)⟩
theorem opened_ok0 {x : List UInt8} {a : Int} {σ : St} (h : (openedS x a σ).err = 0) : σ.err = 0 ∧ Lets (openL x).1 ∧ (openL x).1.length ≤ x.length := by
  unfold openedS at h
  split at h
  · exact absurd h (wrong_ok (by decide))
  · rename_i hx
    have h1 := letters_ok0 h
    exact ⟨h1.1, openL_lets h1.2 (by omega)⟩

/-! ### what stands at a place -/
theorem stands_at {p D : List UInt8} {σ : St} (h : standsS p D σ = true) : D.drop σ.pos = p ++ D.drop (σ.pos + p.length) := by
  unfold standsS at h
  obtain ⟨t, ht⟩ := List.isPrefixOf_iff_prefix.1 h
  rw [← List.drop_drop, ← ht, List.drop_left]
theorem must_at {p D : List UInt8} {σ : St} (h : (mustS p D σ).err = 0) : σ.err = 0 ∧ D.drop σ.pos = p ++ D.drop (mustS p D σ).pos := by
  unfold mustS at h ⊢
  split
  · rename_i hs; rw [if_pos hs] at h; exact ⟨h, stands_at hs⟩
  · rename_i hs; rw [if_neg hs] at h; exact absurd h (wrong_ok (by decide))
theorem while_at (f : UInt8 → Bool) (D : List UInt8) (σ : St) : D.drop σ.pos = runW f D σ ++ D.drop (whileS f D σ).pos := by
  rw [while_pos, ← List.drop_drop]
  unfold runW
  exact (List.prefix_iff_eq_append.1 (List.takeWhile_prefix (p := f) (l := D.drop σ.pos))).symm
theorem run_all (f : UInt8 → Bool) (D : List UInt8) (σ : St) : ∀ c ∈ runW f D σ, f c = true := by
  unfold runW
  intro c hc
  exact List.all_eq_true.1 (List.all_takeWhile) c hc
theorem name_at {D : List UInt8} {σ : St} (h : (nameS D σ).err = 0) : σ.err = 0 ∧ D.drop σ.pos = runW nb D σ ++ D.drop (nameS D σ).pos := by
  have hw := while_at nb D σ
  unfold nameS at h
  split at h
  · rename_i hs
    refine ⟨h, ?_⟩
    unfold nameS; rw [if_pos hs]; exact hw
  · exact absurd h (wrong_ok (by decide))
/-- Bytes that stand outside of quotes, in a tag. -/
def Pln (l : List UInt8) : Prop := ∀ c ∈ l, c ≠ 34 ∧ c ≠ 39 ∧ c ≠ 60 ∧ c ≠ 62
theorem Pln.append {a b : List UInt8} (h : Pln a) (k : Pln b) : Pln (a ++ b) := fun c hc => by
  rcases List.mem_append.1 hc with hc | hc
  · exact h c hc
  · exact k c hc
theorem Pln.noq {a : List UInt8} (h : Pln a) : NoQ a := fun c hc => ⟨(h c hc).1, (h c hc).2.1⟩
theorem bb_pln {c : UInt8} (h : bb c = true) : c ≠ 34 ∧ c ≠ 39 ∧ c ≠ 60 ∧ c ≠ 62 := by
  have key : ∀ i : Fin 256, bb (UInt8.ofNat i.val) = true → UInt8.ofNat i.val ≠ 34 ∧ UInt8.ofNat i.val ≠ 39 ∧ UInt8.ofNat i.val ≠ 60 ∧ UInt8.ofNat i.val ≠ 62 := by decide +kernel
  have := key ⟨c.toNat, UInt8.toNat_lt c⟩
  rw [show UInt8.ofNat c.toNat = c by simp] at this
  exact this h
theorem nb_pln {c : UInt8} (h : nb c = true) : c ≠ 34 ∧ c ≠ 39 ∧ c ≠ 60 ∧ c ≠ 62 := by
  have key : ∀ i : Fin 256, nb (UInt8.ofNat i.val) = true → UInt8.ofNat i.val ≠ 34 ∧ UInt8.ofNat i.val ≠ 39 ∧ UInt8.ofNat i.val ≠ 60 ∧ UInt8.ofNat i.val ≠ 62 := by decide +kernel
  have := key ⟨c.toNat, UInt8.toNat_lt c⟩
  rw [show UInt8.ofNat c.toNat = c by simp] at this
  exact this h
theorem Pln.ok : ∀ (l : List UInt8), Pln l → qOk 0 l = true
  | [], _ => rfl
  | c :: l, h => by
    have hc := h c (List.mem_cons_self ..)
    have hs := plain_s (q := 0) (.inl rfl) ⟨hc.1, hc.2.1⟩
    have ih := Pln.ok l fun x hx => h x (List.mem_cons_of_mem _ hx)
    unfold qOk
    rw [hs.1, ih]
    simp [hc.2.2.1, hc.2.2.2]
/-- Within quotes. -/
theorem in_ok {q : UInt8} (hq : q ≠ 0) : ∀ (l : List UInt8), (∀ c ∈ l, c ≠ q ∧ c ≠ 60) → qOk q l = true ∧ qEnd q l = q ∧ qNum q l = 0
  | [], _ => ⟨rfl, rfl, rfl⟩
  | c :: l, h => by
    have hc := h c (List.mem_cons_self ..)
    have ih := in_ok hq l fun x hx => h x (List.mem_cons_of_mem _ hx)
    have hs : qS q c = q := by unfold qS; rw [if_neg hq, if_neg hc.1]
    have hn : qN q c = 0 := by unfold qN; rw [if_neg (fun e => hc.1 e.2)]
    refine ⟨?_, ?_, ?_⟩
    · unfold qOk; rw [hs, ih.1]; simp [hc.2, hq]
    · show qEnd (qS q c) l = q
      rw [hs]; exact ih.2.1
    · show qN q c + qNum (qS q c) l = 0
      rw [hs, hn, ih.2.2]

end Go.Proofs.YtnlkpdodacphkaaGreatDoor
namespace Go.Proofs.YtnlkpdodacphkaaGreatDoor
open Go Go.RowKit Go.Lib
set_option maxRecDepth 100000

theorem drop_byte {D : List UInt8} {k : Nat} (h : k < D.length) : D.drop k = byteAt D k :: D.drop (k + 1) := by
  rw [List.drop_eq_getElem_cons h]
  congr 1
  unfold byteAt
  simp [List.getD, h]
theorem quoted_at {D : List UInt8} {σ : St} (h : (quotedS D σ).err = 0) : σ.err = 0 ∧ ∃ q V, (q = 34 ∨ q = 39) ∧ D.drop σ.pos = q :: (V ++ q :: D.drop (quotedS D σ).pos) ∧ (∀ c ∈ V, c ≠ q ∧ c ≠ 60) ∧
    Lets (quotedV D σ) ∧ (quotedV D σ).length ≤ V.length := by
  by_cases h1 : standsS [34] D σ = true ∨ standsS [39] D σ = true
  · by_cases h2 : endsB D σ = true
    · have e : quotedS D σ = openedS (runW (qb (byteAt D σ.pos)) D (go_ σ (σ.pos + 1))) (σ.pos + 1) (go_ (quoteS D σ) ((quoteS D σ).pos + 1)) := by unfold quotedS; rw [if_pos h1, if_pos h2]
      have ev : quotedV D σ = (openL (runW (qb (byteAt D σ.pos)) D (go_ σ (σ.pos + 1)))).1 := by unfold quotedV; rw [if_pos h1, if_pos h2]
      rw [e] at h
      have ho := opened_ok0 h
      have hend : (quoteS D σ).pos < D.length ∧ byteAt D (quoteS D σ).pos = byteAt D σ.pos := by
        unfold endsB at h2; simpa using h2
      have hlt : σ.pos < D.length := by rcases h1 with hs | hs <;> (have := stands_len hs (by decide); simp at this; omega)
      have hq : byteAt D σ.pos = 34 ∨ byteAt D σ.pos = 39 := by
        rcases h1 with hs | hs
        · have := stands_at hs
          rw [drop_byte hlt] at this
          exact .inl (List.cons.inj this).1
        · have := stands_at hs
          rw [drop_byte hlt] at this
          exact .inr (List.cons.inj this).1
      refine ⟨ho.1, byteAt D σ.pos, runW (qb (byteAt D σ.pos)) D (go_ σ (σ.pos + 1)), hq, ?_, ?_, by rw [ev]; exact ho.2.1, by rw [ev]; exact ho.2.2⟩
      · rw [drop_byte hlt, e, opened_pos]
        have hw := while_at (qb (byteAt D σ.pos)) D (go_ σ (σ.pos + 1))
        show _ :: D.drop (go_ σ (σ.pos + 1)).pos = _
        rw [hw]
        show _ :: (_ ++ D.drop (quoteS D σ).pos) = _ :: (_ ++ _ :: D.drop ((quoteS D σ).pos + 1))
        rw [drop_byte hend.1, hend.2]
      · intro c hc
        have := run_all _ D _ c hc
        unfold qb at this
        simpa using this
    · exfalso
      unfold quotedS at h
      rw [if_pos h1, if_neg h2] at h
      exact wrong_ok (by decide) h
  · exfalso
    unfold quotedS at h
    rw [if_neg h1] at h
    exact wrong_ok (by decide) h
theorem attrp_at {D : List UInt8} {σ : St} (h : (attrP D σ).err = 0) : σ.err = 0 ∧ ∃ B, D.drop σ.pos = runW nb D σ ++ (B ++ D.drop (attrP D σ).pos) ∧ Pln B ∧ 1 ≤ B.length := by
  have h1 : (mustS [61] D (whileS bb D (nameS D σ))).err = 0 := h
  have hm := must_at h1
  have h2 : (nameS D σ).err = 0 := hm.1
  have hn := name_at h2
  have hw1 := while_at bb D (nameS D σ)
  have hw2 := while_at bb D (mustS [61] D (whileS bb D (nameS D σ)))
  refine ⟨hn.1, runW bb D (nameS D σ) ++ ([61] ++ runW bb D (mustS [61] D (whileS bb D (nameS D σ)))), ?_, ?_, ?_⟩
  · rw [hn.2, hw1, hm.2, hw2]
    unfold attrP
    simp
  · exact Pln.append (fun c hc => bb_pln (run_all bb D _ c hc)) (Pln.append (fun c hc => by rw [List.mem_singleton.1 hc]; decide) (fun c hc => bb_pln (run_all bb D _ c hc)))
  · simp; omega
theorem att_at {D : List UInt8} {al : List (List UInt8 × List UInt8)} {σ : St} (h : (attrS D al σ).err = 0) : σ.err = 0 ∧ (∀ a ∈ al, (a.1 == (attrV D σ).1) = false) ∧
    ∃ w, D.drop σ.pos = w ++ D.drop (attrS D al σ).pos ∧ qOk 0 w = true ∧ qEnd 0 w = 0 ∧ qNum 0 w = 1 ∧ Lets (attrV D σ).2 ∧ (attrV D σ).1.length + (attrV D σ).2.length + 3 ≤ w.length := by
  by_cases ha : al.any (fun a => a.1 == runW nb D σ) = true
  · exfalso
    unfold attrS at h
    rw [if_pos ha] at h
    exact wrong_ok (by decide) h
  · have e : attrS D al σ = quotedS D (attrP D σ) := by unfold attrS; rw [if_neg ha]
    rw [e] at h
    obtain ⟨hp, q, V, hq, hd, hV, hL, hl⟩ := quoted_at h
    obtain ⟨h0, B, hd2, hB, hB1⟩ := attrp_at hp
    have hX : Pln (runW nb D σ ++ B) := Pln.append (fun c hc => nb_pln (run_all nb D σ c hc)) hB
    have hq0 : q ≠ 0 := by rcases hq with rfl | rfl <;> decide
    have ev2 : (attrV D σ).2 = quotedV D (attrP D σ) := by simp only [attrV]
    have ev1 : (attrV D σ).1 = runW nb D σ := by simp only [attrV]
    have hr := plain_run _ 0 (.inl rfl) hX.noq
    have hi := in_ok hq0 V hV
    have s1 : qS 0 q = q ∧ qN 0 q = 0 ∧ qS q q = 0 ∧ qN q q = 1 ∧ qOk 0 [q] = true ∧ qOk q [q] = true := by rcases hq with rfl | rfl <;> decide
    have hone : qEnd 0 [q] = q ∧ qNum 0 [q] = 0 ∧ qEnd q [q] = 0 ∧ qNum q [q] = 1 := by rcases hq with rfl | rfl <;> decide
    refine ⟨h0, fun a hm => ?_, (runW nb D σ ++ B) ++ ([q] ++ (V ++ [q])), ?_, ?_, ?_, ?_, by rw [ev2]; exact hL, ?_⟩
    · cases hc : (a.1 == (attrV D σ).1) with
      | false => rfl
      | true => rw [ev1] at hc; exact absurd (List.any_eq_true.2 ⟨a, hm, hc⟩) ha
    · rw [hd2, hd, e]; simp
    · rw [qOk_app, Pln.ok _ hX, hr.1, qOk_app, s1.2.2.2.2.1, hone.1, qOk_app, hi.1, hi.2.1, s1.2.2.2.2.2]; rfl
    · rw [qEnd_app, hr.1, qEnd_app, hone.1, qEnd_app, hi.2.1, hone.2.2.1]
    · rw [qNum_app, hr.2, hr.1, qNum_app, hone.2.1, hone.1, qNum_app, hi.2.2, hi.2.1, hone.2.2.2]
    · rw [ev1, ev2]
      simp only [List.length_append, List.length_singleton]
      omega
/-- How many bytes of a tag attributes need. -/
def massA : List (List UInt8 × List UInt8) → Nat
  | [] => 0
  | a :: A => a.1.length + a.2.length + 4 + massA A
theorem massA_snoc : ∀ (A : List (List UInt8 × List UInt8)) (a : List UInt8 × List UInt8), massA (A ++ [a]) = massA A + (a.1.length + a.2.length + 4)
  | [], a => by simp [massA]
  | b :: A, a => by rw [List.cons_append, massA, massA, massA_snoc A a]; omega
theorem openF_wrong (f : Nat) (D n : List UInt8) (al : List (List UInt8 × List UInt8)) (σ : St) (h : σ.err ≠ 0) : openF_ f D n al σ = (pc0, σ) := by
  cases f with
  | zero => rfl
  | succ f => unfold openF_; rw [if_neg h]
structure OpenAt (D n : List UInt8) (al : List (List UInt8 × List UInt8)) (σ : St) (R : Pc × St) : Prop where
  err : σ.err = 0
  name : R.1.name = n
  text : R.1.text = []
  lets : ∀ a ∈ R.1.attrs, Lets a.2
  pair : R.1.attrs.Pairwise (fun x y => (x.1 == y.1) = false)
  bytes : ∃ w e, D.drop σ.pos = w ++ (e ++ D.drop R.2.pos) ∧ (e = [62] ∨ e = [47, 62]) ∧ qOk 0 w = true ∧ qEnd 0 w = 0 ∧ al.length + qNum 0 w = R.1.attrs.length ∧ massA R.1.attrs ≤ massA al + w.length
theorem openF_at : ∀ (f : Nat) (D n : List UInt8) (al : List (List UInt8 × List UInt8)) (σ : St), (∀ a ∈ al, Lets a.2) → al.Pairwise (fun x y => (x.1 == y.1) = false) → (openF_ f D n al σ).1.kind ≠ 0 → OpenAt D n al σ (openF_ f D n al σ)
  | 0, D, n, al, σ, _, _, h => absurd rfl h
  | f + 1, D, n, al, σ, hL, hP, h => by
    have h0 : σ.err = 0 := by
      by_cases h0 : σ.err = 0
      · exact h0
      · rw [openF_wrong _ _ _ _ _ h0] at h; exact absurd rfl h
    have hw := while_at bb D σ
    have hB : Pln (runW bb D σ) := fun c hc => bb_pln (run_all bb D σ c hc)
    have hr := plain_run _ 0 (.inl rfl) hB.noq
    unfold openF_ at h ⊢
    rw [if_pos h0] at h ⊢
    by_cases h1 : standsS [62] D (whileS bb D σ) = true
    · rw [if_pos h1]
      refine ⟨h0, rfl, rfl, hL, hP, runW bb D σ, [62], ?_, .inl rfl, Pln.ok _ hB, hr.1, by rw [hr.2]; rfl, Nat.le_add_right _ _⟩
      rw [hw, stands_at h1]
      unfold skipS
      rw [if_pos h1]; rfl
    rw [if_neg h1] at h ⊢
    by_cases h2 : standsS [47, 62] D (whileS bb D σ) = true
    · rw [if_pos h2]
      refine ⟨h0, rfl, rfl, hL, hP, runW bb D σ, [47, 62], ?_, .inr rfl, Pln.ok _ hB, hr.1, by rw [hr.2]; rfl, Nat.le_add_right _ _⟩
      rw [hw, stands_at h2]
      unfold skipS
      rw [if_pos h2]; rfl
    rw [if_neg h2] at h ⊢
    by_cases h3 : runW bb D σ = [] ∨ al.length = 16
    · exfalso
      rw [if_pos h3, openF_wrong _ _ _ _ _ (wrong_ok (by decide))] at h
      exact h rfl
    rw [if_neg h3] at h ⊢
    have ha0 : (attrS D al (whileS bb D σ)).err = 0 := by
      by_cases hc : (attrS D al (whileS bb D σ)).err = 0
      · exact hc
      · rw [openF_wrong _ _ _ _ _ hc] at h; exact absurd rfl h
    obtain ⟨_, hany, w, hd, hok, hend, hnum, hlets, hmass⟩ := att_at ha0
    have ih := openF_at f D n (al ++ [attrV D (whileS bb D σ)]) (attrS D al (whileS bb D σ)) (fun a ha => by
      rcases List.mem_append.1 ha with h | h
      · exact hL a h
      · rw [List.mem_singleton.1 h]; exact hlets) (List.pairwise_append.2 ⟨hP, List.pairwise_singleton _ _, fun x hx y hy => by rw [List.mem_singleton.1 hy]; exact hany x hx⟩) h
    obtain ⟨w2, e, hd2, he, hok2, hend2, hnum2, hm2⟩ := ih.bytes
    have hne : 1 ≤ (runW bb D σ).length := List.length_pos_iff.2 fun hc => h3 (.inl hc)
    refine ⟨h0, ih.name, ih.text, ih.lets, ih.pair, runW bb D σ ++ (w ++ w2), e, ?_, he, ?_, ?_, ?_, ?_⟩
    · rw [hw, hd, hd2]; simp
    · rw [qOk_app, Pln.ok _ hB, hr.1, qOk_app, hok, hend, hok2]; rfl
    · rw [qEnd_app, hr.1, qEnd_app, hend, hend2]
    · rw [qNum_app, hr.2, hr.1, qNum_app, hnum, hend]
      rw [List.length_append, List.length_singleton] at hnum2
      omega
    · rw [massA_snoc] at hm2
      simp only [List.length_append]
      omega

end Go.Proofs.YtnlkpdodacphkaaGreatDoor
namespace Go.Proofs.YtnlkpdodacphkaaGreatDoor
open Go Go.RowKit Go.Lib
set_option maxRecDepth 100000

theorem rawK (D : List UInt8) (σ : St) : ¬ opens (rawS D σ).1 := by rintro (h | h) <;> exact absurd (show (4 : Int) = _ from h) (by decide)
theorem textK (D : List UInt8) (σ : St) : ¬ opens (textS D σ).1 := by rintro (h | h) <;> exact absurd (show (4 : Int) = _ from h) (by decide)
theorem closK (D : List UInt8) (σ : St) : ¬ opens (closingS D σ).1 := by rintro (h | h) <;> exact absurd (show (2 : Int) = _ from h) (by decide)
theorem openF_kind : ∀ (f : Nat) (D n : List UInt8) (al : List (List UInt8 × List UInt8)) (σ : St), opens (openF_ f D n al σ).1 ∨ (openF_ f D n al σ).1.kind = 0
  | 0, _, _, _, _ => .inr rfl
  | f + 1, D, n, al, σ => by
    unfold openF_
    split
    · split
      · exact .inl (.inl rfl)
      split
      · exact .inl (.inr rfl)
      split
      · exact openF_kind f D n al _
      · exact openF_kind f D n _ _
    · exact .inr rfl
/-- A piece that opens an element. -/
structure OpG (D : List UInt8) (p : Pc) (a b : Nat) : Prop where
  lets : ∀ x ∈ p.attrs, Lets x.2
  pair : p.attrs.Pairwise (fun x y => (x.1 == y.1) = false)
  bytes : ∃ c w e, a ≤ c ∧ D.drop c = 60 :: (w ++ (e ++ D.drop b)) ∧ (e = [62] ∨ e = [47, 62]) ∧ qOk 0 w = true ∧ qEnd 0 w = 0 ∧ qNum 0 w = p.attrs.length ∧ p.name.length + massA p.attrs ≤ w.length
/-- Where the next piece is taken. -/
theorem next_in {D : List UInt8} {σ : St} (hs : Scn D.length σ) (he : (nextS D σ).err = 0) (hk : (nextP D σ).kind ≠ 0) :
    nextP D σ = setAt (pieceR D (passAllS D σ)).1 (passAllS D σ).pos ∧ nextS D σ = (pieceR D (passAllS D σ)).2 ∧ (passAllS D σ).err = 0 ∧ σ.pos ≤ (passAllS D σ).pos := by
  have hp := (next_scn D σ hs).2.2 hk
  have hx : (passAllS D σ).err = 0 ∧ (passAllS D σ).pos < D.length := by
    by_cases hc : (passAllS D σ).err = 0 ∧ (passAllS D σ).pos < D.length
    · exact hc
    · unfold nextP at hk; rw [if_neg hc] at hk; exact absurd rfl hk
  have e2 : nextS D σ = (pieceR D (passAllS D σ)).2 := by unfold nextS; rw [if_pos hx]; rfl
  have e1 : nextP D σ = setAt (pieceR D (passAllS D σ)).1 (passAllS D σ).pos := by
    have h0 : (pieceS D (passAllS D σ)).2.err = 0 := by
      have := he
      rw [e2] at this; exact this
    unfold nextP; rw [if_pos hx, if_pos h0]; rfl
  refine ⟨e1, e2, hx.1, ?_⟩
  rw [e1] at hp
  have : (σ.pos : Int) ≤ ((passAllS D σ).pos : Nat) := hp.1
  omega
theorem skip_at {p D : List UInt8} {σ : St} (h : standsS p D σ = true) : (skipS p D σ).pos = σ.pos + p.length ∧ (skipS p D σ).err = σ.err ∧ D.drop σ.pos = p ++ D.drop (skipS p D σ).pos := by
  have e : skipS p D σ = go_ σ (σ.pos + p.length) := by unfold skipS; rw [if_pos h]
  rw [e]
  exact ⟨rfl, rfl, stands_at h⟩
theorem open_at {D : List UInt8} {σ : St} (h : (openingS D σ).1.kind ≠ 0) : ∃ w e, D.drop σ.pos = w ++ (e ++ D.drop (openingS D σ).2.pos) ∧ (e = [62] ∨ e = [47, 62]) ∧ qOk 0 w = true ∧ qEnd 0 w = 0 ∧ qNum 0 w = (openingS D σ).1.attrs.length ∧
    (openingS D σ).1.name.length + massA (openingS D σ).1.attrs ≤ w.length ∧ (∀ x ∈ (openingS D σ).1.attrs, Lets x.2) ∧ (openingS D σ).1.attrs.Pairwise (fun x y => (x.1 == y.1) = false) := by
  have ho := openF_at 19 D (runW nb D σ) [] (nameS D σ) (fun _ h => by cases h) List.Pairwise.nil h
  have hn := name_at ho.err
  obtain ⟨w, e, hd, he, h1, h2, h3, h4⟩ := ho.bytes
  have hB : Pln (runW nb D σ) := fun c hc => nb_pln (run_all nb D σ c hc)
  have hr := plain_run _ 0 (.inl rfl) hB.noq
  refine ⟨runW nb D σ ++ w, e, ?_, he, ?_, ?_, ?_, ?_, ho.lets, ho.pair⟩
  · rw [hn.2, hd]
    show _ = _ ++ _ ++ (e ++ D.drop (openF_ 19 D (runW nb D σ) [] (nameS D σ)).2.pos)
    simp
  · rw [qOk_app, Pln.ok _ hB, hr.1, h1]; rfl
  · rw [qEnd_app, hr.1, h2]
  · rw [qNum_app, hr.2, hr.1]
    show _ = (openF_ 19 D (runW nb D σ) [] (nameS D σ)).1.attrs.length
    rw [← h3]; simp
  · have e1 : (openingS D σ).1.name = runW nb D σ := ho.name
    have h5 : massA (openingS D σ).1.attrs ≤ massA [] + w.length := h4
    rw [e1, List.length_append]
    rw [show massA [] = 0 from rfl] at h5
    omega
theorem next_open {D : List UInt8} {σ : St} (hs : Scn D.length σ) (he : (nextS D σ).err = 0) (h : opens (nextP D σ)) : OpG D (nextP D σ) σ.pos (nextS D σ).pos := by
  have hk : (nextP D σ).kind ≠ 0 := by rcases h with h | h <;> rw [h] <;> decide
  obtain ⟨e1, e2, _, hle⟩ := next_in hs he hk
  have ho : opens (pieceR D (passAllS D σ)).1 := by rw [e1] at h; exact h
  rw [e1, e2]
  generalize passAllS D σ = τ at *
  unfold pieceR at ho ⊢
  by_cases h1 : standsS bRaw D τ = true
  · rw [if_pos h1] at ho; exact absurd ho (rawK _ _)
  rw [if_neg h1] at ho ⊢
  by_cases h2 : standsS [60, 47] D τ = true
  · rw [if_pos h2] at ho; exact absurd ho (closK _ _)
  rw [if_neg h2] at ho ⊢
  by_cases h3 : standsS [60] D τ = true
  · rw [if_pos h3] at ho ⊢
    have hk2 : (openingS D (skipS [60] D τ)).1.kind ≠ 0 := by rcases ho with h | h <;> rw [h] <;> decide
    obtain ⟨w, e, hd, hee, q1, q2, q3, q4, hL, hP⟩ := open_at hk2
    refine ⟨hL, hP, τ.pos, w, e, hle, ?_, hee, q1, q2, q3, q4⟩
    rw [(skip_at h3).2.2, hd]; rfl
  · rw [if_neg h3] at ho; exact absurd ho (textK _ _)
theorem next_lets {D : List UInt8} {σ : St} (hs : Scn D.length σ) (he : (nextS D σ).err = 0) (h : ¬ opens (nextP D σ)) : Lets (nextP D σ).text ∧ σ.pos + (nextP D σ).text.length ≤ (nextS D σ).pos := by
  by_cases hk : (nextP D σ).kind = 0
  · rw [next_zero hs he hk]
    exact ⟨Lets.nil, by have := next_pos hs he; show _ + 0 ≤ _; omega⟩
  obtain ⟨e1, e2, h0, hle⟩ := next_in hs he hk
  have hpos := next_pos hs he
  have hsn := (next_scn D σ hs).1.pos
  rw [e2] at he hpos hsn
  have ho : ¬ opens (pieceR D (passAllS D σ)).1 := by rw [e1] at h; exact h
  rw [e1, e2]
  show Lets (pieceR D (passAllS D σ)).1.text ∧ _ + (pieceR D (passAllS D σ)).1.text.length ≤ _
  generalize passAllS D σ = τ at *
  unfold pieceR at ho he hpos hsn ⊢
  by_cases h1 : standsS bRaw D τ = true
  · rw [if_pos h1] at he hpos hsn ⊢
    have hsk := skip_at h1
    have hf := hsk.2.2
    have hl := stands_len h1 (by decide)
    have e9 : bRaw.length = 9 := rfl
    rw [e9] at hl
    have hp9 := hsk.1
    rw [e9] at hp9
    generalize skipS bRaw D τ = υ at *
    have hlt : (lettersS (rawC D υ).1 υ.pos (if (rawC D υ).2.2 = true then υ else wrongS 3 υ.pos υ)).err = 0 := he
    have hq := letters_ok0 hlt
    refine ⟨hq.2, ?_⟩
    have hfound : (rawC D υ).2.2 = true := by
      by_cases hc : (rawC D υ).2.2 = true
      · exact hc
      · rw [if_neg hc] at hq; exact absurd hq.1 (wrong_ok (by decide))
    show σ.pos + (rawC D υ).1.length ≤ D.length - (rawC D υ).2.1.length
    unfold rawC cut at hfound ⊢
    by_cases hi : 0 ≤ index (D.drop υ.pos) [93, 93, 62]
    · rw [if_pos hi]
      simp only [List.length_take, List.length_drop]
      omega
    · rw [if_neg hi] at hfound; exact absurd (show false = true from hfound) (by decide)
  rw [if_neg h1] at ho he hpos hsn ⊢
  by_cases h2 : standsS [60, 47] D τ = true
  · rw [if_pos h2] at hpos ⊢
    exact ⟨Lets.nil, by show _ + 0 ≤ _; omega⟩
  rw [if_neg h2] at ho he hpos hsn ⊢
  by_cases h3 : standsS [60] D τ = true
  · exfalso
    rw [if_pos h3] at ho
    rcases openF_kind 19 D (runW nb D (skipS [60] D τ)) [] (nameS D (skipS [60] D τ)) with h | h
    · exact ho h
    · rw [e1] at hk
      have hk2 : (pieceR D τ).1.kind ≠ 0 := hk
      unfold pieceR at hk2
      rw [if_neg h1, if_neg h2, if_pos h3] at hk2
      exact hk2 h
  · rw [if_neg h3] at he hpos ⊢
    have ht := opened_ok0 (show (openedS (runW tb D τ) τ.pos (whileS tb D τ)).err = 0 from he)
    refine ⟨ht.2.1, ?_⟩
    show σ.pos + (openL (runW tb D τ)).1.length ≤ (openedS (runW tb D τ) τ.pos (whileS tb D τ)).pos
    rw [opened_pos, while_pos]
    have := ht.2.2
    omega

end Go.Proofs.YtnlkpdodacphkaaGreatDoor
namespace Go.Proofs.YtnlkpdodacphkaaGreatDoor
open Go Go.RowKit Go.Lib
set_option maxRecDepth 100000

/-! ### what is told -/
/-- A space that may be, and not a long one. -/
def SpOk (s : ByteArray) : Prop := Lets (bl s) ∧ (bl s).length ≤ 706
def TellsOk (L : List Tell) : Prop := ∀ t ∈ L, SpOk t.s
theorem tells0_ok : TellsOk tells0 := by
  intro t ht
  rcases List.mem_cons.1 ht with rfl | ht
  · exact ⟨asc_lets _ (by decide +kernel), by decide +kernel⟩
  · rw [List.mem_singleton.1 ht]
    exact ⟨Lets.nil, by decide +kernel⟩
theorem TellsOk.append {a b : List Tell} (h : TellsOk a) (k : TellsOk b) : TellsOk (a ++ b) := fun c hc => by
  rcases List.mem_append.1 hc with hc | hc
  · exact h c hc
  · exact k c hc
theorem TellsOk.of {L : List Tell} {p u : ByteArray} (h : TellsOk L) (hu : ofT L p = some u) : SpOk u := by
  unfold ofT at hu
  obtain ⟨t, ht, rfl⟩ := Option.map_eq_some_iff.1 hu
  exact h t (List.mem_reverse.1 (List.mem_of_find?_eq_some ht))
theorem enterL_sub (d : Nat) : ∀ (A R : List Att) (L : List Tell), (enterL d A R L).2.1 = 0 → TellsOk L → (∀ a ∈ A, SpOk a.2) →
    ∃ B, (enterL d A R L).1 = R ++ B ∧ B.Sublist A ∧ (∀ b ∈ B, (tellS b.1).2 = false) ∧ TellsOk (enterL d A R L).2.2
  | [], R, L, _, hL, _ => ⟨[], by simp [enterL], List.Sublist.refl _, (fun _ h => by cases h), hL⟩
  | a :: A, R, L, h, hL, hA => by
    have hA' : ∀ x ∈ A, SpOk x.2 := fun x hx => hA x (List.mem_cons_of_mem _ hx)
    unfold enterL at h ⊢
    by_cases h1 : (tellS a.1).2 = false
    · rw [if_pos h1] at h ⊢
      obtain ⟨B, e, hs, hB, ht⟩ := enterL_sub d A (R ++ [a]) L h hL hA'
      refine ⟨a :: B, by rw [e]; simp, hs.cons_cons a, fun b hb => ?_, ht⟩
      rcases List.mem_cons.1 hb with rfl | hb
      · exact h1
      · exact hB b hb
    rw [if_neg h1] at h ⊢
    by_cases h2 : knowE L (tellS a.1).1 a.2 = 0
    · rw [if_pos h2] at h ⊢
      obtain ⟨B, e, hs, hB, ht⟩ := enterL_sub d A R (L ++ [⟨(tellS a.1).1, a.2, d⟩]) h (hL.append fun t ht => by rw [List.mem_singleton.1 ht]; exact hA a (List.mem_cons_self ..)) hA'
      exact ⟨B, e, hs.cons a, hB, ht⟩
    · rw [if_neg h2] at h; exact absurd h h2
theorem split_len (l : List UInt8) : (splitL l).2.1.length ≤ l.length := by
  unfold splitL
  split
  · show (cut l [58]).2.1.length ≤ _
    unfold cut
    split
    · simp
    · simp
  · exact Nat.le_refl _
theorem split_nm {l : List UInt8} (h : (splitL l).2.2 = true) : nameL (splitL l).2.1 = true := by
  revert h
  unfold splitL
  split <;> simp_all
theorem nameSp_ok {L : List Tell} {s : ByteArray} (hL : TellsOk L) (h : (nameSp L s).2.2 = true) : SpOk (nameSp L s).1 ∧ nameL (bl (nameSp L s).2.1) = true ∧ (bl (nameSp L s).2.1).length ≤ (bl s).length := by
  unfold nameSp nameZ at h ⊢
  by_cases hc : (splitL (bl s)).2.2 = false
  · rw [if_pos hc] at h; exact absurd (show false = true from h) (by decide)
  · rw [if_neg hc] at h ⊢
    cases hO : ofT L (str (splitL (bl s)).1) with
    | none => rw [hO] at h; exact absurd (show false = true from h) (by decide)
    | some u =>
      refine ⟨hL.of hO, ?_, ?_⟩
      · show nameL (bl (str _)) = true
        rw [str_bl]; exact split_nm (by simpa using hc)
      · show (bl (str _)).length ≤ _
        rw [str_bl]; exact split_len _

/-! ### what is read -/
def massL : List Att → Nat
  | [] => 0
  | a :: A => (bl a.1).length + (bl a.2).length + 4 + massL A
theorem massL_sub {A B : List Att} (h : A.Sublist B) : massL A ≤ massL B := by
  induction h with
  | slnil => exact Nat.le_refl _
  | cons a _ ih => rw [massL]; omega
  | cons_cons a _ ih => rw [massL, massL]; omega
theorem massL_to : ∀ A : List (List UInt8 × List UInt8), massL (toAtt A) = massA A
  | [] => rfl
  | a :: A => by
    have ih := massL_to A
    unfold toAtt at ih ⊢
    rw [List.map_cons, massL, massA, ih, str_bl, str_bl]
mutual
/-- How many bytes an element and those within hold. -/
def Nd.mass : Nd → Nat
  | .mk _ n A K t => (bl n).length + massL A + (bl t).length + massK K
def massK : List Nd → Nat
  | [] => 0
  | k :: K => k.mass + massK K
end
theorem massK_app : ∀ a b : List Nd, massK (a ++ b) = massK a + massK b
  | [], b => by simp [massK]
  | x :: a, b => by rw [List.cons_append, massK, massK, massK_app a b]; omega
/-- An element that may be, of spaces that are not long. -/
inductive GN : Nd → Prop where
  | mk (s n t : ByteArray) (A : List Att) (K : List Nd) (hn : nameL (bl n) = true) (hs : SpOk s) (ht : Lets (bl t)) (htr : trimL (bl t) = bl t)
    (hA : ∀ a ∈ A, GA a) (hAd : A.Pairwise (fun x y => (bl x.1 == bl y.1) = false)) (hAl : A.length ≤ 15)
    (hKt : K = [] ∨ bl t = []) (hK : ∀ k ∈ K, GN k) : GN (.mk s n A K t)
theorem GN.may {x : Nd} (h : GN x) : MayN x := by
  induction h with
  | mk s n t A K hn hs ht htr hA hAd hAl hKt hK ih => exact .mk s n t A K hn hs.1 ht htr hA hAd hAl hKt ih
/-- An element that is open. -/
structure FrG (F : Fr) : Prop where
  nm : nameL (bl F.nm) = true
  sp : SpOk F.sp
  atts : ∀ a ∈ F.A, GA a
  pair : F.A.Pairwise (fun x y => (bl x.1 == bl y.1) = false)
  few : F.A.length ≤ 15
  kids : ∀ k ∈ F.K, GN k
  tx : Lets F.tx
  told : TellsOk F.L
def Fr.mass (F : Fr) : Nat := (bl F.nm).length + massL F.A + F.tx.length + massK F.K
def massS : List Fr → Nat
  | [] => 0
  | F :: S => F.mass + massS S
def massM : Mach → Nat
  | (.before, _, _) => 0
  | (.inside F S, _, _) => massS (F :: S)
  | (.behind x, _, _) => x.mass
def MG : Mach → Prop
  | (.before, L, _) => TellsOk L
  | (.inside F S, L, _) => (FrG F ∧ ∀ G ∈ S, FrG G) ∧ TellsOk L
  | (.behind x, _, _) => GN x
/-- What was taken may be, and holds no more. -/
def GR (n : Nat) : Res Mach → Prop
  | .bad _ _ => True
  | .ok m => MG m ∧ massM m ≤ n
theorem give_g {x : Nd} {S : List Fr} {L : List Tell} {c n : Nat} (hx : GN x) (hS : ∀ G ∈ S, FrG G) (hL : TellsOk L) (hn : x.mass + massS S ≤ n) : GR n (.ok (give x S, L, c)) := by
  cases S with
  | nil => exact ⟨hx, by show x.mass ≤ n; omega⟩
  | cons F S =>
    have hF := hS F (List.mem_cons_self ..)
    refine ⟨⟨⟨⟨hF.nm, hF.sp, hF.atts, hF.pair, hF.few, fun k hk => ?_, hF.tx, hF.told⟩, fun G hG => hS G (List.mem_cons_of_mem _ hG)⟩, hL⟩, ?_⟩
    · rcases List.mem_append.1 hk with h | h
      · exact hF.kids k h
      · rw [List.mem_singleton.1 h]; exact hx
    · show (bl F.nm).length + massL F.A + F.tx.length + massK (F.K ++ [x]) + massS S ≤ n
      have e : massS (F :: S) = F.mass + massS S := rfl
      have e2 : F.mass = (bl F.nm).length + massL F.A + F.tx.length + massK F.K := rfl
      rw [massK_app, massK, massK]
      omega
/-- What a tag says. -/
structure TagG (p : Pc) : Prop where
  lets : ∀ x ∈ p.attrs, Lets x.2 ∧ x.2.length ≤ 706
  pair : p.attrs.Pairwise (fun x y => (x.1 == y.1) = false)
  few : p.attrs.length ≤ 15
theorem told_no {n : ByteArray} (h : (tellS n).2 = false) : ¬ n = bXmlns := fun e => by
  rw [e] at h; exact absurd h (by decide +kernel)
theorem enter_g2 {p : Pc} {d : Nat} {L : List Tell} {c : Nat} (hp : TagG p) (hL : TellsOk L) {E : Fr × List Tell} (h : enterR p d L c = .ok E) : FrG E.1 ∧ E.1.K = [] ∧ E.1.tx = [] ∧ E.1.L = L ∧ TellsOk E.2 ∧ E.1.mass ≤ p.name.length + massA p.attrs := by
  unfold enterR at h
  by_cases hc : c < 2000
  · rw [if_pos hc] at h
    by_cases hd : d < 32
    · rw [if_pos hd] at h
      unfold enterC at h
      by_cases h0 : (enterL (d + 1) (toAtt p.attrs) [] L).2.1 = 0
      · rw [if_pos h0] at h
        have hA : ∀ a ∈ toAtt p.attrs, SpOk a.2 := fun a ha => by
          obtain ⟨x, hx, rfl⟩ := List.mem_map.1 ha
          have := hp.lets x hx
          exact ⟨by show Lets (bl (str _)); rw [str_bl]; exact this.1, by show (bl (str _)).length ≤ _; rw [str_bl]; exact this.2⟩
        obtain ⟨B, e, hs, hB, ht⟩ := enterL_sub (d + 1) (toAtt p.attrs) [] L h0 hL hA
        rw [List.nil_append] at e
        by_cases h1 : (nameSp (enterL (d + 1) (toAtt p.attrs) [] L).2.2 (str p.name)).2.2 = true
        · rw [if_pos h1] at h
          have hN := nameSp_ok ht h1
          by_cases h2 : attsOk (enterL (d + 1) (toAtt p.attrs) [] L).1 = true
          · rw [if_pos h2] at h
            injection h with h
            subst h
            rw [e] at h2
            have hat : ∀ a ∈ B, nameL (bl a.1) = true := fun a ha => List.all_eq_true.1 h2 a ha
            have hpw : (toAtt p.attrs).Pairwise (fun x y => (bl x.1 == bl y.1) = false) := by
              unfold toAtt
              refine List.pairwise_map.2 (hp.pair.imp fun {x y} h => ?_)
              rw [str_bl, str_bl]; exact h
            have hlen : B.length ≤ p.attrs.length := by
              have := hs.length_le
              unfold toAtt at this
              rwa [List.length_map] at this
            have hfew := hp.few
            have hms := massL_sub hs
            rw [massL_to] at hms
            refine ⟨⟨hN.2.1, hN.1, ?_, ?_, ?_, (fun _ h => by cases h), Lets.nil, hL⟩, rfl, rfl, rfl, ht, ?_⟩
            · show ∀ a ∈ (enterL (d + 1) (toAtt p.attrs) [] L).1, GA a
              rw [e]
              exact fun a ha => ⟨hat a ha, told_no (hB a ha), (hA a (hs.subset ha)).1⟩
            · show (enterL (d + 1) (toAtt p.attrs) [] L).1.Pairwise _
              rw [e]; exact hpw.sublist hs
            · show (enterL (d + 1) (toAtt p.attrs) [] L).1.length ≤ 15
              rw [e]; omega
            · show (bl (nameSp (enterL (d + 1) (toAtt p.attrs) [] L).2.2 (str p.name)).2.1).length + massL (enterL (d + 1) (toAtt p.attrs) [] L).1 + 0 + massK [] ≤ _
              rw [e, massK]
              have h9 := hN.2.2
              rw [str_bl] at h9
              omega
          · rw [if_neg h2] at h; cases h
        · rw [if_neg h1] at h; cases h
      · rw [if_neg h0] at h; cases h
    · rw [if_neg hd] at h; cases h
  · rw [if_neg hc] at h; cases h
theorem opn_g {p : Pc} {S : List Fr} {L : List Tell} {c n : Nat} (hp : TagG p) (hS : ∀ G ∈ S, FrG G) (hL : TellsOk L) (hn : p.name.length + massA p.attrs + massS S ≤ n) : GR n (opn p S L c) := by
  unfold opn
  cases hr : enterR p S.length L c with
  | bad e a => trivial
  | ok E =>
    obtain ⟨hF, hK, htx, _, hT, hm⟩ := enter_g2 hp hL hr
    show GR n (if p.kind = 1 then _ else _)
    by_cases hk : p.kind = 1
    · rw [if_pos hk]
      exact ⟨⟨⟨hF, hS⟩, hT⟩, by show E.1.mass + massS S ≤ n; omega⟩
    · rw [if_neg hk]
      refine give_g (.mk _ _ _ _ [] hF.nm hF.sp ?_ ?_ hF.atts hF.pair hF.few (.inl rfl) (fun _ h => by cases h)) hS hL ?_
      · rw [str_bl]; exact Lets.nil
      · rw [str_bl]; decide
      · have e2 : E.1.mass = (bl E.1.nm).length + massL E.1.A + E.1.tx.length + massK E.1.K := rfl
        rw [Nd.mass, str_bl, massK]
        simp only [List.length_nil]
        omega
theorem step_g {p : Pc} {m : Mach} {n : Nat} (hm : MG m) (ho : opens p → TagG p) (ht : ¬ opens p → Lets p.text) (hn : massM m + (if opens p then p.name.length + massA p.attrs else p.text.length) ≤ n) : GR n (step p m) := by
  obtain ⟨ph, L, c⟩ := m
  cases ph with
  | before =>
    show GR n (if blankP p then _ else if opens p then _ else _)
    by_cases hb : blankP p
    · rw [if_pos hb]; exact ⟨hm, Nat.zero_le _⟩
    rw [if_neg hb]
    by_cases hop : opens p
    · rw [if_pos hop] at hn ⊢
      exact opn_g (S := []) (ho hop) (fun _ h => by cases h) hm (by show _ + 0 ≤ n; omega)
    · rw [if_neg hop]; trivial
  | behind x =>
    show GR n (if blankP p then _ else _)
    by_cases hb : blankP p
    · rw [if_pos hb]; exact ⟨hm, by have : massM (.behind x, L, c) ≤ n := by omega
                                    exact this⟩
    · rw [if_neg hb]; trivial
  | inside F S =>
    rw [step_in]
    obtain ⟨⟨hF, hS⟩, hL⟩ := hm
    have hFS : ∀ G ∈ F :: S, FrG G := fun G hG => by
      rcases List.mem_cons.1 hG with rfl | h
      · exact hF
      · exact hS G h
    have e0 : massM (.inside F S, L, c) = F.mass + massS S := rfl
    have e1 : F.mass = (bl F.nm).length + massL F.A + F.tx.length + massK F.K := rfl
    by_cases h2 : p.kind = 2
    · rw [if_pos h2]
      by_cases htg : p.name = F.tag
      · rw [if_pos htg]
        unfold shut
        by_cases hs : trimL F.tx = [] ∨ F.K = []
        · rw [if_pos hs]
          have hl := trimL_len F.tx
          refine give_g (.mk _ _ _ _ _ hF.nm hF.sp ?_ ?_ hF.atts hF.pair hF.few ?_ hF.kids) hS hF.told ?_
          · rw [str_bl]; exact trim_lets hF.tx
          · rw [str_bl]; exact trim_trim _
          · rw [str_bl]; exact hs.symm
          · rw [Nd.mass, str_bl]
            omega
        · rw [if_neg hs]; trivial
      · rw [if_neg htg]; trivial
    rw [if_neg h2]
    by_cases hop : opens p
    · rw [if_pos hop] at hn ⊢
      exact opn_g (S := F :: S) (ho hop) hFS hL (by show _ + (F.mass + massS S) ≤ n; omega)
    · rw [if_neg hop] at hn ⊢
      refine ⟨⟨⟨⟨hF.nm, hF.sp, hF.atts, hF.pair, hF.few, hF.kids, hF.tx.append (ht hop), hF.told⟩, hS⟩, hL⟩, ?_⟩
      show (bl F.nm).length + massL F.A + (F.tx ++ p.text).length + massK F.K + massS S ≤ n
      rw [List.length_append]
      omega
/-- A text's tags say little. -/
def FewT (D : List UInt8) : Prop := ∀ (c : Nat) (w e r : List UInt8), D.drop c = 60 :: (w ++ (e ++ r)) → (e = [62] ∨ e = [47, 62]) → qOk 0 w = true → qEnd 0 w = 0 → qNum 0 w ≤ 15 ∧ w.length ≤ 706
theorem massA_mem : ∀ {A : List (List UInt8 × List UInt8)} {x : List UInt8 × List UInt8}, x ∈ A → x.2.length ≤ massA A
  | [], _, h => by cases h
  | a :: A, x, h => by
    rw [massA]
    rcases List.mem_cons.1 h with rfl | h
    · omega
    · have := massA_mem h; omega
theorem OpG.tag {D : List UInt8} {p : Pc} {a b : Nat} (h : OpG D p a b) (hD : FewT D) : TagG p ∧ a + (p.name.length + massA p.attrs) ≤ D.length - (D.length - b) ∨ b > D.length := by
  obtain ⟨c, w, e, hc, hd, he, h1, h2, h3, h4⟩ := h.bytes
  have hf := hD c w e _ hd he h1 h2
  by_cases hb : b ≤ D.length
  · left
    refine ⟨⟨fun x hx => ⟨h.lets x hx, ?_⟩, h.pair, by omega⟩, ?_⟩
    · have := massA_mem hx; omega
    · have hl := congrArg List.length hd
      simp only [List.length_cons, List.length_append, List.length_drop] at hl
      omega
  · exact .inr (by omega)
/-- What is read of such a text. -/
theorem run_g (D : List UInt8) (hD : FewT D) : ∀ (k : Nat) (σ : St) (m : Mach) (x : Nd), D.length - σ.pos < k → Scn D.length σ → MG m → massM m ≤ σ.pos → runAt D σ m = .ok x → GN x ∧ x.mass ≤ D.length
  | 0, _, _, _, h, _, _, _, _ => absurd h (Nat.not_lt_zero _)
  | k + 1, σ, m, x, hk, hs, hm, hn, hx => by
    have hsn := next_scn D σ hs
    by_cases h0 : (nextS D σ).err = 0
    · by_cases h1 : (nextP D σ).kind = 0
      · unfold runAt at hx
        rw [toks_fin h0 h1] at hx
        obtain ⟨ph, L, c⟩ := m
        cases ph with
        | before => cases hx
        | inside F S => cases hx
        | behind y =>
          injection hx with hx
          subst hx
          exact ⟨hm, Nat.le_trans (show y.mass ≤ σ.pos from hn) hs.pos⟩
      · rw [runAt_pc hs h0 h1] at hx
        have hp := hsn.2.2 h1
        have hpos := hsn.1.pos
        have hle := next_pos hs h0
        have hst : GR (nextS D σ).pos (step (nextP D σ) m) := by
          refine step_g hm (fun ho => ?_) (fun ho => (next_lets hs h0 ho).1) ?_
          · rcases (next_open hs h0 ho).tag hD with h | h
            · exact h.1
            · omega
          · by_cases ho : opens (nextP D σ)
            · rw [if_pos ho]
              rcases (next_open hs h0 ho).tag hD with h | h
              · have := h.2; omega
              · omega
            · rw [if_neg ho]
              have := (next_lets hs h0 ho).2
              omega
        cases hr : step (nextP D σ) m with
        | bad e a => rw [hr] at hx; cases hx
        | ok m' =>
          rw [hr] at hst hx
          exact run_g D hD k (nextS D σ) m' x (by omega) hsn.1 hst.1 hst.2 hx
    · rw [runAt_bad h0] at hx; cases hx
theorem parse_g {D : List UInt8} (hD : FewT D) {x : Nd} (h : parseL D = .ok x) : GN x ∧ x.mass ≤ D.length :=
  run_g D hD (D.length + 1) (newS D) (.before, tells0, 0) x (by omega) (new_scn D) tells0_ok (Nat.zero_le _) h

end Go.Proofs.YtnlkpdodacphkaaGreatDoor
namespace Go.Proofs.YtnlkpdodacphkaaGreatDoor
open Go Go.RowKit Go.Lib
set_option maxRecDepth 100000

theorem suf_app {a c P : List UInt8} (h : P <:+ a ++ c) : P <:+ c ∨ ∃ P1, P1 <:+ a ∧ P = P1 ++ c := by
  obtain ⟨T, hT⟩ := h
  rcases List.append_eq_append_iff.1 hT with ⟨d, h1, h2⟩ | ⟨d, h1, h2⟩
  · exact .inr ⟨d, ⟨T, h1.symm⟩, h2⟩
  · exact .inl ⟨d, h2.symm⟩

/-! ### attributes -/
theorem atsT_cons (a : List UInt8 × List UInt8) (A : List (List UInt8 × List UInt8)) : atsT [32] (a :: A) = (((32 :: a.1) ++ [61]) ++ 34 :: (closeL a.2 ++ [34])) ++ atsT [32] A := by
  unfold atsT
  rw [List.flatMap_cons]
  unfold atT
  simp
theorem noq_name {n : List UInt8} (h : NoQ n) : NoQ ((32 :: n) ++ [61]) := by
  intro c hc
  rcases List.mem_append.1 hc with hc | hc
  · rcases List.mem_cons.1 hc with rfl | hc
    · decide
    · exact h c hc
  · rw [List.mem_singleton.1 hc]; decide
theorem v_no (v : List UInt8) : ∀ c ∈ closeL v, c ≠ 34 := fun c hc => (closeL_no v c hc).2
theorem ats_fwd : ∀ A : List (List UInt8 × List UInt8), (∀ a ∈ A, NoQ a.1) → qEnd 0 (atsT [32] A) = 0 ∧ qNum 0 (atsT [32] A) = A.length
  | [], _ => ⟨rfl, rfl⟩
  | a :: A, h => by
    have h1 := att_fwd (noq_name (h a (List.mem_cons_self ..))) (v_no a.2)
    have ih := ats_fwd A fun x hx => h x (List.mem_cons_of_mem _ hx)
    rw [atsT_cons, qEnd_app, qNum_app, h1.1, h1.2]
    exact ⟨ih.1, by rw [ih.2, List.length_cons]; omega⟩
theorem ats_back : ∀ (A : List (List UInt8 × List UInt8)), (∀ a ∈ A, NoQ a.1) → ∀ q : UInt8, (q = 0 ∨ q = 34 ∨ q = 39) → qEnd q (atsT [32] A) = 0 → q = 0
  | [], _, _, _, h => h
  | a :: A, h, q, hq, he => by
    rw [atsT_cons, qEnd_app] at he
    have ih := ats_back A (fun x hx => h x (List.mem_cons_of_mem _ hx)) _ (qEnd_or _ q hq) he
    exact att_back (noq_name (h a (List.mem_cons_self ..))) (v_no a.2) hq ih
theorem ats_end : ∀ (A : List (List UInt8 × List UInt8)), (∀ a ∈ A, NoQ a.1) → ∀ (P : List UInt8) (q : UInt8), P <:+ atsT [32] A → (q = 0 ∨ q = 34 ∨ q = 39) → qEnd q P = 0 → qNum q P ≤ A.length
  | [], _, P, q, hP, _, _ => by
    obtain rfl : P = [] := List.eq_nil_of_suffix_nil hP
    exact Nat.le_refl _
  | a :: A, h, P, q, hP, hq, he => by
    have hA : ∀ x ∈ A, NoQ x.1 := fun x hx => h x (List.mem_cons_of_mem _ hx)
    rw [atsT_cons] at hP
    rcases suf_app hP with hP | ⟨P1, h1, rfl⟩
    · have := ats_end A hA P q hP hq he
      rw [List.length_cons]; omega
    · rw [qEnd_app] at he
      have h0 := ats_back A hA _ (qEnd_or _ q hq) he
      have h2 := att_end (noq_name (h a (List.mem_cons_self ..))) (v_no a.2) h1 hq h0
      rw [qNum_app, h0, (ats_fwd A hA).2, List.length_cons]
      omega

/-! ### a tag's bytes -/
structure Bd (b : List UInt8) : Prop where
  no : ∀ c ∈ b, c ≠ 60 ∧ c ≠ 62
  len : b.length ≤ 300
  out : qEnd 0 b = 0
  few : qNum 0 b ≤ 4
  back : ∀ (P : List UInt8) (q : UInt8), P <:+ b → (q = 0 ∨ q = 34 ∨ q = 39) → qEnd q P = 0 → qNum q P ≤ 4
theorem noq_suf {b P : List UInt8} (h : NoQ b) (hP : P <:+ b) : NoQ P := fun c hc => h c (hP.subset hc)
theorem bd_plain {b : List UInt8} (h : NoQ b) (hn : ∀ c ∈ b, c ≠ 60 ∧ c ≠ 62) (hl : b.length ≤ 300) : Bd b where
  no := hn
  len := hl
  out := (plain_run b 0 (.inl rfl) h).1
  few := by rw [(plain_run b 0 (.inl rfl) h).2]; decide
  back := fun P q hP hq _ => by rw [(plain_run P q hq (noq_suf h hP)).2]; decide
theorem bd_ats {n tl : List UInt8} {A : List (List UInt8 × List UInt8)} (hA : ∀ a ∈ A, NoQ a.1) (hA2 : ∀ c ∈ atsT [32] A, c ≠ 60 ∧ c ≠ 62) (hAl : A.length ≤ 4) (hn : NoQ n) (hn2 : ∀ c ∈ n, c ≠ 60 ∧ c ≠ 62)
    (ht : NoQ tl) (ht2 : ∀ c ∈ tl, c ≠ 60 ∧ c ≠ 62) (hl : (n ++ (atsT [32] A ++ tl)).length ≤ 300) : Bd (n ++ (atsT [32] A ++ tl)) where
  no := fun c hc => by
    rcases List.mem_append.1 hc with h | h
    · exact hn2 c h
    · rcases List.mem_append.1 h with h | h
      · exact hA2 c h
      · exact ht2 c h
  len := hl
  out := by rw [qEnd_app, (plain_run n 0 (.inl rfl) hn).1, qEnd_app, (ats_fwd A hA).1, (plain_run tl 0 (.inl rfl) ht).1]
  few := by
    rw [qNum_app, (plain_run n 0 (.inl rfl) hn).1, (plain_run n 0 (.inl rfl) hn).2, qNum_app, (ats_fwd A hA).1, (ats_fwd A hA).2, (plain_run tl 0 (.inl rfl) ht).2]
    omega
  back := fun P q hP hq he => by
    rcases suf_app hP with h | ⟨P1, h1, rfl⟩
    · rcases suf_app h with h | ⟨P2, h2, rfl⟩
      · rw [(plain_run P q hq (noq_suf ht h)).2]; decide
      · rw [qEnd_app, (plain_run tl _ (qEnd_or _ q hq) ht).1] at he
        have := ats_end A hA P2 q h2 hq he
        rw [qNum_app, (plain_run tl _ (qEnd_or _ q hq) ht).2]
        omega
    · have hp := plain_run P1 q hq (noq_suf hn h1)
      rw [qEnd_app, hp.1, qEnd_app, (plain_run tl _ (qEnd_or _ q hq) ht).1] at he
      have h0 := ats_back A hA q hq he
      subst h0
      rw [qNum_app, hp.1, hp.2, qNum_app, (ats_fwd A hA).1, (ats_fwd A hA).2, (plain_run tl 0 (.inl rfl) ht).2]
      omega

/-! ### tags, and what is between them -/
def Fl (f : List UInt8) : Prop := ∀ c ∈ f, c ≠ 60 ∧ c ≠ 62
inductive Chs : List UInt8 → Prop where
  | nil : Chs []
  | cons (b f r : List UInt8) (hb : Bd b) (hf : Fl f) (hr : Chs r) : Chs (60 :: ((b ++ 62 :: f) ++ r))
theorem Chs.head {r : List UInt8} (h : Chs r) : r = [] ∨ ∃ r', r = 60 :: r' := by
  cases h with
  | nil => exact .inl rfl
  | cons b f r _ _ _ => exact .inr ⟨_, rfl⟩
theorem run_no {b f : List UInt8} (hb : Bd b) (hf : Fl f) : ∀ c ∈ b ++ 62 :: f, c ≠ 60 := fun c hc => by
  rcases List.mem_append.1 hc with h | h
  · exact (hb.no c h).1
  · rcases List.mem_cons.1 h with rfl | h
    · decide
    · exact (hf c h).1
theorem uniq62 : ∀ (b y f d : List UInt8), (∀ c ∈ b, c ≠ 62) → (∀ c ∈ f, c ≠ 62) → b ++ 62 :: f = y ++ 62 :: d → b = y
  | [], [], _, _, _, _, _ => rfl
  | [], c :: y, f, d, _, hf, h => by
    have h2 : f = y ++ 62 :: d := (List.cons.inj h).2
    exact absurd rfl (hf 62 (by rw [h2]; simp))
  | c :: b, [], f, d, hb, _, h => absurd (List.cons.inj h).1 (hb c (List.mem_cons_self ..))
  | c :: b, e :: y, f, d, hb, hf, h => by
    have h1 := List.cons.inj h
    rw [h1.1, uniq62 b y f d (fun x hx => hb x (List.mem_cons_of_mem _ hx)) hf h1.2]
/-- What begins in a tag's row of bytes without a <. -/
theorem row_pre {X r v z : List UInt8} (hr : r = [] ∨ ∃ r', r = 60 :: r') (hv : ∀ c ∈ v, c ≠ 60) (h : X ++ r = v ++ z) : ∃ d, X = v ++ d := by
  rcases List.append_eq_append_iff.1 h with ⟨d, h1, h2⟩ | ⟨d, h1, h2⟩
  · cases d with
    | nil => exact ⟨[], by rw [h1]; simp⟩
    | cons x d =>
      rcases hr with rfl | ⟨r', rfl⟩
      · cases h2
      · have : x = 60 := (List.cons.inj h2).1.symm
        exact absurd this (hv x (by rw [h1]; simp))
  · exact ⟨d, h1⟩
theorem no_62 {b : List UInt8} (hb : Bd b) {w d f : List UInt8} (hw : qOk 0 w = true) (h : b ++ 62 :: f = w ++ d) : ∃ e, b = w ++ e := by
  rcases List.append_eq_append_iff.1 h with ⟨y, h1, h2⟩ | ⟨y, h1, h2⟩
  · cases y with
    | nil => exact ⟨[], by rw [h1]; simp⟩
    | cons x y =>
      exfalso
      obtain rfl : x = 62 := (List.cons.inj h2).1.symm
      rw [h1, qOk_app, hb.out] at hw
      have : qOk 0 (62 :: y) = false := by unfold qOk; rfl
      rw [this, Bool.and_false] at hw
      exact absurd hw (by decide)
  · exact ⟨y, h1⟩
/-- From a < on. -/
theorem chs_fwd {t : List UInt8} (h : Chs t) : ∀ (c : Nat) (w r : List UInt8), t.drop c = 60 :: (w ++ r) → qOk 0 w = true → qNum 0 w ≤ 4 ∧ w.length ≤ 300 := by
  induction h with
  | nil => intro c w r hd; rw [List.drop_nil] at hd; cases hd
  | cons b f rest hb hf hr ih =>
    intro c w r hd hw
    cases c with
    | zero =>
      rw [List.drop_zero] at hd
      have h1 : (b ++ 62 :: f) ++ rest = w ++ r := (List.cons.inj hd).2
      obtain ⟨d, h2⟩ := row_pre hr.head (qOk_60 w 0 hw) h1
      obtain ⟨e, h3⟩ := no_62 hb hw h2
      have h4 := hb.few
      have h5 := hb.len
      rw [h3, qNum_app] at h4
      rw [h3, List.length_append] at h5
      omega
    | succ c =>
      rw [List.drop_succ_cons, List.drop_append] at hd
      cases hx : (b ++ 62 :: f).drop c with
      | nil =>
        rw [hx, List.nil_append] at hd
        exact ih _ w r hd hw
      | cons x y =>
        rw [hx] at hd
        have e : x = 60 := (List.cons.inj hd).1
        have hm : x ∈ (b ++ 62 :: f).drop c := by rw [hx]; exact List.mem_cons_self ..
        exact absurd e (run_no hb hf x (List.mem_of_mem_drop hm))
/-- From anywhere, up to a >. -/
theorem chs_mid {t : List UInt8} (h : Chs t) : ∀ (c : Nat) (w e r : List UInt8) (q : UInt8), t.drop c = w ++ (e ++ r) → (∀ x ∈ w, x ≠ 60) → (e = [62] ∨ e = [47, 62]) → (q = 0 ∨ q = 34 ∨ q = 39) → qEnd q w = 0 → qNum q w ≤ 4 ∧ w.length ≤ 300 := by
  induction h with
  | nil => intro c w e r q hd _ he; rw [List.drop_nil] at hd; rcases he with rfl | rfl <;> simp at hd
  | cons b f rest hb hf hr ih =>
    intro c w e r q hd hw he hq hend
    have he60 : ∀ x ∈ e, x ≠ 60 := by rcases he with rfl | rfl <;> decide
    have hwe : ∀ x ∈ w ++ e, x ≠ 60 := fun x hx => by
      rcases List.mem_append.1 hx with h | h
      · exact hw x h
      · exact he60 x h
    cases c with
    | zero =>
      rw [List.drop_zero] at hd
      cases w with
      | nil => exact ⟨Nat.zero_le _, Nat.zero_le _⟩
      | cons x w => exact absurd (List.cons.inj hd).1.symm (hw x (List.mem_cons_self ..))
    | succ c =>
      rw [List.drop_succ_cons, List.drop_append] at hd
      by_cases hc : c < (b ++ 62 :: f).length
      · have e0 : c - (b ++ 62 :: f).length = 0 := by omega
        rw [e0, List.drop_zero, ← List.append_assoc w e r] at hd
        obtain ⟨d, h2⟩ := row_pre hr.head hwe hd
        have h3 : b ++ 62 :: f = (b ++ 62 :: f).take c ++ ((w ++ e) ++ d) := by rw [← h2, List.take_append_drop]
        have hb62 : ∀ x ∈ b, x ≠ 62 := fun x hx => (hb.no x hx).2
        have hf62 : ∀ x ∈ f, x ≠ 62 := fun x hx => (hf x hx).2
        rcases he with rfl | rfl
        · have h4 : b = (b ++ 62 :: f).take c ++ w := uniq62 b _ f d hb62 hf62 (h3.trans (by simp))
          have hs : w <:+ b := ⟨_, h4.symm⟩
          exact ⟨hb.back w q hs hq hend, Nat.le_trans hs.length_le hb.len⟩
        · have h4 : b = (b ++ 62 :: f).take c ++ (w ++ [47]) := uniq62 b _ f d hb62 hf62 (h3.trans (by simp))
          have hs : w ++ [47] <:+ b := ⟨_, h4.symm⟩
          have hp := plain_run [47] (qEnd q w) (qEnd_or w q hq) (by intro c hc; rw [List.mem_singleton.1 hc]; decide)
          have h5 := hb.back (w ++ [47]) q hs hq (by rw [qEnd_app, hp.1]; exact hend)
          have h6 := Nat.le_trans hs.length_le hb.len
          rw [qNum_app] at h5
          rw [List.length_append] at h6
          omega
      · have e0 : (b ++ 62 :: f).drop c = [] := List.drop_eq_nil_of_le (by omega)
        rw [e0, List.nil_append] at hd
        exact ih _ w e r q hd hw he hq hend

/-! ### cut, and put together with six bytes between -/
theorem few_tail {t I w e r : List UInt8} (h : Chs t) (m : Nat) (hI : I.length ≤ 6) (hd : I ++ t.drop m = w ++ (e ++ r)) (he : e = [62] ∨ e = [47, 62]) {q : UInt8} (hq : q = 0 ∨ q = 34 ∨ q = 39) (hw : ∀ x ∈ w, x ≠ 60) (hend : qEnd q w = 0) :
    qNum q w ≤ 10 ∧ w.length ≤ 306 := by
  rcases List.append_eq_append_iff.1 hd with ⟨d, h1, h2⟩ | ⟨d, h1, h2⟩
  · have hd60 : ∀ x ∈ d, x ≠ 60 := fun x hx => hw x (by rw [h1]; exact List.mem_append_right _ hx)
    rw [h1, qEnd_app] at hend
    have h3 := chs_mid h m d e r (qEnd q I) h2 hd60 he (qEnd_or I q hq) hend
    have h4 := qNum_le I q
    rw [h1, qNum_app, List.length_append]
    omega
  · have h3 := qNum_le w q
    have h4 : w.length ≤ I.length := by rw [h1, List.length_append]; omega
    omega
theorem few_cut {t I : List UInt8} (h : Chs t) (k m : Nat) (hI : I.length ≤ 6) : FewT (t.take k ++ (I ++ t.drop m)) := by
  intro c w e r hd he hok hend
  have hw60 := qOk_60 w 0 hok
  rw [List.drop_append] at hd
  cases hx : (t.take k).drop c with
  | nil =>
    rw [hx, List.nil_append, List.drop_append] at hd
    generalize c - (t.take k).length = j at hd
    cases hy : I.drop j with
    | nil =>
      rw [hy, List.nil_append, List.drop_drop] at hd
      have := chs_fwd h _ w _ hd hok
      omega
    | cons x I' =>
      have hjl : j < I.length := by
        rcases Nat.lt_or_ge j I.length with h | h
        · exact h
        · rw [List.drop_eq_nil_of_le h] at hy; cases hy
      have e0 : j - I.length = 0 := by omega
      rw [hy, e0, List.drop_zero] at hd
      have hd2 : I' ++ t.drop m = w ++ (e ++ r) := (List.cons.inj hd).2
      have hl := congrArg List.length hy
      rw [List.length_drop, List.length_cons] at hl
      have := few_tail h m (by omega : I'.length ≤ 6) hd2 he (.inl rfl) hw60 hend
      omega
  | cons x P' =>
    have hcl : c < (t.take k).length := by
      rcases Nat.lt_or_ge c (t.take k).length with h | h
      · exact h
      · rw [List.drop_eq_nil_of_le h] at hx; cases hx
    have e0 : c - (t.take k).length = 0 := by omega
    rw [hx, e0, List.drop_zero] at hd
    obtain rfl : x = 60 := (List.cons.inj hd).1
    have hd2 : P' ++ (I ++ t.drop m) = w ++ (e ++ r) := (List.cons.inj hd).2
    have hck : c ≤ k := by rw [List.length_take] at hcl; omega
    have ht : t.drop c = 60 :: (P' ++ t.drop k) := by
      have h1 : t.drop c = (t.take k).drop c ++ t.drop k := by
        conv => lhs; rw [← List.take_append_drop k t]
        rw [List.drop_append, e0, List.drop_zero]
      rw [h1, hx]; rfl
    rcases List.append_eq_append_iff.1 hd2 with ⟨d, h1, h2⟩ | ⟨d, h1, h2⟩
    · rw [h1, qOk_app, Bool.and_eq_true] at hok
      have h3 := chs_fwd h c P' _ ht hok.1
      rw [h1, qEnd_app] at hend
      have h4 := few_tail h m hI h2 he (qEnd_or P' 0 (.inl rfl)) (fun x hx => hw60 x (by rw [h1]; exact List.mem_append_right _ hx)) hend
      rw [h1, qNum_app, List.length_append]
      omega
    · have h3 := chs_fwd h c w (d ++ t.drop k) (by rw [ht, h1]; simp) hok
      omega

end Go.Proofs.YtnlkpdodacphkaaGreatDoor
