/-
  What holds of a scanner's pieces, whatever the text: they come in order, and to an end. No program in this text.
-/
import Derived.Test.YtekmenkebokdoaaGreatDoorScanMath
import Derived.KernelRfl
namespace Go.Proofs.YtekmenkebokdoaaGreatDoor
open Go.Lib

theorem pass_fine (b e : List UInt8) (may : List UInt8 → Bool) (D : List UInt8) (σ : St) (h : Fine D.length σ) (hb : σ.pos + b.length ≤ D.length) : Fine D.length (passS b e may D σ) ∧ σ.pos ≤ (passS b e may D σ).pos := by
  unfold passS
  have hp := h.pos
  by_cases hc : (passC b e D σ).2.2 = true ∧ may (passC b e D σ).1 = true
  · rw [if_pos hc]
    have hY : (passC b e D σ).2.1.length ≤ D.length - (σ.pos + b.length) := by
      unfold passC Lib.cut
      split
      · simp only [List.length_drop]; omega
      · simp
    refine ⟨h.go _ (by omega), ?_⟩
    show _ ≤ D.length - _
    omega
  · rw [if_neg hc]
    exact ⟨h.wrong _ _ (.inl rfl) (by omega) (by omega), by rw [wrong_pos]; exact Nat.le_refl _⟩
theorem passF_fine (D : List UInt8) : ∀ (f : Nat) (σ : St), Fine D.length σ → Fine D.length (passF f D σ) ∧ σ.pos ≤ (passF f D σ).pos
  | 0, σ, h => ⟨h, Nat.le_refl _⟩
  | f + 1, σ, h => by
    unfold passF
    split
    · split
      · rename_i hs
        have h1 := pass_fine bCom eCom mayC D σ h (stands_len hs (by decide))
        have h2 := passF_fine D f _ h1.1
        exact ⟨h2.1, by omega⟩
      · split
        · rename_i hs
          have h1 := pass_fine bHint eHint mayH D σ h (stands_len hs (by decide))
          have h2 := passF_fine D f _ h1.1
          exact ⟨h2.1, by omega⟩
        · exact ⟨h, Nat.le_refl _⟩
    · exact ⟨h, Nat.le_refl _⟩
theorem opening_end : ∀ (f : Nat) (D n : List UInt8) (al : List (List UInt8 × List UInt8)) (σ : St), 1 ≤ f → (σ.err = 0 → 18 ≤ f + al.length) → al.length ≤ 16 → (openF_ f D n al σ).1.kind = 0 → (openF_ f D n al σ).2.err ≠ 0
  | 0, _, _, _, _, h, _, _, _ => absurd h (by decide)
  | f + 1, D, n, al, σ, _, hm, hl, hk => by
    unfold openF_ at hk ⊢
    by_cases he : σ.err = 0
    · rw [if_pos he] at hk ⊢
      have hm := hm he
      by_cases h1 : standsS [62] D (whileS bb D σ) = true
      · rw [if_pos h1] at hk; exact absurd hk (show ¬ (1 : Int) = 0 by decide)
      rw [if_neg h1] at hk ⊢
      by_cases h2 : standsS [47, 62] D (whileS bb D σ) = true
      · rw [if_pos h2] at hk; exact absurd hk (show ¬ (3 : Int) = 0 by decide)
      rw [if_neg h2] at hk ⊢
      by_cases h3 : runW bb D σ = [] ∨ al.length = 16
      · rw [if_pos h3] at hk ⊢
        exact opening_end f D n al _ (by omega) (fun h => absurd h (wrong_err _ _ _ (by decide))) hl hk
      · rw [if_neg h3] at hk ⊢
        have hl' : al.length < 16 := by
          have : al.length ≠ 16 := fun h => h3 (.inr h)
          omega
        exact opening_end f D n _ _ (by omega) (fun _ => by rw [List.length_append]; simp; omega) (by rw [List.length_append]; simp; omega) hk
    · rw [if_neg he]; exact he
theorem while_some (D : List UInt8) (σ : St) (hin : σ.pos < D.length) (h : standsS [60] D σ = false) : 1 ≤ (runW tb D σ).length := by
  unfold runW
  unfold standsS at h
  rw [List.drop_eq_getElem_cons hin] at h ⊢
  have hne : ¬ (60 = D[σ.pos]) := by
    intro e
    rw [← e] at h
    simp [List.isPrefixOf] at h
  rw [List.takeWhile_cons]
  have : tb D[σ.pos] = true := by unfold tb; simp; exact fun e => hne e.symm
  rw [if_pos this]
  simp
theorem skip_stands {p D : List UInt8} {σ : St} (h : standsS p D σ = true) : skipS p D σ = go_ σ (σ.pos + p.length) := by unfold skipS; rw [if_pos h]
theorem piece_fine (D : List UInt8) (σ : St) (h : Fine D.length σ) (hin : σ.pos < D.length) :
    Fine D.length (pieceS D σ).2 ∧ σ.pos < (pieceS D σ).2.pos ∧ ((pieceS D σ).1.kind = 0 → (pieceS D σ).2.err ≠ 0) ∧ (pieceS D σ).1.at_ = σ.pos := by
  have key : Fine D.length (pieceR D σ).2 ∧ σ.pos < (pieceR D σ).2.pos ∧ ((pieceR D σ).1.kind = 0 → (pieceR D σ).2.err ≠ 0) := by
    unfold pieceR
    by_cases h1 : standsS bRaw D σ = true
    · rw [if_pos h1, skip_stands h1]
      have hb : bRaw.length = 9 := rfl
      have hl := stands_len h1 (by decide)
      rw [hb] at hl ⊢
      have hf := h.go (σ.pos + 9) hl
      have hX : (rawC D (go_ σ (σ.pos + 9))).1.length ≤ D.length - (σ.pos + 9) ∧ (rawC D (go_ σ (σ.pos + 9))).2.1.length ≤ D.length - (σ.pos + 9) := by
        unfold rawC Lib.cut
        show _ ≤ _ ∧ _ ≤ _
        split
        · simp only [List.length_take, List.length_drop]; simp [go_]; omega
        · simp [go_]
      have hf2 : Fine D.length (if (rawC D (go_ σ (σ.pos + 9))).2.2 = true then go_ σ (σ.pos + 9) else wrongS 3 (go_ σ (σ.pos + 9)).pos (go_ σ (σ.pos + 9))) := by
        split
        · exact hf
        · exact hf.wrong _ _ (.inl rfl) (by show (0 : Int) ≤ ((σ.pos + 9 : Nat) : Int); omega) (by show ((σ.pos + 9 : Nat) : Int) ≤ _; omega)
      have hf3 := hf2.letters (rawC D (go_ σ (σ.pos + 9))).1 (σ.pos + 9) (by omega)
      refine ⟨hf3.go _ (by omega), ?_, fun hk => absurd hk (show ¬ (4 : Int) = 0 by decide)⟩
      show σ.pos < D.length - _
      omega
    rw [if_neg h1]
    by_cases h2 : standsS [60, 47] D σ = true
    · rw [if_pos h2, skip_stands h2]
      have hl := stands_len h2 (by decide)
      have hb : ([60, 47] : List UInt8).length = 2 := rfl
      rw [hb] at hl ⊢
      have hf := h.go (σ.pos + 2) hl
      refine ⟨((hf.name).while_ _).must (by decide), ?_, fun hk => absurd hk (show ¬ (2 : Int) = 0 by decide)⟩
      have h3 := must_pos [62] D (whileS bb D (nameS D (go_ σ (σ.pos + 2))))
      rw [while_pos, name_pos] at h3
      have h4 : (go_ σ (σ.pos + 2)).pos = σ.pos + 2 := rfl
      show σ.pos < (mustS [62] D (whileS bb D (nameS D (go_ σ (σ.pos + 2))))).pos
      omega
    rw [if_neg h2]
    by_cases h3 : standsS [60] D σ = true
    · rw [if_pos h3, skip_stands h3]
      have hl := stands_len h3 (by decide)
      have hb : ([60] : List UInt8).length = 1 := rfl
      rw [hb] at hl ⊢
      have hf := h.go (σ.pos + 1) hl
      have ho := opening_fine 19 D (runW nb D (go_ σ (σ.pos + 1))) [] (nameS D (go_ σ (σ.pos + 1))) hf.name
      refine ⟨ho.1, ?_, fun hk => opening_end 19 D _ [] _ (by decide) (fun _ => by decide) (by decide) hk⟩
      have h4 := ho.2.1
      rw [name_pos] at h4
      have h5 : (go_ σ (σ.pos + 1)).pos = σ.pos + 1 := rfl
      show σ.pos < (openF_ 19 D (runW nb D (go_ σ (σ.pos + 1))) [] (nameS D (go_ σ (σ.pos + 1)))).2.pos
      omega
    rw [if_neg h3]
    have hw := while_some D σ hin (by simpa using h3)
    have hr := run_len tb D σ
    refine ⟨(h.while_ tb).opened _ σ.pos (by omega), ?_, fun hk => absurd hk (show ¬ (4 : Int) = 0 by decide)⟩
    show σ.pos < (openedS _ _ _).pos
    rw [opened_pos, while_pos]
    omega
  exact ⟨key.1, key.2.1, key.2.2, rfl⟩
/-- Fine, or no letters. -/
def Any_ (n : Nat) (σ : St) : Prop := Fine n σ ∨ (σ.err = 2 ∧ σ.pos ≤ n ∧ 0 ≤ σ.wrg ∧ σ.wrg ≤ n)
theorem next_any (D : List UInt8) (σ : St) (h : Any_ D.length σ) : Any_ D.length (nextS D σ) ∧ ((nextP D σ).kind = 0 → (nextS D σ).err = 0 → (nextS D σ).pos = D.length) ∧
    ((nextP D σ).kind ≠ 0 → (σ.pos : Int) ≤ (nextP D σ).at_ ∧ (nextP D σ).at_ < (nextS D σ).pos ∧ (nextP D σ).at_ < D.length) := by
  rcases h with h | ⟨h1, h2, h3, h4⟩
  · have hp := passF_fine D (D.length + 1) σ h
    unfold nextP nextS passAllS
    generalize passF (D.length + 1) D σ = σ1 at hp ⊢
    by_cases hc : σ1.err = 0 ∧ σ1.pos < D.length
    · rw [if_pos hc, if_pos hc]
      have hq := piece_fine D σ1 hp.1 hc.2
      refine ⟨.inl hq.1, fun hk he => ?_, fun hk => ?_⟩
      · rw [if_pos he] at hk
        exact absurd he (hq.2.2.1 hk)
      · by_cases he : (pieceS D σ1).2.err = 0
        · rw [if_pos he, hq.2.2.2]
          have := hq.2.1
          exact ⟨by omega, by omega, by omega⟩
        · rw [if_neg he] at hk; exact absurd rfl hk
    · rw [if_neg hc, if_neg hc]
      refine ⟨.inl hp.1, fun _ he => ?_, fun hk => absurd rfl hk⟩
      have := hp.1.pos
      have : ¬ σ1.pos < D.length := fun h => hc ⟨he, h⟩
      omega
  · have hp : passAllS D σ = σ := by
      unfold passAllS passF
      rw [if_neg (by rw [h1]; decide)]
    have hc : ¬ (σ.err = 0 ∧ σ.pos < D.length) := fun h => by rw [h1] at h; exact absurd h.1 (by decide)
    unfold nextP nextS
    rw [hp, if_neg hc, if_neg hc]
    exact ⟨.inr ⟨h1, h2, h3, h4⟩, fun _ he => absurd he (by rw [h1]; decide), fun hk => absurd rfl hk⟩
theorem new_any (D : List UInt8) (h : D.length ≤ 200000) : Any_ D.length (newS D) ∧ (newS D).pos = 0 := by
  unfold newS
  rw [if_neg (by omega)]
  split
  · rename_i hb
    have : badL D < D.length := by unfold badL at hb ⊢; split <;> rename_i hh; omega; rw [if_neg hh] at hb; omega
    exact ⟨.inr ⟨rfl, Nat.zero_le _, hb, by show badL D ≤ _; omega⟩, rfl⟩
  · exact ⟨.inl ⟨Nat.zero_le _, .inl rfl, Int.le_refl _, by show (0 : Int) ≤ _; omega⟩, rfl⟩
theorem awake_new : newS [60, 97, 32, 98, 61, 39, 99, 39, 47, 62] = ⟨0, 0, 0⟩ := by kernel_rfl
theorem awake_next : nextP [60, 97, 32, 98, 61, 39, 99, 39, 47, 62] ⟨0, 0, 0⟩ = ⟨3, [97], [([98], [99])], [], 0⟩ := by kernel_rfl
theorem awake_st : nextS [60, 97, 32, 98, 61, 39, 99, 39, 47, 62] ⟨0, 0, 0⟩ = ⟨10, 0, 0⟩ := by kernel_rfl

end Go.Proofs.YtekmenkebokdoaaGreatDoor
