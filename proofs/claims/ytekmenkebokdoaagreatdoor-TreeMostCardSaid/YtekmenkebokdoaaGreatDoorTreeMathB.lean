/-
  What holds of pieces, and of what is known, always: how long they are; plain mathematics.
-/
import Derived.Test.YtekmenkebokdoaaGreatDoorTreeMath
namespace Go.Proofs.YtekmenkebokdoaaGreatDoor
open Go.Lib
set_option maxRecDepth 100000

/-! ### Enter -/
theorem knowE_or (L : List Tell) (p s : ByteArray) : knowE L p s = 3 ∨ knowE L p s = 5 ∨ (knowE L p s = 0 ∧ L.length < 100) := by
  unfold knowE
  split
  · exact .inl rfl
  · split
    · exact .inr (.inl rfl)
    · exact .inr (.inr ⟨rfl, by omega⟩)
theorem enterL_grow (d : Nat) : ∀ (A R : List Att) (L : List Tell), (enterL d A R L).2.1 = 0 ∨ (enterL d A R L).2.1 = 3 ∨ (enterL d A R L).2.1 = 5
  | [], R, L => .inl rfl
  | a :: A, R, L => by
    unfold enterL
    split
    · exact enterL_grow d A _ L
    · split
      · exact enterL_grow d A R _
      · rcases knowE_or L (tellS a.1).1 a.2 with h | h | h
        · exact .inr (.inl h)
        · exact .inr (.inr h)
        · rename_i hn; exact absurd h.1 hn
theorem enterL_known (d : Nat) : ∀ (A R : List Att) (L : List Tell), (enterL d A R L).2.1 = 0 → ∃ N, (enterL d A R L).2.2 = L ++ N ∧ (∀ t ∈ N, t.d = d) ∧ (L.length ≤ 100 → (L ++ N).length ≤ 100)
  | [], R, L, _ => ⟨[], by simp [enterL], fun t h => (by cases h), by simp⟩
  | a :: A, R, L, h => by
    unfold enterL at h ⊢
    split
    · rename_i h1; rw [if_pos h1] at h; exact enterL_known d A _ L h
    · rename_i h1
      rw [if_neg h1] at h
      split
      · rename_i h2
        rw [if_pos h2] at h
        obtain ⟨N, e, hN, hl⟩ := enterL_known d A R _ h
        refine ⟨⟨(tellS a.1).1, a.2, d⟩ :: N, by rw [e]; simp, fun t ht => ?_, fun h100 => ?_⟩
        · rcases List.mem_cons.1 ht with rfl | ht
          · rfl
          · exact hN t ht
        · have hk : L.length < 100 := by rcases knowE_or L (tellS a.1).1 a.2 with h | h | h <;> first | (rw [h2] at h; exact absurd h (by decide)) | exact h.2
          have := hl (by rw [List.length_append]; simp; omega)
          simpa using this
      · rename_i h2; rw [if_neg h2] at h; exact absurd h h2
theorem enterL_rest (d : Nat) : ∀ (A R : List Att) (L : List Tell), (enterL d A R L).1.length ≤ R.length + A.length ∧ ∀ a ∈ (enterL d A R L).1, a ∈ R ∨ a ∈ A
  | [], R, L => ⟨Nat.le_refl _, fun a h => .inl h⟩
  | a :: A, R, L => by
    unfold enterL
    split
    · have ih := enterL_rest d A (R ++ [a]) L
      refine ⟨by have := ih.1; rw [List.length_append] at this; simp at this ⊢; omega, fun x hx => ?_⟩
      rcases ih.2 x hx with h | h
      · rcases List.mem_append.1 h with h | h
        · exact .inl h
        · exact .inr (by simp at h; simp [h])
      · exact .inr (List.mem_cons_of_mem _ h)
    · split
      · have ih := enterL_rest d A R (L ++ [⟨(tellS a.1).1, a.2, d⟩])
        exact ⟨by have := ih.1; simp; omega, fun x hx => by rcases ih.2 x hx with h | h; exact .inl h; exact .inr (List.mem_cons_of_mem _ h)⟩
      · exact ⟨by simp, fun x hx => by cases hx⟩

/-! ### how long what a piece says is -/
theorem openF_len : ∀ (f : Nat) (l done : List UInt8) (a : Nat), (openF f l done a).1.length ≤ done.length + 4 * l.length
  | 0, l, done, a => by unfold openF; simp
  | f + 1, [], done, a => by unfold openF; simp
  | f + 1, c :: l, done, a => by
    have hl : (c :: l).length = l.length + 1 := rfl
    unfold openF
    split
    · have ih := openF_len f l (done ++ [c]) (a + 1)
      rw [List.length_append] at ih
      have h1 : ([c] : List UInt8).length = 1 := rfl
      omega
    · split
      · have ih := openF_len f (l.drop (semi l + 1)) (done ++ put (oneL (l.take (semi l)))) (a + semi l + 2)
        have hd : (l.drop (semi l + 1)).length = l.length - (semi l + 1) := List.length_drop
        have hp := put_len (oneL (l.take (semi l)))
        rw [List.length_append] at ih
        omega
      · simp
/-- What a piece says is no longer than its text, but for letters that are written as names. -/
structure PcOk (n : Nat) (p : Pc) : Prop where
  few : p.attrs.length ≤ 16
  name : p.name.length ≤ n
  text : p.text.length ≤ 4 * n
  atts : ∀ a ∈ p.attrs, a.1.length ≤ n
theorem run_le (h : UInt8 → Bool) (D : List UInt8) (σ : St) : (runW h D σ).length ≤ D.length := Nat.le_trans (run_len h D σ) (Nat.sub_le _ _)
theorem openF_ok (D : List UInt8) : ∀ (f : Nat) (n : List UInt8) (al : List (List UInt8 × List UInt8)) (σ : St), n.length ≤ D.length → al.length ≤ 16 → (∀ a ∈ al, a.1.length ≤ D.length) → PcOk D.length (openF_ f D n al σ).1
  | 0, n, al, σ, _, _, _ => ⟨by simp [openF_, pc0], by simp [openF_, pc0], by simp [openF_, pc0], fun a h => by simp [openF_, pc0] at h⟩
  | f + 1, n, al, σ, hn, hl, ha => by
    unfold openF_
    split
    · split
      · exact ⟨hl, hn, by simp, ha⟩
      split
      · exact ⟨hl, hn, by simp, ha⟩
      split
      · exact openF_ok D f n al _ hn hl ha
      · rename_i h16
        refine openF_ok D f n _ _ hn ?_ fun a h => ?_
        · have : al.length ≠ 16 := fun h => h16 (.inr h)
          rw [List.length_append]; simp; omega
        · rcases List.mem_append.1 h with h | h
          · exact ha a h
          · rw [List.mem_singleton.1 h]; exact run_le nb D _
    · exact ⟨by simp [pc0], by simp [pc0], by simp [pc0], fun a h => by simp [pc0] at h⟩
theorem piece_ok (D : List UInt8) (σ : St) : PcOk D.length (pieceR D σ).1 := by
  unfold pieceR
  split
  · refine ⟨by simp [rawS], by simp [rawS], ?_, fun a h => by simp [rawS] at h⟩
    show (rawC D _).1.length ≤ _
    unfold rawC Lib.cut
    split
    · simp only [List.length_take, List.length_drop]; omega
    · simp; omega
  split
  · exact ⟨by simp [closingS], run_le nb D _, by simp [closingS], fun a h => by simp [closingS] at h⟩
  split
  · exact openF_ok D 19 _ [] _ (run_le nb D _) (by simp) (fun a h => by cases h)
  · refine ⟨by simp [textS], by simp [textS], ?_, fun a h => by simp [textS] at h⟩
    show (openL (runW tb D σ)).1.length ≤ _
    have h := openF_len (runW tb D σ).length (runW tb D σ) [] 0
    have h2 := run_le tb D σ
    unfold openL
    simp at h
    omega
theorem next_ok (D : List UInt8) (σ : St) : PcOk D.length (nextP D σ) := by
  have h0 : PcOk D.length pc0 := ⟨by simp [pc0], by simp [pc0], by simp [pc0], fun a h => by simp [pc0] at h⟩
  have h1 := piece_ok D (passAllS D σ)
  unfold nextP
  split
  · split
    · exact ⟨h1.few, h1.name, h1.text, h1.atts⟩
    · exact h0
  · exact h0

/-! ### a place in a text, with what is known there -/
structure Pu (D : List UInt8) (σ : St) (d : Nat) (L : List Tell) (c : Nat) : Prop where
  scn : Scn D.length σ
  small : σ.err = 0 → D.length ≤ 200000
  dep : ∀ t ∈ L, t.d ≤ d
  few : L.length ≤ 100
  cnt : c ≤ 2000
  lim : d ≤ 32
theorem next_err0 {D : List UInt8} {σ : St} (h : (nextS D σ).err = 0) : σ.err = 0 := by
  by_cases he : σ.err = 0
  · exact he
  · rw [(next_bad D σ he).1] at h; exact h
theorem Pu.next {D : List UInt8} {σ : St} {d : Nat} {L : List Tell} {c : Nat} (h : Pu D σ d L c) : Pu D (nextS D σ) d L c :=
  ⟨(next_scn D σ h.scn).1, fun he => h.small (next_err0 he), h.dep, h.few, h.cnt, h.lim⟩
theorem next_zero {D : List UInt8} {σ : St} (h : Scn D.length σ) (he : (nextS D σ).err = 0) (hk : (nextP D σ).kind = 0) : nextP D σ = pc0 := by
  have h0 := next_err0 he
  have hf : Fine D.length σ := by
    rcases h with h | h
    · exact h
    · rcases h.1 with h | h <;> rw [h0] at h <;> exact absurd h (by decide)
  have hp := (passF_fine D (D.length + 1) σ hf).1
  unfold nextP at hk ⊢
  unfold nextS at he
  split
  · rename_i hc
    rw [if_pos hc] at hk he
    have hq := piece_fine D (passAllS D σ) hp hc.2
    rw [if_pos he] at hk
    exact absurd he (hq.2.2.1 hk)
  · rfl
/-- What is to be done with a piece that was taken, and with those behind it. -/
def takenAt (D : List UInt8) (σ : St) (p : Pc) (m : Mach) : Res Nd := if p.kind = 0 then run [.fin σ.pos] m else (step p m).on fun m' => runAt D σ m'
/-- A piece that was taken. -/
structure Took (D : List UInt8) (σ : St) (p : Pc) : Prop where
  err : σ.err = 0
  ok : PcOk D.length p
  zero : p.kind = 0 → p = pc0 ∧ σ.pos = D.length
def mea (D : List UInt8) (σ : St) (p : Pc) : Nat := 2 * (D.length - σ.pos) + (if p.kind = 0 then 0 else 1)
theorem next_took {D : List UInt8} {σ : St} (h : Scn D.length σ) (he : (nextS D σ).err = 0) : Took D (nextS D σ) (nextP D σ) :=
  ⟨he, next_ok D σ, fun hk => ⟨next_zero h he hk, (next_scn D σ h).2.1 hk he⟩⟩
theorem next_taken {D : List UInt8} {σ : St} (h : Scn D.length σ) (he : (nextS D σ).err = 0) (m : Mach) : runAt D σ m = takenAt D (nextS D σ) (nextP D σ) m := by
  unfold takenAt
  by_cases hk : (nextP D σ).kind = 0
  · rw [if_pos hk]; unfold runAt; rw [toks_fin he hk]
  · rw [if_neg hk, runAt_pc h he hk]
theorem next_mea {D : List UInt8} {σ : St} (h : Scn D.length σ) (he : (nextS D σ).err = 0) : mea D (nextS D σ) (nextP D σ) < 2 * (D.length - σ.pos) + 1 := by
  have hn := next_scn D σ h
  have hp := hn.1.pos
  unfold mea
  by_cases hk : (nextP D σ).kind = 0
  · have := hn.2.1 hk he; rw [if_pos hk]; omega
  · have := hn.2.2 hk; rw [if_neg hk]; omega
theorem next_pos {D : List UInt8} {σ : St} (h : Scn D.length σ) (he : (nextS D σ).err = 0) : σ.pos ≤ (nextS D σ).pos := by
  have hn := next_scn D σ h
  have hp := h.pos
  by_cases hk : (nextP D σ).kind = 0
  · have := hn.2.1 hk he; omega
  · have := hn.2.2 hk; omega
theorem next_pos1 {D : List UInt8} {σ : St} (h : Scn D.length σ) (hk : (nextP D σ).kind ≠ 0) : σ.pos + 1 ≤ (nextS D σ).pos := by
  have := (next_scn D σ h).2.2 hk
  omega
/-- Ahead of the element, or behind it. -/
def Around (m : Mach) : Prop := ∀ p, blankP p → step p m = .ok m
theorem around_before (L : List Tell) (c : Nat) : Around (.before, L, c) := fun _ h => if_pos h
theorem around_behind (x : Nd) (L : List Tell) (c : Nat) : Around (.behind x, L, c) := fun _ h => if_pos h
theorem taken_blank {D : List UInt8} {σ : St} {p : Pc} {m : Mach} (hm : Around m) (h : blankP p) : takenAt D σ p m = runAt D σ m := by
  have hk : p.kind ≠ 0 := by rw [h.1]; decide
  unfold takenAt
  rw [if_neg hk, hm p h]
  rfl

end Go.Proofs.YtekmenkebokdoaaGreatDoor
