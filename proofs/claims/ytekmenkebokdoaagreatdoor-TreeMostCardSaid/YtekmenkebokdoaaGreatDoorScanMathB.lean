/-
  Texts whose letters may all stand in one; and names for some of their letters. No program in this text.
-/
import Derived.Test.YtekmenkebokdoaaGreatDoorScanMathA
namespace Go.Proofs.YtekmenkebokdoaaGreatDoor
open Go Go.Lib

theorem ref_take : ∀ (f n : Nat) (l : List UInt8), (refFrom f n l).2 ≠ 0 → l.take (refFrom f n l).2.toNat = put (refFrom f n l).1
  | 0, n, l, h => absurd rfl h
  | f + 1, n, l, h => by
    unfold refFrom at h ⊢
    by_cases h1 : n ≤ l.length
    · rw [if_pos h1] at h ⊢
      by_cases h2 : put (candN n l) = l.take n
      · rw [if_pos h2] at h ⊢
        simp only [Int.toNat_natCast]
        exact h2.symm
      · rw [if_neg h2] at h ⊢
        exact ref_take f (n + 1) l h
    · rw [if_neg h1] at h; exact absurd rfl h
theorem gl_take (l : List UInt8) (h : (gl l).2 ≠ 0) : l.take (gl l).2.toNat = put (gl l).1 := by
  rw [gl_from] at h ⊢
  exact ref_take 4 1 l h
/-- All letters may stand in a text. -/
def Lets (l : List UInt8) : Prop := ∃ rs : List Int, (∀ r ∈ rs, letB r = true) ∧ l = rs.flatMap put
theorem Lets.nil : Lets [] := ⟨[], fun _ h => (by cases h), rfl⟩
theorem Lets.snoc {l : List UInt8} (h : Lets l) (r : Int) (hr : letB r = true) : Lets (l ++ put r) := by
  obtain ⟨rs, h1, rfl⟩ := h
  refine ⟨rs ++ [r], fun x hx => ?_, by simp⟩
  rcases List.mem_append.1 hx with hx | hx
  · exact h1 x hx
  · rw [List.mem_singleton.1 hx]; exact hr
theorem Lets.append {l m : List UInt8} (h : Lets l) (k : Lets m) : Lets (l ++ m) := by
  obtain ⟨rs, h1, rfl⟩ := h
  obtain ⟨qs, h2, rfl⟩ := k
  refine ⟨rs ++ qs, fun x hx => ?_, by simp⟩
  rcases List.mem_append.1 hx with hx | hx
  · exact h1 x hx
  · exact h2 x hx
theorem stop_lets : ∀ rs : List Int, (∀ r ∈ rs, letB r = true) → stopL (rs.flatMap put) = (rs.flatMap put).length
  | [], _ => rfl
  | r :: rs, h => by
    have hr := h r (List.mem_cons_self ..)
    have ih := stop_lets rs (fun x hx => h x (List.mem_cons_of_mem _ hx))
    rw [List.flatMap_cons]
    have hg := gl_put r (let_may r hr) (rs.flatMap put)
    rw [stopL_step _ (by rw [hg]; exact hr), hg]
    simp only [Int.toNat_natCast]
    rw [List.drop_left, ih, List.length_append]; omega
theorem Lets.text {l : List UInt8} (h : Lets l) : textL l = -1 := by
  obtain ⟨rs, h1, rfl⟩ := h
  unfold textL
  rw [stop_lets rs h1, if_neg (Nat.lt_irrefl _)]
theorem run_none : runL [255] = (0, 0) := by kernel_rfl
theorem run_lets : ∀ rs : List Int, (∀ r ∈ rs, letB r = true) → (runL (rs.flatMap put ++ [255])).2 = (rs.flatMap put).length
  | [], _ => by rw [List.flatMap_nil, List.nil_append, run_none]; rfl
  | r :: rs, h => by
    have hr := h r (List.mem_cons_self ..)
    have ih := run_lets rs (fun x hx => h x (List.mem_cons_of_mem _ hx))
    rw [List.flatMap_cons, List.append_assoc]
    have hg := gl_put r (let_may r hr) (rs.flatMap put ++ [255])
    have hp := put_pos r (let_may r hr)
    rw [runL_step _ (by rw [hg]; simp only; omega), hg]
    simp only [Int.toNat_natCast]
    rw [List.drop_left, ih, List.length_append]; omega
theorem Lets.bad {l : List UInt8} (h : Lets l) : badL (l ++ [255]) = l.length := by
  obtain ⟨rs, h1, rfl⟩ := h
  unfold badL
  rw [run_lets rs h1, if_pos (by rw [List.length_append]; simp)]
theorem next_err (D : List UInt8) (σ : St) (h : σ.err ≠ 0) : nextP D σ = pc0 ∧ nextS D σ = σ := by
  have hp : passAllS D σ = σ := by unfold passAllS passF; rw [if_neg h]
  have hc : ¬ (σ.err = 0 ∧ σ.pos < D.length) := fun h' => h h'.1
  unfold nextP nextS
  rw [hp, if_neg hc, if_neg hc]
  exact ⟨rfl, rfl⟩
theorem put_120 : put 120 = [120] := by kernel_rfl
theorem mask_i64 (n : Int) (i : Nat) (hi : i ≤ 62) (m : Int) (hm : m = 2 ^ i - 1) : ∃ k : Nat, k < 2 ^ i ∧ bits .and .i64 n m = (k : Int) := by
  subst hm
  have hpos : 0 < 2 ^ i := Nat.two_pow_pos i
  have hle : 2 ^ i ≤ 2 ^ 62 := Nat.pow_le_pow_right (by decide) hi
  have hc : ((2 : Int) ^ i - 1) = ((2 ^ i - 1 : Nat) : Int) := by rw [Int.natCast_sub hpos]; simp
  have h2 : (BitVec.ofInt 64 (((2 ^ i - 1 : Nat)) : Int)).toNat = 2 ^ i - 1 := by
    rw [BitVec.ofInt_natCast, BitVec.toNat_ofNat]; exact Nat.mod_eq_of_lt (by omega)
  refine ⟨(BitVec.ofInt 64 n).toNat % 2 ^ i, Nat.mod_lt _ hpos, ?_⟩
  show IntKind.i64.wrap ((BitVec.ofInt 64 n &&& BitVec.ofInt 64 ((2 : Int) ^ i - 1)).toNat : Int) = _
  rw [hc, BitVec.toNat_and, h2, Nat.and_two_pow_sub_one_eq_mod, IntKind.wrap_i64]
  have := Nat.mod_lt (BitVec.ofInt 64 n).toNat hpos
  omega

/-! ### the sixteen texts that are no pieces -/
def badT (k : Nat) : List UInt8 := match k with
  | 0 => [60, 49, 62] | 1 => [60, 97, 32, 98, 62] | 2 => [60, 97, 32, 98, 61, 99, 62] | 3 => [60, 97, 32, 98, 61, 39, 60, 39, 62]
  | 4 => [60, 97, 32, 98, 61, 39, 120, 39, 99, 61, 39, 121, 39, 62] | 5 => [60, 97, 32, 98, 61, 39, 39, 32, 98, 61, 39, 39, 62] | 6 => [38, 120, 59] | 7 => [60, 97]
  | 8 => [60, 47, 97] | 9 => [60, 33, 45, 45, 32, 45, 45, 32, 45, 45, 62] | 10 => [60, 33, 91, 67, 68, 65, 84, 65, 91] | 11 => [60, 97, 58, 98, 58, 99, 62]
  | 12 => [60, 32, 97, 62] | 13 => [60, 63, 120] | 14 => [1] | _ => [60, 97, 32, 98, 61, 39, 38, 39, 47, 62]
def badA (k : Nat) : Int := match k with
  | 0 => 1 | 1 => 4 | 2 => 5 | 3 => 6 | 4 => 8 | 5 => 8 | 6 => 0 | 7 => 2 | 8 => 3 | 9 => 0 | 10 => 9 | 11 => 1 | 12 => 1 | 13 => 0 | 14 => 0 | _ => 6
def badE (k : Nat) : Int := match k with | 5 => 7 | _ => 3
def qD (k : Nat) : List UInt8 := [60, 113, 47, 62] ++ badT k
def q0 : St := ⟨0, 0, 0⟩
def q1 : St := ⟨4, 0, 0⟩
theorem bad_spec (k : Nat) (hk : k < 16) : newS (qD k) = q0 ∧ (nextP (qD k) q0).kind = 3 ∧ nextS (qD k) q0 = q1 ∧ (nextP (qD k) q1).kind = 0 ∧ (nextS (qD k) q1).err = badE k ∧ (nextS (qD k) q1).wrg = 4 + badA k := by
  match k, hk with
  | 0, _ => exact ⟨by kernel_rfl, by kernel_rfl, by kernel_rfl, by kernel_rfl, by kernel_rfl, by kernel_rfl⟩
  | 1, _ => exact ⟨by kernel_rfl, by kernel_rfl, by kernel_rfl, by kernel_rfl, by kernel_rfl, by kernel_rfl⟩
  | 2, _ => exact ⟨by kernel_rfl, by kernel_rfl, by kernel_rfl, by kernel_rfl, by kernel_rfl, by kernel_rfl⟩
  | 3, _ => exact ⟨by kernel_rfl, by kernel_rfl, by kernel_rfl, by kernel_rfl, by kernel_rfl, by kernel_rfl⟩
  | 4, _ => exact ⟨by kernel_rfl, by kernel_rfl, by kernel_rfl, by kernel_rfl, by kernel_rfl, by kernel_rfl⟩
  | 5, _ => exact ⟨by kernel_rfl, by kernel_rfl, by kernel_rfl, by kernel_rfl, by kernel_rfl, by kernel_rfl⟩
  | 6, _ => exact ⟨by kernel_rfl, by kernel_rfl, by kernel_rfl, by kernel_rfl, by kernel_rfl, by kernel_rfl⟩
  | 7, _ => exact ⟨by kernel_rfl, by kernel_rfl, by kernel_rfl, by kernel_rfl, by kernel_rfl, by kernel_rfl⟩
  | 8, _ => exact ⟨by kernel_rfl, by kernel_rfl, by kernel_rfl, by kernel_rfl, by kernel_rfl, by kernel_rfl⟩
  | 9, _ => exact ⟨by kernel_rfl, by kernel_rfl, by kernel_rfl, by kernel_rfl, by kernel_rfl, by kernel_rfl⟩
  | 10, _ => exact ⟨by kernel_rfl, by kernel_rfl, by kernel_rfl, by kernel_rfl, by kernel_rfl, by kernel_rfl⟩
  | 11, _ => exact ⟨by kernel_rfl, by kernel_rfl, by kernel_rfl, by kernel_rfl, by kernel_rfl, by kernel_rfl⟩
  | 12, _ => exact ⟨by kernel_rfl, by kernel_rfl, by kernel_rfl, by kernel_rfl, by kernel_rfl, by kernel_rfl⟩
  | 13, _ => exact ⟨by kernel_rfl, by kernel_rfl, by kernel_rfl, by kernel_rfl, by kernel_rfl, by kernel_rfl⟩
  | 14, _ => exact ⟨by kernel_rfl, by kernel_rfl, by kernel_rfl, by kernel_rfl, by kernel_rfl, by kernel_rfl⟩
  | 15, _ => exact ⟨by kernel_rfl, by kernel_rfl, by kernel_rfl, by kernel_rfl, by kernel_rfl, by kernel_rfl⟩
  | k + 16, h => exact absurd h (by omega)

end Go.Proofs.YtekmenkebokdoaaGreatDoor
