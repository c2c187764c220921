/-
  The walk of the law SpaceMost.
-/
import Derived.Test.YtjmpgefjoopigaaDoorSpaceName
namespace Go.Proofs.YtjmpgefjoopigaaDoor
open Go Go.RowKit
set_option maxRecDepth 100000

theorem mask_any (n : Int) (i : Nat) (hi : i ≤ 62) (m : Int) (hm : m = 2 ^ i - 1) : ∃ k : Nat, k < 2 ^ i ∧ bits .and .i64 n m = (k : Int) := by
  subst hm
  have hpos : 0 < 2 ^ i := Nat.two_pow_pos i
  have hle : 2 ^ i ≤ 2 ^ 62 := Nat.pow_le_pow_right (by decide) hi
  have hc : ((2 : Int) ^ i - 1) = ((2 ^ i - 1 : Nat) : Int) := by rw [Int.natCast_sub hpos]; simp
  have h2 : (BitVec.ofInt 64 (((2 ^ i - 1 : Nat)) : Int)).toNat = 2 ^ i - 1 := by
    rw [BitVec.ofInt_natCast, BitVec.toNat_ofNat]; exact Nat.mod_eq_of_lt (by omega)
  refine ⟨(BitVec.ofInt 64 n).toNat % 2 ^ i, Nat.mod_lt _ hpos, ?_⟩
  show IntKind.i64.wrap ((BitVec.ofInt 64 n &&& BitVec.ofInt 64 ((2 : Int) ^ i - 1)).toNat : Int) = _
  rw [hc, BitVec.toNat_and, h2, Nat.and_two_pow_sub_one_eq_mod, IntKind.wrap_i64]
  have := Nat.mod_lt (BitVec.ofInt 64 n).toNat hpos
  omega
theorem tell_p : tellS bXmlnsP = (bP, true) := by kernel_rfl
theorem know_p (L : List Tell) : knowE L bP bU = if 100 ≤ L.length then 5 else 0 := by
  unfold knowE
  rw [if_neg (by decide)]
theorem enter_p (d : Nat) (L : List Tell) : enterL d [(bXmlnsP, bU)] [] L = if 100 ≤ L.length then ([], 5, L) else ([], 0, L ++ [⟨bP, bU, d⟩]) := by
  unfold enterL
  simp only [tell_p, know_p]
  rw [if_neg (by decide)]
  by_cases h : 100 ≤ L.length
  · rw [if_pos h, if_pos h, if_neg (by decide)]
  · rw [if_neg h, if_neg h, if_pos rfl]; rfl

/-- What the loop keeps: within so many elements; full, or not yet. -/
def MoR (b k : Nat) (w : World) (g : Nat) (e many i : Value) (wr : World) : Prop :=
  ∃ (j : Nat) (L : List Tell), g + j = k ∧ i = .int .i64 j ∧ Sp w.heap.size b j L wr ∧ Below w.heap.size w wr ∧
    ((e = .int .i64 0 ∧ many = .int .i64 ((2 + j : Nat) : Int) ∧ L.length = 2 + j ∧ j ≤ 98) ∨ (e = .int .i64 5 ∧ many = .int .i64 100 ∧ 99 ≤ j))
set_option maxHeartbeats 4000000 in
theorem most05 (n : Int) (k : Nat) (hk : k < 128) (HK : Hid (bits .and .i64 n 127 = (k : Int))) (w : World) (hT : Tabs w) (hM : MaxL w) :
    Calls Tryd.prog 5 #[.int .i64 n] w fun e w' => e = .returned (.bool true) ∧ Below w.heap.size w w' := by
  have HT := Lib.hid hT
  have HM := Lib.hid hM
  have C1 := Lib.hid (pnew w)
  have hk' := HK.out
  clear hT hM
  go_enter Tryd.func5, Tryd.ntmps5
  go_wp2_with fail
  refine C1.out.mono ?_
  rintro r w1 ⟨b, rfl, hS, hB⟩
  have HS := Lib.hid hS
  have HB := Lib.hid hB
  clear hS hB C1
  go_wp2
  go_loopg [5, 6, 7] k (fun g e many i wr => MoR b k w g e many i wr)
  case atStart => exact ⟨0, tells0, rfl, rfl, HS.out, HB.out, .inl ⟨rfl, rfl, rfl, by decide⟩⟩
  case round =>
    obtain ⟨j, L, hg, rfl, hS, hBw, ⟨rfl, rfl, hL, hj⟩ | ⟨rfl, rfl, hj⟩⟩ := hrel
    · by_cases hjk : j < k
      · have hjki : (j : Int) < (k : Int) := by omega
        have hB2 := (Below.refl wr.heap.size wr).alloc (Nat.le_refl _) (.cells #[.string bXmlnsP, .string bU] 31)
        have C2 := penter w.heap.size b j wr.heap.size 1 [(bXmlnsP, bU)] L _ (hS.step hB2) (by omega) (AttrsAt.new wr _ [(bXmlnsP, bU)] rfl) (by decide)
        rw [enter_p] at C2
        have HB2 := Lib.hid (hBw.trans (hB2.mono hBw.size))
        by_cases hfull : 100 ≤ L.length
        · rw [if_pos hfull] at C2
          have C2 := Lib.hid C2
          have hj1 := Lib.hid (show gk - 1 + (j + 1) = k by omega)
          have hj2 := Lib.hid (show gk - 1 < gk by omega)
          have hj3 := Lib.hid (show 99 ≤ j + 1 by omega)
          have hmany : ((2 + j : Nat) : Int) = 100 := by omega
          rw [hmany]
          clear hS hB2 hBw hL hfull hg hj hjk hmany
          go_wp2_with fail
          refine C2.out.mono ?_
          rintro r w2 ⟨v, rfl, hown, hS2, hb2, _⟩
          have HS2 := Lib.hid hS2
          have HB3 := Lib.hid (HB2.out.trans hb2)
          clear hown hS2 hb2 C2
          go_wp2
          go_roundg (gk - 1)
          case measure => exact hj2.out
          case rel => exact ⟨j + 1, _, hj1.out, by simp, HS2.out, HB3.out, .inr ⟨rfl, rfl, hj3.out⟩⟩
        · rw [if_neg hfull] at C2
          have C2 := Lib.hid C2
          have hj1 := Lib.hid (show gk - 1 + (j + 1) = k by omega)
          have hj2 := Lib.hid (show gk - 1 < gk by omega)
          have hj3 := Lib.hid (show (L ++ [(⟨bP, bU, j + 1⟩ : Tell)]).length = 2 + (j + 1) ∧ j + 1 ≤ 98 by rw [List.length_append]; show L.length + 1 = _ ∧ _; omega)
          have hj4 := Lib.hid (show ((2 + j : Nat) : Int) + 1 = ((2 + (j + 1) : Nat) : Int) by omega)
          have hmb : ((2 + j : Nat) : Int) ≤ 100 := by omega
          obtain ⟨M, hM⟩ : ∃ M : Int, M = ((2 + j : Nat) : Int) := ⟨_, rfl⟩
          rw [← hM] at hj4 hmb ⊢
          have hm0 : 0 ≤ M := by omega
          clear hS hB2 hBw hL hfull hg hj hjk hM
          go_wp2_with fail
          refine C2.out.mono ?_
          rintro r w2 ⟨v, rfl, hown, hS2, hb2, _⟩
          have HS2 := Lib.hid hS2
          have HB3 := Lib.hid (HB2.out.trans hb2)
          clear hown hS2 hb2 C2
          go_wp2
          go_roundg (gk - 1)
          case measure => exact hj2.out
          case rel => exact ⟨j + 1, _, hj1.out, by simp, HS2.out, HB3.out, .inl ⟨rfl, by rw [hj4.out], hj3.out.1, hj3.out.2⟩⟩
      · have hjki : ¬ (j : Int) < (k : Int) := by omega
        obtain ⟨M, hM⟩ : ∃ M : Int, M = ((2 + j : Nat) : Int) := ⟨_, rfl⟩
        have hk2 : (k : Int) = M - 2 := by omega
        have hm : M ≤ 100 := by omega
        have hm0 : 0 ≤ M := by omega
        rw [← hM]
        have CA := Lib.hid (awake05 wr (HT.out.below hBw) (HM.out.below hBw))
        have HBw := Lib.hid hBw
        have hka : (k : Int) + 2 = M := by omega
        clear hM hL hj hg hjk hBw hS hk2
        go_wp2_with fail
        refine CA.out.mono ?_
        rintro r w2 ⟨rfl, hb2⟩
        have HB3 := Lib.hid (HBw.out.trans (hb2.mono HBw.out.size))
        clear hb2 CA
        go_wp2
        go_ret
        exact ⟨rfl, HB3.out⟩
    · have CA := Lib.hid (awake05 wr (HT.out.below hBw) (HM.out.below hBw))
      have HBw := Lib.hid hBw
      have hka : decide ((k : Int) + 2 ≤ 100) = false := decide_eq_false (by omega)
      clear hj hg hBw hS
      go_wp2_with fail
      all_goals
        refine CA.out.mono ?_
        rintro r w2 ⟨rfl, hb2⟩
        have HB3 := Lib.hid (HBw.out.trans (hb2.mono HBw.out.size))
        clear hb2 CA
        go_wp2
        go_ret
        exact ⟨rfl, HB3.out⟩
/-- **The law SpaceMost.** -/
theorem most_any (n : Int) (w : World) (hT : Tabs w) (hM : MaxL w) :
    Calls Tryd.prog 5 #[.int .i64 n] w fun e w' => e = .returned (.bool true) ∧ Below w.heap.size w w' := by
  obtain ⟨k, hk, hn⟩ := mask_any n 7 (by decide) 127 (by decide)
  exact most05 n k hk (Lib.hid hn) w hT hM

end Go.Proofs.YtjmpgefjoopigaaDoor
