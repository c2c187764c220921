/-
  The walk of entity.Open.
-/
import Derived.Test.YtekmenkebokdoaaGreatDoorEntClose
namespace Go.Proofs.YtekmenkebokdoaaGreatDoor
open Go.RowKit
set_option maxRecDepth 100000

/-! ### up to a semicolon -/
theorem prefix_semi (c : UInt8) (l : List UInt8) : List.isPrefixOf [59] (c :: l) = (59 == c) := by simp [List.isPrefixOf]
theorem index_semi : ∀ l : List UInt8, Lib.index l [59] = if semi l < l.length then (semi l : Int) else -1
  | [] => rfl
  | c :: l => by
    unfold Lib.index
    rw [prefix_semi]
    by_cases h : c = 59
    · subst h; rw [semi_hit]; simp
    · have hne : ¬ ((59 : UInt8) == c) = true := by simp; exact fun e => h e.symm
      rw [semi_miss c l h, if_neg hne, index_semi l, List.length_cons]
      by_cases h2 : semi l < l.length
      · rw [if_pos h2, if_pos (show semi l + 1 < l.length + 1 by omega), if_neg (show ¬ (((semi l : Int) == -1) = true) by simp)]; simp
      · rw [if_neg h2, if_neg (show ¬ semi l + 1 < l.length + 1 by omega)]; rfl
theorem cut_semi (l : List UInt8) : Lib.cut l [59] = if semi l < l.length then (l.take (semi l), l.drop (semi l + 1), true) else (l, [], false) := by
  unfold Lib.cut
  rw [index_semi]
  by_cases h : semi l < l.length
  · rw [if_pos h, if_pos (by omega), if_pos h]; rfl
  · rw [if_neg h, if_neg (by decide), if_neg h]
theorem bl_ext (s : ByteArray) (k : Nat) : bl (s.extract k s.size) = (bl s).drop k := bl_from s k

set_option maxRecDepth 100000 in
set_option maxHeartbeats 8000000 in
theorem eopen0 (s : ByteArray) (w : World) (HE : Hid (EntV w)) (hs : s.size ≤ 4294967280) (A : List UInt8) (B : Int) (HA : Hid (openL (bl s) = (A, B))) :
    Calls Tryz.prog 119 #[.string s] w fun e w' => e = .returned (.tuple #[.string (str A), .int .i64 B]) ∧ Below w.heap.size w w' := by
  have HBS := Lib.hid (bl_size s)
  go_enter Tryz.func119, Tryz.ntmps119
  go_wp2
  go_loopg [5] s.size (fun g i wr => ∃ (k : Nat) (done : List UInt8), g + k = s.size ∧ i = .int .i64 k ∧ done.length ≤ 2 * k ∧ Hid (Bl w.heap.size w.heap.size done wr) ∧ Below w.heap.size w wr ∧ Hid (Opens (bl s) done k))
  case atStart => exact ⟨0, [], rfl, rfl, by simp, Lib.hid (bl_new w), (Below.refl _ _).alloc (Nat.le_refl _) _, Lib.hid (Opens.start _)⟩
  case round =>
    obtain ⟨k, done, hg, rfl, hdl, HB, hb, HK⟩ := hrel
    by_cases hin : k < s.size
    · have hin' : (k : Int) < (s.size : Int) := by omega
      obtain ⟨c, hc⟩ : ∃ c, s[k]'hin = c := ⟨_, rfl⟩
      have hn : nth (bl s) k = c.toNat := by rw [nth_get s k hin, hc]
      have hkl : k < (bl s).length := by rw [HBS.out]; exact hin
      by_cases h38 : c.toNat = 38
      · have q1 : ((c.toNat : Int) == 38) = true := by simp; omega
        have q2 : ((c.toNat : Int) != 38) = false := by simp; omega
        have hE := HE.out.below hb
        obtain ⟨m, hm⟩ := hE.maxl
        have hcut := Tryz.strings_Cut (s.extract (k + 1) s.size) ⟨#[59]⟩ m wr (by have := size_from s (k + 1); omega) hm
        change Calls _ _ _ _ (fun e w' => e = .returned (.tuple #[.string (str (Lib.cut (bl (s.extract (k + 1) s.size)) [59]).1), .string (str (Lib.cut (bl (s.extract (k + 1) s.size)) [59]).2.1), .bool (Lib.cut (bl (s.extract (k + 1) s.size)) [59]).2.2]) ∧ ∃ n, w' = wr.drewN n) at hcut
        rw [bl_ext, cut_semi] at hcut
        have hdrop : ((bl s).drop (k + 1)).length = s.size - (k + 1) := by rw [List.length_drop, HBS.out]
        have hsl := semi_le ((bl s).drop (k + 1))
        rw [hdrop] at hsl hcut
        have hkn := (hn.trans h38)
        have hstep := HK.out.step hkl hkn
        have hnone := HK.out.none hkl hkn
        rw [HBS.out] at hstep hnone
        have hone := fun (X : ByteArray) (wx : World) (hx : Below w.heap.size w wx) => eone X wx (Lib.hid (HE.out.below hx))
        obtain ⟨D, hD⟩ : ∃ D, (bl s).drop (k + 1) = D := ⟨_, rfl⟩
        obtain ⟨M, hM⟩ : ∃ M, within (bl s) k = M := ⟨_, rfl⟩
        have hM' : D.take (semi D) = M := by rw [← hM, ← hD]; rfl
        rw [hD] at hcut hsl hdrop hstep hnone
        rw [hM] at hstep hnone
        obtain ⟨Z, hZ⟩ : ∃ Z, semi D = Z := ⟨_, rfl⟩
        rw [hZ] at hcut hsl hstep hnone hM'
        by_cases ha : Z < s.size - (k + 1)
        · rw [if_pos ha] at hcut
          simp only at hcut
          rw [hM'] at hcut
          have hMs : M.length = Z := by rw [← hM', List.length_take, hdrop]; omega
          have hSs : (str M).size = Z := by rw [str_size, hMs]
          generalize str (D.drop (Z + 1)) = R at hcut
          have C1 := Lib.hid hcut
          have hx := fun n => hone (str M) (wr.drewN n) (hb.trans ((below_drewN wr n).mono hb.size))
          rw [str_bl] at hx
          have hr := oneL_range M
          have hlet := oneL_let M
          obtain ⟨X, hX⟩ : ∃ X, oneL M = X := ⟨_, rfl⟩
          rw [hX] at hx hr hlet hstep hnone
          have C2 := Lib.hid hx
          have HMs := Lib.hid hSs
          by_cases h0 : X = 0
          · have hA := HA.out.symm.trans (hnone (by rintro ⟨_, h⟩; exact h h0))
            injection hA with hA1 hA2
            subst hA1 hA2 h0
            clear hstep hnone hone hcut hx hr hlet hX hSs hMs hM hM' hZ hD hdrop hsl hkn hn hm hE h38 hkl HA ha
            go_wp2_with (go_at_call 91; refine C1.out.mono ?_; rintro e w1 ⟨rfl, n, rfl⟩)
            refine (C2.out n).mono ?_
            rintro e w2 ⟨rfl, hb2⟩
            have hb3 := (hb.trans ((below_drewN wr n).mono hb.size)).trans (hb2.mono (hb.trans ((below_drewN wr n).mono hb.size)).size)
            clear hb hb2
            go_wp2_with fail
            go_ret2
            exact ⟨rfl, hb3⟩
          · have HN := Lib.hid (hstep (by omega) h0)
            have hmay := let_may X (hlet h0)
            have hxb : (X == 0) = false := by simp; exact h0
            have hX0 := hr.1
            have hX1 := hr.2
            have CR := Lib.hid (fun w1 (h : Bl w.heap.size w.heap.size done w1) => lrune _ _ done X hmay w1 h (by omega))
            have hpl := put_len X
            clear hstep hnone hone hcut hx hr hlet hX hSs hMs hM hM' hZ hD hdrop hkn hn hm hE h38 hkl HA h0 hmay
            go_wp2_with (go_at_call 91; refine C1.out.mono ?_; rintro e w1 ⟨rfl, n, rfl⟩)
            refine (C2.out n).mono ?_
            rintro e w2 ⟨rfl, hb2⟩
            have HB2 := Lib.hid ((HB.out.below (below_drewN wr n)).below hb2)
            have hb3 := (hb.trans ((below_drewN wr n).mono hb.size)).trans (hb2.mono (hb.trans ((below_drewN wr n).mono hb.size)).size)
            clear hb hb2
            go_wp2_with fail
            refine (CR.out w2 HB2.out).mono ?_
            rintro e w3 ⟨rfl, h3, hb4⟩
            have H3 := Lib.hid h3
            have hb5 := hb3.trans hb4
            have hSs := HMs.out
            clear hb3 hb4 h3
            go_wp2_with fail
            go_roundg (s.size - (k + Z + 2))
            case measure => omega
            case rel => exact ⟨k + Z + 2, done ++ put X, by omega, congrArg (Value.int .i64) (by omega), by rw [List.length_append]; omega, H3, hb5, HN⟩
        · rw [if_neg ha] at hcut
          simp only at hcut
          have hA := HA.out.symm.trans (hnone (by rintro ⟨h, _⟩; exact ha (by omega)))
          injection hA with hA1 hA2
          subst hA1 hA2
          have C1 := Lib.hid hcut
          have hx := fun n => hone (str D) (wr.drewN n) (hb.trans ((below_drewN wr n).mono hb.size))
          rw [str_bl] at hx
          generalize oneL D = X at hx
          have C2 := Lib.hid hx
          clear hstep hnone hone hcut hx hM hM' hZ hD hdrop hsl hkn hn hm hE h38 hkl HA ha
          go_wp2_with (go_at_call 91; refine C1.out.mono ?_; rintro e w1 ⟨rfl, n, rfl⟩)
          refine (C2.out n).mono ?_
          rintro e w2 ⟨rfl, hb2⟩
          have hb3 := (hb.trans ((below_drewN wr n).mono hb.size)).trans (hb2.mono (hb.trans ((below_drewN wr n).mono hb.size)).size)
          clear hb hb2
          go_wp2_with fail
          go_ret2
          exact ⟨rfl, hb3⟩
      · have q1 : ((c.toNat : Int) == 38) = false := by simp; omega
        have q2 : ((c.toNat : Int) != 38) = true := by simp; omega
        have HN := Lib.hid (HK.out.plain hkl c hn.symm h38)
        have C := Lib.hid (lbyte _ _ done c wr HB.out (by omega))
        clear hn hkl h38 HA
        go_wp2_with (go_at_call 129; refine C.out.mono ?_; rintro e w1 ⟨rfl, h1, hb1⟩)
        have hb2 := hb.trans hb1
        have H1 := Lib.hid h1
        clear hb hb1 h1
        go_wp2
        go_roundg (s.size - (k + 1))
        case measure => omega
        case rel => exact ⟨k + 1, done ++ [c], by omega, by go_num, by rw [List.length_append]; simp; omega, H1, hb2, HN⟩
    · obtain rfl : k = s.size := by omega
      have hA := HA.out.symm.trans (HK.out.whole (by rw [HBS.out]; exact Nat.le_refl _))
      injection hA with hA1 hA2
      subst hA1 hA2
      have C := Lib.hid (lout _ _ A wr HB.out)
      clear HA
      go_wp2_with (go_at_call 56; refine C.out.mono ?_; rintro e w1 ⟨rfl, hb1⟩)
      go_ret2
      exact ⟨rfl, hb.trans hb1⟩
/-- **entity.Open at strings that are not too long.** -/
theorem eopen (s : ByteArray) (w : World) (HE : Hid (EntV w)) (hs : s.size ≤ 4294967280) :
    Calls Tryz.prog 119 #[.string s] w fun e w' => e = .returned (.tuple #[.string (str (openL (bl s)).1), .int .i64 (openL (bl s)).2]) ∧ Below w.heap.size w w' :=
  eopen0 s w HE hs _ _ (Lib.hid rfl)

end Go.Proofs.YtekmenkebokdoaaGreatDoor
