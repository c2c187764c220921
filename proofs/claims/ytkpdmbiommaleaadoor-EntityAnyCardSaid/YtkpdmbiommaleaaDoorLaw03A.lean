/-
  The walk of layer 3's law galliardlaw03.EntityAny.
-/
import Derived.Test.YtkpdmbiommaleaaDoorLaw03W
namespace Go.Proofs.YtkpdmbiommaleaaDoor
open Go.RowKit

/-- The inner loop: up to a semicolon behind place i. -/
def SemiAt (l : List UInt8) (i j : Nat) : Prop := i ≤ j ∧ (i < j → semi (l.drop (i + 1)) = (j - (i + 1)) + semi (l.drop j))
theorem SemiAt.start (l : List UInt8) (i : Nat) : SemiAt l i i := ⟨Nat.le_refl _, fun h => absurd h (Nat.lt_irrefl _)⟩
theorem SemiAt.step {l : List UInt8} {i j : Nat} (h : SemiAt l i j) (hj : j < l.length) (hn : nth l j ≠ 59) : SemiAt l i (j + 1) := by
  obtain ⟨h1, h2⟩ := h
  refine ⟨by omega, fun _ => ?_⟩
  by_cases e : i = j
  · subst e; omega
  · rw [h2 (by omega)]
    obtain ⟨d, hd, hdr⟩ := drop_nth l j hj
    rw [hdr, semi_miss d _ (by rintro rfl; exact hn hd.symm)]
    omega
theorem SemiAt.hit {l : List UInt8} {i j : Nat} (h : SemiAt l i j) (hj : j < l.length) (hi : nth l i = 38) (hn : nth l j = 59) : i + 1 + semi (l.drop (i + 1)) = j := by
  obtain ⟨h1, h2⟩ := h
  by_cases e : i = j
  · subst e; omega
  · obtain ⟨d, hd, hdr⟩ := drop_nth l j hj
    obtain rfl : d = 59 := UInt8.toNat_inj.1 (hd.trans hn)
    have := h2 (by omega)
    rw [hdr, semi_hit] at this
    omega
theorem SemiAt.whole {l : List UInt8} {i j : Nat} (h : SemiAt l i j) (hj : l.length ≤ j) (hi : i < l.length) : l.length ≤ i + 1 + semi (l.drop (i + 1)) := by
  obtain ⟨h1, h2⟩ := h
  have := h2 (by omega)
  rw [List.drop_eq_nil_of_le hj, semi_nil] at this
  omega
theorem within_sub (s : ByteArray) (i j : Nat) (h : i + 1 + semi ((bl s).drop (i + 1)) = j) : bl (s.extract (i + 1) j) = within (bl s) i := by
  rw [bl_sub]; unfold within
  rw [List.take_drop, show i + 1 + semi (List.drop (i + 1) (bl s)) = j from h]
/-- What the law's loop has found. -/
def Found (l : List UInt8) (X : ByteArray) (k : Nat) (b : Int) : Prop := (b = -1 ∧ Opens l (bl X) k) ∨ (0 ≤ b ∧ openL l = ([], b))

set_option maxRecDepth 100000 in
set_option maxHeartbeats 16000000 in
theorem any03 (s T : ByteArray) (m : Nat) (w : World) (HE : Hid (EntV w)) (hm1 : m ≤ s.size) (hm3 : min (s.size : Int) 40 = (m : Int)) (HT : Hid (s.extract 0 m = T)) (hT : T.size ≤ 40) (R : ByteArray) (B : Int) (HB : Hid (openL (bl T) = (bl R, B)))
    (CO : Hid (∀ w, EntV w → Calls Tryd.prog 6 #[.string T] w fun e w' => e = .returned (.tuple #[.string R, .int .i64 B]) ∧ Below w.heap.size w w')) :
    Calls Tryd.prog 5 #[.string s] w fun e w' => e = .returned (.bool true) ∧ Below w.heap.size w w' := by
  have HBS := Lib.hid (bl_size T)
  have N1 := Lib.hid (fun w => eone_at ⟨#[97, 109, 112]⟩ 38 (by decide +kernel) w)
  have N2 := Lib.hid (fun w => eone_at ⟨#[103, 116]⟩ 62 (by decide +kernel) w)
  have N3 := Lib.hid (fun w => eone_at ⟨#[113, 117, 111, 116]⟩ 34 (by decide +kernel) w)
  have N4 := Lib.hid (fun w => eone_at ⟨#[97, 112, 111, 115]⟩ 39 (by decide +kernel) w)
  have N5 := Lib.hid (fun w => eone_at ⟨#[]⟩ 0 (by decide +kernel) w)
  have N6 := Lib.hid (fun w => eone_at ⟨#[35, 49, 50, 51, 52, 53, 54, 55, 56, 57]⟩ 0 (by decide +kernel) w)
  go_enter Tryd.func5, Tryd.ntmps5
  go_wp2_with fail
  rw [HT.out]
  clear hm1 hm3
  go_loopg [4, 5, 6] T.size (fun g o bd i wr => ∃ (k : Nat) (X : ByteArray) (b : Int), g + k = T.size ∧ i = .int .i64 k ∧ o = .string X ∧ bd = .int .i64 b ∧ -1 ≤ b ∧ b ≤ 40 ∧ X.size ≤ 2 * k ∧ Below w.heap.size w wr ∧ Hid (Found (bl T) X k b))
  case atStart => exact ⟨0, ⟨#[]⟩, -1, rfl, rfl, rfl, rfl, by omega, by omega, by decide, Below.refl _ _, Lib.hid (.inl ⟨rfl, Opens.start _⟩)⟩
  case round =>
    obtain ⟨k, X, b, hg, rfl, rfl, rfl, hb0, hb1, hX, hz, HF⟩ := hrel
    rcases HF.out with ⟨hb, hop⟩ | ⟨hb, hop⟩
    · by_cases hin : k < T.size
      · -- another byte
        have HK := Lib.hid hop
        clear hop HF
        subst hb
        have hin' : (k : Int) < (T.size : Int) := by omega
        obtain ⟨c, hc⟩ : ∃ c, T[k]'hin = c := ⟨_, rfl⟩
        have hn : nth (bl T) k = c.toNat := by rw [nth_get T k hin, hc]
        have hkl : k < (bl T).length := by rw [HBS.out]; exact hin
        by_cases h38 : c.toNat = 38
        · have q1 : ((c.toNat : Int) == 38) = true := by simp; omega
          have q2 : ((c.toNat : Int) != 38) = false := by simp; omega
          have Hkn := Lib.hid (hn.trans h38)
          clear hn h38
          go_wp2_with fail
          obtain ⟨wo, rfl⟩ : ∃ wo : World, wo = wr := ⟨_, rfl⟩
          go_loop [7] (fun i => ∃ j : Nat, j ≤ T.size ∧ k ≤ j ∧ i = .int .i64 j ∧ Hid (SemiAt (bl T) k j)) (fun i => T.size - (intOf i).toNat)
          case atStart => exact ⟨k, by omega, Nat.le_refl _, rfl, Lib.hid (SemiAt.start _ _)⟩
          case round =>
            obtain ⟨j, hj, hkj, rfl, HS⟩ := hrel
            by_cases hjn : j < T.size
            · have hjn' : (j : Int) < (T.size : Int) := by omega
              obtain ⟨d, hd⟩ : ∃ d, T[j]'hjn = d := ⟨_, rfl⟩
              have hnd : nth (bl T) j = d.toNat := by rw [nth_get T j hjn, hd]
              have hjl : j < (bl T).length := by rw [HBS.out]; exact hjn
              by_cases h59 : d.toNat = 59
              · have p1 : ((d.toNat : Int) == 59) = true := by simp; omega
                have p2 : ((d.toNat : Int) != 59) = false := by simp; omega
                have hhit := HS.out.hit hjl Hkn.out (hnd.trans h59)
                have hkj1 : k + 1 ≤ j := by omega
                have hkj2 : (k : Int) + 1 ≤ (j : Int) := by omega
                have hw := within_sub T k j hhit
                have hstep := HK.out.step hkl Hkn.out (by rw [HBS.out]; omega)
                have hnone := HK.out.none hkl Hkn.out
                have hone := fun wx (hx : EntV wx) => eone_at (T.extract (k + 1) j) _ (by rw [hw]) wx hx
                have hr := oneL_range (within (bl T) k)
                have hlet := oneL_let (within (bl T) k)
                have hsj : k + semi ((bl T).drop (k + 1)) + 2 = j + 1 := by omega
                rw [hsj] at hstep
                obtain ⟨r, hrr⟩ : ∃ r, oneL (within (bl T) k) = r := ⟨_, rfl⟩
                rw [hrr] at hstep hnone hone hr hlet
                have CN := Lib.hid hone
                have Hj : (j : Int) ≤ 40 := by omega
                by_cases h0 : r = 0
                · have hop := Lib.hid (hnone (by rintro ⟨_, h⟩; exact h h0))
                  subst h0
                  clear hstep hnone hone hr hlet hw hhit hrr hnd h59 hsj hkl hjl HK Hkn HS
                  go_wp2_with fail
                  refine (CN.out _ (HE.out.below hz)).mono ?_
                  rintro e w1 ⟨rfl, hb⟩
                  have hy := hz.trans (hb.mono hz.size)
                  clear hz hb
                  go_wp2_with fail
                  go_roundg (T.size - (k + 1))
                  case measure => omega
                  case rel => exact ⟨k + 1, X, k, by omega, by go_num, rfl, rfl, by omega, by omega, by omega, hy, Lib.hid (.inr ⟨by omega, hop.out⟩)⟩
                · have HN := Lib.hid (hstep h0)
                  have hr0 : (r == 0) = false := by simp; exact h0
                  have CP := Lib.hid (fun w => rput r w)
                  have hp := put_len r
                  have hs4 : (putS r).size ≤ 4 := by rw [putS_size]; exact hp
                  have HX : Hid (bl (X ++ putS r) = bl X ++ put r ∧ (X ++ putS r).size ≤ 2 * (j + 1)) := Lib.hid (by
                    have e1 : bl (X ++ putS r) = bl X ++ put r := by rw [bl_append]; exact congrArg _ (putS_list r)
                    refine ⟨e1, ?_⟩
                    rw [← bl_size, e1, List.length_append, bl_size]; omega)
                  obtain ⟨Q, hQ⟩ : ∃ Q, putS r = Q := ⟨_, rfl⟩
                  rw [hQ] at CP hs4 HX
                  clear hstep hnone hone hr hlet hw hhit hrr hnd h59 hsj hkl hjl HK Hkn HS h0 hp hQ
                  go_wp2_with fail
                  refine (CN.out _ (HE.out.below hz)).mono ?_
                  rintro e w1 ⟨rfl, hb⟩
                  have hy := hz.trans (hb.mono hz.size)
                  clear hz hb
                  go_wp2_with fail
                  refine (CN.out _ (HE.out.below hy)).mono ?_
                  rintro e w2 ⟨rfl, hb⟩
                  have hz := hy.trans (hb.mono hy.size)
                  clear hy hb
                  go_wp2_with fail
                  refine (CP.out _).mono ?_
                  rintro e w3 ⟨rfl, hb⟩
                  have hy := hz.trans (hb.mono hz.size)
                  clear hz hb
                  go_wp2_with fail
                  go_roundg (T.size - (j + 1))
                  case measure => omega
                  case rel => exact ⟨j + 1, X ++ Q, -1, by omega, by go_num, rfl, rfl, by omega, by omega, HX.out.2, hy, Lib.hid (.inl ⟨rfl, by rw [HX.out.1]; exact HN.out⟩)⟩
              · have p1 : ((d.toNat : Int) == 59) = false := by simp; omega
                have p2 : ((d.toNat : Int) != 59) = true := by simp; omega
                have HN := Lib.hid (HS.out.step hjl (by rw [hnd]; exact h59))
                clear hnd h59 hjl hkl HS
                go_wp2_with fail
                go_round
                case rel => exact ⟨j + 1, by omega, by omega, by go_num, HN⟩
                case measure => simp [intOf]; omega
            · obtain rfl : j = T.size := by omega
              have hwh := HS.out.whole (by rw [HBS.out]; exact Nat.le_refl _) hkl
              have hop := Lib.hid (HK.out.none hkl Hkn.out (by rintro ⟨h, _⟩; omega))
              clear hwh hkl HS HK Hkn
              go_wp2_with fail
              go_roundg (T.size - (k + 1))
              case measure => omega
              case rel => exact ⟨k + 1, X, k, by omega, by go_num, rfl, rfl, by omega, by omega, by omega, hz, Lib.hid (.inr ⟨by omega, hop.out⟩)⟩
        · have q1 : ((c.toNat : Int) == 38) = false := by simp; omega
          have q2 : ((c.toNat : Int) != 38) = true := by simp; omega
          have HN := Lib.hid (HK.out.plain hkl c hn.symm h38)
          have e1 : bl (X ++ T.extract k (k + 1)) = bl X ++ [c] := by rw [bl_append, bl_one T k hin, hc]
          have HX : Hid (bl (X ++ T.extract k (k + 1)) = bl X ++ [c] ∧ (X ++ T.extract k (k + 1)).size ≤ 2 * (k + 1)) := Lib.hid ⟨e1, by
            rw [← bl_size, e1, List.length_append, bl_size]; simp; omega⟩
          clear hn h38 hkl HK e1
          go_wp2_with fail
          go_roundg (T.size - (k + 1))
          case measure => omega
          case rel => exact ⟨k + 1, _, -1, by omega, by go_num, rfl, rfl, by omega, by omega, HX.out.2, hz, Lib.hid (.inl ⟨rfl, by rw [HX.out.1]; exact HN.out⟩)⟩
      · -- all bytes are behind
        obtain rfl : k = T.size := by omega
        have h := HB.out.symm.trans (hop.whole (by rw [HBS.out]; exact Nat.le_refl _))
        injection h with h1 h2
        obtain rfl : R = X := by rw [← bl_str R, h1, bl_str]
        subst hb h2
        clear HF hop hin h1
        go_wp2_with fail
        refine (CO.out _ (HE.out.below hz)).mono ?_
        rintro e v ⟨rfl, hb⟩
        have hy := hz.trans (hb.mono hz.size)
        clear hz hb
        have hz := hy
        clear hy
        go_wp2_with fail
        refine (awake03 _ (HE.out.below hz)).mono ?_
        rintro e v ⟨rfl, hb⟩
        have hy := hz.trans (hb.mono hz.size)
        clear hz hb
        have hz := hy
        clear hy
        go_wp2_with fail
        refine (N1.out _ (HE.out.below hz)).mono ?_
        rintro e v ⟨rfl, hb⟩
        have hy := hz.trans (hb.mono hz.size)
        clear hz hb
        have hz := hy
        clear hy
        go_wp2_with fail
        refine (N2.out _ (HE.out.below hz)).mono ?_
        rintro e v ⟨rfl, hb⟩
        have hy := hz.trans (hb.mono hz.size)
        clear hz hb
        have hz := hy
        clear hy
        go_wp2_with fail
        refine (N3.out _ (HE.out.below hz)).mono ?_
        rintro e v ⟨rfl, hb⟩
        have hy := hz.trans (hb.mono hz.size)
        clear hz hb
        have hz := hy
        clear hy
        go_wp2_with fail
        refine (N4.out _ (HE.out.below hz)).mono ?_
        rintro e v ⟨rfl, hb⟩
        have hy := hz.trans (hb.mono hz.size)
        clear hz hb
        have hz := hy
        clear hy
        go_wp2_with fail
        refine (N5.out _ (HE.out.below hz)).mono ?_
        rintro e v ⟨rfl, hb⟩
        have hy := hz.trans (hb.mono hz.size)
        clear hz hb
        have hz := hy
        clear hy
        go_wp2_with fail
        refine (N6.out _ (HE.out.below hz)).mono ?_
        rintro e v ⟨rfl, hb⟩
        have hy := hz.trans (hb.mono hz.size)
        clear hz hb
        have hz := hy
        clear hy
        go_wp2_with fail
        go_ret
        exact ⟨rfl, hz⟩
    · -- one has been found that is none's
      have h := HB.out.symm.trans hop
      injection h with h1 h2
      obtain rfl : R = ⟨#[]⟩ := by rw [← bl_str R, h1]; rfl
      subst h2
      have d1 : decide (B < 0) = false := decide_eq_false (by omega)
      clear HF hop h1
      by_cases hin : (k : Int) < (T.size : Int)
      · go_wp2_with fail
        refine (CO.out _ (HE.out.below hz)).mono ?_
        rintro e v ⟨rfl, hb⟩
        have hy := hz.trans (hb.mono hz.size)
        clear hz hb
        have hz := hy
        clear hy
        go_wp2_with fail
        refine (awake03 _ (HE.out.below hz)).mono ?_
        rintro e v ⟨rfl, hb⟩
        have hy := hz.trans (hb.mono hz.size)
        clear hz hb
        have hz := hy
        clear hy
        go_wp2_with fail
        refine (N1.out _ (HE.out.below hz)).mono ?_
        rintro e v ⟨rfl, hb⟩
        have hy := hz.trans (hb.mono hz.size)
        clear hz hb
        have hz := hy
        clear hy
        go_wp2_with fail
        refine (N2.out _ (HE.out.below hz)).mono ?_
        rintro e v ⟨rfl, hb⟩
        have hy := hz.trans (hb.mono hz.size)
        clear hz hb
        have hz := hy
        clear hy
        go_wp2_with fail
        refine (N3.out _ (HE.out.below hz)).mono ?_
        rintro e v ⟨rfl, hb⟩
        have hy := hz.trans (hb.mono hz.size)
        clear hz hb
        have hz := hy
        clear hy
        go_wp2_with fail
        refine (N4.out _ (HE.out.below hz)).mono ?_
        rintro e v ⟨rfl, hb⟩
        have hy := hz.trans (hb.mono hz.size)
        clear hz hb
        have hz := hy
        clear hy
        go_wp2_with fail
        refine (N5.out _ (HE.out.below hz)).mono ?_
        rintro e v ⟨rfl, hb⟩
        have hy := hz.trans (hb.mono hz.size)
        clear hz hb
        have hz := hy
        clear hy
        go_wp2_with fail
        refine (N6.out _ (HE.out.below hz)).mono ?_
        rintro e v ⟨rfl, hb⟩
        have hy := hz.trans (hb.mono hz.size)
        clear hz hb
        have hz := hy
        clear hy
        go_wp2_with fail
        go_ret
        exact ⟨rfl, hz⟩
      · go_wp2_with fail
        refine (CO.out _ (HE.out.below hz)).mono ?_
        rintro e v ⟨rfl, hb⟩
        have hy := hz.trans (hb.mono hz.size)
        clear hz hb
        have hz := hy
        clear hy
        go_wp2_with fail
        refine (awake03 _ (HE.out.below hz)).mono ?_
        rintro e v ⟨rfl, hb⟩
        have hy := hz.trans (hb.mono hz.size)
        clear hz hb
        have hz := hy
        clear hy
        go_wp2_with fail
        refine (N1.out _ (HE.out.below hz)).mono ?_
        rintro e v ⟨rfl, hb⟩
        have hy := hz.trans (hb.mono hz.size)
        clear hz hb
        have hz := hy
        clear hy
        go_wp2_with fail
        refine (N2.out _ (HE.out.below hz)).mono ?_
        rintro e v ⟨rfl, hb⟩
        have hy := hz.trans (hb.mono hz.size)
        clear hz hb
        have hz := hy
        clear hy
        go_wp2_with fail
        refine (N3.out _ (HE.out.below hz)).mono ?_
        rintro e v ⟨rfl, hb⟩
        have hy := hz.trans (hb.mono hz.size)
        clear hz hb
        have hz := hy
        clear hy
        go_wp2_with fail
        refine (N4.out _ (HE.out.below hz)).mono ?_
        rintro e v ⟨rfl, hb⟩
        have hy := hz.trans (hb.mono hz.size)
        clear hz hb
        have hz := hy
        clear hy
        go_wp2_with fail
        refine (N5.out _ (HE.out.below hz)).mono ?_
        rintro e v ⟨rfl, hb⟩
        have hy := hz.trans (hb.mono hz.size)
        clear hz hb
        have hz := hy
        clear hy
        go_wp2_with fail
        refine (N6.out _ (HE.out.below hz)).mono ?_
        rintro e v ⟨rfl, hb⟩
        have hy := hz.trans (hb.mono hz.size)
        clear hz hb
        have hz := hy
        clear hy
        go_wp2_with fail
        go_ret
        exact ⟨rfl, hz⟩

/-- **The law EntityAny.** -/
theorem any_any (s : ByteArray) (w : World) (hE : EntV w) :
    Calls Tryd.prog 5 #[.string s] w fun e w' => e = .returned (.bool true) ∧ Below w.heap.size w w' := by
  obtain ⟨m, hm1, hm2, _, Hm3, _⟩ := min8 s.size 40
  obtain ⟨T, hT⟩ : ∃ T, s.extract 0 m = T := ⟨_, rfl⟩
  have hTs : T.size ≤ 40 := by rw [← bl_size, ← hT, cut_bl, List.length_take, bl_size]; omega
  have hb : openL (bl T) = (bl (str (openL (bl T)).1), (openL (bl T)).2) := by rw [str_bl]
  exact any03 s T m w (Lib.hid hE) hm1 Hm3.out (Lib.hid hT) hTs _ _ (Lib.hid hb) (Lib.hid fun w h => eopen T w (Lib.hid h) (by omega))

end Go.Proofs.YtkpdmbiommaleaaDoor
