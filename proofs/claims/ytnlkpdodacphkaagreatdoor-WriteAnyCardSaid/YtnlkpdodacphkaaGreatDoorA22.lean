/-
  The walk of galliardref06.Text.
-/
import Derived.Test.YtnlkpdodacphkaaGreatDoorA18
import Derived.Test.YtnlkpdodacphkaaGreatDoorA13
import Derived.Test.YtnlkpdodacphkaaGreatDoorA9
import Derived.BigQuiet
import Derived.Deep.QuietTactic
import Derived.Deep.RegionWith
namespace Go.Proofs.YtnlkpdodacphkaaGreatDoor
open Go Go.RowKit Go.Lib
set_option maxRecDepth 100000

theorem kidsT_app (s : ByteArray) (pad : List UInt8) : ∀ a b : List Nd, kidsT (a ++ b) s pad = kidsT a s pad ++ kidsT b s pad
  | [], b => by rw [List.nil_append, kidsT, List.nil_append]
  | x :: a, b => by rw [List.cons_append, kidsT, kidsT, kidsT_app s pad a b]; simp
theorem kidsT_take (s : ByteArray) (pad : List UInt8) (K : List Nd) (k : Nat) (h : k < K.length) : kidsT (K.take (k + 1)) s pad = kidsT (K.take k) s pad ++ (10 :: (pad ++ bodyT (K[k]'h) s pad)) := by
  rw [List.take_succ_eq_append_getElem h, kidsT_app, kidsT, kidsT]
  simp
def attL (A : List Att) : List UInt8 := atsT [32] (A.map fun a => (bl a.1, bl a.2))
theorem attL_take (A : List Att) (k : Nat) (h : k < A.length) : attL (A.take (k + 1)) = attL (A.take k) ++ (32 :: atT (bl (A[k]'h).1) (bl (A[k]'h).2)) := by
  unfold attL atsT
  rw [List.take_succ_eq_append_getElem h, List.map_append, List.flatMap_append]
  simp
def xmL (s sp : ByteArray) : List UInt8 := if s = sp then [] else 32 :: atT bXm (bl s)
theorem tag_parts (s sp : ByteArray) (A : List Att) : atsT [32] (tagA s sp A) = xmL s sp ++ attL A := by
  unfold tagA atsT xmL attL atsT
  rw [List.flatMap_append]
  congr 1
  split
  · rfl
  · simp
/-- Text's beginning, with so many attributes. -/
def headT (s n sp : ByteArray) (A : List Att) (pad : List UInt8) : List UInt8 := pad ++ (60 :: (bl n ++ (xmL s sp ++ attL A)))
theorem text_empty {s n t sp : ByteArray} {A : List Att} {pad : List UInt8} (ht : bl t = []) : textT (.mk s n A [] t) sp pad = headT s n sp A pad ++ [47, 62, 10] := by
  unfold textT headT
  rw [bodyT, if_pos (show ([] : List Nd).isEmpty = true from rfl), if_pos ht, tag_parts]
  simp
theorem text_text {s n t sp : ByteArray} {A : List Att} {pad : List UInt8} (ht : bl t ≠ []) : textT (.mk s n A [] t) sp pad = headT s n sp A pad ++ (62 :: (closeL (bl t) ++ (60 :: 47 :: (bl n ++ [62, 10])))) := by
  unfold textT headT
  rw [bodyT, if_pos (show ([] : List Nd).isEmpty = true from rfl), if_neg ht, tag_parts]
  simp
theorem text_kids {s n t sp : ByteArray} {A : List Att} {K : List Nd} {pad : List UInt8} (hK : K ≠ []) : textT (.mk s n A K t) sp pad = headT s n sp A pad ++ (62 :: (kidsT K s (pad ++ [32]) ++ (10 :: (pad ++ (60 :: 47 :: (bl n ++ [62, 10])))))) := by
  unfold textT headT
  rw [bodyT, if_neg (by cases K with | nil => exact absurd rfl hK | cons _ _ => intro h; cases h), tag_parts]
  simp
theorem head_len {d : Nat} {s n t sp : ByteArray} {A : List Att} {K : List Nd} {pad : List UInt8} (h : NearB d (.mk s n A K t)) (k : Nat) : (headT s n sp (A.take k) pad).length ≤ pad.length + 400 := by
  cases h with
  | mk d _ _ _ _ _ hn hn2 hnl hs hsl ht htl htr hA hAd hAl hKt hKl hK =>
    have h1 := atsT_few _ (tag_few (s := s) (sp := sp) (A := A.take k) hsl (fun a ha => hA a (List.mem_of_mem_take ha)))
    have h2 := Nat.mul_le_mul_right 65 (tag_len4 s sp (A := A.take k) (by rw [List.length_take]; omega))
    rw [tag_parts] at h1
    unfold headT
    simp only [List.length_append, List.length_cons] at h1 ⊢
    omega
theorem same_eq {s p : ByteArray} (h : s = p) : (s.toList == p.toList) = true := by rw [h]; simp
theorem same_ne {s p : ByteArray} (h : ¬ s = p) : (s.toList == p.toList) = false := by
  rw [beq_eq_false_iff_ne]
  intro e
  rw [Lib.toList_data, Lib.toList_data] at e
  exact h (by rw [← bl_str s, ← bl_str p]; unfold bl; rw [e])
theorem head_same {s n sp : ByteArray} {pad : List UInt8} {A : List Att} (h : s = sp) : str (headT s n sp (A.take 0) pad) = str pad ++ ⟨#[60]⟩ ++ n := by
  have e : headT s n sp (A.take 0) pad = (pad ++ [60]) ++ bl n := by unfold headT xmL attL atsT; rw [if_pos h]; simp
  rw [e, ← str_append, ← str_append, bl_str]; rfl
theorem head_other {s n sp : ByteArray} {pad : List UInt8} {A : List Att} (h : ¬ s = sp) : str (headT s n sp (A.take 0) pad) = (str pad ++ ⟨#[60]⟩ ++ n) ++ (⟨#[32, 120, 109, 108, 110, 115, 61, 34]⟩ ++ str (closeL (bl s)) ++ ⟨#[34]⟩) := by
  have e : headT s n sp (A.take 0) pad = ((pad ++ [60]) ++ bl n) ++ (([32, 120, 109, 108, 110, 115, 61, 34] ++ closeL (bl s)) ++ [34]) := by unfold headT xmL attL atsT atT bXm; rw [if_neg h]; simp
  rw [e, ← str_append, ← str_append, ← str_append, ← str_append, ← str_append, bl_str]; rfl
/-- Text, with so many elements. -/
def midT (s n sp : ByteArray) (A : List Att) (K : List Nd) (pad : List UInt8) : List UInt8 := headT s n sp A pad ++ (62 :: (kidsT K s (pad ++ [32]) ++ [10]))
theorem mid_next {s n sp : ByteArray} {A : List Att} {K : List Nd} {pad : List UInt8} {k : Nat} (h : k < K.length) : midT s n sp A (K.take (k + 1)) pad = midT s n sp A (K.take k) pad ++ textT (K[k]'h) s (pad ++ [32]) := by
  unfold midT textT
  rw [kidsT_take s _ K k h]
  simp
theorem mid_done {s n t sp : ByteArray} {A : List Att} {K : List Nd} {pad : List UInt8} (hK : K ≠ []) : textT (.mk s n A K t) sp pad = (((midT s n sp A K pad ++ pad) ++ [60, 47]) ++ bl n) ++ [62, 10] := by
  unfold midT
  rw [text_kids hK]
  simp
theorem NearB.kids {d : Nat} {s n t : ByteArray} {A : List Att} {K : List Nd} (h : NearB (d + 1) (.mk s n A K t)) : ∀ k ∈ K, NearB d k := by cases h; assumption
theorem mid_len {d : Nat} {s n t sp : ByteArray} {A : List Att} {K : List Nd} {pad : List UInt8} (h : NearB (d + 1) (.mk s n A K t)) (k : Nat) : (midT s n sp A (K.take k) pad).length ≤ 4 * pad.length + 1000 + 3 * lenB d (pad.length + 1) := by
  have h1 := head_len (s := s) (n := n) (sp := sp) (pad := pad) h A.length
  rw [List.take_length] at h1
  have h2 := kidsT_len s (pad ++ [32]) (K.take k) (m := lenB d (pad.length + 1)) fun y hy => by
    have := (h.kids y (List.mem_of_mem_take hy)).len s (pad ++ [32])
    rw [List.length_append] at this
    exact this
  have h3 : (K.take k).length ≤ 3 := by
    rw [List.length_take]
    cases h with
    | mk d _ _ _ _ _ hn hn2 hnl hs hsl ht htl htr hA hAd hAl hKt hKl hK => omega
  rw [List.length_append] at h2
  have h4 := Nat.mul_le_mul_right (1 + (pad.length + ([32] : List UInt8).length) + lenB d (pad.length + 1)) h3
  have e1 : ([32] : List UInt8).length = 1 := rfl
  rw [e1] at h2 h4
  generalize hG : (K.take k).length * (1 + (pad.length + 1) + lenB d (pad.length + 1)) = G at h2 h4
  unfold midT
  simp only [List.length_append, List.length_cons, List.length_nil]
  omega
/-- What Text leaves. -/
def TextSpec (d : Nat) : Prop := ∀ (x : Nd) (v : Value) (sp : ByteArray) (pad : List UInt8) (w : World), NodeV (fun _ => True) w v x → NearB d x → pad.length + lenB d pad.length ≤ 1000000 →
  Calls Tryz.prog 7 #[v, .string sp, .string (str pad)] w fun e w' => e = .returned (.string (str (textT x sp pad))) ∧ Below w.heap.size w w'

set_option maxHeartbeats 8000000 in
theorem text_one (d : Nat) (hIH : ∀ d', d = d' + 1 → TextSpec d') : TextSpec d := by
  intro x v sp pad w hv hB hpad
  obtain ⟨s, n, t, A, K, xa, xac, xk, xkc, xc, rfl, rfl, hxa, hxk, hxn⟩ := parts06 hv
  have hd1 : ∃ d', d = d' + 1 := by cases hB; exact ⟨_, rfl⟩
  obtain ⟨d, rfl⟩ := hd1
  have hA1 := (Below.refl w.heap.size w).alloc (Nat.le_refl _) (.cells #[.string s, .string n, .slice xa A.length xac, .slice xk K.length xkc, .string t] 25)
  have hX0 := heap_alloc_new w (.cells #[.string s, .string n, .slice xa A.length xac, .slice xk K.length xkc, .string t] 25)
  obtain ⟨w0, hw0⟩ : ∃ w0, w.alloc (.cells #[.string s, .string n, .slice xa A.length xac, .slice xk K.length xkc, .string t] 25) = w0 := ⟨_, rfl⟩
  have hsz : n.size ≤ 6 ∧ s.size ≤ 3 ∧ t.size ≤ 12 ∧ A.length ≤ 3 ∧ K.length ≤ 3 := by
    cases hB with
    | mk d _ _ _ _ _ hn hn2 hnl hs hsl ht htl htr hA hAd hAl hKt hKl hK => rw [← bl_size n, ← bl_size s, ← bl_size t]; exact ⟨hnl, hsl, htl, hAl, hKl⟩
  obtain ⟨hns, hss, hts, hA3, hK3⟩ := hsz
  obtain ⟨PAD, hPAD⟩ : ∃ PAD, str pad = PAD := ⟨_, rfl⟩
  have hPs : PAD.size ≤ 1000000 := by rw [← hPAD, str_size]; omega
  rw [hPAD]
  have HPAD := Lib.hid hPAD
  have HW0 := Lib.hid hw0
  rw [hw0] at hA1 hX0
  have HA1 := Lib.hid hA1
  have HX0 := Lib.hid hX0
  have HIH := Lib.hid (hIH d rfl)
  have HXA := Lib.hid hxa
  have HXK := Lib.hid hxk
  have HXN := Lib.hid hxn
  have HB := Lib.hid hB
  have HPL := Lib.hid hpad
  obtain ⟨Q, hQ⟩ : ∃ Q, w.heap.size = Q := ⟨_, rfl⟩
  have HQ := Lib.hid hQ
  have x0 := Lib.cell_of_heap hX0 0
  have x1 := Lib.cell_of_heap hX0 1
  have x2 := Lib.cell_of_heap hX0 2
  have x3 := Lib.cell_of_heap hX0 3
  have x4 := Lib.cell_of_heap hX0 4
  simp only [List.getElem?_toArray, List.getElem?_cons_zero, List.getElem?_cons_succ] at x0 x1 x2 x3 x4
  rw [hQ] at x0 x1 x2 x3 x4
  clear hA1 hX0 hIH hxa hxk hxn hv hB hPAD hpad
  go_enter Tryz.func7, Tryz.ntmps7
  go_upto_if 18 with (fail)
  obtain ⟨B1, hB1⟩ : ∃ B1, PAD ++ ⟨#[60]⟩ ++ n = B1 := ⟨_, rfl⟩
  have hB1s : B1.size ≤ 1000007 := by rw [← hB1, ByteArray.size_append, ByteArray.size_append]; show PAD.size + 1 + n.size ≤ _; omega
  rw [hB1]
  have HB1 := Lib.hid hB1
  clear hB1
  obtain ⟨H0, hH0⟩ : ∃ H0, str (headT s n sp (A.take 0) pad) = H0 := ⟨_, rfl⟩
  have HH0 := Lib.hid hH0
  clear hH0
  go_cut [7] (fun u wx => u = .string H0 ∧ Below w0.heap.size w0 wx)
  case first =>
    by_cases hs : s = sp
    · have q : (!(s.toList == sp.toList)) = false := by rw [same_eq hs]; rfl
      have HE := Lib.hid (show Value.string B1 = .string H0 by rw [← HB1.out, ← HH0.out, head_same hs, HPAD.out])
      clear hs
      go_wp2_with fail
      · exact absurd ‹(!(s.toList == sp.toList)) = true› (by rw [q]; decide)
      · go_meet
        exact ⟨HE.out, Below.refl _ _⟩
    · have q : (!(s.toList == sp.toList)) = true := by rw [same_ne hs]; rfl
      obtain ⟨C, hC⟩ : ∃ C, str (closeL (bl s)) = C := ⟨_, rfl⟩
      have hCs : C.size ≤ 18 := by rw [← hC, str_size]; have := closeL_len (bl s); rw [bl_size] at this; omega
      have CC := rclose s w0 (by omega)
      rw [hC] at CC
      have CC := Lib.hid CC
      have HE := Lib.hid (show Value.string (B1 ++ (⟨#[32, 120, 109, 108, 110, 115, 61, 34]⟩ ++ C ++ ⟨#[34]⟩)) = .string H0 by rw [← HB1.out, ← HH0.out, head_other hs, HPAD.out, hC])
      clear hs hC
      go_wp2_with fail
      · refine CC.out.mono ?_
        rintro e w1 ⟨rfl, rfl⟩
        go_wp2_with fail
        go_meet
        exact ⟨HE.out, Below.refl _ _⟩
      · exact absurd ‹(!(s.toList == sp.toList)) = false› (by rw [q]; decide)
  case rest =>
    obtain ⟨rfl, hb1⟩ := hcut
    have hsw : w.heap.size < w0.heap.size := by rw [← hw0]; simp
    have HSW := Lib.hid hsw
    clear hsw hw0 hQ x0 x1 x2 x3 x4 hss hB1s hPs HB1
    go_wp2_with fail
    go_loopg [7, 8] A.length (fun g sv i wr => ∃ k, g + k = A.length ∧ i = .int .i64 (k : Nat) ∧ sv = .string (str (headT s n sp (A.take k) pad)) ∧ Below w0.heap.size w0 wr)
    case atStart => exact ⟨0, by omega, rfl, by rw [HH0.out], hb1⟩
    case round =>
      clear hb1
      obtain ⟨k, hg, rfl, rfl, hbr⟩ := hrel
      have hX := (hbr.block _ HSW.out).trans HX0.out
      rw [HQ.out] at hX
      have x2 := Lib.cell_of_heap hX 2
      simp only [List.getElem?_toArray, List.getElem?_cons_zero, List.getElem?_cons_succ] at x2
      have HBR := Lib.hid hbr
      clear hbr
      by_cases hk : k < A.length
      · have hk' : (k : Int) < (A.length : Int) := by omega
        obtain ⟨g0, o0, rfl, _, hg0, hcell⟩ := HXA.out (by omega)
        obtain ⟨c0, c1⟩ := hcell k hk
        obtain ⟨⟨an, av⟩, hav⟩ : ∃ y, A[k]'hk = y := ⟨_, rfl⟩
        rw [hav] at c0 c1
        have hbw := HA1.out.trans (HBR.out.mono (Nat.le_of_lt HSW.out))
        have a0 := (hbw.cell (p := ⟨g0, o0 + k * 2, none⟩) hg0).trans c0
        have a1 := (hbw.cell (p := ⟨g0, o0 + k * 2 + 1, none⟩) hg0).trans c1
        have hAB := HB.out.atts (an, av) (by rw [← hav]; exact List.getElem_mem hk)
        have hans : an.size ≤ 7 := by rw [← bl_size]; exact hAB.len
        have havs : av.size ≤ 9 := by rw [← bl_size]; exact hAB.vlen
        have htake := attL_take A k hk
        rw [hav] at htake
        have hSs := head_len (s := s) (n := n) (sp := sp) (pad := pad) HB.out k
        obtain ⟨S, hS⟩ : ∃ S, str (headT s n sp (A.take k) pad) = S := ⟨_, rfl⟩
        have hS2 : S.size ≤ 1000400 := by rw [← hS, str_size]; have := HPL.out; omega
        obtain ⟨C, hC⟩ : ∃ C, str (closeL (bl av)) = C := ⟨_, rfl⟩
        have hCs : C.size ≤ 54 := by rw [← hC, str_size]; have := closeL_len (bl av); rw [bl_size] at this; omega
        obtain ⟨B2, hB2⟩ : ∃ B2, (⟨#[32]⟩ : ByteArray) ++ an = B2 := ⟨_, rfl⟩
        obtain ⟨B3, hB3⟩ : ∃ B3, B2 ++ (⟨#[61, 34]⟩ : ByteArray) = B3 := ⟨_, rfl⟩
        obtain ⟨B4, hB4⟩ : ∃ B4, B3 ++ C = B4 := ⟨_, rfl⟩
        obtain ⟨B5, hB5⟩ : ∃ B5, B4 ++ (⟨#[34]⟩ : ByteArray) = B5 := ⟨_, rfl⟩
        have z2 : B2.size = 1 + an.size := by rw [← hB2, ByteArray.size_append]; rfl
        have z3 : B3.size = B2.size + 2 := by rw [← hB3, ByteArray.size_append]; rfl
        have z4 : B4.size = B3.size + C.size := by rw [← hB4, ByteArray.size_append]
        have z5 : B5.size = B4.size + 1 := by rw [← hB5, ByteArray.size_append]; rfl
        have q2 : ¬ 9223372036854775807 < 1 + an.size := by omega
        have q3 : ¬ 9223372036854775807 < B2.size + 2 := by omega
        have q4 : ¬ 9223372036854775807 < B3.size + C.size := by omega
        have q5 : ¬ 9223372036854775807 < B4.size + 1 := by omega
        have q6 : ¬ 9223372036854775807 < S.size + B5.size := by omega
        have CC := fun wx => (rclose av wx (by omega)).mono (fun e w' (h : _ ∧ wx = w') => (show e = .returned (.string C) ∧ w' = wx from ⟨by rw [← hC]; exact h.1, h.2.symm⟩))
        have CC := Lib.hid CC
        have HN := Lib.hid (show Value.string (S ++ B5) = .string (str (headT s n sp (A.take (k + 1)) pad)) by
          have e : headT s n sp (A.take (k + 1)) pad = headT s n sp (A.take k) pad ++ (((([32] ++ bl an) ++ [61, 34]) ++ closeL (bl av)) ++ [34]) := by
            unfold headT
            rw [htake]
            unfold atT
            simp
          rw [e, ← str_append, ← str_append, ← str_append, ← str_append, ← str_append, bl_str, hC, hS, ← hB5, ← hB4, ← hB3, ← hB2]
          rfl)
        rw [hS]
        clear z2 z3 z4 z5 hC hS hSs hS2 htake hAB hbw c0 c1 hcell hav hans havs hCs
        go_wp2_with fail
        go_quiet ((go_at_call 22; exact Calls.quiet_of_same (CC.out _)))
        clear hB2 hB3 hB4 hB5 q2 q3 q4 q5 q6 a0 a1 x2
        go_wp2_with fail
        go_roundg (A.length - (k + 1))
        case measure => omega
        case rel => exact ⟨k + 1, by omega, by go_num, HN.out, HBR.out.trans ((below_drewN _ _).mono HBR.out.size)⟩
      · have hk' : ¬ (k : Int) < (A.length : Int) := by omega
        have hSs := head_len (s := s) (n := n) (sp := sp) (pad := pad) HB.out k
        rw [List.take_of_length_le (show A.length ≤ k by omega)] at hSs ⊢
        obtain ⟨S, hS⟩ : ∃ S, str (headT s n sp A pad) = S := ⟨_, rfl⟩
        have hS2 : S.size ≤ 1000400 := by rw [← hS, str_size]; have := HPL.out; omega
        rw [hS]
        have HS := Lib.hid hS
        have x0 := Lib.cell_of_heap hX 0
        have x1 := Lib.cell_of_heap hX 1
        have x3 := Lib.cell_of_heap hX 3
        have x4 := Lib.cell_of_heap hX 4
        simp only [List.getElem?_toArray, List.getElem?_cons_zero, List.getElem?_cons_succ] at x0 x1 x3 x4
        have hbw := HA1.out.trans (HBR.out.mono (Nat.le_of_lt HSW.out))
        have HBW := Lib.hid hbw
        have HX := Lib.hid hX
        clear hS hSs hbw hX hk
        by_cases hK : K = []
        · subst hK
          have hKl : ([] : List Nd).length = 0 := rfl
          by_cases ht : t.size = 0
          · have q : t.toList.isEmpty = true := bl_empty t ht
            have htn : bl t = [] := by rw [← List.length_eq_zero_iff, bl_size]; exact ht
            have HE := Lib.hid (show S ++ ⟨#[47, 62, 10]⟩ = str (textT (.mk s n A [] t) sp pad) by rw [text_empty htn, ← str_append, HS.out]; rfl)
            clear ht htn
            go_wp2_with fail
            go_ret
            exact ⟨by rw [HE.out]; rfl, HBW.out⟩
          · have q : t.toList.isEmpty = false := bl_more t ht
            have htn : bl t ≠ [] := fun e => ht (by rw [← bl_size, e]; rfl)
            obtain ⟨C, hC⟩ : ∃ C, str (closeL (bl t)) = C := ⟨_, rfl⟩
            have hCs : C.size ≤ 72 := by rw [← hC, str_size]; have := closeL_len (bl t); rw [bl_size] at this; omega
            obtain ⟨B2, hB2⟩ : ∃ B2, S ++ (⟨#[62]⟩ : ByteArray) = B2 := ⟨_, rfl⟩
            obtain ⟨B3, hB3⟩ : ∃ B3, B2 ++ C = B3 := ⟨_, rfl⟩
            obtain ⟨B4, hB4⟩ : ∃ B4, B3 ++ (⟨#[60, 47]⟩ : ByteArray) = B4 := ⟨_, rfl⟩
            obtain ⟨B5, hB5⟩ : ∃ B5, B4 ++ n = B5 := ⟨_, rfl⟩
            have z2 : B2.size = S.size + 1 := by rw [← hB2, ByteArray.size_append]; rfl
            have z3 : B3.size = B2.size + C.size := by rw [← hB3, ByteArray.size_append]
            have z4 : B4.size = B3.size + 2 := by rw [← hB4, ByteArray.size_append]; rfl
            have z5 : B5.size = B4.size + n.size := by rw [← hB5, ByteArray.size_append]
            have q2 : ¬ 9223372036854775807 < S.size + 1 := by omega
            have q3 : ¬ 9223372036854775807 < B2.size + C.size := by omega
            have q4 : ¬ 9223372036854775807 < B3.size + 2 := by omega
            have q5 : ¬ 9223372036854775807 < B4.size + n.size := by omega
            have q6 : ¬ 9223372036854775807 < B5.size + 2 := by omega
            have CC := fun wx => (rclose t wx (by omega)).mono (fun e w' (h : _ ∧ wx = w') => (show e = .returned (.string C) ∧ w' = wx from ⟨by rw [← hC]; exact h.1, h.2.symm⟩))
            have CC := Lib.hid CC
            have HE := Lib.hid (show B5 ++ ⟨#[62, 10]⟩ = str (textT (.mk s n A [] t) sp pad) by
              have e : headT s n sp A pad ++ (62 :: (closeL (bl t) ++ (60 :: 47 :: (bl n ++ [62, 10])))) = (((headT s n sp A pad ++ [62]) ++ closeL (bl t)) ++ [60, 47]) ++ bl n ++ [62, 10] := by simp
              rw [text_text htn, e, ← str_append, ← str_append, ← str_append, ← str_append, ← str_append, bl_str, hC, HS.out, ← hB5, ← hB4, ← hB3, ← hB2]
              rfl)
            clear z2 z3 z4 z5 hC hCs ht htn
            go_wp2_with fail
            go_quiet ((go_at_call 22; exact Calls.quiet_of_same (CC.out _)))
            go_wp2_with fail
            go_ret
            exact ⟨by rw [HE.out]; rfl, HBW.out.trans ((below_drewN _ _).mono HBW.out.size)⟩
        · have hKp : 0 < K.length := Nat.pos_of_ne_zero fun e => hK (List.eq_nil_of_length_eq_zero e)
          have hKi : (0 : Int) < (K.length : Int) := by omega
          obtain ⟨g1, o1, rfl, _, hg1, hkc⟩ := HXK.out hKp
          have HKc := Lib.hid hkc
          have HKn := Lib.hid hK
          clear hkc hK
          go_wp2_with fail
          obtain ⟨S1, hS1⟩ : ∃ S1, S ++ (⟨#[62, 10]⟩ : ByteArray) = S1 := ⟨_, rfl⟩
          rw [hS1]
          have HS1 := Lib.hid (show S1 = str (midT s n sp A (K.take 0) pad) by
            have e : midT s n sp A (K.take 0) pad = headT s n sp A pad ++ [62, 10] := by unfold midT; rw [List.take_zero, kidsT]; rfl
            rw [e, ← str_append, HS.out, ← hS1]; rfl)
          clear hS1 hS2 x2 x4
          go_loopg [7, 9] K.length (fun g sv i wx => ∃ k, g + k = K.length ∧ i = .int .i64 (k : Nat) ∧ sv = .string (str (midT s n sp A (K.take k) pad)) ∧ Below wr.heap.size wr wx)
          case atStart => exact ⟨0, by omega, rfl, by rw [HS1.out], Below.refl _ _⟩
          case round =>
            obtain ⟨j, hg, rfl, rfl, hbx⟩ := hrel
            have hX := (hbx.block _ (by have := HBR.out.size; have := HSW.out; have := HQ.out; omega)).trans HX.out
            have x3 := Lib.cell_of_heap hX 3
            have x0 := Lib.cell_of_heap hX 0
            have x1 := Lib.cell_of_heap hX 1
            simp only [List.getElem?_toArray, List.getElem?_cons_zero, List.getElem?_cons_succ] at x0 x1 x3
            have hml := mid_len (s := s) (n := n) (sp := sp) (pad := pad) HB.out j
            have hpl : lenB (d + 1) pad.length = 500 + pad.length + 3 * (1 + (pad.length + 1) + lenB d (pad.length + 1)) := rfl
            obtain ⟨S2, hS2⟩ : ∃ S2, str (midT s n sp A (K.take j) pad) = S2 := ⟨_, rfl⟩
            have hS2s : S2.size ≤ 1001000 := by rw [← hS2, str_size]; have := HPL.out; omega
            rw [hS2]
            have hps : PAD.size ≤ 1000000 := by rw [← HPAD.out, str_size]; have := HPL.out; omega
            by_cases hj : j < K.length
            · have hj' : (j : Int) < (K.length : Int) := by omega
              have hbw := HBW.out.trans (hbx.mono HBW.out.size)
              have k0 := (hbw.cell (p := ⟨g1, o1 + j * 5 + 0, none⟩) hg1).trans (HKc.out j hj 0 (by decide))
              have k1 := (hbw.cell (p := ⟨g1, o1 + j * 5 + 1, none⟩) hg1).trans (HKc.out j hj 1 (by decide))
              have k2 := (hbw.cell (p := ⟨g1, o1 + j * 5 + 2, none⟩) hg1).trans (HKc.out j hj 2 (by decide))
              have k3 := (hbw.cell (p := ⟨g1, o1 + j * 5 + 3, none⟩) hg1).trans (HKc.out j hj 3 (by decide))
              have k4 := (hbw.cell (p := ⟨g1, o1 + j * 5 + 4, none⟩) hg1).trans (HKc.out j hj 4 (by decide))
              rw [Nat.add_zero] at k0
              obtain ⟨PAD2, hPAD2⟩ : ∃ PAD2, PAD ++ (⟨#[32]⟩ : ByteArray) = PAD2 := ⟨_, rfl⟩
              have hP2 : str (pad ++ [32]) = PAD2 := by rw [← str_append, HPAD.out, ← hPAD2]; rfl
              have CT := fun (wy : World) (hb : Below wr.heap.size wr wy) => HIH.out (K[j]'hj) (.agg #[xc j 0, xc j 1, xc j 2, xc j 3, xc j 4]) s (pad ++ [32]) wy ((HXN.out j hj).to (Nat.le_trans hbw.size hb.size) fun g _ hg => ⟨trivial, (hb.block g (Nat.lt_of_lt_of_le hg hbw.size)).trans (hbw.block g hg)⟩)
                (HB.out.kids _ (List.getElem_mem hj)) (by have := HPL.out; rw [List.length_append]; show pad.length + 1 + lenB d (pad.length + 1) ≤ _; omega)
              have hnx := mid_next (s := s) (n := n) (sp := sp) (A := A) (pad := pad) hj
              obtain ⟨TX, hTX⟩ : ∃ TX, str (textT (K[j]'hj) s (pad ++ [32])) = TX := ⟨_, rfl⟩
              have hml2 := mid_len (s := s) (n := n) (sp := sp) (pad := pad) HB.out (j + 1)
              have hTs : S2.size + TX.size ≤ 1001000 := by
                have := congrArg List.length hnx
                rw [List.length_append] at this
                rw [← hS2, ← hTX, str_size, str_size]
                have := HPL.out
                omega
              rw [hP2, hTX] at CT
              have CT := Lib.hid CT
              have q1 : ¬ 9223372036854775807 < PAD.size + 1 := by omega
              have q2 : ¬ 9223372036854775807 < S2.size + TX.size := by omega
              have HE := Lib.hid (show Value.string (S2 ++ TX) = .string (str (midT s n sp A (K.take (j + 1)) pad)) by rw [hnx, ← str_append, hS2, hTX])
              have HBX := Lib.hid hbx
              clear hS2s hml hpl hps hP2 hnx hml2 hTs hTX hS2 hbx hbw x1
              go_wp2_with fail
              go_region_with (go_at_call 7; refine (CT.out _ (by first | exact Below.refl _ _ | exact (Below.refl _ _).drew)).mono ?_; rintro e wz ⟨rfl, hbz⟩; have HBZ := Lib.hid hbz; clear hbz)
              all_goals
                have HBZ2 := Lib.hid (show Below wr.heap.size wr wz from by first | exact HBZ.out | exact ((Below.refl _ _).drew).trans HBZ.out)
                go_wp2_with fail
                go_roundg (K.length - (j + 1))
                case measure => omega
                case rel => exact ⟨j + 1, by omega, by go_num, HE.out, HBX.out.trans (HBZ2.out.mono HBX.out.size)⟩
            · have hj' : ¬ (j : Int) < (K.length : Int) := by omega
              have htl : K.take j = K := List.take_of_length_le (by omega)
              rw [htl] at hS2
              obtain ⟨B2, hB2⟩ : ∃ B2, S2 ++ PAD = B2 := ⟨_, rfl⟩
              obtain ⟨B3, hB3⟩ : ∃ B3, B2 ++ (⟨#[60, 47]⟩ : ByteArray) = B3 := ⟨_, rfl⟩
              obtain ⟨B4, hB4⟩ : ∃ B4, B3 ++ n = B4 := ⟨_, rfl⟩
              have z2 : B2.size = S2.size + PAD.size := by rw [← hB2, ByteArray.size_append]
              have z3 : B3.size = B2.size + 2 := by rw [← hB3, ByteArray.size_append]; rfl
              have z4 : B4.size = B3.size + n.size := by rw [← hB4, ByteArray.size_append]
              have q2 : ¬ 9223372036854775807 < S2.size + PAD.size := by omega
              have q3 : ¬ 9223372036854775807 < B2.size + 2 := by omega
              have q4 : ¬ 9223372036854775807 < B3.size + n.size := by omega
              have q5 : ¬ 9223372036854775807 < B4.size + 2 := by omega
              have HE := Lib.hid (show B4 ++ ⟨#[62, 10]⟩ = str (textT (.mk s n A K t) sp pad) by
                rw [mid_done HKn.out, ← str_append, ← str_append, ← str_append, ← str_append, bl_str, HPAD.out, hS2, ← hB4, ← hB3, ← hB2]
                rfl)
              have HBX := Lib.hid (HBW.out.trans (hbx.mono HBW.out.size))
              clear hS2s hml hpl hps hS2 hbx hj htl z2 z3 z4 x0
              go_wp2_with fail
              go_ret
              exact ⟨by rw [HE.out]; rfl, HBX.out⟩
theorem text_spec : ∀ d, TextSpec d
  | 0 => text_one 0 fun d' h => absurd h (by omega)
  | d + 1 => text_one (d + 1) fun d' h => by
    have e : d' = d := by omega
    rw [e]; exact text_spec d

end Go.Proofs.YtnlkpdodacphkaaGreatDoor
