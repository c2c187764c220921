/-
  What is written of an element: (*write.document).element.
  Which elements may be, with those within: write's may, May; and their texts: write.Text.
  Which elements may be: what is known of those of few parts; plain mathematics.
-/
import Derived.Test.YtnlkpdodacphkaaGreatDoorA16
import Derived.Test.YtnlkpdodacphkaaGreatDoorA13
import Derived.Test.YtnlkpdodacphkaaGreatDoorA3
import Derived.Test.YtnlkpdodacphkaaGreatDoorA18
import Derived.Test.YtnlkpdodacphkaaGreatDoorA19
import Derived.Deep.LoopGhost
import Derived.IntWalk
import Derived.Test.YtnlkpdodacphkaaGreatDoorA15
import Derived.Test.YtnlkpdodacphkaaGreatDoorA4
namespace Go.Proofs.YtnlkpdodacphkaaGreatDoor
open Go Go.RowKit Go.Lib
set_option maxRecDepth 100000

/-! ### the text, part by part -/
theorem rep32 (c : Nat) : (⟨(Lib.repeatL (⟨#[32]⟩ : ByteArray).data.toList c).toArray⟩ : ByteArray) = str (List.replicate c 32) := by
  have e : ∀ c, Lib.repeatL ([32] : List UInt8) c = List.replicate c 32 := by
    intro c
    induction c with
    | zero => rfl
    | succ c ih => rw [Lib.repeatL, ih, List.replicate_succ]; rfl
  show str (Lib.repeatL [32] c) = _
  rw [e]
/-- How an element's text begins; what it tells of the space; its attributes; its end. -/
def elH (n : ByteArray) (pad : List UInt8) : List UInt8 := pad ++ 60 :: bl n
def elX (s sp : ByteArray) : List UInt8 := if s = sp then [] else [32] ++ atT bXm (bl s)
def elA (A : List Att) : List UInt8 := A.flatMap fun a => [32] ++ atT (bl a.1) (bl a.2)
def elK (s : ByteArray) (pad : List UInt8) (K : List Nd) : List UInt8 := K.flatMap fun k => textT k s (pad ++ [32])
def elE (n : ByteArray) : List UInt8 := 60 :: 47 :: (bl n ++ [62, 10])
theorem kids_w (s : ByteArray) (pad : List UInt8) : ∀ (K : List Nd) (r : List UInt8), kidsT K s pad ++ 10 :: r = 10 :: ((K.flatMap fun k => textT k s pad) ++ r)
  | [], r => by rw [kidsT]; rfl
  | k :: K, r => by
    have ih := kids_w s pad K r
    rw [kidsT, List.flatMap_cons]
    unfold textT
    simp only [List.cons_append, List.append_assoc, ih]
    rfl
theorem el_text (s n t : ByteArray) (A : List Att) (K : List Nd) (sp : ByteArray) (pad : List UInt8) :
    textT (.mk s n A K t) sp pad = elH n pad ++ (elX s sp ++ (elA A ++
      (if K.isEmpty = true then (if bl t = [] then [47, 62, 10] else 62 :: (closeL (bl t) ++ elE n)) else 62 :: 10 :: (elK s pad K ++ (pad ++ elE n))))) := by
  have e : atsT [32] (tagA s sp A) = elX s sp ++ elA A := by
    unfold atsT tagA elX elA
    rw [List.flatMap_append, List.flatMap_map]
    split
    · rfl
    · simp
  unfold textT
  rw [bodyT, e]
  unfold elH
  split
  · split
    · simp
    · unfold elE; simp
  · have h := kids_w s (pad ++ [32]) K (pad ++ (60 :: 47 :: (bl n ++ [62, 10])))
    unfold elK elE
    have e2 : kidsT K s (pad ++ [32]) ++ 10 :: (pad ++ 60 :: 47 :: (bl n ++ [62])) ++ [10] = kidsT K s (pad ++ [32]) ++ 10 :: (pad ++ 60 :: 47 :: (bl n ++ [62, 10])) := by simp
    simp only [List.cons_append, List.append_assoc] at e2 h ⊢
    rw [e2, h]
theorem elA_take (A : List Att) (k : Nat) (h : k < A.length) : elA (A.take (k + 1)) = elA (A.take k) ++ ([32] ++ atT (bl (A[k]'h).1) (bl (A[k]'h).2)) := by
  unfold elA
  rw [List.take_succ_eq_append_getElem h, List.flatMap_append]
  simp
theorem elA_part (A : List Att) (k : Nat) : (elA (A.take k)).length ≤ (elA A).length := by
  have h : elA A = elA (A.take k) ++ elA (A.drop k) := by unfold elA; rw [← List.flatMap_append, List.take_append_drop]
  rw [h, List.length_append]; omega
theorem elK_take (s : ByteArray) (pad : List UInt8) (K : List Nd) (k : Nat) (h : k < K.length) : elK s pad (K.take (k + 1)) = elK s pad (K.take k) ++ textT (K[k]'h) s (pad ++ [32]) := by
  unfold elK
  rw [List.take_succ_eq_append_getElem h, List.flatMap_append]
  simp
theorem elK_part (s : ByteArray) (pad : List UInt8) (K : List Nd) (k : Nat) : (elK s pad (K.take k)).length ≤ (elK s pad K).length := by
  have h : elK s pad K = elK s pad (K.take k) ++ elK s pad (K.drop k) := by unfold elK; rw [← List.flatMap_append, List.take_append_drop]
  rw [h, List.length_append]; omega
theorem elA_len : ∀ A : List Att, A.length ≤ (elA A).length
  | [] => Nat.le_refl _
  | a :: A => by
    have ih := elA_len A
    unfold elA at ih ⊢
    rw [List.flatMap_cons, List.length_append, List.length_append, List.length_cons]
    show _ + 1 ≤ 1 + _ + _
    omega
theorem elK_len (s : ByteArray) (pad : List UInt8) : ∀ K : List Nd, K.length ≤ (elK s pad K).length
  | [] => Nat.le_refl _
  | k :: K => by
    have ih := elK_len s pad K
    unfold elK at ih ⊢
    rw [List.flatMap_cons, List.length_append, List.length_cons]
    have : 1 ≤ (textT k s (pad ++ [32])).length := by unfold textT; simp; omega
    omega
/-- What is known of a document that is written, within an element's call. -/
structure WS (B b Q : Nat) (w0 : World) (X : Array Value) (l : List UInt8) (w : World) : Prop where
  doc : DocW B b l w
  box : w.heap[Q]? = some (.cells X 25 (0, 0))
  below : Below B w0 w
  kept : Kept wriT w0 w
  glob : Glob B w
theorem WS.step {B b Q : Nat} {w0 w w' : World} {X : Array Value} {l l' : List UInt8} (h : WS B b Q w0 X l w) (hd : DocW B b l' w') (hb : Below B w w') (hk : Kept wriT w w') : WS B b Q w0 X l' w' :=
  ⟨hd, hk.heap h.box (by decide), h.below.trans hb, h.kept.trans hk, h.glob.step hb⟩
theorem WS.quiet {B b Q : Nat} {w0 w w' : World} {X : Array Value} {l : List UInt8} (h : WS B b Q w0 X l w) (hb : Below w.heap.size w w') : WS B b Q w0 X l w' :=
  h.step (docw_below h.doc hb) (hb.mono h.glob.le) (Kept.of _ hb)
theorem WS.alloc {B b Q : Nat} {w0 w : World} {X : Array Value} {l : List UInt8} (h : WS B b Q w0 X l w) (o : Obj) : WS B b Q w0 X l (w.alloc o) := h.quiet ((Below.refl _ _).alloc (Nat.le_refl _) _)
theorem WS.cell {B b Q : Nat} {w0 w : World} {X : Array Value} {l : List UInt8} (h : WS B b Q w0 X l w) (j : Nat) : w.cell? ⟨Q, j, none⟩ = X[j]? := by rw [Lib.cell_of_heap h.box]
/-- What element leaves. -/
def ElemSpec (d : Nat) : Prop := ∀ (B b m : Nat) (x : Nd) (v : Value) (sp : ByteArray) (l : List UInt8) (w : World), NodeV (fun g => g < B) w v x → DocW B b l w → Glob B w → x.depth ≤ d → l.length + (textT x sp (List.replicate m 32)).length ≤ 200000 →
  Calls Tryz.prog 30 #[.pointer (some ⟨b, 0, none⟩), v, .string sp, .int .i64 m] w fun e w' => e = .returned (.tuple #[]) ∧ DocW B b (l ++ textT x sp (List.replicate m 32)) w' ∧ Below B w w' ∧ Kept wriT w w'

set_option maxHeartbeats 8000000 in
theorem elem_one (d : Nat) (hIH : ElemSpec d) : ElemSpec (d + 1) := by
  intro B b m x v sp l w hv hD hG hd hlen
  obtain ⟨s, n, t, A, K, xa, xac, xk, xkc, xc, rfl, rfl, hxa, hxk, hxn⟩ := parts06 hv
  have hdep : (Nd.mk s n A K t).depth = 1 + depthK K := by rw [Nd.depth]
  rw [hdep] at hd
  obtain ⟨PD, hPD⟩ : ∃ PD, List.replicate m (32 : UInt8) = PD := ⟨_, rfl⟩
  rw [hPD] at hlen ⊢
  have hm : PD.length = m := by rw [← hPD, List.length_replicate]
  have hpd1 : List.replicate (m + 1) (32 : UInt8) = PD ++ [32] := by rw [← hPD, List.replicate_succ']
  rw [el_text] at hlen ⊢
  obtain ⟨TL, hTL⟩ : ∃ TL, (if K.isEmpty = true then (if bl t = [] then [47, 62, 10] else 62 :: (closeL (bl t) ++ elE n)) else 62 :: 10 :: (elK s PD K ++ (PD ++ elE n))) = TL := ⟨_, rfl⟩
  rw [hTL] at hlen ⊢
  obtain ⟨PB, hPB⟩ : ∃ PB, str PD = PB := ⟨_, rfl⟩
  have hPBl : bl PB = PD := by rw [← hPB, str_bl]
  have hlen' : l.length + ((elH n PD).length + ((elX s sp).length + ((elA A).length + TL.length))) ≤ 200000 := by simpa only [List.length_append] using hlen
  have hH : (elH n PD).length = m + 1 + n.size := by unfold elH; rw [List.length_append, List.length_cons, hm, bl_size]; omega
  have hA1 := (Below.refl w.heap.size w).alloc (Nat.le_refl _) (.cells #[.string s, .string n, .slice xa A.length xac, .slice xk K.length xkc, .string t] 25)
  obtain ⟨Q, hQ⟩ : ∃ Q, w.heap.size = Q := ⟨_, rfl⟩
  have hW0 : WS B b Q w #[.string s, .string n, .slice xa A.length xac, .slice xk K.length xkc, .string t] l (w.alloc (.cells #[.string s, .string n, .slice xa A.length xac, .slice xk K.length xkc, .string t] 25)) :=
    ⟨docw_below hD hA1, by rw [← hQ]; exact heap_alloc_new w _, hA1.mono hG.le, Kept.of _ hA1, hG.step (hA1.mono hG.le)⟩
  obtain ⟨w0, hw0⟩ : ∃ w0, w.alloc (.cells #[.string s, .string n, .slice xa A.length xac, .slice xk K.length xkc, .string t] 25) = w0 := ⟨_, rfl⟩
  rw [hw0] at hW0
  have CR := Tryz.strings_Repeat ⟨#[32]⟩ m w0 (by omega) (by show 1 * m ≤ _; omega)
  rw [rep32, hPD, hPB] at CR
  have CR := Lib.hid CR
  have HW0 := Lib.hid hW0
  have HIH := Lib.hid hIH
  have HXA := Lib.hid hxa
  have HXK := Lib.hid hxk
  have HXN := Lib.hid hxn
  have HD := Lib.hid hd
  have HL := Lib.hid hlen'
  have HH := Lib.hid hH
  have HM := Lib.hid hm
  have HTL := Lib.hid hTL
  have HP1 := Lib.hid hpd1
  have HPB := Lib.hid hPBl
  clear hA1 hIH hxa hxk hxn hv hD hG hd hlen hlen' hdep hPD hm hTL hPB hPBl hW0 hH hpd1
  go_enter Tryz.func30, Tryz.ntmps30
  go_wp2_with fail
  refine CR.out.mono ?_
  rintro e w1 ⟨rfl, hb1⟩
  have HW1 := Lib.hid (HW0.out.quiet hb1)
  clear hb1 CR hw0
  have x1 := HW1.out.cell 1
  simp only [List.getElem?_toArray, List.getElem?_cons_zero, List.getElem?_cons_succ] at x1
  have HP := Lib.hid (wput B b w1.heap.size 3 [PB, ⟨#[60]⟩, n] l (w1.alloc (.cells #[.string PB, .string ⟨#[60]⟩, .string n] 9)) (HW1.out.alloc _).doc (by have := HL.out; have := HH.out; have := HM.out; show _ + (PB.size + (1 + (n.size + 0))) ≤ _; rw [← bl_size PB, HPB.out]; omega) (by simp) (rowS_new w1 [PB, ⟨#[60]⟩, n] _ rfl) (HW1.out.alloc _).glob.le)
  go_wp2_with fail
  refine HP.out.mono ?_
  rintro e w2 ⟨rfl, hd, hb, hk⟩
  have HW2 := Lib.hid (show WS B b Q w #[.string s, .string n, .slice xa A.length xac, .slice xk K.length xkc, .string t] (l ++ elH n PD) w2 by
    have e : ([PB, ⟨#[60]⟩, n] : List ByteArray).flatMap bl = elH n PD := by
      unfold elH; rw [← HPB.out]; simp [List.flatMap_cons, bl]
    rw [e] at hd
    exact (HW1.out.alloc _).step hd hb hk)
  clear hd hb hk HP HW1 HW0 x1
  have x0 := HW2.out.cell 0
  simp only [List.getElem?_toArray, List.getElem?_cons_zero] at x0
  go_upto_if 24 with (fail)
  go_cut [24] (fun _ wx => Hid (WS B b Q w #[.string s, .string n, .slice xa A.length xac, .slice xk K.length xkc, .string t] (l ++ elH n PD ++ elX s sp) wx))
  case first =>
    by_cases hs : s = sp
    · have q : (!(s.toList == sp.toList)) = false := by rw [hs]; simp
      have HF := Lib.hid (show WS B b Q w #[.string s, .string n, .slice xa A.length xac, .slice xk K.length xkc, .string t] (l ++ elH n PD ++ elX s sp) w2 by unfold elX; rw [if_pos hs, List.append_nil]; exact HW2.out)
      clear hs
      go_wp2_with fail
      · exact absurd ‹(!(s.toList == sp.toList)) = true› (by rw [q]; decide)
      · go_meet
        exact HF
    · have q : (!(s.toList == sp.toList)) = true := by
        rw [Bool.not_eq_true', beq_eq_false_iff_ne]
        exact fun e => hs (tl_inj e)
      have hX : elX s sp = [32] ++ atT bXm (bl s) := by unfold elX; rw [if_neg hs]
      have HC := Lib.hid (wattr B b bXmlns s (l ++ elH n PD) w2 HW2.out.doc (by have := HL.out; rw [hX] at this; rw [List.length_append]; show _ + ([32] ++ atT bXm (bl s)).length ≤ _; omega) HW2.out.glob HW2.out.glob.le)
      have HX := Lib.hid hX
      clear hs hX
      go_wp2_with fail
      · refine HC.out.mono ?_
        rintro e w3 ⟨rfl, hd, hb, hk⟩
        have HF := Lib.hid (show WS B b Q w #[.string s, .string n, .slice xa A.length xac, .slice xk K.length xkc, .string t] (l ++ elH n PD ++ elX s sp) w3 by rw [HX.out]; exact HW2.out.step hd hb hk)
        clear hd hb hk
        go_wp2_with fail
        go_meet
        exact HF
      · exact absurd ‹(!(s.toList == sp.toList)) = false› (by rw [q]; decide)
  case rest =>
    clear x0 HW2
    obtain ⟨L1, hL1⟩ : ∃ L1, l ++ elH n PD ++ elX s sp = L1 := ⟨_, rfl⟩
    have hl1 : L1.length + ((elA A).length + TL.length) ≤ 200000 := by
      have := HL.out
      rw [← hL1, List.length_append, List.length_append]
      omega
    rw [hL1] at hcut
    have HL1 := Lib.hid hL1
    have HLL := Lib.hid hl1
    clear hL1 hl1
    have x2 := hcut.out.cell 2
    simp only [List.getElem?_toArray, List.getElem?_cons_zero, List.getElem?_cons_succ] at x2
    go_wp2_with fail
    go_loopg [10, 32] A.length (fun g u i wr => ∃ k, g + k = A.length ∧ i = .int .i64 (k : Nat) ∧ Hid (WS B b Q w #[.string s, .string n, .slice xa A.length xac, .slice xk K.length xkc, .string t] (L1 ++ elA (A.take k)) wr))
    case atStart => exact ⟨0, by omega, rfl, Lib.hid (by rw [List.take_zero]; unfold elA; rw [List.flatMap_nil, List.append_nil]; exact hcut.out)⟩
    case round =>
      clear hcut x2
      obtain ⟨k, hg, rfl, HW⟩ := hrel
      have hAl := elA_len A
      by_cases hk : k < A.length
      · have hk' : (k : Int) < (A.length : Int) := by omega
        obtain ⟨g0, o0, rfl, hgB, hg0, hcell⟩ := HXA.out (by omega)
        obtain ⟨c0, c1⟩ := hcell k hk
        obtain ⟨⟨an, av⟩, hav⟩ : ∃ y, A[k]'hk = y := ⟨_, rfl⟩
        rw [hav] at c0 c1
        have a0 := (HW.out.below.cell (p := ⟨g0, o0 + k * 2, none⟩) hgB).trans c0
        have a1 := (HW.out.below.cell (p := ⟨g0, o0 + k * 2 + 1, none⟩) hgB).trans c1
        have htake : elA (A.take (k + 1)) = elA (A.take k) ++ ([32] ++ atT (bl an) (bl av)) := by rw [elA_take A k hk, hav]
        have hpart := elA_part A (k + 1)
        have hAk : (A.length : Int) ≤ 200000 := by have := HLL.out; omega
        rw [htake, List.length_append] at hpart
        have HWA := Lib.hid (HW.out.alloc (.cells #[.string an, .string av] 56))
        have hbx := heap_alloc_new wr (.cells #[.string an, .string av] 56)
        have b0 := Lib.cell_of_heap hbx 0
        have b1 := Lib.cell_of_heap hbx 1
        simp only [List.getElem?_toArray, List.getElem?_cons_zero, List.getElem?_cons_succ] at b0 b1
        have HC := Lib.hid (wattr B b an av (L1 ++ elA (A.take k)) _ HWA.out.doc (by have := HLL.out; rw [List.length_append]; show _ + ([32] ++ atT (bl an) (bl av)).length ≤ _; omega) HWA.out.glob HWA.out.glob.le)
        have HT := Lib.hid htake
        clear c0 c1 hcell hav htake hpart hbx hAl
        go_wp2_with fail
        refine HC.out.mono ?_
        rintro e w3 ⟨rfl, hd, hb, hkk⟩
        have HF := Lib.hid (show WS B b Q w _ (L1 ++ elA (A.take (k + 1))) w3 by
          rw [HT.out, ← List.append_assoc]
          exact HWA.out.step hd hb hkk)
        clear hd hb hkk HC HWA b0 b1 a0 a1 HT
        go_wp2_with fail
        go_roundg (A.length - (k + 1))
        case measure => omega
        case rel => exact ⟨k + 1, by omega, by go_num, HF⟩
      · have hk' : ¬ (k : Int) < (A.length : Int) := by omega
        obtain ⟨L2, hL2⟩ : ∃ L2, L1 ++ elA A = L2 := ⟨_, rfl⟩
        have HW2 := Lib.hid (show WS B b Q w #[.string s, .string n, .slice xa A.length xac, .slice xk K.length xkc, .string t] L2 wr by
          have h := HW.out
          rw [List.take_of_length_le (by omega), hL2] at h
          exact h)
        have hl2 : L2.length + TL.length ≤ 200000 := by
          have := HLL.out
          rw [← hL2, List.length_append]
          omega
        have HL2 := Lib.hid hL2
        have HLT := Lib.hid hl2
        have HFIN := Lib.hid (show ∀ wx, DocW B b (L2 ++ TL) wx → DocW B b (l ++ (elH n PD ++ (elX s sp ++ (elA A ++ TL)))) wx from fun wx h => by
          have e : l ++ (elH n PD ++ (elX s sp ++ (elA A ++ TL))) = L2 ++ TL := by
            rw [← HL2.out, ← HL1.out]; simp only [List.append_assoc]
          rw [e]; exact h)
        have x1 := HW2.out.cell 1
        have x3 := HW2.out.cell 3
        have x4 := HW2.out.cell 4
        simp only [List.getElem?_toArray, List.getElem?_cons_zero, List.getElem?_cons_succ] at x1 x3 x4
        clear hL2 hl2 hAl HW HLL HL1 HL2 hg hk HXA
        by_cases hK : K = []
        · subst hK
          have hKl : ([] : List Nd).length = 0 := rfl
          by_cases ht : t.size = 0
          · have q : t.toList.isEmpty = true := bl_empty t ht
            have htl : TL = [47, 62, 10] := by rw [← HTL.out, if_pos (show ([] : List Nd).isEmpty = true from rfl), if_pos (by rw [← List.length_eq_zero_iff, bl_size]; exact ht)]
            have HP := Lib.hid (wput B b wr.heap.size 1 [⟨#[47, 62, 10]⟩] L2 (wr.alloc (.cells #[.string ⟨#[47, 62, 10]⟩] 9)) (HW2.out.alloc _).doc (by have := HLT.out; rw [htl] at this; exact this) (by simp) (rowS_new wr [⟨#[47, 62, 10]⟩] _ rfl) (HW2.out.alloc _).glob.le)
            have HTL2 := Lib.hid htl
            clear ht htl
            go_wp2_with fail
            refine HP.out.mono ?_
            rintro e w3 ⟨rfl, hd, hb, hkk⟩
            have h3 := (HW2.out.alloc _).step hd hb hkk
            have HD3 := Lib.hid (HFIN.out w3 (by rw [HTL2.out]; exact h3.doc))
            have HB3 := Lib.hid h3.below
            have HK3 := Lib.hid h3.kept
            clear hd hb hkk h3 HP
            go_wp2_with fail
            go_end0
            exact ⟨rfl, HD3.out, HB3.out, HK3.out⟩
          · have q : t.toList.isEmpty = false := bl_more t ht
            have htn : bl t ≠ [] := fun e => ht (by rw [← bl_size, e]; rfl)
            have htl : TL = 62 :: (closeL (bl t) ++ elE n) := by rw [← HTL.out, if_pos (show ([] : List Nd).isEmpty = true from rfl), if_neg htn]
            have hll : L2.length + (1 + ((closeL (bl t)).length + (2 + (n.size + 2)))) ≤ 200000 := by
              have := HLT.out
              rw [htl] at this
              unfold elE at this
              simp only [List.length_cons, List.length_append, List.length_nil, bl_size] at this
              omega
            have HLN := Lib.hid hll
            have HTL2 := Lib.hid htl
            have HP := Lib.hid (wput B b wr.heap.size 1 [⟨#[62]⟩] L2 (wr.alloc (.cells #[.string ⟨#[62]⟩] 9)) (HW2.out.alloc _).doc (by show _ + (1 + 0) ≤ _; omega) (by simp) (rowS_new wr [⟨#[62]⟩] _ rfl) (HW2.out.alloc _).glob.le)
            clear ht htn htl hll
            go_wp2_with fail
            refine HP.out.mono ?_
            rintro e w3 ⟨rfl, hd, hb, hkk⟩
            have HW3 := Lib.hid (show WS B b Q w #[.string s, .string n, .slice xa A.length xac, .slice xk ([] : List Nd).length xkc, .string t] (L2 ++ [62]) w3 from (HW2.out.alloc _).step hd hb hkk)
            have y4 := HW3.out.cell 4
            simp only [List.getElem?_toArray, List.getElem?_cons_zero, List.getElem?_cons_succ] at y4
            have HC := Lib.hid (wclose B b t (L2 ++ [62]) w3 HW3.out.doc (by have := HLN.out; rw [List.length_append]; show _ + 1 + _ ≤ _; omega) HW3.out.glob HW3.out.glob.le)
            clear hd hb hkk HP x1 x3 x4
            go_wp2_with fail
            refine HC.out.mono ?_
            rintro e w4 ⟨rfl, hd, hb, hkk⟩
            have HW4 := Lib.hid (show WS B b Q w #[.string s, .string n, .slice xa A.length xac, .slice xk ([] : List Nd).length xkc, .string t] (L2 ++ [62] ++ closeL (bl t)) w4 from HW3.out.step hd hb hkk)
            have y1 := HW4.out.cell 1
            simp only [List.getElem?_toArray, List.getElem?_cons_zero, List.getElem?_cons_succ] at y1
            have HP := Lib.hid (wput B b w4.heap.size 3 [⟨#[60, 47]⟩, n, ⟨#[62, 10]⟩] (L2 ++ [62] ++ closeL (bl t)) (w4.alloc (.cells #[.string ⟨#[60, 47]⟩, .string n, .string ⟨#[62, 10]⟩] 9)) (HW4.out.alloc _).doc (by have := HLN.out; rw [List.length_append, List.length_append]; show _ + 1 + _ + (2 + (n.size + (2 + 0))) ≤ _; omega) (by simp) (rowS_new w4 [⟨#[60, 47]⟩, n, ⟨#[62, 10]⟩] _ rfl) (HW4.out.alloc _).glob.le)
            clear hd hb hkk HC y4
            go_wp2_with fail
            refine HP.out.mono ?_
            rintro e w5 ⟨rfl, hd, hb, hkk⟩
            have h5 := (HW4.out.alloc (.cells #[.string ⟨#[60, 47]⟩, .string n, .string ⟨#[62, 10]⟩] 9)).step hd hb hkk
            have HD5 := Lib.hid (HFIN.out w5 (by
              have e : L2 ++ TL = L2 ++ [62] ++ closeL (bl t) ++ ([⟨#[60, 47]⟩, n, ⟨#[62, 10]⟩] : List ByteArray).flatMap bl := by
                rw [HTL2.out]; unfold elE; simp [List.flatMap_cons, bl]
              rw [e]; exact hd))
            have HB5 := Lib.hid h5.below
            have HK5 := Lib.hid h5.kept
            clear hd hb hkk h5 HP y1
            go_wp2_with fail
            go_end0
            exact ⟨rfl, HD5.out, HB5.out, HK5.out⟩
        · have hKp : 0 < K.length := Nat.pos_of_ne_zero fun e => hK (List.eq_nil_of_length_eq_zero e)
          have hKi : (0 : Int) < (K.length : Int) := by omega
          have htl : TL = 62 :: 10 :: (elK s PD K ++ (PD ++ elE n)) := by rw [← HTL.out, if_neg (fun e => hK (List.isEmpty_iff.1 e))]
          have hll : L2.length + (2 + ((elK s PD K).length + (PD.length + (2 + (n.size + 2))))) ≤ 200000 := by
            have := HLT.out
            rw [htl] at this
            unfold elE at this
            simp only [List.length_cons, List.length_append, List.length_nil, bl_size] at this
            omega
          obtain ⟨g1, o1, rfl, hgB, hg1, hkc⟩ := HXK.out hKp
          have HKC := Lib.hid hkc
          have HLN := Lib.hid hll
          have HTL2 := Lib.hid htl
          have HP := Lib.hid (wput B b wr.heap.size 1 [⟨#[62, 10]⟩] L2 (wr.alloc (.cells #[.string ⟨#[62, 10]⟩] 9)) (HW2.out.alloc _).doc (by show _ + (2 + 0) ≤ _; omega) (by simp) (rowS_new wr [⟨#[62, 10]⟩] _ rfl) (HW2.out.alloc _).glob.le)
          clear htl hll hK hkc x4 x1
          go_wp2_with fail
          refine HP.out.mono ?_
          rintro e w3 ⟨rfl, hd, hb, hkk⟩
          have HW3 := Lib.hid (show WS B b Q w _ (L2 ++ [62, 10]) w3 from (HW2.out.alloc _).step hd hb hkk)
          have y3 := HW3.out.cell 3
          simp only [List.getElem?_toArray, List.getElem?_cons_zero, List.getElem?_cons_succ] at y3
          clear hd hb hkk HP x3 HW2
          go_wp2_with fail
          go_loopg [12, 57] K.length (fun g u i wx => ∃ k, g + k = K.length ∧ i = .int .i64 (k : Nat) ∧ Hid (WS B b Q w #[.string s, .string n, .slice xa A.length xac, .slice (some ⟨g1, o1, none⟩) K.length xkc, .string t] (L2 ++ [62, 10] ++ elK s PD (K.take k)) wx))
          case atStart => exact ⟨0, by omega, rfl, Lib.hid (by rw [List.take_zero]; unfold elK; rw [List.flatMap_nil, List.append_nil]; exact HW3.out)⟩
          case round =>
            clear y3 HW3
            obtain ⟨j, hgj, rfl, HW⟩ := hrel
            have hKl := elK_len s PD K
            have hml : (m : Int) ≤ 200000 := by have := HL.out; have := HH.out; omega
            by_cases hj : j < K.length
            · have hj' : (j : Int) < (K.length : Int) := by omega
              obtain ⟨ksp, knm, ktx, ka, kan, kac, kk, kkn, kkc, hform⟩ := form06 (HXN.out j hj)
              have k0 := (HW.out.below.cell (p := ⟨g1, o1 + j * 5 + 0, none⟩) hgB).trans (HKC.out j hj 0 (by decide))
              have k1 := (HW.out.below.cell (p := ⟨g1, o1 + j * 5 + 1, none⟩) hgB).trans (HKC.out j hj 1 (by decide))
              have k2 := (HW.out.below.cell (p := ⟨g1, o1 + j * 5 + 2, none⟩) hgB).trans (HKC.out j hj 2 (by decide))
              have k3 := (HW.out.below.cell (p := ⟨g1, o1 + j * 5 + 3, none⟩) hgB).trans (HKC.out j hj 3 (by decide))
              have k4 := (HW.out.below.cell (p := ⟨g1, o1 + j * 5 + 4, none⟩) hgB).trans (HKC.out j hj 4 (by decide))
              rw [Nat.add_zero] at k0
              have hnv := HXN.out j hj
              rw [hform] at hnv
              simp only [Value.agg.injEq, Array.mk.injEq, List.cons.injEq, and_true] at hform
              obtain ⟨f0, f1, f2, f3, f4⟩ := hform
              rw [f0] at k0
              rw [f1] at k1
              rw [f2] at k2
              rw [f3] at k3
              rw [f4] at k4
              clear f0 f1 f2 f3 f4
              have HWA := Lib.hid (HW.out.alloc (.cells #[.string ksp, .string knm, .slice ka kan kac, .slice kk kkn kkc, .string ktx] 25))
              have hbx := heap_alloc_new wr (.cells #[.string ksp, .string knm, .slice ka kan kac, .slice kk kkn kkc, .string ktx] 25)
              have b0 := Lib.cell_of_heap hbx 0
              have b1 := Lib.cell_of_heap hbx 1
              have b2 := Lib.cell_of_heap hbx 2
              have b3 := Lib.cell_of_heap hbx 3
              have b4 := Lib.cell_of_heap hbx 4
              have y0 := HWA.out.cell 0
              simp only [List.getElem?_toArray, List.getElem?_cons_zero, List.getElem?_cons_succ] at b0 b1 b2 b3 b4 y0
              have htake := elK_take s PD K j hj
              have hpart := elK_part s PD K (j + 1)
              rw [htake, List.length_append] at hpart
              have hKk : (K.length : Int) ≤ 200000 := by have := HLN.out; omega
              have CC := HIH.out B b (m + 1) (K[j]'hj) _ s (L2 ++ [62, 10] ++ elK s PD (K.take j)) _ (hnv.to HWA.out.below.size fun g hgg _ => ⟨hgg, HWA.out.below.block g hgg⟩) HWA.out.doc HWA.out.glob (by have h1 := depth_kid (List.getElem_mem hj); have := HD.out; omega) (by
                have h1 := HLN.out
                rw [HP1.out, List.length_append, List.length_append]
                show _ + 2 + _ + _ ≤ _
                omega)
              rw [HP1.out, Int.natCast_add, Int.natCast_one] at CC
              have CC := Lib.hid CC
              have HT := Lib.hid htake
              clear htake hpart hbx hnv hKl
              go_wp2_with fail
              refine CC.out.mono ?_
              rintro e w4 ⟨rfl, hd, hb, hkk⟩
              have HF := Lib.hid (show WS B b Q w #[.string s, .string n, .slice xa A.length xac, .slice (some ⟨g1, o1, none⟩) K.length xkc, .string t] (L2 ++ [62, 10] ++ elK s PD (K.take (j + 1))) w4 by
                rw [HT.out, ← List.append_assoc]
                exact HWA.out.step hd hb hkk)
              clear hd hb hkk CC HWA b0 b1 b2 b3 b4 k0 k1 k2 k3 k4 y0 HT
              go_wp2_with fail
              go_roundg (K.length - (j + 1))
              case measure => omega
              case rel => exact ⟨j + 1, by omega, by go_num, HF⟩
            · have hj' : ¬ (j : Int) < (K.length : Int) := by omega
              have HW4 := Lib.hid (show WS B b Q w #[.string s, .string n, .slice xa A.length xac, .slice (some ⟨g1, o1, none⟩) K.length xkc, .string t] (L2 ++ [62, 10] ++ elK s PD K) wr by
                have h := HW.out
                rw [List.take_of_length_le (by omega)] at h
                exact h)
              have y1 := HW4.out.cell 1
              simp only [List.getElem?_toArray, List.getElem?_cons_zero, List.getElem?_cons_succ] at y1
              have HP := Lib.hid (wput B b wr.heap.size 4 [PB, ⟨#[60, 47]⟩, n, ⟨#[62, 10]⟩] (L2 ++ [62, 10] ++ elK s PD K) (wr.alloc (.cells #[.string PB, .string ⟨#[60, 47]⟩, .string n, .string ⟨#[62, 10]⟩] 9)) (HW4.out.alloc _).doc (by have := HLN.out; rw [List.length_append, List.length_append]; show _ + 2 + _ + (PB.size + (2 + (n.size + (2 + 0)))) ≤ _; rw [← bl_size PB, HPB.out]; omega) (by simp) (rowS_new wr [PB, ⟨#[60, 47]⟩, n, ⟨#[62, 10]⟩] _ rfl) (HW4.out.alloc _).glob.le)
              clear HW hKl
              go_wp2_with fail
              refine HP.out.mono ?_
              rintro e w5 ⟨rfl, hd, hb, hkk⟩
              have h5 := (HW4.out.alloc (.cells #[.string PB, .string ⟨#[60, 47]⟩, .string n, .string ⟨#[62, 10]⟩] 9)).step hd hb hkk
              have HD5 := Lib.hid (HFIN.out w5 (by
                have e : L2 ++ TL = L2 ++ [62, 10] ++ elK s PD K ++ ([PB, ⟨#[60, 47]⟩, n, ⟨#[62, 10]⟩] : List ByteArray).flatMap bl := by
                  rw [HTL2.out]; unfold elE
                  simp only [List.flatMap_cons, HPB.out]
                  simp [bl]
                rw [e]; exact hd))
              have HB5 := Lib.hid h5.below
              have HK5 := Lib.hid h5.kept
              clear hd hb hkk h5 HP y1
              go_wp2_with fail
              go_end0
              exact ⟨rfl, HD5.out, HB5.out, HK5.out⟩
theorem elem_spec : ∀ d, ElemSpec d
  | 0 => fun B b m x v sp l w _ _ _ hd _ => absurd hd (by have := depth_kids x; omega)
  | d + 1 => elem_one d (elem_spec d)

end Go.Proofs.YtnlkpdodacphkaaGreatDoor
namespace Go.Proofs.YtnlkpdodacphkaaGreatDoor
open Go Go.RowKit Go.Lib
set_option maxRecDepth 100000

mutual
/-- What may answers of an element that is so deep, where so many were gone over; and how many were then. -/
def mayF : Nd → Nat → Nat → Bool × Nat
  | .mk s n A K t, d, c => if 32 < d ∨ 2000 < c + 1 ∨ aloneB s n t A K.length = false then (false, c + 1) else mayK K (d + 1) (c + 1)
def mayK : List Nd → Nat → Nat → Bool × Nat
  | [], _, c => (true, c)
  | x :: r, d, c => if (mayF x d c).1 = true then mayK r d (mayF x d c).2 else (false, (mayF x d c).2)
end
mutual
/-- Texts that are not too long for a machine. -/
def Nd.sm : Nd → Prop
  | .mk s n A K t => (s.size ≤ 1000000 ∧ n.size ≤ 1000000 ∧ t.size ≤ 1000000 ∧ SmA A) ∧ smK K
def smK : List Nd → Prop
  | [] => True
  | x :: r => x.sm ∧ smK r
end
theorem sm_kid : ∀ {K : List Nd} {k : Nd}, smK K → k ∈ K → k.sm
  | x :: K, k, h, hk => by
    rw [smK] at h
    rcases List.mem_cons.1 hk with rfl | hk
    · exact h.1
    · exact sm_kid h.2 hk
mutual
theorem may_le : ∀ (x : Nd) (d c : Nat), (mayF x d c).1 = true → (mayF x d c).2 ≤ 2000
  | .mk s n A K t, d, c, h => by
    unfold mayF at h ⊢
    by_cases hc : 32 < d ∨ 2000 < c + 1 ∨ aloneB s n t A K.length = false
    · rw [if_pos hc] at h; cases h
    · rw [if_neg hc] at h ⊢
      exact mayK_le K (d + 1) (c + 1) (by omega) h
theorem mayK_le : ∀ (K : List Nd) (d c : Nat), c ≤ 2000 → (mayK K d c).1 = true → (mayK K d c).2 ≤ 2000
  | [], d, c, hc, _ => by rw [mayK]; exact hc
  | x :: r, d, c, hc, h => by
    unfold mayK at h ⊢
    by_cases hx : (mayF x d c).1 = true
    · rw [if_pos hx] at h ⊢
      exact mayK_le r d _ (may_le x d c hx) h
    · rw [if_neg hx] at h; cases h
end
mutual
theorem may_ge : ∀ (x : Nd) (d c : Nat), c + 1 ≤ (mayF x d c).2
  | .mk s n A K t, d, c => by
    unfold mayF
    split
    · exact Nat.le_refl _
    · exact mayK_ge K (d + 1) (c + 1)
theorem mayK_ge : ∀ (K : List Nd) (d c : Nat), c ≤ (mayK K d c).2
  | [], d, c => by rw [mayK]; exact Nat.le_refl _
  | x :: r, d, c => by
    have h1 := may_ge x d c
    unfold mayK
    split
    · have h2 := mayK_ge r d (mayF x d c).2
      omega
    · show c ≤ (mayF x d c).2
      omega
end
/-- The type of the counter. -/
def cntT : List TypeId := [76]
structure MS (B q Q : Nat) (w0 : World) (X : Array Value) (c : Nat) (w : World) : Prop where
  cnt : w.heap[q]? = some (.cells #[.int .i64 (c : Nat)] 76 (0, 0))
  box : w.heap[Q]? = some (.cells X 25 (0, 0))
  below : Below B w0 w
  kept : Kept cntT w0 w
  glob : Glob B w
theorem MS.step {B q Q : Nat} {w0 w w' : World} {X : Array Value} {c c' : Nat} (h : MS B q Q w0 X c w) (hc : w'.heap[q]? = some (.cells #[.int .i64 (c' : Nat)] 76 (0, 0))) (hb : Below B w w') (hk : Kept cntT w w') : MS B q Q w0 X c' w' :=
  ⟨hc, hk.heap h.box (by decide), h.below.trans hb, h.kept.trans hk, h.glob.step hb⟩
theorem MS.quiet {B q Q : Nat} {w0 w w' : World} {X : Array Value} {c : Nat} (h : MS B q Q w0 X c w) (hb : Below w.heap.size w w') : MS B q Q w0 X c w' :=
  h.step ((hb.block q (Array.getElem?_eq_some_iff.1 h.cnt).1).trans h.cnt) (hb.mono h.glob.le) (Kept.of _ hb)
theorem MS.cell {B q Q : Nat} {w0 w : World} {X : Array Value} {c : Nat} (h : MS B q Q w0 X c w) (j : Nat) : w.cell? ⟨Q, j, none⟩ = X[j]? := by rw [Lib.cell_of_heap h.box]
def MaySpec (m : Nat) : Prop := ∀ (B q d c : Nat) (x : Nd) (v : Value) (w : World), NodeV (fun g => g < B) w v x → x.sm → x.depth ≤ m → w.heap[q]? = some (.cells #[.int .i64 (c : Nat)] 76 (0, 0)) → B ≤ q → Glob B w → c ≤ 2000 → d ≤ 33 →
  Calls Tryz.prog 32 #[.pointer (some ⟨q, 0, none⟩), v, .int .i64 (d : Nat)] w fun e w' => e = .returned (.bool (mayF x d c).1) ∧ w'.heap[q]? = some (.cells #[.int .i64 ((mayF x d c).2 : Nat)] 76 (0, 0)) ∧ Below B w w' ∧ Kept cntT w w'

set_option maxHeartbeats 8000000 in
theorem may_one (f : Nat) (hIH : MaySpec f) : MaySpec (f + 1) := by
  intro B q d c x v w hv hsm hd hq hBq hG hc hdd
  have hv0 := hv
  obtain ⟨s, n, t, A, K, xa, xac, xk, xkc, xc, rfl, rfl, hxa, hxk, hxn⟩ := parts06 hv
  have hdep : (Nd.mk s n A K t).depth = 1 + depthK K := by rw [Nd.depth]
  rw [hdep] at hd
  rw [Nd.sm] at hsm
  have hA1 := (Below.refl w.heap.size w).alloc (Nat.le_refl _) (.cells #[.string s, .string n, .slice xa A.length xac, .slice xk K.length xkc, .string t] 25)
  obtain ⟨Q, hQ⟩ : ∃ Q, w.heap.size = Q := ⟨_, rfl⟩
  have hql : q < w.heap.size := (Array.getElem?_eq_some_iff.1 hq).1
  have hqQ : ¬ q = Q := by omega
  have hM0 : MS B q Q w #[.string s, .string n, .slice xa A.length xac, .slice xk K.length xkc, .string t] c (w.alloc (.cells #[.string s, .string n, .slice xa A.length xac, .slice xk K.length xkc, .string t] 25)) :=
    ⟨(hA1.block q hql).trans hq, by rw [← hQ]; exact heap_alloc_new w _, hA1.mono hG.le, Kept.of _ hA1, hG.step (hA1.mono hG.le)⟩
  obtain ⟨w0, hw0⟩ : ∃ w0, w.alloc (.cells #[.string s, .string n, .slice xa A.length xac, .slice xk K.length xkc, .string t] 25) = w0 := ⟨_, rfl⟩
  rw [hw0] at hM0
  have q0 := Lib.cell_of_heap hM0.cnt 0
  have f0 := Lib.frozen_of_heap hM0.cnt 0
  simp only [List.getElem?_toArray, List.getElem?_cons_zero] at q0
  have hM1 : MS B q Q w #[.string s, .string n, .slice xa A.length xac, .slice xk K.length xkc, .string t] (c + 1) (w0.setCell ⟨q, 0, none⟩ (.int .i64 ((c : Int) + 1))) :=
    hM0.step (by rw [heap_put _ hM0.cnt]; rfl) ((Below.refl B w0).setCell (p := ⟨q, 0, none⟩) hBq _) (Kept.set hM0.cnt (by decide) 0 _)
  have q1 := Lib.cell_of_heap hM1.cnt 0
  have x0 := hM1.cell 0
  have x1 := hM1.cell 1
  have x2 := hM1.cell 2
  have x3 := hM1.cell 3
  have x4 := hM1.cell 4
  simp only [List.getElem?_toArray, List.getElem?_cons_zero, List.getElem?_cons_succ, Int.natCast_add, Int.natCast_one] at q1 x0 x1 x2 x3 x4
  have hcI : (c : Int) ≤ 2000 := by omega
  have hdI : (d : Int) ≤ 33 := by omega
  have HM1 := Lib.hid hM1
  have HIH := Lib.hid hIH
  have HXK := Lib.hid hxk
  have HXN := Lib.hid hxn
  have HD := Lib.hid hd
  have HSM := Lib.hid hsm
  have HBQ := Lib.hid hBq
  have hmf : ∀ r, (32 < d ∨ 2000 < c + 1 ∨ aloneB s n t A K.length = false → (false, c + 1) = r) → (¬ (32 < d ∨ 2000 < c + 1 ∨ aloneB s n t A K.length = false) → mayK K (d + 1) (c + 1) = r) → mayF (.mk s n A K t) d c = r := fun r h1 h2 => by
    unfold mayF
    split
    · rename_i h; exact h1 h
    · rename_i h; exact h2 h
  have HMF := Lib.hid hmf
  have CA := walone _ s n t A K (w0.setCell ⟨q, 0, none⟩ (.int .i64 ((c : Int) + 1))) (hv0.to hM1.below.size fun g hg _ => ⟨trivial, hM1.below.block g hg⟩) hsm.1 hM1.glob.tabs
  have HQ0 := Lib.hid q0
  obtain ⟨w1, hw1⟩ : ∃ w1, w0.setCell ⟨q, 0, none⟩ (.int .i64 ((c : Int) + 1)) = w1 := ⟨_, rfl⟩
  rw [hw1] at HM1 CA q1 x0 x1 x2 x3 x4
  clear hA1 hql hM0 hM1 hIH hxa hxk hxn hv hv0 hsm hd hq hBq hG hc hdd hdep hmf
  by_cases h1 : 32 < d
  · have h1' : (32 : Int) < (d : Int) := by omega
    have HR := Lib.hid (HMF.out (false, c + 1) (fun _ => rfl) (fun h => absurd (.inl h1) h))
    clear h1 CA
    go_enter Tryz.func32, Tryz.ntmps32
    go_wp2_with fail
    go_ret
    exact ⟨by rw [HR.out]; rfl, by rw [HR.out]; exact HM1.out.cnt, HM1.out.below, HM1.out.kept⟩
  have h1' : decide ((32 : Int) < (d : Int)) = false := decide_eq_false (by omega)
  by_cases h2 : 2000 < c + 1
  · have h2' : decide ((2000 : Int) < (c : Int) + 1) = true := decide_eq_true (by omega)
    have h2'' : (2000 : Int) < (c : Int) + 1 := by omega
    have HR := Lib.hid (HMF.out (false, c + 1) (fun _ => rfl) (fun h => absurd (.inr (.inl h2)) h))
    clear h1 h2 CA
    go_enter Tryz.func32, Tryz.ntmps32
    go_wp2_with fail
    go_ret
    exact ⟨by rw [HR.out]; rfl, by rw [HR.out]; exact HM1.out.cnt, HM1.out.below, HM1.out.kept⟩
  have h2' : decide ((2000 : Int) < (c : Int) + 1) = false := decide_eq_false (by omega)
  cases ha : aloneB s n t A K.length with
  | false =>
    rw [ha] at CA
    replace CA := Lib.hid CA
    have HR := Lib.hid (HMF.out (false, c + 1) (fun _ => rfl) (fun h => absurd (.inr (.inr ha)) h))
    clear h1 h2 ha
    go_enter Tryz.func32, Tryz.ntmps32
    go_wp2_with fail
    refine CA.out.mono ?_
    rintro e w2 ⟨rfl, hb⟩
    have HM2 := Lib.hid (HM1.out.quiet hb)
    clear hb CA
    go_wp2_with fail
    go_ret
    exact ⟨by rw [HR.out]; rfl, by rw [HR.out]; exact HM2.out.cnt, HM2.out.below, HM2.out.kept⟩
  | true =>
    rw [ha] at CA
    replace CA := Lib.hid CA
    have HR0 := Lib.hid (show mayF (.mk s n A K t) d c = mayK K (d + 1) (c + 1) from HMF.out _ (fun h => absurd h (by rintro (h | h | h); exact h1 h; exact h2 h; rw [ha] at h; cases h)) (fun _ => rfl))
    have hc1 : c + 1 ≤ 2000 := by omega
    have HC1 := Lib.hid hc1
    clear h1 h2 ha hc1
    go_enter Tryz.func32, Tryz.ntmps32
    go_wp2_with fail
    refine CA.out.mono ?_
    rintro e w2 ⟨rfl, hb⟩
    have HM2 := Lib.hid (HM1.out.quiet hb)
    have y3 := HM2.out.cell 3
    simp only [List.getElem?_toArray, List.getElem?_cons_zero, List.getElem?_cons_succ] at y3
    clear hb CA x0 x1 x2 x3 x4 q1 q0 f0 HM1 HQ0
    go_wp2_with fail
    go_loopg [8, 33] K.length (fun g u i wr => ∃ k cc : Nat, g + k = K.length ∧ i = .int .i64 (k : Nat) ∧ k ≤ cc ∧ cc ≤ 2000 ∧ Hid (mayF (.mk s n A K t) d c = mayK (K.drop k) (d + 1) cc) ∧ Hid (MS B q Q w #[.string s, .string n, .slice xa A.length xac, .slice xk K.length xkc, .string t] cc wr))
    case atStart => exact ⟨0, c + 1, by omega, rfl, Nat.zero_le _, HC1.out, Lib.hid HR0.out, HM2⟩
    case round =>
      clear y3 HM2 HR0 HC1
      obtain ⟨k, cc, hg, rfl, hkc, hcc, HR, HM⟩ := hrel
      have hkI : (k : Int) ≤ 2000 := by omega
      by_cases hk : k < K.length
      · have hk' : (k : Int) < (K.length : Int) := by omega
        obtain ⟨g1, o1, rfl, hgB, hg1, hkx⟩ := HXK.out (by omega)
        obtain ⟨ksp, knm, ktx, ka, kan, kac, kk, kkn, kkc, hform⟩ := form06 (HXN.out k hk)
        have k0 := (HM.out.below.cell (p := ⟨g1, o1 + k * 5 + 0, none⟩) hgB).trans (hkx k hk 0 (by decide))
        have k1 := (HM.out.below.cell (p := ⟨g1, o1 + k * 5 + 1, none⟩) hgB).trans (hkx k hk 1 (by decide))
        have k2 := (HM.out.below.cell (p := ⟨g1, o1 + k * 5 + 2, none⟩) hgB).trans (hkx k hk 2 (by decide))
        have k3 := (HM.out.below.cell (p := ⟨g1, o1 + k * 5 + 3, none⟩) hgB).trans (hkx k hk 3 (by decide))
        have k4 := (HM.out.below.cell (p := ⟨g1, o1 + k * 5 + 4, none⟩) hgB).trans (hkx k hk 4 (by decide))
        rw [Nat.add_zero] at k0
        have hnv := HXN.out k hk
        rw [hform] at hnv
        simp only [Value.agg.injEq, Array.mk.injEq, List.cons.injEq, and_true] at hform
        obtain ⟨f0, f1, f2, f3, f4⟩ := hform
        rw [f0] at k0
        rw [f1] at k1
        rw [f2] at k2
        rw [f3] at k3
        rw [f4] at k4
        clear f0 f1 f2 f3 f4 hkx
        have ha := (Below.refl wr.heap.size wr).alloc (Nat.le_refl _) (.cells #[.string ksp, .string knm, .slice ka kan kac, .slice kk kkn kkc, .string ktx] 25)
        have HMA := Lib.hid (HM.out.quiet ha)
        have hbx := heap_alloc_new wr (.cells #[.string ksp, .string knm, .slice ka kan kac, .slice kk kkn kkc, .string ktx] 25)
        have b0 := Lib.cell_of_heap hbx 0
        have b1 := Lib.cell_of_heap hbx 1
        have b2 := Lib.cell_of_heap hbx 2
        have b3 := Lib.cell_of_heap hbx 3
        have b4 := Lib.cell_of_heap hbx 4
        simp only [List.getElem?_toArray, List.getElem?_cons_zero, List.getElem?_cons_succ] at b0 b1 b2 b3 b4
        have hmem := List.getElem_mem hk
        have hdk : d ≤ 32 := by
          have : ¬ (32 : Int) < (d : Int) := of_decide_eq_false h1'
          omega
        have CC := HIH.out B q (d + 1) cc (K[k]'hk) _ _ (hnv.to HMA.out.below.size fun g hgg _ => ⟨hgg, HMA.out.below.block g hgg⟩) (sm_kid HSM.out.2 hmem) (by have h1 := depth_kid hmem; have := HD.out; omega) HMA.out.cnt HBQ.out HMA.out.glob hcc (by omega)
        have hdrop : mayK (K.drop k) (d + 1) cc = if (mayF (K[k]'hk) (d + 1) cc).1 = true then mayK (K.drop (k + 1)) (d + 1) (mayF (K[k]'hk) (d + 1) cc).2 else (false, (mayF (K[k]'hk) (d + 1) cc).2) := by
          rw [List.drop_eq_getElem_cons hk, mayK]
        have hle := may_le (K[k]'hk) (d + 1) cc
        have hge := may_ge (K[k]'hk) (d + 1) cc
        have hdw : ((d + 1 : Nat) : Int) = (d : Int) + 1 := by omega
        rw [hdw] at CC
        obtain ⟨⟨bb, cn⟩, hZ⟩ : ∃ Z, mayF (K[k]'hk) (d + 1) cc = Z := ⟨_, rfl⟩
        rw [hZ] at CC hdrop hle hge
        have hge' : k + 1 ≤ cn := by have : cc + 1 ≤ cn := hge; omega
        have HDR := Lib.hid (HR.out.trans hdrop)
        have HLE := Lib.hid hle
        replace CC := Lib.hid CC
        clear hdrop hle hge hZ hbx hnv ha hmem hdw hdk
        go_wp2_with fail
        refine CC.out.mono ?_
        rintro e w4 ⟨rfl, hcn, hb, hkk⟩
        have HM4 := Lib.hid (HMA.out.step hcn hb hkk)
        clear hcn hb hkk CC HMA b0 b1 b2 b3 b4 k0 k1 k2 k3 k4
        cases bb with
        | true =>
          have HR4 := Lib.hid (show mayF (.mk s n A K t) d c = mayK (K.drop (k + 1)) (d + 1) cn by rw [HDR.out, if_pos rfl])
          have hcn : cn ≤ 2000 := HLE.out rfl
          go_wp2_with fail
          go_roundg (K.length - (k + 1))
          case measure => omega
          case rel => exact ⟨k + 1, cn, by omega, by go_num, hge', hcn, HR4, HM4⟩
        | false =>
          have HR4 := Lib.hid (show mayF (.mk s n A K t) d c = (false, cn) by rw [HDR.out, if_neg (by decide)])
          go_wp2_with fail
          go_ret
          exact ⟨by rw [HR4.out]; rfl, by rw [HR4.out]; exact HM4.out.cnt, HM4.out.below, HM4.out.kept⟩
      · have hk' : ¬ (k : Int) < (K.length : Int) := by omega
        have HR4 := Lib.hid (show mayF (.mk s n A K t) d c = (true, cc) by rw [HR.out, List.drop_of_length_le (by omega), mayK])
        go_wp2_with fail
        go_ret
        exact ⟨by rw [HR4.out]; rfl, by rw [HR4.out]; exact HM.out.cnt, HM.out.below, HM.out.kept⟩
theorem may_spec : ∀ m, MaySpec m
  | 0 => fun B q d c x v w _ _ hd _ _ _ _ _ => absurd hd (by have := depth_kids x; omega)
  | m + 1 => may_one m (may_spec m)

set_option maxHeartbeats 4000000 in
/-- **write.May**. -/
theorem wmay (x : Nd) (v : Value) (w : World) (hv : NodeV (fun _ => True) w v x) (hsm : x.sm) (hE : EntV w) (hT : Tabs w) :
    Calls Tryz.prog 12 #[v] w fun e w' => e = .returned (.bool (mayF x 1 0).1) ∧ Below w.heap.size w w' := by
  obtain ⟨sp, nm, tx, a1, n1, c1, a2, n2, c2, rfl⟩ := form06 hv
  have hA1 := (Below.refl w.heap.size w).alloc (Nat.le_refl _) (.cells #[.string sp, .string nm, .slice a1 n1 c1, .slice a2 n2 c2, .string tx] 25)
  have hX := heap_alloc_new w (.cells #[.string sp, .string nm, .slice a1 n1 c1, .slice a2 n2 c2, .string tx] 25)
  obtain ⟨w1, hw1⟩ : ∃ w1, w.alloc (.cells #[.string sp, .string nm, .slice a1 n1 c1, .slice a2 n2 c2, .string tx] 25) = w1 := ⟨_, rfl⟩
  rw [hw1] at hA1 hX
  have hlt : w.heap.size < w1.heap.size := by rw [← hw1]; simp
  have hA2 := hA1.alloc (Nat.le_of_lt hlt) (.cells #[.int .i64 0] 76)
  have hq := heap_alloc_new w1 (.cells #[.int .i64 0] 76)
  have hX2 := ((Below.refl w1.heap.size w1).alloc (Nat.le_refl _) (.cells #[.int .i64 0] 76)).block _ hlt
  rw [hX] at hX2
  obtain ⟨w2, hw2⟩ : ∃ w2, w1.alloc (.cells #[.int .i64 0] 76) = w2 := ⟨_, rfl⟩
  rw [hw2] at hA2 hq hX2
  obtain ⟨Q, hQ⟩ : ∃ Q, w.heap.size = Q := ⟨_, rfl⟩
  obtain ⟨q, hqq⟩ : ∃ q, w1.heap.size = q := ⟨_, rfl⟩
  rw [hqq] at hq
  have HC := Lib.hid (may_spec x.depth w.heap.size q 1 0 x _ w2 (hv.to hA2.size fun g _ hg => ⟨hg, hA2.block g hg⟩) hsm (Nat.le_refl _) hq (by omega) ((Glob.start hE hT).step hA2) (by decide) (by decide))
  have HA2 := Lib.hid hA2
  rw [hQ] at hX2
  have x0 := Lib.cell_of_heap hX2 0
  have x1 := Lib.cell_of_heap hX2 1
  have x2 := Lib.cell_of_heap hX2 2
  have x3 := Lib.cell_of_heap hX2 3
  have x4 := Lib.cell_of_heap hX2 4
  simp only [List.getElem?_toArray, List.getElem?_cons_zero, List.getElem?_cons_succ] at x0 x1 x2 x3 x4
  obtain ⟨⟨bb, cn⟩, hZ⟩ : ∃ Z, mayF x 1 0 = Z := ⟨_, rfl⟩
  rw [hZ] at HC ⊢
  clear hv hA1 hA2 hq hX hX2 hsm hE hT hlt hZ
  go_enter Tryz.func12, Tryz.ntmps12
  go_wp2_with fail
  refine HC.out.mono ?_
  rintro e w3 ⟨rfl, _, hb, _⟩
  have HB := Lib.hid (HA2.out.trans hb)
  clear hb HC
  go_wp2_with fail
  go_ret
  exact ⟨rfl, HB.out⟩
set_option maxHeartbeats 4000000 in
/-- **write.Text** of what may be. -/
theorem wtext (x : Nd) (v : Value) (w : World) (hv : NodeV (fun _ => True) w v x) (hsm : x.sm) (hm : (mayF x 1 0).1 = true) (hl : (textT x ⟨#[]⟩ []).length ≤ 200000) (hE : EntV w) (hT : Tabs w) :
    Calls Tryz.prog 11 #[v] w fun e w' => e = .returned (.string (str (textT x ⟨#[]⟩ []))) ∧ Below w.heap.size w w' := by
  obtain ⟨sp, nm, tx, a1, n1, c1, a2, n2, c2, rfl⟩ := form06 hv
  have hA1 := (Below.refl w.heap.size w).alloc (Nat.le_refl _) (.cells #[.string sp, .string nm, .slice a1 n1 c1, .slice a2 n2 c2, .string tx] 25)
  have hX := heap_alloc_new w (.cells #[.string sp, .string nm, .slice a1 n1 c1, .slice a2 n2 c2, .string tx] 25)
  have hlt : w.heap.size < (w.alloc (.cells #[.string sp, .string nm, .slice a1 n1 c1, .slice a2 n2 c2, .string tx] 25)).heap.size := by simp
  obtain ⟨w1, hw1⟩ : ∃ w1, w.alloc (.cells #[.string sp, .string nm, .slice a1 n1 c1, .slice a2 n2 c2, .string tx] 25) = w1 := ⟨_, rfl⟩
  rw [hw1] at hA1 hX hlt
  obtain ⟨Q, hQ⟩ : ∃ Q, w.heap.size = Q := ⟨_, rfl⟩
  have hX' := hX
  rw [hQ] at hX'
  have x0 := Lib.cell_of_heap hX' 0
  have x1 := Lib.cell_of_heap hX' 1
  have x2 := Lib.cell_of_heap hX' 2
  have x3 := Lib.cell_of_heap hX' 3
  have x4 := Lib.cell_of_heap hX' 4
  simp only [List.getElem?_toArray, List.getElem?_cons_zero, List.getElem?_cons_succ] at x0 x1 x2 x3 x4
  have CM := wmay x _ w1 (hv.to hA1.size fun g _ hg => ⟨trivial, hA1.block g hg⟩) hsm (hE.below hA1) (hT.below hA1)
  rw [hm] at CM
  replace CM := Lib.hid CM
  obtain ⟨TL, hTL⟩ : ∃ TL, textT x ⟨#[]⟩ [] = TL := ⟨_, rfl⟩
  have hne : TL ≠ [] := fun e => by
    have : 1 ≤ TL.length := by rw [← hTL]; unfold textT; simp
    rw [e] at this; exact absurd this (by decide)
  rw [hTL] at hl ⊢
  have HTL := Lib.hid hTL
  have HL := Lib.hid hl
  have HNE := Lib.hid hne
  have HA1 := Lib.hid hA1
  have HX := Lib.hid hX
  have HLT := Lib.hid hlt
  have HV := Lib.hid hv
  have HG := Lib.hid (Glob.start hE hT)
  clear hv hA1 hX hX' hsm hE hT hlt hm hl hTL hne
  go_enter Tryz.func11, Tryz.ntmps11
  go_wp2_with fail
  refine CM.out.mono ?_
  rintro e w2 ⟨rfl, hb⟩
  have hB2 := HA1.out.trans (hb.mono HA1.out.size)
  have hX2 := (hb.block _ HLT.out).trans HX.out
  have hA3 := hB2.alloc hB2.size (.cells #[.pointer none, .slice none 0 0, .bool false] 72)
  have hD3 := docw_new w2 w.heap.size hB2.size
  have hlt2 : w.heap.size < w2.heap.size := Nat.lt_of_lt_of_le HLT.out hb.size
  have hX3 := ((Below.refl w2.heap.size w2).alloc (Nat.le_refl _) (.cells #[.pointer none, .slice none 0 0, .bool false] 72)).block _ hlt2
  rw [hX2] at hX3
  obtain ⟨w3, hw3⟩ : ∃ w3, w2.alloc (.cells #[.pointer none, .slice none 0 0, .bool false] 72) = w3 := ⟨_, rfl⟩
  rw [hw3] at hA3 hD3 hX3
  obtain ⟨b, hbb⟩ : ∃ b, w2.heap.size = b := ⟨_, rfl⟩
  rw [hbb] at hD3
  rw [hQ] at hX3
  have y0 := Lib.cell_of_heap hX3 0
  have y1 := Lib.cell_of_heap hX3 1
  have y2 := Lib.cell_of_heap hX3 2
  have y3 := Lib.cell_of_heap hX3 3
  have y4 := Lib.cell_of_heap hX3 4
  simp only [List.getElem?_toArray, List.getElem?_cons_zero, List.getElem?_cons_succ] at y0 y1 y2 y3 y4
  have CE := elem_spec x.depth w.heap.size b 0 x _ ⟨#[]⟩ [] w3 (HV.out.to hA3.size fun g _ hg => ⟨hg, hA3.block g hg⟩) hD3 (HG.out.step hA3) (Nat.le_refl _) (by have := HL.out; rw [← HTL.out] at this; simpa using this)
  have e0 : List.replicate 0 (32 : UInt8) = [] := rfl
  rw [e0, HTL.out, List.nil_append] at CE
  replace CE := Lib.hid CE
  have HA3 := Lib.hid hA3
  clear hb hB2 hX2 hA3 hD3 hlt2 hX3 CM x0 x1 x2 x3 x4
  go_wp2_with fail
  refine CE.out.mono ?_
  rintro e w4 ⟨rfl, hd, hb, _⟩
  obtain ⟨p, ao, cp, hbk, hBb, hbl, c1, c2, f2⟩ := hd.form
  have CO := Lib.hid (wout w.heap.size b TL w4 hd HNE.out)
  have HB4 := Lib.hid (HA3.out.trans hb)
  clear hbk hBb hd hb CE y0 y1 y2 y3 y4
  go_wp2_with fail
  refine CO.out.mono ?_
  rintro e w5 ⟨rfl, hb⟩
  have HB5 := Lib.hid (HB4.out.trans hb)
  clear hb CO
  go_wp2_with fail
  go_ret
  exact ⟨rfl, HB5.out⟩
end Go.Proofs.YtnlkpdodacphkaaGreatDoor
namespace Go.Proofs.YtnlkpdodacphkaaGreatDoor
open Go Go.RowKit Go.Lib
set_option maxRecDepth 100000

theorem letters_ok {s : ByteArray} (h : Lets (bl s)) : lettersB s = true := by unfold lettersB; rw [h.text]; rfl
theorem attsF_ok : ∀ (A R : List Att), (∀ a ∈ A, nameL (bl a.1) = true ∧ ¬ a.1 = bXmlns ∧ Lets (bl a.2)) → (∀ a ∈ A, ∀ b ∈ R, ¬ b.1 = a.1) → A.Pairwise (fun x y => (bl x.1 == bl y.1) = false) → attsF R A = true
  | [], _, _, _, _ => rfl
  | a :: A, R, h, hR, hd => by
    obtain ⟨h1, h2, h3⟩ := h a (List.mem_cons_self ..)
    have hd' := List.pairwise_cons.1 hd
    have hany : (R.any fun b => decide (b.1 = a.1)) = false := by
      rw [List.any_eq_false]
      intro b hb
      simpa using hR a (List.mem_cons_self ..) b hb
    have e : attB R a = true := by
      unfold attB
      rw [hany, decide_eq_false h2, h1, letters_ok h3]; rfl
    rw [attsF, e, Bool.true_and]
    refine attsF_ok A (R ++ [a]) (fun x hx => h x (List.mem_cons_of_mem _ hx)) (fun x hx b hb => ?_) hd'.2
    rcases List.mem_append.1 hb with hb | hb
    · exact hR x (List.mem_cons_of_mem _ hx) b hb
    · rw [List.mem_singleton.1 hb]
      intro e
      have := hd'.1 x hx
      rw [beq_eq_false_iff_ne] at this
      exact this (by rw [e])
theorem atts_ok {A : List Att} (h : ∀ a ∈ A, nameL (bl a.1) = true ∧ ¬ a.1 = bXmlns ∧ Lets (bl a.2)) (hd : A.Pairwise (fun x y => (bl x.1 == bl y.1) = false)) (hl : A.length ≤ 15) : attsB A = true := by
  unfold attsB
  rw [decide_eq_true hl, attsF_ok A [] h (fun _ _ _ hb => by cases hb) hd]; rfl
theorem trimmed_of {t : ByteArray} (h : trimL (bl t) = bl t) : trimmed t = t := by
  rw [← bl_str (trimmed t), trimmed_bl, h, bl_str]
theorem alone_ok {s n t : ByteArray} {A : List Att} {k : Nat} (hn : nameL (bl n) = true) (hs : Lets (bl s)) (hA : attsB A = true) (ht : Lets (bl t)) (htr : trimL (bl t) = bl t) (hK : k = 0 ∨ bl t = []) : aloneB s n t A k = true := by
  unfold aloneB
  rw [hn, letters_ok hs, hA, letters_ok ht, decide_eq_true (trimmed_of htr)]
  rcases hK with h | h
  · rw [decide_eq_true h]; simp
  · have : t.size = 0 := by rw [← bl_size, h]; rfl
    rw [decide_eq_true this]; rfl
mutual
/-- What each of an element's may be alone. -/
def Nd.good : Nd → Prop
  | .mk s n A K t => aloneB s n t A K.length = true ∧ goodK K
def goodK : List Nd → Prop
  | [] => True
  | x :: r => x.good ∧ goodK r
end
theorem goodK_of : ∀ {K : List Nd}, (∀ k ∈ K, k.good) → goodK K
  | [], _ => trivial
  | x :: _, h => ⟨h x (List.mem_cons_self ..), goodK_of fun y hy => h y (List.mem_cons_of_mem _ hy)⟩
mutual
theorem may_good : ∀ (x : Nd) (d c : Nat), x.good → d + x.depth ≤ 33 → c + x.count ≤ 2000 → mayF x d c = (true, c + x.count)
  | .mk s n A K t, d, c, h, hd, hc => by
    rw [Nd.good] at h
    rw [Nd.depth] at hd
    rw [Nd.count] at hc ⊢
    unfold mayF
    rw [if_neg (by rintro (h1 | h1 | h1); omega; omega; rw [h.1] at h1; cases h1), may_goodK K (d + 1) (c + 1) h.2 (by omega) (by omega)]
    congr 1; omega
theorem may_goodK : ∀ (K : List Nd) (d c : Nat), goodK K → d + depthK K ≤ 33 → c + countK K ≤ 2000 → mayK K d c = (true, c + countK K)
  | [], d, c, _, _, _ => by rw [mayK, countK]; rfl
  | x :: r, d, c, h, hd, hc => by
    rw [goodK] at h
    rw [depthK] at hd
    rw [countK] at hc ⊢
    rw [mayK, may_good x d c h.1 (by omega) (by omega), if_pos rfl, may_goodK r d _ h.2 (by omega) (by omega)]
    congr 1; omega
end
theorem smK_of : ∀ {K : List Nd}, (∀ k ∈ K, k.sm) → smK K
  | [], _ => trivial
  | x :: _, h => ⟨h x (List.mem_cons_self ..), smK_of fun y hy => h y (List.mem_cons_of_mem _ hy)⟩
/-! ### the law's three elements -/
def bA : ByteArray := ⟨#[97]⟩
theorem name_a : nameL (bl bA) = true := by kernel_rfl
theorem awake_may : mayF (.mk ⟨#[]⟩ bA [] [] ⟨#[]⟩) 1 0 = (true, 1) ∧ mayF (.mk ⟨#[]⟩ bA [] [] ⟨#[120]⟩) 1 0 = (true, 1) ∧ (mayF (.mk ⟨#[]⟩ bA [] [] ⟨#[32, 120]⟩) 1 0).1 = false := by
  have hl : ∀ t : ByteArray, Lets (bl t) → trimL (bl t) = bl t → mayF (.mk ⟨#[]⟩ bA [] [] t) 1 0 = (true, 1) := fun t h1 h2 => by
    have h : (Nd.mk ⟨#[]⟩ bA [] [] t).good := ⟨alone_ok name_a Lets.nil (by rfl) h1 h2 (.inl rfl), trivial⟩
    rw [may_good _ 1 0 h (by rw [Nd.depth, depthK]; decide) (by rw [Nd.count, countK]; decide), Nd.count, countK]
  refine ⟨hl _ Lets.nil (by kernel_rfl), hl _ (lets_one 120 (by decide)) (by kernel_rfl), ?_⟩
  have hf : aloneB ⟨#[]⟩ bA ⟨#[32, 120]⟩ [] ([] : List Nd).length = false := by
    unfold aloneB
    have e : decide (trimmed ⟨#[32, 120]⟩ = ⟨#[32, 120]⟩) = false := decide_eq_false fun e => by
      have h1 := congrArg ByteArray.size e
      have h2 : (trimmed ⟨#[32, 120]⟩).size = 1 := by kernel_rfl
      rw [h2] at h1
      exact absurd h1 (by decide)
    rw [e]
    simp
  unfold mayF
  rw [if_pos (.inr (.inr hf))]
theorem awake_text : textT (.mk ⟨#[]⟩ bA [] [] ⟨#[]⟩) ⟨#[]⟩ [] = [60, 97, 47, 62, 10] := by kernel_rfl

end Go.Proofs.YtnlkpdodacphkaaGreatDoor
