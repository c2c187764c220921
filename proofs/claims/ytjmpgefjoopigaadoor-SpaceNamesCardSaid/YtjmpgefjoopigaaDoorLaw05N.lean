/-
  The walk of the law SpaceNames.
-/
import Derived.Test.YtjmpgefjoopigaaDoorLaw05M
import Derived.Test.YtjmpgefjoopigaaDoorCharsRef
namespace Go.Proofs.YtjmpgefjoopigaaDoor
open Go Go.RowKit
set_option maxRecDepth 100000

theorem enter_p0 : enterL 1 [(bXmlnsP, bU)] [] tells0 = ([], 0, tells0 ++ [⟨bP, bU, 1⟩]) := by kernel_rfl
/-- The four elements that the law tries. -/
def kindA (k : Nat) : Att := match k with
  | 0 => (⟨#[120, 109, 108, 110, 115, 58, 120, 109, 108]⟩, bU)
  | 1 => (⟨#[120, 109, 108, 110, 115, 58, 120, 109, 108, 110, 115]⟩, bU)
  | 2 => (bXmlnsP, ⟨#[]⟩)
  | _ => (bXmlns, ⟨#[]⟩)
theorem enter_k0 : (enterL 2 [kindA 0] [] (tells0 ++ [⟨bP, bU, 1⟩])).2.1 = 3 := by kernel_rfl
theorem enter_k1 : (enterL 2 [kindA 1] [] (tells0 ++ [⟨bP, bU, 1⟩])).2.1 = 3 := by kernel_rfl
theorem enter_k2 : (enterL 2 [kindA 2] [] (tells0 ++ [⟨bP, bU, 1⟩])).2.1 = 3 := by kernel_rfl
theorem enter_k3 : (enterL 2 [kindA 3] [] (tells0 ++ [⟨bP, bU, 1⟩])).2.1 = 0 := by kernel_rfl
theorem enter_k (k : Nat) (hk : k < 4) : (enterL 2 [kindA k] [] (tells0 ++ [⟨bP, bU, 1⟩])).2.1 = if k = 3 then 0 else 3 := by
  match k, hk with
  | 0, _ => exact enter_k0
  | 1, _ => exact enter_k1
  | 2, _ => exact enter_k2
  | 3, _ => exact enter_k3
theorem of_q : ofT (tells0 ++ [⟨bP, bU, 1⟩]) (str [113]) = none := by kernel_rfl
theorem of_p : ofT (tells0 ++ [⟨bP, bU, 1⟩]) (str [112]) = some bU := by kernel_rfl
theorem col_one (c : UInt8) (h : c ≠ 58) : colonAt [c] = 1 := by rw [colonAt_miss c [] h, colonAt_nil]
theorem name_pt (t : ByteArray) : nameS (tells0 ++ [⟨bP, bU, 1⟩]) ((⟨#[112, 58]⟩ : ByteArray) ++ t) = if nameL (bl t) = true then (⟨#[117]⟩, t, true) else (⟨#[]⟩, ⟨#[]⟩, false) := by
  have e : bl ((⟨#[112, 58]⟩ : ByteArray) ++ t) = [112] ++ 58 :: bl t := by simp [bl]
  unfold nameS
  rw [e, split_colon, col_one 112 (by decide)]
  have h1 : ([112] : List UInt8).take 1 = [112] := rfl
  have h2 : ([112] ++ 58 :: bl t).drop (1 + 1) = bl t := rfl
  have h3 : nameL [112] = true := by kernel_rfl
  simp only [h1, h2, h3, Bool.true_and]
  rw [of_p]
  unfold nameZ
  simp only
  cases h : nameL (bl t) with
  | true => rw [if_neg (by decide), if_pos rfl, bl_str]; rfl
  | false => rw [if_pos rfl, if_neg (by decide)]; rfl
theorem name_qt (t : ByteArray) : nameS (tells0 ++ [⟨bP, bU, 1⟩]) ((⟨#[113, 58]⟩ : ByteArray) ++ t) = (⟨#[]⟩, ⟨#[]⟩, false) := by
  have e : bl ((⟨#[113, 58]⟩ : ByteArray) ++ t) = [113] ++ 58 :: bl t := by simp [bl]
  unfold nameS
  rw [e, split_colon, col_one 113 (by decide)]
  have h1 : ([113] : List UInt8).take 1 = [113] := rfl
  have h2 : ([113] ++ 58 :: bl t).drop (1 + 1) = bl t := rfl
  simp only [h1, h2]
  rw [of_q]
  unfold nameZ
  simp only
  split <;> rfl

/-- The cells of the four elements. -/
def kindC : Array Value := #[.string ⟨#[120, 109, 108, 110, 115, 58, 120, 109, 108]⟩, .string ⟨#[117]⟩, .string ⟨#[120, 109, 108, 110, 115, 58, 120, 109, 108, 110, 115]⟩, .string ⟨#[117]⟩, .string ⟨#[120, 109, 108, 110, 115, 58, 112]⟩, .string ⟨#[]⟩, .string ⟨#[120, 109, 108, 110, 115]⟩, .string ⟨#[]⟩]
theorem kind_cells (k : Nat) (hk : k < 4) : kindC[k * 2]? = some (.string (kindA k).1) ∧ kindC[k * 2 + 1]? = some (.string (kindA k).2) := by
  match k, hk with
  | 0, _ => exact ⟨rfl, rfl⟩
  | 1, _ => exact ⟨rfl, rfl⟩
  | 2, _ => exact ⟨rfl, rfl⟩
  | 3, _ => exact ⟨rfl, rfl⟩
set_option maxHeartbeats 8000000 in
theorem names05_true_true (name T : ByteArray) (m : Nat) (kind : Int) (k : Nat) (hk : k < 4) (HK : Hid (bits .and .i64 kind 3 = (k : Int))) (hA : nameL (bl T) = true) (q3 : ((k : Int) == 3) = true) (hF : (enterL 2 [kindA k] [] (tells0 ++ [⟨bP, bU, 1⟩])).2.1 = 0)
    (hm1 : m ≤ name.size) (hm3 : min (name.size : Int) 20 = (m : Int)) (HTm : Hid (name.extract 0 m = T)) (hTs : T.size ≤ 20) (w : World) (hT : Tabs w) (hM : MaxL w) :
    Calls Tryd.prog 4 #[.string name, .int .i64 kind] w fun e w' => e = .returned (.bool true) ∧ Below w.heap.size w w' := by
  have HT := Lib.hid hT
  have HM := Lib.hid hM
  have C1 := Lib.hid (pnew w)
  have hk' := HK.out
  have nP := name_pt T
  have nQ := name_qt T
  rw [hA] at nP
  have nP : nameS (tells0 ++ [⟨bP, bU, 1⟩]) ((⟨#[112, 58]⟩ : ByteArray) ++ T) = (⟨#[117]⟩, T, true) := nP
  have NP := Lib.hid nP
  have NQ := Lib.hid nQ
  have HF := Lib.hid hF
  have C9 := Lib.hid (fun w (h : Tabs w) => rname T w (by omega))
  rw [hA] at C9
  clear hT hM nP nQ hA hF
  go_enter Tryd.func4, Tryd.ntmps4
  go_wp2_with fail
  refine C1.out.mono ?_
  rintro r w1 ⟨b, rfl, hS, hB⟩
  have hB2 := (Below.refl w1.heap.size w1).alloc (Nat.le_refl _) (.cells #[.string bXmlnsP, .string bU] 31)
  have C2 := penter w.heap.size b 0 w1.heap.size 1 [(bXmlnsP, bU)] tells0 _ (hS.step hB2) (by decide) (AttrsAt.new w1 _ [(bXmlnsP, bU)] rfl) (by decide)
  rw [enter_p0] at C2
  have K2 := Lib.hid C2
  have HB2 := Lib.hid (hB.trans (hB2.mono hB.size))
  clear hS hB hB2 C1 C2
  go_wp2_with fail
  rw [HTm.out]
  clear hm1 hm3
  refine K2.out.mono ?_
  rintro r w2 ⟨v2, rfl, _, hS2, hb2, _⟩
  have HB3 := Lib.hid (HB2.out.trans hb2)
  have C3 := pname _ _ _ _ ((⟨#[112, 58]⟩ : ByteArray) ++ T) w2 hS2 (by decide) (by rw [ByteArray.size_append]; show 2 + T.size < _; omega) (HT.out.below HB3.out) (HM.out.below HB3.out)
  rw [NP.out] at C3
  have K3 := Lib.hid C3
  have HS2 := Lib.hid hS2
  clear hS2 hb2 K2 C3
  have hcat : ¬ 9223372036854775807 < 2 + T.size := by omega
  go_wp2_with fail
  refine K3.out.mono ?_
  rintro r w3 ⟨rfl, hb3⟩
  have HS3 := Lib.hid (HS2.out.step hb3)
  have HB4 := Lib.hid (HB3.out.trans (hb3.mono HB3.out.size))
  have C4 := pname _ _ _ _ ((⟨#[113, 58]⟩ : ByteArray) ++ T) w3 HS3.out (by decide) (by rw [ByteArray.size_append]; show 2 + T.size < _; omega) (HT.out.below HB4.out) (HM.out.below HB4.out)
  rw [NQ.out] at C4
  have K4 := Lib.hid C4
  clear hb3 K3 HB3 HS2 C4
  go_wp2_with fail
  refine K4.out.mono ?_
  rintro r w4 ⟨rfl, hb4⟩
  have HS4 := Lib.hid (HS3.out.step hb4)
  have HB5 := Lib.hid (HB4.out.trans (hb4.mono HB4.out.size))
  clear hb4 K4 HB4 HS3
  -- the four elements
  have hn5 := heap_alloc_new w4 (.cells kindC 31)
  have a0 : (w4.alloc (.cells kindC 31)).cell? ⟨w4.heap.size, k * 2, none⟩ = some (.string (kindA k).1) := by rw [Lib.cell_of_heap hn5]; exact (kind_cells k hk).1
  have a1 : (w4.alloc (.cells kindC 31)).cell? ⟨w4.heap.size, k * 2 + 1, none⟩ = some (.string (kindA k).2) := by rw [Lib.cell_of_heap hn5]; exact (kind_cells k hk).2
  obtain ⟨X, hX⟩ : ∃ X, kindA k = X := ⟨_, rfl⟩
  obtain ⟨X0, X1⟩ := X
  rw [hX] at a0 a1 HF
  have hk4 : (k : Int) < 4 := by omega
  have hB6 := ((Below.refl w4.heap.size w4).alloc (Nat.le_refl _) (.cells kindC 31)).alloc (by simp) (.cells #[.string X0, .string X1] 31)
  have hB7 := hB6.alloc (by simp; omega) (.cells #[.string X0, .string X1] 31)
  have hA7 := AttrsAt.new ((w4.alloc (.cells kindC 31)).alloc (.cells #[.string X0, .string X1] 31)) #[.string X0, .string X1] [(X0, X1)] rfl
  have C6 := penter w.heap.size b 1 _ 1 [(X0, X1)] (tells0 ++ [⟨bP, bU, 1⟩]) _ (HS4.out.step hB7) (by decide) hA7 (show 1 ≤ 1000 by decide)
  obtain ⟨Z, hZ⟩ : ∃ Z, enterL (1 + 1) [(X0, X1)] [] (tells0 ++ [⟨bP, bU, 1⟩]) = Z := ⟨_, rfl⟩
  have hZ1 : Z.2.1 = 0 := by rw [← hZ]; exact HF.out
  rw [hZ] at C6
  obtain ⟨Z0, Z1, Z2⟩ := Z
  simp only at hZ1
  subst hZ1
  have K6 := Lib.hid C6
  have HB7 := Lib.hid (HB5.out.trans (hB7.mono HB5.out.size))
  unfold kindC at a0 a1
  rw [World.size_alloc, World.size_alloc] at K6
  clear hB6 hB7 hA7 C6 hX hZ hn5 HF HS4
  go_wp2_with fail
  refine K6.out.mono ?_
  rintro r w5 ⟨v5, rfl, _, _, hb5, _⟩
  have HB8 := Lib.hid (HB7.out.trans hb5)
  clear hb5 K6 HB7 a0 a1
  go_wp2_with fail
  refine (pleave_nil _).mono ?_
  rintro r w6 ⟨rfl, hb6⟩
  have HB9 := Lib.hid (HB8.out.trans (hb6.mono HB8.out.size))
  clear hb6 HB8
  go_wp2_with fail
  refine (penter_nil _ _).mono ?_
  rintro r w7 ⟨rfl, rfl⟩
  go_wp2_with fail
  refine (pof_nil _ _).mono ?_
  rintro r w8 ⟨rfl, hb8⟩
  have HB10 := Lib.hid (HB9.out.trans (hb8.mono HB9.out.size))
  clear hb8 HB9
  go_wp2_with fail
  refine (C9.out _ (HT.out.below HB10.out)).mono ?_
  rintro r w9 ⟨rfl, hb9⟩
  have HB11 := Lib.hid (HB10.out.trans (hb9.mono HB10.out.size))
  clear hb9 HB10 C9
  have CA := Lib.hid (awake05 _ (HT.out.below HB11.out) (HM.out.below HB11.out))
  go_wp2_with fail
  refine CA.out.mono ?_
  rintro r w10 ⟨rfl, hb10⟩
  have HB12 := Lib.hid (HB11.out.trans (hb10.mono HB11.out.size))
  clear hb10 HB11 CA
  go_wp2_with fail
  refine (pdepth_nil _).mono ?_
  rintro r w11 ⟨rfl, rfl⟩
  go_wp2
  go_ret
  exact ⟨rfl, HB12.out⟩

set_option maxHeartbeats 8000000 in
theorem names05_true_false (name T : ByteArray) (m : Nat) (kind : Int) (k : Nat) (hk : k < 4) (HK : Hid (bits .and .i64 kind 3 = (k : Int))) (hA : nameL (bl T) = true) (q3 : ((k : Int) == 3) = false) (hF : (enterL 2 [kindA k] [] (tells0 ++ [⟨bP, bU, 1⟩])).2.1 = 3)
    (hm1 : m ≤ name.size) (hm3 : min (name.size : Int) 20 = (m : Int)) (HTm : Hid (name.extract 0 m = T)) (hTs : T.size ≤ 20) (w : World) (hT : Tabs w) (hM : MaxL w) :
    Calls Tryd.prog 4 #[.string name, .int .i64 kind] w fun e w' => e = .returned (.bool true) ∧ Below w.heap.size w w' := by
  have HT := Lib.hid hT
  have HM := Lib.hid hM
  have C1 := Lib.hid (pnew w)
  have hk' := HK.out
  have nP := name_pt T
  have nQ := name_qt T
  rw [hA] at nP
  have nP : nameS (tells0 ++ [⟨bP, bU, 1⟩]) ((⟨#[112, 58]⟩ : ByteArray) ++ T) = (⟨#[117]⟩, T, true) := nP
  have NP := Lib.hid nP
  have NQ := Lib.hid nQ
  have HF := Lib.hid hF
  have C9 := Lib.hid (fun w (h : Tabs w) => rname T w (by omega))
  rw [hA] at C9
  clear hT hM nP nQ hA hF
  go_enter Tryd.func4, Tryd.ntmps4
  go_wp2_with fail
  refine C1.out.mono ?_
  rintro r w1 ⟨b, rfl, hS, hB⟩
  have hB2 := (Below.refl w1.heap.size w1).alloc (Nat.le_refl _) (.cells #[.string bXmlnsP, .string bU] 31)
  have C2 := penter w.heap.size b 0 w1.heap.size 1 [(bXmlnsP, bU)] tells0 _ (hS.step hB2) (by decide) (AttrsAt.new w1 _ [(bXmlnsP, bU)] rfl) (by decide)
  rw [enter_p0] at C2
  have K2 := Lib.hid C2
  have HB2 := Lib.hid (hB.trans (hB2.mono hB.size))
  clear hS hB hB2 C1 C2
  go_wp2_with fail
  rw [HTm.out]
  clear hm1 hm3
  refine K2.out.mono ?_
  rintro r w2 ⟨v2, rfl, _, hS2, hb2, _⟩
  have HB3 := Lib.hid (HB2.out.trans hb2)
  have C3 := pname _ _ _ _ ((⟨#[112, 58]⟩ : ByteArray) ++ T) w2 hS2 (by decide) (by rw [ByteArray.size_append]; show 2 + T.size < _; omega) (HT.out.below HB3.out) (HM.out.below HB3.out)
  rw [NP.out] at C3
  have K3 := Lib.hid C3
  have HS2 := Lib.hid hS2
  clear hS2 hb2 K2 C3
  have hcat : ¬ 9223372036854775807 < 2 + T.size := by omega
  go_wp2_with fail
  refine K3.out.mono ?_
  rintro r w3 ⟨rfl, hb3⟩
  have HS3 := Lib.hid (HS2.out.step hb3)
  have HB4 := Lib.hid (HB3.out.trans (hb3.mono HB3.out.size))
  have C4 := pname _ _ _ _ ((⟨#[113, 58]⟩ : ByteArray) ++ T) w3 HS3.out (by decide) (by rw [ByteArray.size_append]; show 2 + T.size < _; omega) (HT.out.below HB4.out) (HM.out.below HB4.out)
  rw [NQ.out] at C4
  have K4 := Lib.hid C4
  clear hb3 K3 HB3 HS2 C4
  go_wp2_with fail
  refine K4.out.mono ?_
  rintro r w4 ⟨rfl, hb4⟩
  have HS4 := Lib.hid (HS3.out.step hb4)
  have HB5 := Lib.hid (HB4.out.trans (hb4.mono HB4.out.size))
  clear hb4 K4 HB4 HS3
  -- the four elements
  have hn5 := heap_alloc_new w4 (.cells kindC 31)
  have a0 : (w4.alloc (.cells kindC 31)).cell? ⟨w4.heap.size, k * 2, none⟩ = some (.string (kindA k).1) := by rw [Lib.cell_of_heap hn5]; exact (kind_cells k hk).1
  have a1 : (w4.alloc (.cells kindC 31)).cell? ⟨w4.heap.size, k * 2 + 1, none⟩ = some (.string (kindA k).2) := by rw [Lib.cell_of_heap hn5]; exact (kind_cells k hk).2
  obtain ⟨X, hX⟩ : ∃ X, kindA k = X := ⟨_, rfl⟩
  obtain ⟨X0, X1⟩ := X
  rw [hX] at a0 a1 HF
  have hk4 : (k : Int) < 4 := by omega
  have hB6 := ((Below.refl w4.heap.size w4).alloc (Nat.le_refl _) (.cells kindC 31)).alloc (by simp) (.cells #[.string X0, .string X1] 31)
  have hB7 := hB6.alloc (by simp; omega) (.cells #[.string X0, .string X1] 31)
  have hA7 := AttrsAt.new ((w4.alloc (.cells kindC 31)).alloc (.cells #[.string X0, .string X1] 31)) #[.string X0, .string X1] [(X0, X1)] rfl
  have C6 := penter w.heap.size b 1 _ 1 [(X0, X1)] (tells0 ++ [⟨bP, bU, 1⟩]) _ (HS4.out.step hB7) (by decide) hA7 (show 1 ≤ 1000 by decide)
  obtain ⟨Z, hZ⟩ : ∃ Z, enterL (1 + 1) [(X0, X1)] [] (tells0 ++ [⟨bP, bU, 1⟩]) = Z := ⟨_, rfl⟩
  have hZ1 : Z.2.1 = 3 := by rw [← hZ]; exact HF.out
  rw [hZ] at C6
  obtain ⟨Z0, Z1, Z2⟩ := Z
  simp only at hZ1
  subst hZ1
  have K6 := Lib.hid C6
  have HB7 := Lib.hid (HB5.out.trans (hB7.mono HB5.out.size))
  unfold kindC at a0 a1
  rw [World.size_alloc, World.size_alloc] at K6
  clear hB6 hB7 hA7 C6 hX hZ hn5 HF HS4
  go_wp2_with fail
  refine K6.out.mono ?_
  rintro r w5 ⟨v5, rfl, _, _, hb5, _⟩
  have HB8 := Lib.hid (HB7.out.trans hb5)
  clear hb5 K6 HB7 a0 a1
  go_wp2_with fail
  refine (pleave_nil _).mono ?_
  rintro r w6 ⟨rfl, hb6⟩
  have HB9 := Lib.hid (HB8.out.trans (hb6.mono HB8.out.size))
  clear hb6 HB8
  go_wp2_with fail
  refine (penter_nil _ _).mono ?_
  rintro r w7 ⟨rfl, rfl⟩
  go_wp2_with fail
  refine (pof_nil _ _).mono ?_
  rintro r w8 ⟨rfl, hb8⟩
  have HB10 := Lib.hid (HB9.out.trans (hb8.mono HB9.out.size))
  clear hb8 HB9
  go_wp2_with fail
  refine (C9.out _ (HT.out.below HB10.out)).mono ?_
  rintro r w9 ⟨rfl, hb9⟩
  have HB11 := Lib.hid (HB10.out.trans (hb9.mono HB10.out.size))
  clear hb9 HB10 C9
  have CA := Lib.hid (awake05 _ (HT.out.below HB11.out) (HM.out.below HB11.out))
  go_wp2_with fail
  refine CA.out.mono ?_
  rintro r w10 ⟨rfl, hb10⟩
  have HB12 := Lib.hid (HB11.out.trans (hb10.mono HB11.out.size))
  clear hb10 HB11 CA
  go_wp2_with fail
  refine (pdepth_nil _).mono ?_
  rintro r w11 ⟨rfl, rfl⟩
  go_wp2
  go_ret
  exact ⟨rfl, HB12.out⟩

set_option maxHeartbeats 8000000 in
theorem names05_false_true (name T : ByteArray) (m : Nat) (kind : Int) (k : Nat) (hk : k < 4) (HK : Hid (bits .and .i64 kind 3 = (k : Int))) (hA : nameL (bl T) = false) (q3 : ((k : Int) == 3) = true) (hF : (enterL 2 [kindA k] [] (tells0 ++ [⟨bP, bU, 1⟩])).2.1 = 0)
    (hm1 : m ≤ name.size) (hm3 : min (name.size : Int) 20 = (m : Int)) (HTm : Hid (name.extract 0 m = T)) (hTs : T.size ≤ 20) (w : World) (hT : Tabs w) (hM : MaxL w) :
    Calls Tryd.prog 4 #[.string name, .int .i64 kind] w fun e w' => e = .returned (.bool true) ∧ Below w.heap.size w w' := by
  have HT := Lib.hid hT
  have HM := Lib.hid hM
  have C1 := Lib.hid (pnew w)
  have hk' := HK.out
  have nP := name_pt T
  have nQ := name_qt T
  rw [hA] at nP
  have nP : nameS (tells0 ++ [⟨bP, bU, 1⟩]) ((⟨#[112, 58]⟩ : ByteArray) ++ T) = (⟨#[]⟩, ⟨#[]⟩, false) := nP
  have NP := Lib.hid nP
  have NQ := Lib.hid nQ
  have HF := Lib.hid hF
  have C9 := Lib.hid (fun w (h : Tabs w) => rname T w (by omega))
  rw [hA] at C9
  clear hT hM nP nQ hA hF
  go_enter Tryd.func4, Tryd.ntmps4
  go_wp2_with fail
  refine C1.out.mono ?_
  rintro r w1 ⟨b, rfl, hS, hB⟩
  have hB2 := (Below.refl w1.heap.size w1).alloc (Nat.le_refl _) (.cells #[.string bXmlnsP, .string bU] 31)
  have C2 := penter w.heap.size b 0 w1.heap.size 1 [(bXmlnsP, bU)] tells0 _ (hS.step hB2) (by decide) (AttrsAt.new w1 _ [(bXmlnsP, bU)] rfl) (by decide)
  rw [enter_p0] at C2
  have K2 := Lib.hid C2
  have HB2 := Lib.hid (hB.trans (hB2.mono hB.size))
  clear hS hB hB2 C1 C2
  go_wp2_with fail
  rw [HTm.out]
  clear hm1 hm3
  refine K2.out.mono ?_
  rintro r w2 ⟨v2, rfl, _, hS2, hb2, _⟩
  have HB3 := Lib.hid (HB2.out.trans hb2)
  have C3 := pname _ _ _ _ ((⟨#[112, 58]⟩ : ByteArray) ++ T) w2 hS2 (by decide) (by rw [ByteArray.size_append]; show 2 + T.size < _; omega) (HT.out.below HB3.out) (HM.out.below HB3.out)
  rw [NP.out] at C3
  have K3 := Lib.hid C3
  have HS2 := Lib.hid hS2
  clear hS2 hb2 K2 C3
  have hcat : ¬ 9223372036854775807 < 2 + T.size := by omega
  go_wp2_with fail
  refine K3.out.mono ?_
  rintro r w3 ⟨rfl, hb3⟩
  have HS3 := Lib.hid (HS2.out.step hb3)
  have HB4 := Lib.hid (HB3.out.trans (hb3.mono HB3.out.size))
  have C4 := pname _ _ _ _ ((⟨#[113, 58]⟩ : ByteArray) ++ T) w3 HS3.out (by decide) (by rw [ByteArray.size_append]; show 2 + T.size < _; omega) (HT.out.below HB4.out) (HM.out.below HB4.out)
  rw [NQ.out] at C4
  have K4 := Lib.hid C4
  clear hb3 K3 HB3 HS2 C4
  go_wp2_with fail
  refine K4.out.mono ?_
  rintro r w4 ⟨rfl, hb4⟩
  have HS4 := Lib.hid (HS3.out.step hb4)
  have HB5 := Lib.hid (HB4.out.trans (hb4.mono HB4.out.size))
  clear hb4 K4 HB4 HS3
  -- the four elements
  have hn5 := heap_alloc_new w4 (.cells kindC 31)
  have a0 : (w4.alloc (.cells kindC 31)).cell? ⟨w4.heap.size, k * 2, none⟩ = some (.string (kindA k).1) := by rw [Lib.cell_of_heap hn5]; exact (kind_cells k hk).1
  have a1 : (w4.alloc (.cells kindC 31)).cell? ⟨w4.heap.size, k * 2 + 1, none⟩ = some (.string (kindA k).2) := by rw [Lib.cell_of_heap hn5]; exact (kind_cells k hk).2
  obtain ⟨X, hX⟩ : ∃ X, kindA k = X := ⟨_, rfl⟩
  obtain ⟨X0, X1⟩ := X
  rw [hX] at a0 a1 HF
  have hk4 : (k : Int) < 4 := by omega
  have hB6 := ((Below.refl w4.heap.size w4).alloc (Nat.le_refl _) (.cells kindC 31)).alloc (by simp) (.cells #[.string X0, .string X1] 31)
  have hB7 := hB6.alloc (by simp; omega) (.cells #[.string X0, .string X1] 31)
  have hA7 := AttrsAt.new ((w4.alloc (.cells kindC 31)).alloc (.cells #[.string X0, .string X1] 31)) #[.string X0, .string X1] [(X0, X1)] rfl
  have C6 := penter w.heap.size b 1 _ 1 [(X0, X1)] (tells0 ++ [⟨bP, bU, 1⟩]) _ (HS4.out.step hB7) (by decide) hA7 (show 1 ≤ 1000 by decide)
  obtain ⟨Z, hZ⟩ : ∃ Z, enterL (1 + 1) [(X0, X1)] [] (tells0 ++ [⟨bP, bU, 1⟩]) = Z := ⟨_, rfl⟩
  have hZ1 : Z.2.1 = 0 := by rw [← hZ]; exact HF.out
  rw [hZ] at C6
  obtain ⟨Z0, Z1, Z2⟩ := Z
  simp only at hZ1
  subst hZ1
  have K6 := Lib.hid C6
  have HB7 := Lib.hid (HB5.out.trans (hB7.mono HB5.out.size))
  unfold kindC at a0 a1
  rw [World.size_alloc, World.size_alloc] at K6
  clear hB6 hB7 hA7 C6 hX hZ hn5 HF HS4
  go_wp2_with fail
  refine K6.out.mono ?_
  rintro r w5 ⟨v5, rfl, _, _, hb5, _⟩
  have HB8 := Lib.hid (HB7.out.trans hb5)
  clear hb5 K6 HB7 a0 a1
  go_wp2_with fail
  refine (pleave_nil _).mono ?_
  rintro r w6 ⟨rfl, hb6⟩
  have HB9 := Lib.hid (HB8.out.trans (hb6.mono HB8.out.size))
  clear hb6 HB8
  go_wp2_with fail
  refine (penter_nil _ _).mono ?_
  rintro r w7 ⟨rfl, rfl⟩
  go_wp2_with fail
  refine (pof_nil _ _).mono ?_
  rintro r w8 ⟨rfl, hb8⟩
  have HB10 := Lib.hid (HB9.out.trans (hb8.mono HB9.out.size))
  clear hb8 HB9
  go_wp2_with fail
  refine (C9.out _ (HT.out.below HB10.out)).mono ?_
  rintro r w9 ⟨rfl, hb9⟩
  have HB11 := Lib.hid (HB10.out.trans (hb9.mono HB10.out.size))
  clear hb9 HB10 C9
  have CA := Lib.hid (awake05 _ (HT.out.below HB11.out) (HM.out.below HB11.out))
  go_wp2_with fail
  refine CA.out.mono ?_
  rintro r w10 ⟨rfl, hb10⟩
  have HB12 := Lib.hid (HB11.out.trans (hb10.mono HB11.out.size))
  clear hb10 HB11 CA
  go_wp2_with fail
  refine (pdepth_nil _).mono ?_
  rintro r w11 ⟨rfl, rfl⟩
  go_wp2
  go_ret
  exact ⟨rfl, HB12.out⟩

set_option maxHeartbeats 8000000 in
theorem names05_false_false (name T : ByteArray) (m : Nat) (kind : Int) (k : Nat) (hk : k < 4) (HK : Hid (bits .and .i64 kind 3 = (k : Int))) (hA : nameL (bl T) = false) (q3 : ((k : Int) == 3) = false) (hF : (enterL 2 [kindA k] [] (tells0 ++ [⟨bP, bU, 1⟩])).2.1 = 3)
    (hm1 : m ≤ name.size) (hm3 : min (name.size : Int) 20 = (m : Int)) (HTm : Hid (name.extract 0 m = T)) (hTs : T.size ≤ 20) (w : World) (hT : Tabs w) (hM : MaxL w) :
    Calls Tryd.prog 4 #[.string name, .int .i64 kind] w fun e w' => e = .returned (.bool true) ∧ Below w.heap.size w w' := by
  have HT := Lib.hid hT
  have HM := Lib.hid hM
  have C1 := Lib.hid (pnew w)
  have hk' := HK.out
  have nP := name_pt T
  have nQ := name_qt T
  rw [hA] at nP
  have nP : nameS (tells0 ++ [⟨bP, bU, 1⟩]) ((⟨#[112, 58]⟩ : ByteArray) ++ T) = (⟨#[]⟩, ⟨#[]⟩, false) := nP
  have NP := Lib.hid nP
  have NQ := Lib.hid nQ
  have HF := Lib.hid hF
  have C9 := Lib.hid (fun w (h : Tabs w) => rname T w (by omega))
  rw [hA] at C9
  clear hT hM nP nQ hA hF
  go_enter Tryd.func4, Tryd.ntmps4
  go_wp2_with fail
  refine C1.out.mono ?_
  rintro r w1 ⟨b, rfl, hS, hB⟩
  have hB2 := (Below.refl w1.heap.size w1).alloc (Nat.le_refl _) (.cells #[.string bXmlnsP, .string bU] 31)
  have C2 := penter w.heap.size b 0 w1.heap.size 1 [(bXmlnsP, bU)] tells0 _ (hS.step hB2) (by decide) (AttrsAt.new w1 _ [(bXmlnsP, bU)] rfl) (by decide)
  rw [enter_p0] at C2
  have K2 := Lib.hid C2
  have HB2 := Lib.hid (hB.trans (hB2.mono hB.size))
  clear hS hB hB2 C1 C2
  go_wp2_with fail
  rw [HTm.out]
  clear hm1 hm3
  refine K2.out.mono ?_
  rintro r w2 ⟨v2, rfl, _, hS2, hb2, _⟩
  have HB3 := Lib.hid (HB2.out.trans hb2)
  have C3 := pname _ _ _ _ ((⟨#[112, 58]⟩ : ByteArray) ++ T) w2 hS2 (by decide) (by rw [ByteArray.size_append]; show 2 + T.size < _; omega) (HT.out.below HB3.out) (HM.out.below HB3.out)
  rw [NP.out] at C3
  have K3 := Lib.hid C3
  have HS2 := Lib.hid hS2
  clear hS2 hb2 K2 C3
  have hcat : ¬ 9223372036854775807 < 2 + T.size := by omega
  go_wp2_with fail
  refine K3.out.mono ?_
  rintro r w3 ⟨rfl, hb3⟩
  have HS3 := Lib.hid (HS2.out.step hb3)
  have HB4 := Lib.hid (HB3.out.trans (hb3.mono HB3.out.size))
  have C4 := pname _ _ _ _ ((⟨#[113, 58]⟩ : ByteArray) ++ T) w3 HS3.out (by decide) (by rw [ByteArray.size_append]; show 2 + T.size < _; omega) (HT.out.below HB4.out) (HM.out.below HB4.out)
  rw [NQ.out] at C4
  have K4 := Lib.hid C4
  clear hb3 K3 HB3 HS2 C4
  go_wp2_with fail
  refine K4.out.mono ?_
  rintro r w4 ⟨rfl, hb4⟩
  have HS4 := Lib.hid (HS3.out.step hb4)
  have HB5 := Lib.hid (HB4.out.trans (hb4.mono HB4.out.size))
  clear hb4 K4 HB4 HS3
  -- the four elements
  have hn5 := heap_alloc_new w4 (.cells kindC 31)
  have a0 : (w4.alloc (.cells kindC 31)).cell? ⟨w4.heap.size, k * 2, none⟩ = some (.string (kindA k).1) := by rw [Lib.cell_of_heap hn5]; exact (kind_cells k hk).1
  have a1 : (w4.alloc (.cells kindC 31)).cell? ⟨w4.heap.size, k * 2 + 1, none⟩ = some (.string (kindA k).2) := by rw [Lib.cell_of_heap hn5]; exact (kind_cells k hk).2
  obtain ⟨X, hX⟩ : ∃ X, kindA k = X := ⟨_, rfl⟩
  obtain ⟨X0, X1⟩ := X
  rw [hX] at a0 a1 HF
  have hk4 : (k : Int) < 4 := by omega
  have hB6 := ((Below.refl w4.heap.size w4).alloc (Nat.le_refl _) (.cells kindC 31)).alloc (by simp) (.cells #[.string X0, .string X1] 31)
  have hB7 := hB6.alloc (by simp; omega) (.cells #[.string X0, .string X1] 31)
  have hA7 := AttrsAt.new ((w4.alloc (.cells kindC 31)).alloc (.cells #[.string X0, .string X1] 31)) #[.string X0, .string X1] [(X0, X1)] rfl
  have C6 := penter w.heap.size b 1 _ 1 [(X0, X1)] (tells0 ++ [⟨bP, bU, 1⟩]) _ (HS4.out.step hB7) (by decide) hA7 (show 1 ≤ 1000 by decide)
  obtain ⟨Z, hZ⟩ : ∃ Z, enterL (1 + 1) [(X0, X1)] [] (tells0 ++ [⟨bP, bU, 1⟩]) = Z := ⟨_, rfl⟩
  have hZ1 : Z.2.1 = 3 := by rw [← hZ]; exact HF.out
  rw [hZ] at C6
  obtain ⟨Z0, Z1, Z2⟩ := Z
  simp only at hZ1
  subst hZ1
  have K6 := Lib.hid C6
  have HB7 := Lib.hid (HB5.out.trans (hB7.mono HB5.out.size))
  unfold kindC at a0 a1
  rw [World.size_alloc, World.size_alloc] at K6
  clear hB6 hB7 hA7 C6 hX hZ hn5 HF HS4
  go_wp2_with fail
  refine K6.out.mono ?_
  rintro r w5 ⟨v5, rfl, _, _, hb5, _⟩
  have HB8 := Lib.hid (HB7.out.trans hb5)
  clear hb5 K6 HB7 a0 a1
  go_wp2_with fail
  refine (pleave_nil _).mono ?_
  rintro r w6 ⟨rfl, hb6⟩
  have HB9 := Lib.hid (HB8.out.trans (hb6.mono HB8.out.size))
  clear hb6 HB8
  go_wp2_with fail
  refine (penter_nil _ _).mono ?_
  rintro r w7 ⟨rfl, rfl⟩
  go_wp2_with fail
  refine (pof_nil _ _).mono ?_
  rintro r w8 ⟨rfl, hb8⟩
  have HB10 := Lib.hid (HB9.out.trans (hb8.mono HB9.out.size))
  clear hb8 HB9
  go_wp2_with fail
  refine (C9.out _ (HT.out.below HB10.out)).mono ?_
  rintro r w9 ⟨rfl, hb9⟩
  have HB11 := Lib.hid (HB10.out.trans (hb9.mono HB10.out.size))
  clear hb9 HB10 C9
  have CA := Lib.hid (awake05 _ (HT.out.below HB11.out) (HM.out.below HB11.out))
  go_wp2_with fail
  refine CA.out.mono ?_
  rintro r w10 ⟨rfl, hb10⟩
  have HB12 := Lib.hid (HB11.out.trans (hb10.mono HB11.out.size))
  clear hb10 HB11 CA
  go_wp2_with fail
  refine (pdepth_nil _).mono ?_
  rintro r w11 ⟨rfl, rfl⟩
  go_wp2
  go_ret
  exact ⟨rfl, HB12.out⟩

/-- **The law SpaceNames.** -/
theorem names_any (name : ByteArray) (kind : Int) (w : World) (hT : Tabs w) (hM : MaxL w) :
    Calls Tryd.prog 4 #[.string name, .int .i64 kind] w fun e w' => e = .returned (.bool true) ∧ Below w.heap.size w w' := by
  obtain ⟨k, hk, hn⟩ := mask_any kind 2 (by decide) 3 (by decide)
  obtain ⟨m, hm1, hm2, _, Hm3, _⟩ := min8 name.size 20
  obtain ⟨T, hT'⟩ : ∃ T, name.extract 0 m = T := ⟨_, rfl⟩
  have hTs : T.size ≤ 20 := by rw [← bl_size, ← hT', cut_bl, List.length_take, bl_size]; omega
  have hF := enter_k k hk
  by_cases h3 : k = 3
  · have q3 : ((k : Int) == 3) = true := by simp; omega
    rw [if_pos h3] at hF
    cases hA : nameL (bl T) with
    | true => exact names05_true_true name T m kind k hk (Lib.hid hn) hA q3 hF hm1 Hm3.out (Lib.hid hT') hTs w hT hM
    | false => exact names05_false_true name T m kind k hk (Lib.hid hn) hA q3 hF hm1 Hm3.out (Lib.hid hT') hTs w hT hM
  · have q3 : ((k : Int) == 3) = false := by simp; omega
    rw [if_neg h3] at hF
    cases hA : nameL (bl T) with
    | true => exact names05_true_false name T m kind k hk (Lib.hid hn) hA q3 hF hm1 Hm3.out (Lib.hid hT') hTs w hT hM
    | false => exact names05_false_false name T m kind k hk (Lib.hid hn) hA q3 hF hm1 Hm3.out (Lib.hid hT') hTs w hT hM

end Go.Proofs.YtjmpgefjoopigaaDoor
