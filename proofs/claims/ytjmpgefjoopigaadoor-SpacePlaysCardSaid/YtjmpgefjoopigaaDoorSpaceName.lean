/-
  The walk of (*Spaces).Name; the walk of layer 5's galliardlaw05.awake.
-/
import Derived.Test.YtjmpgefjoopigaaDoorChars
import Derived.Test.YtjmpgefjoopigaaDoorSpaceEnter
import Derived.Test.YtjmpgefjoopigaaDoorSpaceLeave
import Derived.Test.YtjmpgefjoopigaaDoorSpaceOf
namespace Go.Proofs.YtjmpgefjoopigaaDoor
open Go Go.RowKit
set_option maxRecDepth 100000

/-- What Name answers. -/
def nameZ (C : ByteArray × ByteArray × Bool) (O : Option ByteArray) : ByteArray × ByteArray × Bool :=
  if C.2.2 = false then (bNone, bNone, false)
  else match O with
    | none => (bNone, bNone, false)
    | some u => (u, C.2.1, true)
def nameS (L : List Tell) (s : ByteArray) : ByteArray × ByteArray × Bool :=
  nameZ (str (splitL (bl s)).1, str (splitL (bl s)).2.1, (splitL (bl s)).2.2) (ofT L (str (splitL (bl s)).1))
set_option maxHeartbeats 2000000 in
theorem pname0 (b : Nat) (s : ByteArray) (w : World) (C : ByteArray × ByteArray × Bool) (O : Option ByteArray) (Z : ByteArray × ByteArray × Bool)
    (C1 : Hid (Calls Tryd.prog 19 #[.string s] w fun e w' => e = .returned (.tuple #[.string C.1, .string C.2.1, .bool C.2.2]) ∧ Below w.heap.size w w'))
    (C2 : Hid (∀ w', Below w.heap.size w w' → Calls Tryd.prog 9 #[.pointer (some ⟨b, 0, none⟩), .string C.1] w' fun r w'' => r = .returned (.tuple #[.string (O.getD bNone), .bool O.isSome]) ∧ Below w'.heap.size w' w''))
    (HZ : Hid (Z = nameZ C O)) :
    Calls Tryd.prog 12 #[.pointer (some ⟨b, 0, none⟩), .string s] w fun r w' => r = .returned (.tuple #[.string Z.1, .string Z.2.1, .bool Z.2.2]) ∧ Below w.heap.size w w' := by
  obtain ⟨P, R, N⟩ := C
  simp only at C1 C2 HZ
  cases N with
  | false =>
    have hZ := HZ.out
    unfold nameZ at hZ
    rw [if_pos rfl] at hZ
    subst hZ
    clear C2 HZ
    go_enter Tryd.func12, Tryd.ntmps12
    go_wp2_with (go_at_call 19; refine C1.out.mono ?_; rintro e w' ⟨rfl, hb⟩)
    go_ret3
    exact ⟨rfl, hb⟩
  | true =>
    have hZ := HZ.out
    unfold nameZ at hZ
    rw [if_neg (fun h => by cases h)] at hZ
    clear HZ
    cases O with
    | none =>
      simp only at hZ
      subst hZ
      go_enter Tryd.func12, Tryd.ntmps12
      go_wp2_with fail
      refine C1.out.mono ?_
      rintro r w1 ⟨rfl, hb⟩
      have C3 := Lib.hid (C2.out w1 hb)
      simp only [Option.getD_none, Option.isSome_none] at C3
      clear C1 C2
      go_wp2_with fail
      refine C3.out.mono ?_
      rintro r w2 ⟨rfl, hb2⟩
      go_wp2
      go_ret3
      exact ⟨rfl, hb.trans (hb2.mono hb.size)⟩
    | some u =>
      simp only at hZ
      subst hZ
      go_enter Tryd.func12, Tryd.ntmps12
      go_wp2_with fail
      refine C1.out.mono ?_
      rintro r w1 ⟨rfl, hb⟩
      have C3 := Lib.hid (C2.out w1 hb)
      simp only [Option.getD_some, Option.isSome_some] at C3
      clear C1 C2
      go_wp2_with fail
      refine C3.out.mono ?_
      rintro r w2 ⟨rfl, hb2⟩
      go_wp2
      go_ret3
      exact ⟨rfl, hb.trans (hb2.mono hb.size)⟩
/-- **(*Spaces).Name.** -/
theorem pname (B b d : Nat) (L : List Tell) (s : ByteArray) (w : World) (hS : Sp B b d L w) (hlen : L.length ≤ 1000) (hs : s.size < 4294967281) (hT : Tabs w) (hM : MaxL w) :
    Calls Tryd.prog 12 #[.pointer (some ⟨b, 0, none⟩), .string s] w fun r w' => r = .returned (.tuple #[.string (nameS L s).1, .string (nameS L s).2.1, .bool (nameS L s).2.2]) ∧ Below w.heap.size w w' :=
  pname0 b s w (str (splitL (bl s)).1, str (splitL (bl s)).2.1, (splitL (bl s)).2.2) (ofT L (str (splitL (bl s)).1)) _ (Lib.hid (csplit s w hs hT hM))
    (Lib.hid fun w' h => pof B b d L _ w' (hS.step h) hlen) (Lib.hid rfl)

/-! ### awake -/
def bP : ByteArray := ⟨#[112]⟩
def bU : ByteArray := ⟨#[117]⟩
def bXmlnsP : ByteArray := ⟨#[120, 109, 108, 110, 115, 58, 112]⟩
theorem awake_enter : enterL 1 [(bXmlnsP, bU), (⟨#[98]⟩, ⟨#[99]⟩)] [] tells0 = ([(⟨#[98]⟩, ⟨#[99]⟩)], 0, tells0 ++ [⟨bP, bU, 1⟩]) := by kernel_rfl
theorem awake_name : nameS (tells0 ++ [⟨bP, bU, 1⟩]) ⟨#[112, 58, 97]⟩ = (⟨#[117]⟩, ⟨#[97]⟩, true) := by kernel_rfl
set_option maxHeartbeats 4000000 in
theorem awake05 (w : World) (hT : Tabs w) (hM : MaxL w) :
    Calls Tryd.prog 11 #[] w fun e w' => e = .returned (.bool true) ∧ Below w.heap.size w w' := by
  have HT := Lib.hid hT
  have HM := Lib.hid hM
  have C1 := Lib.hid (pnew w)
  clear hT hM
  go_enter Tryd.func11, Tryd.ntmps11
  go_wp2_with fail
  refine C1.out.mono ?_
  rintro r w1 ⟨b, rfl, hS, hB⟩
  have hS2 := hS.step ((Below.refl w1.heap.size w1).alloc (Nat.le_refl _) (.cells #[.string bXmlnsP, .string bU, .string ⟨#[98]⟩, .string ⟨#[99]⟩] 31))
  have hB2 := hB.alloc hB.size (.cells #[.string bXmlnsP, .string bU, .string ⟨#[98]⟩, .string ⟨#[99]⟩] 31)
  have C2 := penter w.heap.size b 0 w1.heap.size 2 [(bXmlnsP, bU), (⟨#[98]⟩, ⟨#[99]⟩)] tells0 _ hS2 (by decide) (AttrsAt.new w1 _ [(bXmlnsP, bU), (⟨#[98]⟩, ⟨#[99]⟩)] rfl) (by decide)
  rw [awake_enter] at C2
  have C2 := Lib.hid C2
  have HB2 := Lib.hid hB2
  clear hS hB hS2 hB2 C1
  go_wp2_with fail
  refine C2.out.mono ?_
  rintro r w2 ⟨v, rfl, hown, hS2, hB2, _⟩
  obtain ⟨g, cp, rfl, _⟩ := hown.form (by decide)
  have HB3 := Lib.hid (HB2.out.trans hB2)
  have C3 := pname _ _ _ _ ⟨#[112, 58, 97]⟩ w2 hS2 (by decide) (by decide) (HT.out.below HB3.out) (HM.out.below HB3.out)
  rw [awake_name] at C3
  have C3 := Lib.hid C3
  have CD := Lib.hid fun w' (h : Below w2.heap.size w2 w') => pdepth _ _ _ _ w' (hS2.step h)
  clear C2 hown hS2 hB2
  go_wp2_with fail
  refine C3.out.mono ?_
  rintro r w3 ⟨rfl, hb3⟩
  have CD := Lib.hid (CD.out _ hb3)
  have HB4 := Lib.hid (HB3.out.trans (hb3.mono HB3.out.size))
  clear C3 hb3
  go_wp2_with fail
  refine CD.out.mono ?_
  rintro r w4 ⟨rfl, rfl⟩
  go_wp2
  go_ret
  exact ⟨rfl, HB4.out⟩

end Go.Proofs.YtjmpgefjoopigaaDoor
