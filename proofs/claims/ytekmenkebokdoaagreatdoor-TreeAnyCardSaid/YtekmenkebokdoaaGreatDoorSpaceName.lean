/-
  The walk of (*Spaces).Name; the walk of layer 5's galliardlaw05.awake.
-/
import Derived.Test.YtekmenkebokdoaaGreatDoorChars
import Derived.Test.YtekmenkebokdoaaGreatDoorSpaceEnter
import Derived.Test.YtekmenkebokdoaaGreatDoorSpaceLeave
import Derived.Test.YtekmenkebokdoaaGreatDoorSpaceOf
namespace Go.Proofs.YtekmenkebokdoaaGreatDoor
open Go Go.RowKit
set_option maxRecDepth 100000

set_option maxHeartbeats 2000000 in
theorem pname0 (b : Nat) (s : ByteArray) (w : World) (C : ByteArray × ByteArray × Bool) (O : Option ByteArray) (Z : ByteArray × ByteArray × Bool)
    (C1 : Hid (Calls Tryz.prog 65 #[.string s] w fun e w' => e = .returned (.tuple #[.string C.1, .string C.2.1, .bool C.2.2]) ∧ Below w.heap.size w w'))
    (C2 : Hid (∀ w', Below w.heap.size w w' → Calls Tryz.prog 66 #[.pointer (some ⟨b, 0, none⟩), .string C.1] w' fun r w'' => r = .returned (.tuple #[.string (O.getD bNone), .bool O.isSome]) ∧ Below w'.heap.size w' w''))
    (HZ : Hid (Z = nameZ C O)) :
    Calls Tryz.prog 53 #[.pointer (some ⟨b, 0, none⟩), .string s] w fun r w' => r = .returned (.tuple #[.string Z.1, .string Z.2.1, .bool Z.2.2]) ∧ Below w.heap.size w w' := by
  obtain ⟨P, R, N⟩ := C
  simp only at C1 C2 HZ
  cases N with
  | false =>
    have hZ := HZ.out
    unfold nameZ at hZ
    rw [if_pos rfl] at hZ
    subst hZ
    clear C2 HZ
    go_enter Tryz.func53, Tryz.ntmps53
    go_wp2_with (go_at_call 65; refine C1.out.mono ?_; rintro e w' ⟨rfl, hb⟩)
    go_ret3
    exact ⟨rfl, hb⟩
  | true =>
    have hZ := HZ.out
    unfold nameZ at hZ
    rw [if_neg (fun h => by cases h)] at hZ
    clear HZ
    cases O with
    | none =>
      simp only at hZ
      subst hZ
      go_enter Tryz.func53, Tryz.ntmps53
      go_wp2_with fail
      refine C1.out.mono ?_
      rintro r w1 ⟨rfl, hb⟩
      have C3 := Lib.hid (C2.out w1 hb)
      simp only [Option.getD_none, Option.isSome_none] at C3
      clear C1 C2
      go_wp2_with fail
      refine C3.out.mono ?_
      rintro r w2 ⟨rfl, hb2⟩
      go_wp2
      go_ret3
      exact ⟨rfl, hb.trans (hb2.mono hb.size)⟩
    | some u =>
      simp only at hZ
      subst hZ
      go_enter Tryz.func53, Tryz.ntmps53
      go_wp2_with fail
      refine C1.out.mono ?_
      rintro r w1 ⟨rfl, hb⟩
      have C3 := Lib.hid (C2.out w1 hb)
      simp only [Option.getD_some, Option.isSome_some] at C3
      clear C1 C2
      go_wp2_with fail
      refine C3.out.mono ?_
      rintro r w2 ⟨rfl, hb2⟩
      go_wp2
      go_ret3
      exact ⟨rfl, hb.trans (hb2.mono hb.size)⟩
/-- **(*Spaces).Name.** -/
theorem pname (B b d : Nat) (L : List Tell) (s : ByteArray) (w : World) (hS : Sp B b d L w) (hlen : L.length ≤ 1000) (hs : s.size < 4294967281) (hT : Tabs w) (hM : MaxL w) :
    Calls Tryz.prog 53 #[.pointer (some ⟨b, 0, none⟩), .string s] w fun r w' => r = .returned (.tuple #[.string (nameSp L s).1, .string (nameSp L s).2.1, .bool (nameSp L s).2.2]) ∧ Below w.heap.size w w' :=
  pname0 b s w (str (splitL (bl s)).1, str (splitL (bl s)).2.1, (splitL (bl s)).2.2) (ofT L (str (splitL (bl s)).1)) _ (Lib.hid (csplit s w hs hT hM))
    (Lib.hid fun w' h => pof B b d L _ w' (hS.step h) hlen) (Lib.hid rfl)

/-! ### awake -/
def bP : ByteArray := ⟨#[112]⟩
def bU : ByteArray := ⟨#[117]⟩
def bXmlnsP : ByteArray := ⟨#[120, 109, 108, 110, 115, 58, 112]⟩
theorem awake_enter : enterL 1 [(bXmlnsP, bU), (⟨#[98]⟩, ⟨#[99]⟩)] [] tells0 = ([(⟨#[98]⟩, ⟨#[99]⟩)], 0, tells0 ++ [⟨bP, bU, 1⟩]) := by kernel_rfl
theorem awake_name : nameSp (tells0 ++ [⟨bP, bU, 1⟩]) ⟨#[112, 58, 97]⟩ = (⟨#[117]⟩, ⟨#[97]⟩, true) := by kernel_rfl
end Go.Proofs.YtekmenkebokdoaaGreatDoor
