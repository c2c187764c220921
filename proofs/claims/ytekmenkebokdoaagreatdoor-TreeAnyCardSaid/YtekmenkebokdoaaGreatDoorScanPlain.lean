/-
  The walk of galliardref01.Plain.
-/
import Derived.Test.YtekmenkebokdoaaGreatDoorEntRef
import Derived.Test.YtekmenkebokdoaaGreatDoorScanMath
import Derived.OwnWalk
import Derived.IntWalk
namespace Go.Proofs.YtekmenkebokdoaaGreatDoor
open Go.RowKit
set_option maxRecDepth 100000

/-- What Plain hands back: a text whose letters may all stand in one. -/
def Plains (s : ByteArray) (w : World) (r : Ending) (w' : World) : Prop := ∃ P, r = .returned (.string (str P)) ∧ Lets P ∧ P.length = s.size ∧ Below w.heap.size w w'
def PlR (s : ByteArray) (w : World) (g : Nat) (out at_ : Value) (wr : World) : Prop :=
  ∃ (k : Nat) (P : List UInt8), g + k = s.size ∧ at_ = .int .i64 k ∧ out = .string (str P) ∧ Lets P ∧ P.length = k ∧ Below w.heap.size w wr
theorem str_x (P : List UInt8) : str P ++ ⟨#[120]⟩ = str (P ++ [120]) := str_append P [120]
set_option maxHeartbeats 4000000 in
theorem rplain (s : ByteArray) (w : World) (hs : s.size ≤ 1000000) :
    Calls Tryz.prog 19 #[.string s] w (Plains s w) := by
  go_enter Tryz.func19, Tryz.ntmps19
  go_wp2
  go_loopg [3, 4] s.size (fun g out at_ wr => PlR s w g out at_ wr)
  case atStart => exact ⟨0, [], rfl, rfl, rfl, Lets.nil, rfl, Below.refl _ _⟩
  case round =>
    obtain ⟨k, P, hg, rfl, rfl, hP, hPl, hb⟩ := hrel
    by_cases hk : k < s.size
    · have hk' : (k : Int) < (s.size : Int) := by omega
      have hk2 : (k : Int) ≤ (s.size : Int) := by omega
      have C1 := rget (s.extract k s.size) wr (by have := size_from s k; omega)
      rw [bl_from] at C1
      have hgl := gl_pos ((bl s).drop k)
      have htk := gl_take ((bl s).drop k)
      rw [List.length_drop, bl_size] at hgl
      obtain ⟨A, hA⟩ : ∃ A, (gl ((bl s).drop k)).1 = A := ⟨_, rfl⟩
      obtain ⟨Bi, hB⟩ : ∃ Bi, (gl ((bl s).drop k)).2 = Bi := ⟨_, rfl⟩
      have hmay := gl_may ((bl s).drop k)
      rw [hA, hB] at C1 htk hmay
      rw [hB] at hgl
      obtain ⟨n, rfl⟩ : ∃ n : Nat, Bi = n := ⟨Bi.toNat, by omega⟩
      have hn4 : n ≤ s.size - k := by omega
      have C1 := Lib.hid C1
      have HP := Lib.hid hP
      have HPl := Lib.hid hPl
      clear hP hPl hA hB
      have hx : ∀ w', Below w.heap.size w w' → PlR s w (s.size - (k + 1)) (.string (str P ++ ⟨#[120]⟩)) (.int .i64 ((k : Int) + 1)) w' := fun w' h =>
        ⟨k + 1, P ++ [120], by omega, rfl, by rw [str_x], by have := HP.out.snoc 120 (by decide); rw [put_120] at this; exact this, by rw [List.length_append, HPl.out]; rfl, h⟩
      have HX := Lib.hid hx
      have hPz : (str P).size ≤ 1000000 := by rw [str_size, HPl.out]; omega
      clear hx
      by_cases h0 : n = 0
      · subst h0
        clear hgl htk hmay
        go_wp2_with fail
        refine C1.out.mono ?_
        rintro r w1 ⟨rfl, hb1⟩
        have hgo := HX.out w1 (hb.trans (hb1.mono hb.size))
        clear hb hb1 C1
        go_wp2
        go_roundg (s.size - (k + 1))
        case measure => omega
        case rel => exact hgo
      · have q0 : ((n : Int) == 0) = false := by simp; omega
        have htk := htk (by omega)
        have hmay := hmay (by omega)
        simp only [Int.toNat_natCast] at htk
        have hsub : bl (s.extract k (k + n)) = put A := by
          rw [bl_sub, List.drop_take, Nat.add_sub_cancel_left]; exact htk
        have hss : (s.extract k (k + n)).size = n := by
          have h1 := congrArg List.length htk
          rw [← bl_size, hsub, ← htk, List.length_take, List.length_drop, bl_size]; omega
        have C2 := fun w1 => rtext (s.extract k (k + n)) w1 (by rw [hss]; omega)
        rw [hsub] at C2
        have hpt := textL_put A hmay
        obtain ⟨X, hX⟩ : ∃ X, textL (put A) = X := ⟨_, rfl⟩
        rw [hX] at hpt C2
        have C2 := Lib.hid C2
        obtain ⟨Y, hY⟩ : ∃ Y, s.extract k (k + n) = Y := ⟨_, rfl⟩
        have hYs : Y = str (put A) := by rw [← hY, ← bl_str (s.extract k (k + n)), hsub]
        have hpl : (put A).length = n := by rw [← hsub, bl_size, hss]
        have e1 : (k : Int) + (n : Int) ≤ (s.size : Int) := by omega
        by_cases hX0 : 0 ≤ X
        · clear htk hmay hsub hss hpt hX hYs hpl hgl hn4 hY
          go_wp2_with fail
          refine C1.out.mono ?_
          rintro r w1 ⟨rfl, hb1⟩
          have hb2 := hb.trans (hb1.mono hb.size)
          clear hb hb1 C1
          go_wp2_with fail
          refine (C2.out w1).mono ?_
          rintro r w2 ⟨rfl, hb3⟩
          have hgo := HX.out w2 (hb2.trans (hb3.mono hb2.size))
          clear hb2 hb3 C2
          go_wp2
          go_roundg (s.size - (k + 1))
          case measure => omega
          case rel => exact hgo
        · have hlet : letB A = true := hpt.1 (by omega)
          have hX1 : decide (0 ≤ X) = false := decide_eq_false hX0
          have hgo : ∀ w', Below w.heap.size w w' → PlR s w (s.size - (k + n)) (.string (str P ++ s.extract k (k + n))) (.int .i64 ((k : Int) + (n : Int))) w' := fun w' h =>
            ⟨k + n, P ++ put A, by omega, rfl, by rw [hY, hYs, str_append], HP.out.snoc A hlet, by rw [List.length_append, HPl.out, hpl], h⟩
          have HG := Lib.hid hgo
          have hYz : (s.extract k (k + n)).size ≤ 1000000 := by rw [hss]; omega
          clear hgo htk hmay hsub hss hpt hX hYs hpl hgl hn4 hY hlet hX0
          go_wp2_with fail
          refine C1.out.mono ?_
          rintro r w1 ⟨rfl, hb1⟩
          have hb2 := hb.trans (hb1.mono hb.size)
          clear hb hb1 C1
          go_wp2_with fail
          refine (C2.out w1).mono ?_
          rintro r w2 ⟨rfl, hb3⟩
          have hgo := HG.out w2 (hb2.trans (hb3.mono hb2.size))
          clear hb2 hb3 C2
          go_wp2
          go_roundg (s.size - (k + n))
          case measure => omega
          case rel => exact hgo
    · go_wp2
      go_ret
      exact ⟨P, rfl, hP, by omega, hb⟩

end Go.Proofs.YtekmenkebokdoaaGreatDoor
