/-
  The walks of galliardlaw04.name and same.
-/
import Derived.Test.YtkpkekmofidajaaGreatDoorScanPlain
import Derived.Test.YtkpkekmofidajaaGreatDoorScanOpening
import Derived.Test.YtkpkekmofidajaaGreatDoorScanMathD
namespace Go.Proofs.YtkpkekmofidajaaGreatDoor
open Go.RowKit
set_option maxRecDepth 100000

def NaR (s : ByteArray) (w : World) (g : Nat) (out i : Value) (wr : World) : Prop :=
  ∃ k : Nat, g + k = 6 ∧ k ≤ s.size ∧ i = .int .i64 k ∧ out = .string (str (110 :: ((bl s).take k).map alph)) ∧ Below w.heap.size w wr
theorem str_snoc (l : List UInt8) (c : UInt8) : str l ++ ⟨#[c]⟩ = str (l ++ [c]) := str_append l [c]
theorem alph_at (c : UInt8) (j : Nat) (h : c.toNat % 8 = j) : alph c = alphL.getD j 0 := by unfold alph; rw [h]
theorem alph_byte (j : Nat) (h : j < 8) : alphL.getD j 0 = (⟨#[97, 98, 90, 95, 48, 45, 46, 57]⟩ : ByteArray)[j]'h := by
  match j, h with
  | 0, _ => rfl
  | 1, _ => rfl
  | 2, _ => rfl
  | 3, _ => rfl
  | 4, _ => rfl
  | 5, _ => rfl
  | 6, _ => rfl
  | 7, _ => rfl
  | j + 8, h => exact absurd h (by omega)
set_option maxHeartbeats 4000000 in
theorem lname (s : ByteArray) (w : World) :
    Calls Tryz.prog 15 #[.string s] w fun e w' => e = .returned (.string (str (nameG (bl s)))) ∧ Below w.heap.size w w' := by
  go_enter Tryz.func15, Tryz.ntmps15
  go_wp2
  go_loopg [3, 4] 6 (fun g out i wr => NaR s w g out i wr)
  case atStart => exact ⟨0, rfl, Nat.zero_le _, rfl, rfl, Below.refl _ _⟩
  case round =>
    obtain ⟨k, hg, hk, rfl, rfl, hb⟩ := hrel
    by_cases hin : k < s.size
    · have hin' : (k : Int) < (s.size : Int) := by omega
      by_cases h6 : k < 6
      · have h6' : (k : Int) < 6 := by omega
        obtain ⟨c, hc⟩ : ∃ c, s[k]'hin = c := ⟨_, rfl⟩
        have htk : (bl s).take (k + 1) = (bl s).take k ++ [c] := by rw [take_get s k hin, hc]
        have hc8 : c.toNat % 8 < 8 := Nat.mod_lt _ (by decide)
        obtain ⟨j, hj⟩ : ∃ j, c.toNat % 8 = j := ⟨_, rfl⟩
        have hal := alph_at c j hj
        have hjI : (c.toNat : Int) % 8 = (j : Int) := by omega
        rw [hj] at hc8
        have hj8 : j < (⟨#[97, 98, 90, 95, 48, 45, 46, 57]⟩ : ByteArray).size := hc8
        obtain ⟨a, ha⟩ : ∃ a, (⟨#[97, 98, 90, 95, 48, 45, 46, 57]⟩ : ByteArray)[j]'hj8 = a := ⟨_, rfl⟩
        have haa : alph c = a := by rw [hal, alph_byte j hc8, ha]
        obtain ⟨X, hX⟩ : ∃ X, str (110 :: ((bl s).take k).map alph) = X := ⟨_, rfl⟩
        have hsz : X.size ≤ 100 := by rw [← hX, str_size]; simp; omega
        have hub : ub (a.toNat : Int) = a := by unfold ub; simp
        have kc := conv1 wr (a.toNat : Int) (by have := UInt8.toNat_lt a; omega)
        rw [hub] at kc
        have hgo : NaR s w (6 - (k + 1)) (.string (X ++ ⟨#[a]⟩)) (.int .i64 ((k : Int) + 1)) (wr.alloc (.cells #[.int .u8 (a.toNat : Int)] 5)) :=
          ⟨k + 1, by omega, by omega, rfl, by rw [← hX, str_snoc, htk, List.map_append, List.map_singleton, haa]; rfl, hb.alloc hb.size _⟩
        have HG := Lib.hid hgo
        rw [hX]
        clear hgo hal hj haa htk hX hub
        go_wp2
        go_roundg (6 - (k + 1))
        case measure => omega
        case rel => exact HG.out
      · have h6' : decide ((k : Int) < 6) = false := decide_eq_false (by omega)
        obtain rfl : k = 6 := by omega
        have he : nameG (bl s) = 110 :: ((bl s).take 6).map alph := rfl
        rw [← he]
        clear he
        go_wp2
        go_ret
        exact ⟨rfl, hb⟩
    · have hin' : decide ((k : Int) < (s.size : Int)) = false := decide_eq_false (by omega)
      have he : nameG (bl s) = 110 :: ((bl s).take k).map alph := by
        unfold nameG
        rw [List.take_of_length_le (by rw [bl_size]; omega), List.take_of_length_le (by rw [bl_size]; omega)]
      rw [← he]
      clear he
      go_wp2
      go_ret
      exact ⟨rfl, hb⟩

/-! ### same -/
/-- A slice of attributes reads so, at their number. -/
def RowsN (w : World) (ao : Option Addr) (n : Nat) (A : List (List UInt8 × List UInt8)) : Prop := A.length = n ∧ (0 < n → ∃ g, ao = some ⟨g, 0, none⟩ ∧ g < w.heap.size ∧ ∀ j (h : j < A.length), w.cell? ⟨g, j * 2, none⟩ = some (.string (str (A[j]'h).1)) ∧ w.cell? ⟨g, j * 2 + 1, none⟩ = some (.string (str (A[j]'h).2)))
theorem RowsN.of {w : World} {v : Value} {A : List (List UInt8 × List UInt8)} (h : Rows w v A) : ∃ ao cap, v = .slice ao A.length cap ∧ RowsN w ao A.length A := by
  rcases h with ⟨rfl, rfl⟩ | ⟨g, cap, rfl, hg, h⟩
  · exact ⟨none, 0, rfl, rfl, fun h => absurd h (Nat.lt_irrefl _)⟩
  · exact ⟨_, cap, rfl, rfl, fun _ => ⟨g, rfl, hg, h⟩⟩
set_option maxHeartbeats 4000000 in
theorem lsame0 (kd at' : Int) (N T : ByteArray) (A : List (List UInt8 × List UInt8)) (n : Nat) (ao bo : Option Addr) (ca cb : Nat) (w : World) (hn : n ≤ 1000) (hA : RowsN w ao n A) (hB : RowsN w bo n A) :
    Calls Tryz.prog 9 #[.agg #[.int .i64 kd, .string N, .slice ao n ca, .string T, .int .i64 at'], .agg #[.int .i64 kd, .string N, .slice bo n cb, .string T, .int .i64 at']] w fun e w' => e = .returned (.bool true) ∧ Below w.heap.size w w' := by
  have HA := Lib.hid hA
  have HB := Lib.hid hB
  have hb0 := Lib.hid (((Below.refl w.heap.size w).alloc (Nat.le_refl _) (.cells #[.int .i64 kd, .string N, .slice ao n ca, .string T, .int .i64 at'] 27)).alloc (by simp) (.cells #[.int .i64 kd, .string N, .slice bo n cb, .string T, .int .i64 at'] 27))
  have h2 := heap_alloc_new w (.cells #[.int .i64 kd, .string N, .slice ao n ca, .string T, .int .i64 at'] 27)
  have h3 := heap_alloc_new (w.alloc (.cells #[.int .i64 kd, .string N, .slice ao n ca, .string T, .int .i64 at'] 27)) (.cells #[.int .i64 kd, .string N, .slice bo n cb, .string T, .int .i64 at'] 27)
  have h2 := (Below.heap_alloc (w.alloc (.cells #[.int .i64 kd, .string N, .slice ao n ca, .string T, .int .i64 at'] 27)) (.cells #[.int .i64 kd, .string N, .slice bo n cb, .string T, .int .i64 at'] 27) w.heap.size (by simp)).trans h2
  rw [show (w.alloc (.cells #[.int .i64 kd, .string N, .slice ao n ca, .string T, .int .i64 at'] 27)).heap.size = w.heap.size + 1 by simp] at h3
  have H2 := Lib.hid h2
  have H3 := Lib.hid h3
  clear hA hB h2 h3
  go_enter Tryz.func9, Tryz.ntmps9
  go_upto_region 1 with (fail)
  generalize (w.alloc (.cells #[.int .i64 kd, .string N, .slice ao n ca, .string T, .int .i64 at'] 27)).alloc (.cells #[.int .i64 kd, .string N, .slice bo n cb, .string T, .int .i64 at'] 27) = w1 at hb0 H2 H3 ⊢
  obtain ⟨L, hL⟩ : ∃ L, w.heap.size = L := ⟨_, rfl⟩
  rw [hL] at H2 H3 ⊢
  have HL := Lib.hid hL
  clear hL
  have a0 := Lib.cell_of_heap H2.out 0
  have a1 := Lib.cell_of_heap H2.out 1
  have a2 := Lib.cell_of_heap H2.out 2
  have a3 := Lib.cell_of_heap H2.out 3
  have a4 := Lib.cell_of_heap H2.out 4
  have b0 := Lib.cell_of_heap H3.out 0
  have b1 := Lib.cell_of_heap H3.out 1
  have b2 := Lib.cell_of_heap H3.out 2
  have b3 := Lib.cell_of_heap H3.out 3
  have b4 := Lib.cell_of_heap H3.out 4
  simp only [List.getElem?_toArray, List.getElem?_cons_zero, List.getElem?_cons_succ] at a0 a1 a2 a3 a4 b0 b1 b2 b3 b4
  have HC := Lib.hid (show w1.cell? ⟨L, 2, none⟩ = some (.slice ao n ca) ∧ w1.cell? ⟨L + 1, 2, none⟩ = some (.slice bo n cb) from ⟨a2, b2⟩)
  go_wp2
  clear a0 a1 a2 a3 a4 b0 b1 b2 b3 b4
  go_loopg [5] n (fun g i wr => ∃ k : Nat, g + k = n ∧ i = .int .i64 k ∧ Below w1.heap.size w1 wr)
  case atStart => exact ⟨0, rfl, rfl, Below.refl _ _⟩
  case round =>
    obtain ⟨k, hg, rfl, hbr⟩ := hrel
    have hLw : L < w1.heap.size := (Array.getElem?_eq_some_iff.1 H2.out).1
    have hLw2 : L + 1 < w1.heap.size := (Array.getElem?_eq_some_iff.1 H3.out).1
    have c2 := (hbr.cell (p := ⟨L, 2, none⟩) hLw).trans HC.out.1
    have d2 := (hbr.cell (p := ⟨L + 1, 2, none⟩) hLw2).trans HC.out.2
    by_cases hk : k < n
    · have hk' : (k : Int) < (n : Int) := by omega
      obtain ⟨ga, hga, hgaw, hA⟩ := HA.out.2 (by omega)
      obtain ⟨gb, hgb, hgbw, hB⟩ := HB.out.2 (by omega)
      subst hga hgb
      have hkA : k < A.length := by rw [HA.out.1]; exact hk
      have hz := hb0.out.size
      have e1 := (hbr.cell (p := ⟨ga, k * 2, none⟩) (by show ga < _; omega)).trans ((hb0.out.cell (p := ⟨ga, k * 2, none⟩) hgaw).trans (hA k hkA).1)
      have e2 := (hbr.cell (p := ⟨ga, k * 2 + 1, none⟩) (by show ga < _; omega)).trans ((hb0.out.cell (p := ⟨ga, k * 2 + 1, none⟩) hgaw).trans (hA k hkA).2)
      have e3 := (hbr.cell (p := ⟨gb, k * 2, none⟩) (by show gb < _; omega)).trans ((hb0.out.cell (p := ⟨gb, k * 2, none⟩) hgbw).trans (hB k hkA).1)
      have e4 := (hbr.cell (p := ⟨gb, k * 2 + 1, none⟩) (by show gb < _; omega)).trans ((hb0.out.cell (p := ⟨gb, k * 2 + 1, none⟩) hgbw).trans (hB k hkA).2)
      obtain ⟨X, hX⟩ : ∃ X, str (A[k]'hkA).1 = X := ⟨_, rfl⟩
      obtain ⟨Y, hY⟩ : ∃ Y, str (A[k]'hkA).2 = Y := ⟨_, rfl⟩
      rw [hX] at e1 e3
      rw [hY] at e2 e4
      have hk0 : (0 : Int) ≤ (k : Int) := by omega
      clear hA hB hX hY
      go_wp2
      go_quiet (fail)
      clear e1 e2 e3 e4 c2 d2
      go_wp2
      go_roundg (n - (k + 1))
      case measure => omega
      case rel => exact ⟨k + 1, by omega, by go_num, hbr.trans ((below_drewN wr _).mono hbr.size)⟩
    · have hk' : decide ((k : Int) < (n : Int)) = false := decide_eq_false (by omega)
      go_wp2
      go_ret
      exact ⟨rfl, hb0.out.trans (hbr.mono hb0.out.size)⟩
/-- Two pieces that are alike. -/
theorem lsame (p : Pc) (va vb : Value) (w : World) (hl : p.attrs.length ≤ 1000) (hA : Rows w va p.attrs) (hB : Rows w vb p.attrs) :
    Calls Tryz.prog 9 #[.agg #[.int .i64 p.kind, .string (str p.name), va, .string (str p.text), .int .i64 p.at_], .agg #[.int .i64 p.kind, .string (str p.name), vb, .string (str p.text), .int .i64 p.at_]] w fun e w' => e = .returned (.bool true) ∧ Below w.heap.size w w' := by
  obtain ⟨ao, ca, ha, hA'⟩ := RowsN.of hA
  obtain ⟨bo, cb, hb, hB'⟩ := RowsN.of hB
  rw [ha, hb]
  exact lsame0 p.kind p.at_ (str p.name) (str p.text) p.attrs _ ao bo ca cb w hl hA' hB' 

end Go.Proofs.YtkpkekmofidajaaGreatDoor
