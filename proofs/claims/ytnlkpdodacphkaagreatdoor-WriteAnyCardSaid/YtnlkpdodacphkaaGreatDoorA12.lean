/-
  The walks of (*Scanner).piece, pass, passAll, Next, and of New.
  The walks of (*Scanner).pass and passAll.
  The walks of (*Scanner).passAll, Next, and of New.
  The walks of toldOf, (*Spaces).know.
-/
import Derived.Test.YtnlkpdodacphkaaGreatDoorA11
import Derived.Deep.CutBlock
import Derived.Deep.DeepCutAuto
import Derived.Test.YtnlkpdodacphkaaGreatDoorA3
import Derived.Test.YtnlkpdodacphkaaGreatDoorA6
import Derived.Deep.RegionLaw
import Derived.RegionTactic
import Derived.OwnWalk
namespace Go.Proofs.YtnlkpdodacphkaaGreatDoor
open Go.RowKit
set_option maxRecDepth 100000

theorem rows_form {b : Nat} {w : World} {v : Value} {A : List (List UInt8 × List UInt8)} (h : RowsB b w v A) : ∃ ao m cap, v = .slice ao m cap := by
  rcases h.1 with ⟨_, h⟩ | ⟨g, cap, h, _⟩
  · exact ⟨_, _, _, h⟩
  · exact ⟨_, _, _, h⟩
theorem RowsB.set {b : Nat} {w : World} {v : Value} {A : List (List UInt8 × List UInt8)} (h : RowsB b w v A) {p : Addr} (hk : ∀ g o n c, v = .slice (some ⟨g, o, none⟩) n c → g ≠ p.block) (x : Value) : RowsB b (w.setCell p x) v A :=
  h.heap (by simp [World.setCell]) (fun g o n c hv => Below.heap_setCell _ _ _ _ (hk g o n c hv))
theorem RowsB.st5 {b : Nat} {w : World} {v : Value} {A : List (List UInt8 × List UInt8)} (h : RowsB b w v A) {R : Nat} (hk : ∀ g o n c, v = .slice (some ⟨g, o, none⟩) n c → g ≠ R) (x0 x1 x2 x3 x4 : Value) : RowsB b (st5 w R x0 x1 x2 x3 x4) v A :=
  h.heap (by rw [st5_size]; exact Nat.le_refl _) (fun g o n c hv => st5_other (hk g o n c hv) _ _ _ _ _)
/-- A piece lies in block P, before it is told where it stands. -/
def Mid (B b : Nat) (s : ByteArray) (w : World) (Z : Pc × St) (R P : Nat) (wx : World) : Prop :=
  ∃ ao m cap, Sc B b s Z.2 wx ∧ Only b w wx ∧ wx.heap[R]? = some (.cells #[.int .i64 0, .string ⟨#[]⟩, .slice none 0 0, .string ⟨#[]⟩, .int .i64 0] 117) ∧
    wx.heap[P]? = some (.cells #[.int .i64 Z.1.kind, .string (str Z.1.name), .slice ao m cap, .string (str Z.1.text), .int .i64 Z.1.at_] 117 (0, 0)) ∧
    RowsB b wx (.slice ao m cap) Z.1.attrs ∧ ∀ g o n c, Value.slice ao m cap = .slice (some ⟨g, o, none⟩) n c → P + 1 ≤ g
theorem Mid.of {B b : Nat} {s : ByteArray} {w w1 : World} {Z : Pc × St} {R P : Nat} {ao : Option Addr} {m cap : Nat} (h1 : Sc B b s Z.2 w1) (h2 : Only b w w1) (hR : w1.heap[R]? = some (.cells #[.int .i64 0, .string ⟨#[]⟩, .slice none 0 0, .string ⟨#[]⟩, .int .i64 0] 117)) (hP : w1.heap[P]? = some (.cells #[.int .i64 0, .string ⟨#[]⟩, .slice none 0 0, .string ⟨#[]⟩, .int .i64 0] 117))
    (h3 : RowsB b w1 (.slice ao m cap) Z.1.attrs) (h4 : ∀ g o n c, Value.slice ao m cap = .slice (some ⟨g, o, none⟩) n c → P + 1 ≤ g) (hRP : R < P) (hb : b < P) (hw : w.heap.size ≤ P) :
    Mid B b s w Z R P (st5 w1 P (.int .i64 Z.1.kind) (.string (str Z.1.name)) (.slice ao m cap) (.string (str Z.1.text)) (.int .i64 Z.1.at_)) :=
  ⟨ao, m, cap, st5_sc h1 (by omega) (by have := h1.base; omega) _ _ _ _ _, st5_only h2 hw _ _ _ _ _, (st5_other (by omega) _ _ _ _ _).trans hR, st5_heap hP _ _ _ _ _, h3.st5 (fun g o n c hv => by have := h4 g o n c hv; omega) _ _ _ _ _, h4⟩
set_option maxHeartbeats 1500000 in
theorem spiece0 (B b : Nat) (s : ByteArray) (σ : St) (w : World) (hS : Sc B b s σ w) (Z : Pc × St) (hZ : pieceR (bl s) σ = Z) :
    Calls Tryz.prog 128 #[.pointer (some ⟨b, 0, none⟩)] w (Gives B b s w (setAt Z.1 σ.pos) Z.2) := by
  have HS0 := hS.step ((Below.refl _ _).alloc (Nat.le_refl _) (.cells #[.int .i64 0, .string ⟨#[]⟩, .slice none 0 0, .string ⟨#[]⟩, .int .i64 0] 117))
  have hbR : b < w.heap.size := hS.lt
  have hBb := hS.base
  have c1 := HS0.c1
  have HR0 := (Only.alloc b (w.alloc (.cells #[.int .i64 0, .string ⟨#[]⟩, .slice none 0 0, .string ⟨#[]⟩, .int .i64 0] 117)) (.cells #[.int .i64 0, .string ⟨#[]⟩, .slice none 0 0, .string ⟨#[]⟩, .int .i64 0] 117)).heap (heap_alloc_new w (.cells #[.int .i64 0, .string ⟨#[]⟩, .slice none 0 0, .string ⟨#[]⟩, .int .i64 0] 117)) (by omega)
  have HP := heap_alloc_new (w.alloc (.cells #[.int .i64 0, .string ⟨#[]⟩, .slice none 0 0, .string ⟨#[]⟩, .int .i64 0] 117)) (.cells #[.int .i64 0, .string ⟨#[]⟩, .slice none 0 0, .string ⟨#[]⟩, .int .i64 0] 117)
  have HO := Lib.hid ((Only.alloc b w (.cells #[.int .i64 0, .string ⟨#[]⟩, .slice none 0 0, .string ⟨#[]⟩, .int .i64 0] 117)).trans (Only.alloc b _ (.cells #[.int .i64 0, .string ⟨#[]⟩, .slice none 0 0, .string ⟨#[]⟩, .int .i64 0] 117)))
  have HS := Lib.hid (HS0.step ((Below.refl _ _).alloc (Nat.le_refl _) (.cells #[.int .i64 0, .string ⟨#[]⟩, .slice none 0 0, .string ⟨#[]⟩, .int .i64 0] 117)))
  have hsz : (w.alloc (.cells #[.int .i64 0, .string ⟨#[]⟩, .slice none 0 0, .string ⟨#[]⟩, .int .i64 0] 117)).heap.size = w.heap.size + 1 := by simp
  rw [hsz] at HP
  have hsz2 : w.heap.size + 2 ≤ ((w.alloc (.cells #[.int .i64 0, .string ⟨#[]⟩, .slice none 0 0, .string ⟨#[]⟩, .int .i64 0] 117)).alloc (.cells #[.int .i64 0, .string ⟨#[]⟩, .slice none 0 0, .string ⟨#[]⟩, .int .i64 0] 117)).heap.size := by simp
  have HR := Lib.hid HR0
  have HP := Lib.hid HP
  clear hS HS0 HR0 hsz
  unfold pieceR at hZ
  go_enter Tryz.func128, Tryz.ntmps128
  go_upto_block 0 with (fail)
  clear c1
  generalize (w.alloc (.cells #[.int .i64 0, .string ⟨#[]⟩, .slice none 0 0, .string ⟨#[]⟩, .int .i64 0] 117)).alloc (.cells #[.int .i64 0, .string ⟨#[]⟩, .slice none 0 0, .string ⟨#[]⟩, .int .i64 0] 117) = w0 at HS HO HR HP hsz2 ⊢
  obtain ⟨R, hRe⟩ : ∃ R, w.heap.size = R := ⟨_, rfl⟩
  rw [hRe] at HR HP hbR hsz2 ⊢
  have HRe := Lib.hid hRe
  clear hRe
  obtain ⟨P, hPe⟩ : ∃ P, R + 1 = P := ⟨_, rfl⟩
  have hRP : R < P := by omega
  have hsz2 : P + 1 ≤ w0.heap.size := by omega
  rw [hPe] at HP ⊢
  have HPe := Lib.hid hPe
  clear hPe
  have hPw : Hid (w.heap.size ≤ P) := Lib.hid (by have := HRe.out; omega)
  go_cut [] (fun wx => Mid B b s w Z R P wx)
  case first =>
    go_wp2_with fail
    cases s1 : standsS bRaw (bl s) σ with
    | true =>
      rw [if_pos s1] at hZ
      have C := Lib.hid (sskip_l B b s ⟨#[60, 33, 91, 67, 68, 65, 84, 65, 91]⟩ bRaw rfl (by decide) σ w0 HS.out true s1)
      clear s1
      go_wp2_with fail
      refine C.out.mono ?_
      rintro r w1 ⟨rfl, h1, o1⟩
      have HS1 := Lib.hid h1
      have HO1 := Lib.hid (HO.out.trans o1)
      have HR1 := Lib.hid (o1.heap HR.out (by omega))
      have HP1 := Lib.hid (o1.heap HP.out (by omega))
      have HZ2 := Lib.hid (Nat.le_trans hsz2 o1.size)
      clear h1 o1 HS HO HR HP C hsz2
      go_wp2_with fail
      have CC := sraw B b s _ w1 HS1.out
      rw [hZ] at CC
      have CC := Lib.hid CC
      refine CC.out.mono ?_
      rintro r w2 ⟨x, rfl, ⟨v, rfl, hrows, hfresh⟩, h2, o2⟩
      obtain ⟨ao, m, cap, rfl⟩ := rows_form hrows
      have hlo : ∀ g o n c, Value.slice ao m cap = .slice (some ⟨g, o, none⟩) n c → P + 1 ≤ g := fun g o n c hv => Nat.le_trans HZ2.out (hfresh g o n c hv)
      have HLO := Lib.hid hlo
      have HRW := Lib.hid hrows
      have HS9 := Lib.hid h2
      have HO9 := Lib.hid (HO1.out.trans o2)
      have HR9 := Lib.hid (o2.heap HR1.out (by omega))
      have HP9 := Lib.hid (o2.heap HP1.out (by omega))
      clear hlo hrows hfresh h2 o2 HS1 HO1 HR1 HP1 HZ2
      have r0 := Lib.cell_of_heap HR9.out 0
      have r1 := Lib.cell_of_heap HR9.out 1
      have r2 := Lib.cell_of_heap HR9.out 2
      have r3 := Lib.cell_of_heap HR9.out 3
      have r4 := Lib.cell_of_heap HR9.out 4
      have f0 := Lib.frozen_of_heap HR9.out 0
      have f1 := Lib.frozen_of_heap HR9.out 1
      have f2 := Lib.frozen_of_heap HR9.out 2
      have f3 := Lib.frozen_of_heap HR9.out 3
      have f4 := Lib.frozen_of_heap HR9.out 4
      simp only [List.getElem?_toArray, List.getElem?_cons_zero, List.getElem?_cons_succ] at r0 r1 r2 r3 r4
      have p0 := Lib.cell_of_heap HP9.out 0
      have p1 := Lib.cell_of_heap HP9.out 1
      have p2 := Lib.cell_of_heap HP9.out 2
      have p3 := Lib.cell_of_heap HP9.out 3
      have p4 := Lib.cell_of_heap HP9.out 4
      have g0 := Lib.frozen_of_heap HP9.out 0
      have g1 := Lib.frozen_of_heap HP9.out 1
      have g2 := Lib.frozen_of_heap HP9.out 2
      have g3 := Lib.frozen_of_heap HP9.out 3
      have g4 := Lib.frozen_of_heap HP9.out 4
      simp only [List.getElem?_toArray, List.getElem?_cons_zero, List.getElem?_cons_succ] at p0 p1 p2 p3 p4
      go_wp2_with fail
      go_meet
      exact Mid.of HS9.out HO9.out HR9.out HP9.out HRW.out HLO.out hRP (by omega) hPw.out
    | false =>
      rw [if_neg (by rw [s1]; decide)] at hZ
      have C := Lib.hid (sskip_l B b s ⟨#[60, 33, 91, 67, 68, 65, 84, 65, 91]⟩ bRaw rfl (by decide) σ w0 HS.out false s1)
      have hsk : skipS bRaw (bl s) σ = σ := by unfold skipS; rw [if_neg (by rw [s1]; decide)]
      rw [hsk] at C
      clear s1 hsk
      go_wp2_with fail
      refine C.out.mono ?_
      rintro r w1 ⟨rfl, h1, o1⟩
      have HS := Lib.hid h1
      have HO := Lib.hid (HO.out.trans o1)
      have HR := Lib.hid (o1.heap HR.out (by omega))
      have HP := Lib.hid (o1.heap HP.out (by omega))
      have hsz2 := Nat.le_trans hsz2 o1.size
      clear h1 o1 C
      cases s2 : standsS [60, 47] (bl s) σ with
      | true =>
        rw [if_pos s2] at hZ
        have C := Lib.hid (sskip_l B b s ⟨#[60, 47]⟩ [60, 47] rfl (by decide) σ w1 HS.out true s2)
        clear s2
        go_wp2_with fail
        refine C.out.mono ?_
        rintro r w2 ⟨rfl, h2, o2⟩
        have HS1 := Lib.hid h2
        have HO1 := Lib.hid (HO.out.trans o2)
        have HR1 := Lib.hid (o2.heap HR.out (by omega))
        have HP1 := Lib.hid (o2.heap HP.out (by omega))
        have HZ2 := Lib.hid (Nat.le_trans hsz2 o2.size)
        clear h2 o2 HS HO HR HP C hsz2
        go_wp2_with fail
        have CC := sclosing B b s _ w2 HS1.out
        rw [hZ] at CC
        have CC := Lib.hid CC
        refine CC.out.mono ?_
        rintro r w3 ⟨x, rfl, ⟨v, rfl, hrows, hfresh⟩, h3, o3⟩
        obtain ⟨ao, m, cap, rfl⟩ := rows_form hrows
        have hlo : ∀ g o n c, Value.slice ao m cap = .slice (some ⟨g, o, none⟩) n c → P + 1 ≤ g := fun g o n c hv => Nat.le_trans HZ2.out (hfresh g o n c hv)
        have HLO := Lib.hid hlo
        have HRW := Lib.hid hrows
        have HS9 := Lib.hid h3
        have HO9 := Lib.hid (HO1.out.trans o3)
        have HR9 := Lib.hid (o3.heap HR1.out (by omega))
        have HP9 := Lib.hid (o3.heap HP1.out (by omega))
        clear hlo hrows hfresh h3 o3 HS1 HO1 HR1 HP1 HZ2
        have r0 := Lib.cell_of_heap HR9.out 0
        have r1 := Lib.cell_of_heap HR9.out 1
        have r2 := Lib.cell_of_heap HR9.out 2
        have r3 := Lib.cell_of_heap HR9.out 3
        have r4 := Lib.cell_of_heap HR9.out 4
        have f0 := Lib.frozen_of_heap HR9.out 0
        have f1 := Lib.frozen_of_heap HR9.out 1
        have f2 := Lib.frozen_of_heap HR9.out 2
        have f3 := Lib.frozen_of_heap HR9.out 3
        have f4 := Lib.frozen_of_heap HR9.out 4
        simp only [List.getElem?_toArray, List.getElem?_cons_zero, List.getElem?_cons_succ] at r0 r1 r2 r3 r4
        have p0 := Lib.cell_of_heap HP9.out 0
        have p1 := Lib.cell_of_heap HP9.out 1
        have p2 := Lib.cell_of_heap HP9.out 2
        have p3 := Lib.cell_of_heap HP9.out 3
        have p4 := Lib.cell_of_heap HP9.out 4
        have g0 := Lib.frozen_of_heap HP9.out 0
        have g1 := Lib.frozen_of_heap HP9.out 1
        have g2 := Lib.frozen_of_heap HP9.out 2
        have g3 := Lib.frozen_of_heap HP9.out 3
        have g4 := Lib.frozen_of_heap HP9.out 4
        simp only [List.getElem?_toArray, List.getElem?_cons_zero, List.getElem?_cons_succ] at p0 p1 p2 p3 p4
        go_wp2_with fail
        go_meet
        exact Mid.of HS9.out HO9.out HR9.out HP9.out HRW.out HLO.out hRP (by omega) hPw.out
      | false =>
        rw [if_neg (by rw [s2]; decide)] at hZ
        have C := Lib.hid (sskip_l B b s ⟨#[60, 47]⟩ [60, 47] rfl (by decide) σ w1 HS.out false s2)
        have hsk : skipS [60, 47] (bl s) σ = σ := by unfold skipS; rw [if_neg (by rw [s2]; decide)]
        rw [hsk] at C
        clear s2 hsk
        go_wp2_with fail
        refine C.out.mono ?_
        rintro r w2 ⟨rfl, h2, o2⟩
        have HS := Lib.hid h2
        have HO := Lib.hid (HO.out.trans o2)
        have HR := Lib.hid (o2.heap HR.out (by omega))
        have HP := Lib.hid (o2.heap HP.out (by omega))
        have hsz2 := Nat.le_trans hsz2 o2.size
        clear h2 o2 C
        cases s3 : standsS [60] (bl s) σ with
        | true =>
          rw [if_pos s3] at hZ
          have C := Lib.hid (sskip_l B b s ⟨#[60]⟩ [60] rfl (by decide) σ w2 HS.out true s3)
          clear s3
          go_wp2_with fail
          refine C.out.mono ?_
          rintro r w3 ⟨rfl, h3, o3⟩
          have HS1 := Lib.hid h3
          have HO1 := Lib.hid (HO.out.trans o3)
          have HR1 := Lib.hid (o3.heap HR.out (by omega))
          have HP1 := Lib.hid (o3.heap HP.out (by omega))
          have HZ2 := Lib.hid (Nat.le_trans hsz2 o3.size)
          clear h3 o3 HS HO HR HP C hsz2
          go_wp2_with fail
          have CC := sopening B b s _ w3 HS1.out
          rw [hZ] at CC
          have CC := Lib.hid CC
          refine CC.out.mono ?_
          rintro r w4 ⟨x, rfl, ⟨v, rfl, hrows, hfresh⟩, h4, o4⟩
          obtain ⟨ao, m, cap, rfl⟩ := rows_form hrows
          have hlo : ∀ g o n c, Value.slice ao m cap = .slice (some ⟨g, o, none⟩) n c → P + 1 ≤ g := fun g o n c hv => Nat.le_trans HZ2.out (hfresh g o n c hv)
          have HLO := Lib.hid hlo
          have HRW := Lib.hid hrows
          have HS9 := Lib.hid h4
          have HO9 := Lib.hid (HO1.out.trans o4)
          have HR9 := Lib.hid (o4.heap HR1.out (by omega))
          have HP9 := Lib.hid (o4.heap HP1.out (by omega))
          clear hlo hrows hfresh h4 o4 HS1 HO1 HR1 HP1 HZ2
          have r0 := Lib.cell_of_heap HR9.out 0
          have r1 := Lib.cell_of_heap HR9.out 1
          have r2 := Lib.cell_of_heap HR9.out 2
          have r3 := Lib.cell_of_heap HR9.out 3
          have r4 := Lib.cell_of_heap HR9.out 4
          have f0 := Lib.frozen_of_heap HR9.out 0
          have f1 := Lib.frozen_of_heap HR9.out 1
          have f2 := Lib.frozen_of_heap HR9.out 2
          have f3 := Lib.frozen_of_heap HR9.out 3
          have f4 := Lib.frozen_of_heap HR9.out 4
          simp only [List.getElem?_toArray, List.getElem?_cons_zero, List.getElem?_cons_succ] at r0 r1 r2 r3 r4
          have p0 := Lib.cell_of_heap HP9.out 0
          have p1 := Lib.cell_of_heap HP9.out 1
          have p2 := Lib.cell_of_heap HP9.out 2
          have p3 := Lib.cell_of_heap HP9.out 3
          have p4 := Lib.cell_of_heap HP9.out 4
          have g0 := Lib.frozen_of_heap HP9.out 0
          have g1 := Lib.frozen_of_heap HP9.out 1
          have g2 := Lib.frozen_of_heap HP9.out 2
          have g3 := Lib.frozen_of_heap HP9.out 3
          have g4 := Lib.frozen_of_heap HP9.out 4
          simp only [List.getElem?_toArray, List.getElem?_cons_zero, List.getElem?_cons_succ] at p0 p1 p2 p3 p4
          go_wp2_with fail
          go_meet
          exact Mid.of HS9.out HO9.out HR9.out HP9.out HRW.out HLO.out hRP (by omega) hPw.out
        | false =>
          rw [if_neg (by rw [s3]; decide)] at hZ
          have C := Lib.hid (sskip_l B b s ⟨#[60]⟩ [60] rfl (by decide) σ w2 HS.out false s3)
          have hsk : skipS [60] (bl s) σ = σ := by unfold skipS; rw [if_neg (by rw [s3]; decide)]
          rw [hsk] at C
          clear s3 hsk
          go_wp2_with fail
          refine C.out.mono ?_
          rintro r w3 ⟨rfl, h3, o3⟩
          have HS := Lib.hid h3
          have HO := Lib.hid (HO.out.trans o3)
          have HR := Lib.hid (o3.heap HR.out (by omega))
          have HP := Lib.hid (o3.heap HP.out (by omega))
          have hsz2 := Nat.le_trans hsz2 o3.size
          clear h3 o3 C
          have HS1 := HS
          have HO1 := HO
          have HR1 := HR
          have HP1 := HP
          have HZ2 := Lib.hid hsz2
          clear HS HO HR HP hsz2
          go_wp2_with fail
          have CC := stext B b s σ w3 HS1.out
          rw [hZ] at CC
          have CC := Lib.hid CC
          refine CC.out.mono ?_
          rintro r w4 ⟨x, rfl, ⟨v, rfl, hrows, hfresh⟩, h4, o4⟩
          obtain ⟨ao, m, cap, rfl⟩ := rows_form hrows
          have hlo : ∀ g o n c, Value.slice ao m cap = .slice (some ⟨g, o, none⟩) n c → P + 1 ≤ g := fun g o n c hv => Nat.le_trans HZ2.out (hfresh g o n c hv)
          have HLO := Lib.hid hlo
          have HRW := Lib.hid hrows
          have HS9 := Lib.hid h4
          have HO9 := Lib.hid (HO1.out.trans o4)
          have HR9 := Lib.hid (o4.heap HR1.out (by omega))
          have HP9 := Lib.hid (o4.heap HP1.out (by omega))
          clear hlo hrows hfresh h4 o4 HS1 HO1 HR1 HP1 HZ2
          have r0 := Lib.cell_of_heap HR9.out 0
          have r1 := Lib.cell_of_heap HR9.out 1
          have r2 := Lib.cell_of_heap HR9.out 2
          have r3 := Lib.cell_of_heap HR9.out 3
          have r4 := Lib.cell_of_heap HR9.out 4
          have f0 := Lib.frozen_of_heap HR9.out 0
          have f1 := Lib.frozen_of_heap HR9.out 1
          have f2 := Lib.frozen_of_heap HR9.out 2
          have f3 := Lib.frozen_of_heap HR9.out 3
          have f4 := Lib.frozen_of_heap HR9.out 4
          simp only [List.getElem?_toArray, List.getElem?_cons_zero, List.getElem?_cons_succ] at r0 r1 r2 r3 r4
          have p0 := Lib.cell_of_heap HP9.out 0
          have p1 := Lib.cell_of_heap HP9.out 1
          have p2 := Lib.cell_of_heap HP9.out 2
          have p3 := Lib.cell_of_heap HP9.out 3
          have p4 := Lib.cell_of_heap HP9.out 4
          have g0 := Lib.frozen_of_heap HP9.out 0
          have g1 := Lib.frozen_of_heap HP9.out 1
          have g2 := Lib.frozen_of_heap HP9.out 2
          have g3 := Lib.frozen_of_heap HP9.out 3
          have g4 := Lib.frozen_of_heap HP9.out 4
          simp only [List.getElem?_toArray, List.getElem?_cons_zero, List.getElem?_cons_succ] at p0 p1 p2 p3 p4
          go_wp2_with fail
          go_meet
          exact Mid.of HS9.out HO9.out HR9.out HP9.out HRW.out HLO.out hRP (by omega) hPw.out
  case rest =>
    obtain ⟨ao, m, cap, h1, h2, h3, h4, h5, h6⟩ := hcut
    clear HS HO HR HP
    have HS := Lib.hid h1
    have HO := Lib.hid h2
    have HR := Lib.hid h3
    have HP := Lib.hid h4
    have HW := Lib.hid h5
    have HL := Lib.hid h6
    clear h1 h2 h3 h4 h5 h6
    have r0 := Lib.cell_of_heap HR.out 0
    have r1 := Lib.cell_of_heap HR.out 1
    have r2 := Lib.cell_of_heap HR.out 2
    have r3 := Lib.cell_of_heap HR.out 3
    have r4 := Lib.cell_of_heap HR.out 4
    have f0 := Lib.frozen_of_heap HR.out 0
    have f1 := Lib.frozen_of_heap HR.out 1
    have f2 := Lib.frozen_of_heap HR.out 2
    have f3 := Lib.frozen_of_heap HR.out 3
    have f4 := Lib.frozen_of_heap HR.out 4
    simp only [List.getElem?_toArray, List.getElem?_cons_zero, List.getElem?_cons_succ] at r0 r1 r2 r3 r4
    have p0 := Lib.cell_of_heap HP.out 0
    have p1 := Lib.cell_of_heap HP.out 1
    have p2 := Lib.cell_of_heap HP.out 2
    have p3 := Lib.cell_of_heap HP.out 3
    have p4 := Lib.cell_of_heap HP.out 4
    have g0 := Lib.frozen_of_heap HP.out 0
    have g1 := Lib.frozen_of_heap HP.out 1
    have g2 := Lib.frozen_of_heap HP.out 2
    have g3 := Lib.frozen_of_heap HP.out 3
    have g4 := Lib.frozen_of_heap HP.out 4
    simp only [List.getElem?_toArray, List.getElem?_cons_zero, List.getElem?_cons_succ] at p0 p1 p2 p3 p4
    go_wp2
    refine bodyPost_ret (res_piece _ rfl _ R rfl _ _ _ _ _ _ 117 (0, 0) (st5_heap ((Below.heap_setCell _ ⟨P, 4, none⟩ _ R (by show R ≠ P; omega)).trans HR.out) _ _ _ _ _)) rfl ⟨_, rfl, ⟨_, rfl, ?_, ?_⟩, ?_, ?_⟩
    · exact (HW.out.set (p := ⟨P, 4, none⟩) (fun g o n c hv => by show g ≠ P; have := HL.out g o n c hv; omega) _).st5 (fun g o n c hv => by have := HL.out g o n c hv; omega) _ _ _ _ _
    · intro g o n c hv
      have := HL.out g o n c hv
      have := hPw.out
      omega
    · exact st5_sc (HS.out.setOther (p := ⟨P, 4, none⟩) (by show P ≠ b; omega) (by show B ≤ P; omega) _) (by omega) (by omega) _ _ _ _ _
    · exact st5_only (HO.out.setNew (p := ⟨P, 4, none⟩) hPw.out _) (by have := HRe.out; omega) _ _ _ _ _
/-- **(*Scanner).piece.** -/
theorem spiece (B b : Nat) (s : ByteArray) (σ : St) (w : World) (hS : Sc B b s σ w) :
    Calls Tryz.prog 128 #[.pointer (some ⟨b, 0, none⟩)] w (Gives B b s w (pieceS (bl s) σ).1 (pieceS (bl s) σ).2) := by
  unfold pieceS
  exact spiece0 B b s σ w hS _ rfl

end Go.Proofs.YtnlkpdodacphkaaGreatDoor
namespace Go.Proofs.YtnlkpdodacphkaaGreatDoor
open Go.RowKit
set_option maxRecDepth 100000

set_option maxHeartbeats 4000000 in
theorem spass0 (B b : Nat) (s p e : ByteArray) (σ σ' : St) (w : World) (hS : Sc B b s σ w) (hp : σ.pos + p.size ≤ s.size) (n : Nat) (X : List UInt8) (Y : ByteArray) (A M : Bool) (hY : Y.size ≤ s.size)
    (hn : ∀ (args : Array Value) (w : World), (callFunc n args).run Tryz.prog w = .ok (.enter n args) w)
    (C1 : Hid (∀ w, Glob B w → Calls Tryz.prog 162 #[.string (s.extract (σ.pos + p.size) s.size), .string e] w fun r w' => r = .returned (.tuple #[.string (str X), .string Y, .bool A]) ∧ ∃ n, w' = w.drewN n))
    (CM : Hid (∀ w, Glob B w → Calls Tryz.prog n #[.string (str X)] w fun r w' => r = .returned (.bool M) ∧ w = w'))
    (h' : Hid (σ' = if A = true ∧ M = true then go_ σ (s.size - Y.size) else wrongS 3 σ.pos σ)) :
    Calls Tryz.prog 151 #[.pointer (some ⟨b, 0, none⟩), .string p, .string e, .func (.func n) #[] #[]] w fun r w' => r = .returned (.tuple #[]) ∧ Sc B b s σ' w' ∧ Only b w w' := by
  have hp' : (σ.pos : Int) + (p.size : Int) ≤ (s.size : Int) := by omega
  have hY' : (Y.size : Int) ≤ (s.size : Int) := by omega
  have hln := hS.len
  have c0 := hS.c0
  have c1 := hS.c1
  have H := Lib.hid hS
  have C1 := Lib.hid fun n => C1.out (w.drewN n) (hS.glob.step ((below_drewN w n).mono hS.glob.le))
  have e1 : IntKind.i64.wrap ((σ.pos : Int) + (p.size : Int)) = (σ.pos : Int) + (p.size : Int) := IntWalk.i64_in _ (by omega)
  have e2 : (0 : Int) ≤ (σ.pos : Int) + (p.size : Int) := by omega
  have e3 : ((σ.pos : Int) + (p.size : Int)).toNat = σ.pos + p.size := by omega
  clear hS
  go_enter Tryz.func151, Tryz.ntmps151
  go_wp2
  go_quiet ((go_at_call 162; exact Calls.quiet_of (C1.out _)))
  clear e1 e2 e3 c0 c1 C1
  have H1 := Lib.hid (H.out.step (below_drewN w nq))
  have O1 := Lib.hid (Only.drewN b w nq)
  clear H
  generalize w.drewN nq = w1 at H1 O1 ⊢
  have CM := Lib.hid (CM.out w1 H1.out.glob)
  have c0 := H1.out.c0
  have c1 := H1.out.c1
  have f1 := H1.out.fz 1
  cases A with
  | true =>
    cases M with
    | true =>
      have h2 := Lib.hid (h'.out.trans (by rw [if_pos ⟨rfl, rfl⟩]))
      have h3 := Lib.hid (H1.out.go (s.size - Y.size) (by omega))
      have hsub : (s.size : Int) - (Y.size : Int) = ((s.size - Y.size : Nat) : Int) := by omega
      clear h'
      go_wp2_with fail
      refine CM.out.mono ?_
      rintro r w2 ⟨rfl, rfl⟩
      go_wp2
      go_end0
      exact ⟨rfl, by rw [h2.out]; exact h3.out, O1.out.trans (Only.set b 1 _ _)⟩
    | false =>
      have h2 := Lib.hid (h'.out.trans (by rw [if_neg (by rintro ⟨_, h⟩; exact absurd h (by decide))]))
      have CW := Lib.hid (swrong B b s σ w1 H1.out 3 σ.pos (by decide))
      clear h'
      go_wp2_with fail
      refine CM.out.mono ?_
      rintro r w2 ⟨rfl, rfl⟩
      go_wp2_with fail
      refine CW.out.mono ?_
      rintro r w3 ⟨rfl, h3, o3⟩
      go_wp2
      (try simp only [Exit.inBlock, Exit.then])
      refine bodyPost_ret (results_none rfl _ _ _) rfl ?_
      exact ⟨rfl, by rw [h2.out]; exact h3, O1.out.trans o3⟩
  | false =>
    have h2 := Lib.hid (h'.out.trans (by rw [if_neg (by rintro ⟨h, _⟩; exact absurd h (by decide))]))
    have CW := Lib.hid (swrong B b s σ w1 H1.out 3 σ.pos (by decide))
    clear h' CM
    go_wp2_with fail
    refine CW.out.mono ?_
    rintro r w3 ⟨rfl, h3, o3⟩
    go_wp2
    (try simp only [Exit.inBlock, Exit.then])
    refine bodyPost_ret (results_none rfl _ _ _) rfl ?_
    exact ⟨rfl, by rw [h2.out]; exact h3, O1.out.trans o3⟩

/-! ### what may stand where nothing is said -/
set_option maxHeartbeats 1000000 in
theorem may_hint (X : ByteArray) (w : World) : Calls Tryz.prog 155 #[.string X] w fun r w' => r = .returned (.bool true) ∧ w = w' := by
  go_enter Tryz.func155, Tryz.ntmps155
  go_wp2
  go_ret
  exact ⟨rfl, rfl⟩
set_option maxHeartbeats 1000000 in
theorem may_com (X : List UInt8) (hX : X.length ≤ 4000000000) (w : World) (hM : MaxL w) : Calls Tryz.prog 152 #[.string (str X)] w fun r w' => r = .returned (.bool (mayC X)) ∧ w = w' := by
  obtain ⟨m, hm⟩ := hM
  have C1 := Tryz.strings_Contains (str X) ⟨#[45, 45]⟩ m w (by rw [str_size]; omega) hm
  have C2 := Tryz.strings_HasSuffix (str X) ⟨#[45]⟩ w (by rw [str_size]; omega)
  have e : (str X).data.toList = X := str_bl X
  rw [e] at C1 C2
  change Calls _ _ _ _ (fun e w' => e = .returned (.bool (Lib.contains X [45, 45])) ∧ w' = w) at C1
  change Calls _ _ _ _ (fun e w' => e = .returned (.bool (Lib.hasSuffix X [45])) ∧ w' = w) at C2
  unfold mayC
  generalize Lib.contains X [45, 45] = A at C1 ⊢
  generalize Lib.hasSuffix X [45] = A2 at C2 ⊢
  have C1 := Lib.hid C1
  have C2 := Lib.hid C2
  clear hm e
  cases A with
  | true =>
    go_enter Tryz.func152, Tryz.ntmps152
    go_wp2_with fail
    refine C1.out.mono ?_
    rintro r w1 ⟨rfl, hw⟩
    obtain rfl := hw.symm
    go_wp2
    go_ret
    exact ⟨rfl, rfl⟩
  | false =>
    cases A2 with
    | true =>
      go_enter Tryz.func152, Tryz.ntmps152
      go_wp2_with fail
      refine C1.out.mono ?_
      rintro r w1 ⟨rfl, hw⟩
      obtain rfl := hw.symm
      go_wp2_with fail
      refine C2.out.mono ?_
      rintro r w1 ⟨rfl, hw⟩
      obtain rfl := hw.symm
      go_wp2
      go_ret
      exact ⟨rfl, rfl⟩
    | false =>
      go_enter Tryz.func152, Tryz.ntmps152
      go_wp2_with fail
      refine C1.out.mono ?_
      rintro r w1 ⟨rfl, hw⟩
      obtain rfl := hw.symm
      go_wp2_with fail
      refine C2.out.mono ?_
      rintro r w1 ⟨rfl, hw⟩
      obtain rfl := hw.symm
      go_wp2
      go_ret
      exact ⟨rfl, rfl⟩
theorem enters_com : ∀ (args : Array Value) (w : World), (callFunc 152 args).run Tryz.prog w = .ok (.enter 152 args) w := enters_of Tryz.func152 (by kernel_rfl) rfl
theorem enters_hint : ∀ (args : Array Value) (w : World), (callFunc 155 args).run Tryz.prog w = .ok (.enter 155 args) w := enters_of Tryz.func155 (by kernel_rfl) rfl
/-- **(*Scanner).pass.** -/
theorem spass (B b : Nat) (s p e : ByteArray) (lp le : List UInt8) (hlp : bl p = lp) (hle : bl e = le) (σ : St) (w : World) (hS : Sc B b s σ w) (hst : standsS lp (bl s) σ = true) (hp0 : lp ≠ []) (n : Nat) (may : List UInt8 → Bool)
    (hn : ∀ (args : Array Value) (w : World), (callFunc n args).run Tryz.prog w = .ok (.enter n args) w)
    (hM : ∀ (X : List UInt8) (w : World), X.length ≤ 4000000000 → Glob B w → Calls Tryz.prog n #[.string (str X)] w fun r w' => r = .returned (.bool (may X)) ∧ w = w') :
    Calls Tryz.prog 151 #[.pointer (some ⟨b, 0, none⟩), .string p, .string e, .func (.func n) #[] #[]] w fun r w' => r = .returned (.tuple #[]) ∧ Sc B b s (passS lp le may (bl s) σ) w' ∧ Only b w w' := by
  have hl := hS.len
  have hst' := stands_len hst hp0
  rw [bl_size, ← hlp, bl_size] at hst'
  have hlen := cut_len ((bl s).drop (σ.pos + lp.length)) le
  rw [List.length_drop, bl_size] at hlen
  have hX : (passC lp le (bl s) σ).1.length ≤ s.size - (σ.pos + lp.length) := hlen.1
  have hY : (passC lp le (bl s) σ).2.1.length ≤ s.size - (σ.pos + lp.length) := hlen.2
  have hc : ∀ w, Glob B w → Calls Tryz.prog 162 #[.string (s.extract (σ.pos + p.size) s.size), .string e] w fun r w' => r = .returned (.tuple #[.string (str (passC lp le (bl s) σ).1), .string (str (passC lp le (bl s) σ).2.1), .bool (passC lp le (bl s) σ).2.2]) ∧ ∃ n, w' = w.drewN n := by
    intro w hg
    obtain ⟨m, hm⟩ := hg.ent.maxl
    have c := Tryz.strings_Cut (s.extract (σ.pos + p.size) s.size) e m w (by have := size_from s (σ.pos + p.size); omega) hm
    have e1 : (s.extract (σ.pos + p.size) s.size).data.toList = (bl s).drop (σ.pos + lp.length) := by rw [← hlp, bl_size]; exact bl_from s _
    have e2 : e.data.toList = le := hle
    rw [e1, e2] at c
    exact c
  unfold passS
  rw [bl_size]
  obtain ⟨C, hC⟩ : ∃ C, passC lp le (bl s) σ = C := ⟨_, rfl⟩
  rw [hC] at hc hX hY ⊢
  have hs : C.2.1.length = (str C.2.1).size := (str_size _).symm
  rw [hs] at hY ⊢
  exact spass0 B b s p e σ _ w hS hst' n C.1 (str C.2.1) C.2.2 (may C.1) (by omega) hn (Lib.hid hc) (Lib.hid fun w hg => hM C.1 w (by omega) hg) (Lib.hid rfl)

end Go.Proofs.YtnlkpdodacphkaaGreatDoor
namespace Go.Proofs.YtnlkpdodacphkaaGreatDoor
open Go.RowKit
set_option maxRecDepth 100000

theorem pass_pos (b e : List UInt8) (may : List UInt8 → Bool) (D : List UInt8) (σ : St) (hb : σ.pos + b.length ≤ D.length) : (passS b e may D σ).err ≠ 0 ∨ (σ.pos + b.length ≤ (passS b e may D σ).pos ∧ (passS b e may D σ).err = σ.err) := by
  unfold passS
  by_cases h : (passC b e D σ).2.2 = true ∧ may (passC b e D σ).1 = true
  · rw [if_pos h]
    right
    have hlen := cut_len (D.drop (σ.pos + b.length)) e
    rw [List.length_drop] at hlen
    have hY : (passC b e D σ).2.1.length ≤ D.length - (σ.pos + b.length) := hlen.2
    refine ⟨?_, rfl⟩
    show _ ≤ D.length - _
    omega
  · rw [if_neg h]
    left
    exact wrong_err _ _ _ (by decide)
/-- What the loop of passAll keeps. -/
def PaR (B b : Nat) (s : ByteArray) (Z : St) (w : World) (g : Nat) (wr : World) : Prop :=
  ∃ σr, 1 ≤ g ∧ (σr.err = 0 → s.size + 1 ≤ g + σr.pos) ∧ passF g (bl s) σr = Z ∧ Sc B b s σr wr ∧ Only b w wr
set_option maxHeartbeats 2000000 in
theorem spassAll0 (B b : Nat) (s : ByteArray) (σ : St) (w : World) (hS : Sc B b s σ w) (Z : St) (hZ : passF (s.size + 1) (bl s) σ = Z) :
    Calls Tryz.prog 127 #[.pointer (some ⟨b, 0, none⟩)] w fun r w' => r = .returned (.tuple #[]) ∧ Sc B b s Z w' ∧ Only b w w' := by
  have H := Lib.hid hS
  have HZ := Lib.hid hZ
  clear hS hZ
  go_enter Tryz.func127, Tryz.ntmps127
  go_wp2
  go_loopg [] (s.size + 1) (fun g wr => PaR B b s Z w g wr)
  case atStart => exact ⟨σ, by omega, fun _ => by omega, HZ.out, H.out, Only.refl _ _⟩
  case round =>
    obtain ⟨σr, hg, hm, hs, hS, hO⟩ := hrel
    obtain ⟨f, rfl⟩ : ∃ f, gk = f + 1 := ⟨gk - 1, by omega⟩
    have HS := Lib.hid hS
    have HO := Lib.hid hO
    have HM := Lib.hid hm
    clear hS hO hm
    unfold passF at hs
    by_cases herr : σr.err = 0
    · have c2 := HS.out.c2
      rw [herr] at c2
      rw [if_pos herr] at hs
      have HE := Lib.hid herr
      clear herr
      cases s1 : standsS bCom (bl s) σr with
      | true =>
        rw [if_pos s1] at hs
        have hb1 := stands_len s1 (by decide)
        rw [bl_size] at hb1
        have hb2 : bCom.length = 4 := rfl
        have hpp := pass_pos bCom eCom mayC (bl s) σr (by rw [bl_size]; exact hb1)
        have C1 := Lib.hid (sstands_at B b s ⟨#[60, 33, 45, 45]⟩ σr wr HS.out true s1)
        have C2 := Lib.hid (fun w1 (h : Sc B b s σr w1) => spass B b s ⟨#[60, 33, 45, 45]⟩ ⟨#[45, 45, 62]⟩ bCom eCom rfl rfl σr w1 h s1 (by decide) _ mayC enters_com (fun X w hX hg => may_com X hX w hg.ent.maxl))
        have hgo : ∀ w2, Sc B b s (passS bCom eCom mayC (bl s) σr) w2 → Only b w w2 → PaR B b s Z w f w2 := fun w2 h2 o2 =>
          ⟨_, by have := HM.out HE.out; omega, fun h => by rcases hpp with hp | hp; exact absurd h hp; have := HM.out HE.out; omega, hs, h2, o2⟩
        have hgo := Lib.hid hgo
        clear s1 hs hb1 hb2 hpp hg
        go_wp2_with fail
        refine C1.out.mono ?_
        rintro r w1 ⟨rfl, h1, hb1⟩
        have HS1 := Lib.hid h1
        have HO1 := Lib.hid (HO.out.trans (Only.of (b := b) hb1))
        clear h1 hb1 C1 c2 HS HO
        go_wp2_with fail
        refine (C2.out w1 HS1.out).mono ?_
        rintro r w2 ⟨rfl, h2, o2⟩
        have hgo2 := hgo.out w2 h2 (HO1.out.trans o2)
        clear h2 o2 C2
        go_wp2
        go_roundg f
        case measure => omega
        case rel => exact hgo2
      | false =>
        rw [if_neg (by rw [s1]; decide)] at hs
        have C1 := Lib.hid (sstands_at B b s ⟨#[60, 33, 45, 45]⟩ σr wr HS.out false s1)
        clear s1
        cases s2 : standsS bHint (bl s) σr with
        | true =>
          rw [if_pos s2] at hs
          have hb1 := stands_len s2 (by decide)
          rw [bl_size] at hb1
          have hb2 : bHint.length = 2 := rfl
          have hpp := pass_pos bHint eHint mayH (bl s) σr (by rw [bl_size]; exact hb1)
          have C2 := Lib.hid (fun w1 (h : Sc B b s σr w1) => sstands_at B b s ⟨#[60, 63]⟩ σr w1 h true s2)
          have C3 := Lib.hid (fun w1 (h : Sc B b s σr w1) => spass B b s ⟨#[60, 63]⟩ ⟨#[63, 62]⟩ bHint eHint rfl rfl σr w1 h s2 (by decide) _ mayH enters_hint (fun X w _ _ => may_hint (str X) w))
          have hgo : ∀ w2, Sc B b s (passS bHint eHint mayH (bl s) σr) w2 → Only b w w2 → PaR B b s Z w f w2 := fun w2 h2 o2 =>
            ⟨_, by have := HM.out HE.out; omega, fun h => by rcases hpp with hp | hp; exact absurd h hp; have := HM.out HE.out; omega, hs, h2, o2⟩
          have hgo := Lib.hid hgo
          clear s2 hs hb1 hb2 hpp hg
          go_wp2_with fail
          refine C1.out.mono ?_
          rintro r w1 ⟨rfl, h1, hb1⟩
          have HS1 := Lib.hid h1
          have HO1 := Lib.hid (HO.out.trans (Only.of (b := b) hb1))
          clear h1 hb1 C1 c2 HS HO
          go_wp2_with fail
          refine (C2.out w1 HS1.out).mono ?_
          rintro r w2 ⟨rfl, h2, hb2⟩
          have HS2 := Lib.hid h2
          have HO2 := Lib.hid (HO1.out.trans (Only.of (b := b) hb2))
          clear h2 hb2 C2 HS1 HO1
          go_wp2_with fail
          refine (C3.out w2 HS2.out).mono ?_
          rintro r w3 ⟨rfl, h3, o3⟩
          have hgo2 := hgo.out w3 h3 (HO2.out.trans o3)
          clear h3 o3 C3
          go_wp2
          go_roundg f
          case measure => omega
          case rel => exact hgo2
        | false =>
          rw [if_neg (by rw [s2]; decide)] at hs
          have C2 := Lib.hid (fun w1 (h : Sc B b s σr w1) => sstands_at B b s ⟨#[60, 63]⟩ σr w1 h false s2)
          have HX := Lib.hid hs
          clear s2 hg hs
          go_wp2_with fail
          refine C1.out.mono ?_
          rintro r w1 ⟨rfl, h1, hb1⟩
          have HS1 := Lib.hid h1
          have HO1 := Lib.hid (HO.out.trans (Only.of (b := b) hb1))
          clear h1 hb1 C1 c2 HS HO
          go_wp2_with fail
          refine (C2.out w1 HS1.out).mono ?_
          rintro r w2 ⟨rfl, h2, hb2⟩
          go_wp2
          (try simp only [Exit.inBlock, Exit.then])
          refine bodyPost_ret (results_none rfl _ _ _) rfl ?_
          exact ⟨rfl, by rw [← HX.out]; exact h2, HO1.out.trans (Only.of hb2)⟩
    · have c2 := HS.out.c2
      have q : (σr.err == 0) = false := by simp [herr]
      rw [if_neg herr] at hs
      have HX := Lib.hid hs
      clear herr hs
      go_wp2
      go_end0
      exact ⟨rfl, by rw [← HX.out]; exact HS.out, HO.out⟩
/-- **(*Scanner).passAll.** -/
theorem spassAll (B b : Nat) (s : ByteArray) (σ : St) (w : World) (hS : Sc B b s σ w) :
    Calls Tryz.prog 127 #[.pointer (some ⟨b, 0, none⟩)] w fun r w' => r = .returned (.tuple #[]) ∧ Sc B b s (passAllS (bl s) σ) w' ∧ Only b w w' := by
  unfold passAllS
  rw [bl_size]
  exact spassAll0 B b s σ w hS _ rfl

/-! ### Next -/
set_option maxHeartbeats 4000000 in
theorem snext0 (B b : Nat) (s : ByteArray) (σ σ1 : St) (w : World) (hS : Sc B b s σ w) (Q : Pc) (σ2 : St) (F : Pc) (G : St)
    (C1 : Hid (∀ w, Sc B b s σ w → Calls Tryz.prog 127 #[.pointer (some ⟨b, 0, none⟩)] w fun r w' => r = .returned (.tuple #[]) ∧ Sc B b s σ1 w' ∧ Only b w w'))
    (C2 : Hid (∀ w, Sc B b s σ1 w → Calls Tryz.prog 128 #[.pointer (some ⟨b, 0, none⟩)] w (Gives B b s w Q σ2)))
    (hF : Hid (F = if σ1.err = 0 ∧ σ1.pos < s.size then if σ2.err = 0 then Q else pc0 else pc0)) (hG : Hid (G = if σ1.err = 0 ∧ σ1.pos < s.size then σ2 else σ1)) :
    Calls Tryz.prog 96 #[.pointer (some ⟨b, 0, none⟩)] w (Gives B b s w F G) := by
  have HS := Lib.hid (hS.step ((Below.refl _ _).alloc (Nat.le_refl _) (.cells #[.int .i64 0, .string ⟨#[]⟩, .slice none 0 0, .string ⟨#[]⟩, .int .i64 0] 117)))
  have HO := Lib.hid (Only.alloc b w (.cells #[.int .i64 0, .string ⟨#[]⟩, .slice none 0 0, .string ⟨#[]⟩, .int .i64 0] 117))
  have HR := Lib.hid (heap_alloc_new w (.cells #[.int .i64 0, .string ⟨#[]⟩, .slice none 0 0, .string ⟨#[]⟩, .int .i64 0] 117))
  have hbR : b < w.heap.size := hS.lt
  have hBb := hS.base
  have hln := hS.len
  clear hS
  go_enter Tryz.func96, Tryz.ntmps96
  go_wp2_with fail
  obtain ⟨R, hRe⟩ : ∃ R, w.heap.size = R := ⟨_, rfl⟩
  rw [hRe] at HR hbR ⊢
  have HRe := Lib.hid hRe
  clear hRe
  generalize w.alloc (.cells #[.int .i64 0, .string ⟨#[]⟩, .slice none 0 0, .string ⟨#[]⟩, .int .i64 0] 117) = w0 at HS HO HR ⊢
  refine (C1.out w0 HS.out).mono ?_
  rintro r w1 ⟨rfl, h1, o1⟩
  have HS1 := Lib.hid h1
  have HO1 := Lib.hid (HO.out.trans o1)
  have HR1 := Lib.hid (o1.heap HR.out (by omega))
  clear h1 o1 C1 HS HO HR
  have c0 := HS1.out.c0
  have c1 := HS1.out.c1
  have c2 := HS1.out.c2
  have hps := HS1.out.pos
  by_cases herr : σ1.err = 0
  · rw [herr] at c2
    have HE := Lib.hid herr
    clear herr
    by_cases hin : σ1.pos < s.size
    · have q : ((σ1.pos : Int) == (s.size : Int)) = false := by simp; omega
      have hF2 := Lib.hid (hF.out.trans (by rw [if_pos ⟨HE.out, hin⟩]))
      have hG2 := Lib.hid (hG.out.trans (by rw [if_pos ⟨HE.out, hin⟩]))
      clear hF hG
      go_wp2
      go_quiet (fail)
      have HS2 := Lib.hid (HS1.out.step (below_drewN w1 nq))
      have HO2 := Lib.hid (HO1.out.trans (Only.drewN b w1 nq))
      have HR2 := Lib.hid ((Only.drewN b w1 nq).heap HR1.out (by omega))
      clear HS1 HO1 HR1 c0 c1 c2
      generalize w1.drewN nq = w2 at HS2 HO2 HR2 ⊢
      go_wp2_with fail
      refine (C2.out w2 HS2.out).mono ?_
      rintro r w3 ⟨x, rfl, ⟨v, rfl, hrows, hfresh⟩, h3, o3⟩
      obtain ⟨ao, m, cap, rfl⟩ := rows_form hrows
      have hRw := (Array.getElem?_eq_some_iff.1 HR2.out).1
      have hRw3 := Nat.lt_of_lt_of_le hRw o3.size
      have HRW := Lib.hid (hrows.heap (w' := w3.alloc (.cells #[.int .i64 Q.kind, .string (str Q.name), .slice ao m cap, .string (str Q.text), .int .i64 Q.at_] 117)) (by simp) (fun g o n c hv => by
        rcases hrows.1 with ⟨_, he⟩ | ⟨g', cap', he, hg', _⟩
        · rw [he] at hv; simp at hv
        · rw [he] at hv; injection hv with e1; injection e1 with e2; injection e2 with e3; subst e3; exact Below.heap_alloc _ _ _ hg'))
      have HFR := Lib.hid (fun g o n c (hv : Value.slice ao m cap = .slice (some ⟨g, o, none⟩) n c) => Nat.lt_of_lt_of_le hRw (hfresh g o n c hv))
      have HS3 := Lib.hid (h3.step ((Below.refl _ _).alloc (Nat.le_refl _) (.cells #[.int .i64 Q.kind, .string (str Q.name), .slice ao m cap, .string (str Q.text), .int .i64 Q.at_] 117)))
      have HO3 := Lib.hid ((HO2.out.trans o3).trans (Only.alloc b w3 (.cells #[.int .i64 Q.kind, .string (str Q.name), .slice ao m cap, .string (str Q.text), .int .i64 Q.at_] 117)))
      have HR3 := Lib.hid ((Only.alloc b w3 (.cells #[.int .i64 Q.kind, .string (str Q.name), .slice ao m cap, .string (str Q.text), .int .i64 Q.at_] 117)).heap (o3.heap HR2.out (by omega)) (by omega))
      have HP3 := Lib.hid (heap_alloc_new w3 (.cells #[.int .i64 Q.kind, .string (str Q.name), .slice ao m cap, .string (str Q.text), .int .i64 Q.at_] 117))
      clear hrows hfresh h3 o3 C2 HS2 HO2 HR2 hRw
      go_upto_region 7 with (fail)
      obtain ⟨P, hPe⟩ : ∃ P, w3.heap.size = P := ⟨_, rfl⟩
      rw [hPe] at HP3 hRw3 ⊢
      clear hPe
      generalize w3.alloc (.cells #[.int .i64 Q.kind, .string (str Q.name), .slice ao m cap, .string (str Q.text), .int .i64 Q.at_] 117) = w4 at HS3 HO3 HR3 HP3 HRW ⊢
      have c2 := HS3.out.c2
      by_cases herr2 : σ2.err = 0
      · rw [herr2] at c2
        have hF3 := Lib.hid (hF2.out.trans (by rw [if_pos herr2]))
        clear hF2 herr2
        have r0 := Lib.cell_of_heap HR3.out 0
        have r1 := Lib.cell_of_heap HR3.out 1
        have r2 := Lib.cell_of_heap HR3.out 2
        have r3 := Lib.cell_of_heap HR3.out 3
        have r4 := Lib.cell_of_heap HR3.out 4
        have f0 := Lib.frozen_of_heap HR3.out 0
        have f1 := Lib.frozen_of_heap HR3.out 1
        have f2 := Lib.frozen_of_heap HR3.out 2
        have f3 := Lib.frozen_of_heap HR3.out 3
        have f4 := Lib.frozen_of_heap HR3.out 4
        simp only [List.getElem?_toArray, List.getElem?_cons_zero, List.getElem?_cons_succ] at r0 r1 r2 r3 r4
        have p0 := Lib.cell_of_heap HP3.out 0
        have p1 := Lib.cell_of_heap HP3.out 1
        have p2 := Lib.cell_of_heap HP3.out 2
        have p3 := Lib.cell_of_heap HP3.out 3
        have p4 := Lib.cell_of_heap HP3.out 4
        simp only [List.getElem?_toArray, List.getElem?_cons_zero, List.getElem?_cons_succ] at p0 p1 p2 p3 p4
        go_wp2
        rw [hF3.out, hG2.out]
        refine bodyPost_ret (res_piece _ rfl _ R rfl _ _ _ _ _ _ 117 (0, 0) (st5_heap HR3.out _ _ _ _ _)) rfl ⟨_, rfl, ⟨_, rfl, ?_, ?_⟩, ?_, ?_⟩
        · exact HRW.out.st5 (fun g o n c hv => by have := HFR.out g o n c hv; omega) _ _ _ _ _
        · intro g o n c hv
          have := HFR.out g o n c hv
          have := HRe.out
          omega
        · exact st5_sc HS3.out (by omega) (by omega) _ _ _ _ _
        · exact st5_only HO3.out (by have := HRe.out; omega) _ _ _ _ _
      · have q2 : (σ2.err != 0) = true := by simp [herr2]
        have q3 : (σ2.err == 0) = false := by simp [herr2]
        have hF3 := Lib.hid (hF2.out.trans (by rw [if_neg herr2]))
        clear hF2 herr2
        have r0 := Lib.cell_of_heap HR3.out 0
        have r1 := Lib.cell_of_heap HR3.out 1
        have r2 := Lib.cell_of_heap HR3.out 2
        have r3 := Lib.cell_of_heap HR3.out 3
        have r4 := Lib.cell_of_heap HR3.out 4
        have f0 := Lib.frozen_of_heap HR3.out 0
        have f1 := Lib.frozen_of_heap HR3.out 1
        have f2 := Lib.frozen_of_heap HR3.out 2
        have f3 := Lib.frozen_of_heap HR3.out 3
        have f4 := Lib.frozen_of_heap HR3.out 4
        simp only [List.getElem?_toArray, List.getElem?_cons_zero, List.getElem?_cons_succ] at r0 r1 r2 r3 r4
        go_wp2
        rw [hF3.out, hG2.out]
        refine bodyPost_ret (res_piece _ rfl _ R rfl _ _ _ _ _ _ 117 (0, 0) (st5_heap HR3.out _ _ _ _ _)) rfl ⟨_, rfl, ⟨_, rfl, rowsB_nil b _, fresh_nil _⟩, ?_, ?_⟩
        · exact st5_sc HS3.out (by omega) (by omega) _ _ _ _ _
        · exact st5_only HO3.out (by have := HRe.out; omega) _ _ _ _ _
    · have q : ((σ1.pos : Int) == (s.size : Int)) = true := by simp; omega
      have hF2 := Lib.hid (hF.out.trans (by rw [if_neg (fun h => hin h.2)]))
      have hG2 := Lib.hid (hG.out.trans (by rw [if_neg (fun h => hin h.2)]))
      clear hF hG C2 hin
      have r0 := Lib.cell_of_heap HR1.out 0
      have r1 := Lib.cell_of_heap HR1.out 1
      have r2 := Lib.cell_of_heap HR1.out 2
      have r3 := Lib.cell_of_heap HR1.out 3
      have r4 := Lib.cell_of_heap HR1.out 4
      have f0 := Lib.frozen_of_heap HR1.out 0
      have f1 := Lib.frozen_of_heap HR1.out 1
      have f2 := Lib.frozen_of_heap HR1.out 2
      have f3 := Lib.frozen_of_heap HR1.out 3
      have f4 := Lib.frozen_of_heap HR1.out 4
      simp only [List.getElem?_toArray, List.getElem?_cons_zero, List.getElem?_cons_succ] at r0 r1 r2 r3 r4
      go_wp2
      go_quiet (fail)
      go_wp2
      rw [hF2.out, hG2.out]
      refine bodyPost_ret (res_piece _ rfl _ R rfl _ _ _ _ _ _ 117 (0, 0) (st5_heap ((Only.drewN b w1 nq).heap HR1.out (by omega)) _ _ _ _ _)) rfl ⟨_, rfl, ⟨_, rfl, rowsB_nil b _, fresh_nil _⟩, ?_, ?_⟩
      · exact st5_sc (HS1.out.step (below_drewN w1 nq)) (by omega) (by omega) _ _ _ _ _
      · exact st5_only (HO1.out.trans (Only.drewN b w1 nq)) (by have := HRe.out; omega) _ _ _ _ _
  · have q2 : (σ1.err != 0) = true := by simp [herr]
    have q3 : (σ1.err == 0) = false := by simp [herr]
    have hF2 := Lib.hid (hF.out.trans (by rw [if_neg (fun h => herr h.1)]))
    have hG2 := Lib.hid (hG.out.trans (by rw [if_neg (fun h => herr h.1)]))
    clear hF hG C2 herr
    have r0 := Lib.cell_of_heap HR1.out 0
    have r1 := Lib.cell_of_heap HR1.out 1
    have r2 := Lib.cell_of_heap HR1.out 2
    have r3 := Lib.cell_of_heap HR1.out 3
    have r4 := Lib.cell_of_heap HR1.out 4
    have f0 := Lib.frozen_of_heap HR1.out 0
    have f1 := Lib.frozen_of_heap HR1.out 1
    have f2 := Lib.frozen_of_heap HR1.out 2
    have f3 := Lib.frozen_of_heap HR1.out 3
    have f4 := Lib.frozen_of_heap HR1.out 4
    simp only [List.getElem?_toArray, List.getElem?_cons_zero, List.getElem?_cons_succ] at r0 r1 r2 r3 r4
    go_wp2
    go_quiet (fail)
    go_wp2
    rw [hF2.out, hG2.out]
    refine bodyPost_ret (res_piece _ rfl _ R rfl _ _ _ _ _ _ 117 (0, 0) (st5_heap ((Only.drewN b w1 nq).heap HR1.out (by omega)) _ _ _ _ _)) rfl ⟨_, rfl, ⟨_, rfl, rowsB_nil b _, fresh_nil _⟩, ?_, ?_⟩
    · exact st5_sc (HS1.out.step (below_drewN w1 nq)) (by omega) (by omega) _ _ _ _ _
    · exact st5_only (HO1.out.trans (Only.drewN b w1 nq)) (by have := HRe.out; omega) _ _ _ _ _
/-- **(*Scanner).Next.** -/
theorem snext (B b : Nat) (s : ByteArray) (σ : St) (w : World) (hS : Sc B b s σ w) :
    Calls Tryz.prog 96 #[.pointer (some ⟨b, 0, none⟩)] w (Gives B b s w (nextP (bl s) σ) (nextS (bl s) σ)) := by
  have C1 := Lib.hid fun w h => spassAll B b s σ w h
  have C2 := Lib.hid fun w h => spiece B b s (passAllS (bl s) σ) w h
  unfold nextP nextS
  generalize passAllS (bl s) σ = σ1 at C1 C2 ⊢
  obtain ⟨Y, hY⟩ : ∃ Y, pieceS (bl s) σ1 = Y := ⟨_, rfl⟩
  rw [hY] at C2 ⊢
  obtain ⟨Q, σ2⟩ := Y
  rw [bl_size]
  exact snext0 B b s σ σ1 w hS Q σ2 _ _ C1 C2 (Lib.hid rfl) (Lib.hid rfl)

/-! ### New -/
/-- A new scanner: in the next block, at the start. -/
def News (s : ByteArray) (w : World) (r : Ending) (w' : World) : Prop := ∃ b, b = w.heap.size ∧ r = .returned (.pointer (some ⟨b, 0, none⟩)) ∧ Sc w.heap.size b s (newS (bl s)) w' ∧ Below w.heap.size w w'
set_option maxHeartbeats 2000000 in
theorem snew (s : ByteArray) (w : World) (hE : EntV w) (hT : Tabs w) (hs : s.size ≤ 4000000000) :
    Calls Tryz.prog 27 #[.string s] w (News s w) := by
  have hb0 := (Below.refl w.heap.size w).alloc (Nat.le_refl _) (.cells #[.string s, .int .i64 0, .int .i64 0, .int .i64 0] 108)
  have HS := Lib.hid (show Sc w.heap.size w.heap.size s ⟨0, 0, 0⟩ (w.alloc (.cells #[.string s, .int .i64 0, .int .i64 0, .int .i64 0] 108)) from
    ⟨Nat.le_refl _, hs, Nat.zero_le _, (Glob.start hE hT).step hb0, heap_alloc_new w _⟩)
  have HB := Lib.hid hb0
  have HT1 := Lib.hid (hT.below hb0)
  clear hE hT hb0
  have hbs := bl_size s
  by_cases hbig : 200000 < s.size
  · have hN : newS (bl s) = wrongS 5 200000 ⟨0, 0, 0⟩ := by unfold newS; rw [if_pos (by rw [hbs]; exact hbig)]; rfl
    have hN := Lib.hid hN
    have hbig' : (200000 : Int) < (s.size : Int) := by omega
    clear hbs
    go_enter Tryz.func27, Tryz.ntmps27
    go_wp2_with fail
    have C := Lib.hid (swrong w.heap.size w.heap.size s ⟨0, 0, 0⟩ _ HS.out 5 200000 (by decide))
    refine C.out.mono ?_
    rintro r w1 ⟨rfl, h1, o1⟩
    go_wp2
    go_ret
    exact ⟨_, rfl, rfl, by rw [hN.out]; exact h1, HB.out.trans (o1.below (Nat.le_refl _) (by simp))⟩
  · have hbig' : decide ((200000 : Int) < (s.size : Int)) = false := decide_eq_false (by omega)
    have CB := ubad s (w.alloc (.cells #[.string s, .int .i64 0, .int .i64 0, .int .i64 0] 108)) (by omega) HT1.out
    obtain ⟨A, hA⟩ : ∃ A, badL (bl s) = A := ⟨_, rfl⟩
    rw [hA] at CB
    have CB := Lib.hid CB
    by_cases hbad : 0 ≤ A
    · have hN : newS (bl s) = wrongS 2 A ⟨0, 0, 0⟩ := by unfold newS; rw [if_neg (by rw [hbs]; exact hbig), hA, if_pos hbad]; rfl
      have hN := Lib.hid hN
      clear hbs hA
      go_enter Tryz.func27, Tryz.ntmps27
      go_wp2_with fail
      refine CB.out.mono ?_
      rintro r w1 ⟨rfl, hb1⟩
      have HS1 := Lib.hid (HS.out.step hb1)
      have HB1 := Lib.hid (HB.out.trans (hb1.mono (by simp)))
      clear hb1 CB HS HB
      have C := Lib.hid (swrong w.heap.size w.heap.size s ⟨0, 0, 0⟩ _ HS1.out 2 A (by decide))
      go_wp2_with fail
      refine C.out.mono ?_
      rintro r w2 ⟨rfl, h2, o2⟩
      go_wp2
      go_ret
      exact ⟨_, rfl, rfl, by rw [hN.out]; exact h2, HB1.out.trans (o2.below (Nat.le_refl _) HB1.out.size)⟩
    · have hN : newS (bl s) = ⟨0, 0, 0⟩ := by unfold newS; rw [if_neg (by rw [hbs]; exact hbig), hA, if_neg hbad]
      have hN := Lib.hid hN
      have hbad' : decide (0 ≤ A) = false := decide_eq_false hbad
      clear hbs hA hbad
      go_enter Tryz.func27, Tryz.ntmps27
      go_wp2_with fail
      refine CB.out.mono ?_
      rintro r w1 ⟨rfl, hb1⟩
      have HS1 := Lib.hid (HS.out.step hb1)
      have HB1 := Lib.hid (HB.out.trans (hb1.mono (by simp)))
      clear hb1 CB HS HB
      go_wp2
      go_ret
      exact ⟨_, rfl, rfl, by rw [hN.out]; exact HS1.out, HB1.out⟩

end Go.Proofs.YtnlkpdodacphkaaGreatDoor
namespace Go.Proofs.YtnlkpdodacphkaaGreatDoor
open Go Go.RowKit
set_option maxRecDepth 100000

theorem tl_of {a b : ByteArray} (h : a = b) (l : List UInt8) (hb : b.data.toList = l) : a.toList = l := by rw [h, Lib.toList_data]; exact hb
theorem tl_nq {a b : ByteArray} (h : a ≠ b) (l : List UInt8) (hb : b.data.toList = l) : (a.toList == l) = false := by
  rw [← hb, ← Lib.toList_data, tl_beq]
  exact decide_eq_false h
set_option maxHeartbeats 1000000 in
theorem ptold (n : ByteArray) (w : World) :
    Calls Tryz.prog 129 #[.string n] w fun r w' => r = .returned (.tuple #[.string (tellS n).1, .bool (tellS n).2]) ∧ w' = w := by
  have C := Tryz.strings_CutPrefix n ⟨#[120, 109, 108, 110, 115, 58]⟩ w
  unfold tellS
  by_cases h : n = bXmlns
  · rw [if_pos h]
    have q := tl_of h [120, 109, 108, 110, 115] rfl
    clear C h
    go_enter Tryz.func129, Tryz.ntmps129
    go_wp2
    go_ret2
    exact ⟨rfl, rfl⟩
  · rw [if_neg h]
    have q := tl_nq h [120, 109, 108, 110, 115] rfl
    change Calls _ _ _ _ (fun e w' => e = .returned (.tuple #[.string ⟨(Lib.trimPrefix n.data.toList bXmlnsC.data.toList).toArray⟩, .bool (Lib.hasPrefix n.data.toList bXmlnsC.data.toList)]) ∧ w' = w) at C
    generalize Lib.hasPrefix n.data.toList bXmlnsC.data.toList = A at C ⊢
    generalize (⟨(Lib.trimPrefix n.data.toList bXmlnsC.data.toList).toArray⟩ : ByteArray) = X at C ⊢
    have C := Lib.hid C
    clear h
    go_enter Tryz.func129, Tryz.ntmps129
    go_wp2_with (go_at_call 161; refine C.out.mono ?_; rintro e w' ⟨rfl, rfl⟩)
    go_ret2
    exact ⟨rfl, rfl⟩

/-! ### know -/
theorem tell_info : (Tryz.prog.info? 111).map (fun i => (i.zero, i.size, i.bytes)) = some (some (.agg #[.string ⟨#[]⟩, .string ⟨#[]⟩, .int .i64 0]), 3, 40) := by kernel_rfl
set_option maxHeartbeats 1000000 in
theorem pknow_form (b : Nat) (p s : ByteArray) (w : World) (h : p = bXml ∨ p = bXmlns ∨ (p ≠ bNone ∧ s = bNone)) :
    Calls Tryz.prog 130 #[.pointer (some ⟨b, 0, none⟩), .string p, .string s] w fun r w' => r = .returned (.int .i64 3) ∧ w' = w := by
  by_cases h1 : p = bXml
  · have q1 := tl_of h1 [120, 109, 108] rfl
    clear h h1
    go_enter Tryz.func130, Tryz.ntmps130
    go_wp2
    go_ret
    exact ⟨rfl, rfl⟩
  · have q1 := tl_nq h1 [120, 109, 108] rfl
    by_cases h2 : p = bXmlns
    · have q2 := tl_of h2 [120, 109, 108, 110, 115] rfl
      clear h h1 h2
      go_enter Tryz.func130, Tryz.ntmps130
      go_wp2
      go_ret
      exact ⟨rfl, rfl⟩
    · have q2 := tl_nq h2 [120, 109, 108, 110, 115] rfl
      have h3 : p ≠ bNone ∧ s = bNone := by
        rcases h with h | h | h
        · exact absurd h h1
        · exact absurd h h2
        · exact h
      have q3 := tl_nq h3.1 [] rfl
      have q4 := tl_of h3.2 [] rfl
      clear h h1 h2 h3
      go_enter Tryz.func130, Tryz.ntmps130
      go_wp2
      go_ret
      exact ⟨rfl, rfl⟩

set_option maxHeartbeats 1000000 in
theorem pknow_big (B b d : Nat) (L : List Tell) (p s : ByteArray) (w : World) (hS : Sp B b d L w) (h : ¬ (p = bXml ∨ p = bXmlns ∨ (p ≠ bNone ∧ s = bNone))) (hL : 100 ≤ L.length) :
    Calls Tryz.prog 130 #[.pointer (some ⟨b, 0, none⟩), .string p, .string s] w fun r w' => r = .returned (.int .i64 5) ∧ w' = w := by
  have q1 := tl_nq (fun e => h (.inl e)) [120, 109, 108] rfl
  have q2 := tl_nq (fun e => h (.inr (.inl e))) [120, 109, 108, 110, 115] rfl
  obtain ⟨_, k, cap, hb, _⟩ := hS
  have c1 := Lib.cell_of_heap hb 1
  simp only [List.getElem?_toArray, List.getElem?_cons_zero, List.getElem?_cons_succ] at c1
  have hLi : (100 : Int) ≤ (L.length : Int) := by omega
  by_cases h3 : p = bNone
  · have q3 := tl_of h3 [] rfl
    clear h hb h3 hL
    go_enter Tryz.func130, Tryz.ntmps130
    go_wp2
    go_ret
    exact ⟨rfl, rfl⟩
  · have q3 := tl_nq h3 [] rfl
    have q4 := tl_nq (fun e => h (.inr (.inr ⟨h3, e⟩))) [] rfl
    clear h hb h3 hL
    go_enter Tryz.func130, Tryz.ntmps130
    go_wp2
    go_ret
    exact ⟨rfl, rfl⟩

set_option maxHeartbeats 4000000 in
theorem pknow_ok (B b d : Nat) (L : List Tell) (p s : ByteArray) (w : World) (hS : Sp B b d L w) (h : ¬ (p = bXml ∨ p = bXmlns ∨ (p ≠ bNone ∧ s = bNone))) (hL : L.length < 100) :
    Calls Tryz.prog 130 #[.pointer (some ⟨b, 0, none⟩), .string p, .string s] w fun r w' => r = .returned (.int .i64 0) ∧ Sp B b d (L ++ [⟨p, s, d⟩]) w' ∧ Below B w w' ∧ Apart w w' := by
  have q1 := tl_nq (fun e => h (.inl e)) [120, 109, 108] rfl
  have q2 := tl_nq (fun e => h (.inr (.inl e))) [120, 109, 108, 110, 115] rfl
  have q3 : (p.toList == []) = true ∨ (p.toList == []) = false ∧ (s.toList == []) = false := by
    by_cases h3 : p = bNone
    · left; rw [tl_of h3 [] rfl]; rfl
    · exact .inr ⟨tl_nq h3 [] rfl, tl_nq (fun e => h (.inr (.inr ⟨h3, e⟩))) [] rfl⟩
  have hbl := hS.lt
  have hbase := hS.base
  obtain ⟨_, k, cap, hb, ho⟩ := hS
  have hbk : b ≠ k := own_block_ne ho hb (by decide)
  have c0 := Lib.cell_of_heap hb 0
  have c1 := Lib.cell_of_heap hb 1
  have f1 := Lib.frozen_of_heap hb 1
  simp only [List.getElem?_toArray, List.getElem?_cons_zero, List.getElem?_cons_succ] at c0 c1
  have hLi : ¬ (100 : Int) ≤ (L.length : Int) := by omega
  have HB := Lib.hid hb
  have HO := Lib.hid ho
  clear h hb ho
  go_enter Tryz.func130, Tryz.ntmps130
  obtain ⟨i0, hi, hz0, hz1, hz2⟩ := info_parts tell_info
  have HI := Lib.hid hi
  have HI0 := Lib.hid hz0
  have HI1 := Lib.hid hz1
  have HI2 := Lib.hid hz2
  clear hi hz0 hz1 hz2
  have HX : Hid (∀ (gg cap' : Nat) (w7 : World), w7.ownsRow B 111 3 (.slice (some ⟨gg, 0, none⟩) (L.length + 1) cap') (L.length + 1) (cellsT L ++ [.string p, .string s, .int .i64 d]) → (w.alloc (.cells #[.string p, .string s, .int .i64 d] 111)).grownBy w7 (some k) →
      w7.cell? ⟨b, 1, none⟩ = some (.slice (some ⟨k, 0, none⟩) L.length cap) ∧ w7.frozen? ⟨b, 1, none⟩ = false ∧
      Hid (Sp B b d (L ++ [⟨p, s, d⟩]) (w7.setCell ⟨b, 1, none⟩ (.slice (some ⟨gg, 0, none⟩) (L.length + 1) cap')) ∧ Below B w (w7.setCell ⟨b, 1, none⟩ (.slice (some ⟨gg, 0, none⟩) (L.length + 1) cap')) ∧ Apart w (w7.setCell ⟨b, 1, none⟩ (.slice (some ⟨gg, 0, none⟩) (L.length + 1) cap')))) := by
    refine Lib.hid fun gg cap' w7 hown7 hgrow => ?_
    have hB1 := (Below.refl w.heap.size w).alloc (Nat.le_refl _) (.cells #[.string p, .string s, .int .i64 d] 111)
    have hb1 := (hB1.block b hbl).trans HB.out
    have hs1 := hB1.size
    have hb7 := (hgrow.block b (by omega) (by intro e; exact hbk (by cases e; rfl))).trans hb1
    have hkB := (HO.out.lt k rfl).1
    have p7 := Sp.put (L := L ++ [⟨p, s, d⟩]) (n := L.length + 1) (by simp) hbase hb7 (by rw [cellsT_app]; exact hown7)
    refine ⟨by rw [Lib.cell_of_heap hb7]; rfl, Lib.frozen_of_heap hb7 1, Lib.hid ⟨p7.1, ((hB1.mono (by omega)).grown hgrow (by omega) (fun j e => by cases e; exact hkB)).trans p7.2.1, ((Apart.of hB1).trans (Apart.grown hgrow (fun j e => ?_))).trans p7.2.2⟩⟩
    cases e
    rcases (HO.out.alloc (.cells #[.string p, .string s, .int .i64 d] 111)).2 with ⟨h', _⟩ | ⟨g', cap', cur, h', _, hg', _⟩
    · simp at h'
    · simp only [Value.slice.injEq, Option.some.injEq, Addr.mk.injEq, and_true, true_and] at h'
      obtain ⟨rfl, rfl⟩ := h'
      exact ⟨_, _, _, hg', .inl rfl⟩
  rcases q3 with q3 | ⟨q3, q4⟩
  · go_upto_region 7 with (fail)
    go_region_law (
       refine step_append_lies _ (by rfl) _ _ _ (by rfl) B 111 i0 _ 3 40 Tryz.underlying112 HI.out HI0.out HI1.out HI2.out rfl (by omega) (.slice (some ⟨k, 0, none⟩) L.length cap) L.length (cellsT L) (by rfl) (HO.out.alloc _)
         ⟨w.heap.size, 0, none⟩ 1 1 [.string p, .string s, .int .i64 d] (by rfl) (by rfl) (World.news_of_block (cs := #[.string p, .string s, .int .i64 d]) (t := 111) (fr := (0, 0)) (heap_alloc_new w _)) (by simp [Value.oneCell'])
         (by omega) (by unfold maxLen; omega) (by omega) (by simp; omega) (w.heap.size + 1) (by simp) ?_
       intro gg cap' w7 hown7 hgrow hat hlt
       have hx7 := HX.out gg cap' w7 hown7 ⟨hgrow.os, hgrow.tape, hgrow.output, hgrow.size, hgrow.block⟩
       have k7 := hx7.1
       have g7 := hx7.2.1
       have H7 := hx7.2.2)
    all_goals
      clear hgrow hown7 k7 g7 hx7
      go_wp2
      go_ret
      exact ⟨rfl, H7.out⟩
  · go_upto_region 7 with (fail)
    go_region_law (
       refine step_append_lies _ (by rfl) _ _ _ (by rfl) B 111 i0 _ 3 40 Tryz.underlying112 HI.out HI0.out HI1.out HI2.out rfl (by omega) (.slice (some ⟨k, 0, none⟩) L.length cap) L.length (cellsT L) (by rfl) (HO.out.alloc _)
         ⟨w.heap.size, 0, none⟩ 1 1 [.string p, .string s, .int .i64 d] (by rfl) (by rfl) (World.news_of_block (cs := #[.string p, .string s, .int .i64 d]) (t := 111) (fr := (0, 0)) (heap_alloc_new w _)) (by simp [Value.oneCell'])
         (by omega) (by unfold maxLen; omega) (by omega) (by simp; omega) (w.heap.size + 1) (by simp) ?_
       intro gg cap' w7 hown7 hgrow hat hlt
       have hx7 := HX.out gg cap' w7 hown7 ⟨hgrow.os, hgrow.tape, hgrow.output, hgrow.size, hgrow.block⟩
       have k7 := hx7.1
       have g7 := hx7.2.1
       have H7 := hx7.2.2)
    all_goals
      clear hgrow hown7 k7 g7 hx7
      go_wp2
      go_ret
      exact ⟨rfl, H7.out⟩

/-- **(*Spaces).know.** -/
theorem pknow (B b d : Nat) (L : List Tell) (p s : ByteArray) (w : World) (hS : Sp B b d L w) :
    Calls Tryz.prog 130 #[.pointer (some ⟨b, 0, none⟩), .string p, .string s] w fun r w' => r = .returned (.int .i64 (knowE L p s)) ∧ Sp B b d (if knowE L p s = 0 then L ++ [⟨p, s, d⟩] else L) w' ∧ Below B w w' ∧ Apart w w' := by
  unfold knowE
  by_cases h : p = bXml ∨ p = bXmlns ∨ (p ≠ bNone ∧ s = bNone)
  · rw [if_pos h, if_neg (by decide)]
    exact (pknow_form b p s w h).mono fun r w' ⟨hr, hw⟩ => by subst hw; exact ⟨hr, hS, Below.refl _ _, Apart.refl _⟩
  · rw [if_neg h]
    by_cases hL : 100 ≤ L.length
    · rw [if_pos hL, if_neg (by decide)]
      exact (pknow_big B b d L p s w hS h hL).mono fun r w' ⟨hr, hw⟩ => by subst hw; exact ⟨hr, hS, Below.refl _ _, Apart.refl _⟩
    · rw [if_neg hL, if_pos rfl]
      exact pknow_ok B b d L p s w hS h (by omega)

end Go.Proofs.YtnlkpdodacphkaaGreatDoor
