/-
  The walks of (*Scanner).piece, pass, passAll, Next, and of New.
-/
import Derived.Test.YtekmenkebokdoaaGreatDoorScanParts
import Derived.Deep.CutBlock
import Derived.Deep.DeepCutAuto
namespace Go.Proofs.YtekmenkebokdoaaGreatDoor
open Go.RowKit
set_option maxRecDepth 100000

theorem rows_form {b : Nat} {w : World} {v : Value} {A : List (List UInt8 × List UInt8)} (h : RowsB b w v A) : ∃ ao m cap, v = .slice ao m cap := by
  rcases h.1 with ⟨_, h⟩ | ⟨g, cap, h, _⟩
  · exact ⟨_, _, _, h⟩
  · exact ⟨_, _, _, h⟩
theorem RowsB.set {b : Nat} {w : World} {v : Value} {A : List (List UInt8 × List UInt8)} (h : RowsB b w v A) {p : Addr} (hk : ∀ g o n c, v = .slice (some ⟨g, o, none⟩) n c → g ≠ p.block) (x : Value) : RowsB b (w.setCell p x) v A :=
  h.heap (by simp [World.setCell]) (fun g o n c hv => Below.heap_setCell _ _ _ _ (hk g o n c hv))
theorem RowsB.st5 {b : Nat} {w : World} {v : Value} {A : List (List UInt8 × List UInt8)} (h : RowsB b w v A) {R : Nat} (hk : ∀ g o n c, v = .slice (some ⟨g, o, none⟩) n c → g ≠ R) (x0 x1 x2 x3 x4 : Value) : RowsB b (st5 w R x0 x1 x2 x3 x4) v A :=
  h.heap (by rw [st5_size]; exact Nat.le_refl _) (fun g o n c hv => st5_other (hk g o n c hv) _ _ _ _ _)
/-- A piece lies in block P, before it is told where it stands. -/
def Mid (B b : Nat) (s : ByteArray) (w : World) (Z : Pc × St) (R P : Nat) (wx : World) : Prop :=
  ∃ ao m cap, Sc B b s Z.2 wx ∧ Only b w wx ∧ wx.heap[R]? = some (.cells #[.int .i64 0, .string ⟨#[]⟩, .slice none 0 0, .string ⟨#[]⟩, .int .i64 0] 74) ∧
    wx.heap[P]? = some (.cells #[.int .i64 Z.1.kind, .string (str Z.1.name), .slice ao m cap, .string (str Z.1.text), .int .i64 Z.1.at_] 74 (0, 0)) ∧
    RowsB b wx (.slice ao m cap) Z.1.attrs ∧ ∀ g o n c, Value.slice ao m cap = .slice (some ⟨g, o, none⟩) n c → P + 1 ≤ g
theorem Mid.of {B b : Nat} {s : ByteArray} {w w1 : World} {Z : Pc × St} {R P : Nat} {ao : Option Addr} {m cap : Nat} (h1 : Sc B b s Z.2 w1) (h2 : Only b w w1) (hR : w1.heap[R]? = some (.cells #[.int .i64 0, .string ⟨#[]⟩, .slice none 0 0, .string ⟨#[]⟩, .int .i64 0] 74)) (hP : w1.heap[P]? = some (.cells #[.int .i64 0, .string ⟨#[]⟩, .slice none 0 0, .string ⟨#[]⟩, .int .i64 0] 74))
    (h3 : RowsB b w1 (.slice ao m cap) Z.1.attrs) (h4 : ∀ g o n c, Value.slice ao m cap = .slice (some ⟨g, o, none⟩) n c → P + 1 ≤ g) (hRP : R < P) (hb : b < P) (hw : w.heap.size ≤ P) :
    Mid B b s w Z R P (st5 w1 P (.int .i64 Z.1.kind) (.string (str Z.1.name)) (.slice ao m cap) (.string (str Z.1.text)) (.int .i64 Z.1.at_)) :=
  ⟨ao, m, cap, st5_sc h1 (by omega) (by have := h1.base; omega) _ _ _ _ _, st5_only h2 hw _ _ _ _ _, (st5_other (by omega) _ _ _ _ _).trans hR, st5_heap hP _ _ _ _ _, h3.st5 (fun g o n c hv => by have := h4 g o n c hv; omega) _ _ _ _ _, h4⟩
set_option maxHeartbeats 1500000 in
theorem spiece0 (B b : Nat) (s : ByteArray) (σ : St) (w : World) (hS : Sc B b s σ w) (Z : Pc × St) (hZ : pieceR (bl s) σ = Z) :
    Calls Tryz.prog 61 #[.pointer (some ⟨b, 0, none⟩)] w (Gives B b s w (setAt Z.1 σ.pos) Z.2) := by
  have HS0 := hS.step ((Below.refl _ _).alloc (Nat.le_refl _) (.cells #[.int .i64 0, .string ⟨#[]⟩, .slice none 0 0, .string ⟨#[]⟩, .int .i64 0] 74))
  have hbR : b < w.heap.size := hS.lt
  have hBb := hS.base
  have c1 := HS0.c1
  have HR0 := (Only.alloc b (w.alloc (.cells #[.int .i64 0, .string ⟨#[]⟩, .slice none 0 0, .string ⟨#[]⟩, .int .i64 0] 74)) (.cells #[.int .i64 0, .string ⟨#[]⟩, .slice none 0 0, .string ⟨#[]⟩, .int .i64 0] 74)).heap (heap_alloc_new w (.cells #[.int .i64 0, .string ⟨#[]⟩, .slice none 0 0, .string ⟨#[]⟩, .int .i64 0] 74)) (by omega)
  have HP := heap_alloc_new (w.alloc (.cells #[.int .i64 0, .string ⟨#[]⟩, .slice none 0 0, .string ⟨#[]⟩, .int .i64 0] 74)) (.cells #[.int .i64 0, .string ⟨#[]⟩, .slice none 0 0, .string ⟨#[]⟩, .int .i64 0] 74)
  have HO := Lib.hid ((Only.alloc b w (.cells #[.int .i64 0, .string ⟨#[]⟩, .slice none 0 0, .string ⟨#[]⟩, .int .i64 0] 74)).trans (Only.alloc b _ (.cells #[.int .i64 0, .string ⟨#[]⟩, .slice none 0 0, .string ⟨#[]⟩, .int .i64 0] 74)))
  have HS := Lib.hid (HS0.step ((Below.refl _ _).alloc (Nat.le_refl _) (.cells #[.int .i64 0, .string ⟨#[]⟩, .slice none 0 0, .string ⟨#[]⟩, .int .i64 0] 74)))
  have hsz : (w.alloc (.cells #[.int .i64 0, .string ⟨#[]⟩, .slice none 0 0, .string ⟨#[]⟩, .int .i64 0] 74)).heap.size = w.heap.size + 1 := by simp
  rw [hsz] at HP
  have hsz2 : w.heap.size + 2 ≤ ((w.alloc (.cells #[.int .i64 0, .string ⟨#[]⟩, .slice none 0 0, .string ⟨#[]⟩, .int .i64 0] 74)).alloc (.cells #[.int .i64 0, .string ⟨#[]⟩, .slice none 0 0, .string ⟨#[]⟩, .int .i64 0] 74)).heap.size := by simp
  have HR := Lib.hid HR0
  have HP := Lib.hid HP
  clear hS HS0 HR0 hsz
  unfold pieceR at hZ
  go_enter Tryz.func61, Tryz.ntmps61
  go_upto_block 0 with (fail)
  clear c1
  generalize (w.alloc (.cells #[.int .i64 0, .string ⟨#[]⟩, .slice none 0 0, .string ⟨#[]⟩, .int .i64 0] 74)).alloc (.cells #[.int .i64 0, .string ⟨#[]⟩, .slice none 0 0, .string ⟨#[]⟩, .int .i64 0] 74) = w0 at HS HO HR HP hsz2 ⊢
  obtain ⟨R, hRe⟩ : ∃ R, w.heap.size = R := ⟨_, rfl⟩
  rw [hRe] at HR HP hbR hsz2 ⊢
  have HRe := Lib.hid hRe
  clear hRe
  obtain ⟨P, hPe⟩ : ∃ P, R + 1 = P := ⟨_, rfl⟩
  have hRP : R < P := by omega
  have hsz2 : P + 1 ≤ w0.heap.size := by omega
  rw [hPe] at HP ⊢
  have HPe := Lib.hid hPe
  clear hPe
  have hPw : Hid (w.heap.size ≤ P) := Lib.hid (by have := HRe.out; omega)
  go_cut [] (fun wx => Mid B b s w Z R P wx)
  case first =>
    go_wp2_with fail
    cases s1 : standsS bRaw (bl s) σ with
    | true =>
      rw [if_pos s1] at hZ
      have C := Lib.hid (sskip_l B b s ⟨#[60, 33, 91, 67, 68, 65, 84, 65, 91]⟩ bRaw rfl (by decide) σ w0 HS.out true s1)
      clear s1
      go_wp2_with fail
      refine C.out.mono ?_
      rintro r w1 ⟨rfl, h1, o1⟩
      have HS1 := Lib.hid h1
      have HO1 := Lib.hid (HO.out.trans o1)
      have HR1 := Lib.hid (o1.heap HR.out (by omega))
      have HP1 := Lib.hid (o1.heap HP.out (by omega))
      have HZ2 := Lib.hid (Nat.le_trans hsz2 o1.size)
      clear h1 o1 HS HO HR HP C hsz2
      go_wp2_with fail
      have CC := sraw B b s _ w1 HS1.out
      rw [hZ] at CC
      have CC := Lib.hid CC
      refine CC.out.mono ?_
      rintro r w2 ⟨x, rfl, ⟨v, rfl, hrows, hfresh⟩, h2, o2⟩
      obtain ⟨ao, m, cap, rfl⟩ := rows_form hrows
      have hlo : ∀ g o n c, Value.slice ao m cap = .slice (some ⟨g, o, none⟩) n c → P + 1 ≤ g := fun g o n c hv => Nat.le_trans HZ2.out (hfresh g o n c hv)
      have HLO := Lib.hid hlo
      have HRW := Lib.hid hrows
      have HS9 := Lib.hid h2
      have HO9 := Lib.hid (HO1.out.trans o2)
      have HR9 := Lib.hid (o2.heap HR1.out (by omega))
      have HP9 := Lib.hid (o2.heap HP1.out (by omega))
      clear hlo hrows hfresh h2 o2 HS1 HO1 HR1 HP1 HZ2
      have r0 := Lib.cell_of_heap HR9.out 0
      have r1 := Lib.cell_of_heap HR9.out 1
      have r2 := Lib.cell_of_heap HR9.out 2
      have r3 := Lib.cell_of_heap HR9.out 3
      have r4 := Lib.cell_of_heap HR9.out 4
      have f0 := Lib.frozen_of_heap HR9.out 0
      have f1 := Lib.frozen_of_heap HR9.out 1
      have f2 := Lib.frozen_of_heap HR9.out 2
      have f3 := Lib.frozen_of_heap HR9.out 3
      have f4 := Lib.frozen_of_heap HR9.out 4
      simp only [List.getElem?_toArray, List.getElem?_cons_zero, List.getElem?_cons_succ] at r0 r1 r2 r3 r4
      have p0 := Lib.cell_of_heap HP9.out 0
      have p1 := Lib.cell_of_heap HP9.out 1
      have p2 := Lib.cell_of_heap HP9.out 2
      have p3 := Lib.cell_of_heap HP9.out 3
      have p4 := Lib.cell_of_heap HP9.out 4
      have g0 := Lib.frozen_of_heap HP9.out 0
      have g1 := Lib.frozen_of_heap HP9.out 1
      have g2 := Lib.frozen_of_heap HP9.out 2
      have g3 := Lib.frozen_of_heap HP9.out 3
      have g4 := Lib.frozen_of_heap HP9.out 4
      simp only [List.getElem?_toArray, List.getElem?_cons_zero, List.getElem?_cons_succ] at p0 p1 p2 p3 p4
      go_wp2_with fail
      go_meet
      exact Mid.of HS9.out HO9.out HR9.out HP9.out HRW.out HLO.out hRP (by omega) hPw.out
    | false =>
      rw [if_neg (by rw [s1]; decide)] at hZ
      have C := Lib.hid (sskip_l B b s ⟨#[60, 33, 91, 67, 68, 65, 84, 65, 91]⟩ bRaw rfl (by decide) σ w0 HS.out false s1)
      have hsk : skipS bRaw (bl s) σ = σ := by unfold skipS; rw [if_neg (by rw [s1]; decide)]
      rw [hsk] at C
      clear s1 hsk
      go_wp2_with fail
      refine C.out.mono ?_
      rintro r w1 ⟨rfl, h1, o1⟩
      have HS := Lib.hid h1
      have HO := Lib.hid (HO.out.trans o1)
      have HR := Lib.hid (o1.heap HR.out (by omega))
      have HP := Lib.hid (o1.heap HP.out (by omega))
      have hsz2 := Nat.le_trans hsz2 o1.size
      clear h1 o1 C
      cases s2 : standsS [60, 47] (bl s) σ with
      | true =>
        rw [if_pos s2] at hZ
        have C := Lib.hid (sskip_l B b s ⟨#[60, 47]⟩ [60, 47] rfl (by decide) σ w1 HS.out true s2)
        clear s2
        go_wp2_with fail
        refine C.out.mono ?_
        rintro r w2 ⟨rfl, h2, o2⟩
        have HS1 := Lib.hid h2
        have HO1 := Lib.hid (HO.out.trans o2)
        have HR1 := Lib.hid (o2.heap HR.out (by omega))
        have HP1 := Lib.hid (o2.heap HP.out (by omega))
        have HZ2 := Lib.hid (Nat.le_trans hsz2 o2.size)
        clear h2 o2 HS HO HR HP C hsz2
        go_wp2_with fail
        have CC := sclosing B b s _ w2 HS1.out
        rw [hZ] at CC
        have CC := Lib.hid CC
        refine CC.out.mono ?_
        rintro r w3 ⟨x, rfl, ⟨v, rfl, hrows, hfresh⟩, h3, o3⟩
        obtain ⟨ao, m, cap, rfl⟩ := rows_form hrows
        have hlo : ∀ g o n c, Value.slice ao m cap = .slice (some ⟨g, o, none⟩) n c → P + 1 ≤ g := fun g o n c hv => Nat.le_trans HZ2.out (hfresh g o n c hv)
        have HLO := Lib.hid hlo
        have HRW := Lib.hid hrows
        have HS9 := Lib.hid h3
        have HO9 := Lib.hid (HO1.out.trans o3)
        have HR9 := Lib.hid (o3.heap HR1.out (by omega))
        have HP9 := Lib.hid (o3.heap HP1.out (by omega))
        clear hlo hrows hfresh h3 o3 HS1 HO1 HR1 HP1 HZ2
        have r0 := Lib.cell_of_heap HR9.out 0
        have r1 := Lib.cell_of_heap HR9.out 1
        have r2 := Lib.cell_of_heap HR9.out 2
        have r3 := Lib.cell_of_heap HR9.out 3
        have r4 := Lib.cell_of_heap HR9.out 4
        have f0 := Lib.frozen_of_heap HR9.out 0
        have f1 := Lib.frozen_of_heap HR9.out 1
        have f2 := Lib.frozen_of_heap HR9.out 2
        have f3 := Lib.frozen_of_heap HR9.out 3
        have f4 := Lib.frozen_of_heap HR9.out 4
        simp only [List.getElem?_toArray, List.getElem?_cons_zero, List.getElem?_cons_succ] at r0 r1 r2 r3 r4
        have p0 := Lib.cell_of_heap HP9.out 0
        have p1 := Lib.cell_of_heap HP9.out 1
        have p2 := Lib.cell_of_heap HP9.out 2
        have p3 := Lib.cell_of_heap HP9.out 3
        have p4 := Lib.cell_of_heap HP9.out 4
        have g0 := Lib.frozen_of_heap HP9.out 0
        have g1 := Lib.frozen_of_heap HP9.out 1
        have g2 := Lib.frozen_of_heap HP9.out 2
        have g3 := Lib.frozen_of_heap HP9.out 3
        have g4 := Lib.frozen_of_heap HP9.out 4
        simp only [List.getElem?_toArray, List.getElem?_cons_zero, List.getElem?_cons_succ] at p0 p1 p2 p3 p4
        go_wp2_with fail
        go_meet
        exact Mid.of HS9.out HO9.out HR9.out HP9.out HRW.out HLO.out hRP (by omega) hPw.out
      | false =>
        rw [if_neg (by rw [s2]; decide)] at hZ
        have C := Lib.hid (sskip_l B b s ⟨#[60, 47]⟩ [60, 47] rfl (by decide) σ w1 HS.out false s2)
        have hsk : skipS [60, 47] (bl s) σ = σ := by unfold skipS; rw [if_neg (by rw [s2]; decide)]
        rw [hsk] at C
        clear s2 hsk
        go_wp2_with fail
        refine C.out.mono ?_
        rintro r w2 ⟨rfl, h2, o2⟩
        have HS := Lib.hid h2
        have HO := Lib.hid (HO.out.trans o2)
        have HR := Lib.hid (o2.heap HR.out (by omega))
        have HP := Lib.hid (o2.heap HP.out (by omega))
        have hsz2 := Nat.le_trans hsz2 o2.size
        clear h2 o2 C
        cases s3 : standsS [60] (bl s) σ with
        | true =>
          rw [if_pos s3] at hZ
          have C := Lib.hid (sskip_l B b s ⟨#[60]⟩ [60] rfl (by decide) σ w2 HS.out true s3)
          clear s3
          go_wp2_with fail
          refine C.out.mono ?_
          rintro r w3 ⟨rfl, h3, o3⟩
          have HS1 := Lib.hid h3
          have HO1 := Lib.hid (HO.out.trans o3)
          have HR1 := Lib.hid (o3.heap HR.out (by omega))
          have HP1 := Lib.hid (o3.heap HP.out (by omega))
          have HZ2 := Lib.hid (Nat.le_trans hsz2 o3.size)
          clear h3 o3 HS HO HR HP C hsz2
          go_wp2_with fail
          have CC := sopening B b s _ w3 HS1.out
          rw [hZ] at CC
          have CC := Lib.hid CC
          refine CC.out.mono ?_
          rintro r w4 ⟨x, rfl, ⟨v, rfl, hrows, hfresh⟩, h4, o4⟩
          obtain ⟨ao, m, cap, rfl⟩ := rows_form hrows
          have hlo : ∀ g o n c, Value.slice ao m cap = .slice (some ⟨g, o, none⟩) n c → P + 1 ≤ g := fun g o n c hv => Nat.le_trans HZ2.out (hfresh g o n c hv)
          have HLO := Lib.hid hlo
          have HRW := Lib.hid hrows
          have HS9 := Lib.hid h4
          have HO9 := Lib.hid (HO1.out.trans o4)
          have HR9 := Lib.hid (o4.heap HR1.out (by omega))
          have HP9 := Lib.hid (o4.heap HP1.out (by omega))
          clear hlo hrows hfresh h4 o4 HS1 HO1 HR1 HP1 HZ2
          have r0 := Lib.cell_of_heap HR9.out 0
          have r1 := Lib.cell_of_heap HR9.out 1
          have r2 := Lib.cell_of_heap HR9.out 2
          have r3 := Lib.cell_of_heap HR9.out 3
          have r4 := Lib.cell_of_heap HR9.out 4
          have f0 := Lib.frozen_of_heap HR9.out 0
          have f1 := Lib.frozen_of_heap HR9.out 1
          have f2 := Lib.frozen_of_heap HR9.out 2
          have f3 := Lib.frozen_of_heap HR9.out 3
          have f4 := Lib.frozen_of_heap HR9.out 4
          simp only [List.getElem?_toArray, List.getElem?_cons_zero, List.getElem?_cons_succ] at r0 r1 r2 r3 r4
          have p0 := Lib.cell_of_heap HP9.out 0
          have p1 := Lib.cell_of_heap HP9.out 1
          have p2 := Lib.cell_of_heap HP9.out 2
          have p3 := Lib.cell_of_heap HP9.out 3
          have p4 := Lib.cell_of_heap HP9.out 4
          have g0 := Lib.frozen_of_heap HP9.out 0
          have g1 := Lib.frozen_of_heap HP9.out 1
          have g2 := Lib.frozen_of_heap HP9.out 2
          have g3 := Lib.frozen_of_heap HP9.out 3
          have g4 := Lib.frozen_of_heap HP9.out 4
          simp only [List.getElem?_toArray, List.getElem?_cons_zero, List.getElem?_cons_succ] at p0 p1 p2 p3 p4
          go_wp2_with fail
          go_meet
          exact Mid.of HS9.out HO9.out HR9.out HP9.out HRW.out HLO.out hRP (by omega) hPw.out
        | false =>
          rw [if_neg (by rw [s3]; decide)] at hZ
          have C := Lib.hid (sskip_l B b s ⟨#[60]⟩ [60] rfl (by decide) σ w2 HS.out false s3)
          have hsk : skipS [60] (bl s) σ = σ := by unfold skipS; rw [if_neg (by rw [s3]; decide)]
          rw [hsk] at C
          clear s3 hsk
          go_wp2_with fail
          refine C.out.mono ?_
          rintro r w3 ⟨rfl, h3, o3⟩
          have HS := Lib.hid h3
          have HO := Lib.hid (HO.out.trans o3)
          have HR := Lib.hid (o3.heap HR.out (by omega))
          have HP := Lib.hid (o3.heap HP.out (by omega))
          have hsz2 := Nat.le_trans hsz2 o3.size
          clear h3 o3 C
          have HS1 := HS
          have HO1 := HO
          have HR1 := HR
          have HP1 := HP
          have HZ2 := Lib.hid hsz2
          clear HS HO HR HP hsz2
          go_wp2_with fail
          have CC := stext B b s σ w3 HS1.out
          rw [hZ] at CC
          have CC := Lib.hid CC
          refine CC.out.mono ?_
          rintro r w4 ⟨x, rfl, ⟨v, rfl, hrows, hfresh⟩, h4, o4⟩
          obtain ⟨ao, m, cap, rfl⟩ := rows_form hrows
          have hlo : ∀ g o n c, Value.slice ao m cap = .slice (some ⟨g, o, none⟩) n c → P + 1 ≤ g := fun g o n c hv => Nat.le_trans HZ2.out (hfresh g o n c hv)
          have HLO := Lib.hid hlo
          have HRW := Lib.hid hrows
          have HS9 := Lib.hid h4
          have HO9 := Lib.hid (HO1.out.trans o4)
          have HR9 := Lib.hid (o4.heap HR1.out (by omega))
          have HP9 := Lib.hid (o4.heap HP1.out (by omega))
          clear hlo hrows hfresh h4 o4 HS1 HO1 HR1 HP1 HZ2
          have r0 := Lib.cell_of_heap HR9.out 0
          have r1 := Lib.cell_of_heap HR9.out 1
          have r2 := Lib.cell_of_heap HR9.out 2
          have r3 := Lib.cell_of_heap HR9.out 3
          have r4 := Lib.cell_of_heap HR9.out 4
          have f0 := Lib.frozen_of_heap HR9.out 0
          have f1 := Lib.frozen_of_heap HR9.out 1
          have f2 := Lib.frozen_of_heap HR9.out 2
          have f3 := Lib.frozen_of_heap HR9.out 3
          have f4 := Lib.frozen_of_heap HR9.out 4
          simp only [List.getElem?_toArray, List.getElem?_cons_zero, List.getElem?_cons_succ] at r0 r1 r2 r3 r4
          have p0 := Lib.cell_of_heap HP9.out 0
          have p1 := Lib.cell_of_heap HP9.out 1
          have p2 := Lib.cell_of_heap HP9.out 2
          have p3 := Lib.cell_of_heap HP9.out 3
          have p4 := Lib.cell_of_heap HP9.out 4
          have g0 := Lib.frozen_of_heap HP9.out 0
          have g1 := Lib.frozen_of_heap HP9.out 1
          have g2 := Lib.frozen_of_heap HP9.out 2
          have g3 := Lib.frozen_of_heap HP9.out 3
          have g4 := Lib.frozen_of_heap HP9.out 4
          simp only [List.getElem?_toArray, List.getElem?_cons_zero, List.getElem?_cons_succ] at p0 p1 p2 p3 p4
          go_wp2_with fail
          go_meet
          exact Mid.of HS9.out HO9.out HR9.out HP9.out HRW.out HLO.out hRP (by omega) hPw.out
  case rest =>
    obtain ⟨ao, m, cap, h1, h2, h3, h4, h5, h6⟩ := hcut
    clear HS HO HR HP
    have HS := Lib.hid h1
    have HO := Lib.hid h2
    have HR := Lib.hid h3
    have HP := Lib.hid h4
    have HW := Lib.hid h5
    have HL := Lib.hid h6
    clear h1 h2 h3 h4 h5 h6
    have r0 := Lib.cell_of_heap HR.out 0
    have r1 := Lib.cell_of_heap HR.out 1
    have r2 := Lib.cell_of_heap HR.out 2
    have r3 := Lib.cell_of_heap HR.out 3
    have r4 := Lib.cell_of_heap HR.out 4
    have f0 := Lib.frozen_of_heap HR.out 0
    have f1 := Lib.frozen_of_heap HR.out 1
    have f2 := Lib.frozen_of_heap HR.out 2
    have f3 := Lib.frozen_of_heap HR.out 3
    have f4 := Lib.frozen_of_heap HR.out 4
    simp only [List.getElem?_toArray, List.getElem?_cons_zero, List.getElem?_cons_succ] at r0 r1 r2 r3 r4
    have p0 := Lib.cell_of_heap HP.out 0
    have p1 := Lib.cell_of_heap HP.out 1
    have p2 := Lib.cell_of_heap HP.out 2
    have p3 := Lib.cell_of_heap HP.out 3
    have p4 := Lib.cell_of_heap HP.out 4
    have g0 := Lib.frozen_of_heap HP.out 0
    have g1 := Lib.frozen_of_heap HP.out 1
    have g2 := Lib.frozen_of_heap HP.out 2
    have g3 := Lib.frozen_of_heap HP.out 3
    have g4 := Lib.frozen_of_heap HP.out 4
    simp only [List.getElem?_toArray, List.getElem?_cons_zero, List.getElem?_cons_succ] at p0 p1 p2 p3 p4
    go_wp2
    refine bodyPost_ret (res_piece _ rfl _ R rfl _ _ _ _ _ _ 74 (0, 0) (st5_heap ((Below.heap_setCell _ ⟨P, 4, none⟩ _ R (by show R ≠ P; omega)).trans HR.out) _ _ _ _ _)) rfl ⟨_, rfl, ⟨_, rfl, ?_, ?_⟩, ?_, ?_⟩
    · exact (HW.out.set (p := ⟨P, 4, none⟩) (fun g o n c hv => by show g ≠ P; have := HL.out g o n c hv; omega) _).st5 (fun g o n c hv => by have := HL.out g o n c hv; omega) _ _ _ _ _
    · intro g o n c hv
      have := HL.out g o n c hv
      have := hPw.out
      omega
    · exact st5_sc (HS.out.setOther (p := ⟨P, 4, none⟩) (by show P ≠ b; omega) (by show B ≤ P; omega) _) (by omega) (by omega) _ _ _ _ _
    · exact st5_only (HO.out.setNew (p := ⟨P, 4, none⟩) hPw.out _) (by have := HRe.out; omega) _ _ _ _ _
/-- **(*Scanner).piece.** -/
theorem spiece (B b : Nat) (s : ByteArray) (σ : St) (w : World) (hS : Sc B b s σ w) :
    Calls Tryz.prog 61 #[.pointer (some ⟨b, 0, none⟩)] w (Gives B b s w (pieceS (bl s) σ).1 (pieceS (bl s) σ).2) := by
  unfold pieceS
  exact spiece0 B b s σ w hS _ rfl

end Go.Proofs.YtekmenkebokdoaaGreatDoor
