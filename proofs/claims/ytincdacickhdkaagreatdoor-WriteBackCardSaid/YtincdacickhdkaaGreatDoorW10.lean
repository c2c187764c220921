/-
  The walks of (*Scanner).raw, text, closing, piece.
  The walks of (*Scanner).piece, pass, passAll, Next, and of New.
  The walks of (*Scanner).pass and passAll.
-/
import Derived.Test.YtincdacickhdkaaGreatDoorW9
import Derived.Deep.CutBlock
import Derived.Deep.DeepCutAuto
namespace Go.Proofs.YtincdacickhdkaaGreatDoor
open Go.RowKit
set_option maxRecDepth 100000

set_option maxHeartbeats 4000000 in
theorem sraw0 (B b : Nat) (s : ByteArray) (σ σ1 σ2 : St) (w : World) (hS : Sc B b s σ w) (X : List UInt8) (Y : ByteArray) (A : Bool) (hY : Y.size ≤ s.size)
    (C1 : Hid (∀ w, Glob B w → Calls Tryz.prog 119 #[.string (s.extract σ.pos s.size), .string ⟨#[93, 93, 62]⟩] w fun e w' => e = .returned (.tuple #[.string (str X), .string Y, .bool A]) ∧ ∃ n, w' = w.drewN n))
    (h1 : Hid (σ1 = if A = true then σ else wrongS 3 σ.pos σ))
    (C3 : Hid (∀ w, Sc B b s σ1 w → Calls Tryz.prog 128 #[.pointer (some ⟨b, 0, none⟩), .string (str X), .int .i64 σ.pos] w fun r w' => r = .returned (.tuple #[]) ∧ Sc B b s σ2 w' ∧ Only b w w')) :
    Calls Tryz.prog 114 #[.pointer (some ⟨b, 0, none⟩)] w (Gives B b s w ⟨4, [], [], X, 0⟩ (go_ σ2 (s.size - Y.size))) := by
  have HS := Lib.hid (hS.step ((Below.refl _ _).alloc (Nat.le_refl _) (.cells #[.int .i64 0, .string ⟨#[]⟩, .slice none 0 0, .string ⟨#[]⟩, .int .i64 0] 81)))
  have HO := Lib.hid (Only.alloc b w (.cells #[.int .i64 0, .string ⟨#[]⟩, .slice none 0 0, .string ⟨#[]⟩, .int .i64 0] 81))
  have HR := Lib.hid (heap_alloc_new w (.cells #[.int .i64 0, .string ⟨#[]⟩, .slice none 0 0, .string ⟨#[]⟩, .int .i64 0] 81))
  have hbR : b < w.heap.size := hS.lt
  have hBb := hS.base
  have hps := hS.pos
  have hps' : (σ.pos : Int) ≤ (s.size : Int) := by omega
  have hY' : (Y.size : Int) ≤ (s.size : Int) := by omega
  have hln := hS.len
  have c0 := HS.out.c0
  have c1 := HS.out.c1
  clear hS
  go_enter Tryz.func114, Tryz.ntmps114
  go_wp2_with fail
  clear c0 c1
  obtain ⟨R, hRe⟩ : ∃ R, w.heap.size = R := ⟨_, rfl⟩
  rw [hRe] at HR hbR ⊢
  have HRe := Lib.hid hRe
  clear hRe
  generalize w.alloc (.cells #[.int .i64 0, .string ⟨#[]⟩, .slice none 0 0, .string ⟨#[]⟩, .int .i64 0] 81) = w0 at HS HO HR ⊢
  refine (C1.out w0 HS.out.glob).mono ?_
  rintro r w1 ⟨rfl, n, rfl⟩
  have HS1 := Lib.hid (HS.out.step (below_drewN w0 n))
  have HO1 := Lib.hid (HO.out.trans (Only.drewN b w0 n))
  have HR1 := Lib.hid ((Only.drewN b w0 n).heap HR.out (by omega))
  clear HS HO HR C1
  generalize w0.drewN n = w1 at HS1 HO1 HR1 ⊢
  have key : ∀ w2, Sc B b s σ1 w2 → Only b w1 w2 → Hid (Sc B b s σ1 w2 ∧ Only b w w2 ∧ w2.heap[R]? = some (.cells #[.int .i64 0, .string ⟨#[]⟩, .slice none 0 0, .string ⟨#[]⟩, .int .i64 0] 81)) := fun w2 h2 o2 => Lib.hid ⟨h2, HO1.out.trans o2, o2.heap HR1.out (by omega)⟩
  cases A with
  | true =>
    have hk := key w1 (by rw [h1.out]; exact HS1.out) (Only.refl _ _)
    clear key HS1 HO1 HR1
    have C := Lib.hid (C3.out w1 hk.out.1)
    go_wp2_with fail
    refine C.out.mono ?_
    rintro r w3 ⟨rfl, h3, o3⟩
    have d0 := h3.c0
    have d1 := h3.c1
    have g1 := h3.fz 1
    have HR3 := o3.heap hk.out.2.2 (by omega)
    have HO3 := Lib.hid (hk.out.2.1.trans o3)
    have r0 := Lib.cell_of_heap HR3 0
    have r1 := Lib.cell_of_heap HR3 1
    have r2 := Lib.cell_of_heap HR3 2
    have r3 := Lib.cell_of_heap HR3 3
    have r4 := Lib.cell_of_heap HR3 4
    have f0 := Lib.frozen_of_heap HR3 0
    have f1 := Lib.frozen_of_heap HR3 1
    have f2 := Lib.frozen_of_heap HR3 2
    have f3 := Lib.frozen_of_heap HR3 3
    have f4 := Lib.frozen_of_heap HR3 4
    simp only [List.getElem?_toArray, List.getElem?_cons_zero, List.getElem?_cons_succ] at r0 r1 r2 r3 r4
    have HR3 := Lib.hid HR3
    have HS3 := Lib.hid h3
    have hsub : (s.size : Int) - (Y.size : Int) = ((s.size - Y.size : Nat) : Int) := by omega
    have hsub2 : (0 : Int) ≤ (s.size : Int) - (Y.size : Int) := by omega
    clear h3 o3 hk C
    go_wp2
    refine bodyPost_ret (res_piece _ rfl _ R rfl _ _ _ _ _ _ 81 (0, 0) (st5_heap ((Below.heap_setCell _ _ _ _ (by show R ≠ b; omega)).trans HR3.out) _ _ _ _ _)) rfl ⟨_, rfl, ⟨_, rfl, rowsB_nil b _, fresh_nil _⟩, ?_, ?_⟩
    · exact st5_sc (HS3.out.go (s.size - Y.size) (by omega)) (by omega) (by omega) _ _ _ _ _
    · exact st5_only (HO3.out.trans (Only.set b 1 _ _)) (by have := HRe.out; omega) _ _ _ _ _
  | false =>
    have CW := Lib.hid (swrong B b s σ w1 HS1.out 3 σ.pos (by decide))
    go_wp2_with fail
    refine CW.out.mono ?_
    rintro r w2 ⟨rfl, h2, o2⟩
    have hk := key w2 (by rw [h1.out]; exact h2) o2
    clear key HS1 HO1 HR1 h2 o2
    have C := Lib.hid (C3.out w2 hk.out.1)
    go_wp2_with fail
    refine C.out.mono ?_
    rintro r w3 ⟨rfl, h3, o3⟩
    have d0 := h3.c0
    have d1 := h3.c1
    have g1 := h3.fz 1
    have HR3 := o3.heap hk.out.2.2 (by omega)
    have HO3 := Lib.hid (hk.out.2.1.trans o3)
    have r0 := Lib.cell_of_heap HR3 0
    have r1 := Lib.cell_of_heap HR3 1
    have r2 := Lib.cell_of_heap HR3 2
    have r3 := Lib.cell_of_heap HR3 3
    have r4 := Lib.cell_of_heap HR3 4
    have f0 := Lib.frozen_of_heap HR3 0
    have f1 := Lib.frozen_of_heap HR3 1
    have f2 := Lib.frozen_of_heap HR3 2
    have f3 := Lib.frozen_of_heap HR3 3
    have f4 := Lib.frozen_of_heap HR3 4
    simp only [List.getElem?_toArray, List.getElem?_cons_zero, List.getElem?_cons_succ] at r0 r1 r2 r3 r4
    have HR3 := Lib.hid HR3
    have HS3 := Lib.hid h3
    have hsub : (s.size : Int) - (Y.size : Int) = ((s.size - Y.size : Nat) : Int) := by omega
    have hsub2 : (0 : Int) ≤ (s.size : Int) - (Y.size : Int) := by omega
    clear h3 o3 hk C
    go_wp2
    refine bodyPost_ret (res_piece _ rfl _ R rfl _ _ _ _ _ _ 81 (0, 0) (st5_heap ((Below.heap_setCell _ _ _ _ (by show R ≠ b; omega)).trans HR3.out) _ _ _ _ _)) rfl ⟨_, rfl, ⟨_, rfl, rowsB_nil b _, fresh_nil _⟩, ?_, ?_⟩
    · exact st5_sc (HS3.out.go (s.size - Y.size) (by omega)) (by omega) (by omega) _ _ _ _ _
    · exact st5_only (HO3.out.trans (Only.set b 1 _ _)) (by have := HRe.out; omega) _ _ _ _ _
/-- **(*Scanner).raw.** -/
theorem sraw (B b : Nat) (s : ByteArray) (σ : St) (w : World) (hS : Sc B b s σ w) :
    Calls Tryz.prog 114 #[.pointer (some ⟨b, 0, none⟩)] w (Gives B b s w (rawS (bl s) σ).1 (rawS (bl s) σ).2) := by
  have hl := hS.len
  have hps := hS.pos
  have hc : ∀ w, Glob B w → Calls Tryz.prog 119 #[.string (s.extract σ.pos s.size), .string ⟨#[93, 93, 62]⟩] w fun e w' => e = .returned (.tuple #[.string (str (rawC (bl s) σ).1), .string (str (rawC (bl s) σ).2.1), .bool (rawC (bl s) σ).2.2]) ∧ ∃ n, w' = w.drewN n := by
    intro w hg
    obtain ⟨m, hm⟩ := hg.ent.maxl
    have c := Tryz.strings_Cut (s.extract σ.pos s.size) ⟨#[93, 93, 62]⟩ m w (by have := size_from s σ.pos; omega) hm
    have e : (s.extract σ.pos s.size).data.toList = (bl s).drop σ.pos := bl_from s σ.pos
    rw [e] at c
    exact c
  have hlen := cut_len ((bl s).drop σ.pos) [93, 93, 62]
  rw [List.length_drop, bl_size] at hlen
  have hX : (rawC (bl s) σ).1.length ≤ s.size - σ.pos := hlen.1
  have hY : (rawC (bl s) σ).2.1.length ≤ s.size - σ.pos := hlen.2
  unfold rawS
  rw [bl_size]
  obtain ⟨C, hC⟩ : ∃ C, rawC (bl s) σ = C := ⟨_, rfl⟩
  rw [hC] at hc hX hY ⊢
  obtain ⟨σ1, h1⟩ : ∃ σ1, (if C.2.2 = true then σ else wrongS 3 σ.pos σ) = σ1 := ⟨_, rfl⟩
  rw [h1]
  have c3 := fun w (h : Sc B b s σ1 w) => sletters B b s (str C.1) σ1 w σ.pos (by rw [str_size]; omega) h
  rw [str_bl] at c3
  have hs : C.2.1.length = (str C.2.1).size := (str_size _).symm
  rw [hs] at hY ⊢
  exact sraw0 B b s σ σ1 _ w hS C.1 (str C.2.1) C.2.2 (by omega) (Lib.hid hc) (Lib.hid h1.symm) (Lib.hid c3)

set_option maxHeartbeats 4000000 in
theorem stext0 (B b : Nat) (s : ByteArray) (σ σ1 σ2 : St) (w : World) (hS : Sc B b s σ w) (T : ByteArray) (X : List UInt8)
    (C1 : Hid (∀ w, Sc B b s σ w → Calls Tryz.prog 130 #[.pointer (some ⟨b, 0, none⟩), .func (.func 134) #[] #[]] w fun r w' => r = .returned (.string T) ∧ Sc B b s σ1 w' ∧ Only b w w'))
    (C2 : Hid (∀ w, Sc B b s σ1 w → Calls Tryz.prog 135 #[.pointer (some ⟨b, 0, none⟩), .string T, .int .i64 σ.pos] w fun r w' => r = .returned (.string (str X)) ∧ Sc B b s σ2 w' ∧ Only b w w')) :
    Calls Tryz.prog 117 #[.pointer (some ⟨b, 0, none⟩)] w (Gives B b s w ⟨4, [], [], X, 0⟩ σ2) := by
  have HS := Lib.hid (hS.step ((Below.refl _ _).alloc (Nat.le_refl _) (.cells #[.int .i64 0, .string ⟨#[]⟩, .slice none 0 0, .string ⟨#[]⟩, .int .i64 0] 81)))
  have HO := Lib.hid (Only.alloc b w (.cells #[.int .i64 0, .string ⟨#[]⟩, .slice none 0 0, .string ⟨#[]⟩, .int .i64 0] 81))
  have HR := Lib.hid (heap_alloc_new w (.cells #[.int .i64 0, .string ⟨#[]⟩, .slice none 0 0, .string ⟨#[]⟩, .int .i64 0] 81))
  have hbR : b < w.heap.size := hS.lt
  have hBb := hS.base
  have c1 := HS.out.c1
  clear hS
  go_enter Tryz.func117, Tryz.ntmps117
  go_wp2_with fail
  clear c1
  obtain ⟨R, hRe⟩ : ∃ R, w.heap.size = R := ⟨_, rfl⟩
  rw [hRe] at HR hbR ⊢
  have HRe := Lib.hid hRe
  clear hRe
  generalize w.alloc (.cells #[.int .i64 0, .string ⟨#[]⟩, .slice none 0 0, .string ⟨#[]⟩, .int .i64 0] 81) = w0 at HS HO HR ⊢
  refine (C1.out w0 HS.out).mono ?_
  rintro r w1 ⟨rfl, h1, o1⟩
  have HS1 := Lib.hid h1
  have HO1 := Lib.hid (HO.out.trans o1)
  have HR1 := Lib.hid (o1.heap HR.out (by omega))
  clear h1 o1 HS HO HR C1
  go_wp2_with fail
  refine (C2.out w1 HS1.out).mono ?_
  rintro r w2 ⟨rfl, h2, o2⟩
  have HS2 := Lib.hid h2
  have HO2 := Lib.hid (HO1.out.trans o2)
  have HR2 := Lib.hid (o2.heap HR1.out (by omega))
  clear h2 o2 HS1 HO1 HR1 C2
  have r0 := Lib.cell_of_heap HR2.out 0
  have r1 := Lib.cell_of_heap HR2.out 1
  have r2 := Lib.cell_of_heap HR2.out 2
  have r3 := Lib.cell_of_heap HR2.out 3
  have r4 := Lib.cell_of_heap HR2.out 4
  have f0 := Lib.frozen_of_heap HR2.out 0
  have f1 := Lib.frozen_of_heap HR2.out 1
  have f2 := Lib.frozen_of_heap HR2.out 2
  have f3 := Lib.frozen_of_heap HR2.out 3
  have f4 := Lib.frozen_of_heap HR2.out 4
  simp only [List.getElem?_toArray, List.getElem?_cons_zero, List.getElem?_cons_succ] at r0 r1 r2 r3 r4
  go_wp2
  refine bodyPost_ret (res_piece _ rfl _ R rfl _ _ _ _ _ _ 81 (0, 0) (st5_heap HR2.out _ _ _ _ _)) rfl ⟨_, rfl, ⟨_, rfl, rowsB_nil b _, fresh_nil _⟩, ?_, ?_⟩
  · exact st5_sc HS2.out (by omega) (by omega) _ _ _ _ _
  · exact st5_only HO2.out (by have := HRe.out; omega) _ _ _ _ _
/-- **(*Scanner).text.** -/
theorem stext (B b : Nat) (s : ByteArray) (σ : St) (w : World) (hS : Sc B b s σ w) :
    Calls Tryz.prog 117 #[.pointer (some ⟨b, 0, none⟩)] w (Gives B b s w (textS (bl s) σ).1 (textS (bl s) σ).2) := by
  have hl := hS.len
  have hps := hS.pos
  have hr := run_len tb (bl s) σ
  rw [bl_size] at hr
  have c1 := fun w (h : Sc B b s σ w) => swhile B b s σ w h _ _ tb enters_text (fun w' _ => tells_text w')
  have c2 := fun w (h : Sc B b s (whileS tb (bl s) σ) w) => sopened B b s (str (runW tb (bl s) σ)) _ w σ.pos (by rw [str_size]; omega) (by rw [str_size]; omega) h
  rw [str_bl] at c2
  unfold textS
  generalize whileS tb (bl s) σ = σ1 at c1 c2 ⊢
  exact stext0 B b s σ σ1 _ w hS _ _ (Lib.hid c1) (Lib.hid c2)

set_option maxHeartbeats 4000000 in
theorem sclosing0 (B b : Nat) (s : ByteArray) (σ σ1 σ2 σ3 : St) (w : World) (hS : Sc B b s σ w) (n : List UInt8)
    (C1 : Hid (∀ w, Sc B b s σ w → Calls Tryz.prog 129 #[.pointer (some ⟨b, 0, none⟩)] w fun r w' => r = .returned (.string (str n)) ∧ Sc B b s σ1 w' ∧ Only b w w'))
    (C2 : Hid (∀ w, Sc B b s σ1 w → Calls Tryz.prog 130 #[.pointer (some ⟨b, 0, none⟩), .func (.func 131) #[] #[]] w fun r w' => (∃ T, r = .returned (.string T)) ∧ Sc B b s σ2 w' ∧ Only b w w'))
    (C3 : Hid (∀ w, Sc B b s σ2 w → Calls Tryz.prog 132 #[.pointer (some ⟨b, 0, none⟩), .string ⟨#[62]⟩] w fun r w' => r = .returned (.tuple #[]) ∧ Sc B b s σ3 w' ∧ Only b w w')) :
    Calls Tryz.prog 115 #[.pointer (some ⟨b, 0, none⟩)] w (Gives B b s w ⟨2, n, [], [], 0⟩ σ3) := by
  have HS := Lib.hid (hS.step ((Below.refl _ _).alloc (Nat.le_refl _) (.cells #[.int .i64 0, .string ⟨#[]⟩, .slice none 0 0, .string ⟨#[]⟩, .int .i64 0] 81)))
  have HO := Lib.hid (Only.alloc b w (.cells #[.int .i64 0, .string ⟨#[]⟩, .slice none 0 0, .string ⟨#[]⟩, .int .i64 0] 81))
  have HR := Lib.hid (heap_alloc_new w (.cells #[.int .i64 0, .string ⟨#[]⟩, .slice none 0 0, .string ⟨#[]⟩, .int .i64 0] 81))
  have hbR : b < w.heap.size := hS.lt
  have hBb := hS.base
  clear hS
  go_enter Tryz.func115, Tryz.ntmps115
  go_wp2_with fail
  obtain ⟨R, hRe⟩ : ∃ R, w.heap.size = R := ⟨_, rfl⟩
  rw [hRe] at HR hbR ⊢
  have HRe := Lib.hid hRe
  clear hRe
  generalize w.alloc (.cells #[.int .i64 0, .string ⟨#[]⟩, .slice none 0 0, .string ⟨#[]⟩, .int .i64 0] 81) = w0 at HS HO HR ⊢
  refine (C1.out w0 HS.out).mono ?_
  rintro r w1 ⟨rfl, h1, o1⟩
  have HS1 := Lib.hid (h1.step ((Below.refl _ _).alloc (Nat.le_refl _) (.cells #[.int .i64 2, .string (str n), .slice none 0 0, .string ⟨#[]⟩, .int .i64 0] 81)))
  have HO1 := Lib.hid ((HO.out.trans o1).trans (Only.alloc b w1 (.cells #[.int .i64 2, .string (str n), .slice none 0 0, .string ⟨#[]⟩, .int .i64 0] 81)))
  have HP := Lib.hid (heap_alloc_new w1 (.cells #[.int .i64 2, .string (str n), .slice none 0 0, .string ⟨#[]⟩, .int .i64 0] 81))
  have hRP : R < w1.heap.size := (Array.getElem?_eq_some_iff.1 (o1.heap HR.out (by omega))).1
  have HR1 := Lib.hid ((Only.alloc b w1 (.cells #[.int .i64 2, .string (str n), .slice none 0 0, .string ⟨#[]⟩, .int .i64 0] 81)).heap (o1.heap HR.out (by omega)) (by omega))
  clear h1 o1 HS HO HR C1
  go_wp2_with fail
  obtain ⟨P, hPe⟩ : ∃ P, w1.heap.size = P := ⟨_, rfl⟩
  rw [hPe] at HP hRP ⊢
  clear hPe
  generalize w1.alloc (.cells #[.int .i64 2, .string (str n), .slice none 0 0, .string ⟨#[]⟩, .int .i64 0] 81) = w2 at HS1 HO1 HP HR1 ⊢
  refine (C2.out w2 HS1.out).mono ?_
  rintro r w3 ⟨⟨T3, rfl⟩, h3, o3⟩
  have HS3 := Lib.hid h3
  have HO3 := Lib.hid o3
  clear h3 o3 C2 HS1
  go_wp2_with fail
  refine (C3.out w3 HS3.out).mono ?_
  rintro r w4 ⟨rfl, h4, o4⟩
  have HS4 := Lib.hid h4
  have HO4 := Lib.hid (HO3.out.trans o4)
  clear h4 o4 C3 HS3 HO3
  have HR2 := Lib.hid (HO4.out.heap HR1.out (by omega))
  have HP2 := Lib.hid (HO4.out.heap HP.out (by omega))
  have HO2 := Lib.hid (HO1.out.trans HO4.out)
  clear HR1 HP HO4 HO1
  have r0 := Lib.cell_of_heap HR2.out 0
  have r1 := Lib.cell_of_heap HR2.out 1
  have r2 := Lib.cell_of_heap HR2.out 2
  have r3 := Lib.cell_of_heap HR2.out 3
  have r4 := Lib.cell_of_heap HR2.out 4
  have f0 := Lib.frozen_of_heap HR2.out 0
  have f1 := Lib.frozen_of_heap HR2.out 1
  have f2 := Lib.frozen_of_heap HR2.out 2
  have f3 := Lib.frozen_of_heap HR2.out 3
  have f4 := Lib.frozen_of_heap HR2.out 4
  simp only [List.getElem?_toArray, List.getElem?_cons_zero, List.getElem?_cons_succ] at r0 r1 r2 r3 r4
  have p0 := Lib.cell_of_heap HP2.out 0
  have p1 := Lib.cell_of_heap HP2.out 1
  have p2 := Lib.cell_of_heap HP2.out 2
  have p3 := Lib.cell_of_heap HP2.out 3
  have p4 := Lib.cell_of_heap HP2.out 4
  simp only [List.getElem?_toArray, List.getElem?_cons_zero, List.getElem?_cons_succ] at p0 p1 p2 p3 p4
  go_wp2
  refine bodyPost_ret (res_piece _ rfl _ R rfl _ _ _ _ _ _ 81 (0, 0) (st5_heap HR2.out _ _ _ _ _)) rfl ⟨_, rfl, ⟨_, rfl, rowsB_nil b _, fresh_nil _⟩, ?_, ?_⟩
  · exact st5_sc HS4.out (by omega) (by omega) _ _ _ _ _
  · exact st5_only HO2.out (by have := HRe.out; omega) _ _ _ _ _
/-- **(*Scanner).closing.** -/
theorem sclosing (B b : Nat) (s : ByteArray) (σ : St) (w : World) (hS : Sc B b s σ w) :
    Calls Tryz.prog 115 #[.pointer (some ⟨b, 0, none⟩)] w (Gives B b s w (closingS (bl s) σ).1 (closingS (bl s) σ).2) := by
  have C1 := Lib.hid fun w h => sname B b s σ w h
  have C2 := Lib.hid fun w h => sblanks_t B b s (nameS (bl s) σ) w h
  have C3 := Lib.hid fun w h => smust_l B b s ⟨#[62]⟩ [62] rfl (by decide) (whileS bb (bl s) (nameS (bl s) σ)) w h
  unfold closingS
  generalize mustS [62] (bl s) (whileS bb (bl s) (nameS (bl s) σ)) = σ3 at C3 ⊢
  generalize whileS bb (bl s) (nameS (bl s) σ) = σ2 at C2 C3
  generalize nameS (bl s) σ = σ1 at C1 C2
  exact sclosing0 B b s σ σ1 σ2 σ3 w hS (runW nb (bl s) σ) C1 C2 C3

end Go.Proofs.YtincdacickhdkaaGreatDoor
namespace Go.Proofs.YtincdacickhdkaaGreatDoor
open Go.RowKit
set_option maxRecDepth 100000

theorem rows_form {b : Nat} {w : World} {v : Value} {A : List (List UInt8 × List UInt8)} (h : RowsB b w v A) : ∃ ao m cap, v = .slice ao m cap := by
  rcases h.1 with ⟨_, h⟩ | ⟨g, cap, h, _⟩
  · exact ⟨_, _, _, h⟩
  · exact ⟨_, _, _, h⟩
theorem RowsB.set {b : Nat} {w : World} {v : Value} {A : List (List UInt8 × List UInt8)} (h : RowsB b w v A) {p : Addr} (hk : ∀ g o n c, v = .slice (some ⟨g, o, none⟩) n c → g ≠ p.block) (x : Value) : RowsB b (w.setCell p x) v A :=
  h.heap (by simp [World.setCell]) (fun g o n c hv => Below.heap_setCell _ _ _ _ (hk g o n c hv))
theorem RowsB.st5 {b : Nat} {w : World} {v : Value} {A : List (List UInt8 × List UInt8)} (h : RowsB b w v A) {R : Nat} (hk : ∀ g o n c, v = .slice (some ⟨g, o, none⟩) n c → g ≠ R) (x0 x1 x2 x3 x4 : Value) : RowsB b (st5 w R x0 x1 x2 x3 x4) v A :=
  h.heap (by rw [st5_size]; exact Nat.le_refl _) (fun g o n c hv => st5_other (hk g o n c hv) _ _ _ _ _)
/-- A piece lies in block P, before it is told where it stands. -/
def Mid (B b : Nat) (s : ByteArray) (w : World) (Z : Pc × St) (R P : Nat) (wx : World) : Prop :=
  ∃ ao m cap, Sc B b s Z.2 wx ∧ Only b w wx ∧ wx.heap[R]? = some (.cells #[.int .i64 0, .string ⟨#[]⟩, .slice none 0 0, .string ⟨#[]⟩, .int .i64 0] 81) ∧
    wx.heap[P]? = some (.cells #[.int .i64 Z.1.kind, .string (str Z.1.name), .slice ao m cap, .string (str Z.1.text), .int .i64 Z.1.at_] 81 (0, 0)) ∧
    RowsB b wx (.slice ao m cap) Z.1.attrs ∧ ∀ g o n c, Value.slice ao m cap = .slice (some ⟨g, o, none⟩) n c → P + 1 ≤ g
theorem Mid.of {B b : Nat} {s : ByteArray} {w w1 : World} {Z : Pc × St} {R P : Nat} {ao : Option Addr} {m cap : Nat} (h1 : Sc B b s Z.2 w1) (h2 : Only b w w1) (hR : w1.heap[R]? = some (.cells #[.int .i64 0, .string ⟨#[]⟩, .slice none 0 0, .string ⟨#[]⟩, .int .i64 0] 81)) (hP : w1.heap[P]? = some (.cells #[.int .i64 0, .string ⟨#[]⟩, .slice none 0 0, .string ⟨#[]⟩, .int .i64 0] 81))
    (h3 : RowsB b w1 (.slice ao m cap) Z.1.attrs) (h4 : ∀ g o n c, Value.slice ao m cap = .slice (some ⟨g, o, none⟩) n c → P + 1 ≤ g) (hRP : R < P) (hb : b < P) (hw : w.heap.size ≤ P) :
    Mid B b s w Z R P (st5 w1 P (.int .i64 Z.1.kind) (.string (str Z.1.name)) (.slice ao m cap) (.string (str Z.1.text)) (.int .i64 Z.1.at_)) :=
  ⟨ao, m, cap, st5_sc h1 (by omega) (by have := h1.base; omega) _ _ _ _ _, st5_only h2 hw _ _ _ _ _, (st5_other (by omega) _ _ _ _ _).trans hR, st5_heap hP _ _ _ _ _, h3.st5 (fun g o n c hv => by have := h4 g o n c hv; omega) _ _ _ _ _, h4⟩
set_option maxHeartbeats 1500000 in
theorem spiece0 (B b : Nat) (s : ByteArray) (σ : St) (w : World) (hS : Sc B b s σ w) (Z : Pc × St) (hZ : pieceR (bl s) σ = Z) :
    Calls Tryz.prog 88 #[.pointer (some ⟨b, 0, none⟩)] w (Gives B b s w (setAt Z.1 σ.pos) Z.2) := by
  have HS0 := hS.step ((Below.refl _ _).alloc (Nat.le_refl _) (.cells #[.int .i64 0, .string ⟨#[]⟩, .slice none 0 0, .string ⟨#[]⟩, .int .i64 0] 81))
  have hbR : b < w.heap.size := hS.lt
  have hBb := hS.base
  have c1 := HS0.c1
  have HR0 := (Only.alloc b (w.alloc (.cells #[.int .i64 0, .string ⟨#[]⟩, .slice none 0 0, .string ⟨#[]⟩, .int .i64 0] 81)) (.cells #[.int .i64 0, .string ⟨#[]⟩, .slice none 0 0, .string ⟨#[]⟩, .int .i64 0] 81)).heap (heap_alloc_new w (.cells #[.int .i64 0, .string ⟨#[]⟩, .slice none 0 0, .string ⟨#[]⟩, .int .i64 0] 81)) (by omega)
  have HP := heap_alloc_new (w.alloc (.cells #[.int .i64 0, .string ⟨#[]⟩, .slice none 0 0, .string ⟨#[]⟩, .int .i64 0] 81)) (.cells #[.int .i64 0, .string ⟨#[]⟩, .slice none 0 0, .string ⟨#[]⟩, .int .i64 0] 81)
  have HO := Lib.hid ((Only.alloc b w (.cells #[.int .i64 0, .string ⟨#[]⟩, .slice none 0 0, .string ⟨#[]⟩, .int .i64 0] 81)).trans (Only.alloc b _ (.cells #[.int .i64 0, .string ⟨#[]⟩, .slice none 0 0, .string ⟨#[]⟩, .int .i64 0] 81)))
  have HS := Lib.hid (HS0.step ((Below.refl _ _).alloc (Nat.le_refl _) (.cells #[.int .i64 0, .string ⟨#[]⟩, .slice none 0 0, .string ⟨#[]⟩, .int .i64 0] 81)))
  have hsz : (w.alloc (.cells #[.int .i64 0, .string ⟨#[]⟩, .slice none 0 0, .string ⟨#[]⟩, .int .i64 0] 81)).heap.size = w.heap.size + 1 := by simp
  rw [hsz] at HP
  have hsz2 : w.heap.size + 2 ≤ ((w.alloc (.cells #[.int .i64 0, .string ⟨#[]⟩, .slice none 0 0, .string ⟨#[]⟩, .int .i64 0] 81)).alloc (.cells #[.int .i64 0, .string ⟨#[]⟩, .slice none 0 0, .string ⟨#[]⟩, .int .i64 0] 81)).heap.size := by simp
  have HR := Lib.hid HR0
  have HP := Lib.hid HP
  clear hS HS0 HR0 hsz
  unfold pieceR at hZ
  go_enter Tryz.func88, Tryz.ntmps88
  go_upto_block 0 with (fail)
  clear c1
  generalize (w.alloc (.cells #[.int .i64 0, .string ⟨#[]⟩, .slice none 0 0, .string ⟨#[]⟩, .int .i64 0] 81)).alloc (.cells #[.int .i64 0, .string ⟨#[]⟩, .slice none 0 0, .string ⟨#[]⟩, .int .i64 0] 81) = w0 at HS HO HR HP hsz2 ⊢
  obtain ⟨R, hRe⟩ : ∃ R, w.heap.size = R := ⟨_, rfl⟩
  rw [hRe] at HR HP hbR hsz2 ⊢
  have HRe := Lib.hid hRe
  clear hRe
  obtain ⟨P, hPe⟩ : ∃ P, R + 1 = P := ⟨_, rfl⟩
  have hRP : R < P := by omega
  have hsz2 : P + 1 ≤ w0.heap.size := by omega
  rw [hPe] at HP ⊢
  have HPe := Lib.hid hPe
  clear hPe
  have hPw : Hid (w.heap.size ≤ P) := Lib.hid (by have := HRe.out; omega)
  go_cut [] (fun wx => Mid B b s w Z R P wx)
  case first =>
    go_wp2_with fail
    cases s1 : standsS bRaw (bl s) σ with
    | true =>
      rw [if_pos s1] at hZ
      have C := Lib.hid (sskip_l B b s ⟨#[60, 33, 91, 67, 68, 65, 84, 65, 91]⟩ bRaw rfl (by decide) σ w0 HS.out true s1)
      clear s1
      go_wp2_with fail
      refine C.out.mono ?_
      rintro r w1 ⟨rfl, h1, o1⟩
      have HS1 := Lib.hid h1
      have HO1 := Lib.hid (HO.out.trans o1)
      have HR1 := Lib.hid (o1.heap HR.out (by omega))
      have HP1 := Lib.hid (o1.heap HP.out (by omega))
      have HZ2 := Lib.hid (Nat.le_trans hsz2 o1.size)
      clear h1 o1 HS HO HR HP C hsz2
      go_wp2_with fail
      have CC := sraw B b s _ w1 HS1.out
      rw [hZ] at CC
      have CC := Lib.hid CC
      refine CC.out.mono ?_
      rintro r w2 ⟨x, rfl, ⟨v, rfl, hrows, hfresh⟩, h2, o2⟩
      obtain ⟨ao, m, cap, rfl⟩ := rows_form hrows
      have hlo : ∀ g o n c, Value.slice ao m cap = .slice (some ⟨g, o, none⟩) n c → P + 1 ≤ g := fun g o n c hv => Nat.le_trans HZ2.out (hfresh g o n c hv)
      have HLO := Lib.hid hlo
      have HRW := Lib.hid hrows
      have HS9 := Lib.hid h2
      have HO9 := Lib.hid (HO1.out.trans o2)
      have HR9 := Lib.hid (o2.heap HR1.out (by omega))
      have HP9 := Lib.hid (o2.heap HP1.out (by omega))
      clear hlo hrows hfresh h2 o2 HS1 HO1 HR1 HP1 HZ2
      have r0 := Lib.cell_of_heap HR9.out 0
      have r1 := Lib.cell_of_heap HR9.out 1
      have r2 := Lib.cell_of_heap HR9.out 2
      have r3 := Lib.cell_of_heap HR9.out 3
      have r4 := Lib.cell_of_heap HR9.out 4
      have f0 := Lib.frozen_of_heap HR9.out 0
      have f1 := Lib.frozen_of_heap HR9.out 1
      have f2 := Lib.frozen_of_heap HR9.out 2
      have f3 := Lib.frozen_of_heap HR9.out 3
      have f4 := Lib.frozen_of_heap HR9.out 4
      simp only [List.getElem?_toArray, List.getElem?_cons_zero, List.getElem?_cons_succ] at r0 r1 r2 r3 r4
      have p0 := Lib.cell_of_heap HP9.out 0
      have p1 := Lib.cell_of_heap HP9.out 1
      have p2 := Lib.cell_of_heap HP9.out 2
      have p3 := Lib.cell_of_heap HP9.out 3
      have p4 := Lib.cell_of_heap HP9.out 4
      have g0 := Lib.frozen_of_heap HP9.out 0
      have g1 := Lib.frozen_of_heap HP9.out 1
      have g2 := Lib.frozen_of_heap HP9.out 2
      have g3 := Lib.frozen_of_heap HP9.out 3
      have g4 := Lib.frozen_of_heap HP9.out 4
      simp only [List.getElem?_toArray, List.getElem?_cons_zero, List.getElem?_cons_succ] at p0 p1 p2 p3 p4
      go_wp2_with fail
      go_meet
      exact Mid.of HS9.out HO9.out HR9.out HP9.out HRW.out HLO.out hRP (by omega) hPw.out
    | false =>
      rw [if_neg (by rw [s1]; decide)] at hZ
      have C := Lib.hid (sskip_l B b s ⟨#[60, 33, 91, 67, 68, 65, 84, 65, 91]⟩ bRaw rfl (by decide) σ w0 HS.out false s1)
      have hsk : skipS bRaw (bl s) σ = σ := by unfold skipS; rw [if_neg (by rw [s1]; decide)]
      rw [hsk] at C
      clear s1 hsk
      go_wp2_with fail
      refine C.out.mono ?_
      rintro r w1 ⟨rfl, h1, o1⟩
      have HS := Lib.hid h1
      have HO := Lib.hid (HO.out.trans o1)
      have HR := Lib.hid (o1.heap HR.out (by omega))
      have HP := Lib.hid (o1.heap HP.out (by omega))
      have hsz2 := Nat.le_trans hsz2 o1.size
      clear h1 o1 C
      cases s2 : standsS [60, 47] (bl s) σ with
      | true =>
        rw [if_pos s2] at hZ
        have C := Lib.hid (sskip_l B b s ⟨#[60, 47]⟩ [60, 47] rfl (by decide) σ w1 HS.out true s2)
        clear s2
        go_wp2_with fail
        refine C.out.mono ?_
        rintro r w2 ⟨rfl, h2, o2⟩
        have HS1 := Lib.hid h2
        have HO1 := Lib.hid (HO.out.trans o2)
        have HR1 := Lib.hid (o2.heap HR.out (by omega))
        have HP1 := Lib.hid (o2.heap HP.out (by omega))
        have HZ2 := Lib.hid (Nat.le_trans hsz2 o2.size)
        clear h2 o2 HS HO HR HP C hsz2
        go_wp2_with fail
        have CC := sclosing B b s _ w2 HS1.out
        rw [hZ] at CC
        have CC := Lib.hid CC
        refine CC.out.mono ?_
        rintro r w3 ⟨x, rfl, ⟨v, rfl, hrows, hfresh⟩, h3, o3⟩
        obtain ⟨ao, m, cap, rfl⟩ := rows_form hrows
        have hlo : ∀ g o n c, Value.slice ao m cap = .slice (some ⟨g, o, none⟩) n c → P + 1 ≤ g := fun g o n c hv => Nat.le_trans HZ2.out (hfresh g o n c hv)
        have HLO := Lib.hid hlo
        have HRW := Lib.hid hrows
        have HS9 := Lib.hid h3
        have HO9 := Lib.hid (HO1.out.trans o3)
        have HR9 := Lib.hid (o3.heap HR1.out (by omega))
        have HP9 := Lib.hid (o3.heap HP1.out (by omega))
        clear hlo hrows hfresh h3 o3 HS1 HO1 HR1 HP1 HZ2
        have r0 := Lib.cell_of_heap HR9.out 0
        have r1 := Lib.cell_of_heap HR9.out 1
        have r2 := Lib.cell_of_heap HR9.out 2
        have r3 := Lib.cell_of_heap HR9.out 3
        have r4 := Lib.cell_of_heap HR9.out 4
        have f0 := Lib.frozen_of_heap HR9.out 0
        have f1 := Lib.frozen_of_heap HR9.out 1
        have f2 := Lib.frozen_of_heap HR9.out 2
        have f3 := Lib.frozen_of_heap HR9.out 3
        have f4 := Lib.frozen_of_heap HR9.out 4
        simp only [List.getElem?_toArray, List.getElem?_cons_zero, List.getElem?_cons_succ] at r0 r1 r2 r3 r4
        have p0 := Lib.cell_of_heap HP9.out 0
        have p1 := Lib.cell_of_heap HP9.out 1
        have p2 := Lib.cell_of_heap HP9.out 2
        have p3 := Lib.cell_of_heap HP9.out 3
        have p4 := Lib.cell_of_heap HP9.out 4
        have g0 := Lib.frozen_of_heap HP9.out 0
        have g1 := Lib.frozen_of_heap HP9.out 1
        have g2 := Lib.frozen_of_heap HP9.out 2
        have g3 := Lib.frozen_of_heap HP9.out 3
        have g4 := Lib.frozen_of_heap HP9.out 4
        simp only [List.getElem?_toArray, List.getElem?_cons_zero, List.getElem?_cons_succ] at p0 p1 p2 p3 p4
        go_wp2_with fail
        go_meet
        exact Mid.of HS9.out HO9.out HR9.out HP9.out HRW.out HLO.out hRP (by omega) hPw.out
      | false =>
        rw [if_neg (by rw [s2]; decide)] at hZ
        have C := Lib.hid (sskip_l B b s ⟨#[60, 47]⟩ [60, 47] rfl (by decide) σ w1 HS.out false s2)
        have hsk : skipS [60, 47] (bl s) σ = σ := by unfold skipS; rw [if_neg (by rw [s2]; decide)]
        rw [hsk] at C
        clear s2 hsk
        go_wp2_with fail
        refine C.out.mono ?_
        rintro r w2 ⟨rfl, h2, o2⟩
        have HS := Lib.hid h2
        have HO := Lib.hid (HO.out.trans o2)
        have HR := Lib.hid (o2.heap HR.out (by omega))
        have HP := Lib.hid (o2.heap HP.out (by omega))
        have hsz2 := Nat.le_trans hsz2 o2.size
        clear h2 o2 C
        cases s3 : standsS [60] (bl s) σ with
        | true =>
          rw [if_pos s3] at hZ
          have C := Lib.hid (sskip_l B b s ⟨#[60]⟩ [60] rfl (by decide) σ w2 HS.out true s3)
          clear s3
          go_wp2_with fail
          refine C.out.mono ?_
          rintro r w3 ⟨rfl, h3, o3⟩
          have HS1 := Lib.hid h3
          have HO1 := Lib.hid (HO.out.trans o3)
          have HR1 := Lib.hid (o3.heap HR.out (by omega))
          have HP1 := Lib.hid (o3.heap HP.out (by omega))
          have HZ2 := Lib.hid (Nat.le_trans hsz2 o3.size)
          clear h3 o3 HS HO HR HP C hsz2
          go_wp2_with fail
          have CC := sopening B b s _ w3 HS1.out
          rw [hZ] at CC
          have CC := Lib.hid CC
          refine CC.out.mono ?_
          rintro r w4 ⟨x, rfl, ⟨v, rfl, hrows, hfresh⟩, h4, o4⟩
          obtain ⟨ao, m, cap, rfl⟩ := rows_form hrows
          have hlo : ∀ g o n c, Value.slice ao m cap = .slice (some ⟨g, o, none⟩) n c → P + 1 ≤ g := fun g o n c hv => Nat.le_trans HZ2.out (hfresh g o n c hv)
          have HLO := Lib.hid hlo
          have HRW := Lib.hid hrows
          have HS9 := Lib.hid h4
          have HO9 := Lib.hid (HO1.out.trans o4)
          have HR9 := Lib.hid (o4.heap HR1.out (by omega))
          have HP9 := Lib.hid (o4.heap HP1.out (by omega))
          clear hlo hrows hfresh h4 o4 HS1 HO1 HR1 HP1 HZ2
          have r0 := Lib.cell_of_heap HR9.out 0
          have r1 := Lib.cell_of_heap HR9.out 1
          have r2 := Lib.cell_of_heap HR9.out 2
          have r3 := Lib.cell_of_heap HR9.out 3
          have r4 := Lib.cell_of_heap HR9.out 4
          have f0 := Lib.frozen_of_heap HR9.out 0
          have f1 := Lib.frozen_of_heap HR9.out 1
          have f2 := Lib.frozen_of_heap HR9.out 2
          have f3 := Lib.frozen_of_heap HR9.out 3
          have f4 := Lib.frozen_of_heap HR9.out 4
          simp only [List.getElem?_toArray, List.getElem?_cons_zero, List.getElem?_cons_succ] at r0 r1 r2 r3 r4
          have p0 := Lib.cell_of_heap HP9.out 0
          have p1 := Lib.cell_of_heap HP9.out 1
          have p2 := Lib.cell_of_heap HP9.out 2
          have p3 := Lib.cell_of_heap HP9.out 3
          have p4 := Lib.cell_of_heap HP9.out 4
          have g0 := Lib.frozen_of_heap HP9.out 0
          have g1 := Lib.frozen_of_heap HP9.out 1
          have g2 := Lib.frozen_of_heap HP9.out 2
          have g3 := Lib.frozen_of_heap HP9.out 3
          have g4 := Lib.frozen_of_heap HP9.out 4
          simp only [List.getElem?_toArray, List.getElem?_cons_zero, List.getElem?_cons_succ] at p0 p1 p2 p3 p4
          go_wp2_with fail
          go_meet
          exact Mid.of HS9.out HO9.out HR9.out HP9.out HRW.out HLO.out hRP (by omega) hPw.out
        | false =>
          rw [if_neg (by rw [s3]; decide)] at hZ
          have C := Lib.hid (sskip_l B b s ⟨#[60]⟩ [60] rfl (by decide) σ w2 HS.out false s3)
          have hsk : skipS [60] (bl s) σ = σ := by unfold skipS; rw [if_neg (by rw [s3]; decide)]
          rw [hsk] at C
          clear s3 hsk
          go_wp2_with fail
          refine C.out.mono ?_
          rintro r w3 ⟨rfl, h3, o3⟩
          have HS := Lib.hid h3
          have HO := Lib.hid (HO.out.trans o3)
          have HR := Lib.hid (o3.heap HR.out (by omega))
          have HP := Lib.hid (o3.heap HP.out (by omega))
          have hsz2 := Nat.le_trans hsz2 o3.size
          clear h3 o3 C
          have HS1 := HS
          have HO1 := HO
          have HR1 := HR
          have HP1 := HP
          have HZ2 := Lib.hid hsz2
          clear HS HO HR HP hsz2
          go_wp2_with fail
          have CC := stext B b s σ w3 HS1.out
          rw [hZ] at CC
          have CC := Lib.hid CC
          refine CC.out.mono ?_
          rintro r w4 ⟨x, rfl, ⟨v, rfl, hrows, hfresh⟩, h4, o4⟩
          obtain ⟨ao, m, cap, rfl⟩ := rows_form hrows
          have hlo : ∀ g o n c, Value.slice ao m cap = .slice (some ⟨g, o, none⟩) n c → P + 1 ≤ g := fun g o n c hv => Nat.le_trans HZ2.out (hfresh g o n c hv)
          have HLO := Lib.hid hlo
          have HRW := Lib.hid hrows
          have HS9 := Lib.hid h4
          have HO9 := Lib.hid (HO1.out.trans o4)
          have HR9 := Lib.hid (o4.heap HR1.out (by omega))
          have HP9 := Lib.hid (o4.heap HP1.out (by omega))
          clear hlo hrows hfresh h4 o4 HS1 HO1 HR1 HP1 HZ2
          have r0 := Lib.cell_of_heap HR9.out 0
          have r1 := Lib.cell_of_heap HR9.out 1
          have r2 := Lib.cell_of_heap HR9.out 2
          have r3 := Lib.cell_of_heap HR9.out 3
          have r4 := Lib.cell_of_heap HR9.out 4
          have f0 := Lib.frozen_of_heap HR9.out 0
          have f1 := Lib.frozen_of_heap HR9.out 1
          have f2 := Lib.frozen_of_heap HR9.out 2
          have f3 := Lib.frozen_of_heap HR9.out 3
          have f4 := Lib.frozen_of_heap HR9.out 4
          simp only [List.getElem?_toArray, List.getElem?_cons_zero, List.getElem?_cons_succ] at r0 r1 r2 r3 r4
          have p0 := Lib.cell_of_heap HP9.out 0
          have p1 := Lib.cell_of_heap HP9.out 1
          have p2 := Lib.cell_of_heap HP9.out 2
          have p3 := Lib.cell_of_heap HP9.out 3
          have p4 := Lib.cell_of_heap HP9.out 4
          have g0 := Lib.frozen_of_heap HP9.out 0
          have g1 := Lib.frozen_of_heap HP9.out 1
          have g2 := Lib.frozen_of_heap HP9.out 2
          have g3 := Lib.frozen_of_heap HP9.out 3
          have g4 := Lib.frozen_of_heap HP9.out 4
          simp only [List.getElem?_toArray, List.getElem?_cons_zero, List.getElem?_cons_succ] at p0 p1 p2 p3 p4
          go_wp2_with fail
          go_meet
          exact Mid.of HS9.out HO9.out HR9.out HP9.out HRW.out HLO.out hRP (by omega) hPw.out
  case rest =>
    obtain ⟨ao, m, cap, h1, h2, h3, h4, h5, h6⟩ := hcut
    clear HS HO HR HP
    have HS := Lib.hid h1
    have HO := Lib.hid h2
    have HR := Lib.hid h3
    have HP := Lib.hid h4
    have HW := Lib.hid h5
    have HL := Lib.hid h6
    clear h1 h2 h3 h4 h5 h6
    have r0 := Lib.cell_of_heap HR.out 0
    have r1 := Lib.cell_of_heap HR.out 1
    have r2 := Lib.cell_of_heap HR.out 2
    have r3 := Lib.cell_of_heap HR.out 3
    have r4 := Lib.cell_of_heap HR.out 4
    have f0 := Lib.frozen_of_heap HR.out 0
    have f1 := Lib.frozen_of_heap HR.out 1
    have f2 := Lib.frozen_of_heap HR.out 2
    have f3 := Lib.frozen_of_heap HR.out 3
    have f4 := Lib.frozen_of_heap HR.out 4
    simp only [List.getElem?_toArray, List.getElem?_cons_zero, List.getElem?_cons_succ] at r0 r1 r2 r3 r4
    have p0 := Lib.cell_of_heap HP.out 0
    have p1 := Lib.cell_of_heap HP.out 1
    have p2 := Lib.cell_of_heap HP.out 2
    have p3 := Lib.cell_of_heap HP.out 3
    have p4 := Lib.cell_of_heap HP.out 4
    have g0 := Lib.frozen_of_heap HP.out 0
    have g1 := Lib.frozen_of_heap HP.out 1
    have g2 := Lib.frozen_of_heap HP.out 2
    have g3 := Lib.frozen_of_heap HP.out 3
    have g4 := Lib.frozen_of_heap HP.out 4
    simp only [List.getElem?_toArray, List.getElem?_cons_zero, List.getElem?_cons_succ] at p0 p1 p2 p3 p4
    go_wp2
    refine bodyPost_ret (res_piece _ rfl _ R rfl _ _ _ _ _ _ 81 (0, 0) (st5_heap ((Below.heap_setCell _ ⟨P, 4, none⟩ _ R (by show R ≠ P; omega)).trans HR.out) _ _ _ _ _)) rfl ⟨_, rfl, ⟨_, rfl, ?_, ?_⟩, ?_, ?_⟩
    · exact (HW.out.set (p := ⟨P, 4, none⟩) (fun g o n c hv => by show g ≠ P; have := HL.out g o n c hv; omega) _).st5 (fun g o n c hv => by have := HL.out g o n c hv; omega) _ _ _ _ _
    · intro g o n c hv
      have := HL.out g o n c hv
      have := hPw.out
      omega
    · exact st5_sc (HS.out.setOther (p := ⟨P, 4, none⟩) (by show P ≠ b; omega) (by show B ≤ P; omega) _) (by omega) (by omega) _ _ _ _ _
    · exact st5_only (HO.out.setNew (p := ⟨P, 4, none⟩) hPw.out _) (by have := HRe.out; omega) _ _ _ _ _
/-- **(*Scanner).piece.** -/
theorem spiece (B b : Nat) (s : ByteArray) (σ : St) (w : World) (hS : Sc B b s σ w) :
    Calls Tryz.prog 88 #[.pointer (some ⟨b, 0, none⟩)] w (Gives B b s w (pieceS (bl s) σ).1 (pieceS (bl s) σ).2) := by
  unfold pieceS
  exact spiece0 B b s σ w hS _ rfl

end Go.Proofs.YtincdacickhdkaaGreatDoor
namespace Go.Proofs.YtincdacickhdkaaGreatDoor
open Go.RowKit
set_option maxRecDepth 100000

set_option maxHeartbeats 4000000 in
theorem spass0 (B b : Nat) (s p e : ByteArray) (σ σ' : St) (w : World) (hS : Sc B b s σ w) (hp : σ.pos + p.size ≤ s.size) (n : Nat) (X : List UInt8) (Y : ByteArray) (A M : Bool) (hY : Y.size ≤ s.size)
    (hn : ∀ (args : Array Value) (w : World), (callFunc n args).run Tryz.prog w = .ok (.enter n args) w)
    (C1 : Hid (∀ w, Glob B w → Calls Tryz.prog 119 #[.string (s.extract (σ.pos + p.size) s.size), .string e] w fun r w' => r = .returned (.tuple #[.string (str X), .string Y, .bool A]) ∧ ∃ n, w' = w.drewN n))
    (CM : Hid (∀ w, Glob B w → Calls Tryz.prog n #[.string (str X)] w fun r w' => r = .returned (.bool M) ∧ w = w'))
    (h' : Hid (σ' = if A = true ∧ M = true then go_ σ (s.size - Y.size) else wrongS 3 σ.pos σ)) :
    Calls Tryz.prog 108 #[.pointer (some ⟨b, 0, none⟩), .string p, .string e, .func (.func n) #[] #[]] w fun r w' => r = .returned (.tuple #[]) ∧ Sc B b s σ' w' ∧ Only b w w' := by
  have hp' : (σ.pos : Int) + (p.size : Int) ≤ (s.size : Int) := by omega
  have hY' : (Y.size : Int) ≤ (s.size : Int) := by omega
  have hln := hS.len
  have c0 := hS.c0
  have c1 := hS.c1
  have H := Lib.hid hS
  have C1 := Lib.hid fun n => C1.out (w.drewN n) (hS.glob.step ((below_drewN w n).mono hS.glob.le))
  have e1 : IntKind.i64.wrap ((σ.pos : Int) + (p.size : Int)) = (σ.pos : Int) + (p.size : Int) := IntWalk.i64_in _ (by omega)
  have e2 : (0 : Int) ≤ (σ.pos : Int) + (p.size : Int) := by omega
  have e3 : ((σ.pos : Int) + (p.size : Int)).toNat = σ.pos + p.size := by omega
  clear hS
  go_enter Tryz.func108, Tryz.ntmps108
  go_wp2
  go_quiet ((go_at_call 119; exact Calls.quiet_of (C1.out _)))
  clear e1 e2 e3 c0 c1 C1
  have H1 := Lib.hid (H.out.step (below_drewN w nq))
  have O1 := Lib.hid (Only.drewN b w nq)
  clear H
  generalize w.drewN nq = w1 at H1 O1 ⊢
  have CM := Lib.hid (CM.out w1 H1.out.glob)
  have c0 := H1.out.c0
  have c1 := H1.out.c1
  have f1 := H1.out.fz 1
  cases A with
  | true =>
    cases M with
    | true =>
      have h2 := Lib.hid (h'.out.trans (by rw [if_pos ⟨rfl, rfl⟩]))
      have h3 := Lib.hid (H1.out.go (s.size - Y.size) (by omega))
      have hsub : (s.size : Int) - (Y.size : Int) = ((s.size - Y.size : Nat) : Int) := by omega
      clear h'
      go_wp2_with fail
      refine CM.out.mono ?_
      rintro r w2 ⟨rfl, rfl⟩
      go_wp2
      go_end0
      exact ⟨rfl, by rw [h2.out]; exact h3.out, O1.out.trans (Only.set b 1 _ _)⟩
    | false =>
      have h2 := Lib.hid (h'.out.trans (by rw [if_neg (by rintro ⟨_, h⟩; exact absurd h (by decide))]))
      have CW := Lib.hid (swrong B b s σ w1 H1.out 3 σ.pos (by decide))
      clear h'
      go_wp2_with fail
      refine CM.out.mono ?_
      rintro r w2 ⟨rfl, rfl⟩
      go_wp2_with fail
      refine CW.out.mono ?_
      rintro r w3 ⟨rfl, h3, o3⟩
      go_wp2
      (try simp only [Exit.inBlock, Exit.then])
      refine bodyPost_ret (results_none rfl _ _ _) rfl ?_
      exact ⟨rfl, by rw [h2.out]; exact h3, O1.out.trans o3⟩
  | false =>
    have h2 := Lib.hid (h'.out.trans (by rw [if_neg (by rintro ⟨h, _⟩; exact absurd h (by decide))]))
    have CW := Lib.hid (swrong B b s σ w1 H1.out 3 σ.pos (by decide))
    clear h' CM
    go_wp2_with fail
    refine CW.out.mono ?_
    rintro r w3 ⟨rfl, h3, o3⟩
    go_wp2
    (try simp only [Exit.inBlock, Exit.then])
    refine bodyPost_ret (results_none rfl _ _ _) rfl ?_
    exact ⟨rfl, by rw [h2.out]; exact h3, O1.out.trans o3⟩

/-! ### what may stand where nothing is said -/
set_option maxHeartbeats 1000000 in
theorem may_hint (X : ByteArray) (w : World) : Calls Tryz.prog 112 #[.string X] w fun r w' => r = .returned (.bool true) ∧ w = w' := by
  go_enter Tryz.func112, Tryz.ntmps112
  go_wp2
  go_ret
  exact ⟨rfl, rfl⟩
set_option maxHeartbeats 1000000 in
theorem may_com (X : List UInt8) (hX : X.length ≤ 4000000000) (w : World) (hM : MaxL w) : Calls Tryz.prog 109 #[.string (str X)] w fun r w' => r = .returned (.bool (mayC X)) ∧ w = w' := by
  obtain ⟨m, hm⟩ := hM
  have C1 := Tryz.strings_Contains (str X) ⟨#[45, 45]⟩ m w (by rw [str_size]; omega) hm
  have C2 := Tryz.strings_HasSuffix (str X) ⟨#[45]⟩ w (by rw [str_size]; omega)
  have e : (str X).data.toList = X := str_bl X
  rw [e] at C1 C2
  change Calls _ _ _ _ (fun e w' => e = .returned (.bool (Lib.contains X [45, 45])) ∧ w' = w) at C1
  change Calls _ _ _ _ (fun e w' => e = .returned (.bool (Lib.hasSuffix X [45])) ∧ w' = w) at C2
  unfold mayC
  generalize Lib.contains X [45, 45] = A at C1 ⊢
  generalize Lib.hasSuffix X [45] = A2 at C2 ⊢
  have C1 := Lib.hid C1
  have C2 := Lib.hid C2
  clear hm e
  cases A with
  | true =>
    go_enter Tryz.func109, Tryz.ntmps109
    go_wp2_with fail
    refine C1.out.mono ?_
    rintro r w1 ⟨rfl, hw⟩
    obtain rfl := hw.symm
    go_wp2
    go_ret
    exact ⟨rfl, rfl⟩
  | false =>
    cases A2 with
    | true =>
      go_enter Tryz.func109, Tryz.ntmps109
      go_wp2_with fail
      refine C1.out.mono ?_
      rintro r w1 ⟨rfl, hw⟩
      obtain rfl := hw.symm
      go_wp2_with fail
      refine C2.out.mono ?_
      rintro r w1 ⟨rfl, hw⟩
      obtain rfl := hw.symm
      go_wp2
      go_ret
      exact ⟨rfl, rfl⟩
    | false =>
      go_enter Tryz.func109, Tryz.ntmps109
      go_wp2_with fail
      refine C1.out.mono ?_
      rintro r w1 ⟨rfl, hw⟩
      obtain rfl := hw.symm
      go_wp2_with fail
      refine C2.out.mono ?_
      rintro r w1 ⟨rfl, hw⟩
      obtain rfl := hw.symm
      go_wp2
      go_ret
      exact ⟨rfl, rfl⟩
theorem enters_com : ∀ (args : Array Value) (w : World), (callFunc 109 args).run Tryz.prog w = .ok (.enter 109 args) w := enters_of Tryz.func109 (by kernel_rfl) rfl
theorem enters_hint : ∀ (args : Array Value) (w : World), (callFunc 112 args).run Tryz.prog w = .ok (.enter 112 args) w := enters_of Tryz.func112 (by kernel_rfl) rfl
/-- **(*Scanner).pass.** -/
theorem spass (B b : Nat) (s p e : ByteArray) (lp le : List UInt8) (hlp : bl p = lp) (hle : bl e = le) (σ : St) (w : World) (hS : Sc B b s σ w) (hst : standsS lp (bl s) σ = true) (hp0 : lp ≠ []) (n : Nat) (may : List UInt8 → Bool)
    (hn : ∀ (args : Array Value) (w : World), (callFunc n args).run Tryz.prog w = .ok (.enter n args) w)
    (hM : ∀ (X : List UInt8) (w : World), X.length ≤ 4000000000 → Glob B w → Calls Tryz.prog n #[.string (str X)] w fun r w' => r = .returned (.bool (may X)) ∧ w = w') :
    Calls Tryz.prog 108 #[.pointer (some ⟨b, 0, none⟩), .string p, .string e, .func (.func n) #[] #[]] w fun r w' => r = .returned (.tuple #[]) ∧ Sc B b s (passS lp le may (bl s) σ) w' ∧ Only b w w' := by
  have hl := hS.len
  have hst' := stands_len hst hp0
  rw [bl_size, ← hlp, bl_size] at hst'
  have hlen := cut_len ((bl s).drop (σ.pos + lp.length)) le
  rw [List.length_drop, bl_size] at hlen
  have hX : (passC lp le (bl s) σ).1.length ≤ s.size - (σ.pos + lp.length) := hlen.1
  have hY : (passC lp le (bl s) σ).2.1.length ≤ s.size - (σ.pos + lp.length) := hlen.2
  have hc : ∀ w, Glob B w → Calls Tryz.prog 119 #[.string (s.extract (σ.pos + p.size) s.size), .string e] w fun r w' => r = .returned (.tuple #[.string (str (passC lp le (bl s) σ).1), .string (str (passC lp le (bl s) σ).2.1), .bool (passC lp le (bl s) σ).2.2]) ∧ ∃ n, w' = w.drewN n := by
    intro w hg
    obtain ⟨m, hm⟩ := hg.ent.maxl
    have c := Tryz.strings_Cut (s.extract (σ.pos + p.size) s.size) e m w (by have := size_from s (σ.pos + p.size); omega) hm
    have e1 : (s.extract (σ.pos + p.size) s.size).data.toList = (bl s).drop (σ.pos + lp.length) := by rw [← hlp, bl_size]; exact bl_from s _
    have e2 : e.data.toList = le := hle
    rw [e1, e2] at c
    exact c
  unfold passS
  rw [bl_size]
  obtain ⟨C, hC⟩ : ∃ C, passC lp le (bl s) σ = C := ⟨_, rfl⟩
  rw [hC] at hc hX hY ⊢
  have hs : C.2.1.length = (str C.2.1).size := (str_size _).symm
  rw [hs] at hY ⊢
  exact spass0 B b s p e σ _ w hS hst' n C.1 (str C.2.1) C.2.2 (may C.1) (by omega) hn (Lib.hid hc) (Lib.hid fun w hg => hM C.1 w (by omega) hg) (Lib.hid rfl)

end Go.Proofs.YtincdacickhdkaaGreatDoor
