/-
  The walks of (*Scanner).raw, text, closing, piece.
-/
import Derived.Test.YtekmenkebokdoaaGreatDoorScanOpening
namespace Go.Proofs.YtekmenkebokdoaaGreatDoor
open Go.RowKit
set_option maxRecDepth 100000

set_option maxHeartbeats 4000000 in
theorem sraw0 (B b : Nat) (s : ByteArray) (σ σ1 σ2 : St) (w : World) (hS : Sc B b s σ w) (X : List UInt8) (Y : ByteArray) (A : Bool) (hY : Y.size ≤ s.size)
    (C1 : Hid (∀ w, Glob B w → Calls Tryz.prog 91 #[.string (s.extract σ.pos s.size), .string ⟨#[93, 93, 62]⟩] w fun e w' => e = .returned (.tuple #[.string (str X), .string Y, .bool A]) ∧ ∃ n, w' = w.drewN n))
    (h1 : Hid (σ1 = if A = true then σ else wrongS 3 σ.pos σ))
    (C3 : Hid (∀ w, Sc B b s σ1 w → Calls Tryz.prog 97 #[.pointer (some ⟨b, 0, none⟩), .string (str X), .int .i64 σ.pos] w fun r w' => r = .returned (.tuple #[]) ∧ Sc B b s σ2 w' ∧ Only b w w')) :
    Calls Tryz.prog 79 #[.pointer (some ⟨b, 0, none⟩)] w (Gives B b s w ⟨4, [], [], X, 0⟩ (go_ σ2 (s.size - Y.size))) := by
  have HS := Lib.hid (hS.step ((Below.refl _ _).alloc (Nat.le_refl _) (.cells #[.int .i64 0, .string ⟨#[]⟩, .slice none 0 0, .string ⟨#[]⟩, .int .i64 0] 74)))
  have HO := Lib.hid (Only.alloc b w (.cells #[.int .i64 0, .string ⟨#[]⟩, .slice none 0 0, .string ⟨#[]⟩, .int .i64 0] 74))
  have HR := Lib.hid (heap_alloc_new w (.cells #[.int .i64 0, .string ⟨#[]⟩, .slice none 0 0, .string ⟨#[]⟩, .int .i64 0] 74))
  have hbR : b < w.heap.size := hS.lt
  have hBb := hS.base
  have hps := hS.pos
  have hps' : (σ.pos : Int) ≤ (s.size : Int) := by omega
  have hY' : (Y.size : Int) ≤ (s.size : Int) := by omega
  have hln := hS.len
  have c0 := HS.out.c0
  have c1 := HS.out.c1
  clear hS
  go_enter Tryz.func79, Tryz.ntmps79
  go_wp2_with fail
  clear c0 c1
  obtain ⟨R, hRe⟩ : ∃ R, w.heap.size = R := ⟨_, rfl⟩
  rw [hRe] at HR hbR ⊢
  have HRe := Lib.hid hRe
  clear hRe
  generalize w.alloc (.cells #[.int .i64 0, .string ⟨#[]⟩, .slice none 0 0, .string ⟨#[]⟩, .int .i64 0] 74) = w0 at HS HO HR ⊢
  refine (C1.out w0 HS.out.glob).mono ?_
  rintro r w1 ⟨rfl, n, rfl⟩
  have HS1 := Lib.hid (HS.out.step (below_drewN w0 n))
  have HO1 := Lib.hid (HO.out.trans (Only.drewN b w0 n))
  have HR1 := Lib.hid ((Only.drewN b w0 n).heap HR.out (by omega))
  clear HS HO HR C1
  generalize w0.drewN n = w1 at HS1 HO1 HR1 ⊢
  have key : ∀ w2, Sc B b s σ1 w2 → Only b w1 w2 → Hid (Sc B b s σ1 w2 ∧ Only b w w2 ∧ w2.heap[R]? = some (.cells #[.int .i64 0, .string ⟨#[]⟩, .slice none 0 0, .string ⟨#[]⟩, .int .i64 0] 74)) := fun w2 h2 o2 => Lib.hid ⟨h2, HO1.out.trans o2, o2.heap HR1.out (by omega)⟩
  cases A with
  | true =>
    have hk := key w1 (by rw [h1.out]; exact HS1.out) (Only.refl _ _)
    clear key HS1 HO1 HR1
    have C := Lib.hid (C3.out w1 hk.out.1)
    go_wp2_with fail
    refine C.out.mono ?_
    rintro r w3 ⟨rfl, h3, o3⟩
    have d0 := h3.c0
    have d1 := h3.c1
    have g1 := h3.fz 1
    have HR3 := o3.heap hk.out.2.2 (by omega)
    have HO3 := Lib.hid (hk.out.2.1.trans o3)
    have r0 := Lib.cell_of_heap HR3 0
    have r1 := Lib.cell_of_heap HR3 1
    have r2 := Lib.cell_of_heap HR3 2
    have r3 := Lib.cell_of_heap HR3 3
    have r4 := Lib.cell_of_heap HR3 4
    have f0 := Lib.frozen_of_heap HR3 0
    have f1 := Lib.frozen_of_heap HR3 1
    have f2 := Lib.frozen_of_heap HR3 2
    have f3 := Lib.frozen_of_heap HR3 3
    have f4 := Lib.frozen_of_heap HR3 4
    simp only [List.getElem?_toArray, List.getElem?_cons_zero, List.getElem?_cons_succ] at r0 r1 r2 r3 r4
    have HR3 := Lib.hid HR3
    have HS3 := Lib.hid h3
    have hsub : (s.size : Int) - (Y.size : Int) = ((s.size - Y.size : Nat) : Int) := by omega
    have hsub2 : (0 : Int) ≤ (s.size : Int) - (Y.size : Int) := by omega
    clear h3 o3 hk C
    go_wp2
    refine bodyPost_ret (res_piece _ rfl _ R rfl _ _ _ _ _ _ 74 (0, 0) (st5_heap ((Below.heap_setCell _ _ _ _ (by show R ≠ b; omega)).trans HR3.out) _ _ _ _ _)) rfl ⟨_, rfl, ⟨_, rfl, rowsB_nil b _, fresh_nil _⟩, ?_, ?_⟩
    · exact st5_sc (HS3.out.go (s.size - Y.size) (by omega)) (by omega) (by omega) _ _ _ _ _
    · exact st5_only (HO3.out.trans (Only.set b 1 _ _)) (by have := HRe.out; omega) _ _ _ _ _
  | false =>
    have CW := Lib.hid (swrong B b s σ w1 HS1.out 3 σ.pos (by decide))
    go_wp2_with fail
    refine CW.out.mono ?_
    rintro r w2 ⟨rfl, h2, o2⟩
    have hk := key w2 (by rw [h1.out]; exact h2) o2
    clear key HS1 HO1 HR1 h2 o2
    have C := Lib.hid (C3.out w2 hk.out.1)
    go_wp2_with fail
    refine C.out.mono ?_
    rintro r w3 ⟨rfl, h3, o3⟩
    have d0 := h3.c0
    have d1 := h3.c1
    have g1 := h3.fz 1
    have HR3 := o3.heap hk.out.2.2 (by omega)
    have HO3 := Lib.hid (hk.out.2.1.trans o3)
    have r0 := Lib.cell_of_heap HR3 0
    have r1 := Lib.cell_of_heap HR3 1
    have r2 := Lib.cell_of_heap HR3 2
    have r3 := Lib.cell_of_heap HR3 3
    have r4 := Lib.cell_of_heap HR3 4
    have f0 := Lib.frozen_of_heap HR3 0
    have f1 := Lib.frozen_of_heap HR3 1
    have f2 := Lib.frozen_of_heap HR3 2
    have f3 := Lib.frozen_of_heap HR3 3
    have f4 := Lib.frozen_of_heap HR3 4
    simp only [List.getElem?_toArray, List.getElem?_cons_zero, List.getElem?_cons_succ] at r0 r1 r2 r3 r4
    have HR3 := Lib.hid HR3
    have HS3 := Lib.hid h3
    have hsub : (s.size : Int) - (Y.size : Int) = ((s.size - Y.size : Nat) : Int) := by omega
    have hsub2 : (0 : Int) ≤ (s.size : Int) - (Y.size : Int) := by omega
    clear h3 o3 hk C
    go_wp2
    refine bodyPost_ret (res_piece _ rfl _ R rfl _ _ _ _ _ _ 74 (0, 0) (st5_heap ((Below.heap_setCell _ _ _ _ (by show R ≠ b; omega)).trans HR3.out) _ _ _ _ _)) rfl ⟨_, rfl, ⟨_, rfl, rowsB_nil b _, fresh_nil _⟩, ?_, ?_⟩
    · exact st5_sc (HS3.out.go (s.size - Y.size) (by omega)) (by omega) (by omega) _ _ _ _ _
    · exact st5_only (HO3.out.trans (Only.set b 1 _ _)) (by have := HRe.out; omega) _ _ _ _ _
/-- **(*Scanner).raw.** -/
theorem sraw (B b : Nat) (s : ByteArray) (σ : St) (w : World) (hS : Sc B b s σ w) :
    Calls Tryz.prog 79 #[.pointer (some ⟨b, 0, none⟩)] w (Gives B b s w (rawS (bl s) σ).1 (rawS (bl s) σ).2) := by
  have hl := hS.len
  have hps := hS.pos
  have hc : ∀ w, Glob B w → Calls Tryz.prog 91 #[.string (s.extract σ.pos s.size), .string ⟨#[93, 93, 62]⟩] w fun e w' => e = .returned (.tuple #[.string (str (rawC (bl s) σ).1), .string (str (rawC (bl s) σ).2.1), .bool (rawC (bl s) σ).2.2]) ∧ ∃ n, w' = w.drewN n := by
    intro w hg
    obtain ⟨m, hm⟩ := hg.ent.maxl
    have c := Tryz.strings_Cut (s.extract σ.pos s.size) ⟨#[93, 93, 62]⟩ m w (by have := size_from s σ.pos; omega) hm
    have e : (s.extract σ.pos s.size).data.toList = (bl s).drop σ.pos := bl_from s σ.pos
    rw [e] at c
    exact c
  have hlen := cut_len ((bl s).drop σ.pos) [93, 93, 62]
  rw [List.length_drop, bl_size] at hlen
  have hX : (rawC (bl s) σ).1.length ≤ s.size - σ.pos := hlen.1
  have hY : (rawC (bl s) σ).2.1.length ≤ s.size - σ.pos := hlen.2
  unfold rawS
  rw [bl_size]
  obtain ⟨C, hC⟩ : ∃ C, rawC (bl s) σ = C := ⟨_, rfl⟩
  rw [hC] at hc hX hY ⊢
  obtain ⟨σ1, h1⟩ : ∃ σ1, (if C.2.2 = true then σ else wrongS 3 σ.pos σ) = σ1 := ⟨_, rfl⟩
  rw [h1]
  have c3 := fun w (h : Sc B b s σ1 w) => sletters B b s (str C.1) σ1 w σ.pos (by rw [str_size]; omega) h
  rw [str_bl] at c3
  have hs : C.2.1.length = (str C.2.1).size := (str_size _).symm
  rw [hs] at hY ⊢
  exact sraw0 B b s σ σ1 _ w hS C.1 (str C.2.1) C.2.2 (by omega) (Lib.hid hc) (Lib.hid h1.symm) (Lib.hid c3)

set_option maxHeartbeats 4000000 in
theorem stext0 (B b : Nat) (s : ByteArray) (σ σ1 σ2 : St) (w : World) (hS : Sc B b s σ w) (T : ByteArray) (X : List UInt8)
    (C1 : Hid (∀ w, Sc B b s σ w → Calls Tryz.prog 99 #[.pointer (some ⟨b, 0, none⟩), .func (.func 103) #[] #[]] w fun r w' => r = .returned (.string T) ∧ Sc B b s σ1 w' ∧ Only b w w'))
    (C2 : Hid (∀ w, Sc B b s σ1 w → Calls Tryz.prog 104 #[.pointer (some ⟨b, 0, none⟩), .string T, .int .i64 σ.pos] w fun r w' => r = .returned (.string (str X)) ∧ Sc B b s σ2 w' ∧ Only b w w')) :
    Calls Tryz.prog 82 #[.pointer (some ⟨b, 0, none⟩)] w (Gives B b s w ⟨4, [], [], X, 0⟩ σ2) := by
  have HS := Lib.hid (hS.step ((Below.refl _ _).alloc (Nat.le_refl _) (.cells #[.int .i64 0, .string ⟨#[]⟩, .slice none 0 0, .string ⟨#[]⟩, .int .i64 0] 74)))
  have HO := Lib.hid (Only.alloc b w (.cells #[.int .i64 0, .string ⟨#[]⟩, .slice none 0 0, .string ⟨#[]⟩, .int .i64 0] 74))
  have HR := Lib.hid (heap_alloc_new w (.cells #[.int .i64 0, .string ⟨#[]⟩, .slice none 0 0, .string ⟨#[]⟩, .int .i64 0] 74))
  have hbR : b < w.heap.size := hS.lt
  have hBb := hS.base
  have c1 := HS.out.c1
  clear hS
  go_enter Tryz.func82, Tryz.ntmps82
  go_wp2_with fail
  clear c1
  obtain ⟨R, hRe⟩ : ∃ R, w.heap.size = R := ⟨_, rfl⟩
  rw [hRe] at HR hbR ⊢
  have HRe := Lib.hid hRe
  clear hRe
  generalize w.alloc (.cells #[.int .i64 0, .string ⟨#[]⟩, .slice none 0 0, .string ⟨#[]⟩, .int .i64 0] 74) = w0 at HS HO HR ⊢
  refine (C1.out w0 HS.out).mono ?_
  rintro r w1 ⟨rfl, h1, o1⟩
  have HS1 := Lib.hid h1
  have HO1 := Lib.hid (HO.out.trans o1)
  have HR1 := Lib.hid (o1.heap HR.out (by omega))
  clear h1 o1 HS HO HR C1
  go_wp2_with fail
  refine (C2.out w1 HS1.out).mono ?_
  rintro r w2 ⟨rfl, h2, o2⟩
  have HS2 := Lib.hid h2
  have HO2 := Lib.hid (HO1.out.trans o2)
  have HR2 := Lib.hid (o2.heap HR1.out (by omega))
  clear h2 o2 HS1 HO1 HR1 C2
  have r0 := Lib.cell_of_heap HR2.out 0
  have r1 := Lib.cell_of_heap HR2.out 1
  have r2 := Lib.cell_of_heap HR2.out 2
  have r3 := Lib.cell_of_heap HR2.out 3
  have r4 := Lib.cell_of_heap HR2.out 4
  have f0 := Lib.frozen_of_heap HR2.out 0
  have f1 := Lib.frozen_of_heap HR2.out 1
  have f2 := Lib.frozen_of_heap HR2.out 2
  have f3 := Lib.frozen_of_heap HR2.out 3
  have f4 := Lib.frozen_of_heap HR2.out 4
  simp only [List.getElem?_toArray, List.getElem?_cons_zero, List.getElem?_cons_succ] at r0 r1 r2 r3 r4
  go_wp2
  refine bodyPost_ret (res_piece _ rfl _ R rfl _ _ _ _ _ _ 74 (0, 0) (st5_heap HR2.out _ _ _ _ _)) rfl ⟨_, rfl, ⟨_, rfl, rowsB_nil b _, fresh_nil _⟩, ?_, ?_⟩
  · exact st5_sc HS2.out (by omega) (by omega) _ _ _ _ _
  · exact st5_only HO2.out (by have := HRe.out; omega) _ _ _ _ _
/-- **(*Scanner).text.** -/
theorem stext (B b : Nat) (s : ByteArray) (σ : St) (w : World) (hS : Sc B b s σ w) :
    Calls Tryz.prog 82 #[.pointer (some ⟨b, 0, none⟩)] w (Gives B b s w (textS (bl s) σ).1 (textS (bl s) σ).2) := by
  have hl := hS.len
  have hps := hS.pos
  have hr := run_len tb (bl s) σ
  rw [bl_size] at hr
  have c1 := fun w (h : Sc B b s σ w) => swhile B b s σ w h _ _ tb enters_text (fun w' _ => tells_text w')
  have c2 := fun w (h : Sc B b s (whileS tb (bl s) σ) w) => sopened B b s (str (runW tb (bl s) σ)) _ w σ.pos (by rw [str_size]; omega) (by rw [str_size]; omega) h
  rw [str_bl] at c2
  unfold textS
  generalize whileS tb (bl s) σ = σ1 at c1 c2 ⊢
  exact stext0 B b s σ σ1 _ w hS _ _ (Lib.hid c1) (Lib.hid c2)

set_option maxHeartbeats 4000000 in
theorem sclosing0 (B b : Nat) (s : ByteArray) (σ σ1 σ2 σ3 : St) (w : World) (hS : Sc B b s σ w) (n : List UInt8)
    (C1 : Hid (∀ w, Sc B b s σ w → Calls Tryz.prog 98 #[.pointer (some ⟨b, 0, none⟩)] w fun r w' => r = .returned (.string (str n)) ∧ Sc B b s σ1 w' ∧ Only b w w'))
    (C2 : Hid (∀ w, Sc B b s σ1 w → Calls Tryz.prog 99 #[.pointer (some ⟨b, 0, none⟩), .func (.func 100) #[] #[]] w fun r w' => (∃ T, r = .returned (.string T)) ∧ Sc B b s σ2 w' ∧ Only b w w'))
    (C3 : Hid (∀ w, Sc B b s σ2 w → Calls Tryz.prog 101 #[.pointer (some ⟨b, 0, none⟩), .string ⟨#[62]⟩] w fun r w' => r = .returned (.tuple #[]) ∧ Sc B b s σ3 w' ∧ Only b w w')) :
    Calls Tryz.prog 80 #[.pointer (some ⟨b, 0, none⟩)] w (Gives B b s w ⟨2, n, [], [], 0⟩ σ3) := by
  have HS := Lib.hid (hS.step ((Below.refl _ _).alloc (Nat.le_refl _) (.cells #[.int .i64 0, .string ⟨#[]⟩, .slice none 0 0, .string ⟨#[]⟩, .int .i64 0] 74)))
  have HO := Lib.hid (Only.alloc b w (.cells #[.int .i64 0, .string ⟨#[]⟩, .slice none 0 0, .string ⟨#[]⟩, .int .i64 0] 74))
  have HR := Lib.hid (heap_alloc_new w (.cells #[.int .i64 0, .string ⟨#[]⟩, .slice none 0 0, .string ⟨#[]⟩, .int .i64 0] 74))
  have hbR : b < w.heap.size := hS.lt
  have hBb := hS.base
  clear hS
  go_enter Tryz.func80, Tryz.ntmps80
  go_wp2_with fail
  obtain ⟨R, hRe⟩ : ∃ R, w.heap.size = R := ⟨_, rfl⟩
  rw [hRe] at HR hbR ⊢
  have HRe := Lib.hid hRe
  clear hRe
  generalize w.alloc (.cells #[.int .i64 0, .string ⟨#[]⟩, .slice none 0 0, .string ⟨#[]⟩, .int .i64 0] 74) = w0 at HS HO HR ⊢
  refine (C1.out w0 HS.out).mono ?_
  rintro r w1 ⟨rfl, h1, o1⟩
  have HS1 := Lib.hid (h1.step ((Below.refl _ _).alloc (Nat.le_refl _) (.cells #[.int .i64 2, .string (str n), .slice none 0 0, .string ⟨#[]⟩, .int .i64 0] 74)))
  have HO1 := Lib.hid ((HO.out.trans o1).trans (Only.alloc b w1 (.cells #[.int .i64 2, .string (str n), .slice none 0 0, .string ⟨#[]⟩, .int .i64 0] 74)))
  have HP := Lib.hid (heap_alloc_new w1 (.cells #[.int .i64 2, .string (str n), .slice none 0 0, .string ⟨#[]⟩, .int .i64 0] 74))
  have hRP : R < w1.heap.size := (Array.getElem?_eq_some_iff.1 (o1.heap HR.out (by omega))).1
  have HR1 := Lib.hid ((Only.alloc b w1 (.cells #[.int .i64 2, .string (str n), .slice none 0 0, .string ⟨#[]⟩, .int .i64 0] 74)).heap (o1.heap HR.out (by omega)) (by omega))
  clear h1 o1 HS HO HR C1
  go_wp2_with fail
  obtain ⟨P, hPe⟩ : ∃ P, w1.heap.size = P := ⟨_, rfl⟩
  rw [hPe] at HP hRP ⊢
  clear hPe
  generalize w1.alloc (.cells #[.int .i64 2, .string (str n), .slice none 0 0, .string ⟨#[]⟩, .int .i64 0] 74) = w2 at HS1 HO1 HP HR1 ⊢
  refine (C2.out w2 HS1.out).mono ?_
  rintro r w3 ⟨⟨T3, rfl⟩, h3, o3⟩
  have HS3 := Lib.hid h3
  have HO3 := Lib.hid o3
  clear h3 o3 C2 HS1
  go_wp2_with fail
  refine (C3.out w3 HS3.out).mono ?_
  rintro r w4 ⟨rfl, h4, o4⟩
  have HS4 := Lib.hid h4
  have HO4 := Lib.hid (HO3.out.trans o4)
  clear h4 o4 C3 HS3 HO3
  have HR2 := Lib.hid (HO4.out.heap HR1.out (by omega))
  have HP2 := Lib.hid (HO4.out.heap HP.out (by omega))
  have HO2 := Lib.hid (HO1.out.trans HO4.out)
  clear HR1 HP HO4 HO1
  have r0 := Lib.cell_of_heap HR2.out 0
  have r1 := Lib.cell_of_heap HR2.out 1
  have r2 := Lib.cell_of_heap HR2.out 2
  have r3 := Lib.cell_of_heap HR2.out 3
  have r4 := Lib.cell_of_heap HR2.out 4
  have f0 := Lib.frozen_of_heap HR2.out 0
  have f1 := Lib.frozen_of_heap HR2.out 1
  have f2 := Lib.frozen_of_heap HR2.out 2
  have f3 := Lib.frozen_of_heap HR2.out 3
  have f4 := Lib.frozen_of_heap HR2.out 4
  simp only [List.getElem?_toArray, List.getElem?_cons_zero, List.getElem?_cons_succ] at r0 r1 r2 r3 r4
  have p0 := Lib.cell_of_heap HP2.out 0
  have p1 := Lib.cell_of_heap HP2.out 1
  have p2 := Lib.cell_of_heap HP2.out 2
  have p3 := Lib.cell_of_heap HP2.out 3
  have p4 := Lib.cell_of_heap HP2.out 4
  simp only [List.getElem?_toArray, List.getElem?_cons_zero, List.getElem?_cons_succ] at p0 p1 p2 p3 p4
  go_wp2
  refine bodyPost_ret (res_piece _ rfl _ R rfl _ _ _ _ _ _ 74 (0, 0) (st5_heap HR2.out _ _ _ _ _)) rfl ⟨_, rfl, ⟨_, rfl, rowsB_nil b _, fresh_nil _⟩, ?_, ?_⟩
  · exact st5_sc HS4.out (by omega) (by omega) _ _ _ _ _
  · exact st5_only HO2.out (by have := HRe.out; omega) _ _ _ _ _
/-- **(*Scanner).closing.** -/
theorem sclosing (B b : Nat) (s : ByteArray) (σ : St) (w : World) (hS : Sc B b s σ w) :
    Calls Tryz.prog 80 #[.pointer (some ⟨b, 0, none⟩)] w (Gives B b s w (closingS (bl s) σ).1 (closingS (bl s) σ).2) := by
  have C1 := Lib.hid fun w h => sname B b s σ w h
  have C2 := Lib.hid fun w h => sblanks_t B b s (nameS (bl s) σ) w h
  have C3 := Lib.hid fun w h => smust_l B b s ⟨#[62]⟩ [62] rfl (by decide) (whileS bb (bl s) (nameS (bl s) σ)) w h
  unfold closingS
  generalize mustS [62] (bl s) (whileS bb (bl s) (nameS (bl s) σ)) = σ3 at C3 ⊢
  generalize whileS bb (bl s) (nameS (bl s) σ) = σ2 at C2 C3
  generalize nameS (bl s) σ = σ1 at C1 C2
  exact sclosing0 B b s σ σ1 σ2 σ3 w hS (runW nb (bl s) σ) C1 C2 C3

end Go.Proofs.YtekmenkebokdoaaGreatDoor
