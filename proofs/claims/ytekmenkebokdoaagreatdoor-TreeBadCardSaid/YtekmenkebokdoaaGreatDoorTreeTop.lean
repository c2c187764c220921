/-
  The walk of Parse, with the deferred call that recovers.
-/
import Derived.Test.YtekmenkebokdoaaGreatDoorTreeWhole
namespace Go.Proofs.YtekmenkebokdoaaGreatDoor
open Go Go.RowKit
set_option maxRecDepth 100000

/-- The deferred closure, of a frame that returns: recover finds nothing. -/
theorem catch_idle (p q : Addr) (w : World) :
    CallsD Tryz.prog 22 #[.pointer (some p), .pointer (some q)] .returning w fun e u' w' => e = .returned (.tuple #[]) ∧ u' = .returning ∧ w' = w := by
  refine callsD_of_wpS Tryz.func22 rfl fun c₀ cs hu => ?_
  apply wpS_seq
  apply wpS_region
  simp [wpOpsS, go_sem, recoverD, hu, Tryz.ntmps22, Exit.thenS]
  refine wpS_of_wp ?_
  go_wp2
  cases c₀
  simp_all [bodyPostS, results, Tryz.results22]
set_option maxHeartbeats 2000000 in
theorem as_wrong (v : Value) (w : World) : (Instr.typeAssert (.iface 52 v) 20 52 true).run Tryz.prog w = .ok (.tuple #[v, .bool true]) w := by kernel_rfl
set_option maxHeartbeats 2000000 in
theorem catch_wrong (A : Nat) (x y e a : Int) (w : World) (h1 : w.heap[A + 1]? = some (.cells #[.int .i64 x] 3 (0, 0))) (h2 : w.heap[A + 1 + 1]? = some (.cells #[.int .i64 y] 29 (0, 0))) :
    CallsD Tryz.prog 22 #[.pointer (some ⟨A + 1, 0, none⟩), .pointer (some ⟨A + 1 + 1, 0, none⟩)] (.panicking [{ v := .iface 52 (.agg #[.int .i64 e, .int .i64 a]), recovered := false }]) w fun r u' w' =>
      r = .returned (.tuple #[]) ∧ u' = .panicking [{ v := .iface 52 (.agg #[.int .i64 e, .int .i64 a]), recovered := true }] ∧
      w'.heap[A + 1]? = some (.cells #[.int .i64 a] 3 (0, 0)) ∧ w'.heap[A + 1 + 1]? = some (.cells #[.int .i64 e] 29 (0, 0)) ∧ Below A w w' ∧ w'.heap[A]? = w.heap[A]? := by
  have hta := as_wrong (.agg #[.int .i64 e, .int .i64 a])
  have c1 := Lib.cell_of_heap h1 0
  have c2 := Lib.cell_of_heap h2 0
  have f1 := Lib.frozen_of_heap h1 0
  have f2 := Lib.frozen_of_heap h2 0
  simp only [List.getElem?_toArray, List.getElem?_cons_zero] at c1 c2
  have hl1 : A + 1 < w.heap.size := (Array.getElem?_eq_some_iff.1 h1).1
  have hl2 : A + 1 + 1 < w.heap.size := (Array.getElem?_eq_some_iff.1 h2).1
  have H1 := Lib.hid h1
  have H2 := Lib.hid h2
  clear h1 h2
  refine callsD_of_wpS Tryz.func22 rfl fun c₀ cs hu => ?_
  apply wpS_seq
  apply wpS_region
  simp [wpOpsS, go_sem, recoverD, hu, Tryz.ntmps22, Exit.thenS]
  refine wpS_of_wp ?_
  go_wp2
  go_region
  all_goals
    go_wp2
    refine ⟨rfl, _, rfl, .tuple #[], by simp [results, Tryz.results22], rfl, rfl, ?_, ?_, ?_, ?_⟩
    · show (((w.setCell ⟨A + 1, 0, none⟩ (.int .i64 a)).setCell ⟨A + 1 + 1, 0, none⟩ (.int .i64 e)).alloc _).heap[A + 1]? = _
      rw [Below.heap_alloc _ _ _ (by simpa [World.setCell] using hl1), Below.heap_setCell _ _ _ _ (by show A + 1 ≠ A + 1 + 1; omega), heap_put _ H1.out]; rfl
    · show (((w.setCell ⟨A + 1, 0, none⟩ (.int .i64 a)).setCell ⟨A + 1 + 1, 0, none⟩ (.int .i64 e)).alloc _).heap[A + 1 + 1]? = _
      rw [Below.heap_alloc _ _ _ (by simpa [World.setCell] using hl2), heap_put _ ((Below.heap_setCell _ _ _ _ (by show A + 1 + 1 ≠ A + 1; omega)).trans H2.out)]; rfl
    · exact ((((Below.refl A w).setCell (p := ⟨A + 1, 0, none⟩) (by show A ≤ A + 1; omega) _).setCell (p := ⟨A + 1 + 1, 0, none⟩) (by show A ≤ A + 1 + 1; omega) _).alloc (by simp [World.setCell]; omega) _).drew
    · show (((w.setCell ⟨A + 1, 0, none⟩ (.int .i64 a)).setCell ⟨A + 1 + 1, 0, none⟩ (.int .i64 e)).alloc _).heap[A]? = _
      rw [Below.heap_alloc _ _ _ (by simp [World.setCell]; omega), Below.heap_setCell _ _ _ _ (by show A ≠ A + 1 + 1; omega), Below.heap_setCell _ _ _ _ (by show A ≠ A + 1; omega)]
/-- What Parse answers. -/
def PaGives (D : List UInt8) (w : World) (r : Ending) (w' : World) : Prop :=
  ((∃ e a, parseL D = .bad e a ∧ r = .returned (.tuple #[.agg #[.string ⟨#[]⟩, .string ⟨#[]⟩, .slice none 0 0, .slice none 0 0, .string ⟨#[]⟩], .int .i64 a, .int .i64 e])) ∨
    ∃ x v, parseL D = .ok x ∧ r = .returned (.tuple #[v, .int .i64 0, .int .i64 0]) ∧ NodeV (NB w.heap.size none w') w' v x) ∧ Below w.heap.size w w'
set_option maxHeartbeats 8000000 in
theorem dparse (s : ByteArray) (w : World) (hE : EntV w) (hT : Tabs w) (hs : s.size ≤ 4000000000) :
    Calls Tryz.prog 9 #[.string s] w (PaGives (bl s) w) := by
  have hmf : ∀ (fn : Fn) (first cap : Array Value) (w : World), (Instr.makeFunc fn first cap).run Tryz.prog w = .ok (.func fn first cap) w := fun _ _ _ _ => rfl
  have HE := Lib.hid hE
  have HT := Lib.hid hT
  clear hE hT
  go_enter_defers Tryz.func9, Tryz.ntmps9
  go_wp2_with fail
  obtain ⟨A, hAe⟩ : ∃ A, w.heap.size = A := ⟨_, rfl⟩
  have hb1 := (Below.refl w.heap.size w).alloc (Nat.le_refl _) (.cells #[.string ⟨#[]⟩, .string ⟨#[]⟩, .slice none 0 0, .slice none 0 0, .string ⟨#[]⟩] 25)
  have hb2 := hb1.alloc (by simp) (.cells #[.int .i64 0] 3)
  have hb3 := hb2.alloc (by simp; omega) (.cells #[.int .i64 0] 29)
  obtain ⟨w0, hw0⟩ : ∃ w0, ((w.alloc (.cells #[.string ⟨#[]⟩, .string ⟨#[]⟩, .slice none 0 0, .slice none 0 0, .string ⟨#[]⟩] 25)).alloc (.cells #[.int .i64 0] 3)).alloc (.cells #[.int .i64 0] 29) = w0 := ⟨_, rfl⟩
  have h0 : w0.heap[A]? = some (.cells #[.string ⟨#[]⟩, .string ⟨#[]⟩, .slice none 0 0, .slice none 0 0, .string ⟨#[]⟩] 25 (0, 0)) := by
    rw [← hw0, ← hAe, Below.heap_alloc _ _ _ (by simp; omega), Below.heap_alloc _ _ _ (by simp)]; exact heap_alloc_new w _
  have h1 : w0.heap[A + 1]? = some (.cells #[.int .i64 0] 3 (0, 0)) := by
    have := heap_alloc_new (w.alloc (.cells #[.string ⟨#[]⟩, .string ⟨#[]⟩, .slice none 0 0, .slice none 0 0, .string ⟨#[]⟩] 25)) (.cells #[.int .i64 0] 3)
    rw [World.size_alloc, hAe] at this
    rw [← hw0, Below.heap_alloc _ _ _ (by simp; omega)]; exact this
  have h2 : w0.heap[A + 1 + 1]? = some (.cells #[.int .i64 0] 29 (0, 0)) := by
    have := heap_alloc_new ((w.alloc (.cells #[.string ⟨#[]⟩, .string ⟨#[]⟩, .slice none 0 0, .slice none 0 0, .string ⟨#[]⟩] 25)).alloc (.cells #[.int .i64 0] 3)) (.cells #[.int .i64 0] 29)
    rw [World.size_alloc, World.size_alloc, hAe] at this
    rw [← hw0]; exact this
  have hs0 : w0.heap.size = A + 3 := by rw [← hw0, ← hAe]; simp
  rw [hw0] at hb3
  have HB0 := Lib.hid hb3
  have CN := Lib.hid (snew s w0 (HE.out.below hb3) (HT.out.below hb3) hs)
  have H0 := Lib.hid h0
  have H1 := Lib.hid h1
  have H2 := Lib.hid h2
  have HS0 := Lib.hid hs0
  rw [hw0, hAe]
  have HA := Lib.hid hAe
  clear hb1 hb2 hb3 h0 h1 h2 hs0 hw0 hAe
  refine CN.out.mono ?_
  rintro r w1 ⟨b, hbe, rfl, hS1, hB1⟩
  have HS1 := Lib.hid hS1
  have HB1 := Lib.hid hB1
  have CP := Lib.hid (pnew w1)
  clear hS1 hB1 hbe CN
  go_wp2_with fail
  refine CP.out.mono ?_
  rintro r w2 ⟨q, rfl, hS2, hB2⟩
  obtain ⟨dd, hdd⟩ : ∃ dd, w2.heap.size = dd := ⟨_, rfl⟩
  have hA := (Below.refl w2.heap.size w2).alloc (Nat.le_refl _) (.cells #[.pointer (some ⟨b, 0, none⟩), .pointer (some ⟨q, 0, none⟩), .int .i64 0] 58)
  have hB12 : Below w0.heap.size w1 (w2.alloc (.cells #[.pointer (some ⟨b, 0, none⟩), .pointer (some ⟨q, 0, none⟩), .int .i64 0] 58)) := (hB2.mono HB1.out.size).trans (hA.mono (Nat.le_trans HB1.out.size hB2.size))
  have HDS := Lib.hid (show DS w0.heap.size dd b q s (newS (bl s)) 0 tells0 0 (w2.alloc (.cells #[.pointer (some ⟨b, 0, none⟩), .pointer (some ⟨q, 0, none⟩), .int .i64 0] 58)) from
    ⟨(HS1.out.step hB2).step hA, (hS2.mono HB1.out.size).step hA, by rw [← hdd]; exact Nat.le_trans HB1.out.size hB2.size, by rw [← hdd]; exact heap_alloc_new w2 _,
      ⟨new_scn _, fun he => by unfold newS at he; split at he; (cases he); omega, fun t ht => by rcases List.mem_cons.1 ht with rfl | ht; (exact Nat.le_refl _); rw [List.mem_singleton.1 ht]; exact Nat.le_refl _, by decide, by decide, by decide⟩⟩)
  have HB3 := Lib.hid (HB1.out.trans hB12)
  have hdd := Lib.hid hdd
  clear hS2 hB2 hA hB12 CP HS1 HB1
  go_wp2_with fail
  generalize w2.alloc (.cells #[.pointer (some ⟨b, 0, none⟩), .pointer (some ⟨q, 0, none⟩), .int .i64 0] 58) = w3 at HDS HB3 ⊢
  have CW := Lib.hid (dwhole _ dd b q s _ _ _ w3 HDS.out (parseL (bl s)) rfl)
  go_wp2_with fail
  refine CW.out.mono ?_
  rintro r w4 ⟨hcase, hB4⟩
  have hB5 := HB3.out.trans hB4
  have k0 := (hB5.block A (by have := HS0.out; omega)).trans H0.out
  have k1 := (hB5.block (A + 1) (by have := HS0.out; omega)).trans H1.out
  have k2 := (hB5.block (A + 1 + 1) (by have := HS0.out; omega)).trans H2.out
  have HB4 := Lib.hid (show Below w.heap.size w w4 from HB0.out.trans (hB5.mono (by have := HS0.out; have := HA.out; omega)))
  have HAS := Lib.hid (show A + 3 ≤ w4.heap.size by have := HS0.out; have := hB5.size; omega)
  have HL3 := Lib.hid (show A + 3 ≤ w3.heap.size by have := HS0.out; have := HB3.out.size; omega)
  clear hB4 hB5 CW
  rcases hcase with ⟨e, a, rfl, hbad⟩ | ⟨x, v, rfl, hv, hok⟩
  · have HE2 := Lib.hid hbad
    clear hbad
    refine leaves_cons (f := 22) (args := #[.pointer (some ⟨A + 1, 0, none⟩), .pointer (some ⟨A + 1 + 1, 0, none⟩)]) (by simp) (by simp [go_sem]) ?_
    refine (catch_wrong A 0 0 e a w4 k1 k2).mono ?_
    rintro r u' w5 ⟨rfl, rfl, h1, h2, hb, h3⟩
    have c1 := Lib.cell_of_heap h1 0
    have c2 := Lib.cell_of_heap h2 0
    have k5 := h3.trans k0
    have n0 := Lib.cell_of_heap k5 0
    have n1 := Lib.cell_of_heap k5 1
    have n2 := Lib.cell_of_heap k5 2
    have n3 := Lib.cell_of_heap k5 3
    have n4 := Lib.cell_of_heap k5 4
    simp only [List.getElem?_toArray, List.getElem?_cons_zero, List.getElem?_cons_succ] at c1 c2 n0 n1 n2 n3 n4
    have HF := Lib.hid (show PaGives (bl s) w (.returned (.tuple #[.agg #[.string ⟨#[]⟩, .string ⟨#[]⟩, .slice none 0 0, .slice none 0 0, .string ⟨#[]⟩], .int .i64 a, .int .i64 e])) w5 from
      ⟨.inl ⟨e, a, HE2.out, rfl⟩, HB4.out.trans (hb.mono (by have := HA.out; omega))⟩)
    clear h1 h2 hb h3 k5 k0 k1 k2
    simp [Leaves, settle, results, Tryz.results9, go_sem, c1, c2, n0, n1, n2, n3, n4]
    exact HF.out
  · obtain ⟨sp, nm, t, a1, n1, c1, a2, n2, c2, rfl⟩ := hv.form
    have HOK := Lib.hid hok
    have HV := Lib.hid hv
    have x0 := Lib.cell_of_heap k0 0
    have x1 := Lib.cell_of_heap k0 1
    have x2 := Lib.cell_of_heap k0 2
    have x3 := Lib.cell_of_heap k0 3
    have x4 := Lib.cell_of_heap k0 4
    have y1 := Lib.cell_of_heap k1 0
    have y2 := Lib.cell_of_heap k2 0
    have f0 := Lib.frozen_of_heap k0 0
    have f1 := Lib.frozen_of_heap k0 1
    have f2 := Lib.frozen_of_heap k0 2
    have f3 := Lib.frozen_of_heap k0 3
    have f4 := Lib.frozen_of_heap k0 4
    have g1 := Lib.frozen_of_heap k1 0
    have g2 := Lib.frozen_of_heap k2 0
    simp only [List.getElem?_toArray, List.getElem?_cons_zero, List.getElem?_cons_succ] at x0 x1 x2 x3 x4 y1 y2
    have K0 := Lib.hid k0
    have K1 := Lib.hid k1
    have K2 := Lib.hid k2
    clear hok hv k0 k1 k2
    go_wp2
    refine leaves_cons (f := 22) (args := #[.pointer (some ⟨A + 1, 0, none⟩), .pointer (some ⟨A + 1 + 1, 0, none⟩)]) (by simp) (by simp [go_sem]) ?_
    refine (catch_idle ⟨A + 1, 0, none⟩ ⟨A + 1 + 1, 0, none⟩ _).mono ?_
    rintro r u' w5 ⟨rfl, rfl, hw5⟩
    have o1 := st5_onlyR w4 A (.string sp) (.string nm) (.slice a1 n1 c1) (.slice a2 n2 c2) (.string t)
    have o2 := Only.set (A + 1) 0 (st5 w4 A (.string sp) (.string nm) (.slice a1 n1 c1) (.slice a2 n2 c2) (.string t)) (.int .i64 0)
    have o3 := Only.set (A + 1 + 1) 0 ((st5 w4 A (.string sp) (.string nm) (.slice a1 n1 c1) (.slice a2 n2 c2) (.string t)).setCell ⟨A + 1, 0, none⟩ (.int .i64 0)) (.int .i64 0)
    have k0 := o3.heap (o2.heap (st5_heap K0.out (.string sp) (.string nm) (.slice a1 n1 c1) (.slice a2 n2 c2) (.string t)) (by omega)) (by omega)
    have k1 := o3.heap (heap_put (o := 0) (.int .i64 0) (o1.heap K1.out (by omega))) (by omega)
    have k2 := heap_put (o := 0) (.int .i64 0) (o2.heap (o1.heap K2.out (by omega)) (by omega))
    have hW := ((HV.out.only (Q' := w3.heap.size) o1 (by have := HL3.out; omega) (Nat.le_refl _)).only (Q' := w3.heap.size) o2 (by have := HL3.out; omega) (Nat.le_refl _)).only (Q' := w.heap.size) o3 (by have := HL3.out; omega) (by have := HL3.out; have := HA.out; omega)
    have hbb := ((HB4.out.trans (o1.below (by have := HA.out; omega) HB4.out.size)).trans (o2.below (by have := HA.out; omega) (Nat.le_trans HB4.out.size o1.size))).trans (o3.below (by have := HA.out; omega) (Nat.le_trans HB4.out.size (Nat.le_trans o1.size o2.size)))
    have hw6 : w5 = ((st5 w4 A (.string sp) (.string nm) (.slice a1 n1 c1) (.slice a2 n2 c2) (.string t)).setCell ⟨A + 1, 0, none⟩ (.int .i64 0)).setCell ⟨A + 1 + 1, 0, none⟩ (.int .i64 0) := hw5
    rw [← hw6] at k0 k1 k2 hW hbb
    have n0' := Lib.cell_of_heap k0 0
    have n1' := Lib.cell_of_heap k0 1
    have n2' := Lib.cell_of_heap k0 2
    have n3' := Lib.cell_of_heap k0 3
    have n4' := Lib.cell_of_heap k0 4
    have m1 := Lib.cell_of_heap k1 0
    have m2 := Lib.cell_of_heap k2 0
    simp at n0' n1' n2' n3' n4' m1 m2
    have HF := Lib.hid (show PaGives (bl s) w (.returned (.tuple #[.agg #[.string sp, .string nm, .slice a1 n1 c1, .slice a2 n2 c2, .string t], .int .i64 0, .int .i64 0])) w5 from
      ⟨.inr ⟨x, _, HOK.out, rfl, hW⟩, hbb⟩)
    clear k0 k1 k2 o1 o2 o3 hW hbb hw5 hw6 x0 x1 x2 x3 x4 y1 y2 f0 f1 f2 f3 f4 g1 g2
    simp [Leaves, settle, results, Tryz.results9, go_sem, n0', n1', n2', n3', n4', m1, m2]
    exact HF.out

end Go.Proofs.YtekmenkebokdoaaGreatDoor
