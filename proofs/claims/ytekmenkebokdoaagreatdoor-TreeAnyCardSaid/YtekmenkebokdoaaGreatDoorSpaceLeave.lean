/-
  The walks of New, (*Spaces).Depth, Leave.
-/
import Derived.Test.YtekmenkebokdoaaGreatDoorSpaceDel
import Derived.Deep.RegionWith
namespace Go.Proofs.YtekmenkebokdoaaGreatDoor
open Go Go.RowKit
set_option maxRecDepth 100000

set_option maxHeartbeats 1000000 in
theorem pdepth (B b d : Nat) (L : List Tell) (w : World) (hS : Sp B b d L w) :
    Calls Tryz.prog 51 #[.pointer (some ⟨b, 0, none⟩)] w fun r w' => r = .returned (.int .i64 d) ∧ w' = w := by
  obtain ⟨_, k, cap, hb, _⟩ := hS
  have c0 := Lib.cell_of_heap hb 0
  simp only [List.getElem?_toArray, List.getElem?_cons_zero] at c0
  clear hb
  go_enter Tryz.func51, Tryz.ntmps51
  go_wp2
  go_ret
  exact ⟨rfl, rfl⟩
set_option maxHeartbeats 1000000 in
theorem pdepth_nil (w : World) :
    Calls Tryz.prog 51 #[.pointer none] w fun r w' => r = .returned (.int .i64 0) ∧ w' = w := by
  go_enter Tryz.func51, Tryz.ntmps51
  go_wp2
  go_ret
  exact ⟨rfl, rfl⟩

set_option maxHeartbeats 1000000 in
theorem pnew (w : World) :
    Calls Tryz.prog 24 #[] w fun r w' => ∃ b, r = .returned (.pointer (some ⟨b, 0, none⟩)) ∧ Sp w.heap.size b 0 tells0 w' ∧ Below w.heap.size w w' := by
  go_enter Tryz.func24, Tryz.ntmps24
  go_wp2
  go_ret
  refine ⟨w.heap.size + 1, rfl, ⟨by omega, w.heap.size, 2, ?_, ?_⟩, ((Below.refl _ w).alloc (Nat.le_refl _) _).alloc (by simp) _⟩
  · have := heap_alloc_new (w.alloc (.cells #[.string bXml, .string bXmlSpace, .int .i64 0, .string bNone, .string bNone, .int .i64 0] 68)) (.cells #[.int .i64 0, .slice (some ⟨w.heap.size, 0, none⟩) 2 2] 71)
    rw [World.size_alloc] at this
    exact this
  · exact (World.ownsRow_lit w #[.string bXml, .string bXmlSpace, .int .i64 0, .string bNone, .string bNone, .int .i64 0] 2 (Nat.le_refl _) (by decide) rfl).alloc _

set_option maxHeartbeats 1000000 in
theorem pleave_nil (w : World) :
    Calls Tryz.prog 45 #[.pointer none] w fun r w' => r = .returned (.tuple #[]) ∧ Below w.heap.size w w' := by
  go_enter Tryz.func45, Tryz.ntmps45
  go_wp2
  (try simp only [Exit.inBlock, Exit.then])
  refine bodyPost_ret (results_none rfl _ _ _) rfl ?_
  exact ⟨rfl, (Below.refl _ w).alloc (Nat.le_refl _) _⟩
set_option maxHeartbeats 1000000 in
theorem pleave_out (B b : Nat) (L : List Tell) (w : World) (hS : Sp B b 0 L w) :
    Calls Tryz.prog 45 #[.pointer (some ⟨b, 0, none⟩)] w fun r w' => r = .returned (.tuple #[]) ∧ Sp B b 0 L w' ∧ Below w.heap.size w w' := by
  have HS := Lib.hid hS
  have hl := hS.lt
  have hB1 := (Below.refl w.heap.size w).alloc (Nat.le_refl _) (.cells #[.pointer (some ⟨b, 0, none⟩)] 55)
  obtain ⟨_, k, cap, hb, _⟩ := hS
  have c0 := Lib.cell_of_heap hb 0
  simp only [List.getElem?_toArray, List.getElem?_cons_zero] at c0
  have c1 := (hB1.cell (p := ⟨b, 0, none⟩) hl).trans c0
  have H := Lib.hid hB1
  clear hb c0 hB1
  go_enter Tryz.func45, Tryz.ntmps45
  go_wp2
  (try simp only [Exit.inBlock, Exit.then])
  refine bodyPost_ret (results_none rfl _ _ _) rfl ?_
  exact ⟨rfl, HS.out.step H.out, H.out⟩

set_option maxHeartbeats 4000000 in
theorem pleave (B b d : Nat) (L : List Tell) (m : Nat) (w : World) (hS : Sp B b (d + 1) L w) (hd : d ≤ 100000) (hlen : L.length ≤ 1000) (hm : m ≤ L.length)
    (h1 : ∀ j (h : j < L.length), j < m → (L[j]'h).d ≤ d) (h2 : ∀ j (h : j < L.length), m ≤ j → d < (L[j]'h).d) :
    Calls Tryz.prog 45 #[.pointer (some ⟨b, 0, none⟩)] w fun r w' => r = .returned (.tuple #[]) ∧ Sp B b d (L.take m) w' ∧ Below B w w' ∧ Apart w w' := by
  have hl := hS.lt
  have hbase := hS.base
  obtain ⟨_, k, cap, hb, ho⟩ := hS
  have hbk : b ≠ k := own_block_ne ho hb (by decide)
  have hB1 := (Below.refl w.heap.size w).alloc (Nat.le_refl _) (.cells #[.pointer (some ⟨b, 0, none⟩)] 55)
  have c0 := Lib.cell_of_heap hb 0
  simp only [List.getElem?_toArray, List.getElem?_cons_zero] at c0
  have c0 := (hB1.cell (p := ⟨b, 0, none⟩) hl).trans c0
  have cd : (w.alloc (.cells #[.pointer (some ⟨b, 0, none⟩)] 55)).frozen? ⟨b, 0, none⟩ = false := (hB1.frozen (p := ⟨b, 0, none⟩) hl).trans (Lib.frozen_of_heap hb 0)
  obtain ⟨w1, hw1⟩ : ∃ w1, (w.setCell ⟨b, 0, none⟩ (.int .i64 d)).alloc (.cells #[.pointer (some ⟨b, 0, none⟩)] 55) = w1 := ⟨_, rfl⟩
  have hsz : (w.setCell ⟨b, 0, none⟩ (.int .i64 d)).heap.size = w.heap.size := by simp [World.setCell]
  have hA := (Below.refl (w.setCell ⟨b, 0, none⟩ (.int .i64 d)).heap.size (w.setCell ⟨b, 0, none⟩ (.int .i64 d))).alloc (Nat.le_refl _) (.cells #[.pointer (some ⟨b, 0, none⟩)] 55)
  have hs1 : w1.heap.size = w.heap.size + 1 := by rw [← hw1]; simp [World.setCell]
  have hKQ := heap_alloc_new (w.setCell ⟨b, 0, none⟩ (.int .i64 d)) (.cells #[.pointer (some ⟨b, 0, none⟩)] 55)
  rw [hw1] at hA hKQ
  rw [hsz] at hKQ
  have KB : Hid (Below B w w1) := Lib.hid (((Below.refl B w).setCell (p := ⟨b, 0, none⟩) hbase _).trans (hA.mono (by rw [hsz]; omega)))
  have KA : Hid (Apart w w1) := Lib.hid ((Apart.set hb (.inr rfl) _ _).trans (Apart.of hA))
  have KH := Lib.hid ((hA.block b (by rw [hsz]; exact hl)).trans (heap_put (o := 0) (.int .i64 d) hb))
  have KO := Lib.hid (own_kept (ownsRow_setCell_other ho (a := ⟨b, 0, none⟩) (by intro e; exact hbk (by cases e; rfl)) (.int .i64 d)) hA)
  have KQ := Lib.hid hKQ
  have HW1 := Lib.hid hw1
  have H1 := Lib.hid h1
  have H2 := Lib.hid h2
  have hqb : ¬ w.heap.size = b := by omega
  have e1 : wrap64 (d : Int) = (d : Int) := by unfold wrap64; omega
  clear hB1 hb ho h1 h2 hA hKQ hw1 hsz
  go_enter Tryz.func45, Tryz.ntmps45
  go_wp2_with fail
  rw [HW1.out]
  clear c0 cd HW1
  obtain ⟨q, hq⟩ : ∃ q, w.heap.size = q := ⟨_, rfl⟩
  rw [hq] at KQ hs1 hqb ⊢
  have hKH : w1.heap[b]? = some (.cells #[.int .i64 d, .slice (some ⟨k, 0, none⟩) L.length cap] 71 (0, 0)) := KH.out
  have hkl := (KO.out.lt k rfl).2
  have hkB := (KO.out.lt k rfl).1
  have hqk : q ≠ k := own_block_ne KO.out KQ.out (by decide)
  -- the call, in whatever world that draws alone have led to
  have CD : ∀ wx, Below w1.heap.size w1 wx → Calls Tryz.prog 57 #[.slice (some ⟨k, 0, none⟩) L.length cap, .func (.func 58) #[] #[.pointer (some ⟨q, 0, none⟩)]] wx fun r wy =>
      r = .returned (.slice (some ⟨k, 0, none⟩) m cap) ∧ wy.cell? ⟨q, 0, none⟩ = some (.pointer (some ⟨b, 0, none⟩)) ∧ wy.cell? ⟨b, 1, none⟩ = some (.slice (some ⟨k, 0, none⟩) L.length cap) ∧ wy.frozen? ⟨b, 1, none⟩ = false ∧
      Hid (wy.heap[b]? = some (.cells #[.int .i64 d, .slice (some ⟨k, 0, none⟩) L.length cap] 71 (0, 0)) ∧ wy.ownsRow B 68 3 (.slice (some ⟨k, 0, none⟩) m cap) m (cellsT (L.take m)) ∧ Below B w1 wy ∧ Apart w1 wy) := fun wx hx => by
    have hox := own_kept KO.out hx
    have hbx := (hx.block b (by omega)).trans hKH
    have hqx := (hx.block q (by omega)).trans KQ.out
    refine (pdel B q b k cap d L m wx (Nat.lt_of_lt_of_le (by omega) hx.size) (Nat.lt_of_lt_of_le (by omega) hx.size) hlen hm (by rw [Lib.cell_of_heap hqx]; rfl) (by rw [Lib.cell_of_heap hbx]; rfl) hox H1.out H2.out).mono ?_
    rintro r wy ⟨rfl, ho, hg⟩
    have hby := (hg.block b (Nat.lt_of_lt_of_le (by omega) hx.size) (by intro e; exact hbk (by cases e; rfl))).trans hbx
    have hqy := (hg.block q (Nat.lt_of_lt_of_le (by omega) hx.size) (by intro e; exact hqk (by cases e; rfl))).trans hqx
    refine ⟨rfl, by rw [Lib.cell_of_heap hqy]; rfl, by rw [Lib.cell_of_heap hby]; rfl, Lib.frozen_of_heap hby 1, Lib.hid ⟨hby, ho, (hx.mono (by omega)).grown hg (by have := hx.size; omega) (fun j e => by cases e; exact hkB), (Apart.of hx).trans (Apart.grown hg (fun j e => ?_))⟩⟩
    cases e
    rcases hox.2 with ⟨h', _⟩ | ⟨g', cap', cur, h', _, hg', _⟩
    · simp at h'
    · simp only [Value.slice.injEq, Option.some.injEq, Addr.mk.injEq, and_true, true_and] at h'
      obtain ⟨rfl, rfl⟩ := h'
      exact ⟨_, _, _, hg', .inl rfl⟩
  have HF := Lib.hid (fun wy (h : Hid (wy.heap[b]? = some (.cells #[.int .i64 d, .slice (some ⟨k, 0, none⟩) L.length cap] 71 (0, 0)) ∧ wy.ownsRow B 68 3 (.slice (some ⟨k, 0, none⟩) m cap) m (cellsT (L.take m)) ∧ Below B w1 wy ∧ Apart w1 wy)) =>
    have p := Sp.put (by rw [List.length_take, Nat.min_eq_left hm]) hbase h.out.1 h.out.2.1
    show Sp B b d (L.take m) (wy.setCell ⟨b, 1, none⟩ (.slice (some ⟨k, 0, none⟩) m cap)) ∧ Below B w (wy.setCell ⟨b, 1, none⟩ (.slice (some ⟨k, 0, none⟩) m cap)) ∧ Apart w (wy.setCell ⟨b, 1, none⟩ (.slice (some ⟨k, 0, none⟩) m cap)) from
      ⟨p.1, (KB.out.trans h.out.2.2.1).trans p.2.1, (KA.out.trans h.out.2.2.2).trans p.2.2⟩)
  have CD := Lib.hid CD
  have q0 := Lib.cell_of_heap KQ.out 0
  have b1 := Lib.cell_of_heap hKH 1
  simp only [List.getElem?_toArray, List.getElem?_cons_zero, List.getElem?_cons_succ] at q0 b1
  clear hKH hkl hkB hqk hs1 hlen hm hl hq
  go_region_with (go_at_call 57; refine (CD.out _ (by first | exact Below.refl _ _ | exact (Below.refl _ _).drew)).mono ?_; rintro e wy ⟨rfl, qy, by1, fy, KY⟩)
  all_goals
    go_end0
    exact ⟨rfl, HF.out wy KY⟩

end Go.Proofs.YtekmenkebokdoaaGreatDoor
