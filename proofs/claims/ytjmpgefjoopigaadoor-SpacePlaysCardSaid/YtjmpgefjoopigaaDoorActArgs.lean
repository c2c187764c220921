/-
  A slice of acts that was handed in.
-/
import Derived.Test.YtjmpgefjoopigaaDoorSpacePl
import Derived.OpenShut
import Derived.Deep.Slices
import Derived.Deep.Fields
import Derived.ChangeSame
import Derived.Carry
namespace Go.Proofs.YtjmpgefjoopigaaDoor
open Go Go.RowKit Go.ChangeShapes Go.Deep
set_option maxRecDepth 100000

theorem act_cell_lt {w : World} {b o : Nat} {v : Value} (h : w.cell? ⟨b, o, none⟩ = some v) : b < w.heap.size := World.block_lt_of_cell? w _ h
theorem acts_open {H : Type} {enc : TypeId × Value → H} {W : World} {ao : Option Addr} {n ca : Nat} {d : DataW H} {p : List MemPlace}
    (h : DataW.Trod enc Tryd.prog W 0 (fun _ => true) true 22 (.slice ao n ca) d p) : n ≤ maxLen ∧ ActsIn W ao n := by
  obtain ⟨fuel, hf⟩ := h
  rcases open_slice Tryd.underlying22 hf with ⟨hcs, hx⟩ | ⟨a, len, cap, m, nn, D, Pl, hcs, _, hl, hm, hmm, hx, hi⟩
  · simp [Value.cells] at hcs
    obtain ⟨rfl, rfl, rfl⟩ := hcs
    exact ⟨Nat.zero_le _, fun h => absurd h (Nat.lt_irrefl _)⟩
  · simp [Value.cells] at hcs
    obtain ⟨rfl, rfl, rfl⟩ := hcs
    refine ⟨Nat.le_trans hl hm, fun hpos => ?_⟩
    simp only [if_true] at hmm
    have hC : Tryd.prog.cellsOf 29 = 4 := by kernel_rfl
    have hone : Tryd.prog.cellsOf 3 = 1 := by kernel_rfl
    have hthree : Tryd.prog.cellsOf 27 = 3 := by kernel_rfl
    have hget : ∀ i, i < n → ∀ q, q < 4 → ∃ z, W.cell? ((a.add (i * 4)).add q) = some (.int .i64 z) := fun i hin q hq => by
      obtain ⟨cs', h1, h2⟩ := hi i (by omega)
      rw [hC] at h1
      obtain ⟨ys, n', _, _, hlen, hyl, hfl⟩ := DataW.trod_struct Tryd.underlying29 h2
      obtain ⟨_, hcl, hat⟩ := World.cells?_some h1
      obtain ⟨y0, y1, rfl⟩ : ∃ y0 y1, ys = [y0, y1] := by
        match ys, hyl with
        | [y0, y1], _ => exact ⟨y0, y1, rfl⟩
      have e0 := hfl 0 _ rfl
      have e1 := hfl 1 _ rfl
      change DataW.trod enc Tryd.prog W 0 (fun _ => true) true n' 3 ((cs'.drop 0).take (Tryd.prog.cellsOf 3)) = some y0 at e0
      change DataW.trod enc Tryd.prog W 0 (fun _ => true) true n' 27 ((cs'.drop 1).take (Tryd.prog.cellsOf 27)) = some y1 at e1
      rw [hone] at e0
      rw [hthree] at e1
      obtain ⟨z0, hz0, _, _⟩ := DataW.trod_int Tryd.underlying3 e0
      obtain ⟨xs, m', _, _, _, hxl, hx3⟩ := DataW.trod_array Tryd.underlying27 e1
      rw [hone] at hx3
      obtain ⟨x0, x1, x2, rfl⟩ : ∃ x0 x1 x2, xs = [x0, x1, x2] := by
        match xs, hxl with
        | [x0, x1, x2], _ => exact ⟨x0, x1, x2, rfl⟩
      obtain ⟨z1, hz1, _, _⟩ := DataW.trod_int Tryd.underlying3 (hx3 0 (by decide))
      obtain ⟨z2, hz2, _, _⟩ := DataW.trod_int Tryd.underlying3 (hx3 1 (by decide))
      obtain ⟨z3, hz3, _, _⟩ := DataW.trod_int Tryd.underlying3 (hx3 2 (by decide))
      obtain ⟨c0, c1, c2, c3, rfl⟩ : ∃ c0 c1 c2 c3, cs' = [c0, c1, c2, c3] := by
        match cs', hcl with
        | [c0, c1, c2, c3], _ => exact ⟨c0, c1, c2, c3, rfl⟩
      simp at hz0 hz1 hz2 hz3
      subst hz0 hz1 hz2 hz3
      have hc := hat q hq
      match q, hq with
      | 0, _ => exact ⟨z0, hc⟩
      | 1, _ => exact ⟨z1, hc⟩
      | 2, _ => exact ⟨z2, hc⟩
      | 3, _ => exact ⟨z3, hc⟩
    obtain ⟨b, off, spot⟩ := a
    obtain ⟨zz, hzz⟩ := hget 0 hpos 0 (by decide)
    have hspot : spot = none := by simpa [Addr.add] using World.cell?_spot hzz
    subst hspot
    have hc : ∀ i, i < n → ∀ q, q < 4 → ∃ z, W.cell? ⟨b, off + i * 4 + q, none⟩ = some (.int .i64 z) := fun i hi q hq => by
      obtain ⟨z, hz⟩ := hget i hi q hq
      rw [Go.WideShapes.add_plain, Go.WideShapes.add_plain] at hz
      exact ⟨z, hz⟩
    obtain ⟨z0, hz0⟩ := hc 0 hpos 0 (by decide)
    exact ⟨b, off, rfl, act_cell_lt hz0, hc⟩

end Go.Proofs.YtjmpgefjoopigaaDoor
