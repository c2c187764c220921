/-
  Slices that were handed in: integers, texts.
-/
import Derived.Test.YtkpkekmofidajaaGreatDoorShelf
import Derived.OpenShut
import Derived.Deep.Strs
import Derived.Carry
namespace Go.Proofs.YtkpkekmofidajaaGreatDoor
open Go Go.RowKit Go.ChangeShapes Go.Deep

theorem cell_lt {w : World} {b o : Nat} {v : Value} (h : w.cell? ⟨b, o, none⟩ = some v) : b < w.heap.size := by
  rcases Nat.lt_or_ge b w.heap.size with hb | hb
  · exact hb
  · have hn : w.heap[b]? = none := by simp [hb]
    simp [World.cell?, hn] at h
/-- A slice of integers, of texts, as it was handed in. -/
def IntsIn (w : World) (ao : Option Addr) (n : Nat) : Prop := 0 < n → ∃ b off, ao = some ⟨b, off, none⟩ ∧ b < w.heap.size ∧ ∀ i, i < n → ∃ z, w.cell? ⟨b, off + i, none⟩ = some (.int .i64 z)
def StrsIn (w : World) (ao : Option Addr) (n : Nat) : Prop := 0 < n → ∃ b off, ao = some ⟨b, off, none⟩ ∧ b < w.heap.size ∧ ∀ i, i < n → ∃ s, w.cell? ⟨b, off + i, none⟩ = some (.string s)
theorem IntsIn.at_ {w w' : World} {ao : Option Addr} {n i : Nat} (h : IntsIn w ao n) (hi : i < n) (hb : Below w.heap.size w w') : ∃ b off z, ao = some ⟨b, off, none⟩ ∧ w'.cell? ⟨b, off + i, none⟩ = some (.int .i64 z) := by
  obtain ⟨b, off, hao, hlt, hc⟩ := h (by omega)
  obtain ⟨z, hz⟩ := hc i hi
  exact ⟨b, off, z, hao, (hb.cell (p := ⟨b, off + i, none⟩) hlt).trans hz⟩
theorem StrsIn.at_ {w w' : World} {ao : Option Addr} {n i : Nat} (h : StrsIn w ao n) (hi : i < n) (hb : Below w.heap.size w w') : ∃ b off z, ao = some ⟨b, off, none⟩ ∧ w'.cell? ⟨b, off + i, none⟩ = some (.string z) := by
  obtain ⟨b, off, hao, hlt, hc⟩ := h (by omega)
  obtain ⟨z, hz⟩ := hc i hi
  exact ⟨b, off, z, hao, (hb.cell (p := ⟨b, off + i, none⟩) hlt).trans hz⟩
theorem ints_open {H : Type} {enc : TypeId × Value → H} {P : Program} {W : World} {t e : TypeId} {ao : Option Addr} {n ca : Nat} {d : DataW H} {p : List MemPlace} (ht : P.underlying t = some (.slice e)) (he : P.underlying e = some (.int .i64)) (hc : P.cellsOf e = 1)
    (h : DataW.Trod enc P W 0 (fun _ => true) true t (.slice ao n ca) d p) : n ≤ maxLen ∧ IntsIn W ao n := by
  obtain ⟨fuel, hf⟩ := h
  rcases open_ints ht he hc hf with ⟨hcs, hx⟩ | ⟨a, len, cap, zs, hcs, _, hl, hm, hz, hx, hcell, hwz⟩
  · simp [Value.cells] at hcs
    obtain ⟨rfl, rfl, rfl⟩ := hcs
    exact ⟨Nat.zero_le _, fun h => absurd h (Nat.lt_irrefl _)⟩
  · simp [Value.cells] at hcs
    obtain ⟨rfl, rfl, rfl⟩ := hcs
    refine ⟨Nat.le_trans hl hm, fun hpos => ?_⟩
    simp only [if_true] at hz
    obtain ⟨b, off, rfl, hc'⟩ := ints_at hcell (by omega)
    exact ⟨b, off, rfl, cell_lt (hc' 0 (by omega)), fun i hi => ⟨_, hc' i (by omega)⟩⟩
theorem strs_open {H : Type} {enc : TypeId × Value → H} {P : Program} {W : World} {t e : TypeId} {ao : Option Addr} {n ca : Nat} {d : DataW H} {p : List MemPlace} (ht : P.underlying t = some (.slice e)) (he : P.underlying e = some .string) (hc : P.cellsOf e = 1)
    (h : DataW.Trod enc P W 0 (fun _ => true) true t (.slice ao n ca) d p) : n ≤ maxLen ∧ StrsIn W ao n := by
  obtain ⟨fuel, hf⟩ := h
  rcases open_strs ht he hc hf with ⟨hcs, hx⟩ | ⟨a, len, cap, m, Sx, hcs, _, hl, hm, hmm, hx, hcell⟩
  · simp [Value.cells] at hcs
    obtain ⟨rfl, rfl, rfl⟩ := hcs
    exact ⟨Nat.zero_le _, fun h => absurd h (Nat.lt_irrefl _)⟩
  · simp [Value.cells] at hcs
    obtain ⟨rfl, rfl, rfl⟩ := hcs
    refine ⟨Nat.le_trans hl hm, fun hpos => ?_⟩
    simp only [if_true] at hmm
    obtain ⟨b, off, spot⟩ := a
    have hspot : spot = none := by simpa [Addr.add] using World.cell?_spot (hcell 0 (by omega)).1
    subst hspot
    have hc' : ∀ i, i < n → W.cell? ⟨b, off + i, none⟩ = some (.string (Sx i)) := fun i hi => by rw [← Go.WideShapes.add_plain]; exact (hcell i (by omega)).1
    exact ⟨b, off, rfl, cell_lt (hc' 0 hpos), fun i hi => ⟨_, hc' i hi⟩⟩

end Go.Proofs.YtkpkekmofidajaaGreatDoor
