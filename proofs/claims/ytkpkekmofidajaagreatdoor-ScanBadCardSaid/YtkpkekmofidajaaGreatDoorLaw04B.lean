/-
  The walk of layer 4's law galliardlaw04.ScanBad.
-/
import Derived.Test.YtkpkekmofidajaaGreatDoorLaw04W
import Derived.Test.YtkpkekmofidajaaGreatDoorScanPlain
import Derived.Laws.MakeOwn
import Derived.Deep.RegionHeld3
import Derived.Deep.DrawnRows
namespace Go.Proofs.YtkpkekmofidajaaGreatDoor
open Go Go.RowKit
set_option maxRecDepth 100000

theorem bad_t (k : Nat) (hk : k < 16) : (#[.string ⟨#[60, 49, 62]⟩, .string ⟨#[60, 97, 32, 98, 62]⟩, .string ⟨#[60, 97, 32, 98, 61, 99, 62]⟩, .string ⟨#[60, 97, 32, 98, 61, 39, 60, 39, 62]⟩, .string ⟨#[60, 97, 32, 98, 61, 39, 120, 39, 99, 61, 39, 121, 39, 62]⟩, .string ⟨#[60, 97, 32, 98, 61, 39, 39, 32, 98, 61, 39, 39, 62]⟩, .string ⟨#[38, 120, 59]⟩, .string ⟨#[60, 97]⟩, .string ⟨#[60, 47, 97]⟩, .string ⟨#[60, 33, 45, 45, 32, 45, 45, 32, 45, 45, 62]⟩, .string ⟨#[60, 33, 91, 67, 68, 65, 84, 65, 91]⟩, .string ⟨#[60, 97, 58, 98, 58, 99, 62]⟩, .string ⟨#[60, 32, 97, 62]⟩, .string ⟨#[60, 63, 120]⟩, .string ⟨#[1]⟩, .string ⟨#[60, 97, 32, 98, 61, 39, 38, 39, 47, 62]⟩] : Array Value)[k]? = some (.string (str (badT k))) := by
  match k, hk with
  | 0, _ => rfl
  | 1, _ => rfl
  | 2, _ => rfl
  | 3, _ => rfl
  | 4, _ => rfl
  | 5, _ => rfl
  | 6, _ => rfl
  | 7, _ => rfl
  | 8, _ => rfl
  | 9, _ => rfl
  | 10, _ => rfl
  | 11, _ => rfl
  | 12, _ => rfl
  | 13, _ => rfl
  | 14, _ => rfl
  | 15, _ => rfl
  | k + 16, h => exact absurd h (by omega)
theorem bad_a (k : Nat) (hk : k < 16) : (#[.int .i64 1, .int .i64 4, .int .i64 5, .int .i64 6, .int .i64 8, .int .i64 8, .int .i64 0, .int .i64 2, .int .i64 3, .int .i64 0, .int .i64 9, .int .i64 1, .int .i64 1, .int .i64 0, .int .i64 0, .int .i64 6] : Array Value)[k]? = some (.int .i64 (badA k)) := by
  match k, hk with
  | 0, _ => rfl
  | 1, _ => rfl
  | 2, _ => rfl
  | 3, _ => rfl
  | 4, _ => rfl
  | 5, _ => rfl
  | 6, _ => rfl
  | 7, _ => rfl
  | 8, _ => rfl
  | 9, _ => rfl
  | 10, _ => rfl
  | 11, _ => rfl
  | 12, _ => rfl
  | 13, _ => rfl
  | 14, _ => rfl
  | 15, _ => rfl
  | k + 16, h => exact absurd h (by omega)
theorem bad_e (k : Nat) (hk : k < 16) : (#[.int .i64 3, .int .i64 3, .int .i64 3, .int .i64 3, .int .i64 3, .int .i64 7, .int .i64 3, .int .i64 3, .int .i64 3, .int .i64 3, .int .i64 3, .int .i64 3, .int .i64 3, .int .i64 3, .int .i64 3, .int .i64 3] : Array Value)[k]? = some (.int .i64 (badE k)) := by
  match k, hk with
  | 0, _ => rfl
  | 1, _ => rfl
  | 2, _ => rfl
  | 3, _ => rfl
  | 4, _ => rfl
  | 5, _ => rfl
  | 6, _ => rfl
  | 7, _ => rfl
  | 8, _ => rfl
  | 9, _ => rfl
  | 10, _ => rfl
  | 11, _ => rfl
  | 12, _ => rfl
  | 13, _ => rfl
  | 14, _ => rfl
  | 15, _ => rfl
  | k + 16, h => exact absurd h (by omega)

theorem made_zero (n : Nat) : madeCells #[Value.int .u8 0] n = ((List.replicate n (0 : UInt8)).map fun b => Value.int .u8 (b.toNat : Int)).toArray := by
  unfold madeCells
  apply Array.ext
  · simp
  · intro i h1 h2
    simp only [Array.getElem_map, Array.getElem_range, List.getElem_toArray, List.getElem_map, List.getElem_replicate]
    have : i % (#[Value.int .u8 0] : Array Value).size = 0 := by show i % 1 = 0; omega
    rw [this]; rfl
theorem u8_info : (Tryz.prog.info? 5).map (fun i => (i.zero, i.size, i.bytes)) = some (some (.int .u8 0), 1, 1) := by kernel_rfl
theorem make_any (n : Nat) (hn : n ≤ 16777216) (w : World) : (Instr.makeSlice 41 (.int .i64 (n : Int)) (.int .i64 (n : Int))).run Tryz.prog w = .ok (.slice (some ⟨w.heap.size, 0, none⟩) n n) (w.alloc (.cells ((List.replicate n (0 : UInt8)).map fun b => Value.int .u8 (b.toNat : Int)).toArray 5)) := by
  obtain ⟨i, hi, hz0, hz1, hz2⟩ := info_parts u8_info
  have h := run_make (P := Tryz.prog) w 41 5 i (.int .u8 0) Tryz.underlying41 hi hz0 .i64 .i64 (n : Int) (n : Int) (by omega) (Int.le_refl _) (by rw [hz2]; omega) (by omega)
  rw [hz1] at h
  simp only [Int.toNat_natCast, Nat.mul_one] at h
  rw [h]
  have : madeCells (Value.int .u8 0).cells n = ((List.replicate n (0 : UInt8)).map fun b => Value.int .u8 (b.toNat : Int)).toArray := made_zero n
  rw [this]
theorem big_make (n : Nat) (hn : n ≤ 16777216) : ∃ (Z : Array Value) (G : ByteArray), G.size = n ∧
    (∀ w : World, (Instr.makeSlice 41 (.int .i64 (n : Int)) (.int .i64 (n : Int))).run Tryz.prog w = .ok (.slice (some ⟨w.heap.size, 0, none⟩) n n) (w.alloc (.cells Z 5))) ∧
    (∀ w : World, (convert 41 9 (.slice (some ⟨w.heap.size, 0, none⟩) n n)).run Tryz.prog (w.alloc (.cells Z 5)) = .ok (.string G) (w.alloc (.cells Z 5))) := by
  refine ⟨_, ⟨(List.replicate n (0 : UInt8)).toArray⟩, ?_, fun w => make_any n hn w, fun w => ?_⟩
  · show (List.replicate n (0 : UInt8)).toArray.size = n; simp
  · have h := convAny w (List.replicate n (0 : UInt8))
    rw [List.length_replicate] at h
    exact h
set_option maxHeartbeats 1000000 in
theorem snext_nil (w : World) :
    Calls Tryz.prog 8 #[.pointer none] w fun r w' => r = .returned (.agg #[.int .i64 0, .string ⟨#[]⟩, .slice none 0 0, .string ⟨#[]⟩, .int .i64 0]) ∧ Below w.heap.size w w' := by
  have HR := heap_alloc_new w (.cells #[.int .i64 0, .string ⟨#[]⟩, .slice none 0 0, .string ⟨#[]⟩, .int .i64 0] 27)
  have HR := Lib.hid HR
  go_enter Tryz.func8, Tryz.ntmps8
  go_wp2
  refine bodyPost_ret (res_piece _ rfl _ w.heap.size rfl _ _ _ _ _ _ 27 (0, 0) ?_) rfl ⟨rfl, ?_⟩
  · exact heap_alloc_new w (.cells #[.int .i64 0, .string ⟨#[]⟩, .slice none 0 0, .string ⟨#[]⟩, .int .i64 0] 27)
  · exact (Below.refl _ _).alloc (Nat.le_refl _) _
theorem Only.cellOf {b : Nat} {w w' : World} (h : Only b w w') {a : Addr} {v : Value} (hc : w.cell? a = some v) (hne : a.block ≠ b) : w'.cell? a = some v :=
  (World.cell?_of_block (w := w) (h.block a.block (World.block_lt_of_cell? _ _ hc) hne)).trans hc
theorem Sc.lower {B B' b : Nat} {s : ByteArray} {σ : St} {w : World} (h : Sc B b s σ w) (hB : B' ≤ B) (hg : Glob B' w) : Sc B' b s σ w := ⟨Nat.le_trans hB h.base, h.len, h.pos, hg, h.heap⟩
theorem badT_len (k : Nat) (hk : k < 16) : (badT k).length ≤ 20 := by
  match k, hk with
  | 0, _ => exact (by decide)
  | 1, _ => exact (by decide)
  | 2, _ => exact (by decide)
  | 3, _ => exact (by decide)
  | 4, _ => exact (by decide)
  | 5, _ => exact (by decide)
  | 6, _ => exact (by decide)
  | 7, _ => exact (by decide)
  | 8, _ => exact (by decide)
  | 9, _ => exact (by decide)
  | 10, _ => exact (by decide)
  | 11, _ => exact (by decide)
  | 12, _ => exact (by decide)
  | 13, _ => exact (by decide)
  | 14, _ => exact (by decide)
  | 15, _ => exact (by decide)
  | k + 16, h => exact absurd h (by omega)
theorem badE_or (k : Nat) : badE k = 3 ∨ badE k = 7 := by unfold badE; split <;> simp
theorem badA_or (k : Nat) : 0 ≤ badA k ∧ badA k ≤ 9 := by unfold badA; split <;> decide
structure BadK (w : World) (b1 b2 b3 : Nat) (D U G : ByteArray) (σ : St) (p : Nat) (w' : World) : Prop where
  below : Below w.heap.size w w'
  c : Sc w.heap.size b1 D σ w'
  u : Sc w.heap.size b2 U ⟨0, 2, (p : Int)⟩ w'
  v : Sc w.heap.size b3 G ⟨0, 5, 200000⟩ w'
structure BadV (w : World) (b3 : Nat) (w' : World) : Prop where
  below : Below w.heap.size w w'
  v : w'.cell? ⟨b3, 2, none⟩ = some (.int .i64 5)
set_option maxHeartbeats 1000000 in
theorem serr_at (b : Nat) (E : Int) (w : World) (c2 : w.cell? ⟨b, 2, none⟩ = some (.int .i64 E)) :
    Calls Tryz.prog 10 #[.pointer (some ⟨b, 0, none⟩)] w fun r w' => r = .returned (.int .i64 E) ∧ w = w' := by
  go_enter Tryz.func10, Tryz.ntmps10
  go_wp2
  go_ret
  exact ⟨rfl, rfl⟩
attribute [local go_sem ↓] Go.wp_at_zero Go.wp_at_succ
set_option maxHeartbeats 20000000 in
theorem bad04 (n : Int) (k : Nat) (hk : k < 16) (hn : Hid (bits .and .i64 n 15 = (k : Int))) (pad T : ByteArray) (m : Nat) (w : World) (hE : EntV w) (hT : Tabs w) (hm1 : m ≤ pad.size) (hm3 : min (pad.size : Int) 9 = (m : Int)) (HTm : Hid (pad.extract 0 m = T)) (hTs : T.size ≤ 9) :
    Calls Tryz.prog 4 #[.int .i64 n, .string pad] w fun e w' => e = .returned (.bool true) ∧ Below w.heap.size w w' := by
  obtain ⟨Z, G, hG, hmk0, hcv⟩ := big_make 200001 (by decide)
  have hmk : ∀ w : World, (Instr.makeSlice 41 (.int .i64 200001) (.int .i64 200001)).run Tryz.prog w = .ok (.slice (some ⟨w.heap.size, 0, none⟩) 200001 200001) (w.alloc (.cells Z 5)) := fun w => hmk0 w
  have HMK := Lib.hid hmk
  have HCV := Lib.hid hcv
  have HG := Lib.hid hG
  clear hmk0 hmk hcv hG
  have HGl := Lib.hid (Glob.start hE hT)
  have hk16 : (k : Int) < 16 := by omega
  obtain ⟨X, hX⟩ : ∃ X, str (badT k) = X := ⟨_, rfl⟩
  have hXs : X.size ≤ 20 := by rw [← hX, str_size]; exact badT_len k hk
  obtain ⟨A, hA⟩ : ∃ A, badA k = A := ⟨_, rfl⟩
  obtain ⟨E, hEk⟩ : ∃ E, badE k = E := ⟨_, rfl⟩
  have cL := bad_t k hk
  have cA := bad_a k hk
  have cE := bad_e k hk
  rw [hX] at cL
  rw [hA] at cA
  rw [hEk] at cE
  have hz : w.heap.size + 3 ≤ (((w.alloc (.cells #[.string ⟨#[60, 49, 62]⟩, .string ⟨#[60, 97, 32, 98, 62]⟩, .string ⟨#[60, 97, 32, 98, 61, 99, 62]⟩, .string ⟨#[60, 97, 32, 98, 61, 39, 60, 39, 62]⟩, .string ⟨#[60, 97, 32, 98, 61, 39, 120, 39, 99, 61, 39, 121, 39, 62]⟩, .string ⟨#[60, 97, 32, 98, 61, 39, 39, 32, 98, 61, 39, 39, 62]⟩, .string ⟨#[38, 120, 59]⟩, .string ⟨#[60, 97]⟩, .string ⟨#[60, 47, 97]⟩, .string ⟨#[60, 33, 45, 45, 32, 45, 45, 32, 45, 45, 62]⟩, .string ⟨#[60, 33, 91, 67, 68, 65, 84, 65, 91]⟩, .string ⟨#[60, 97, 58, 98, 58, 99, 62]⟩, .string ⟨#[60, 32, 97, 62]⟩, .string ⟨#[60, 63, 120]⟩, .string ⟨#[1]⟩, .string ⟨#[60, 97, 32, 98, 61, 39, 38, 39, 47, 62]⟩] 9)).alloc (.cells #[.int .i64 1, .int .i64 4, .int .i64 5, .int .i64 6, .int .i64 8, .int .i64 8, .int .i64 0, .int .i64 2, .int .i64 3, .int .i64 0, .int .i64 9, .int .i64 1, .int .i64 1, .int .i64 0, .int .i64 0, .int .i64 6] 3)).alloc (.cells #[.int .i64 3, .int .i64 3, .int .i64 3, .int .i64 3, .int .i64 3, .int .i64 7, .int .i64 3, .int .i64 3, .int .i64 3, .int .i64 3, .int .i64 3, .int .i64 3, .int .i64 3, .int .i64 3, .int .i64 3, .int .i64 3] 34)).heap.size := by simp
  have fL : (((w.alloc (.cells #[.string ⟨#[60, 49, 62]⟩, .string ⟨#[60, 97, 32, 98, 62]⟩, .string ⟨#[60, 97, 32, 98, 61, 99, 62]⟩, .string ⟨#[60, 97, 32, 98, 61, 39, 60, 39, 62]⟩, .string ⟨#[60, 97, 32, 98, 61, 39, 120, 39, 99, 61, 39, 121, 39, 62]⟩, .string ⟨#[60, 97, 32, 98, 61, 39, 39, 32, 98, 61, 39, 39, 62]⟩, .string ⟨#[38, 120, 59]⟩, .string ⟨#[60, 97]⟩, .string ⟨#[60, 47, 97]⟩, .string ⟨#[60, 33, 45, 45, 32, 45, 45, 32, 45, 45, 62]⟩, .string ⟨#[60, 33, 91, 67, 68, 65, 84, 65, 91]⟩, .string ⟨#[60, 97, 58, 98, 58, 99, 62]⟩, .string ⟨#[60, 32, 97, 62]⟩, .string ⟨#[60, 63, 120]⟩, .string ⟨#[1]⟩, .string ⟨#[60, 97, 32, 98, 61, 39, 38, 39, 47, 62]⟩] 9)).alloc (.cells #[.int .i64 1, .int .i64 4, .int .i64 5, .int .i64 6, .int .i64 8, .int .i64 8, .int .i64 0, .int .i64 2, .int .i64 3, .int .i64 0, .int .i64 9, .int .i64 1, .int .i64 1, .int .i64 0, .int .i64 0, .int .i64 6] 3)).alloc (.cells #[.int .i64 3, .int .i64 3, .int .i64 3, .int .i64 3, .int .i64 3, .int .i64 7, .int .i64 3, .int .i64 3, .int .i64 3, .int .i64 3, .int .i64 3, .int .i64 3, .int .i64 3, .int .i64 3, .int .i64 3, .int .i64 3] 34)).cell? ⟨w.heap.size, k, none⟩ = some (.string X) := by
    rw [Lib.cell_of_heap ((Below.heap_alloc _ _ w.heap.size (by simp; omega)).trans ((Below.heap_alloc _ _ w.heap.size (by simp)).trans (heap_alloc_new w _))), cL]
  have fA : (((w.alloc (.cells #[.string ⟨#[60, 49, 62]⟩, .string ⟨#[60, 97, 32, 98, 62]⟩, .string ⟨#[60, 97, 32, 98, 61, 99, 62]⟩, .string ⟨#[60, 97, 32, 98, 61, 39, 60, 39, 62]⟩, .string ⟨#[60, 97, 32, 98, 61, 39, 120, 39, 99, 61, 39, 121, 39, 62]⟩, .string ⟨#[60, 97, 32, 98, 61, 39, 39, 32, 98, 61, 39, 39, 62]⟩, .string ⟨#[38, 120, 59]⟩, .string ⟨#[60, 97]⟩, .string ⟨#[60, 47, 97]⟩, .string ⟨#[60, 33, 45, 45, 32, 45, 45, 32, 45, 45, 62]⟩, .string ⟨#[60, 33, 91, 67, 68, 65, 84, 65, 91]⟩, .string ⟨#[60, 97, 58, 98, 58, 99, 62]⟩, .string ⟨#[60, 32, 97, 62]⟩, .string ⟨#[60, 63, 120]⟩, .string ⟨#[1]⟩, .string ⟨#[60, 97, 32, 98, 61, 39, 38, 39, 47, 62]⟩] 9)).alloc (.cells #[.int .i64 1, .int .i64 4, .int .i64 5, .int .i64 6, .int .i64 8, .int .i64 8, .int .i64 0, .int .i64 2, .int .i64 3, .int .i64 0, .int .i64 9, .int .i64 1, .int .i64 1, .int .i64 0, .int .i64 0, .int .i64 6] 3)).alloc (.cells #[.int .i64 3, .int .i64 3, .int .i64 3, .int .i64 3, .int .i64 3, .int .i64 7, .int .i64 3, .int .i64 3, .int .i64 3, .int .i64 3, .int .i64 3, .int .i64 3, .int .i64 3, .int .i64 3, .int .i64 3, .int .i64 3] 34)).cell? ⟨w.heap.size + 1, k, none⟩ = some (.int .i64 A) := by
    have h := heap_alloc_new (w.alloc (.cells #[.string ⟨#[60, 49, 62]⟩, .string ⟨#[60, 97, 32, 98, 62]⟩, .string ⟨#[60, 97, 32, 98, 61, 99, 62]⟩, .string ⟨#[60, 97, 32, 98, 61, 39, 60, 39, 62]⟩, .string ⟨#[60, 97, 32, 98, 61, 39, 120, 39, 99, 61, 39, 121, 39, 62]⟩, .string ⟨#[60, 97, 32, 98, 61, 39, 39, 32, 98, 61, 39, 39, 62]⟩, .string ⟨#[38, 120, 59]⟩, .string ⟨#[60, 97]⟩, .string ⟨#[60, 47, 97]⟩, .string ⟨#[60, 33, 45, 45, 32, 45, 45, 32, 45, 45, 62]⟩, .string ⟨#[60, 33, 91, 67, 68, 65, 84, 65, 91]⟩, .string ⟨#[60, 97, 58, 98, 58, 99, 62]⟩, .string ⟨#[60, 32, 97, 62]⟩, .string ⟨#[60, 63, 120]⟩, .string ⟨#[1]⟩, .string ⟨#[60, 97, 32, 98, 61, 39, 38, 39, 47, 62]⟩] 9)) (.cells #[.int .i64 1, .int .i64 4, .int .i64 5, .int .i64 6, .int .i64 8, .int .i64 8, .int .i64 0, .int .i64 2, .int .i64 3, .int .i64 0, .int .i64 9, .int .i64 1, .int .i64 1, .int .i64 0, .int .i64 0, .int .i64 6] 3)
    rw [show (w.alloc (.cells #[.string ⟨#[60, 49, 62]⟩, .string ⟨#[60, 97, 32, 98, 62]⟩, .string ⟨#[60, 97, 32, 98, 61, 99, 62]⟩, .string ⟨#[60, 97, 32, 98, 61, 39, 60, 39, 62]⟩, .string ⟨#[60, 97, 32, 98, 61, 39, 120, 39, 99, 61, 39, 121, 39, 62]⟩, .string ⟨#[60, 97, 32, 98, 61, 39, 39, 32, 98, 61, 39, 39, 62]⟩, .string ⟨#[38, 120, 59]⟩, .string ⟨#[60, 97]⟩, .string ⟨#[60, 47, 97]⟩, .string ⟨#[60, 33, 45, 45, 32, 45, 45, 32, 45, 45, 62]⟩, .string ⟨#[60, 33, 91, 67, 68, 65, 84, 65, 91]⟩, .string ⟨#[60, 97, 58, 98, 58, 99, 62]⟩, .string ⟨#[60, 32, 97, 62]⟩, .string ⟨#[60, 63, 120]⟩, .string ⟨#[1]⟩, .string ⟨#[60, 97, 32, 98, 61, 39, 38, 39, 47, 62]⟩] 9)).heap.size = w.heap.size + 1 by simp] at h
    rw [Lib.cell_of_heap ((Below.heap_alloc _ _ (w.heap.size + 1) (by simp)).trans h), cA]
  have fE : (((w.alloc (.cells #[.string ⟨#[60, 49, 62]⟩, .string ⟨#[60, 97, 32, 98, 62]⟩, .string ⟨#[60, 97, 32, 98, 61, 99, 62]⟩, .string ⟨#[60, 97, 32, 98, 61, 39, 60, 39, 62]⟩, .string ⟨#[60, 97, 32, 98, 61, 39, 120, 39, 99, 61, 39, 121, 39, 62]⟩, .string ⟨#[60, 97, 32, 98, 61, 39, 39, 32, 98, 61, 39, 39, 62]⟩, .string ⟨#[38, 120, 59]⟩, .string ⟨#[60, 97]⟩, .string ⟨#[60, 47, 97]⟩, .string ⟨#[60, 33, 45, 45, 32, 45, 45, 32, 45, 45, 62]⟩, .string ⟨#[60, 33, 91, 67, 68, 65, 84, 65, 91]⟩, .string ⟨#[60, 97, 58, 98, 58, 99, 62]⟩, .string ⟨#[60, 32, 97, 62]⟩, .string ⟨#[60, 63, 120]⟩, .string ⟨#[1]⟩, .string ⟨#[60, 97, 32, 98, 61, 39, 38, 39, 47, 62]⟩] 9)).alloc (.cells #[.int .i64 1, .int .i64 4, .int .i64 5, .int .i64 6, .int .i64 8, .int .i64 8, .int .i64 0, .int .i64 2, .int .i64 3, .int .i64 0, .int .i64 9, .int .i64 1, .int .i64 1, .int .i64 0, .int .i64 0, .int .i64 6] 3)).alloc (.cells #[.int .i64 3, .int .i64 3, .int .i64 3, .int .i64 3, .int .i64 3, .int .i64 7, .int .i64 3, .int .i64 3, .int .i64 3, .int .i64 3, .int .i64 3, .int .i64 3, .int .i64 3, .int .i64 3, .int .i64 3, .int .i64 3] 34)).cell? ⟨w.heap.size + 1 + 1, k, none⟩ = some (.int .i64 E) := by
    have h := heap_alloc_new ((w.alloc (.cells #[.string ⟨#[60, 49, 62]⟩, .string ⟨#[60, 97, 32, 98, 62]⟩, .string ⟨#[60, 97, 32, 98, 61, 99, 62]⟩, .string ⟨#[60, 97, 32, 98, 61, 39, 60, 39, 62]⟩, .string ⟨#[60, 97, 32, 98, 61, 39, 120, 39, 99, 61, 39, 121, 39, 62]⟩, .string ⟨#[60, 97, 32, 98, 61, 39, 39, 32, 98, 61, 39, 39, 62]⟩, .string ⟨#[38, 120, 59]⟩, .string ⟨#[60, 97]⟩, .string ⟨#[60, 47, 97]⟩, .string ⟨#[60, 33, 45, 45, 32, 45, 45, 32, 45, 45, 62]⟩, .string ⟨#[60, 33, 91, 67, 68, 65, 84, 65, 91]⟩, .string ⟨#[60, 97, 58, 98, 58, 99, 62]⟩, .string ⟨#[60, 32, 97, 62]⟩, .string ⟨#[60, 63, 120]⟩, .string ⟨#[1]⟩, .string ⟨#[60, 97, 32, 98, 61, 39, 38, 39, 47, 62]⟩] 9)).alloc (.cells #[.int .i64 1, .int .i64 4, .int .i64 5, .int .i64 6, .int .i64 8, .int .i64 8, .int .i64 0, .int .i64 2, .int .i64 3, .int .i64 0, .int .i64 9, .int .i64 1, .int .i64 1, .int .i64 0, .int .i64 0, .int .i64 6] 3)) (.cells #[.int .i64 3, .int .i64 3, .int .i64 3, .int .i64 3, .int .i64 3, .int .i64 7, .int .i64 3, .int .i64 3, .int .i64 3, .int .i64 3, .int .i64 3, .int .i64 3, .int .i64 3, .int .i64 3, .int .i64 3, .int .i64 3] 34)
    rw [show ((w.alloc (.cells #[.string ⟨#[60, 49, 62]⟩, .string ⟨#[60, 97, 32, 98, 62]⟩, .string ⟨#[60, 97, 32, 98, 61, 99, 62]⟩, .string ⟨#[60, 97, 32, 98, 61, 39, 60, 39, 62]⟩, .string ⟨#[60, 97, 32, 98, 61, 39, 120, 39, 99, 61, 39, 121, 39, 62]⟩, .string ⟨#[60, 97, 32, 98, 61, 39, 39, 32, 98, 61, 39, 39, 62]⟩, .string ⟨#[38, 120, 59]⟩, .string ⟨#[60, 97]⟩, .string ⟨#[60, 47, 97]⟩, .string ⟨#[60, 33, 45, 45, 32, 45, 45, 32, 45, 45, 62]⟩, .string ⟨#[60, 33, 91, 67, 68, 65, 84, 65, 91]⟩, .string ⟨#[60, 97, 58, 98, 58, 99, 62]⟩, .string ⟨#[60, 32, 97, 62]⟩, .string ⟨#[60, 63, 120]⟩, .string ⟨#[1]⟩, .string ⟨#[60, 97, 32, 98, 61, 39, 38, 39, 47, 62]⟩] 9)).alloc (.cells #[.int .i64 1, .int .i64 4, .int .i64 5, .int .i64 6, .int .i64 8, .int .i64 8, .int .i64 0, .int .i64 2, .int .i64 3, .int .i64 0, .int .i64 9, .int .i64 1, .int .i64 1, .int .i64 0, .int .i64 0, .int .i64 6] 3)).heap.size = w.heap.size + 1 + 1 by simp] at h
    rw [Lib.cell_of_heap h, cE]
  have HB := (((Below.refl w.heap.size w).alloc (Nat.le_refl _) (.cells #[.string ⟨#[60, 49, 62]⟩, .string ⟨#[60, 97, 32, 98, 62]⟩, .string ⟨#[60, 97, 32, 98, 61, 99, 62]⟩, .string ⟨#[60, 97, 32, 98, 61, 39, 60, 39, 62]⟩, .string ⟨#[60, 97, 32, 98, 61, 39, 120, 39, 99, 61, 39, 121, 39, 62]⟩, .string ⟨#[60, 97, 32, 98, 61, 39, 39, 32, 98, 61, 39, 39, 62]⟩, .string ⟨#[38, 120, 59]⟩, .string ⟨#[60, 97]⟩, .string ⟨#[60, 47, 97]⟩, .string ⟨#[60, 33, 45, 45, 32, 45, 45, 32, 45, 45, 62]⟩, .string ⟨#[60, 33, 91, 67, 68, 65, 84, 65, 91]⟩, .string ⟨#[60, 97, 58, 98, 58, 99, 62]⟩, .string ⟨#[60, 32, 97, 62]⟩, .string ⟨#[60, 63, 120]⟩, .string ⟨#[1]⟩, .string ⟨#[60, 97, 32, 98, 61, 39, 38, 39, 47, 62]⟩] 9)).alloc (by simp) (.cells #[.int .i64 1, .int .i64 4, .int .i64 5, .int .i64 6, .int .i64 8, .int .i64 8, .int .i64 0, .int .i64 2, .int .i64 3, .int .i64 0, .int .i64 9, .int .i64 1, .int .i64 1, .int .i64 0, .int .i64 0, .int .i64 6] 3)).alloc (by simp; omega) (.cells #[.int .i64 3, .int .i64 3, .int .i64 3, .int .i64 3, .int .i64 3, .int .i64 7, .int .i64 3, .int .i64 3, .int .i64 3, .int .i64 3, .int .i64 3, .int .i64 3, .int .i64 3, .int .i64 3, .int .i64 3, .int .i64 3] 34)
  have HG3 := Lib.hid (HGl.out.step HB)
  have HB := Lib.hid HB
  have hsp := bad_spec k hk
  have hqD : qD k = [60, 113, 47, 62] ++ badT k := rfl
  have hbX : bl X = badT k := by rw [← hX, str_bl]
  have hX1 := Lib.hid hbX
  rw [hA, hEk] at hsp
  have hEo := badE_or k
  rw [hEk] at hEo
  have hAk := Lib.hid hA
  have HSP := Lib.hid hsp
  have HQD := Lib.hid hqD
  clear cL cA cE hX hA hEk hsp hqD hbX hE hT HGl
  go_enter Tryz.func4, Tryz.ntmps4
  go_upto_region 5 with (fail)
  rw [hn.out]
  clear hn
  generalize (((w.alloc (.cells #[.string ⟨#[60, 49, 62]⟩, .string ⟨#[60, 97, 32, 98, 62]⟩, .string ⟨#[60, 97, 32, 98, 61, 99, 62]⟩, .string ⟨#[60, 97, 32, 98, 61, 39, 60, 39, 62]⟩, .string ⟨#[60, 97, 32, 98, 61, 39, 120, 39, 99, 61, 39, 121, 39, 62]⟩, .string ⟨#[60, 97, 32, 98, 61, 39, 39, 32, 98, 61, 39, 39, 62]⟩, .string ⟨#[38, 120, 59]⟩, .string ⟨#[60, 97]⟩, .string ⟨#[60, 47, 97]⟩, .string ⟨#[60, 33, 45, 45, 32, 45, 45, 32, 45, 45, 62]⟩, .string ⟨#[60, 33, 91, 67, 68, 65, 84, 65, 91]⟩, .string ⟨#[60, 97, 58, 98, 58, 99, 62]⟩, .string ⟨#[60, 32, 97, 62]⟩, .string ⟨#[60, 63, 120]⟩, .string ⟨#[1]⟩, .string ⟨#[60, 97, 32, 98, 61, 39, 38, 39, 47, 62]⟩] 9)).alloc (.cells #[.int .i64 1, .int .i64 4, .int .i64 5, .int .i64 6, .int .i64 8, .int .i64 8, .int .i64 0, .int .i64 2, .int .i64 3, .int .i64 0, .int .i64 9, .int .i64 1, .int .i64 1, .int .i64 0, .int .i64 0, .int .i64 6] 3)).alloc (.cells #[.int .i64 3, .int .i64 3, .int .i64 3, .int .i64 3, .int .i64 3, .int .i64 7, .int .i64 3, .int .i64 3, .int .i64 3, .int .i64 3, .int .i64 3, .int .i64 3, .int .i64 3, .int .i64 3, .int .i64 3, .int .i64 3] 34)) = w3 at fL fA fE HB HG3 hz ⊢
  obtain ⟨L, hL⟩ : ∃ L, w.heap.size = L := ⟨_, rfl⟩
  have HL := Lib.hid hL
  rw [hL] at fL fA fE hz ⊢
  clear hL
  have FA := Lib.hid fA
  have FE := Lib.hid fE
  clear fA fE
  go_wp2_with fail
  clear fL
  obtain ⟨D, hD⟩ : ∃ D : ByteArray, (⟨#[60, 113, 47, 62]⟩ : ByteArray) ++ X = D := ⟨_, rfl⟩
  have hbD : bl D = qD k := by rw [← hD, bl_append, hX1.out, HQD.out]; rfl
  have hDs : D.size ≤ 24 := by rw [← bl_size, hbD, HQD.out, List.length_append]; have := badT_len k hk; simp; omega
  rw [hD]
  have HD := Lib.hid hbD
  clear hD hbD
  -- the scanner over the text
  have C1 := Lib.hid (snew D w3 HG3.out.ent HG3.out.tabs (by omega))
  refine C1.out.mono ?_
  rintro r w4 ⟨b1, hb1, rfl, hS, hB⟩
  rw [HD.out, HSP.out.1] at hS
  have hb1z : L + 3 ≤ b1 := by omega
  have FA := Lib.hid ((Only.of (b := L) hB).cellOf FA.out (by show L + 1 ≠ L; omega))
  have FE := Lib.hid ((Only.of (b := L) hB).cellOf FE.out (by show L + 1 + 1 ≠ L; omega))
  have HB4 := Lib.hid (HB.out.trans (hB.mono HB.out.size))
  have HG4 := Lib.hid (HG3.out.step (hB.mono HB.out.size))
  have HS4 := Lib.hid (hS.lower HB.out.size HG4.out)
  clear hS hB hb1 C1 HB HG3
  have C2 := snext _ b1 D q0 w4 HS4.out
  rw [HD.out] at C2
  obtain ⟨Q, hQ⟩ : ∃ Q, nextP (qD k) q0 = Q := ⟨_, rfl⟩
  have hsp := HSP.out
  rw [hQ] at C2 hsp
  rw [hsp.2.2.1] at C2 hsp
  obtain ⟨kd, nm, at', tx, AT⟩ := Q
  obtain rfl : kd = 3 := hsp.2.1
  have C2 := Lib.hid C2
  have HSP := Lib.hid hsp.2.2.2
  clear hsp hQ
  go_wp2_with fail
  refine C2.out.mono ?_
  rintro r w5 ⟨x, rfl, ⟨v, rfl, hr, hfr⟩, h5, o5⟩
  obtain ⟨ao, mm, cap, rfl⟩ := rows_form hr
  clear hr hfr C2
  have O5 := o5.trans (Only.alloc b1 w5 (.cells #[.int .i64 3, .string (str nm), .slice ao mm cap, .string (str tx), .int .i64 AT] 27))
  have FA := Lib.hid (O5.cellOf FA.out (by show L + 1 ≠ b1; omega))
  have FE := Lib.hid (O5.cellOf FE.out (by show L + 1 + 1 ≠ b1; omega))
  have HB5 := Lib.hid (O5.belowOf HS4.out.base HB4.out rfl)
  have HS5 := Lib.hid (h5.step ((Below.refl _ _).alloc (Nat.le_refl _) (.cells #[.int .i64 3, .string (str nm), .slice ao mm cap, .string (str tx), .int .i64 AT] 27)))
  have FP : (w5.alloc (.cells #[.int .i64 3, .string (str nm), .slice ao mm cap, .string (str tx), .int .i64 AT] 27)).cell? ⟨w5.heap.size, 0, none⟩ = some (.int .i64 3) := by
    rw [Lib.cell_of_heap (heap_alloc_new w5 _)]; rfl
  have hpb : b1 < w5.heap.size := h5.lt
  have FP := Lib.hid FP
  clear O5 h5 o5 HB4 HS4 HG4
  -- the second piece is none
  go_wp2_with fail
  obtain ⟨pa, hpa⟩ : ∃ pa, w5.heap.size = pa := ⟨_, rfl⟩
  rw [hpa] at FP hpb ⊢
  clear hpa
  generalize w5.alloc (.cells #[.int .i64 3, .string (str nm), .slice ao mm cap, .string (str tx), .int .i64 AT] 27) = w6 at FA FE HB5 HS5 FP ⊢
  have C3 := snext _ b1 D q1 w6 HS5.out
  rw [HD.out] at C3
  obtain ⟨Q, hQ⟩ : ∃ Q, nextP (qD k) q1 = Q := ⟨_, rfl⟩
  obtain ⟨σ, hσ⟩ : ∃ σ, nextS (qD k) q1 = σ := ⟨_, rfl⟩
  have hsp := HSP.out
  rw [hQ, hσ] at C3 hsp
  obtain ⟨kd, nm, at', tx, AT⟩ := Q
  obtain rfl : kd = 0 := hsp.1
  have C3 := Lib.hid C3
  have HSP := Lib.hid hsp.2
  clear hsp hQ hσ
  refine C3.out.mono ?_
  rintro r w7 ⟨x, rfl, ⟨v, rfl, hr, hfr⟩, h7, o7⟩
  obtain ⟨ao, mm, cap, rfl⟩ := rows_form hr
  clear hr hfr C3
  have O7 := o7.trans (Only.alloc b1 w7 (.cells #[.int .i64 0, .string (str nm), .slice ao mm cap, .string (str tx), .int .i64 AT] 27))
  have FA := Lib.hid (O7.cellOf FA.out (by show L + 1 ≠ b1; omega))
  have FE := Lib.hid (O7.cellOf FE.out (by show L + 1 + 1 ≠ b1; omega))
  have FP := Lib.hid (O7.cellOf FP.out (by show pa ≠ b1; omega))
  have HB7 := Lib.hid (O7.belowOf HS5.out.base HB5.out rfl)
  have HS7 := Lib.hid (h7.step ((Below.refl _ _).alloc (Nat.le_refl _) (.cells #[.int .i64 0, .string (str nm), .slice ao mm cap, .string (str tx), .int .i64 AT] 27)))
  have FQ : (w7.alloc (.cells #[.int .i64 0, .string (str nm), .slice ao mm cap, .string (str tx), .int .i64 AT] 27)).cell? ⟨w7.heap.size, 0, none⟩ = some (.int .i64 0) := by
    rw [Lib.cell_of_heap (heap_alloc_new w7 _)]; rfl
  have hqb : b1 < w7.heap.size := h7.lt
  have FQ := Lib.hid FQ
  clear O7 h7 o7 HB5 HS5
  go_wp2_with fail
  obtain ⟨pb, hpb'⟩ : ∃ pb, w7.heap.size = pb := ⟨_, rfl⟩
  rw [hpb'] at FQ hqb ⊢
  clear hpb'
  rw [HTm.out]
  clear hm1 hm3
  generalize w7.alloc (.cells #[.int .i64 0, .string (str nm), .slice ao mm cap, .string (str tx), .int .i64 AT] 27) = w8 at FA FE HB7 HS7 FP FQ ⊢
  -- letters, and a byte of none
  have C4 := Lib.hid (rplain T w8 (by omega))
  refine C4.out.mono ?_
  rintro r w9 ⟨P, rfl, hP, hPl, hb9⟩
  have FA := Lib.hid ((Only.of (b := L) hb9).cellOf FA.out (by show L + 1 ≠ L; omega))
  have FE := Lib.hid ((Only.of (b := L) hb9).cellOf FE.out (by show L + 1 + 1 ≠ L; omega))
  have FP := Lib.hid ((Only.of (b := L) hb9).cellOf FP.out (by show pa ≠ L; omega))
  have FQ := Lib.hid ((Only.of (b := L) hb9).cellOf FQ.out (by show pb ≠ L; omega))
  have HS9 := Lib.hid (HS7.out.step hb9)
  have HB9 := Lib.hid (HB7.out.trans (hb9.mono HB7.out.size))
  have hPs : (str P).size ≤ 9 := by rw [str_size]; omega
  have HP := Lib.hid hP
  clear hb9 C4 HS7 HB7 hP hPl
  go_wp2_with fail
  obtain ⟨U, hU⟩ : ∃ U : ByteArray, str P ++ (⟨#[255]⟩ : ByteArray) = U := ⟨_, rfl⟩
  have hbU : bl U = P ++ [255] := by rw [← hU, bl_append, str_bl]; rfl
  have hUs : U.size ≤ 10 := by rw [← bl_size, hbU, List.length_append]; rw [str_size] at hPs; simp; omega
  have hnU : newS (bl U) = ⟨0, 2, ((str P).size : Int)⟩ := by
    unfold newS
    rw [hbU, HP.out.bad, if_neg (by rw [List.length_append]; rw [str_size] at hPs; simp; omega), if_pos (by omega), str_size]
  rw [hU]
  have HU := Lib.hid hnU
  clear hU hbU hnU
  have C5 := Lib.hid (snew U w9 HS9.out.glob.ent HS9.out.glob.tabs (by omega))
  have hlt9 : pb < w9.heap.size := World.block_lt_of_cell? _ _ FQ.out
  have hlt9a : pa < w9.heap.size := World.block_lt_of_cell? _ _ FP.out
  refine C5.out.mono ?_
  rintro r w10 ⟨b2, hb2, rfl, hS, hB⟩
  rw [HU.out] at hS
  have hbb : pb < b2 := by omega
  have hba : pa < b2 := by omega
  have FA := Lib.hid ((Only.of (b := L) hB).cellOf FA.out (by show L + 1 ≠ L; omega))
  have FE := Lib.hid ((Only.of (b := L) hB).cellOf FE.out (by show L + 1 + 1 ≠ L; omega))
  have FP := Lib.hid ((Only.of (b := L) hB).cellOf FP.out (by show pa ≠ L; omega))
  have FQ := Lib.hid ((Only.of (b := L) hB).cellOf FQ.out (by show pb ≠ L; omega))
  have HB10 := Lib.hid (HB9.out.trans (hB.mono HB9.out.size))
  have HS10 := Lib.hid (HS9.out.step hB)
  have HU10 := Lib.hid (hS.lower HB9.out.size HS10.out.glob)
  clear hS hB hb2 C5 HB9 HS9 hlt9 hlt9a HU
  -- a text that is too great
  have hmk := HMK.out w10
  have hcv := HCV.out w10
  go_wp2_with fail
  clear hmk hcv
  have hb11 := (Below.refl w10.heap.size w10).alloc (Nat.le_refl _) (.cells Z 5)
  have FA := Lib.hid ((Only.of (b := L) hb11).cellOf FA.out (by show L + 1 ≠ L; omega))
  have FE := Lib.hid ((Only.of (b := L) hb11).cellOf FE.out (by show L + 1 + 1 ≠ L; omega))
  have FP := Lib.hid ((Only.of (b := L) hb11).cellOf FP.out (by show pa ≠ L; omega))
  have FQ := Lib.hid ((Only.of (b := L) hb11).cellOf FQ.out (by show pb ≠ L; omega))
  have HB11 := Lib.hid (HB10.out.trans (hb11.mono HB10.out.size))
  have HS11 := Lib.hid (HS10.out.step hb11)
  have HU11 := Lib.hid (HU10.out.step hb11)
  clear hb11 HB10 HS10 HU10
  generalize w10.alloc (.cells Z 5) = w11 at FA FE FP FQ HB11 HS11 HU11 ⊢
  have hnG : newS (bl G) = ⟨0, 5, 200000⟩ := by unfold newS; rw [bl_size, HG.out, if_pos (by decide)]
  have C6 := Lib.hid (snew G w11 HS11.out.glob.ent HS11.out.glob.tabs (by rw [HG.out]; decide))
  refine C6.out.mono ?_
  rintro r w12 ⟨b3, hb3, rfl, hS, hB⟩
  rw [hnG] at hS
  have hb23 : b2 < b3 := by have := HU11.out.lt; omega
  have FA := Lib.hid ((Only.of (b := L) hB).cellOf FA.out (by show L + 1 ≠ L; omega))
  have FE := Lib.hid ((Only.of (b := L) hB).cellOf FE.out (by show L + 1 + 1 ≠ L; omega))
  have FP := Lib.hid ((Only.of (b := L) hB).cellOf FP.out (by show pa ≠ L; omega))
  have FQ := Lib.hid ((Only.of (b := L) hB).cellOf FQ.out (by show pb ≠ L; omega))
  have HB12 := Lib.hid (HB11.out.trans (hB.mono HB11.out.size))
  have HS12 := Lib.hid (HS11.out.step hB)
  have HU12 := Lib.hid (HU11.out.step hB)
  have HV12 := Lib.hid (hS.lower HB11.out.size HS12.out.glob)
  clear hS hB hb3 C6 HB11 HS11 HU11 hnG
  have CN := Lib.hid (fun w => swrong_nil w 3 3)
  go_wp2_with fail
  refine (CN.out _).mono ?_
  rintro r w13 ⟨rfl, rfl⟩
  -- all that is asked
  have hne : σ.err ≠ 0 := by rw [HSP.out.1]; rcases hEo with h | h <;> rw [h] <;> decide
  have hd := (Below.refl w12.heap.size w12).drew
  have CA : Calls Tryz.prog 11 #[] w12.drew fun r w' => r = .returned (.bool true) ∧ w'.cell? ⟨L + 1, k, none⟩ = some (.int .i64 A) ∧ w'.cell? ⟨L + 1 + 1, k, none⟩ = some (.int .i64 E) ∧ w'.cell? ⟨pa, 0, none⟩ = some (.int .i64 3) ∧ w'.cell? ⟨pb, 0, none⟩ = some (.int .i64 0) ∧ Hid (BadK w b1 b2 b3 D U G σ (str P).size w') := by
    refine (awake04 w12.drew (HS12.out.glob.ent.below hd) (HS12.out.glob.tabs.below hd)).mono ?_
    rintro r w13 ⟨rfl, hb13⟩
    have hb := hd.trans (hb13.mono (Nat.le_refl _))
    exact ⟨rfl, (Only.of (b := L) hb).cellOf FA.out (by show L + 1 ≠ L; omega), (Only.of (b := L) hb).cellOf FE.out (by show L + 1 + 1 ≠ L; omega), (Only.of (b := L) hb).cellOf FP.out (by show pa ≠ L; omega), (Only.of (b := L) hb).cellOf FQ.out (by show pb ≠ L; omega),
      Lib.hid ⟨HB12.out.trans (hb.mono HB12.out.size), HS12.out.step hb, HU12.out.step hb, HV12.out.step hb⟩⟩
  have CE : ∀ w', Hid (BadK w b1 b2 b3 D U G σ (str P).size w') → Calls Tryz.prog 10 #[.pointer (some ⟨b1, 0, none⟩)] w' fun r w'' => r = .returned (.int .i64 E) ∧ w' = w'' := fun w' h => by
    have c := serr _ b1 D σ w' h.out.c; rw [HSP.out.1] at c; exact c
  have CT : ∀ w', Hid (BadK w b1 b2 b3 D U G σ (str P).size w') → Calls Tryz.prog 12 #[.pointer (some ⟨b1, 0, none⟩)] w' fun r w'' => r = .returned (.int .i64 (4 + A)) ∧ w' = w'' := fun w' h => by
    have c := sat _ b1 D σ w' h.out.c; rw [atS_bad hne, HSP.out.2] at c; exact c
  have CUE : ∀ w', Hid (BadK w b1 b2 b3 D U G σ (str P).size w') → Calls Tryz.prog 10 #[.pointer (some ⟨b2, 0, none⟩)] w' fun r w'' => r = .returned (.int .i64 2) ∧ w' = w'' := fun w' h => serr _ b2 U _ w' h.out.u
  have CUT : ∀ w', Hid (BadK w b1 b2 b3 D U G σ (str P).size w') → Calls Tryz.prog 12 #[.pointer (some ⟨b2, 0, none⟩)] w' fun r w'' => r = .returned (.int .i64 ((str P).size : Int)) ∧ w' = w'' := fun w' h => sat _ b2 U _ w' h.out.u
  have CUN : ∀ w', w'.cell? ⟨L + 1, k, none⟩ = some (.int .i64 A) → w'.cell? ⟨L + 1 + 1, k, none⟩ = some (.int .i64 E) → w'.cell? ⟨pa, 0, none⟩ = some (.int .i64 3) → w'.cell? ⟨pb, 0, none⟩ = some (.int .i64 0) → Hid (BadK w b1 b2 b3 D U G σ (str P).size w') →
      Calls Tryz.prog 8 #[.pointer (some ⟨b2, 0, none⟩)] w' fun r w'' => (∃ ao mm cap, r = .returned (.agg #[.int .i64 0, .string ⟨#[]⟩, .slice ao mm cap, .string ⟨#[]⟩, .int .i64 0])) ∧ w''.cell? ⟨L + 1, k, none⟩ = some (.int .i64 A) ∧ w''.cell? ⟨L + 1 + 1, k, none⟩ = some (.int .i64 E) ∧ w''.cell? ⟨pa, 0, none⟩ = some (.int .i64 3) ∧ w''.cell? ⟨pb, 0, none⟩ = some (.int .i64 0) ∧ Hid (BadV w b3 w'') := fun w' f1 f2 f3 f4 h => by
    have c := snext _ b2 U _ w' h.out.u
    rw [(next_err (bl U) ⟨0, 2, ((str P).size : Int)⟩ (show ¬ (2 : Int) = 0 by decide)).1, (next_err (bl U) ⟨0, 2, ((str P).size : Int)⟩ (show ¬ (2 : Int) = 0 by decide)).2] at c
    refine c.mono ?_
    rintro r w14 ⟨x, rfl, ⟨v, rfl, hr, hfr⟩, h14, o14⟩
    obtain ⟨ao, mm, cap, rfl⟩ := rows_form hr
    refine ⟨⟨ao, mm, cap, rfl⟩, o14.cellOf f1 (by show L + 1 ≠ b2; omega), o14.cellOf f2 (by show L + 1 + 1 ≠ b2; omega), o14.cellOf f3 (by show pa ≠ b2; omega), o14.cellOf f4 (by show pb ≠ b2; omega), Lib.hid ⟨o14.belowOf h.out.u.base h.out.below rfl, ?_⟩⟩
    exact o14.cellOf h.out.v.c2 (by show b3 ≠ b2; omega)
  have CVE : ∀ w', Hid (BadV w b3 w') → Calls Tryz.prog 10 #[.pointer (some ⟨b3, 0, none⟩)] w' fun r w'' => r = .returned (.int .i64 5) ∧ w' = w'' := fun w' h => serr_at b3 5 w' h.out.v
  have CNN : ∀ w', w'.cell? ⟨L + 1, k, none⟩ = some (.int .i64 A) → w'.cell? ⟨L + 1 + 1, k, none⟩ = some (.int .i64 E) → w'.cell? ⟨pa, 0, none⟩ = some (.int .i64 3) → w'.cell? ⟨pb, 0, none⟩ = some (.int .i64 0) → Hid (BadV w b3 w') →
      Calls Tryz.prog 8 #[.pointer none] w' fun r w'' => r = .returned (.agg #[.int .i64 0, .string ⟨#[]⟩, .slice none 0 0, .string ⟨#[]⟩, .int .i64 0]) ∧ w''.cell? ⟨L + 1, k, none⟩ = some (.int .i64 A) ∧ w''.cell? ⟨L + 1 + 1, k, none⟩ = some (.int .i64 E) ∧ w''.cell? ⟨pa, 0, none⟩ = some (.int .i64 3) ∧ w''.cell? ⟨pb, 0, none⟩ = some (.int .i64 0) ∧ Hid (Below w.heap.size w w'') := fun w' f1 f2 f3 f4 h => by
    refine (snext_nil w').mono ?_
    rintro r w14 ⟨rfl, hb⟩
    exact ⟨rfl, (Only.of (b := L) hb).cellOf f1 (by show L + 1 ≠ L; omega), (Only.of (b := L) hb).cellOf f2 (by show L + 1 + 1 ≠ L; omega), (Only.of (b := L) hb).cellOf f3 (by show pa ≠ L; omega), (Only.of (b := L) hb).cellOf f4 (by show pb ≠ L; omega), Lib.hid (h.out.below.trans (hb.mono h.out.below.size))⟩
  have hA0 := badA_or k
  have hk0 : (0 : Int) ≤ (k : Int) := by omega
  have hA1 : 0 ≤ A ∧ A ≤ 9 := by rw [← hAk.out]; exact hA0
  obtain ⟨hA1, hA2⟩ := hA1
  have CA := Lib.hid CA
  have CE := Lib.hid CE
  have CT := Lib.hid CT
  have CUE := Lib.hid CUE
  have CUT := Lib.hid CUT
  have CUN := Lib.hid CUN
  have CVE := Lib.hid CVE
  have CNN := Lib.hid CNN
  have SE := Lib.hid (fun w => serr_nil w)
  have ST := Lib.hid (fun w => sat_nil w)
  have e4 : IntKind.i64.wrap (4 + A) = 4 + A := IntWalk.i64_in _ (by omega)
  have fA := FA.out
  have fE := FE.out
  have fP := FP.out
  have fQ := FQ.out
  have hfd : ∀ (ao : Option Addr) (mm cap : Nat) (w : World), (Instr.field 27 (.agg #[.int .i64 0, .string ⟨#[]⟩, .slice ao mm cap, .string ⟨#[]⟩, .int .i64 0]) 0).run Tryz.prog w = .ok (.int .i64 0) w := fun _ _ _ _ => by kernel_rfl
  clear hne hd hA0 hEo
  go_wp2_with fail
  simp only [List.append]
  go_region_held3 (fun w' => w'.cell? ⟨L + 1, k, none⟩ = some (.int .i64 A) ∧ w'.cell? ⟨L + 1 + 1, k, none⟩ = some (.int .i64 E) ∧ w'.cell? ⟨pa, 0, none⟩ = some (.int .i64 3) ∧ w'.cell? ⟨pb, 0, none⟩ = some (.int .i64 0))
    (first
      | (refine ⟨?_, ?_, ?_, ?_⟩ <;> assumption)
      | go_keep)
    (first
      | (go_at_call 11; refine CA.out.mono ?_; rintro r w13 ⟨rfl, s1, s2, s3, s4, K13⟩)
      | (go_at_call_of 10 (Value.pointer (some ⟨b1, 0, none⟩)); refine (CE.out _ K13).mono ?_; rintro r wy ⟨rfl, rfl⟩)
      | (go_at_call_of 12 (Value.pointer (some ⟨b1, 0, none⟩)); refine (CT.out _ K13).mono ?_; rintro r wy ⟨rfl, rfl⟩)
      | (go_at_call_of 10 (Value.pointer (some ⟨b2, 0, none⟩)); refine (CUE.out _ K13).mono ?_; rintro r wy ⟨rfl, rfl⟩)
      | (go_at_call_of 12 (Value.pointer (some ⟨b2, 0, none⟩)); refine (CUT.out _ K13).mono ?_; rintro r wy ⟨rfl, rfl⟩)
      | (go_at_call_of 8 (Value.pointer (some ⟨b2, 0, none⟩)); refine (CUN.out _ s1 s2 s3 s4 K13).mono ?_; rintro r w14 ⟨⟨ao, mm, cap, rfl⟩, t1, t2, t3, t4, K14⟩)
      | (go_at_call_of 10 (Value.pointer (some ⟨b3, 0, none⟩)); refine (CVE.out _ K14).mono ?_; rintro r wy ⟨rfl, rfl⟩)
      | (go_at_call_of 10 (Value.pointer none); refine (SE.out _).mono ?_; rintro r wy ⟨rfl, rfl⟩)
      | (go_at_call_of 12 (Value.pointer none); refine (ST.out _).mono ?_; rintro r wy ⟨rfl, rfl⟩)
      | (go_at_call_of 8 (Value.pointer none); refine (CNN.out _ t1 t2 t3 t4 K14).mono ?_; rintro r w15 ⟨rfl, u1, u2, u3, u4, K15⟩))
  all_goals
    go_wp2
    go_ret
    exact ⟨rfl, K15.out⟩
/-- **The law ScanBad.** -/
theorem bad_any (n : Int) (pad : ByteArray) (w : World) (hE : EntV w) (hT : Tabs w) :
    Calls Tryz.prog 4 #[.int .i64 n, .string pad] w fun e w' => e = .returned (.bool true) ∧ Below w.heap.size w w' := by
  obtain ⟨k, hk, hn⟩ := mask_i64 n 4 (by decide) 15 (by decide)
  obtain ⟨m, hm1, hm2, _, Hm3, _⟩ := min8 pad.size 9
  obtain ⟨T, hT'⟩ : ∃ T, pad.extract 0 m = T := ⟨_, rfl⟩
  have hTs : T.size ≤ 9 := by rw [← bl_size, ← hT', cut_bl, List.length_take, bl_size]; omega
  exact bad04 n k hk (Lib.hid hn) pad T m w hE hT hm1 Hm3.out (Lib.hid hT') hTs

end Go.Proofs.YtkpkekmofidajaaGreatDoor
