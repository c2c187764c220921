/-
  The walks of the functions that tell a letter's bytes: galliardref01.Put, utf.May, utf.Put, utf.Size.
-/
import Derived.Test.YtincdacickhdkaaGreatDoorB1
import Derived.Test.YtincdacickhdkaaGreatDoorProg
import Derived.WalkKit
import Derived.WalkSpells
import Derived.WalkLawsBesides
import Derived.Lib.Hide
namespace Go.Proofs.YtincdacickhdkaaGreatDoor
open Go.RowKit
set_option maxRecDepth 100000

/-- A letter's bytes, as a string. -/
def putS (r : Int) : ByteArray := ⟨(put r).toArray⟩
theorem putS_list (r : Int) : (putS r).data.toList = put r := by simp [putS]
theorem putS_size (r : Int) : (putS r).size = (put r).length := by show (put r).toArray.size = _; simp

def ub (x : Int) : UInt8 := UInt8.ofNat x.toNat
theorem ub_toNat {x : Int} (h : 0 ≤ x ∧ x < 256) : (((ub x).toNat : Nat) : Int) = x := by
  unfold ub; rw [toNat_byte (by omega)]; omega
theorem convAny (w : World) (l : List UInt8) :
    (convert 28 9 (.slice (some ⟨w.heap.size, 0, none⟩) l.length l.length)).run Tryz.prog (w.alloc (.cells (l.map fun b => Value.int .u8 b.toNat).toArray 5)) = .ok (.string ⟨l.toArray⟩) (w.alloc (.cells (l.map fun b => Value.int .u8 b.toNat).toArray 5)) :=
  run_convert_bytes_back _ 28 9 5 ⟨w.heap.size, 0, none⟩ l.length l Tryz.underlying28 Tryz.underlying5 Tryz.underlying9 (fun j hj => by
    have e : Addr.add ⟨w.heap.size, 0, none⟩ j = ⟨w.heap.size, j, none⟩ := by
      unfold Addr.add
      by_cases h0 : j = 0
      · subst h0; rfl
      · simp [h0]
    rw [e, World.cell?_alloc_mark w (l.map fun b => Value.int .u8 b.toNat).toArray 5 (0, 0) j]
    simp [hj])
theorem conv1 (w : World) (x : Int) (hx : 0 ≤ x ∧ x < 256) :
    (convert 28 9 (.slice (some ⟨w.heap.size, 0, none⟩) 1 1)).run Tryz.prog (w.alloc (.cells #[Value.int .u8 x] 5)) = .ok (.string ⟨#[ub x]⟩) (w.alloc (.cells #[Value.int .u8 x] 5)) := by
  have h := convAny w [ub x]
  simp only [List.map_cons, List.map_nil, ub_toNat hx] at h
  exact h
theorem conv2 (w : World) (x y : Int) (hx : 0 ≤ x ∧ x < 256) (hy : 0 ≤ y ∧ y < 256) :
    (convert 28 9 (.slice (some ⟨w.heap.size, 0, none⟩) 2 2)).run Tryz.prog (w.alloc (.cells #[Value.int .u8 x, Value.int .u8 y] 5)) = .ok (.string ⟨#[ub x, ub y]⟩) (w.alloc (.cells #[Value.int .u8 x, Value.int .u8 y] 5)) := by
  have h := convAny w [ub x, ub y]
  simp only [List.map_cons, List.map_nil, ub_toNat hx, ub_toNat hy] at h
  exact h
theorem conv3 (w : World) (x y z : Int) (hx : 0 ≤ x ∧ x < 256) (hy : 0 ≤ y ∧ y < 256) (hz : 0 ≤ z ∧ z < 256) :
    (convert 28 9 (.slice (some ⟨w.heap.size, 0, none⟩) 3 3)).run Tryz.prog (w.alloc (.cells #[Value.int .u8 x, Value.int .u8 y, Value.int .u8 z] 5)) = .ok (.string ⟨#[ub x, ub y, ub z]⟩) (w.alloc (.cells #[Value.int .u8 x, Value.int .u8 y, Value.int .u8 z] 5)) := by
  have h := convAny w [ub x, ub y, ub z]
  simp only [List.map_cons, List.map_nil, ub_toNat hx, ub_toNat hy, ub_toNat hz] at h
  exact h
theorem conv4 (w : World) (x y z u : Int) (hx : 0 ≤ x ∧ x < 256) (hy : 0 ≤ y ∧ y < 256) (hz : 0 ≤ z ∧ z < 256) (hu : 0 ≤ u ∧ u < 256) :
    (convert 28 9 (.slice (some ⟨w.heap.size, 0, none⟩) 4 4)).run Tryz.prog (w.alloc (.cells #[Value.int .u8 x, Value.int .u8 y, Value.int .u8 z, Value.int .u8 u] 5)) = .ok (.string ⟨#[ub x, ub y, ub z, ub u]⟩) (w.alloc (.cells #[Value.int .u8 x, Value.int .u8 y, Value.int .u8 z, Value.int .u8 u] 5)) := by
  have h := convAny w [ub x, ub y, ub z, ub u]
  simp only [List.map_cons, List.map_nil, ub_toNat hx, ub_toNat hy, ub_toNat hz, ub_toNat hu] at h
  exact h

/-! ### galliardref01.Put -/
set_option maxHeartbeats 400000 in
theorem rput_lo (r : Int) (w : World) (h : r < 0) :
    Calls Tryz.prog 47 #[.int .i64 r] w fun e w' => e = .returned (.string ⟨#[]⟩) ∧ Below w.heap.size w w' := by
  go_enter Tryz.func47, Tryz.ntmps47
  go_wp2
  go_ret
  exact ⟨rfl, Below.refl _ _⟩
set_option maxHeartbeats 400000 in
theorem rput_hi (r : Int) (w : World) (h : 1114111 < r) :
    Calls Tryz.prog 47 #[.int .i64 r] w fun e w' => e = .returned (.string ⟨#[]⟩) ∧ Below w.heap.size w w' := by
  go_enter Tryz.func47, Tryz.ntmps47
  go_wp2
  go_ret
  exact ⟨rfl, Below.refl _ _⟩
set_option maxHeartbeats 400000 in
theorem rput_half (r : Int) (w : World) (h : 55296 ≤ r) (h' : r ≤ 57343) :
    Calls Tryz.prog 47 #[.int .i64 r] w fun e w' => e = .returned (.string ⟨#[]⟩) ∧ Below w.heap.size w w' := by
  go_enter Tryz.func47, Tryz.ntmps47
  go_wp2
  go_ret
  exact ⟨rfl, Below.refl _ _⟩
set_option maxHeartbeats 400000 in
theorem rput_1 (r : Int) (w : World) (h0 : 0 ≤ r) (h1 : r < 128) :
    Calls Tryz.prog 47 #[.int .i64 r] w fun e w' => e = .returned (.string ⟨#[ub r]⟩) ∧ Below w.heap.size w w' := by
  have k := conv1 w r (by omega)
  go_enter Tryz.func47, Tryz.ntmps47
  go_wp2
  go_ret
  exact ⟨rfl, (Below.refl _ _).alloc (Nat.le_refl _) _⟩
set_option maxHeartbeats 400000 in
theorem rput_2 (r : Int) (w : World) (h0 : 128 ≤ r) (h1 : r < 2048) :
    Calls Tryz.prog 47 #[.int .i64 r] w fun e w' => e = .returned (.string ⟨#[ub (192 + r / 64), ub (128 + r % 64)]⟩) ∧ Below w.heap.size w w' := by
  have k := conv2 w (192 + r / 64) (128 + r % 64) (by omega) (by omega)
  go_enter Tryz.func47, Tryz.ntmps47
  go_wp2
  go_ret
  exact ⟨rfl, (Below.refl _ _).alloc (Nat.le_refl _) _⟩
set_option maxHeartbeats 400000 in
theorem rput_3a (r : Int) (w : World) (h0 : 2048 ≤ r) (h1 : r < 55296) :
    Calls Tryz.prog 47 #[.int .i64 r] w fun e w' => e = .returned (.string ⟨#[ub (224 + r / 4096), ub (128 + r / 64 % 64), ub (128 + r % 64)]⟩) ∧ Below w.heap.size w w' := by
  have k := conv3 w (224 + r / 4096) (128 + r / 64 % 64) (128 + r % 64) (by omega) (by omega) (by omega)
  go_enter Tryz.func47, Tryz.ntmps47
  go_wp2
  go_ret
  exact ⟨rfl, (Below.refl _ _).alloc (Nat.le_refl _) _⟩
set_option maxHeartbeats 400000 in
theorem rput_3b (r : Int) (w : World) (h0 : 57343 < r) (h1 : r < 65536) :
    Calls Tryz.prog 47 #[.int .i64 r] w fun e w' => e = .returned (.string ⟨#[ub (224 + r / 4096), ub (128 + r / 64 % 64), ub (128 + r % 64)]⟩) ∧ Below w.heap.size w w' := by
  have k := conv3 w (224 + r / 4096) (128 + r / 64 % 64) (128 + r % 64) (by omega) (by omega) (by omega)
  go_enter Tryz.func47, Tryz.ntmps47
  go_wp2
  go_ret
  exact ⟨rfl, (Below.refl _ _).alloc (Nat.le_refl _) _⟩
set_option maxHeartbeats 400000 in
theorem rput_4 (r : Int) (w : World) (h0 : 65536 ≤ r) (h1 : r ≤ 1114111) :
    Calls Tryz.prog 47 #[.int .i64 r] w fun e w' => e = .returned (.string ⟨#[ub (240 + r / 262144), ub (128 + r / 4096 % 64), ub (128 + r / 64 % 64), ub (128 + r % 64)]⟩) ∧ Below w.heap.size w w' := by
  have k := conv4 w (240 + r / 262144) (128 + r / 4096 % 64) (128 + r / 64 % 64) (128 + r % 64) (by omega) (by omega) (by omega) (by omega)
  go_enter Tryz.func47, Tryz.ntmps47
  go_wp2
  go_ret
  exact ⟨rfl, (Below.refl _ _).alloc (Nat.le_refl _) _⟩
theorem ub_eq {x : Int} {n : Nat} (h : x = n) : ub x = UInt8.ofNat n := by subst h; rfl
/-- **galliardref01.Put at every number.** -/
theorem rput (r : Int) (w : World) :
    Calls Tryz.prog 47 #[.int .i64 r] w fun e w' => e = .returned (.string (putS r)) ∧ Below w.heap.size w w' := by
  unfold putS
  by_cases h1 : r < 0
  · rw [put_nil r (by unfold mayB; simp; omega)]; exact rput_lo r w h1
  by_cases h2 : 1114111 < r
  · rw [put_nil r (by unfold mayB; simp; omega)]; exact rput_hi r w h2
  by_cases h3 : 55296 ≤ r ∧ r ≤ 57343
  · rw [put_nil r (by unfold mayB; simp; omega)]; exact rput_half r w h3.1 h3.2
  by_cases h4 : r < 128
  · rw [put_f1 r (by omega), ← ub_eq (x := r) (by omega)]; exact rput_1 r w (by omega) h4
  by_cases h5 : r < 2048
  · rw [put_f2 r (by omega), ← ub_eq (x := 192 + r / 64) (by omega), ← ub_eq (x := 128 + r % 64) (by omega)]; exact rput_2 r w (by omega) h5
  by_cases h6 : r < 65536
  · rw [put_f3 r (by omega) (by omega), ← ub_eq (x := 224 + r / 4096) (by omega), ← ub_eq (x := 128 + r / 64 % 64) (by omega), ← ub_eq (x := 128 + r % 64) (by omega)]
    by_cases h7 : r < 55296
    · exact rput_3a r w (by omega) h7
    · exact rput_3b r w (by omega) h6
  · rw [put_f4 r (by omega), ← ub_eq (x := 240 + r / 262144) (by omega), ← ub_eq (x := 128 + r / 4096 % 64) (by omega), ← ub_eq (x := 128 + r / 64 % 64) (by omega), ← ub_eq (x := 128 + r % 64) (by omega)]
    exact rput_4 r w (by omega) (by omega)

/-! ### utf.May, utf.Put, utf.Size -/
set_option maxHeartbeats 400000 in
theorem may_yes (r : Int) (w : World) (h : mayB r = true) :
    Calls Tryz.prog 122 #[.int .i64 r] w fun e w' => e = .returned (.bool true) ∧ w = w' := by
  have h' := (mayB_iff r).1 h
  clear h
  rcases h' with ⟨h1, h2⟩ | ⟨h1, h2⟩
  · go_enter Tryz.func122, Tryz.ntmps122
    go_wp2
    go_ret
    exact ⟨rfl, rfl⟩
  · have h3 : ¬ r < 55296 := by omega
    have h4 : 0 ≤ r := by omega
    go_enter Tryz.func122, Tryz.ntmps122
    go_wp2
    go_ret
    exact ⟨rfl, rfl⟩
set_option maxHeartbeats 400000 in
theorem may_no (r : Int) (w : World) (h : mayB r = false) :
    Calls Tryz.prog 122 #[.int .i64 r] w fun e w' => e = .returned (.bool false) ∧ w = w' := by
  have h' : r < 0 ∨ 1114111 < r ∨ (55296 ≤ r ∧ r ≤ 57343) := by unfold mayB at h; have := of_decide_eq_false h; omega
  clear h
  rcases h' with h1 | h1 | ⟨h1, h2⟩
  · go_enter Tryz.func122, Tryz.ntmps122
    go_wp2
    go_ret
    exact ⟨rfl, rfl⟩
  · have h4 : 0 ≤ r := by omega
    go_enter Tryz.func122, Tryz.ntmps122
    go_wp2
    go_ret
    exact ⟨rfl, rfl⟩
  · have h4 : 0 ≤ r := by omega
    have h5 : r ≤ 1114111 := by omega
    have h6 : decide (r < 55296) = false := by simp; omega
    have h7 : decide (57343 < r) = false := by simp; omega
    go_enter Tryz.func122, Tryz.ntmps122
    go_wp2
    go_ret
    exact ⟨rfl, rfl⟩
theorem may_any (r : Int) (w : World) :
    Calls Tryz.prog 122 #[.int .i64 r] w fun e w' => e = .returned (.bool (mayB r)) ∧ w = w' := by
  cases h : mayB r with
  | true => exact may_yes r w h
  | false => exact may_no r w h
end Go.Proofs.YtincdacickhdkaaGreatDoor
