/-
  A scanner in memory, and the walks of scan's small methods: Wrong, Err, At, stands, skip, must, while, letters, opened, name.
-/
import Derived.Test.YtekmenkebokdoaaGreatDoorEntOpen
import Derived.Test.YtekmenkebokdoaaGreatDoorScanMath
import Derived.OwnWalk
import Derived.IntWalk
namespace Go.Proofs.YtekmenkebokdoaaGreatDoor
open Go.RowKit
set_option maxRecDepth 100000

/-! ### what changes, and what does not -/
/-- Of what was there only block b may have changed. -/
structure Only (b : Nat) (w w' : World) : Prop where
  os : w'.os = w.os
  tape : w'.tape = w.tape
  output : w'.output = w.output
  size : w.heap.size ≤ w'.heap.size
  block : ∀ k, k < w.heap.size → k ≠ b → w'.heap[k]? = w.heap[k]?
theorem Only.refl (b : Nat) (w : World) : Only b w w := ⟨rfl, rfl, rfl, Nat.le_refl _, fun _ _ _ => rfl⟩
theorem Only.trans {b : Nat} {x y z : World} (h : Only b x y) (k : Only b y z) : Only b x z :=
  ⟨k.os.trans h.os, k.tape.trans h.tape, k.output.trans h.output, Nat.le_trans h.size k.size, fun i hi hb => (k.block i (Nat.lt_of_lt_of_le hi h.size) hb).trans (h.block i hi hb)⟩
theorem Only.of {b : Nat} {w w' : World} (h : Below w.heap.size w w') : Only b w w' := ⟨h.os, h.tape, h.output, h.size, fun k hk _ => h.block k hk⟩
theorem Only.below {b B : Nat} {w w' : World} (h : Only b w w') (hB : B ≤ b) (hw : B ≤ w.heap.size) : Below B w w' := ⟨h.os, h.tape, h.output, h.size, fun k hk => h.block k (by omega) (by omega)⟩
theorem Only.set (b o : Nat) (w : World) (v : Value) : Only b w (w.setCell ⟨b, o, none⟩ v) := ⟨rfl, rfl, rfl, by simp [World.setCell], fun k _ hb => Below.heap_setCell _ _ _ _ hb⟩
theorem Only.alloc (b : Nat) (w : World) (o : Obj) : Only b w (w.alloc o) := Only.of ((Below.refl _ _).alloc (Nat.le_refl _) _)
theorem Only.drewN (b : Nat) (w : World) (n : Nat) : Only b w (w.drewN n) := Only.of (below_drewN w n)

/-- What the package-level variables hold lies below B, and is as it was. -/
def Glob (B : Nat) (w : World) : Prop := ∃ w0, w0.heap.size = B ∧ EntV w0 ∧ Tabs w0 ∧ Below B w0 w
theorem Glob.start {w : World} (h : EntV w) (k : Tabs w) : Glob w.heap.size w := ⟨w, rfl, h, k, Below.refl _ _⟩
theorem Glob.ent {B : Nat} {w : World} (h : Glob B w) : EntV w := by obtain ⟨w0, rfl, h1, _, h3⟩ := h; exact h1.below h3
theorem Glob.tabs {B : Nat} {w : World} (h : Glob B w) : Tabs w := by obtain ⟨w0, rfl, _, h2, h3⟩ := h; exact h2.below h3
theorem Glob.le {B : Nat} {w : World} (h : Glob B w) : B ≤ w.heap.size := by obtain ⟨w0, rfl, _, _, h3⟩ := h; exact h3.size
theorem Glob.step {B : Nat} {w w' : World} (h : Glob B w) (hb : Below B w w') : Glob B w' := by obtain ⟨w0, h0, h1, h2, h3⟩ := h; exact ⟨w0, h0, h1, h2, h3.trans hb⟩

/-- A scanner over a text, in block b. -/
structure Sc (B b : Nat) (s : ByteArray) (σ : St) (w : World) : Prop where
  base : B ≤ b
  len : s.size ≤ 4000000000
  pos : σ.pos ≤ s.size
  glob : Glob B w
  heap : w.heap[b]? = some (.cells #[.string s, .int .i64 σ.pos, .int .i64 σ.err, .int .i64 σ.wrg] 65 (0, 0))
theorem Sc.lt {B b : Nat} {s : ByteArray} {σ : St} {w : World} (h : Sc B b s σ w) : b < w.heap.size := (Array.getElem?_eq_some_iff.1 h.heap).1
theorem Sc.c0 {B b : Nat} {s : ByteArray} {σ : St} {w : World} (h : Sc B b s σ w) : w.cell? ⟨b, 0, none⟩ = some (.string s) := by rw [Lib.cell_of_heap h.heap]; rfl
theorem Sc.c1 {B b : Nat} {s : ByteArray} {σ : St} {w : World} (h : Sc B b s σ w) : w.cell? ⟨b, 1, none⟩ = some (.int .i64 σ.pos) := by rw [Lib.cell_of_heap h.heap]; rfl
theorem Sc.c2 {B b : Nat} {s : ByteArray} {σ : St} {w : World} (h : Sc B b s σ w) : w.cell? ⟨b, 2, none⟩ = some (.int .i64 σ.err) := by rw [Lib.cell_of_heap h.heap]; rfl
theorem Sc.c3 {B b : Nat} {s : ByteArray} {σ : St} {w : World} (h : Sc B b s σ w) : w.cell? ⟨b, 3, none⟩ = some (.int .i64 σ.wrg) := by rw [Lib.cell_of_heap h.heap]; rfl
theorem Sc.fz {B b : Nat} {s : ByteArray} {σ : St} {w : World} (h : Sc B b s σ w) (o : Nat) : w.frozen? ⟨b, o, none⟩ = false := Lib.frozen_of_heap h.heap o
theorem Sc.step {B b : Nat} {s : ByteArray} {σ : St} {w w' : World} (h : Sc B b s σ w) (hb : Below w.heap.size w w') : Sc B b s σ w' :=
  ⟨h.base, h.len, h.pos, h.glob.step (hb.mono h.glob.le), by rw [hb.block _ h.lt]; exact h.heap⟩
theorem heap_set {w : World} {b o : Nat} {cs : Array Value} {t : TypeId} {z : Nat × Nat} (v : Value) (h : w.heap[b]? = some (.cells cs t z)) : (w.setCell ⟨b, o, none⟩ v).heap[b]? = some (.cells (cs.setIfInBounds o v) t z) := by
  simp only [World.setCell, Array.getElem?_modify, if_true, h, Option.map_some]
  rfl
theorem Sc.go {B b : Nat} {s : ByteArray} {σ : St} {w : World} (h : Sc B b s σ w) (p : Nat) (hp : p ≤ s.size) : Sc B b s (go_ σ p) (w.setCell ⟨b, 1, none⟩ (.int .i64 p)) :=
  ⟨h.base, h.len, hp, h.glob.step ((Only.set b 1 w _).below h.base h.glob.le), by rw [heap_set _ h.heap]; rfl⟩
theorem Sc.wrong {B b : Nat} {s : ByteArray} {σ : St} {w : World} (h : Sc B b s σ w) (e a : Int) : Sc B b s ⟨σ.pos, e, a⟩ ((w.setCell ⟨b, 2, none⟩ (.int .i64 e)).setCell ⟨b, 3, none⟩ (.int .i64 a)) :=
  ⟨h.base, h.len, h.pos, (h.glob.step ((Only.set b 2 w _).below h.base h.glob.le)).step ((Only.set b 3 _ _).below h.base (by simpa [World.setCell] using h.glob.le)), by rw [heap_set _ (heap_set _ h.heap)]; rfl⟩

set_option maxHeartbeats 1000000 in
theorem swrong0 (B b : Nat) (s : ByteArray) (σ : St) (w : World) (h : Sc B b s σ w) (e a : Int) (he : e ≠ 0) (h0 : σ.err = 0) :
    Calls Tryz.prog 32 #[.pointer (some ⟨b, 0, none⟩), .int .i64 e, .int .i64 a] w fun r w' => r = .returned (.tuple #[]) ∧ Sc B b s ⟨σ.pos, e, a⟩ w' ∧ Only b w w' := by
  have c2 := h.c2
  rw [h0] at c2
  have f2 := h.fz 2
  have f3 := h.fz 3
  have q : (e == 0) = false := by simp [he]
  have c3 := h.c3
  have H := Lib.hid h
  clear h he h0
  go_enter Tryz.func32, Tryz.ntmps32
  go_wp2
  go_end0
  exact ⟨rfl, H.out.wrong e a, (Only.set b 2 w _).trans (Only.set b 3 _ _)⟩
set_option maxHeartbeats 1000000 in
theorem swrong1 (B b : Nat) (s : ByteArray) (σ : St) (w : World) (h : Sc B b s σ w) (e a : Int) (h0 : σ.err ≠ 0) :
    Calls Tryz.prog 32 #[.pointer (some ⟨b, 0, none⟩), .int .i64 e, .int .i64 a] w fun r w' => r = .returned (.tuple #[]) ∧ w = w' := by
  have c2 := h.c2
  have q : (σ.err != 0) = true := by simp [h0]
  clear h h0
  go_enter Tryz.func32, Tryz.ntmps32
  go_wp2
  (try simp only [Exit.inBlock, Exit.then])
  refine bodyPost_ret (results_none rfl _ _ _) rfl ?_
  exact ⟨rfl, rfl⟩
/-- **(*Scanner).Wrong.** -/
theorem swrong (B b : Nat) (s : ByteArray) (σ : St) (w : World) (h : Sc B b s σ w) (e a : Int) (he : e ≠ 0) :
    Calls Tryz.prog 32 #[.pointer (some ⟨b, 0, none⟩), .int .i64 e, .int .i64 a] w fun r w' => r = .returned (.tuple #[]) ∧ Sc B b s (wrongS e a σ) w' ∧ Only b w w' := by
  unfold wrongS
  by_cases h0 : σ.err = 0
  · rw [if_pos h0]; exact swrong0 B b s σ w h e a he h0
  · rw [if_neg h0]
    refine (swrong1 B b s σ w h e a h0).mono ?_
    rintro r w' ⟨rfl, rfl⟩
    exact ⟨rfl, h, Only.refl _ _⟩
set_option maxHeartbeats 1000000 in
theorem swrong_nil (w : World) (e a : Int) :
    Calls Tryz.prog 32 #[.pointer none, .int .i64 e, .int .i64 a] w fun r w' => r = .returned (.tuple #[]) ∧ w = w' := by
  go_enter Tryz.func32, Tryz.ntmps32
  go_wp2
  (try simp only [Exit.inBlock, Exit.then])
  refine bodyPost_ret (results_none rfl _ _ _) rfl ?_
  exact ⟨rfl, rfl⟩
set_option maxHeartbeats 1000000 in
theorem serr (B b : Nat) (s : ByteArray) (σ : St) (w : World) (h : Sc B b s σ w) :
    Calls Tryz.prog 48 #[.pointer (some ⟨b, 0, none⟩)] w fun r w' => r = .returned (.int .i64 σ.err) ∧ w = w' := by
  have c2 := h.c2
  clear h
  go_enter Tryz.func48, Tryz.ntmps48
  go_wp2
  go_ret
  exact ⟨rfl, rfl⟩
set_option maxHeartbeats 1000000 in
theorem serr_nil (w : World) :
    Calls Tryz.prog 48 #[.pointer none] w fun r w' => r = .returned (.int .i64 1) ∧ w = w' := by
  go_enter Tryz.func48, Tryz.ntmps48
  go_wp2
  go_ret
  exact ⟨rfl, rfl⟩
def atS (σ : St) : Int := if σ.err = 0 then σ.pos else σ.wrg
set_option maxHeartbeats 1000000 in
theorem sat (B b : Nat) (s : ByteArray) (σ : St) (w : World) (h : Sc B b s σ w) :
    Calls Tryz.prog 49 #[.pointer (some ⟨b, 0, none⟩)] w fun r w' => r = .returned (.int .i64 (atS σ)) ∧ w = w' := by
  unfold atS
  by_cases h0 : σ.err = 0
  · rw [if_pos h0]
    have c2 := h.c2
    rw [h0] at c2
    have c1 := h.c1
    clear h h0
    go_enter Tryz.func49, Tryz.ntmps49
    go_wp2
    go_ret
    exact ⟨rfl, rfl⟩
  · rw [if_neg h0]
    have c2 := h.c2
    have q : (σ.err != 0) = true := by simp [h0]
    have c3 := h.c3
    clear h h0
    go_enter Tryz.func49, Tryz.ntmps49
    go_wp2
    go_ret
    exact ⟨rfl, rfl⟩
set_option maxHeartbeats 1000000 in
theorem sat_nil (w : World) :
    Calls Tryz.prog 49 #[.pointer none] w fun r w' => r = .returned (.int .i64 0) ∧ w = w' := by
  go_enter Tryz.func49, Tryz.ntmps49
  go_wp2
  go_ret
  exact ⟨rfl, rfl⟩

/-! ### stands, skip, must -/
set_option maxHeartbeats 2000000 in
theorem sstands (B b : Nat) (s p : ByteArray) (σ : St) (w : World) (h : Sc B b s σ w) :
    Calls Tryz.prog 72 #[.pointer (some ⟨b, 0, none⟩), .string p] w fun r w' => r = .returned (.bool (standsS (bl p) (bl s) σ)) ∧ ∃ n, w' = w.drewN n := by
  have c0 := h.c0
  have c1 := h.c1
  have hp := h.pos
  have hp' : (σ.pos : Int) ≤ (s.size : Int) := by omega
  have C := Lib.hid (Tryz.strings_HasPrefix (s.extract σ.pos s.size) p)
  have E : Lib.hasPrefix (s.extract σ.pos s.size).data.toList p.data.toList = standsS (bl p) (bl s) σ := by
    show List.isPrefixOf p.data.toList (bl (s.extract σ.pos s.size)) = _
    rw [bl_from]; rfl
  rw [E] at C
  generalize standsS (bl p) (bl s) σ = A at C ⊢
  clear h E
  go_enter Tryz.func72, Tryz.ntmps72
  go_wp2
  go_quiet ((go_at_call 94; exact Calls.quiet_of_same (C.out _)))
  go_wp2
  go_ret
  exact ⟨rfl, _, rfl⟩
/-- stands, of a world that is a variable. -/
theorem sstands_at (B b : Nat) (s p : ByteArray) (σ : St) (w : World) (h : Sc B b s σ w) (A : Bool) (hA : standsS (bl p) (bl s) σ = A) :
    Calls Tryz.prog 72 #[.pointer (some ⟨b, 0, none⟩), .string p] w fun r w' => r = .returned (.bool A) ∧ Sc B b s σ w' ∧ Below w.heap.size w w' := by
  refine (sstands B b s p σ w h).mono ?_
  rintro r w' ⟨rfl, n, rfl⟩
  exact ⟨by rw [hA], h.step (below_drewN w n), below_drewN w n⟩
set_option maxHeartbeats 2000000 in
theorem sskip_yes (B b : Nat) (s p : ByteArray) (σ : St) (w : World) (h : Sc B b s σ w) (hs : standsS (bl p) (bl s) σ = true) (hp0 : bl p ≠ []) :
    Calls Tryz.prog 78 #[.pointer (some ⟨b, 0, none⟩), .string p] w fun r w' => r = .returned (.bool true) ∧ Sc B b s (go_ σ (σ.pos + p.size)) w' ∧ Only b w w' := by
  have C := sstands B b s p σ w h
  rw [hs] at C
  have C := Lib.hid C
  have hl := stands_len hs hp0
  rw [bl_size, bl_size] at hl
  have hln := h.len
  have c1 := fun n => (h.step (below_drewN w n)).c1
  have f1 := fun n => (h.step (below_drewN w n)).fz 1
  have H := Lib.hid (fun n => (h.step (below_drewN w n)).go (σ.pos + p.size) hl)
  clear h hs hp0
  go_enter Tryz.func78, Tryz.ntmps78
  go_wp2_with fail
  refine C.out.mono ?_
  rintro e w1 ⟨rfl, n, rfl⟩
  have c1 := c1 n
  have f1 := f1 n
  have H := Lib.hid (H.out n)
  go_wp2
  go_ret
  exact ⟨rfl, H.out, (Only.drewN b w n).trans (Only.set b 1 _ _)⟩
set_option maxHeartbeats 2000000 in
theorem sskip_no (B b : Nat) (s p : ByteArray) (σ : St) (w : World) (h : Sc B b s σ w) (hs : standsS (bl p) (bl s) σ = false) :
    Calls Tryz.prog 78 #[.pointer (some ⟨b, 0, none⟩), .string p] w fun r w' => r = .returned (.bool false) ∧ ∃ n, w' = w.drewN n := by
  have C := sstands B b s p σ w h
  rw [hs] at C
  have C := Lib.hid C
  clear h hs
  go_enter Tryz.func78, Tryz.ntmps78
  go_wp2_with fail
  refine C.out.mono ?_
  rintro e w1 ⟨rfl, n, rfl⟩
  go_wp2
  go_ret
  exact ⟨rfl, _, rfl⟩
/-- **(*Scanner).skip.** -/
theorem sskip (B b : Nat) (s p : ByteArray) (σ : St) (w : World) (h : Sc B b s σ w) (hp0 : bl p ≠ []) :
    Calls Tryz.prog 78 #[.pointer (some ⟨b, 0, none⟩), .string p] w fun r w' => r = .returned (.bool (standsS (bl p) (bl s) σ)) ∧ Sc B b s (skipS (bl p) (bl s) σ) w' ∧ Only b w w' := by
  unfold skipS
  cases hs : standsS (bl p) (bl s) σ with
  | true =>
    rw [if_pos rfl, bl_size]
    exact sskip_yes B b s p σ w h hs hp0
  | false =>
    rw [if_neg (by decide)]
    refine (sskip_no B b s p σ w h hs).mono ?_
    rintro r w' ⟨rfl, n, rfl⟩
    exact ⟨rfl, h.step (below_drewN w n), Only.drewN b w n⟩
set_option maxHeartbeats 2000000 in
theorem smust_yes (B b : Nat) (s p : ByteArray) (σ' : St) (w : World) (C : Hid (Calls Tryz.prog 78 #[.pointer (some ⟨b, 0, none⟩), .string p] w fun r w' => r = .returned (.bool true) ∧ Sc B b s σ' w' ∧ Only b w w')) :
    Calls Tryz.prog 101 #[.pointer (some ⟨b, 0, none⟩), .string p] w fun r w' => r = .returned (.tuple #[]) ∧ Sc B b s σ' w' ∧ Only b w w' := by
  go_enter Tryz.func101, Tryz.ntmps101
  go_wp2_with fail
  refine C.out.mono ?_
  rintro e w1 ⟨rfl, h1, h2⟩
  go_wp2
  go_end0
  exact ⟨rfl, h1, h2⟩
set_option maxHeartbeats 2000000 in
theorem smust_no (B b : Nat) (s p : ByteArray) (σ : St) (w : World) (h : Sc B b s σ w) (C : Hid (Calls Tryz.prog 78 #[.pointer (some ⟨b, 0, none⟩), .string p] w fun r w' => r = .returned (.bool false) ∧ ∃ n, w' = w.drewN n)) :
    Calls Tryz.prog 101 #[.pointer (some ⟨b, 0, none⟩), .string p] w fun r w' => r = .returned (.tuple #[]) ∧ Sc B b s (wrongS 3 σ.pos σ) w' ∧ Only b w w' := by
  have c1 := fun n => (h.step (below_drewN w n)).c1
  have H := Lib.hid (fun n => h.step (below_drewN w n))
  clear h
  go_enter Tryz.func101, Tryz.ntmps101
  go_wp2_with fail
  refine C.out.mono ?_
  rintro e w1 ⟨rfl, n, rfl⟩
  have c1 := c1 n
  have C2 := Lib.hid (swrong B b s σ _ (H.out n) 3 σ.pos (by decide))
  go_wp2_with fail
  refine C2.out.mono ?_
  rintro e w1 ⟨rfl, h1, h2⟩
  go_wp2
  go_end0
  exact ⟨rfl, h1, (Only.drewN b w n).trans h2⟩
/-- **(*Scanner).must.** -/
theorem smust (B b : Nat) (s p : ByteArray) (σ : St) (w : World) (h : Sc B b s σ w) (hp0 : bl p ≠ []) :
    Calls Tryz.prog 101 #[.pointer (some ⟨b, 0, none⟩), .string p] w fun r w' => r = .returned (.tuple #[]) ∧ Sc B b s (mustS (bl p) (bl s) σ) w' ∧ Only b w w' := by
  unfold mustS
  cases hs : standsS (bl p) (bl s) σ with
  | true =>
    rw [if_pos rfl, bl_size]
    exact smust_yes B b s p _ w (Lib.hid (sskip_yes B b s p σ w h hs hp0))
  | false =>
    rw [if_neg (by decide)]
    exact smust_no B b s p σ w h (Lib.hid (sskip_no B b s p σ w h hs))

/-! ### letters, opened -/
set_option maxHeartbeats 2000000 in
theorem sletters_hit (B b : Nat) (s x : ByteArray) (σ : St) (w : World) (a : Nat) (A : Nat) (hA : a + A ≤ 9000000000) (h : Sc B b s σ w)
    (C : Hid (Calls Tryz.prog 113 #[.string x] w fun e w' => e = .returned (.int .i64 A) ∧ Below w.heap.size w w')) :
    Calls Tryz.prog 97 #[.pointer (some ⟨b, 0, none⟩), .string x, .int .i64 a] w fun r w' => r = .returned (.tuple #[]) ∧ Sc B b s (wrongS 3 (a + A) σ) w' ∧ Only b w w' := by
  have H := Lib.hid h
  clear h
  go_enter Tryz.func97, Tryz.ntmps97
  go_wp2_with fail
  refine C.out.mono ?_
  rintro e w1 ⟨rfl, hb⟩
  have C2 := Lib.hid (swrong B b s σ _ (H.out.step hb) 3 (a + A) (by decide))
  go_wp2_with fail
  refine C2.out.mono ?_
  rintro e w2 ⟨rfl, h1, h2⟩
  go_wp2
  go_end0
  exact ⟨rfl, h1, (Only.of hb).trans h2⟩
set_option maxHeartbeats 2000000 in
theorem sletters_miss (b : Nat) (x : ByteArray) (w : World) (a : Nat)
    (C : Hid (Calls Tryz.prog 113 #[.string x] w fun e w' => e = .returned (.int .i64 (-1)) ∧ Below w.heap.size w w')) :
    Calls Tryz.prog 97 #[.pointer (some ⟨b, 0, none⟩), .string x, .int .i64 a] w fun r w' => r = .returned (.tuple #[]) ∧ Below w.heap.size w w' := by
  go_enter Tryz.func97, Tryz.ntmps97
  go_wp2_with fail
  refine C.out.mono ?_
  rintro e w1 ⟨rfl, hb⟩
  go_wp2
  go_end0
  exact ⟨rfl, hb⟩
theorem textL_neg (x : List UInt8) (h : ¬ 0 ≤ textL x) : textL x = -1 := by
  unfold textL at h ⊢
  split
  · rename_i hh; rw [if_pos hh] at h; omega
  · rfl
/-- **(*Scanner).letters.** -/
theorem sletters (B b : Nat) (s x : ByteArray) (σ : St) (w : World) (a : Nat) (hA : a + x.size ≤ 9000000000) (h : Sc B b s σ w) :
    Calls Tryz.prog 97 #[.pointer (some ⟨b, 0, none⟩), .string x, .int .i64 a] w fun r w' => r = .returned (.tuple #[]) ∧ Sc B b s (lettersS (bl x) a σ) w' ∧ Only b w w' := by
  have c := ctext x w (by omega) h.glob.tabs
  unfold lettersS
  by_cases h0 : 0 ≤ textL (bl x)
  · rw [if_pos h0]
    have hl := textL_lt (bl x) h0
    rw [bl_size] at hl
    obtain ⟨A, hA'⟩ : ∃ A : Nat, textL (bl x) = A := ⟨(textL (bl x)).toNat, by omega⟩
    rw [hA'] at c hl ⊢
    exact sletters_hit B b s x σ w a A (by omega) h (Lib.hid c)
  · rw [if_neg h0]
    rw [textL_neg _ h0] at c
    refine (sletters_miss b x w a (Lib.hid c)).mono ?_
    rintro r w' ⟨rfl, hb⟩
    exact ⟨rfl, h.step hb, Only.of hb⟩
set_option maxHeartbeats 2000000 in
theorem sopened_hit (B b : Nat) (s x X : ByteArray) (σ1 : St) (w : World) (a : Nat) (A : Nat) (hA : a + A ≤ 9000000000)
    (C : Hid (Calls Tryz.prog 97 #[.pointer (some ⟨b, 0, none⟩), .string x, .int .i64 a] w fun r w' => r = .returned (.tuple #[]) ∧ Sc B b s σ1 w' ∧ Only b w w'))
    (CO : Hid (∀ w, EntV w → Calls Tryz.prog 119 #[.string x] w fun e w' => e = .returned (.tuple #[.string X, .int .i64 A]) ∧ Below w.heap.size w w')) :
    Calls Tryz.prog 104 #[.pointer (some ⟨b, 0, none⟩), .string x, .int .i64 a] w fun r w' => r = .returned (.string X) ∧ Sc B b s (wrongS 3 (a + A) σ1) w' ∧ Only b w w' := by
  go_enter Tryz.func104, Tryz.ntmps104
  go_wp2_with fail
  refine C.out.mono ?_
  rintro e w1 ⟨rfl, h1, h2⟩
  have H := Lib.hid h1
  have C2 := Lib.hid (CO.out w1 h1.glob.ent)
  clear h1
  go_wp2_with fail
  refine C2.out.mono ?_
  rintro e w2 ⟨rfl, hb⟩
  have C3 := Lib.hid (swrong B b s σ1 _ (H.out.step hb) 3 (a + A) (by decide))
  go_wp2_with fail
  refine C3.out.mono ?_
  rintro e w3 ⟨rfl, h3, h4⟩
  go_wp2
  go_ret
  exact ⟨rfl, h3, (h2.trans (Only.of hb)).trans h4⟩
set_option maxHeartbeats 2000000 in
theorem sopened_miss (B b : Nat) (s x X : ByteArray) (σ1 : St) (w : World) (a : Nat)
    (C : Hid (Calls Tryz.prog 97 #[.pointer (some ⟨b, 0, none⟩), .string x, .int .i64 a] w fun r w' => r = .returned (.tuple #[]) ∧ Sc B b s σ1 w' ∧ Only b w w'))
    (CO : Hid (∀ w, EntV w → Calls Tryz.prog 119 #[.string x] w fun e w' => e = .returned (.tuple #[.string X, .int .i64 (-1)]) ∧ Below w.heap.size w w')) :
    Calls Tryz.prog 104 #[.pointer (some ⟨b, 0, none⟩), .string x, .int .i64 a] w fun r w' => r = .returned (.string X) ∧ Sc B b s σ1 w' ∧ Only b w w' := by
  go_enter Tryz.func104, Tryz.ntmps104
  go_wp2_with fail
  refine C.out.mono ?_
  rintro e w1 ⟨rfl, h1, h2⟩
  have H := Lib.hid h1
  have C2 := Lib.hid (CO.out w1 h1.glob.ent)
  clear h1
  go_wp2_with fail
  refine C2.out.mono ?_
  rintro e w2 ⟨rfl, hb⟩
  go_wp2
  go_ret
  exact ⟨rfl, H.out.step hb, h2.trans (Only.of hb)⟩
theorem openL_neg (x : List UInt8) (h : ¬ 0 ≤ (openL x).2) : (openL x).2 = -1 := by
  have := openF_lt x.length x [] 0
  unfold openL at h ⊢
  rcases this with h1 | h1 <;> omega
/-- **(*Scanner).opened.** -/
theorem sopened (B b : Nat) (s x : ByteArray) (σ : St) (w : World) (a : Nat) (hx : x.size ≤ 4294967280) (hA : a + x.size ≤ 9000000000) (h : Sc B b s σ w) :
    Calls Tryz.prog 104 #[.pointer (some ⟨b, 0, none⟩), .string x, .int .i64 a] w fun r w' => r = .returned (.string (str (openL (bl x)).1)) ∧ Sc B b s (openedS (bl x) a σ) w' ∧ Only b w w' := by
  have c := Lib.hid (sletters B b s x σ w a hA h)
  have co := fun w (h : EntV w) => eopen x w (Lib.hid h) hx
  unfold openedS
  by_cases h0 : 0 ≤ (openL (bl x)).2
  · rw [if_pos h0]
    have hl := openL_lt (bl x) h0
    rw [bl_size] at hl
    obtain ⟨A, hA'⟩ : ∃ A : Nat, (openL (bl x)).2 = A := ⟨(openL (bl x)).2.toNat, by omega⟩
    rw [hA'] at co hl ⊢
    exact sopened_hit B b s x _ _ w a A (by omega) c (Lib.hid co)
  · rw [if_neg h0]
    rw [openL_neg _ h0] at co
    exact sopened_miss B b s x _ _ w a c (Lib.hid co)

end Go.Proofs.YtekmenkebokdoaaGreatDoor
