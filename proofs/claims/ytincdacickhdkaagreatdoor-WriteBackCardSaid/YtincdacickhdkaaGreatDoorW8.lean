/-
  A scanner in memory, and the walks of scan's small methods: Wrong, Err, At, stands, skip, must, while, letters, opened, name.
  The walks of the document's own answers for layer 3: galliardref01.Close, and the law's digits.
  The walk of (*Scanner).while over whatever tells of each byte whether it goes on; and of name.
  The walk of (*Scanner).quoted.
-/
import Derived.Test.YtincdacickhdkaaGreatDoorW7
import Derived.Test.YtincdacickhdkaaGreatDoorW4
import Derived.OwnWalk
import Derived.IntWalk
import Derived.Test.YtincdacickhdkaaGreatDoorW3
import Derived.RegionTactic
namespace Go.Proofs.YtincdacickhdkaaGreatDoor
open Go.RowKit
set_option maxRecDepth 100000

/-! ### what changes, and what does not -/
/-- Of what was there only block b may have changed. -/
structure Only (b : Nat) (w w' : World) : Prop where
  os : w'.os = w.os
  tape : w'.tape = w.tape
  output : w'.output = w.output
  size : w.heap.size ≤ w'.heap.size
  block : ∀ k, k < w.heap.size → k ≠ b → w'.heap[k]? = w.heap[k]?
theorem Only.refl (b : Nat) (w : World) : Only b w w := ⟨rfl, rfl, rfl, Nat.le_refl _, fun _ _ _ => rfl⟩
theorem Only.trans {b : Nat} {x y z : World} (h : Only b x y) (k : Only b y z) : Only b x z :=
  ⟨k.os.trans h.os, k.tape.trans h.tape, k.output.trans h.output, Nat.le_trans h.size k.size, fun i hi hb => (k.block i (Nat.lt_of_lt_of_le hi h.size) hb).trans (h.block i hi hb)⟩
theorem Only.of {b : Nat} {w w' : World} (h : Below w.heap.size w w') : Only b w w' := ⟨h.os, h.tape, h.output, h.size, fun k hk _ => h.block k hk⟩
theorem Only.below {b B : Nat} {w w' : World} (h : Only b w w') (hB : B ≤ b) (hw : B ≤ w.heap.size) : Below B w w' := ⟨h.os, h.tape, h.output, h.size, fun k hk => h.block k (by omega) (by omega)⟩
theorem Only.set (b o : Nat) (w : World) (v : Value) : Only b w (w.setCell ⟨b, o, none⟩ v) := ⟨rfl, rfl, rfl, by simp [World.setCell], fun k _ hb => Below.heap_setCell _ _ _ _ hb⟩
theorem Only.alloc (b : Nat) (w : World) (o : Obj) : Only b w (w.alloc o) := Only.of ((Below.refl _ _).alloc (Nat.le_refl _) _)
theorem Only.drewN (b : Nat) (w : World) (n : Nat) : Only b w (w.drewN n) := Only.of (below_drewN w n)

/-- What the package-level variables hold lies below B, and is as it was. -/
def Glob (B : Nat) (w : World) : Prop := ∃ w0, w0.heap.size = B ∧ EntV w0 ∧ Tabs w0 ∧ Below B w0 w
theorem Glob.start {w : World} (h : EntV w) (k : Tabs w) : Glob w.heap.size w := ⟨w, rfl, h, k, Below.refl _ _⟩
theorem Glob.ent {B : Nat} {w : World} (h : Glob B w) : EntV w := by obtain ⟨w0, rfl, h1, _, h3⟩ := h; exact h1.below h3
theorem Glob.tabs {B : Nat} {w : World} (h : Glob B w) : Tabs w := by obtain ⟨w0, rfl, _, h2, h3⟩ := h; exact h2.below h3
theorem Glob.le {B : Nat} {w : World} (h : Glob B w) : B ≤ w.heap.size := by obtain ⟨w0, rfl, _, _, h3⟩ := h; exact h3.size
theorem Glob.step {B : Nat} {w w' : World} (h : Glob B w) (hb : Below B w w') : Glob B w' := by obtain ⟨w0, h0, h1, h2, h3⟩ := h; exact ⟨w0, h0, h1, h2, h3.trans hb⟩

/-- A scanner over a text, in block b. -/
structure Sc (B b : Nat) (s : ByteArray) (σ : St) (w : World) : Prop where
  base : B ≤ b
  len : s.size ≤ 4000000000
  pos : σ.pos ≤ s.size
  glob : Glob B w
  heap : w.heap[b]? = some (.cells #[.string s, .int .i64 σ.pos, .int .i64 σ.err, .int .i64 σ.wrg] 72 (0, 0))
theorem Sc.lt {B b : Nat} {s : ByteArray} {σ : St} {w : World} (h : Sc B b s σ w) : b < w.heap.size := (Array.getElem?_eq_some_iff.1 h.heap).1
theorem Sc.c0 {B b : Nat} {s : ByteArray} {σ : St} {w : World} (h : Sc B b s σ w) : w.cell? ⟨b, 0, none⟩ = some (.string s) := by rw [Lib.cell_of_heap h.heap]; rfl
theorem Sc.c1 {B b : Nat} {s : ByteArray} {σ : St} {w : World} (h : Sc B b s σ w) : w.cell? ⟨b, 1, none⟩ = some (.int .i64 σ.pos) := by rw [Lib.cell_of_heap h.heap]; rfl
theorem Sc.c2 {B b : Nat} {s : ByteArray} {σ : St} {w : World} (h : Sc B b s σ w) : w.cell? ⟨b, 2, none⟩ = some (.int .i64 σ.err) := by rw [Lib.cell_of_heap h.heap]; rfl
theorem Sc.c3 {B b : Nat} {s : ByteArray} {σ : St} {w : World} (h : Sc B b s σ w) : w.cell? ⟨b, 3, none⟩ = some (.int .i64 σ.wrg) := by rw [Lib.cell_of_heap h.heap]; rfl
theorem Sc.fz {B b : Nat} {s : ByteArray} {σ : St} {w : World} (h : Sc B b s σ w) (o : Nat) : w.frozen? ⟨b, o, none⟩ = false := Lib.frozen_of_heap h.heap o
theorem Sc.step {B b : Nat} {s : ByteArray} {σ : St} {w w' : World} (h : Sc B b s σ w) (hb : Below w.heap.size w w') : Sc B b s σ w' :=
  ⟨h.base, h.len, h.pos, h.glob.step (hb.mono h.glob.le), by rw [hb.block _ h.lt]; exact h.heap⟩
theorem heap_set {w : World} {b o : Nat} {cs : Array Value} {t : TypeId} {z : Nat × Nat} (v : Value) (h : w.heap[b]? = some (.cells cs t z)) : (w.setCell ⟨b, o, none⟩ v).heap[b]? = some (.cells (cs.setIfInBounds o v) t z) := by
  simp only [World.setCell, Array.getElem?_modify, if_true, h, Option.map_some]
  rfl
theorem Sc.go {B b : Nat} {s : ByteArray} {σ : St} {w : World} (h : Sc B b s σ w) (p : Nat) (hp : p ≤ s.size) : Sc B b s (go_ σ p) (w.setCell ⟨b, 1, none⟩ (.int .i64 p)) :=
  ⟨h.base, h.len, hp, h.glob.step ((Only.set b 1 w _).below h.base h.glob.le), by rw [heap_set _ h.heap]; rfl⟩
theorem Sc.wrong {B b : Nat} {s : ByteArray} {σ : St} {w : World} (h : Sc B b s σ w) (e a : Int) : Sc B b s ⟨σ.pos, e, a⟩ ((w.setCell ⟨b, 2, none⟩ (.int .i64 e)).setCell ⟨b, 3, none⟩ (.int .i64 a)) :=
  ⟨h.base, h.len, h.pos, (h.glob.step ((Only.set b 2 w _).below h.base h.glob.le)).step ((Only.set b 3 _ _).below h.base (by simpa [World.setCell] using h.glob.le)), by rw [heap_set _ (heap_set _ h.heap)]; rfl⟩

set_option maxHeartbeats 1000000 in
theorem swrong0 (B b : Nat) (s : ByteArray) (σ : St) (w : World) (h : Sc B b s σ w) (e a : Int) (he : e ≠ 0) (h0 : σ.err = 0) :
    Calls Tryz.prog 35 #[.pointer (some ⟨b, 0, none⟩), .int .i64 e, .int .i64 a] w fun r w' => r = .returned (.tuple #[]) ∧ Sc B b s ⟨σ.pos, e, a⟩ w' ∧ Only b w w' := by
  have c2 := h.c2
  rw [h0] at c2
  have f2 := h.fz 2
  have f3 := h.fz 3
  have q : (e == 0) = false := by simp [he]
  have c3 := h.c3
  have H := Lib.hid h
  clear h he h0
  go_enter Tryz.func35, Tryz.ntmps35
  go_wp2
  go_end0
  exact ⟨rfl, H.out.wrong e a, (Only.set b 2 w _).trans (Only.set b 3 _ _)⟩
set_option maxHeartbeats 1000000 in
theorem swrong1 (B b : Nat) (s : ByteArray) (σ : St) (w : World) (h : Sc B b s σ w) (e a : Int) (h0 : σ.err ≠ 0) :
    Calls Tryz.prog 35 #[.pointer (some ⟨b, 0, none⟩), .int .i64 e, .int .i64 a] w fun r w' => r = .returned (.tuple #[]) ∧ w = w' := by
  have c2 := h.c2
  have q : (σ.err != 0) = true := by simp [h0]
  clear h h0
  go_enter Tryz.func35, Tryz.ntmps35
  go_wp2
  (try simp only [Exit.inBlock, Exit.then])
  refine bodyPost_ret (results_none rfl _ _ _) rfl ?_
  exact ⟨rfl, rfl⟩
/-- **(*Scanner).Wrong.** -/
theorem swrong (B b : Nat) (s : ByteArray) (σ : St) (w : World) (h : Sc B b s σ w) (e a : Int) (he : e ≠ 0) :
    Calls Tryz.prog 35 #[.pointer (some ⟨b, 0, none⟩), .int .i64 e, .int .i64 a] w fun r w' => r = .returned (.tuple #[]) ∧ Sc B b s (wrongS e a σ) w' ∧ Only b w w' := by
  unfold wrongS
  by_cases h0 : σ.err = 0
  · rw [if_pos h0]; exact swrong0 B b s σ w h e a he h0
  · rw [if_neg h0]
    refine (swrong1 B b s σ w h e a h0).mono ?_
    rintro r w' ⟨rfl, rfl⟩
    exact ⟨rfl, h, Only.refl _ _⟩
set_option maxHeartbeats 1000000 in
theorem serr (B b : Nat) (s : ByteArray) (σ : St) (w : World) (h : Sc B b s σ w) :
    Calls Tryz.prog 66 #[.pointer (some ⟨b, 0, none⟩)] w fun r w' => r = .returned (.int .i64 σ.err) ∧ w = w' := by
  have c2 := h.c2
  clear h
  go_enter Tryz.func66, Tryz.ntmps66
  go_wp2
  go_ret
  exact ⟨rfl, rfl⟩
def atS (σ : St) : Int := if σ.err = 0 then σ.pos else σ.wrg
set_option maxHeartbeats 1000000 in
theorem sat (B b : Nat) (s : ByteArray) (σ : St) (w : World) (h : Sc B b s σ w) :
    Calls Tryz.prog 67 #[.pointer (some ⟨b, 0, none⟩)] w fun r w' => r = .returned (.int .i64 (atS σ)) ∧ w = w' := by
  unfold atS
  by_cases h0 : σ.err = 0
  · rw [if_pos h0]
    have c2 := h.c2
    rw [h0] at c2
    have c1 := h.c1
    clear h h0
    go_enter Tryz.func67, Tryz.ntmps67
    go_wp2
    go_ret
    exact ⟨rfl, rfl⟩
  · rw [if_neg h0]
    have c2 := h.c2
    have q : (σ.err != 0) = true := by simp [h0]
    have c3 := h.c3
    clear h h0
    go_enter Tryz.func67, Tryz.ntmps67
    go_wp2
    go_ret
    exact ⟨rfl, rfl⟩
/-! ### stands, skip, must -/
set_option maxHeartbeats 2000000 in
theorem sstands (B b : Nat) (s p : ByteArray) (σ : St) (w : World) (h : Sc B b s σ w) :
    Calls Tryz.prog 107 #[.pointer (some ⟨b, 0, none⟩), .string p] w fun r w' => r = .returned (.bool (standsS (bl p) (bl s) σ)) ∧ ∃ n, w' = w.drewN n := by
  have c0 := h.c0
  have c1 := h.c1
  have hp := h.pos
  have hp' : (σ.pos : Int) ≤ (s.size : Int) := by omega
  have C := Lib.hid (Tryz.strings_HasPrefix (s.extract σ.pos s.size) p)
  have E : Lib.hasPrefix (s.extract σ.pos s.size).data.toList p.data.toList = standsS (bl p) (bl s) σ := by
    show List.isPrefixOf p.data.toList (bl (s.extract σ.pos s.size)) = _
    rw [bl_from]; rfl
  rw [E] at C
  generalize standsS (bl p) (bl s) σ = A at C ⊢
  clear h E
  go_enter Tryz.func107, Tryz.ntmps107
  go_wp2
  go_quiet ((go_at_call 55; exact Calls.quiet_of_same (C.out _)))
  go_wp2
  go_ret
  exact ⟨rfl, _, rfl⟩
/-- stands, of a world that is a variable. -/
theorem sstands_at (B b : Nat) (s p : ByteArray) (σ : St) (w : World) (h : Sc B b s σ w) (A : Bool) (hA : standsS (bl p) (bl s) σ = A) :
    Calls Tryz.prog 107 #[.pointer (some ⟨b, 0, none⟩), .string p] w fun r w' => r = .returned (.bool A) ∧ Sc B b s σ w' ∧ Below w.heap.size w w' := by
  refine (sstands B b s p σ w h).mono ?_
  rintro r w' ⟨rfl, n, rfl⟩
  exact ⟨by rw [hA], h.step (below_drewN w n), below_drewN w n⟩
set_option maxHeartbeats 2000000 in
theorem sskip_yes (B b : Nat) (s p : ByteArray) (σ : St) (w : World) (h : Sc B b s σ w) (hs : standsS (bl p) (bl s) σ = true) (hp0 : bl p ≠ []) :
    Calls Tryz.prog 113 #[.pointer (some ⟨b, 0, none⟩), .string p] w fun r w' => r = .returned (.bool true) ∧ Sc B b s (go_ σ (σ.pos + p.size)) w' ∧ Only b w w' := by
  have C := sstands B b s p σ w h
  rw [hs] at C
  have C := Lib.hid C
  have hl := stands_len hs hp0
  rw [bl_size, bl_size] at hl
  have hln := h.len
  have c1 := fun n => (h.step (below_drewN w n)).c1
  have f1 := fun n => (h.step (below_drewN w n)).fz 1
  have H := Lib.hid (fun n => (h.step (below_drewN w n)).go (σ.pos + p.size) hl)
  clear h hs hp0
  go_enter Tryz.func113, Tryz.ntmps113
  go_wp2_with fail
  refine C.out.mono ?_
  rintro e w1 ⟨rfl, n, rfl⟩
  have c1 := c1 n
  have f1 := f1 n
  have H := Lib.hid (H.out n)
  go_wp2
  go_ret
  exact ⟨rfl, H.out, (Only.drewN b w n).trans (Only.set b 1 _ _)⟩
set_option maxHeartbeats 2000000 in
theorem sskip_no (B b : Nat) (s p : ByteArray) (σ : St) (w : World) (h : Sc B b s σ w) (hs : standsS (bl p) (bl s) σ = false) :
    Calls Tryz.prog 113 #[.pointer (some ⟨b, 0, none⟩), .string p] w fun r w' => r = .returned (.bool false) ∧ ∃ n, w' = w.drewN n := by
  have C := sstands B b s p σ w h
  rw [hs] at C
  have C := Lib.hid C
  clear h hs
  go_enter Tryz.func113, Tryz.ntmps113
  go_wp2_with fail
  refine C.out.mono ?_
  rintro e w1 ⟨rfl, n, rfl⟩
  go_wp2
  go_ret
  exact ⟨rfl, _, rfl⟩
/-- **(*Scanner).skip.** -/
theorem sskip (B b : Nat) (s p : ByteArray) (σ : St) (w : World) (h : Sc B b s σ w) (hp0 : bl p ≠ []) :
    Calls Tryz.prog 113 #[.pointer (some ⟨b, 0, none⟩), .string p] w fun r w' => r = .returned (.bool (standsS (bl p) (bl s) σ)) ∧ Sc B b s (skipS (bl p) (bl s) σ) w' ∧ Only b w w' := by
  unfold skipS
  cases hs : standsS (bl p) (bl s) σ with
  | true =>
    rw [if_pos rfl, bl_size]
    exact sskip_yes B b s p σ w h hs hp0
  | false =>
    rw [if_neg (by decide)]
    refine (sskip_no B b s p σ w h hs).mono ?_
    rintro r w' ⟨rfl, n, rfl⟩
    exact ⟨rfl, h.step (below_drewN w n), Only.drewN b w n⟩
set_option maxHeartbeats 2000000 in
theorem smust_yes (B b : Nat) (s p : ByteArray) (σ' : St) (w : World) (C : Hid (Calls Tryz.prog 113 #[.pointer (some ⟨b, 0, none⟩), .string p] w fun r w' => r = .returned (.bool true) ∧ Sc B b s σ' w' ∧ Only b w w')) :
    Calls Tryz.prog 132 #[.pointer (some ⟨b, 0, none⟩), .string p] w fun r w' => r = .returned (.tuple #[]) ∧ Sc B b s σ' w' ∧ Only b w w' := by
  go_enter Tryz.func132, Tryz.ntmps132
  go_wp2_with fail
  refine C.out.mono ?_
  rintro e w1 ⟨rfl, h1, h2⟩
  go_wp2
  go_end0
  exact ⟨rfl, h1, h2⟩
set_option maxHeartbeats 2000000 in
theorem smust_no (B b : Nat) (s p : ByteArray) (σ : St) (w : World) (h : Sc B b s σ w) (C : Hid (Calls Tryz.prog 113 #[.pointer (some ⟨b, 0, none⟩), .string p] w fun r w' => r = .returned (.bool false) ∧ ∃ n, w' = w.drewN n)) :
    Calls Tryz.prog 132 #[.pointer (some ⟨b, 0, none⟩), .string p] w fun r w' => r = .returned (.tuple #[]) ∧ Sc B b s (wrongS 3 σ.pos σ) w' ∧ Only b w w' := by
  have c1 := fun n => (h.step (below_drewN w n)).c1
  have H := Lib.hid (fun n => h.step (below_drewN w n))
  clear h
  go_enter Tryz.func132, Tryz.ntmps132
  go_wp2_with fail
  refine C.out.mono ?_
  rintro e w1 ⟨rfl, n, rfl⟩
  have c1 := c1 n
  have C2 := Lib.hid (swrong B b s σ _ (H.out n) 3 σ.pos (by decide))
  go_wp2_with fail
  refine C2.out.mono ?_
  rintro e w1 ⟨rfl, h1, h2⟩
  go_wp2
  go_end0
  exact ⟨rfl, h1, (Only.drewN b w n).trans h2⟩
/-- **(*Scanner).must.** -/
theorem smust (B b : Nat) (s p : ByteArray) (σ : St) (w : World) (h : Sc B b s σ w) (hp0 : bl p ≠ []) :
    Calls Tryz.prog 132 #[.pointer (some ⟨b, 0, none⟩), .string p] w fun r w' => r = .returned (.tuple #[]) ∧ Sc B b s (mustS (bl p) (bl s) σ) w' ∧ Only b w w' := by
  unfold mustS
  cases hs : standsS (bl p) (bl s) σ with
  | true =>
    rw [if_pos rfl, bl_size]
    exact smust_yes B b s p _ w (Lib.hid (sskip_yes B b s p σ w h hs hp0))
  | false =>
    rw [if_neg (by decide)]
    exact smust_no B b s p σ w h (Lib.hid (sskip_no B b s p σ w h hs))

/-! ### letters, opened -/
set_option maxHeartbeats 2000000 in
theorem sletters_hit (B b : Nat) (s x : ByteArray) (σ : St) (w : World) (a : Nat) (A : Nat) (hA : a + A ≤ 9000000000) (h : Sc B b s σ w)
    (C : Hid (Calls Tryz.prog 82 #[.string x] w fun e w' => e = .returned (.int .i64 A) ∧ Below w.heap.size w w')) :
    Calls Tryz.prog 128 #[.pointer (some ⟨b, 0, none⟩), .string x, .int .i64 a] w fun r w' => r = .returned (.tuple #[]) ∧ Sc B b s (wrongS 3 (a + A) σ) w' ∧ Only b w w' := by
  have H := Lib.hid h
  clear h
  go_enter Tryz.func128, Tryz.ntmps128
  go_wp2_with fail
  refine C.out.mono ?_
  rintro e w1 ⟨rfl, hb⟩
  have C2 := Lib.hid (swrong B b s σ _ (H.out.step hb) 3 (a + A) (by decide))
  go_wp2_with fail
  refine C2.out.mono ?_
  rintro e w2 ⟨rfl, h1, h2⟩
  go_wp2
  go_end0
  exact ⟨rfl, h1, (Only.of hb).trans h2⟩
set_option maxHeartbeats 2000000 in
theorem sletters_miss (b : Nat) (x : ByteArray) (w : World) (a : Nat)
    (C : Hid (Calls Tryz.prog 82 #[.string x] w fun e w' => e = .returned (.int .i64 (-1)) ∧ Below w.heap.size w w')) :
    Calls Tryz.prog 128 #[.pointer (some ⟨b, 0, none⟩), .string x, .int .i64 a] w fun r w' => r = .returned (.tuple #[]) ∧ Below w.heap.size w w' := by
  go_enter Tryz.func128, Tryz.ntmps128
  go_wp2_with fail
  refine C.out.mono ?_
  rintro e w1 ⟨rfl, hb⟩
  go_wp2
  go_end0
  exact ⟨rfl, hb⟩
theorem textL_neg (x : List UInt8) (h : ¬ 0 ≤ textL x) : textL x = -1 := by
  unfold textL at h ⊢
  split
  · rename_i hh; rw [if_pos hh] at h; omega
  · rfl
/-- **(*Scanner).letters.** -/
theorem sletters (B b : Nat) (s x : ByteArray) (σ : St) (w : World) (a : Nat) (hA : a + x.size ≤ 9000000000) (h : Sc B b s σ w) :
    Calls Tryz.prog 128 #[.pointer (some ⟨b, 0, none⟩), .string x, .int .i64 a] w fun r w' => r = .returned (.tuple #[]) ∧ Sc B b s (lettersS (bl x) a σ) w' ∧ Only b w w' := by
  have c := ctext x w (by omega) h.glob.tabs
  unfold lettersS
  by_cases h0 : 0 ≤ textL (bl x)
  · rw [if_pos h0]
    have hl := textL_lt (bl x) h0
    rw [bl_size] at hl
    obtain ⟨A, hA'⟩ : ∃ A : Nat, textL (bl x) = A := ⟨(textL (bl x)).toNat, by omega⟩
    rw [hA'] at c hl ⊢
    exact sletters_hit B b s x σ w a A (by omega) h (Lib.hid c)
  · rw [if_neg h0]
    rw [textL_neg _ h0] at c
    refine (sletters_miss b x w a (Lib.hid c)).mono ?_
    rintro r w' ⟨rfl, hb⟩
    exact ⟨rfl, h.step hb, Only.of hb⟩
set_option maxHeartbeats 2000000 in
theorem sopened_hit (B b : Nat) (s x X : ByteArray) (σ1 : St) (w : World) (a : Nat) (A : Nat) (hA : a + A ≤ 9000000000)
    (C : Hid (Calls Tryz.prog 128 #[.pointer (some ⟨b, 0, none⟩), .string x, .int .i64 a] w fun r w' => r = .returned (.tuple #[]) ∧ Sc B b s σ1 w' ∧ Only b w w'))
    (CO : Hid (∀ w, EntV w → Calls Tryz.prog 147 #[.string x] w fun e w' => e = .returned (.tuple #[.string X, .int .i64 A]) ∧ Below w.heap.size w w')) :
    Calls Tryz.prog 135 #[.pointer (some ⟨b, 0, none⟩), .string x, .int .i64 a] w fun r w' => r = .returned (.string X) ∧ Sc B b s (wrongS 3 (a + A) σ1) w' ∧ Only b w w' := by
  go_enter Tryz.func135, Tryz.ntmps135
  go_wp2_with fail
  refine C.out.mono ?_
  rintro e w1 ⟨rfl, h1, h2⟩
  have H := Lib.hid h1
  have C2 := Lib.hid (CO.out w1 h1.glob.ent)
  clear h1
  go_wp2_with fail
  refine C2.out.mono ?_
  rintro e w2 ⟨rfl, hb⟩
  have C3 := Lib.hid (swrong B b s σ1 _ (H.out.step hb) 3 (a + A) (by decide))
  go_wp2_with fail
  refine C3.out.mono ?_
  rintro e w3 ⟨rfl, h3, h4⟩
  go_wp2
  go_ret
  exact ⟨rfl, h3, (h2.trans (Only.of hb)).trans h4⟩
set_option maxHeartbeats 2000000 in
theorem sopened_miss (B b : Nat) (s x X : ByteArray) (σ1 : St) (w : World) (a : Nat)
    (C : Hid (Calls Tryz.prog 128 #[.pointer (some ⟨b, 0, none⟩), .string x, .int .i64 a] w fun r w' => r = .returned (.tuple #[]) ∧ Sc B b s σ1 w' ∧ Only b w w'))
    (CO : Hid (∀ w, EntV w → Calls Tryz.prog 147 #[.string x] w fun e w' => e = .returned (.tuple #[.string X, .int .i64 (-1)]) ∧ Below w.heap.size w w')) :
    Calls Tryz.prog 135 #[.pointer (some ⟨b, 0, none⟩), .string x, .int .i64 a] w fun r w' => r = .returned (.string X) ∧ Sc B b s σ1 w' ∧ Only b w w' := by
  go_enter Tryz.func135, Tryz.ntmps135
  go_wp2_with fail
  refine C.out.mono ?_
  rintro e w1 ⟨rfl, h1, h2⟩
  have H := Lib.hid h1
  have C2 := Lib.hid (CO.out w1 h1.glob.ent)
  clear h1
  go_wp2_with fail
  refine C2.out.mono ?_
  rintro e w2 ⟨rfl, hb⟩
  go_wp2
  go_ret
  exact ⟨rfl, H.out.step hb, h2.trans (Only.of hb)⟩
theorem openL_neg (x : List UInt8) (h : ¬ 0 ≤ (openL x).2) : (openL x).2 = -1 := by
  have := openF_lt x.length x [] 0
  unfold openL at h ⊢
  rcases this with h1 | h1 <;> omega
/-- **(*Scanner).opened.** -/
theorem sopened (B b : Nat) (s x : ByteArray) (σ : St) (w : World) (a : Nat) (hx : x.size ≤ 4294967280) (hA : a + x.size ≤ 9000000000) (h : Sc B b s σ w) :
    Calls Tryz.prog 135 #[.pointer (some ⟨b, 0, none⟩), .string x, .int .i64 a] w fun r w' => r = .returned (.string (str (openL (bl x)).1)) ∧ Sc B b s (openedS (bl x) a σ) w' ∧ Only b w w' := by
  have c := Lib.hid (sletters B b s x σ w a hA h)
  have co := fun w (h : EntV w) => eopen x w (Lib.hid h) hx
  unfold openedS
  by_cases h0 : 0 ≤ (openL (bl x)).2
  · rw [if_pos h0]
    have hl := openL_lt (bl x) h0
    rw [bl_size] at hl
    obtain ⟨A, hA'⟩ : ∃ A : Nat, (openL (bl x)).2 = A := ⟨(openL (bl x)).2.toNat, by omega⟩
    rw [hA'] at co hl ⊢
    exact sopened_hit B b s x _ _ w a A (by omega) c (Lib.hid co)
  · rw [if_neg h0]
    rw [openL_neg _ h0] at co
    exact sopened_miss B b s x _ _ w a c (Lib.hid co)

end Go.Proofs.YtincdacickhdkaaGreatDoor
namespace Go.Proofs.YtincdacickhdkaaGreatDoor
open Go.RowKit
set_option maxRecDepth 100000

theorem bl_sub (s : ByteArray) (a b : Nat) : bl (s.extract a b) = ((bl s).take b).drop a := by
  unfold bl; rw [Lib.extract_data, List.take_drop]
  by_cases h : a ≤ b
  · rw [show a + (b - a) = b by omega]
  · rw [List.drop_eq_nil_of_le (by rw [List.length_take]; omega), List.drop_eq_nil_of_le (by rw [List.length_take]; omega)]
theorem bl_one (s : ByteArray) (k : Nat) (h : k < s.size) : bl (s.extract k (k + 1)) = [s[k]'h] := by
  rw [bl_sub, take_get s k h, List.drop_append_of_le_length (by rw [List.length_take, bl_size]; omega), List.drop_eq_nil_of_le (by rw [List.length_take, bl_size]; omega)]; rfl
set_option maxRecDepth 100000 in
set_option maxHeartbeats 8000000 in
theorem rclose0 (s : ByteArray) (w : World) (hs : s.size ≤ 4294967296) (A : ByteArray) (HA : Hid (A = str (closeL (bl s)))) :
    Calls Tryz.prog 22 #[.string s] w fun e w' => e = .returned (.string A) ∧ w = w' := by
  go_enter Tryz.func22, Tryz.ntmps22
  go_wp2
  go_loop [3, 4] (fun o i => ∃ (k : Nat) (X : ByteArray), k ≤ s.size ∧ i = .int .i64 k ∧ o = .string X ∧ X.size ≤ 6 * k ∧ Hid (bl X = closeL ((bl s).take k))) (fun _ i => s.size - (intOf i).toNat)
  case atStart => exact ⟨0, ⟨#[]⟩, Nat.zero_le _, rfl, rfl, by decide, Lib.hid (by simp [closeL, bl])⟩
  case round =>
    obtain ⟨k, X, hk, rfl, rfl, hX, HX⟩ := hrel
    by_cases hin : k < s.size
    · have hin' : (k : Int) < (s.size : Int) := by omega
      have htk := take_get s k hin
      obtain ⟨c, hc⟩ : ∃ c, s[k]'hin = c := ⟨_, rfl⟩
      rw [hc] at htk
      have HN : Hid (∀ Y : ByteArray, bl Y = closeB c → bl (X ++ Y) = closeL ((bl s).take (k + 1)) ∧ (X ++ Y).size ≤ 6 * (k + 1)) := Lib.hid (fun Y hY => by
        have h1 : bl (X ++ Y) = bl X ++ bl Y := bl_append X Y
        refine ⟨by rw [htk, closeL_append, closeL_one, h1, HX.out, hY], ?_⟩
        rw [← bl_size, h1, List.length_append, bl_size, hY]
        have := (closeB_len c).1
        omega)
      have HO := Lib.hid (bl_one s k hin)
      rw [hc] at HO
      clear htk
      obtain ⟨d, hd⟩ : ∃ d : Int, (c.toNat : Int) = d := ⟨_, rfl⟩
      by_cases c38 : d = 38
      · have hc' : c = 38 := UInt8.toNat_inj.1 (by show c.toNat = 38; omega)
        have HY := Lib.hid (HN.out ⟨#[38, 97, 109, 112, 59]⟩ (by rw [hc']; rfl))
        have q38 : (d == 38) = true := by simp; omega
        clear hc' HN HO c38
        go_wp2
        go_round
        case rel => exact ⟨k + 1, _, by omega, by go_num, rfl, HY.out.2, Lib.hid HY.out.1⟩
        case measure => simp [intOf]; omega
      by_cases c60 : d = 60
      · have hc' : c = 60 := UInt8.toNat_inj.1 (by show c.toNat = 60; omega)
        have HY := Lib.hid (HN.out ⟨#[38, 108, 116, 59]⟩ (by rw [hc']; rfl))
        have q38 : (d == 38) = false := by simp; omega
        have q60 : (d == 60) = true := by simp; omega
        clear hc' HN HO c60 c38
        go_wp2
        go_round
        case rel => exact ⟨k + 1, _, by omega, by go_num, rfl, HY.out.2, Lib.hid HY.out.1⟩
        case measure => simp [intOf]; omega
      by_cases c62 : d = 62
      · have hc' : c = 62 := UInt8.toNat_inj.1 (by show c.toNat = 62; omega)
        have HY := Lib.hid (HN.out ⟨#[38, 103, 116, 59]⟩ (by rw [hc']; rfl))
        have q38 : (d == 38) = false := by simp; omega
        have q60 : (d == 60) = false := by simp; omega
        have q62 : (d == 62) = true := by simp; omega
        clear hc' HN HO c62 c38 c60
        go_wp2
        go_round
        case rel => exact ⟨k + 1, _, by omega, by go_num, rfl, HY.out.2, Lib.hid HY.out.1⟩
        case measure => simp [intOf]; omega
      by_cases c34 : d = 34
      · have hc' : c = 34 := UInt8.toNat_inj.1 (by show c.toNat = 34; omega)
        have HY := Lib.hid (HN.out ⟨#[38, 113, 117, 111, 116, 59]⟩ (by rw [hc']; rfl))
        have q38 : (d == 38) = false := by simp; omega
        have q60 : (d == 60) = false := by simp; omega
        have q62 : (d == 62) = false := by simp; omega
        have q34 : (d == 34) = true := by simp; omega
        clear hc' HN HO c34 c38 c60 c62
        go_wp2
        go_round
        case rel => exact ⟨k + 1, _, by omega, by go_num, rfl, HY.out.2, Lib.hid HY.out.1⟩
        case measure => simp [intOf]; omega
      by_cases c9 : d = 9
      · have hc' : c = 9 := UInt8.toNat_inj.1 (by show c.toNat = 9; omega)
        have HY := Lib.hid (HN.out ⟨#[38, 35, 57, 59]⟩ (by rw [hc']; rfl))
        have q38 : (d == 38) = false := by simp; omega
        have q60 : (d == 60) = false := by simp; omega
        have q62 : (d == 62) = false := by simp; omega
        have q34 : (d == 34) = false := by simp; omega
        have q9 : (d == 9) = true := by simp; omega
        clear hc' HN HO c9 c38 c60 c62 c34
        go_wp2
        go_round
        case rel => exact ⟨k + 1, _, by omega, by go_num, rfl, HY.out.2, Lib.hid HY.out.1⟩
        case measure => simp [intOf]; omega
      by_cases c10 : d = 10
      · have hc' : c = 10 := UInt8.toNat_inj.1 (by show c.toNat = 10; omega)
        have HY := Lib.hid (HN.out ⟨#[38, 35, 49, 48, 59]⟩ (by rw [hc']; rfl))
        have q38 : (d == 38) = false := by simp; omega
        have q60 : (d == 60) = false := by simp; omega
        have q62 : (d == 62) = false := by simp; omega
        have q34 : (d == 34) = false := by simp; omega
        have q9 : (d == 9) = false := by simp; omega
        have q10 : (d == 10) = true := by simp; omega
        clear hc' HN HO c10 c38 c60 c62 c34 c9
        go_wp2
        go_round
        case rel => exact ⟨k + 1, _, by omega, by go_num, rfl, HY.out.2, Lib.hid HY.out.1⟩
        case measure => simp [intOf]; omega
      by_cases c13 : d = 13
      · have hc' : c = 13 := UInt8.toNat_inj.1 (by show c.toNat = 13; omega)
        have HY := Lib.hid (HN.out ⟨#[38, 35, 49, 51, 59]⟩ (by rw [hc']; rfl))
        have q38 : (d == 38) = false := by simp; omega
        have q60 : (d == 60) = false := by simp; omega
        have q62 : (d == 62) = false := by simp; omega
        have q34 : (d == 34) = false := by simp; omega
        have q9 : (d == 9) = false := by simp; omega
        have q10 : (d == 10) = false := by simp; omega
        have q13 : (d == 13) = true := by simp; omega
        clear hc' HN HO c13 c38 c60 c62 c34 c9 c10
        go_wp2
        go_round
        case rel => exact ⟨k + 1, _, by omega, by go_num, rfl, HY.out.2, Lib.hid HY.out.1⟩
        case measure => simp [intOf]; omega
      have HY := Lib.hid (HN.out (s.extract k (k + 1)) (by rw [HO.out]; exact (closeB_plain c (by omega) (by omega) (by omega) (by omega) (by omega) (by omega) (by omega)).symm))
      have q38 : (d == 38) = false := by simp; omega
      have q60 : (d == 60) = false := by simp; omega
      have q62 : (d == 62) = false := by simp; omega
      have q34 : (d == 34) = false := by simp; omega
      have q9 : (d == 9) = false := by simp; omega
      have q10 : (d == 10) = false := by simp; omega
      have q13 : (d == 13) = false := by simp; omega
      clear HN HO c38 c60 c62 c34 c9 c10 c13
      go_wp2
      go_round
      case rel => exact ⟨k + 1, _, by omega, by go_num, rfl, HY.out.2, Lib.hid HY.out.1⟩
      case measure => simp [intOf]; omega
    · obtain rfl : k = s.size := by omega
      have hA : A = X := by
        have h := HX.out
        rw [take_all] at h
        rw [HA.out, ← h, bl_str]
      subst hA
      clear HA
      go_wp2
      go_ret
      exact ⟨rfl, rfl⟩
/-- **galliardref01.Close at strings that are not too long.** -/
theorem rclose (s : ByteArray) (w : World) (hs : s.size ≤ 4294967296) :
    Calls Tryz.prog 22 #[.string s] w fun e w' => e = .returned (.string (str (closeL (bl s)))) ∧ w = w' :=
  rclose0 s w hs _ (Lib.hid rfl)

/-! ### the law's digits -/
end Go.Proofs.YtincdacickhdkaaGreatDoor
namespace Go.Proofs.YtincdacickhdkaaGreatDoor
open Go.RowKit
set_option maxRecDepth 100000

/-- A function value tells of each byte what h does, and leaves memory alone. -/
def Tells (n : Nat) (caps : Array Value) (h : UInt8 → Bool) (w : World) : Prop :=
  ∀ c : UInt8, Calls Tryz.prog n (#[.int .u8 (c.toNat : Int)] ++ caps) w fun e w' => e = .returned (.bool (h c)) ∧ w' = w

theorem tw_at (h : UInt8 → Bool) : ∀ (l : List UInt8) (k : Nat) (c : UInt8), l[k]? = some c → k ≤ (l.takeWhile h).length → (h c = true ↔ k < (l.takeWhile h).length)
  | [], k, c, hc, _ => by simp at hc
  | x :: l, 0, c, hc, _ => by
    simp at hc; subst hc
    rw [List.takeWhile_cons]
    by_cases hx : h x = true
    · simp [hx]
    · simp [hx]
  | x :: l, k + 1, c, hc, hk => by
    rw [List.takeWhile_cons] at hk ⊢
    by_cases hx : h x = true
    · rw [if_pos hx] at hk ⊢
      simp at hc hk ⊢
      exact tw_at h l k c (by simpa using hc) hk
    · rw [if_neg hx] at hk
      simp at hk
theorem run_at (h : UInt8 → Bool) (s : ByteArray) (σ : St) (k P : Nat) (hP : σ.pos + k = P) (hin : P < s.size) (hk : k ≤ (runW h (bl s) σ).length) : h (s[P]'hin) = true ↔ k < (runW h (bl s) σ).length := by
  refine tw_at h _ k _ ?_ hk
  subst hP
  rw [List.getElem?_drop]
  have hl : σ.pos + k < (bl s).length := by rw [bl_size]; exact hin
  rw [List.getElem?_eq_getElem hl]
  rfl
set_option maxHeartbeats 4000000 in
theorem swhile0 (B b : Nat) (s : ByteArray) (σ : St) (w : World) (hS : Sc B b s σ w) (n : Nat) (caps : Array Value) (h : UInt8 → Bool)
    (hn : ∀ (args : Array Value) (w : World), (callFunc n args).run Tryz.prog w = .ok (.enter n args) w)
    (HT : Hid (∀ w', Only b w w' → Tells n caps h w')) (L : Nat) (hL : Hid ((runW h (bl s) σ).length = L)) (T : ByteArray) (hT : Hid (s.extract σ.pos (σ.pos + L) = T)) :
    Calls Tryz.prog 130 #[.pointer (some ⟨b, 0, none⟩), .func (.func n) #[] caps] w fun r w' => r = .returned (.string T) ∧ Sc B b s (go_ σ (σ.pos + L)) w' ∧ Only b w w' := by
  have c1 := hS.c1
  have H := Lib.hid hS
  have hln := hS.len
  have hps := hS.pos
  clear hS
  go_enter Tryz.func130, Tryz.ntmps130
  go_wp2
  clear c1
  go_loopg [] (s.size - σ.pos) (fun g wr => ∃ (k P : Nat), P ≤ s.size ∧ g + P = s.size ∧ k ≤ L ∧ Hid (σ.pos + k = P) ∧ Hid (Sc B b s (go_ σ P) wr) ∧ Hid (Only b w wr))
  case atStart => exact ⟨0, σ.pos, by omega, by omega, Nat.zero_le _, Lib.hid rfl, Lib.hid H.out, Lib.hid (Only.refl _ _)⟩
  case round =>
    obtain ⟨k, P, hk, hg, hkL, HP, HS, HO⟩ := hrel
    have c0 := HS.out.c0
    have c1 : wr.cell? ⟨b, 1, none⟩ = some (.int .i64 (P : Int)) := HS.out.c1
    have f1 := HS.out.fz 1
    by_cases hin : P < s.size
    · have hin' : (P : Int) < (s.size : Int) := by omega
      obtain ⟨c, hc⟩ : ∃ c, s[P]'hin = c := ⟨_, rfl⟩
      have C := fun n => HT.out (wr.drewN n) (HO.out.trans (Only.drewN b wr n)) c
      cases hh : h c with
      | true =>
        simp only [hh] at C
        have hk1 : k + 1 ≤ L := by
          have := (run_at h s σ k P HP.out hin (by rw [hL.out]; exact hkL)).1 (by rw [hc]; exact hh)
          rw [hL.out] at this; exact this
        have C := Lib.hid C
        go_wp2
        go_quiet (exact Calls.quiet_of_same (C.out _))
        go_wp2
        go_roundg (s.size - (P + 1))
        case measure => omega
        case rel => exact ⟨k + 1, P + 1, by omega, by omega, hk1, Lib.hid (by have := HP.out; omega), Lib.hid (((HS.out.step (below_drewN wr _)).go (P + 1) (by omega))), Lib.hid ((HO.out.trans (Only.drewN b wr _)).trans (Only.set b 1 _ _))⟩
      | false =>
        simp only [hh] at C
        have C := Lib.hid C
        go_wp2
        go_quiet (exact Calls.quiet_of_same (C.out _))
        go_wp2
        have hkL' : k = L := by
          have := (run_at h s σ k P HP.out hin (by rw [hL.out]; exact hkL))
          rw [hc, hh, hL.out] at this
          have h2 : ¬ k < L := fun x => absurd (this.2 x) (by decide)
          omega
        have e1 : (σ.pos : Int) ≤ (P : Int) := by have := HP.out; omega
        have e2 : (P : Int) ≤ (s.size : Int) := by omega
        go_quiet (fail)
        go_wp2
        go_ret
        have hT' := hT.out
        have hP' := HP.out
        have e : σ.pos + L = P := by omega
        rw [e] at hT' ⊢
        subst hT'
        exact ⟨rfl, (HS.out.step (below_drewN wr _)).step (below_drewN _ _), (HO.out.trans (Only.drewN b wr _)).trans (Only.drewN b _ _)⟩
    · have hin' : decide ((P : Int) < (s.size : Int)) = false := decide_eq_false (by omega)
      go_wp2
      go_quiet (fail)
      go_wp2
      have hkL' : k = L := by
        have := run_len h (bl s) σ
        rw [hL.out, bl_size] at this
        have := HP.out
        omega
      have e1 : (σ.pos : Int) ≤ (P : Int) := by have := HP.out; omega
      have e2 : (P : Int) ≤ (s.size : Int) := by omega
      go_quiet (fail)
      go_wp2
      go_ret
      have hT' := hT.out
      have hP' := HP.out
      have e : σ.pos + L = P := by omega
      rw [e] at hT' ⊢
      subst hT'
      exact ⟨rfl, (HS.out.step (below_drewN wr _)).step (below_drewN _ _), (HO.out.trans (Only.drewN b wr _)).trans (Only.drewN b _ _)⟩
/-- **(*Scanner).while.** -/
theorem swhile (B b : Nat) (s : ByteArray) (σ : St) (w : World) (hS : Sc B b s σ w) (n : Nat) (caps : Array Value) (h : UInt8 → Bool)
    (hn : ∀ (args : Array Value) (w : World), (callFunc n args).run Tryz.prog w = .ok (.enter n args) w) (HT : ∀ w', Only b w w' → Tells n caps h w') :
    Calls Tryz.prog 130 #[.pointer (some ⟨b, 0, none⟩), .func (.func n) #[] caps] w fun r w' => r = .returned (.string (str (runW h (bl s) σ))) ∧ Sc B b s (whileS h (bl s) σ) w' ∧ Only b w w' := by
  refine swhile0 B b s σ w hS n caps h hn (Lib.hid HT) _ (Lib.hid rfl) _ (Lib.hid ?_)
  rw [← bl_str (s.extract σ.pos _), bl_sub]
  congr 1
  rw [List.drop_take]
  unfold runW
  have h1 := List.takeWhile_prefix (p := h) (l := (bl s).drop σ.pos)
  rw [Nat.add_sub_cancel_left]
  exact (List.prefix_iff_eq_take.1 h1).symm
/-- Blanks; the letters of names; all but <. -/
theorem tells_blank (w : World) : Tells 131 #[] bb w := fun c => (cblank c w).mono fun _ _ ⟨h1, h2⟩ => ⟨h1, h2.symm⟩
set_option maxHeartbeats 1000000 in
theorem tells_text (w : World) : Tells 134 #[] tb w := by
  intro c
  show Calls Tryz.prog 134 #[.int .u8 (c.toNat : Int)] w _
  unfold tb
  cases h : (c != 60) with
  | true =>
    have h' : c.toNat ≠ 60 := by intro e; rw [show c = 60 from UInt8.toNat_inj.1 e] at h; exact absurd h (by decide)
    have q : ((c.toNat : Int) != 60) = true := by simp; omega
    clear h
    go_enter Tryz.func134, Tryz.ntmps134
    go_wp2
    go_ret
    exact ⟨rfl, rfl⟩
  | false =>
    have h' : c = 60 := by simpa using h
    subst h'
    clear h
    go_enter Tryz.func134, Tryz.ntmps134
    go_wp2
    go_ret
    exact ⟨rfl, rfl⟩
set_option maxHeartbeats 1000000 in
theorem tells_name (w : World) : Tells 143 #[] nb w := by
  intro c
  show Calls Tryz.prog 143 #[.int .u8 (c.toNat : Int)] w _
  have C := cpart (c.toNat : Int) w (by omega) (by have := UInt8.toNat_lt c; omega)
  unfold nb
  cases h : partB (c.toNat : Int) with
  | true =>
    rw [h] at C
    have C := Lib.hid C
    clear h
    go_enter Tryz.func143, Tryz.ntmps143
    go_wp2_with fail
    refine C.out.mono ?_
    rintro e w1 ⟨rfl, rfl⟩
    go_wp2
    go_ret
    exact ⟨rfl, rfl⟩
  | false =>
    rw [h] at C
    have C := Lib.hid C
    cases h2 : (c == 58) with
    | true =>
      have h' : c = 58 := by simpa using h2
      subst h'
      clear h h2
      go_enter Tryz.func143, Tryz.ntmps143
      go_wp2_with fail
      refine C.out.mono ?_
      rintro e w1 ⟨rfl, rfl⟩
      go_wp2
      go_ret
      exact ⟨rfl, rfl⟩
    | false =>
      have h' : c.toNat ≠ 58 := by intro e; rw [show c = 58 from UInt8.toNat_inj.1 e] at h2; exact absurd h2 (by decide)
      have q : ((c.toNat : Int) == 58) = false := by simp; omega
      clear h h2
      go_enter Tryz.func143, Tryz.ntmps143
      go_wp2_with fail
      refine C.out.mono ?_
      rintro e w1 ⟨rfl, rfl⟩
      go_wp2
      go_ret
      exact ⟨rfl, rfl⟩
theorem enters_blank : ∀ (args : Array Value) (w : World), (callFunc 131 args).run Tryz.prog w = .ok (.enter 131 args) w := enters_of Tryz.func131 (by kernel_rfl) rfl
theorem enters_text : ∀ (args : Array Value) (w : World), (callFunc 134 args).run Tryz.prog w = .ok (.enter 134 args) w := enters_of Tryz.func134 (by kernel_rfl) rfl
theorem enters_name : ∀ (args : Array Value) (w : World), (callFunc 143 args).run Tryz.prog w = .ok (.enter 143 args) w := enters_of Tryz.func143 (by kernel_rfl) rfl
theorem sblanks (B b : Nat) (s : ByteArray) (σ : St) (w : World) (hS : Sc B b s σ w) :
    Calls Tryz.prog 130 #[.pointer (some ⟨b, 0, none⟩), .func (.func 131) #[] #[]] w fun r w' => r = .returned (.string (str (runW bb (bl s) σ))) ∧ Sc B b s (whileS bb (bl s) σ) w' ∧ Only b w w' :=
  swhile B b s σ w hS _ _ bb enters_blank (fun w' _ => tells_blank w')

/-! ### name -/
set_option maxHeartbeats 2000000 in
theorem sname0 (B b : Nat) (s T X Y : ByteArray) (σ σ1 : St) (w : World) (hS : Sc B b s σ w) (A : Bool)
    (C : Hid (Calls Tryz.prog 130 #[.pointer (some ⟨b, 0, none⟩), .func (.func 143) #[] #[]] w fun r w' => r = .returned (.string T) ∧ Sc B b s σ1 w' ∧ Only b w w'))
    (CS : Hid (∀ w, EntV w → Tabs w → Calls Tryz.prog 91 #[.string T] w fun e w' => e = .returned (.tuple #[.string X, .string Y, .bool A]) ∧ Below w.heap.size w w')) :
    Calls Tryz.prog 129 #[.pointer (some ⟨b, 0, none⟩)] w fun r w' => r = .returned (.string T) ∧ Sc B b s (if A = true then σ1 else wrongS 3 σ.pos σ1) w' ∧ Only b w w' := by
  have c1 := hS.c1
  clear hS
  go_enter Tryz.func129, Tryz.ntmps129
  go_wp2_with fail
  refine C.out.mono ?_
  rintro e w1 ⟨rfl, h1, h2⟩
  clear c1
  have H1 := Lib.hid h1
  have H2 := Lib.hid h2
  have CS := Lib.hid (CS.out w1 h1.glob.ent h1.glob.tabs)
  clear h1 h2
  go_wp2_with fail
  refine CS.out.mono ?_
  rintro e w2 ⟨rfl, hb⟩
  cases A with
  | true =>
    go_wp2
    go_ret
    exact ⟨rfl, H1.out.step hb, H2.out.trans (Only.of hb)⟩
  | false =>
    have CW := Lib.hid (swrong B b s σ1 w2 (H1.out.step hb) 3 σ.pos (by decide))
    go_wp2_with fail
    refine CW.out.mono ?_
    rintro e w3 ⟨rfl, h3, h4⟩
    go_wp2
    go_ret
    exact ⟨rfl, h3, (H2.out.trans (Only.of hb)).trans h4⟩
/-- **(*Scanner).name.** -/
theorem sname (B b : Nat) (s : ByteArray) (σ : St) (w : World) (hS : Sc B b s σ w) :
    Calls Tryz.prog 129 #[.pointer (some ⟨b, 0, none⟩)] w fun r w' => r = .returned (.string (str (runW nb (bl s) σ))) ∧ Sc B b s (nameS (bl s) σ) w' ∧ Only b w w' := by
  have hl := run_len nb (bl s) σ
  have hs := hS.len
  rw [bl_size] at hl
  refine sname0 B b s _ (str (splitL (runW nb (bl s) σ)).1) (str (splitL (runW nb (bl s) σ)).2.1) σ _ w hS (splitL (runW nb (bl s) σ)).2.2 (Lib.hid (swhile B b s σ w hS _ _ nb enters_name (fun w' _ => tells_name w'))) (Lib.hid fun w hE hT => ?_)
  have c := csplit (str (runW nb (bl s) σ)) w (by rw [str_size]; omega) hT hE.maxl
  rw [str_bl] at c
  exact c

end Go.Proofs.YtincdacickhdkaaGreatDoor
namespace Go.Proofs.YtincdacickhdkaaGreatDoor
open Go.RowKit
set_option maxRecDepth 100000

set_option maxHeartbeats 1000000 in
theorem tells_quote (Q : Nat) (q : UInt8) (w : World) (hq : w.cell? ⟨Q, 0, none⟩ = some (.int .u8 (q.toNat : Int))) : Tells 157 #[.pointer (some ⟨Q, 0, none⟩)] (qb q) w := by
  intro c
  show Calls Tryz.prog 157 #[.int .u8 (c.toNat : Int), .pointer (some ⟨Q, 0, none⟩)] w _
  unfold qb
  cases h : (c != q) with
  | true =>
    have h' : c.toNat ≠ q.toNat := by intro e; rw [show c = q from UInt8.toNat_inj.1 e] at h; simp at h
    have q1 : ((c.toNat : Int) != (q.toNat : Int)) = true := by simp; omega
    have q1' : q.toNat = 60 → c.toNat ≠ 60 := fun e => by omega
    clear h
    cases h : (c != 60) with
    | true =>
      have h' : c.toNat ≠ 60 := by intro e; rw [show c = 60 from UInt8.toNat_inj.1 e] at h; exact absurd h (by decide)
      have q2 : ((c.toNat : Int) != 60) = true := by simp; omega
      clear h q1'
      go_enter Tryz.func157, Tryz.ntmps157
      go_wp2
      go_ret
      exact ⟨rfl, rfl⟩
    | false =>
      have h' : c = 60 := by simpa using h
      subst h'
      have q2 : ((60 : Int) != (q.toNat : Int)) = true := by
        have : q.toNat ≠ 60 := fun e => q1' e (by decide)
        simp; omega
      clear h q1'
      go_enter Tryz.func157, Tryz.ntmps157
      go_wp2
      go_ret
      exact ⟨rfl, rfl⟩
  | false =>
    have h' : c = q := by simpa using h
    subst h'
    have q1 : ((c.toNat : Int) != (c.toNat : Int)) = false := by simp
    clear h
    go_enter Tryz.func157, Tryz.ntmps157
    go_wp2
    go_ret
    exact ⟨rfl, rfl⟩
theorem enters_quote : ∀ (args : Array Value) (w : World), (callFunc 157 args).run Tryz.prog w = .ok (.enter 157 args) w := enters_of Tryz.func157 (by kernel_rfl) rfl
theorem stands_one (c : UInt8) (s : ByteArray) (σ : St) : standsS [c] (bl s) σ = true → ∃ h : σ.pos < s.size, s[σ.pos]'h = c := by
  intro h
  have hl := stands_len h (by simp)
  rw [bl_size] at hl
  simp at hl
  refine ⟨by omega, ?_⟩
  unfold standsS at h
  have hl' : σ.pos < (bl s).length := by rw [bl_size]; omega
  rw [List.drop_eq_getElem_cons hl'] at h
  have : c = (bl s)[σ.pos] := by simpa [List.isPrefixOf] using h
  rw [this]; rfl
theorem byteAt_get (s : ByteArray) (k : Nat) (h : k < s.size) : byteAt (bl s) k = s[k]'h := by
  unfold byteAt
  have hl' : k < (bl s).length := by rw [bl_size]; omega
  simp [List.getD, hl']; rfl
set_option maxHeartbeats 4000000 in
theorem squoted_no (B b : Nat) (s : ByteArray) (σ : St) (w : World) (hS : Sc B b s σ w) (h1 : standsS [34] (bl s) σ = false) (h2 : standsS [39] (bl s) σ = false) :
    Calls Tryz.prog 145 #[.pointer (some ⟨b, 0, none⟩)] w fun r w' => r = .returned (.string ⟨#[]⟩) ∧ Sc B b s (wrongS 3 σ.pos σ) w' ∧ Only b w w' := by
  have C1 := Lib.hid (sstands_at B b s ⟨#[34]⟩ σ w hS _ h1)
  have C2 := Lib.hid (fun w1 (h : Sc B b s σ w1) => sstands_at B b s ⟨#[39]⟩ σ w1 h _ h2)
  clear hS h1 h2
  go_enter Tryz.func145, Tryz.ntmps145
  go_wp2_with fail
  refine C1.out.mono ?_
  rintro e w1 ⟨rfl, h1, hb1⟩
  have H1 := Lib.hid h1
  have O1 := Lib.hid (Only.of (b := b) hb1)
  clear h1 hb1
  go_wp2_with fail
  refine (C2.out w1 H1.out).mono ?_
  rintro e w2 ⟨rfl, h2, hb2⟩
  have H2 := Lib.hid h2
  have O2 := Lib.hid (O1.out.trans (Only.of (b := b) hb2))
  clear h2 hb2
  have c1 := H2.out.c1
  have CW := Lib.hid (swrong B b s σ _ H2.out 3 σ.pos (by decide))
  go_wp2_with fail
  refine CW.out.mono ?_
  rintro e w3 ⟨rfl, h3, h4⟩
  go_wp2
  go_ret
  exact ⟨rfl, h3, O2.out.trans h4⟩
set_option maxHeartbeats 4000000 in
theorem squoted_yes (B b : Nat) (s : ByteArray) (σ : St) (w : World) (hS : Sc B b s σ w) (hp : σ.pos < s.size) (q : UInt8) (hq : Hid (s[σ.pos]'hp = q)) (T : ByteArray) (L : Nat)
    (h1 : standsS [34] (bl s) σ = true ∨ (standsS [34] (bl s) σ = false ∧ standsS [39] (bl s) σ = true)) (HL : Hid ((whileS (qb q) (bl s) (go_ σ (σ.pos + 1))).pos = L)) (HR : Hid (str (runW (qb q) (bl s) (go_ σ (σ.pos + 1))) = T)) (e : Bool)
    (HE : Hid ((∃ h : L < s.size, s[L]'h = q) ↔ e = true)) :
    Calls Tryz.prog 145 #[.pointer (some ⟨b, 0, none⟩)] w fun r w' => (r = .returned (.string (if e = true then str (openL (bl T)).1 else ⟨#[]⟩)) ∧ Sc B b s (if e = true then openedS (bl T) (σ.pos + 1) (go_ (go_ σ L) (L + 1)) else wrongS 3 (σ.pos + 1) (go_ σ L)) w' ∧ Only b w w') := by
  have hmf : ∀ (fn : Fn) (first cap : Array Value) (w : World), (Instr.makeFunc fn first cap).run Tryz.prog w = .ok (.func fn first cap) w := fun _ _ _ _ => rfl
  have hp' : (σ.pos : Int) < (s.size : Int) := by omega
  have hln := hS.len
  rcases h1 with h1 | ⟨h1, h2⟩
  · have C1 := Lib.hid (sstands_at B b s ⟨#[34]⟩ σ w hS _ h1)
    clear h1 hS
    go_enter Tryz.func145, Tryz.ntmps145
    go_wp2_with fail
    refine C1.out.mono ?_
    rintro e w1 ⟨rfl, h1, hb1⟩
    have H2 := Lib.hid h1
    have O2 := Lib.hid (Only.of (b := b) hb1)
    clear h1 hb1
    have c0 := H2.out.c0
    have c1 := H2.out.c1
    have H3 := (H2.out.step ((Below.refl _ _).alloc (Nat.le_refl _) (.cells #[.int .u8 0] 5)))
    have d0 := H3.c0
    have d1 := H3.c1
    clear H3
    go_wp2
    go_region
    rw [hq.out]
    have HQ := H2.out.step (((Below.refl _ _).alloc (Nat.le_refl _) (.cells #[.int .u8 (q.toNat : Int)] 5)).drew)
    have HC : ((w1.alloc (.cells #[.int .u8 (q.toNat : Int)] 5)).drew).cell? ⟨w1.heap.size, 0, none⟩ = some (.int .u8 (q.toNat : Int)) := by simp
    have HO := O2.out.trans ((Only.alloc b w1 (.cells #[.int .u8 (q.toNat : Int)] 5)).trans (Only.of ((Below.refl _ _).drew)))
    have HZ : b < w1.heap.size := H2.out.lt
    have HZ2 : w1.heap.size < (w1.alloc (.cells #[.int .u8 (q.toNat : Int)] 5)).drew.heap.size := by simp
    clear c0 c1 d0 d1 H2 O2
    generalize (w1.alloc (.cells #[.int .u8 (q.toNat : Int)] 5)).drew = w2 at HQ HC HO HZ2 ⊢
    generalize w1.heap.size = Q at HC HZ HZ2 ⊢
    have c1 := HQ.c1
    have f1 := HQ.fz 1
    have H4 := HQ.go (σ.pos + 1) (by omega)
    have C4 : (w2.setCell ⟨b, 1, none⟩ (.int .i64 ((σ.pos + 1 : Nat) : Int))).cell? ⟨Q, 0, none⟩ = some (.int .u8 (q.toNat : Int)) := by
      rw [World.cell?_of_block (w := w2) (Below.heap_setCell _ _ _ _ (by show Q ≠ b; omega))]; exact HC
    have HO := HO.trans (Only.set b 1 w2 (.int .i64 ((σ.pos + 1 : Nat) : Int)))
    have HZ3 : Q < (w2.setCell ⟨b, 1, none⟩ (.int .i64 ((σ.pos + 1 : Nat) : Int))).heap.size := by simp [World.setCell]; exact HZ2
    obtain ⟨P1, hP1⟩ : ∃ P1, σ.pos + 1 = P1 := ⟨_, rfl⟩
    have hP1' : (σ.pos : Int) + 1 = (P1 : Int) := by omega
    rw [hP1] at H4 C4 HO HZ3
    rw [hP1] at HL HR
    have HP1 := Lib.hid hP1
    have H4 := Lib.hid H4
    have C4 := Lib.hid C4
    have HO := Lib.hid HO
    clear HQ HC HZ2 hP1
    go_wp2_with fail
    clear c1 f1 hP1'
    generalize w2.setCell ⟨b, 1, none⟩ (.int .i64 (P1 : Int)) = w3 at H4 C4 HO HZ3 ⊢
    have C5 := swhile B b s (go_ σ P1) w3 H4.out 157 #[.pointer (some ⟨Q, 0, none⟩)] (qb q) enters_quote (fun w' h => tells_quote Q q w' (by rw [World.cell?_of_block (w := w3) (h.block Q HZ3 (by omega))]; exact C4.out))
    have hgo : whileS (qb q) (bl s) (go_ σ P1) = go_ σ L := by rw [← HL.out]; rfl
    rw [HR.out, hgo] at C5
    have C5 := Lib.hid C5
    have hLs : L ≤ s.size := by
      have := run_len (qb q) (bl s) (go_ σ P1)
      have h2 : (whileS (qb q) (bl s) (go_ σ P1)).pos = P1 + (runW (qb q) (bl s) (go_ σ P1)).length := rfl
      rw [bl_size] at this
      have h3 := HP1.out
      have h4 : (go_ σ P1).pos = P1 := rfl
      rw [h4] at this
      rw [HL.out] at h2
      omega
    have hTs : T.size ≤ s.size := by
      rw [← HR.out, str_size]
      have := run_len (qb q) (bl s) (go_ σ P1)
      rw [bl_size] at this
      omega
    have hPs : P1 ≤ s.size := by have := HP1.out; omega
    have C4' := Lib.hid (fun w' (h : Only b w3 w') => show w'.cell? ⟨Q, 0, none⟩ = some (.int .u8 (q.toNat : Int)) by rw [World.cell?_of_block (w := w3) (h.block Q HZ3 (by omega))]; exact C4.out)
    clear hgo
    refine C5.out.mono ?_
    rintro r w4 ⟨rfl, h4, o4⟩
    have c0 := h4.c0
    have c1 : w4.cell? ⟨b, 1, none⟩ = some (.int .i64 (L : Int)) := h4.c1
    have cQ := C4'.out w4 o4
    have h4 := Lib.hid h4
    have o4 := Lib.hid (HO.out.trans o4)
    have HP1' := Lib.hid (show P1 = σ.pos + 1 from HP1.out.symm)
    clear C4' C4 C5 H4 HO HZ3 HZ HP1 hp hp' hq
    by_cases hL1 : L < s.size
    · have hL1' : (L : Int) < (s.size : Int) := by omega
      have qL : ((L : Int) == (s.size : Int)) = false := by simp; omega
      obtain ⟨c, hc⟩ : ∃ c, s[L]'hL1 = c := ⟨_, rfl⟩
      by_cases hcq : c = q
      · have he := HE.out.1 ⟨hL1, hc.trans hcq⟩
        subst he
        subst hcq
        clear HE
        go_wp2
        go_quiet (fail)
        have h5 := h4.out.step (below_drewN w4 nq)
        have d1 : (w4.drewN nq).cell? ⟨b, 1, none⟩ = some (.int .i64 (L : Int)) := h5.c1
        have g1 := h5.fz 1
        have o5 := o4.out.trans (Only.drewN b w4 nq)
        clear h4 o4 c0 c1 cQ
        generalize w4.drewN nq = w5 at h5 d1 g1 o5 ⊢
        have h6 := Lib.hid (h5.go (L + 1) (by omega))
        have o6 := Lib.hid (o5.trans (Only.set b 1 w5 (.int .i64 ((L + 1 : Nat) : Int))))
        clear h5 o5 hc
        go_wp2_with fail
        rw [show (L : Int) + 1 = ((L + 1 : Nat) : Int) from rfl]
        clear d1 g1
        have C6 := Lib.hid (sopened B b s T _ _ P1 (by omega) (by omega) h6.out)
        refine C6.out.mono ?_
        rintro r w7 ⟨rfl, h7, o7⟩
        rw [HP1'.out] at h7
        go_wp2
        go_ret
        exact ⟨rfl, h7, o6.out.trans o7⟩
      · have he : e = false := by
          cases e with
          | false => rfl
          | true => obtain ⟨h, h'⟩ := HE.out.2 rfl; exact absurd (hc.symm.trans h') hcq
        subst he
        have qc : ((c.toNat : Int) != (q.toNat : Int)) = true := by
          have : c.toNat ≠ q.toNat := fun e => hcq (UInt8.toNat_inj.1 e)
          simp; omega
        clear HE hcq
        go_wp2
        go_quiet (fail)
        have C6 := Lib.hid (swrong B b s _ _ (h4.out.step (below_drewN w4 nq)) 3 P1 (by decide))
        go_wp2_with fail
        refine C6.out.mono ?_
        rintro r w7 ⟨rfl, h7, o7⟩
        rw [HP1'.out] at h7
        go_wp2
        go_ret
        exact ⟨rfl, h7, (o4.out.trans (Only.drewN b w4 nq)).trans o7⟩
    · have he : e = false := by
        cases e with
        | false => rfl
        | true => obtain ⟨h, _⟩ := HE.out.2 rfl; exact absurd h hL1
      subst he
      have qL : ((L : Int) == (s.size : Int)) = true := by simp; omega
      clear HE
      go_wp2
      go_quiet (fail)
      have C6 := Lib.hid (swrong B b s _ _ (h4.out.step (below_drewN w4 nq)) 3 P1 (by decide))
      go_wp2_with fail
      refine C6.out.mono ?_
      rintro r w7 ⟨rfl, h7, o7⟩
      rw [HP1'.out] at h7
      go_wp2
      go_ret
      exact ⟨rfl, h7, (o4.out.trans (Only.drewN b w4 nq)).trans o7⟩
  · have C1 := Lib.hid (sstands_at B b s ⟨#[34]⟩ σ w hS _ h1)
    have C2 := Lib.hid (fun w1 (h : Sc B b s σ w1) => sstands_at B b s ⟨#[39]⟩ σ w1 h _ h2)
    clear h1 h2 hS
    go_enter Tryz.func145, Tryz.ntmps145
    go_wp2_with fail
    refine C1.out.mono ?_
    rintro e0 w0 ⟨rfl, h0, hb0⟩
    have H1 := Lib.hid h0
    have O1 := Lib.hid (Only.of (b := b) hb0)
    clear h0 hb0
    go_wp2_with fail
    refine (C2.out w0 H1.out).mono ?_
    rintro e0 w1 ⟨rfl, h0, hb0⟩
    have H2 := Lib.hid h0
    have O2 := Lib.hid (O1.out.trans (Only.of (b := b) hb0))
    clear h0 hb0 H1 O1 C1 C2
    have c0 := H2.out.c0
    have c1 := H2.out.c1
    have H3 := (H2.out.step ((Below.refl _ _).alloc (Nat.le_refl _) (.cells #[.int .u8 0] 5)))
    have d0 := H3.c0
    have d1 := H3.c1
    clear H3
    go_wp2
    go_region
    rw [hq.out]
    have HQ := H2.out.step (((Below.refl _ _).alloc (Nat.le_refl _) (.cells #[.int .u8 (q.toNat : Int)] 5)).drew)
    have HC : ((w1.alloc (.cells #[.int .u8 (q.toNat : Int)] 5)).drew).cell? ⟨w1.heap.size, 0, none⟩ = some (.int .u8 (q.toNat : Int)) := by simp
    have HO := O2.out.trans ((Only.alloc b w1 (.cells #[.int .u8 (q.toNat : Int)] 5)).trans (Only.of ((Below.refl _ _).drew)))
    have HZ : b < w1.heap.size := H2.out.lt
    have HZ2 : w1.heap.size < (w1.alloc (.cells #[.int .u8 (q.toNat : Int)] 5)).drew.heap.size := by simp
    clear c0 c1 d0 d1 H2 O2
    generalize (w1.alloc (.cells #[.int .u8 (q.toNat : Int)] 5)).drew = w2 at HQ HC HO HZ2 ⊢
    generalize w1.heap.size = Q at HC HZ HZ2 ⊢
    have c1 := HQ.c1
    have f1 := HQ.fz 1
    have H4 := HQ.go (σ.pos + 1) (by omega)
    have C4 : (w2.setCell ⟨b, 1, none⟩ (.int .i64 ((σ.pos + 1 : Nat) : Int))).cell? ⟨Q, 0, none⟩ = some (.int .u8 (q.toNat : Int)) := by
      rw [World.cell?_of_block (w := w2) (Below.heap_setCell _ _ _ _ (by show Q ≠ b; omega))]; exact HC
    have HO := HO.trans (Only.set b 1 w2 (.int .i64 ((σ.pos + 1 : Nat) : Int)))
    have HZ3 : Q < (w2.setCell ⟨b, 1, none⟩ (.int .i64 ((σ.pos + 1 : Nat) : Int))).heap.size := by simp [World.setCell]; exact HZ2
    obtain ⟨P1, hP1⟩ : ∃ P1, σ.pos + 1 = P1 := ⟨_, rfl⟩
    have hP1' : (σ.pos : Int) + 1 = (P1 : Int) := by omega
    rw [hP1] at H4 C4 HO HZ3
    rw [hP1] at HL HR
    have HP1 := Lib.hid hP1
    have H4 := Lib.hid H4
    have C4 := Lib.hid C4
    have HO := Lib.hid HO
    clear HQ HC HZ2 hP1
    go_wp2_with fail
    clear c1 f1 hP1'
    generalize w2.setCell ⟨b, 1, none⟩ (.int .i64 (P1 : Int)) = w3 at H4 C4 HO HZ3 ⊢
    have C5 := swhile B b s (go_ σ P1) w3 H4.out 157 #[.pointer (some ⟨Q, 0, none⟩)] (qb q) enters_quote (fun w' h => tells_quote Q q w' (by rw [World.cell?_of_block (w := w3) (h.block Q HZ3 (by omega))]; exact C4.out))
    have hgo : whileS (qb q) (bl s) (go_ σ P1) = go_ σ L := by rw [← HL.out]; rfl
    rw [HR.out, hgo] at C5
    have C5 := Lib.hid C5
    have hLs : L ≤ s.size := by
      have := run_len (qb q) (bl s) (go_ σ P1)
      have h2 : (whileS (qb q) (bl s) (go_ σ P1)).pos = P1 + (runW (qb q) (bl s) (go_ σ P1)).length := rfl
      rw [bl_size] at this
      have h3 := HP1.out
      have h4 : (go_ σ P1).pos = P1 := rfl
      rw [h4] at this
      rw [HL.out] at h2
      omega
    have hTs : T.size ≤ s.size := by
      rw [← HR.out, str_size]
      have := run_len (qb q) (bl s) (go_ σ P1)
      rw [bl_size] at this
      omega
    have hPs : P1 ≤ s.size := by have := HP1.out; omega
    have C4' := Lib.hid (fun w' (h : Only b w3 w') => show w'.cell? ⟨Q, 0, none⟩ = some (.int .u8 (q.toNat : Int)) by rw [World.cell?_of_block (w := w3) (h.block Q HZ3 (by omega))]; exact C4.out)
    clear hgo
    refine C5.out.mono ?_
    rintro r w4 ⟨rfl, h4, o4⟩
    have c0 := h4.c0
    have c1 : w4.cell? ⟨b, 1, none⟩ = some (.int .i64 (L : Int)) := h4.c1
    have cQ := C4'.out w4 o4
    have h4 := Lib.hid h4
    have o4 := Lib.hid (HO.out.trans o4)
    have HP1' := Lib.hid (show P1 = σ.pos + 1 from HP1.out.symm)
    clear C4' C4 C5 H4 HO HZ3 HZ HP1 hp hp' hq
    by_cases hL1 : L < s.size
    · have hL1' : (L : Int) < (s.size : Int) := by omega
      have qL : ((L : Int) == (s.size : Int)) = false := by simp; omega
      obtain ⟨c, hc⟩ : ∃ c, s[L]'hL1 = c := ⟨_, rfl⟩
      by_cases hcq : c = q
      · have he := HE.out.1 ⟨hL1, hc.trans hcq⟩
        subst he
        subst hcq
        clear HE
        go_wp2
        go_quiet (fail)
        have h5 := h4.out.step (below_drewN w4 nq)
        have d1 : (w4.drewN nq).cell? ⟨b, 1, none⟩ = some (.int .i64 (L : Int)) := h5.c1
        have g1 := h5.fz 1
        have o5 := o4.out.trans (Only.drewN b w4 nq)
        clear h4 o4 c0 c1 cQ
        generalize w4.drewN nq = w5 at h5 d1 g1 o5 ⊢
        have h6 := Lib.hid (h5.go (L + 1) (by omega))
        have o6 := Lib.hid (o5.trans (Only.set b 1 w5 (.int .i64 ((L + 1 : Nat) : Int))))
        clear h5 o5 hc
        go_wp2_with fail
        rw [show (L : Int) + 1 = ((L + 1 : Nat) : Int) from rfl]
        clear d1 g1
        have C6 := Lib.hid (sopened B b s T _ _ P1 (by omega) (by omega) h6.out)
        refine C6.out.mono ?_
        rintro r w7 ⟨rfl, h7, o7⟩
        rw [HP1'.out] at h7
        go_wp2
        go_ret
        exact ⟨rfl, h7, o6.out.trans o7⟩
      · have he : e = false := by
          cases e with
          | false => rfl
          | true => obtain ⟨h, h'⟩ := HE.out.2 rfl; exact absurd (hc.symm.trans h') hcq
        subst he
        have qc : ((c.toNat : Int) != (q.toNat : Int)) = true := by
          have : c.toNat ≠ q.toNat := fun e => hcq (UInt8.toNat_inj.1 e)
          simp; omega
        clear HE hcq
        go_wp2
        go_quiet (fail)
        have C6 := Lib.hid (swrong B b s _ _ (h4.out.step (below_drewN w4 nq)) 3 P1 (by decide))
        go_wp2_with fail
        refine C6.out.mono ?_
        rintro r w7 ⟨rfl, h7, o7⟩
        rw [HP1'.out] at h7
        go_wp2
        go_ret
        exact ⟨rfl, h7, (o4.out.trans (Only.drewN b w4 nq)).trans o7⟩
    · have he : e = false := by
        cases e with
        | false => rfl
        | true => obtain ⟨h, _⟩ := HE.out.2 rfl; exact absurd h hL1
      subst he
      have qL : ((L : Int) == (s.size : Int)) = true := by simp; omega
      clear HE
      go_wp2
      go_quiet (fail)
      have C6 := Lib.hid (swrong B b s _ _ (h4.out.step (below_drewN w4 nq)) 3 P1 (by decide))
      go_wp2_with fail
      refine C6.out.mono ?_
      rintro r w7 ⟨rfl, h7, o7⟩
      rw [HP1'.out] at h7
      go_wp2
      go_ret
      exact ⟨rfl, h7, (o4.out.trans (Only.drewN b w4 nq)).trans o7⟩
/-- **(*Scanner).quoted.** -/
theorem squoted (B b : Nat) (s : ByteArray) (σ : St) (w : World) (hS : Sc B b s σ w) :
    Calls Tryz.prog 145 #[.pointer (some ⟨b, 0, none⟩)] w fun r w' => r = .returned (.string (str (quotedV (bl s) σ))) ∧ Sc B b s (quotedS (bl s) σ) w' ∧ Only b w w' := by
  unfold quotedV quotedS
  by_cases h : standsS [34] (bl s) σ = true ∨ standsS [39] (bl s) σ = true
  · rw [if_pos h, if_pos h]
    have hp : ∃ h : σ.pos < s.size, True := by
      rcases h with h | h
      · obtain ⟨h1, _⟩ := stands_one 34 s σ h; exact ⟨h1, trivial⟩
      · obtain ⟨h1, _⟩ := stands_one 39 s σ h; exact ⟨h1, trivial⟩
    obtain ⟨hp, _⟩ := hp
    have hq := byteAt_get s σ.pos hp
    have hst : standsS [34] (bl s) σ = true ∨ (standsS [34] (bl s) σ = false ∧ standsS [39] (bl s) σ = true) := by
      cases h1 : standsS [34] (bl s) σ with
      | true => exact .inl rfl
      | false => rw [h1] at h; exact .inr ⟨rfl, by simpa using h⟩
    have hfine : Fine (bl s).length ⟨σ.pos, 0, 0⟩ := ⟨by show σ.pos ≤ _; rw [bl_size]; omega, .inl rfl, Int.le_refl _, by show (0 : Int) ≤ _; omega⟩
    have hL : (quoteS (bl s) σ).pos ≤ s.size := by
      have h1 := (quote_fine hfine (by rw [bl_size]; exact hp)).pos
      rw [bl_size] at h1
      exact h1
    have HE : (∃ h : (quoteS (bl s) σ).pos < s.size, s[(quoteS (bl s) σ).pos]'h = byteAt (bl s) σ.pos) ↔ endsB (bl s) σ = true := by
      unfold endsB
      rw [Bool.and_eq_true, decide_eq_true_iff, beq_iff_eq, bl_size]
      constructor
      · rintro ⟨h1, h2⟩; exact ⟨h1, by rw [byteAt_get s _ h1]; exact h2⟩
      · rintro ⟨h1, h2⟩; exact ⟨h1, by rw [← byteAt_get s _ h1]; exact h2⟩
    refine (squoted_yes B b s σ w hS hp (byteAt (bl s) σ.pos) (Lib.hid hq.symm) _ _ hst (Lib.hid rfl) (Lib.hid rfl) (endsB (bl s) σ) (Lib.hid HE)).mono ?_
    rintro r w' ⟨rfl, h1, h2⟩
    rw [str_bl] at h1
    refine ⟨?_, h1, h2⟩
    rw [str_bl]
    split <;> rfl
  · rw [if_neg h, if_neg h]
    exact squoted_no B b s σ w hS (by cases h1 : standsS [34] (bl s) σ with | false => rfl | true => exact absurd (.inl h1) h) (by cases h1 : standsS [39] (bl s) σ with | false => rfl | true => exact absurd (.inr h1) h)

end Go.Proofs.YtincdacickhdkaaGreatDoor
