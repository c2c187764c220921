/-
  strings.Builder in a program whose text of copyCheck ends at what the translation refuses (a builder copied by value): the walks of copyCheck, WriteByte, WriteString, WriteRune, over what the library says of a builder that a call has made itself.
  The walks of entity.closed, entity.Close and galliardref01.Close.
  The walk of entity.Open.
-/
import Derived.Test.YtincdacickhdkaaGreatDoorW2
import Derived.Test.YtincdacickhdkaaGreatDoorW1
import Derived.WalkKit
import Derived.Lib.FrozenHead2
import Derived.Lib.Hide
import GoSem.Claims
import Derived.Test.YtincdacickhdkaaGreatDoorW6
import Derived.BigQuiet
import Derived.Deep.QuietTactic
namespace Go.Proofs.YtincdacickhdkaaGreatDoor
open Go.RowKit
set_option maxRecDepth 100000

/-- A builder that the call has made: what it holds. -/
def Bld (B b : Nat) (bs : List Value) (w : World) : Prop := Lib.IsBuilderF 62 5 B b bs w
theorem bld_below {B b : Nat} {bs : List Value} {w w' : World} (h : Bld B b bs w) (hb : Below w.heap.size w w') : Bld B b bs w' := by
  have key : ∀ p, Lib.BuilderAtF 62 5 B b p bs w → Lib.BuilderAtF 62 5 B b p bs w' := by
    rintro p ⟨hB, v, hbk, hown, hne⟩
    have old : ∀ (k : Nat) (o : Obj), w.heap[k]? = some o → w'.heap[k]? = some o := by
      intro k o h
      have hk : k < w.heap.size := (Array.getElem?_eq_some_iff.1 h).1
      rw [hb.block k hk]; exact h
    refine ⟨hB, v, old _ _ hbk, ⟨hown.1, ?_⟩, hne⟩
    rcases hown.2 with hn | ⟨g, cap, cur, fz, hv, hbg, hg, rest⟩
    · exact .inl hn
    · exact .inr ⟨g, cap, cur, fz, hv, hbg, old _ _ hg, rest⟩
  rcases h with h | h
  · exact .inl (key _ h)
  · exact .inr (key _ h)
theorem bld_new (w : World) (B : Nat) (hB : B ≤ w.heap.size) : Bld B w.heap.size [] (w.alloc (.cells #[.pointer none, .slice none 0 0] 62)) :=
  .inl ⟨hB, .slice none 0 0, heap_alloc_new w _, World.ownsRowF_nil _ _ _ _, by simp [Value.ownBlock]⟩
theorem bld_size : (Tryz.prog.info? 62).map (·.size) = some 2 := by kernel_rfl
theorem bld_lies : liesAt Tryz.prog Tryz.prog.depth 62 (2 / Tryz.prog.cellsOf 62) 0 62 1 = true := by kernel_rfl
theorem byte_info : (Tryz.prog.info? 5).map (fun i => (i.zero, i.size, i.bytes)) = some (some (.int .u8 0), 1, 1) := by kernel_rfl

set_option maxHeartbeats 1000000 in
set_option maxRecDepth 100000 in
theorem bcheck_used (b : Nat) (w : World) (h0 : w.cell? ⟨b, 0, none⟩ = some (.pointer (some ⟨b, 0, none⟩))) :
    Calls Tryz.prog 76 #[.pointer (some ⟨b, 0, none⟩)] w fun e w' => e = .returned (.tuple #[]) ∧ w' = w := by
  obtain ⟨j, hj, _⟩ := Option.map_eq_some_iff.1 bld_size
  go_enter Tryz.func76, Tryz.ntmps76
  go_wp2
  rw [Lib.run_neq_ptr_same w _ Tryz.underlying60 hj]
  go_wp2
  go_end0
  exact ⟨rfl, rfl⟩
set_option maxHeartbeats 1000000 in
set_option maxRecDepth 100000 in
theorem bcheck_fresh (b : Nat) (w : World) (h0 : w.cell? ⟨b, 0, none⟩ = some (.pointer none)) (hsh : w.shape? b = some (62, 2)) (hfz : w.frozen? ⟨b, 0, none⟩ = false) :
    Calls Tryz.prog 76 #[.pointer (some ⟨b, 0, none⟩)] w fun e w' => e = .returned (.tuple #[]) ∧ w' = w.setCell ⟨b, 0, none⟩ (.pointer (some ⟨b, 0, none⟩)) := by
  obtain ⟨j, hj, hjs⟩ := Option.map_eq_some_iff.1 bld_size
  go_enter Tryz.func76, Tryz.ntmps76
  go_wp2
  rw [Lib.run_to_unsafe w ⟨b, 0, none⟩ Tryz.underlying60 Tryz.underlying134 hj (by rw [hjs]; decide) hsh (Nat.zero_lt_succ 1)]
  simp only [Result.andThen]
  rw [Oper.upon_value]
  go_wp2
  rw [run_callFunc_extern Tryz.func94 (by kernel_rfl) (by kernel_rfl) (by kernel_rfl) (e := Extern.AbiNoEscape.same) (by kernel_rfl)]
  rw [Lib.run_noEscape]
  simp only [Result.andThen]
  rw [Oper.upon_value]
  go_wp2
  rw [Lib.run_from_unsafe w ⟨b, 0, none⟩ Tryz.underlying134 Tryz.underlying60 hj hsh bld_lies]
  simp only [Result.andThen]
  rw [Oper.upon_value]
  go_wp2
  go_end0
  exact ⟨rfl, rfl⟩
theorem bcheck (B b : Nat) (bs : List Value) (w : World) (h : Bld B b bs w) :
    Calls Tryz.prog 76 #[.pointer (some ⟨b, 0, none⟩)] w fun e w' => e = .returned (.tuple #[]) ∧ (Lib.BuilderAtF 62 5 B b (.pointer (some ⟨b, 0, none⟩)) bs w' ∧ Below B w w') := by
  rcases h with h | h
  · refine (bcheck_fresh b w h.cell0 h.shape h.frozen0).mono ?_
    rintro e w' ⟨rfl, rfl⟩
    exact ⟨rfl, h.used _, (Below.refl B w).setCell (p := ⟨b, 0, none⟩) h.1 _⟩
  · refine (bcheck_used b w h.cell0).mono ?_
    rintro e w' ⟨rfl, rfl⟩
    exact ⟨rfl, h, Below.refl B _⟩
theorem bld_lt {w : World} {b : Nat} {cs : Array Value} {t : TypeId} {z : Nat × Nat} (h : w.heap[b]? = some (.cells cs t z)) : b < w.heap.size := (Array.getElem?_eq_some_iff.1 h).1

set_option maxHeartbeats 2000000 in
set_option maxRecDepth 100000 in
/-- (*strings.Builder).WriteByte. -/
theorem bbyte (B b : Nat) (bs : List Value) (c : Int) (w : World) (h : Bld B b bs w) (hlen : bs.length + 1 ≤ 140737488355328) (hBw : B ≤ w.heap.size) :
    Calls Tryz.prog 79 #[.pointer (some ⟨b, 0, none⟩), .int .u8 c] w fun e w' => e = .returned .nilIface ∧ Bld B b (bs ++ [.int .u8 c]) w' ∧ Below B w w' := by
  obtain ⟨i0, hi, hz0, hz1, hz2⟩ := info_parts byte_info
  go_enter Tryz.func79, Tryz.ntmps79
  go_wp2_with (go_at_call 76; refine (bcheck B b bs _ h).mono ?_)
  rintro e w1 ⟨rfl, h1, hb1⟩
  obtain ⟨hB, v, hbk, hown, hne⟩ := h1
  have c0 : w1.cell? ⟨b, 0, none⟩ = some (.pointer (some ⟨b, 0, none⟩)) := by rw [Lib.cell_of_heap hbk]; rfl
  have c1 : w1.cell? ⟨b, 1, none⟩ = some v := by rw [Lib.cell_of_heap hbk]; rfl
  go_wp2_with (at_builtin; refine wpList_append_ownF _ rfl _ _ 28 rfl B 5 i0 (.int .u8 0) 1 1 Tryz.underlying28 hi hz0 hz1 hz2 rfl (by decide) _ _ _ rfl (hown.alloc _) ⟨w1.heap.size, 0, none⟩ 1 1 [.int .u8 c] rfl rfl ?c1 ?c2 ?c3 ?c4 ?c5 ?_)
  case c1 =>
    intro j u hj
    match j, hj with
    | 0, hj => simp at hj; subst hj; simp [Addr.add]
  case c2 => intro u hu; simp at hu; subst hu; rfl
  case c3 => unfold maxLen; omega
  case c4 => omega
  case c5 => have := hb1.size; simp; omega
  intro v' w2 hown' hgrow _
  have hlt := bld_lt hbk
  have hb2 : w2.heap[b]? = some (.cells #[.pointer (some ⟨b, 0, none⟩), v] 62 (0, 0)) := by
    rw [hgrow.block b (by simp; omega) (fun e => hne e.symm), Lib.alloc_old w1 _ b hlt]
    exact hbk
  have d0 : w2.cell? ⟨b, 0, none⟩ = some (.pointer (some ⟨b, 0, none⟩)) := by rw [Lib.cell_of_heap hb2]; rfl
  have d1 : w2.cell? ⟨b, 1, none⟩ = some v := by rw [Lib.cell_of_heap hb2]; rfl
  have f1 : w2.frozen? ⟨b, 1, none⟩ = false := Lib.frozen_of_heap hb2 1
  obtain ⟨g, cap, rfl⟩ : ∃ g cap, v' = .slice (some ⟨g, 0, none⟩) (bs.length + 1) cap := by
    rcases hown'.2 with ⟨_, h0⟩ | ⟨g, cap, cur, fz, hv, _⟩
    · omega
    · exact ⟨g, cap, hv⟩
  go_wp2
  go_ret
  refine ⟨rfl, .inr ?_, ?_⟩
  · exact Lib.BuilderAtF.put (T := 62) (e := 5) hB hb2 (bs' := bs ++ [.int .u8 c]) (by simpa using hown') (by decide)
  · exact ((hb1.alloc (by have := hb1.size; omega) _).grown hgrow (by have := hb1.size; simp; omega) (fun k hk => (hown.lt k hk).1)).setCell (p := ⟨b, 1, none⟩) hB _

set_option maxHeartbeats 2000000 in
set_option maxRecDepth 100000 in
/-- (*strings.Builder).WriteString. -/
theorem bstring (B b : Nat) (bs : List Value) (s : ByteArray) (w : World) (h : Bld B b bs w) (hlen : bs.length + s.size ≤ 140737488355328) (hBw : B ≤ w.heap.size) :
    Calls Tryz.prog 57 #[.pointer (some ⟨b, 0, none⟩), .string s] w fun e w' => e = .returned (.tuple #[.int .i64 s.size, .nilIface]) ∧ Bld B b (bs ++ Lib.strCells s) w' ∧ Below B w w' := by
  obtain ⟨i0, hi, hz0, hz1, hz2⟩ := info_parts byte_info
  go_enter Tryz.func57, Tryz.ntmps57
  go_wp2_with (go_at_call 76; refine (bcheck B b bs _ h).mono ?_)
  rintro e w1 ⟨rfl, h1, hb1⟩
  obtain ⟨hB, v, hbk, hown, hne⟩ := h1
  have c0 : w1.cell? ⟨b, 0, none⟩ = some (.pointer (some ⟨b, 0, none⟩)) := by rw [Lib.cell_of_heap hbk]; rfl
  have c1 : w1.cell? ⟨b, 1, none⟩ = some v := by rw [Lib.cell_of_heap hbk]; rfl
  go_wp2_with (at_builtin; refine Lib.wpList_append_own_stringF _ rfl _ _ 28 9 rfl B 5 i0 Tryz.underlying28 Tryz.underlying9 hi hz0 hz1 hz2 _ _ _ rfl hown s rfl ?c3 ?c4 ?c5 ?_)
  case c3 => unfold maxLen; omega
  case c4 => omega
  case c5 => have := hb1.size; omega
  intro v' w2 hown' hgrow _
  have hlt := bld_lt hbk
  have hb2 : w2.heap[b]? = some (.cells #[.pointer (some ⟨b, 0, none⟩), v] 62 (0, 0)) := by
    rw [hgrow.block b hlt (fun e => hne e.symm)]
    exact hbk
  have d0 : w2.cell? ⟨b, 0, none⟩ = some (.pointer (some ⟨b, 0, none⟩)) := by rw [Lib.cell_of_heap hb2]; rfl
  have d1 : w2.cell? ⟨b, 1, none⟩ = some v := by rw [Lib.cell_of_heap hb2]; rfl
  have f1 : w2.frozen? ⟨b, 1, none⟩ = false := Lib.frozen_of_heap hb2 1
  obtain ⟨ao, n', cap, rfl⟩ : ∃ ao n' cap, v' = .slice ao n' cap := by
    rcases hown'.2 with ⟨hv, _⟩ | ⟨g, cap, cur, fz, hv, _⟩
    · exact ⟨_, _, _, hv⟩
    · exact ⟨_, _, _, hv⟩
  go_wp2
  go_ret2
  refine ⟨rfl, .inr ?_, ?_⟩
  · exact Lib.BuilderAtF.put (T := 62) (e := 5) hB hb2 (bs' := bs ++ Lib.strCells s) (by simpa [Lib.strCells_length] using hown') (by decide)
  · exact (hb1.grown hgrow (by have := hb1.size; omega) (fun k hk => (hown.lt k hk).1)).setCell (p := ⟨b, 1, none⟩) hB _

set_option maxHeartbeats 4000000 in
set_option maxRecDepth 100000 in
/-- (*strings.Builder).WriteRune. -/
theorem brune (B b : Nat) (bs : List Value) (r : Int) (hr0 : -2147483648 ≤ r) (hr1 : r ≤ 2147483647) (w : World) (h : Bld B b bs w) (hlen : bs.length + 4 ≤ 140737488355328) (hBw : B ≤ w.heap.size) :
    Calls Tryz.prog 159 #[.pointer (some ⟨b, 0, none⟩), .int .i32 r] w fun e w' => e = .returned (.tuple #[.int .i64 (Lib.runeCells r).length, .nilIface]) ∧ Bld B b (bs ++ Lib.runeCells r) w' ∧ Below B w w' := by
  have hk4 := Lib.runeCells_le r
  have HR := Lib.hid (fun (v : Value) (w1 : World) (ho : w1.ownsRowF B 5 1 v bs.length bs) (hB1 : B ≤ w1.heap.size) => Tryz.utf8_AppendRune_row B v bs.length bs r hr0 hr1 w1 ho hlen hB1)
  go_enter Tryz.func159, Tryz.ntmps159
  go_wp2_with (go_at_call 76; refine (bcheck B b bs _ h).mono ?_)
  rintro e w1 ⟨rfl, h1, hb1⟩
  obtain ⟨hB, v, hbk, hown, hne⟩ := h1
  obtain ⟨ao, cap, rfl⟩ : ∃ ao cap, v = .slice ao bs.length cap := by
    rcases hown.2 with ⟨hv, h0⟩ | ⟨g, cap, cur, fz, hv, _⟩
    · exact ⟨none, 0, by rw [hv, h0]⟩
    · exact ⟨_, _, hv⟩
  have c0 : w1.cell? ⟨b, 0, none⟩ = some (.pointer (some ⟨b, 0, none⟩)) := by rw [Lib.cell_of_heap hbk]; rfl
  have c1 : w1.cell? ⟨b, 1, none⟩ = some (.slice ao bs.length cap) := by rw [Lib.cell_of_heap hbk]; rfl
  go_wp2_with (go_at_call 168; refine (HR.out _ _ hown (by have := hb1.size; omega)).mono ?_)
  rintro e w2 ⟨v', rfl, hown', o, hgrow⟩
  have hlt := bld_lt hbk
  have hb2 : w2.heap[b]? = some (.cells #[.pointer (some ⟨b, 0, none⟩), .slice ao bs.length cap] 62 (0, 0)) := by
    rw [hgrow.block b (by simp; omega) (fun e => hne e.symm), Lib.alloc_old w1 _ b hlt]
    exact hbk
  have d0 : w2.cell? ⟨b, 0, none⟩ = some (.pointer (some ⟨b, 0, none⟩)) := by rw [Lib.cell_of_heap hb2]; rfl
  have d1 : w2.cell? ⟨b, 1, none⟩ = some (.slice ao bs.length cap) := by rw [Lib.cell_of_heap hb2]; rfl
  have f1 : w2.frozen? ⟨b, 1, none⟩ = false := Lib.frozen_of_heap hb2 1
  obtain ⟨g, cap', rfl⟩ : ∃ g cap', v' = .slice (some ⟨g, 0, none⟩) (bs.length + (Lib.runeCells r).length) cap' := by
    rcases hown'.2 with ⟨_, h0⟩ | ⟨g, cap', cur, fz, hv, _⟩
    · omega
    · exact ⟨g, cap', hv⟩
  go_wp2
  go_ret2
  refine ⟨?_, .inr ?_, ?_⟩
  · have e : ((bs.length : Int) + ((Lib.runeCells r).length : Int) - (bs.length : Int)) = ((Lib.runeCells r).length : Int) := by omega
    simp [e]
  · exact Lib.BuilderAtF.put (T := 62) (e := 5) hB hb2 (bs' := bs ++ Lib.runeCells r) (by simpa using hown') (by decide)
  · exact ((hb1.alloc (by have := hb1.size; omega) _).grown hgrow (by have := hb1.size; simp; omega) (fun k hk => (hown.lt k hk).1)).setCell (p := ⟨b, 1, none⟩) hB _

/-! ### what a builder holds, as bytes -/
def Bl (B b : Nat) (l : List UInt8) (w : World) : Prop := Bld B b (Lib.byteCells l) w
theorem Bl.below {B b : Nat} {l : List UInt8} {w w' : World} (h : Bl B b l w) (hb : Below w.heap.size w w') : Bl B b l w' := bld_below h hb
theorem Bl.lt {B b : Nat} {l : List UInt8} {w : World} (h : Bl B b l w) : B ≤ w.heap.size := by
  have key : ∀ p, Lib.BuilderAtF 62 5 B b p (Lib.byteCells l) w → B ≤ w.heap.size := by
    rintro p ⟨hB, v, hbk, _⟩
    have := (Array.getElem?_eq_some_iff.1 hbk).1
    omega
  rcases h with h | h
  · exact key _ h
  · exact key _ h
theorem bl_new (w : World) : Bl w.heap.size w.heap.size [] (w.alloc (.cells #[.pointer none, .slice none 0 0] 62)) := bld_new w _ (Nat.le_refl _)
theorem cells_snoc (l : List UInt8) (c : UInt8) : Lib.byteCells (l ++ [c]) = Lib.byteCells l ++ [.int .u8 (c.toNat : Int)] := by unfold Lib.byteCells; simp
theorem cells_str (l : List UInt8) (s : ByteArray) : Lib.byteCells (l ++ s.data.toList) = Lib.byteCells l ++ Lib.strCells s := by unfold Lib.byteCells Lib.strCells; simp
theorem cells_len (l : List UInt8) : (Lib.byteCells l).length = l.length := by unfold Lib.byteCells; simp
theorem lbyte (B b : Nat) (l : List UInt8) (c : UInt8) (w : World) (h : Bl B b l w) (hlen : l.length + 1 ≤ 140737488355328) :
    Calls Tryz.prog 79 #[.pointer (some ⟨b, 0, none⟩), .int .u8 (c.toNat : Int)] w fun e w' => e = .returned .nilIface ∧ Bl B b (l ++ [c]) w' ∧ Below B w w' := by
  refine (bbyte B b _ (c.toNat : Int) w h (by rw [cells_len]; exact hlen) h.lt).mono fun e w' ⟨h1, h2, h3⟩ => ⟨h1, ?_, h3⟩
  unfold Bl; rw [cells_snoc]; exact h2
theorem lstring (B b : Nat) (l : List UInt8) (s : ByteArray) (w : World) (h : Bl B b l w) (hlen : l.length + s.size ≤ 140737488355328) :
    Calls Tryz.prog 57 #[.pointer (some ⟨b, 0, none⟩), .string s] w fun e w' => e = .returned (.tuple #[.int .i64 s.size, .nilIface]) ∧ Bl B b (l ++ s.data.toList) w' ∧ Below B w w' := by
  refine (bstring B b _ s w h (by rw [cells_len]; exact hlen) h.lt).mono fun e w' ⟨h1, h2, h3⟩ => ⟨h1, ?_, h3⟩
  unfold Bl; rw [cells_str]; exact h2
theorem one_cell {n : Nat} {x : Int} (hn : n < 256) (h : x = n) : Value.int .u8 x = Value.int .u8 ((UInt8.ofNat n).toNat : Int) := by rw [toNat_byte hn, h]
theorem rune_put (r : Int) (h : mayB r = true) : Lib.runeCells r = Lib.byteCells (put r) := by
  have h' := (mayB_iff r).1 h
  unfold Lib.runeCells Lib.byteCells
  by_cases h1 : r < 128
  · rw [Lib.encodeRuneZ_one (by omega) (by omega), put_f1 r (by omega)]
    simp only [List.map_cons, List.map_nil]
    rw [one_cell (n := r.toNat) (x := r) (by omega) (by omega)]
  by_cases h2 : r < 2048
  · rw [Lib.encodeRuneZ_two (by omega) (by omega), put_f2 r (by omega)]
    simp only [List.map_cons, List.map_nil]
    rw [one_cell (n := 192 + r.toNat / 64) (x := 192 + r / 64) (by omega) (by omega), one_cell (n := 128 + r.toNat % 64) (x := 128 + r % 64) (by omega) (by omega)]
  by_cases h3 : r < 65536
  · rw [Lib.encodeRuneZ_three (by omega), put_f3 r (by omega) (by omega)]
    simp only [List.map_cons, List.map_nil]
    rw [one_cell (n := 224 + r.toNat / 4096) (x := 224 + r / 4096) (by omega) (by omega), one_cell (n := 128 + r.toNat / 64 % 64) (x := 128 + r / 64 % 64) (by omega) (by omega), one_cell (n := 128 + r.toNat % 64) (x := 128 + r % 64) (by omega) (by omega)]
  · rw [Lib.encodeRuneZ_four (by omega) (by omega), put_f4 r (by omega)]
    simp only [List.map_cons, List.map_nil]
    rw [one_cell (n := 240 + r.toNat / 262144) (x := 240 + r / 262144) (by omega) (by omega), one_cell (n := 128 + r.toNat / 4096 % 64) (x := 128 + r / 4096 % 64) (by omega) (by omega), one_cell (n := 128 + r.toNat / 64 % 64) (x := 128 + r / 64 % 64) (by omega) (by omega), one_cell (n := 128 + r.toNat % 64) (x := 128 + r % 64) (by omega) (by omega)]
theorem lrune (B b : Nat) (l : List UInt8) (r : Int) (hr : mayB r = true) (w : World) (h : Bl B b l w) (hlen : l.length + 4 ≤ 140737488355328) :
    Calls Tryz.prog 159 #[.pointer (some ⟨b, 0, none⟩), .int .i32 r] w fun e w' => e = .returned (.tuple #[.int .i64 (put r).length, .nilIface]) ∧ Bl B b (l ++ put r) w' ∧ Below B w w' := by
  have hm := (mayB_iff r).1 hr
  refine (brune B b _ r (by omega) (by omega) w h (by rw [cells_len]; exact hlen) h.lt).mono fun e w' ⟨h1, h2, h3⟩ => ⟨?_, ?_, h3⟩
  · rw [h1, rune_put r hr, cells_len]
  · unfold Bl
    rw [rune_put r hr] at h2
    have e : Lib.byteCells (l ++ put r) = Lib.byteCells l ++ Lib.byteCells (put r) := by unfold Lib.byteCells; simp
    rw [e]; exact h2
theorem lout (B b : Nat) (l : List UInt8) (w : World) (h : Bl B b l w) :
    Calls Tryz.prog 31 #[.pointer (some ⟨b, 0, none⟩)] w fun e w' => e = .returned (.string ⟨l.toArray⟩) ∧ Below B w w' :=
  (Tryz.Builder_String_any_f B b l w h h.lt).mono fun _ _ ⟨h1, _, h3⟩ => ⟨h1, h3⟩

end Go.Proofs.YtincdacickhdkaaGreatDoor
namespace Go.Proofs.YtincdacickhdkaaGreatDoor
open Go.RowKit
set_option maxRecDepth 100000

set_option maxRecDepth 100000 in
set_option maxHeartbeats 4000000 in
theorem eclosed_9 (w : World) :
    Calls Tryz.prog 78 #[.int .u8 9] w fun e w' => e = .returned (.string ⟨#[38, 35, 57, 59]⟩) ∧ Below w.heap.size w w' := by
  have C : Hid (Calls Tryz.prog 96 #[.int .i64 9] w fun e w' => e = .returned (.string ⟨#[57]⟩) ∧ w = w') :=
    Lib.hid ((Tryz.strconv_Itoa_small 9 (by omega) w).mono fun e w' h => ⟨h.1.trans (by rw [show Lib.decDigits 9 = [57] by decide +kernel]), h.2.symm⟩)
  go_enter Tryz.func78, Tryz.ntmps78
  go_wp2_with (go_at_call 96; refine C.out.mono ?_; rintro e w' ⟨rfl, rfl⟩)
  go_ret
  exact ⟨rfl, Below.refl _ _⟩
set_option maxRecDepth 100000 in
set_option maxHeartbeats 4000000 in
theorem eclosed_10 (w : World) :
    Calls Tryz.prog 78 #[.int .u8 10] w fun e w' => e = .returned (.string ⟨#[38, 35, 49, 48, 59]⟩) ∧ Below w.heap.size w w' := by
  have C : Hid (Calls Tryz.prog 96 #[.int .i64 10] w fun e w' => e = .returned (.string ⟨#[49, 48]⟩) ∧ w = w') :=
    Lib.hid ((Tryz.strconv_Itoa_small 10 (by omega) w).mono fun e w' h => ⟨h.1.trans (by rw [show Lib.decDigits 10 = [49, 48] by decide +kernel]), h.2.symm⟩)
  go_enter Tryz.func78, Tryz.ntmps78
  go_wp2_with (go_at_call 96; refine C.out.mono ?_; rintro e w' ⟨rfl, rfl⟩)
  go_ret
  exact ⟨rfl, Below.refl _ _⟩
set_option maxRecDepth 100000 in
set_option maxHeartbeats 4000000 in
theorem eclosed_13 (w : World) :
    Calls Tryz.prog 78 #[.int .u8 13] w fun e w' => e = .returned (.string ⟨#[38, 35, 49, 51, 59]⟩) ∧ Below w.heap.size w w' := by
  have C : Hid (Calls Tryz.prog 96 #[.int .i64 13] w fun e w' => e = .returned (.string ⟨#[49, 51]⟩) ∧ w = w') :=
    Lib.hid ((Tryz.strconv_Itoa_small 13 (by omega) w).mono fun e w' h => ⟨h.1.trans (by rw [show Lib.decDigits 13 = [49, 51] by decide +kernel]), h.2.symm⟩)
  go_enter Tryz.func78, Tryz.ntmps78
  go_wp2_with (go_at_call 96; refine C.out.mono ?_; rintro e w' ⟨rfl, rfl⟩)
  go_ret
  exact ⟨rfl, Below.refl _ _⟩
set_option maxRecDepth 100000 in
set_option maxHeartbeats 4000000 in
theorem eclosed_38 (w : World) (HE : Hid (EntV w)) :
    Calls Tryz.prog 78 #[.int .u8 38] w fun e w' => e = .returned (.string ⟨#[38, 97, 109, 112, 59]⟩) ∧ Below w.heap.size w w' := by
  obtain ⟨tt, fr, hg⟩ := HE.out.names
  have i0 : ∀ w, (Instr.index 139 (.agg nameCells) (.int .i64 0)).run Tryz.prog w = .ok (.agg #[.string ⟨#[97, 109, 112]⟩, .int .u8 38, .bool true]) w := fun _ => by kernel_rfl
  go_enter Tryz.func78, Tryz.ntmps78
  go_wp2_with (refine wpList_load_row rfl 139 _ rfl 0 rfl tt _ fr _ hg Tryz.underlying139 rfl (by kernel_rfl) ?_)
  clear hg
  go_loopg [16] 0 (fun g i wr => ∃ k : Nat, g + k = 0 ∧ i = .int .i64 k ∧ Below w.heap.size w wr)
  case atStart => exact ⟨0, rfl, rfl, Below.refl _ _⟩
  case round =>
    obtain ⟨k, hg, rfl, hb⟩ := hrel
    have hk : k = 0 := by omega
    obtain rfl := hk
    · clear hg
      go_wp2
      go_ret
      exact ⟨rfl, hb.alloc hb.size _⟩
set_option maxRecDepth 100000 in
set_option maxHeartbeats 4000000 in
theorem eclosed_60 (w : World) (HE : Hid (EntV w)) :
    Calls Tryz.prog 78 #[.int .u8 60] w fun e w' => e = .returned (.string ⟨#[38, 108, 116, 59]⟩) ∧ Below w.heap.size w w' := by
  obtain ⟨tt, fr, hg⟩ := HE.out.names
  have i0 : ∀ w, (Instr.index 139 (.agg nameCells) (.int .i64 0)).run Tryz.prog w = .ok (.agg #[.string ⟨#[97, 109, 112]⟩, .int .u8 38, .bool true]) w := fun _ => by kernel_rfl
  have i1 : ∀ w, (Instr.index 139 (.agg nameCells) (.int .i64 1)).run Tryz.prog w = .ok (.agg #[.string ⟨#[108, 116]⟩, .int .u8 60, .bool true]) w := fun _ => by kernel_rfl
  go_enter Tryz.func78, Tryz.ntmps78
  go_wp2_with (refine wpList_load_row rfl 139 _ rfl 0 rfl tt _ fr _ hg Tryz.underlying139 rfl (by kernel_rfl) ?_)
  clear hg
  go_loopg [16] 1 (fun g i wr => ∃ k : Nat, g + k = 1 ∧ i = .int .i64 k ∧ Below w.heap.size w wr)
  case atStart => exact ⟨0, rfl, rfl, Below.refl _ _⟩
  case round =>
    obtain ⟨k, hg, rfl, hb⟩ := hrel
    have hk : k = 0 ∨ k = 1 := by omega
    rcases hk with rfl | rfl
    · go_wp2
      go_roundg 0
      case measure => omega
      case rel => exact ⟨1, by omega, by go_num, hb.alloc hb.size _⟩
    · clear hg
      go_wp2
      go_ret
      exact ⟨rfl, hb.alloc hb.size _⟩
set_option maxRecDepth 100000 in
set_option maxHeartbeats 4000000 in
theorem eclosed_62 (w : World) (HE : Hid (EntV w)) :
    Calls Tryz.prog 78 #[.int .u8 62] w fun e w' => e = .returned (.string ⟨#[38, 103, 116, 59]⟩) ∧ Below w.heap.size w w' := by
  obtain ⟨tt, fr, hg⟩ := HE.out.names
  have i0 : ∀ w, (Instr.index 139 (.agg nameCells) (.int .i64 0)).run Tryz.prog w = .ok (.agg #[.string ⟨#[97, 109, 112]⟩, .int .u8 38, .bool true]) w := fun _ => by kernel_rfl
  have i1 : ∀ w, (Instr.index 139 (.agg nameCells) (.int .i64 1)).run Tryz.prog w = .ok (.agg #[.string ⟨#[108, 116]⟩, .int .u8 60, .bool true]) w := fun _ => by kernel_rfl
  have i2 : ∀ w, (Instr.index 139 (.agg nameCells) (.int .i64 2)).run Tryz.prog w = .ok (.agg #[.string ⟨#[103, 116]⟩, .int .u8 62, .bool true]) w := fun _ => by kernel_rfl
  go_enter Tryz.func78, Tryz.ntmps78
  go_wp2_with (refine wpList_load_row rfl 139 _ rfl 0 rfl tt _ fr _ hg Tryz.underlying139 rfl (by kernel_rfl) ?_)
  clear hg
  go_loopg [16] 2 (fun g i wr => ∃ k : Nat, g + k = 2 ∧ i = .int .i64 k ∧ Below w.heap.size w wr)
  case atStart => exact ⟨0, rfl, rfl, Below.refl _ _⟩
  case round =>
    obtain ⟨k, hg, rfl, hb⟩ := hrel
    have hk : k = 0 ∨ k = 1 ∨ k = 2 := by omega
    rcases hk with rfl | rfl | rfl
    · go_wp2
      go_roundg 1
      case measure => omega
      case rel => exact ⟨1, by omega, by go_num, hb.alloc hb.size _⟩
    · go_wp2
      go_roundg 0
      case measure => omega
      case rel => exact ⟨2, by omega, by go_num, hb.alloc hb.size _⟩
    · clear hg
      go_wp2
      go_ret
      exact ⟨rfl, hb.alloc hb.size _⟩
set_option maxRecDepth 100000 in
set_option maxHeartbeats 4000000 in
theorem eclosed_34 (w : World) (HE : Hid (EntV w)) :
    Calls Tryz.prog 78 #[.int .u8 34] w fun e w' => e = .returned (.string ⟨#[38, 113, 117, 111, 116, 59]⟩) ∧ Below w.heap.size w w' := by
  obtain ⟨tt, fr, hg⟩ := HE.out.names
  have i0 : ∀ w, (Instr.index 139 (.agg nameCells) (.int .i64 0)).run Tryz.prog w = .ok (.agg #[.string ⟨#[97, 109, 112]⟩, .int .u8 38, .bool true]) w := fun _ => by kernel_rfl
  have i1 : ∀ w, (Instr.index 139 (.agg nameCells) (.int .i64 1)).run Tryz.prog w = .ok (.agg #[.string ⟨#[108, 116]⟩, .int .u8 60, .bool true]) w := fun _ => by kernel_rfl
  have i2 : ∀ w, (Instr.index 139 (.agg nameCells) (.int .i64 2)).run Tryz.prog w = .ok (.agg #[.string ⟨#[103, 116]⟩, .int .u8 62, .bool true]) w := fun _ => by kernel_rfl
  have i3 : ∀ w, (Instr.index 139 (.agg nameCells) (.int .i64 3)).run Tryz.prog w = .ok (.agg #[.string ⟨#[113, 117, 111, 116]⟩, .int .u8 34, .bool true]) w := fun _ => by kernel_rfl
  go_enter Tryz.func78, Tryz.ntmps78
  go_wp2_with (refine wpList_load_row rfl 139 _ rfl 0 rfl tt _ fr _ hg Tryz.underlying139 rfl (by kernel_rfl) ?_)
  clear hg
  go_loopg [16] 3 (fun g i wr => ∃ k : Nat, g + k = 3 ∧ i = .int .i64 k ∧ Below w.heap.size w wr)
  case atStart => exact ⟨0, rfl, rfl, Below.refl _ _⟩
  case round =>
    obtain ⟨k, hg, rfl, hb⟩ := hrel
    have hk : k = 0 ∨ k = 1 ∨ k = 2 ∨ k = 3 := by omega
    rcases hk with rfl | rfl | rfl | rfl
    · go_wp2
      go_roundg 2
      case measure => omega
      case rel => exact ⟨1, by omega, by go_num, hb.alloc hb.size _⟩
    · go_wp2
      go_roundg 1
      case measure => omega
      case rel => exact ⟨2, by omega, by go_num, hb.alloc hb.size _⟩
    · go_wp2
      go_roundg 0
      case measure => omega
      case rel => exact ⟨3, by omega, by go_num, hb.alloc hb.size _⟩
    · clear hg
      go_wp2
      go_ret
      exact ⟨rfl, hb.alloc hb.size _⟩
set_option maxRecDepth 100000 in
set_option maxHeartbeats 4000000 in
theorem eclosed_none (c : Int) (w : World) (HE : Hid (EntV w)) (h9 : (c == 9) = false) (h10 : (c == 10) = false) (h13 : (c == 13) = false) (h38 : ((38 : Int) == c) = false) (h60 : ((60 : Int) == c) = false) (h62 : ((62 : Int) == c) = false) (h34 : ((34 : Int) == c) = false) :
    Calls Tryz.prog 78 #[.int .u8 c] w fun e w' => e = .returned (.string ⟨#[]⟩) ∧ Below w.heap.size w w' := by
  obtain ⟨tt, fr, hg⟩ := HE.out.names
  have i0 : ∀ w, (Instr.index 139 (.agg nameCells) (.int .i64 0)).run Tryz.prog w = .ok (.agg #[.string ⟨#[97, 109, 112]⟩, .int .u8 38, .bool true]) w := fun _ => by kernel_rfl
  have i1 : ∀ w, (Instr.index 139 (.agg nameCells) (.int .i64 1)).run Tryz.prog w = .ok (.agg #[.string ⟨#[108, 116]⟩, .int .u8 60, .bool true]) w := fun _ => by kernel_rfl
  have i2 : ∀ w, (Instr.index 139 (.agg nameCells) (.int .i64 2)).run Tryz.prog w = .ok (.agg #[.string ⟨#[103, 116]⟩, .int .u8 62, .bool true]) w := fun _ => by kernel_rfl
  have i3 : ∀ w, (Instr.index 139 (.agg nameCells) (.int .i64 3)).run Tryz.prog w = .ok (.agg #[.string ⟨#[113, 117, 111, 116]⟩, .int .u8 34, .bool true]) w := fun _ => by kernel_rfl
  have i4 : ∀ w, (Instr.index 139 (.agg nameCells) (.int .i64 4)).run Tryz.prog w = .ok (.agg #[.string ⟨#[97, 112, 111, 115]⟩, .int .u8 39, .bool false]) w := fun _ => by kernel_rfl
  go_enter Tryz.func78, Tryz.ntmps78
  go_wp2_with (refine wpList_load_row rfl 139 _ rfl 0 rfl tt _ fr _ hg Tryz.underlying139 rfl (by kernel_rfl) ?_)
  clear hg
  go_loopg [16] 5 (fun g i wr => ∃ k : Nat, g + k = 5 ∧ i = .int .i64 k ∧ Below w.heap.size w wr)
  case atStart => exact ⟨0, rfl, rfl, Below.refl _ _⟩
  case round =>
    obtain ⟨k, hg, rfl, hb⟩ := hrel
    have hk : k = 0 ∨ k = 1 ∨ k = 2 ∨ k = 3 ∨ k = 4 ∨ k = 5 := by omega
    rcases hk with rfl | rfl | rfl | rfl | rfl | rfl
    · go_wp2
      go_roundg 4
      case measure => omega
      case rel => exact ⟨1, by omega, by go_num, hb.alloc hb.size _⟩
    · go_wp2
      go_roundg 3
      case measure => omega
      case rel => exact ⟨2, by omega, by go_num, hb.alloc hb.size _⟩
    · go_wp2
      go_roundg 2
      case measure => omega
      case rel => exact ⟨3, by omega, by go_num, hb.alloc hb.size _⟩
    · go_wp2
      go_roundg 1
      case measure => omega
      case rel => exact ⟨4, by omega, by go_num, hb.alloc hb.size _⟩
    · go_wp2
      go_roundg 0
      case measure => omega
      case rel => exact ⟨5, by omega, by go_num, hb.alloc hb.size _⟩
    · clear hg
      go_wp2
      go_ret
      exact ⟨rfl, hb⟩
/-- **entity.closed at every byte.** -/
theorem eclosed (c : UInt8) (w : World) (HE : Hid (EntV w)) : ∃ X : ByteArray,
    (Calls Tryz.prog 78 #[.int .u8 (c.toNat : Int)] w fun e w' => e = .returned (.string X) ∧ Below w.heap.size w w') ∧
    ((X.toList.isEmpty = false ∧ bl X = closeB c) ∨ (X = ⟨#[]⟩ ∧ closeB c = [c])) := by
  by_cases c38 : c.toNat = 38
  · obtain rfl : c = 38 := UInt8.toNat_inj.1 c38
    exact ⟨⟨#[38, 97, 109, 112, 59]⟩, eclosed_38 w HE, .inl ⟨by rw [Lib.toList_data]; rfl, rfl⟩⟩
  by_cases c60 : c.toNat = 60
  · obtain rfl : c = 60 := UInt8.toNat_inj.1 c60
    exact ⟨⟨#[38, 108, 116, 59]⟩, eclosed_60 w HE, .inl ⟨by rw [Lib.toList_data]; rfl, rfl⟩⟩
  by_cases c62 : c.toNat = 62
  · obtain rfl : c = 62 := UInt8.toNat_inj.1 c62
    exact ⟨⟨#[38, 103, 116, 59]⟩, eclosed_62 w HE, .inl ⟨by rw [Lib.toList_data]; rfl, rfl⟩⟩
  by_cases c34 : c.toNat = 34
  · obtain rfl : c = 34 := UInt8.toNat_inj.1 c34
    exact ⟨⟨#[38, 113, 117, 111, 116, 59]⟩, eclosed_34 w HE, .inl ⟨by rw [Lib.toList_data]; rfl, rfl⟩⟩
  by_cases c9 : c.toNat = 9
  · obtain rfl : c = 9 := UInt8.toNat_inj.1 c9
    exact ⟨⟨#[38, 35, 57, 59]⟩, eclosed_9 w, .inl ⟨by rw [Lib.toList_data]; rfl, rfl⟩⟩
  by_cases c10 : c.toNat = 10
  · obtain rfl : c = 10 := UInt8.toNat_inj.1 c10
    exact ⟨⟨#[38, 35, 49, 48, 59]⟩, eclosed_10 w, .inl ⟨by rw [Lib.toList_data]; rfl, rfl⟩⟩
  by_cases c13 : c.toNat = 13
  · obtain rfl : c = 13 := UInt8.toNat_inj.1 c13
    exact ⟨⟨#[38, 35, 49, 51, 59]⟩, eclosed_13 w, .inl ⟨by rw [Lib.toList_data]; rfl, rfl⟩⟩
  refine ⟨⟨#[]⟩, eclosed_none c.toNat w HE ?_ ?_ ?_ ?_ ?_ ?_ ?_, .inr ⟨rfl, closeB_plain c c38 c60 c62 c34 c9 c10 c13⟩⟩
  all_goals (simp; omega)

/-! ### entity.Close -/
theorem take_get (s : ByteArray) (k : Nat) (h : k < s.size) : (bl s).take (k + 1) = (bl s).take k ++ [s[k]'h] := by
  have hl : k < (bl s).length := by rw [bl_size]; exact h
  rw [List.take_succ_eq_append_getElem hl]
  congr 1
theorem take_all (s : ByteArray) : (bl s).take s.size = bl s := List.take_of_length_le (by rw [bl_size]; exact Nat.le_refl _)
set_option maxRecDepth 100000 in
set_option maxHeartbeats 4000000 in
theorem eclose0 (s : ByteArray) (w : World) (HE : Hid (EntV w)) (hs : s.size ≤ 4294967296) (A : ByteArray) (HA : Hid (A = str (closeL (bl s)))) :
    Calls Tryz.prog 59 #[.string s] w fun e w' => e = .returned (.string A) ∧ Below w.heap.size w w' := by
  go_enter Tryz.func59, Tryz.ntmps59
  go_wp2
  go_loopg [8] s.size (fun g i wr => ∃ k : Nat, g + k = s.size ∧ i = .int .i64 k ∧ Bl w.heap.size w.heap.size (closeL ((bl s).take k)) wr ∧ Below w.heap.size w wr)
  case atStart => exact ⟨0, rfl, rfl, bl_new w, (Below.refl _ _).alloc (Nat.le_refl _) _⟩
  case round =>
    obtain ⟨k, hg, rfl, hB, hb⟩ := hrel
    by_cases hin : k < s.size
    · have hin' : (k : Int) < (s.size : Int) := by omega
      have htk := take_get s k hin
      have hlen : (closeL ((bl s).take k)).length ≤ 6 * k := by
        have := closeL_len ((bl s).take k)
        rw [List.length_take] at this
        omega
      obtain ⟨c, hc⟩ : ∃ c, s[k]'hin = c := ⟨_, rfl⟩
      rw [hc] at htk
      obtain ⟨X, hX, hcase⟩ := eclosed c wr (Lib.hid (HE.out.below hb))
      have CX := Lib.hid hX
      have HB := Lib.hid hB
      clear hX hB
      rcases hcase with ⟨hne, hXc⟩ | ⟨rfl, hXc⟩
      · have HXc := Lib.hid hXc
        have Htk := Lib.hid htk
        have hXs : X.size ≤ 6 := by rw [← bl_size, hXc]; exact (closeB_len c).1
        clear hXc htk
        go_wp2_with (go_at_call 78; refine CX.out.mono ?_; rintro e w1 ⟨rfl, hb1⟩)
        have C2 := Lib.hid (lstring _ _ _ X w1 (HB.out.below hb1) (by omega))
        refine C2.out.mono ?_
        rintro e w2 ⟨rfl, h2, hb2⟩
        have hb3 : Below w.heap.size w w2 := (hb.trans (hb1.mono hb.size)).trans hb2
        have h2' : Bl w.heap.size w.heap.size (closeL ((bl s).take (k + 1))) w2 := by rw [Htk.out, closeL_append, closeL_one, ← HXc.out]; exact h2
        clear hb hb1 hb2 h2
        go_wp2
        go_roundg (s.size - (k + 1))
        case measure => omega
        case rel => exact ⟨k + 1, by omega, by go_num, h2', hb3⟩
      · have HXc := Lib.hid hXc
        have Htk := Lib.hid htk
        clear hXc htk
        go_wp2_with (go_at_call 78; refine CX.out.mono ?_; rintro e w1 ⟨rfl, hb1⟩)
        have C2 := Lib.hid (lbyte _ _ _ c w1 (HB.out.below hb1) (by omega))
        refine C2.out.mono ?_
        rintro e w2 ⟨rfl, h2, hb2⟩
        have hb3 : Below w.heap.size w w2 := (hb.trans (hb1.mono hb.size)).trans hb2
        have h2' : Bl w.heap.size w.heap.size (closeL ((bl s).take (k + 1))) w2 := by rw [Htk.out, closeL_append, closeL_one, HXc.out]; exact h2
        clear hb hb1 hb2 h2
        go_wp2
        go_roundg (s.size - (k + 1))
        case measure => omega
        case rel => exact ⟨k + 1, by omega, by go_num, h2', hb3⟩
    · obtain rfl : k = s.size := by omega
      have hA : A = str (closeL ((bl s).take s.size)) := by rw [take_all]; exact HA.out
      subst hA
      have C := Lib.hid (lout _ _ _ wr hB)
      clear hB HA
      go_wp2_with (go_at_call 31; refine C.out.mono ?_; rintro e w1 ⟨rfl, hb1⟩)
      go_ret
      exact ⟨rfl, hb.trans hb1⟩
/-- **entity.Close at strings that are not too long.** -/
theorem eclose (s : ByteArray) (w : World) (HE : Hid (EntV w)) (hs : s.size ≤ 4294967296) :
    Calls Tryz.prog 59 #[.string s] w fun e w' => e = .returned (.string (str (closeL (bl s)))) ∧ Below w.heap.size w w' :=
  eclose0 s w HE hs _ (Lib.hid rfl)

end Go.Proofs.YtincdacickhdkaaGreatDoor
namespace Go.Proofs.YtincdacickhdkaaGreatDoor
open Go.RowKit
set_option maxRecDepth 100000

/-! ### up to a semicolon -/
theorem prefix_semi (c : UInt8) (l : List UInt8) : List.isPrefixOf [59] (c :: l) = (59 == c) := by simp [List.isPrefixOf]
theorem index_semi : ∀ l : List UInt8, Lib.index l [59] = if semi l < l.length then (semi l : Int) else -1
  | [] => rfl
  | c :: l => by
    unfold Lib.index
    rw [prefix_semi]
    by_cases h : c = 59
    · subst h; rw [semi_hit]; simp
    · have hne : ¬ ((59 : UInt8) == c) = true := by simp; exact fun e => h e.symm
      rw [semi_miss c l h, if_neg hne, index_semi l, List.length_cons]
      by_cases h2 : semi l < l.length
      · rw [if_pos h2, if_pos (show semi l + 1 < l.length + 1 by omega), if_neg (show ¬ (((semi l : Int) == -1) = true) by simp)]; simp
      · rw [if_neg h2, if_neg (show ¬ semi l + 1 < l.length + 1 by omega)]; rfl
theorem cut_semi (l : List UInt8) : Lib.cut l [59] = if semi l < l.length then (l.take (semi l), l.drop (semi l + 1), true) else (l, [], false) := by
  unfold Lib.cut
  rw [index_semi]
  by_cases h : semi l < l.length
  · rw [if_pos h, if_pos (by omega), if_pos h]; rfl
  · rw [if_neg h, if_neg (by decide), if_neg h]
theorem bl_ext (s : ByteArray) (k : Nat) : bl (s.extract k s.size) = (bl s).drop k := bl_from s k

set_option maxRecDepth 100000 in
set_option maxHeartbeats 8000000 in
theorem eopen0 (s : ByteArray) (w : World) (HE : Hid (EntV w)) (hs : s.size ≤ 4294967280) (A : List UInt8) (B : Int) (HA : Hid (openL (bl s) = (A, B))) :
    Calls Tryz.prog 147 #[.string s] w fun e w' => e = .returned (.tuple #[.string (str A), .int .i64 B]) ∧ Below w.heap.size w w' := by
  have HBS := Lib.hid (bl_size s)
  go_enter Tryz.func147, Tryz.ntmps147
  go_wp2
  go_loopg [5] s.size (fun g i wr => ∃ (k : Nat) (done : List UInt8), g + k = s.size ∧ i = .int .i64 k ∧ done.length ≤ 2 * k ∧ Hid (Bl w.heap.size w.heap.size done wr) ∧ Below w.heap.size w wr ∧ Hid (Opens (bl s) done k))
  case atStart => exact ⟨0, [], rfl, rfl, by simp, Lib.hid (bl_new w), (Below.refl _ _).alloc (Nat.le_refl _) _, Lib.hid (Opens.start _)⟩
  case round =>
    obtain ⟨k, done, hg, rfl, hdl, HB, hb, HK⟩ := hrel
    by_cases hin : k < s.size
    · have hin' : (k : Int) < (s.size : Int) := by omega
      obtain ⟨c, hc⟩ : ∃ c, s[k]'hin = c := ⟨_, rfl⟩
      have hn : nth (bl s) k = c.toNat := by rw [nth_get s k hin, hc]
      have hkl : k < (bl s).length := by rw [HBS.out]; exact hin
      by_cases h38 : c.toNat = 38
      · have q1 : ((c.toNat : Int) == 38) = true := by simp; omega
        have q2 : ((c.toNat : Int) != 38) = false := by simp; omega
        have hE := HE.out.below hb
        obtain ⟨m, hm⟩ := hE.maxl
        have hcut := Tryz.strings_Cut (s.extract (k + 1) s.size) ⟨#[59]⟩ m wr (by have := size_from s (k + 1); omega) hm
        change Calls _ _ _ _ (fun e w' => e = .returned (.tuple #[.string (str (Lib.cut (bl (s.extract (k + 1) s.size)) [59]).1), .string (str (Lib.cut (bl (s.extract (k + 1) s.size)) [59]).2.1), .bool (Lib.cut (bl (s.extract (k + 1) s.size)) [59]).2.2]) ∧ ∃ n, w' = wr.drewN n) at hcut
        rw [bl_ext, cut_semi] at hcut
        have hdrop : ((bl s).drop (k + 1)).length = s.size - (k + 1) := by rw [List.length_drop, HBS.out]
        have hsl := semi_le ((bl s).drop (k + 1))
        rw [hdrop] at hsl hcut
        have hkn := (hn.trans h38)
        have hstep := HK.out.step hkl hkn
        have hnone := HK.out.none hkl hkn
        rw [HBS.out] at hstep hnone
        have hone := fun (X : ByteArray) (wx : World) (hx : Below w.heap.size w wx) => eone X wx (Lib.hid (HE.out.below hx))
        obtain ⟨D, hD⟩ : ∃ D, (bl s).drop (k + 1) = D := ⟨_, rfl⟩
        obtain ⟨M, hM⟩ : ∃ M, within (bl s) k = M := ⟨_, rfl⟩
        have hM' : D.take (semi D) = M := by rw [← hM, ← hD]; rfl
        rw [hD] at hcut hsl hdrop hstep hnone
        rw [hM] at hstep hnone
        obtain ⟨Z, hZ⟩ : ∃ Z, semi D = Z := ⟨_, rfl⟩
        rw [hZ] at hcut hsl hstep hnone hM'
        by_cases ha : Z < s.size - (k + 1)
        · rw [if_pos ha] at hcut
          simp only at hcut
          rw [hM'] at hcut
          have hMs : M.length = Z := by rw [← hM', List.length_take, hdrop]; omega
          have hSs : (str M).size = Z := by rw [str_size, hMs]
          generalize str (D.drop (Z + 1)) = R at hcut
          have C1 := Lib.hid hcut
          have hx := fun n => hone (str M) (wr.drewN n) (hb.trans ((below_drewN wr n).mono hb.size))
          rw [str_bl] at hx
          have hr := oneL_range M
          have hlet := oneL_let M
          obtain ⟨X, hX⟩ : ∃ X, oneL M = X := ⟨_, rfl⟩
          rw [hX] at hx hr hlet hstep hnone
          have C2 := Lib.hid hx
          have HMs := Lib.hid hSs
          by_cases h0 : X = 0
          · have hA := HA.out.symm.trans (hnone (by rintro ⟨_, h⟩; exact h h0))
            injection hA with hA1 hA2
            subst hA1 hA2 h0
            clear hstep hnone hone hcut hx hr hlet hX hSs hMs hM hM' hZ hD hdrop hsl hkn hn hm hE h38 hkl HA ha
            go_wp2_with (go_at_call 119; refine C1.out.mono ?_; rintro e w1 ⟨rfl, n, rfl⟩)
            refine (C2.out n).mono ?_
            rintro e w2 ⟨rfl, hb2⟩
            have hb3 := (hb.trans ((below_drewN wr n).mono hb.size)).trans (hb2.mono (hb.trans ((below_drewN wr n).mono hb.size)).size)
            clear hb hb2
            go_wp2_with fail
            go_ret2
            exact ⟨rfl, hb3⟩
          · have HN := Lib.hid (hstep (by omega) h0)
            have hmay := let_may X (hlet h0)
            have hxb : (X == 0) = false := by simp; exact h0
            have hX0 := hr.1
            have hX1 := hr.2
            have CR := Lib.hid (fun w1 (h : Bl w.heap.size w.heap.size done w1) => lrune _ _ done X hmay w1 h (by omega))
            have hpl := put_len X
            clear hstep hnone hone hcut hx hr hlet hX hSs hMs hM hM' hZ hD hdrop hkn hn hm hE h38 hkl HA h0 hmay
            go_wp2_with (go_at_call 119; refine C1.out.mono ?_; rintro e w1 ⟨rfl, n, rfl⟩)
            refine (C2.out n).mono ?_
            rintro e w2 ⟨rfl, hb2⟩
            have HB2 := Lib.hid ((HB.out.below (below_drewN wr n)).below hb2)
            have hb3 := (hb.trans ((below_drewN wr n).mono hb.size)).trans (hb2.mono (hb.trans ((below_drewN wr n).mono hb.size)).size)
            clear hb hb2
            go_wp2_with fail
            refine (CR.out w2 HB2.out).mono ?_
            rintro e w3 ⟨rfl, h3, hb4⟩
            have H3 := Lib.hid h3
            have hb5 := hb3.trans hb4
            have hSs := HMs.out
            clear hb3 hb4 h3
            go_wp2_with fail
            go_roundg (s.size - (k + Z + 2))
            case measure => omega
            case rel => exact ⟨k + Z + 2, done ++ put X, by omega, congrArg (Value.int .i64) (by omega), by rw [List.length_append]; omega, H3, hb5, HN⟩
        · rw [if_neg ha] at hcut
          simp only at hcut
          have hA := HA.out.symm.trans (hnone (by rintro ⟨h, _⟩; exact ha (by omega)))
          injection hA with hA1 hA2
          subst hA1 hA2
          have C1 := Lib.hid hcut
          have hx := fun n => hone (str D) (wr.drewN n) (hb.trans ((below_drewN wr n).mono hb.size))
          rw [str_bl] at hx
          generalize oneL D = X at hx
          have C2 := Lib.hid hx
          clear hstep hnone hone hcut hx hM hM' hZ hD hdrop hsl hkn hn hm hE h38 hkl HA ha
          go_wp2_with (go_at_call 119; refine C1.out.mono ?_; rintro e w1 ⟨rfl, n, rfl⟩)
          refine (C2.out n).mono ?_
          rintro e w2 ⟨rfl, hb2⟩
          have hb3 := (hb.trans ((below_drewN wr n).mono hb.size)).trans (hb2.mono (hb.trans ((below_drewN wr n).mono hb.size)).size)
          clear hb hb2
          go_wp2_with fail
          go_ret2
          exact ⟨rfl, hb3⟩
      · have q1 : ((c.toNat : Int) == 38) = false := by simp; omega
        have q2 : ((c.toNat : Int) != 38) = true := by simp; omega
        have HN := Lib.hid (HK.out.plain hkl c hn.symm h38)
        have C := Lib.hid (lbyte _ _ done c wr HB.out (by omega))
        clear hn hkl h38 HA
        go_wp2_with (go_at_call 79; refine C.out.mono ?_; rintro e w1 ⟨rfl, h1, hb1⟩)
        have hb2 := hb.trans hb1
        have H1 := Lib.hid h1
        clear hb hb1 h1
        go_wp2
        go_roundg (s.size - (k + 1))
        case measure => omega
        case rel => exact ⟨k + 1, done ++ [c], by omega, by go_num, by rw [List.length_append]; simp; omega, H1, hb2, HN⟩
    · obtain rfl : k = s.size := by omega
      have hA := HA.out.symm.trans (HK.out.whole (by rw [HBS.out]; exact Nat.le_refl _))
      injection hA with hA1 hA2
      subst hA1 hA2
      have C := Lib.hid (lout _ _ A wr HB.out)
      clear HA
      go_wp2_with (go_at_call 31; refine C.out.mono ?_; rintro e w1 ⟨rfl, hb1⟩)
      go_ret2
      exact ⟨rfl, hb.trans hb1⟩
/-- **entity.Open at strings that are not too long.** -/
theorem eopen (s : ByteArray) (w : World) (HE : Hid (EntV w)) (hs : s.size ≤ 4294967280) :
    Calls Tryz.prog 147 #[.string s] w fun e w' => e = .returned (.tuple #[.string (str (openL (bl s)).1), .int .i64 (openL (bl s)).2]) ∧ Below w.heap.size w w' :=
  eopen0 s w HE hs _ _ (Lib.hid rfl)

end Go.Proofs.YtincdacickhdkaaGreatDoor
