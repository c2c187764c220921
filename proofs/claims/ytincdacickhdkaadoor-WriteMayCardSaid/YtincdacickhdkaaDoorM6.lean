/-
  strings.Builder in a program whose text of copyCheck ends at what the translation refuses (a builder copied by value): the walks of copyCheck, WriteByte, WriteString, WriteRune, over what the library says of a builder that a call has made itself.
  The walks of entity.closed, entity.Close and galliardref01.Close.
  The walk of entity.Open.
  A scanner in memory, and the walks of scan's small methods: Wrong, Err, At, stands, skip, must, while, letters, opened, name.
  The walks of the document's own answers for layer 3: galliardref01.Close, and the law's digits.
  The walk of (*Scanner).while over whatever tells of each byte whether it goes on; and of name.
  The walk of (*Scanner).quoted.
  The walks of slices.ContainsFunc at attributes, and of (*Scanner).attr.
  What a method that hands back a piece leaves; the walk of (*Scanner).opening.
  The walks of (*Scanner).raw, text, closing, piece.
  The walks of (*Scanner).piece, pass, passAll, Next, and of New.
  The walks of (*Scanner).pass and passAll.
  The walks of (*Scanner).passAll, Next, and of New.
  The walks of toldOf, (*Spaces).know.
  The walk of (*Spaces).Enter.
  The walks of slices.IndexFunc and slices.DeleteFunc at tellings, where those to go stand behind those to stay.
  The walks of New, (*Spaces).Depth, Leave.
  Documents in memory: frames by types, elements as values, the three blocks of a document that is read.
  The walk of galliardref06.name.
-/
import Derived.Test.YtincdacickhdkaaDoorM2
import Derived.Test.YtincdacickhdkaaDoorM1
import Derived.WalkKit
import Derived.Lib.FrozenHead2
import Derived.Lib.Hide
import GoSem.Claims
import Derived.Test.YtincdacickhdkaaDoorM5
import Derived.BigQuiet
import Derived.Deep.QuietTactic
import Derived.Test.YtincdacickhdkaaDoorM4
import Derived.OwnWalk
import Derived.IntWalk
import Derived.Test.YtincdacickhdkaaDoorM3
import Derived.RegionTactic
import Derived.Deep.RegionLaw
import Derived.Deep.AppendLies
import Derived.Deep.LoopGhost
import Derived.KernelRfl
import Derived.Deep.CutBlock
import Derived.Deep.DeepCutAuto
import Derived.Laws.IdiomCopy
import Derived.Deep.RegionWith
namespace Go.Proofs.YtincdacickhdkaaDoor
open Go.RowKit
set_option maxRecDepth 100000

/-- A builder that the call has made: what it holds. -/
def Bld (B b : Nat) (bs : List Value) (w : World) : Prop := Lib.IsBuilderF 45 5 B b bs w
theorem bld_below {B b : Nat} {bs : List Value} {w w' : World} (h : Bld B b bs w) (hb : Below w.heap.size w w') : Bld B b bs w' := by
  have key : ∀ p, Lib.BuilderAtF 45 5 B b p bs w → Lib.BuilderAtF 45 5 B b p bs w' := by
    rintro p ⟨hB, v, hbk, hown, hne⟩
    have old : ∀ (k : Nat) (o : Obj), w.heap[k]? = some o → w'.heap[k]? = some o := by
      intro k o h
      have hk : k < w.heap.size := (Array.getElem?_eq_some_iff.1 h).1
      rw [hb.block k hk]; exact h
    refine ⟨hB, v, old _ _ hbk, ⟨hown.1, ?_⟩, hne⟩
    rcases hown.2 with hn | ⟨g, cap, cur, fz, hv, hbg, hg, rest⟩
    · exact .inl hn
    · exact .inr ⟨g, cap, cur, fz, hv, hbg, old _ _ hg, rest⟩
  rcases h with h | h
  · exact .inl (key _ h)
  · exact .inr (key _ h)
theorem bld_new (w : World) (B : Nat) (hB : B ≤ w.heap.size) : Bld B w.heap.size [] (w.alloc (.cells #[.pointer none, .slice none 0 0] 45)) :=
  .inl ⟨hB, .slice none 0 0, heap_alloc_new w _, World.ownsRowF_nil _ _ _ _, by simp [Value.ownBlock]⟩
theorem bld_size : (Tryd.prog.info? 45).map (·.size) = some 2 := by kernel_rfl
theorem bld_lies : liesAt Tryd.prog Tryd.prog.depth 45 (2 / Tryd.prog.cellsOf 45) 0 45 1 = true := by kernel_rfl
theorem byte_info : (Tryd.prog.info? 5).map (fun i => (i.zero, i.size, i.bytes)) = some (some (.int .u8 0), 1, 1) := by kernel_rfl

set_option maxHeartbeats 1000000 in
set_option maxRecDepth 100000 in
theorem bcheck_used (b : Nat) (w : World) (h0 : w.cell? ⟨b, 0, none⟩ = some (.pointer (some ⟨b, 0, none⟩))) :
    Calls Tryd.prog 44 #[.pointer (some ⟨b, 0, none⟩)] w fun e w' => e = .returned (.tuple #[]) ∧ w' = w := by
  obtain ⟨j, hj, _⟩ := Option.map_eq_some_iff.1 bld_size
  go_enter Tryd.func44, Tryd.ntmps44
  go_wp2
  rw [Lib.run_neq_ptr_same w _ Tryd.underlying43 hj]
  go_wp2
  go_end0
  exact ⟨rfl, rfl⟩
set_option maxHeartbeats 1000000 in
set_option maxRecDepth 100000 in
theorem bcheck_fresh (b : Nat) (w : World) (h0 : w.cell? ⟨b, 0, none⟩ = some (.pointer none)) (hsh : w.shape? b = some (45, 2)) (hfz : w.frozen? ⟨b, 0, none⟩ = false) :
    Calls Tryd.prog 44 #[.pointer (some ⟨b, 0, none⟩)] w fun e w' => e = .returned (.tuple #[]) ∧ w' = w.setCell ⟨b, 0, none⟩ (.pointer (some ⟨b, 0, none⟩)) := by
  obtain ⟨j, hj, hjs⟩ := Option.map_eq_some_iff.1 bld_size
  go_enter Tryd.func44, Tryd.ntmps44
  go_wp2
  rw [Lib.run_to_unsafe w ⟨b, 0, none⟩ Tryd.underlying43 Tryd.underlying91 hj (by rw [hjs]; decide) hsh (Nat.zero_lt_succ 1)]
  simp only [Result.andThen]
  rw [Oper.upon_value]
  go_wp2
  rw [run_callFunc_extern Tryd.func59 (by kernel_rfl) (by kernel_rfl) (by kernel_rfl) (e := Extern.AbiNoEscape.same) (by kernel_rfl)]
  rw [Lib.run_noEscape]
  simp only [Result.andThen]
  rw [Oper.upon_value]
  go_wp2
  rw [Lib.run_from_unsafe w ⟨b, 0, none⟩ Tryd.underlying91 Tryd.underlying43 hj hsh bld_lies]
  simp only [Result.andThen]
  rw [Oper.upon_value]
  go_wp2
  go_end0
  exact ⟨rfl, rfl⟩
theorem bcheck (B b : Nat) (bs : List Value) (w : World) (h : Bld B b bs w) :
    Calls Tryd.prog 44 #[.pointer (some ⟨b, 0, none⟩)] w fun e w' => e = .returned (.tuple #[]) ∧ (Lib.BuilderAtF 45 5 B b (.pointer (some ⟨b, 0, none⟩)) bs w' ∧ Below B w w') := by
  rcases h with h | h
  · refine (bcheck_fresh b w h.cell0 h.shape h.frozen0).mono ?_
    rintro e w' ⟨rfl, rfl⟩
    exact ⟨rfl, h.used _, (Below.refl B w).setCell (p := ⟨b, 0, none⟩) h.1 _⟩
  · refine (bcheck_used b w h.cell0).mono ?_
    rintro e w' ⟨rfl, rfl⟩
    exact ⟨rfl, h, Below.refl B _⟩
theorem bld_lt {w : World} {b : Nat} {cs : Array Value} {t : TypeId} {z : Nat × Nat} (h : w.heap[b]? = some (.cells cs t z)) : b < w.heap.size := (Array.getElem?_eq_some_iff.1 h).1

set_option maxHeartbeats 2000000 in
set_option maxRecDepth 100000 in
/-- (*strings.Builder).WriteByte. -/
theorem bbyte (B b : Nat) (bs : List Value) (c : Int) (w : World) (h : Bld B b bs w) (hlen : bs.length + 1 ≤ 140737488355328) (hBw : B ≤ w.heap.size) :
    Calls Tryd.prog 47 #[.pointer (some ⟨b, 0, none⟩), .int .u8 c] w fun e w' => e = .returned .nilIface ∧ Bld B b (bs ++ [.int .u8 c]) w' ∧ Below B w w' := by
  obtain ⟨i0, hi, hz0, hz1, hz2⟩ := info_parts byte_info
  go_enter Tryd.func47, Tryd.ntmps47
  go_wp2_with (go_at_call 44; refine (bcheck B b bs _ h).mono ?_)
  rintro e w1 ⟨rfl, h1, hb1⟩
  obtain ⟨hB, v, hbk, hown, hne⟩ := h1
  have c0 : w1.cell? ⟨b, 0, none⟩ = some (.pointer (some ⟨b, 0, none⟩)) := by rw [Lib.cell_of_heap hbk]; rfl
  have c1 : w1.cell? ⟨b, 1, none⟩ = some v := by rw [Lib.cell_of_heap hbk]; rfl
  go_wp2_with (at_builtin; refine wpList_append_ownF _ rfl _ _ 37 rfl B 5 i0 (.int .u8 0) 1 1 Tryd.underlying37 hi hz0 hz1 hz2 rfl (by decide) _ _ _ rfl (hown.alloc _) ⟨w1.heap.size, 0, none⟩ 1 1 [.int .u8 c] rfl rfl ?c1 ?c2 ?c3 ?c4 ?c5 ?_)
  case c1 =>
    intro j u hj
    match j, hj with
    | 0, hj => simp at hj; subst hj; simp [Addr.add]
  case c2 => intro u hu; simp at hu; subst hu; rfl
  case c3 => unfold maxLen; omega
  case c4 => omega
  case c5 => have := hb1.size; simp; omega
  intro v' w2 hown' hgrow _
  have hlt := bld_lt hbk
  have hb2 : w2.heap[b]? = some (.cells #[.pointer (some ⟨b, 0, none⟩), v] 45 (0, 0)) := by
    rw [hgrow.block b (by simp; omega) (fun e => hne e.symm), Lib.alloc_old w1 _ b hlt]
    exact hbk
  have d0 : w2.cell? ⟨b, 0, none⟩ = some (.pointer (some ⟨b, 0, none⟩)) := by rw [Lib.cell_of_heap hb2]; rfl
  have d1 : w2.cell? ⟨b, 1, none⟩ = some v := by rw [Lib.cell_of_heap hb2]; rfl
  have f1 : w2.frozen? ⟨b, 1, none⟩ = false := Lib.frozen_of_heap hb2 1
  obtain ⟨g, cap, rfl⟩ : ∃ g cap, v' = .slice (some ⟨g, 0, none⟩) (bs.length + 1) cap := by
    rcases hown'.2 with ⟨_, h0⟩ | ⟨g, cap, cur, fz, hv, _⟩
    · omega
    · exact ⟨g, cap, hv⟩
  go_wp2
  go_ret
  refine ⟨rfl, .inr ?_, ?_⟩
  · exact Lib.BuilderAtF.put (T := 45) (e := 5) hB hb2 (bs' := bs ++ [.int .u8 c]) (by simpa using hown') (by decide)
  · exact ((hb1.alloc (by have := hb1.size; omega) _).grown hgrow (by have := hb1.size; simp; omega) (fun k hk => (hown.lt k hk).1)).setCell (p := ⟨b, 1, none⟩) hB _

set_option maxHeartbeats 2000000 in
set_option maxRecDepth 100000 in
/-- (*strings.Builder).WriteString. -/
theorem bstring (B b : Nat) (bs : List Value) (s : ByteArray) (w : World) (h : Bld B b bs w) (hlen : bs.length + s.size ≤ 140737488355328) (hBw : B ≤ w.heap.size) :
    Calls Tryd.prog 31 #[.pointer (some ⟨b, 0, none⟩), .string s] w fun e w' => e = .returned (.tuple #[.int .i64 s.size, .nilIface]) ∧ Bld B b (bs ++ Lib.strCells s) w' ∧ Below B w w' := by
  obtain ⟨i0, hi, hz0, hz1, hz2⟩ := info_parts byte_info
  go_enter Tryd.func31, Tryd.ntmps31
  go_wp2_with (go_at_call 44; refine (bcheck B b bs _ h).mono ?_)
  rintro e w1 ⟨rfl, h1, hb1⟩
  obtain ⟨hB, v, hbk, hown, hne⟩ := h1
  have c0 : w1.cell? ⟨b, 0, none⟩ = some (.pointer (some ⟨b, 0, none⟩)) := by rw [Lib.cell_of_heap hbk]; rfl
  have c1 : w1.cell? ⟨b, 1, none⟩ = some v := by rw [Lib.cell_of_heap hbk]; rfl
  go_wp2_with (at_builtin; refine Lib.wpList_append_own_stringF _ rfl _ _ 37 9 rfl B 5 i0 Tryd.underlying37 Tryd.underlying9 hi hz0 hz1 hz2 _ _ _ rfl hown s rfl ?c3 ?c4 ?c5 ?_)
  case c3 => unfold maxLen; omega
  case c4 => omega
  case c5 => have := hb1.size; omega
  intro v' w2 hown' hgrow _
  have hlt := bld_lt hbk
  have hb2 : w2.heap[b]? = some (.cells #[.pointer (some ⟨b, 0, none⟩), v] 45 (0, 0)) := by
    rw [hgrow.block b hlt (fun e => hne e.symm)]
    exact hbk
  have d0 : w2.cell? ⟨b, 0, none⟩ = some (.pointer (some ⟨b, 0, none⟩)) := by rw [Lib.cell_of_heap hb2]; rfl
  have d1 : w2.cell? ⟨b, 1, none⟩ = some v := by rw [Lib.cell_of_heap hb2]; rfl
  have f1 : w2.frozen? ⟨b, 1, none⟩ = false := Lib.frozen_of_heap hb2 1
  obtain ⟨ao, n', cap, rfl⟩ : ∃ ao n' cap, v' = .slice ao n' cap := by
    rcases hown'.2 with ⟨hv, _⟩ | ⟨g, cap, cur, fz, hv, _⟩
    · exact ⟨_, _, _, hv⟩
    · exact ⟨_, _, _, hv⟩
  go_wp2
  go_ret2
  refine ⟨rfl, .inr ?_, ?_⟩
  · exact Lib.BuilderAtF.put (T := 45) (e := 5) hB hb2 (bs' := bs ++ Lib.strCells s) (by simpa [Lib.strCells_length] using hown') (by decide)
  · exact (hb1.grown hgrow (by have := hb1.size; omega) (fun k hk => (hown.lt k hk).1)).setCell (p := ⟨b, 1, none⟩) hB _

/-! ### what a builder holds, as bytes -/
def Bl (B b : Nat) (l : List UInt8) (w : World) : Prop := Bld B b (Lib.byteCells l) w
theorem Bl.below {B b : Nat} {l : List UInt8} {w w' : World} (h : Bl B b l w) (hb : Below w.heap.size w w') : Bl B b l w' := bld_below h hb
theorem Bl.lt {B b : Nat} {l : List UInt8} {w : World} (h : Bl B b l w) : B ≤ w.heap.size := by
  have key : ∀ p, Lib.BuilderAtF 45 5 B b p (Lib.byteCells l) w → B ≤ w.heap.size := by
    rintro p ⟨hB, v, hbk, _⟩
    have := (Array.getElem?_eq_some_iff.1 hbk).1
    omega
  rcases h with h | h
  · exact key _ h
  · exact key _ h
theorem bl_new (w : World) : Bl w.heap.size w.heap.size [] (w.alloc (.cells #[.pointer none, .slice none 0 0] 45)) := bld_new w _ (Nat.le_refl _)
theorem cells_snoc (l : List UInt8) (c : UInt8) : Lib.byteCells (l ++ [c]) = Lib.byteCells l ++ [.int .u8 (c.toNat : Int)] := by unfold Lib.byteCells; simp
theorem cells_str (l : List UInt8) (s : ByteArray) : Lib.byteCells (l ++ s.data.toList) = Lib.byteCells l ++ Lib.strCells s := by unfold Lib.byteCells Lib.strCells; simp
theorem cells_len (l : List UInt8) : (Lib.byteCells l).length = l.length := by unfold Lib.byteCells; simp
theorem lbyte (B b : Nat) (l : List UInt8) (c : UInt8) (w : World) (h : Bl B b l w) (hlen : l.length + 1 ≤ 140737488355328) :
    Calls Tryd.prog 47 #[.pointer (some ⟨b, 0, none⟩), .int .u8 (c.toNat : Int)] w fun e w' => e = .returned .nilIface ∧ Bl B b (l ++ [c]) w' ∧ Below B w w' := by
  refine (bbyte B b _ (c.toNat : Int) w h (by rw [cells_len]; exact hlen) h.lt).mono fun e w' ⟨h1, h2, h3⟩ => ⟨h1, ?_, h3⟩
  unfold Bl; rw [cells_snoc]; exact h2
theorem lstring (B b : Nat) (l : List UInt8) (s : ByteArray) (w : World) (h : Bl B b l w) (hlen : l.length + s.size ≤ 140737488355328) :
    Calls Tryd.prog 31 #[.pointer (some ⟨b, 0, none⟩), .string s] w fun e w' => e = .returned (.tuple #[.int .i64 s.size, .nilIface]) ∧ Bl B b (l ++ s.data.toList) w' ∧ Below B w w' := by
  refine (bstring B b _ s w h (by rw [cells_len]; exact hlen) h.lt).mono fun e w' ⟨h1, h2, h3⟩ => ⟨h1, ?_, h3⟩
  unfold Bl; rw [cells_str]; exact h2
theorem lout (B b : Nat) (l : List UInt8) (w : World) (h : Bl B b l w) :
    Calls Tryd.prog 17 #[.pointer (some ⟨b, 0, none⟩)] w fun e w' => e = .returned (.string ⟨l.toArray⟩) ∧ Below B w w' :=
  (Tryd.Builder_String_any_f B b l w h h.lt).mono fun _ _ ⟨h1, _, h3⟩ => ⟨h1, h3⟩

end Go.Proofs.YtincdacickhdkaaDoor
namespace Go.Proofs.YtincdacickhdkaaDoor
open Go.RowKit
set_option maxRecDepth 100000

set_option maxRecDepth 100000 in
set_option maxHeartbeats 4000000 in
theorem eclosed_9 (w : World) :
    Calls Tryd.prog 46 #[.int .u8 9] w fun e w' => e = .returned (.string ⟨#[38, 35, 57, 59]⟩) ∧ Below w.heap.size w w' := by
  have C : Hid (Calls Tryd.prog 61 #[.int .i64 9] w fun e w' => e = .returned (.string ⟨#[57]⟩) ∧ w = w') :=
    Lib.hid ((Tryd.strconv_Itoa_small 9 (by omega) w).mono fun e w' h => ⟨h.1.trans (by rw [show Lib.decDigits 9 = [57] by decide +kernel]), h.2.symm⟩)
  go_enter Tryd.func46, Tryd.ntmps46
  go_wp2_with (go_at_call 61; refine C.out.mono ?_; rintro e w' ⟨rfl, rfl⟩)
  go_ret
  exact ⟨rfl, Below.refl _ _⟩
set_option maxRecDepth 100000 in
set_option maxHeartbeats 4000000 in
theorem eclosed_10 (w : World) :
    Calls Tryd.prog 46 #[.int .u8 10] w fun e w' => e = .returned (.string ⟨#[38, 35, 49, 48, 59]⟩) ∧ Below w.heap.size w w' := by
  have C : Hid (Calls Tryd.prog 61 #[.int .i64 10] w fun e w' => e = .returned (.string ⟨#[49, 48]⟩) ∧ w = w') :=
    Lib.hid ((Tryd.strconv_Itoa_small 10 (by omega) w).mono fun e w' h => ⟨h.1.trans (by rw [show Lib.decDigits 10 = [49, 48] by decide +kernel]), h.2.symm⟩)
  go_enter Tryd.func46, Tryd.ntmps46
  go_wp2_with (go_at_call 61; refine C.out.mono ?_; rintro e w' ⟨rfl, rfl⟩)
  go_ret
  exact ⟨rfl, Below.refl _ _⟩
set_option maxRecDepth 100000 in
set_option maxHeartbeats 4000000 in
theorem eclosed_13 (w : World) :
    Calls Tryd.prog 46 #[.int .u8 13] w fun e w' => e = .returned (.string ⟨#[38, 35, 49, 51, 59]⟩) ∧ Below w.heap.size w w' := by
  have C : Hid (Calls Tryd.prog 61 #[.int .i64 13] w fun e w' => e = .returned (.string ⟨#[49, 51]⟩) ∧ w = w') :=
    Lib.hid ((Tryd.strconv_Itoa_small 13 (by omega) w).mono fun e w' h => ⟨h.1.trans (by rw [show Lib.decDigits 13 = [49, 51] by decide +kernel]), h.2.symm⟩)
  go_enter Tryd.func46, Tryd.ntmps46
  go_wp2_with (go_at_call 61; refine C.out.mono ?_; rintro e w' ⟨rfl, rfl⟩)
  go_ret
  exact ⟨rfl, Below.refl _ _⟩
set_option maxRecDepth 100000 in
set_option maxHeartbeats 4000000 in
theorem eclosed_38 (w : World) (HE : Hid (EntV w)) :
    Calls Tryd.prog 46 #[.int .u8 38] w fun e w' => e = .returned (.string ⟨#[38, 97, 109, 112, 59]⟩) ∧ Below w.heap.size w w' := by
  obtain ⟨tt, fr, hg⟩ := HE.out.names
  have i0 : ∀ w, (Instr.index 96 (.agg nameCells) (.int .i64 0)).run Tryd.prog w = .ok (.agg #[.string ⟨#[97, 109, 112]⟩, .int .u8 38, .bool true]) w := fun _ => by kernel_rfl
  go_enter Tryd.func46, Tryd.ntmps46
  go_wp2_with (refine wpList_load_row rfl 96 _ rfl 0 rfl tt _ fr _ hg Tryd.underlying96 rfl (by kernel_rfl) ?_)
  clear hg
  go_loopg [16] 0 (fun g i wr => ∃ k : Nat, g + k = 0 ∧ i = .int .i64 k ∧ Below w.heap.size w wr)
  case atStart => exact ⟨0, rfl, rfl, Below.refl _ _⟩
  case round =>
    obtain ⟨k, hg, rfl, hb⟩ := hrel
    have hk : k = 0 := by omega
    obtain rfl := hk
    · clear hg
      go_wp2
      go_ret
      exact ⟨rfl, hb.alloc hb.size _⟩
set_option maxRecDepth 100000 in
set_option maxHeartbeats 4000000 in
theorem eclosed_60 (w : World) (HE : Hid (EntV w)) :
    Calls Tryd.prog 46 #[.int .u8 60] w fun e w' => e = .returned (.string ⟨#[38, 108, 116, 59]⟩) ∧ Below w.heap.size w w' := by
  obtain ⟨tt, fr, hg⟩ := HE.out.names
  have i0 : ∀ w, (Instr.index 96 (.agg nameCells) (.int .i64 0)).run Tryd.prog w = .ok (.agg #[.string ⟨#[97, 109, 112]⟩, .int .u8 38, .bool true]) w := fun _ => by kernel_rfl
  have i1 : ∀ w, (Instr.index 96 (.agg nameCells) (.int .i64 1)).run Tryd.prog w = .ok (.agg #[.string ⟨#[108, 116]⟩, .int .u8 60, .bool true]) w := fun _ => by kernel_rfl
  go_enter Tryd.func46, Tryd.ntmps46
  go_wp2_with (refine wpList_load_row rfl 96 _ rfl 0 rfl tt _ fr _ hg Tryd.underlying96 rfl (by kernel_rfl) ?_)
  clear hg
  go_loopg [16] 1 (fun g i wr => ∃ k : Nat, g + k = 1 ∧ i = .int .i64 k ∧ Below w.heap.size w wr)
  case atStart => exact ⟨0, rfl, rfl, Below.refl _ _⟩
  case round =>
    obtain ⟨k, hg, rfl, hb⟩ := hrel
    have hk : k = 0 ∨ k = 1 := by omega
    rcases hk with rfl | rfl
    · go_wp2
      go_roundg 0
      case measure => omega
      case rel => exact ⟨1, by omega, by go_num, hb.alloc hb.size _⟩
    · clear hg
      go_wp2
      go_ret
      exact ⟨rfl, hb.alloc hb.size _⟩
set_option maxRecDepth 100000 in
set_option maxHeartbeats 4000000 in
theorem eclosed_62 (w : World) (HE : Hid (EntV w)) :
    Calls Tryd.prog 46 #[.int .u8 62] w fun e w' => e = .returned (.string ⟨#[38, 103, 116, 59]⟩) ∧ Below w.heap.size w w' := by
  obtain ⟨tt, fr, hg⟩ := HE.out.names
  have i0 : ∀ w, (Instr.index 96 (.agg nameCells) (.int .i64 0)).run Tryd.prog w = .ok (.agg #[.string ⟨#[97, 109, 112]⟩, .int .u8 38, .bool true]) w := fun _ => by kernel_rfl
  have i1 : ∀ w, (Instr.index 96 (.agg nameCells) (.int .i64 1)).run Tryd.prog w = .ok (.agg #[.string ⟨#[108, 116]⟩, .int .u8 60, .bool true]) w := fun _ => by kernel_rfl
  have i2 : ∀ w, (Instr.index 96 (.agg nameCells) (.int .i64 2)).run Tryd.prog w = .ok (.agg #[.string ⟨#[103, 116]⟩, .int .u8 62, .bool true]) w := fun _ => by kernel_rfl
  go_enter Tryd.func46, Tryd.ntmps46
  go_wp2_with (refine wpList_load_row rfl 96 _ rfl 0 rfl tt _ fr _ hg Tryd.underlying96 rfl (by kernel_rfl) ?_)
  clear hg
  go_loopg [16] 2 (fun g i wr => ∃ k : Nat, g + k = 2 ∧ i = .int .i64 k ∧ Below w.heap.size w wr)
  case atStart => exact ⟨0, rfl, rfl, Below.refl _ _⟩
  case round =>
    obtain ⟨k, hg, rfl, hb⟩ := hrel
    have hk : k = 0 ∨ k = 1 ∨ k = 2 := by omega
    rcases hk with rfl | rfl | rfl
    · go_wp2
      go_roundg 1
      case measure => omega
      case rel => exact ⟨1, by omega, by go_num, hb.alloc hb.size _⟩
    · go_wp2
      go_roundg 0
      case measure => omega
      case rel => exact ⟨2, by omega, by go_num, hb.alloc hb.size _⟩
    · clear hg
      go_wp2
      go_ret
      exact ⟨rfl, hb.alloc hb.size _⟩
set_option maxRecDepth 100000 in
set_option maxHeartbeats 4000000 in
theorem eclosed_34 (w : World) (HE : Hid (EntV w)) :
    Calls Tryd.prog 46 #[.int .u8 34] w fun e w' => e = .returned (.string ⟨#[38, 113, 117, 111, 116, 59]⟩) ∧ Below w.heap.size w w' := by
  obtain ⟨tt, fr, hg⟩ := HE.out.names
  have i0 : ∀ w, (Instr.index 96 (.agg nameCells) (.int .i64 0)).run Tryd.prog w = .ok (.agg #[.string ⟨#[97, 109, 112]⟩, .int .u8 38, .bool true]) w := fun _ => by kernel_rfl
  have i1 : ∀ w, (Instr.index 96 (.agg nameCells) (.int .i64 1)).run Tryd.prog w = .ok (.agg #[.string ⟨#[108, 116]⟩, .int .u8 60, .bool true]) w := fun _ => by kernel_rfl
  have i2 : ∀ w, (Instr.index 96 (.agg nameCells) (.int .i64 2)).run Tryd.prog w = .ok (.agg #[.string ⟨#[103, 116]⟩, .int .u8 62, .bool true]) w := fun _ => by kernel_rfl
  have i3 : ∀ w, (Instr.index 96 (.agg nameCells) (.int .i64 3)).run Tryd.prog w = .ok (.agg #[.string ⟨#[113, 117, 111, 116]⟩, .int .u8 34, .bool true]) w := fun _ => by kernel_rfl
  go_enter Tryd.func46, Tryd.ntmps46
  go_wp2_with (refine wpList_load_row rfl 96 _ rfl 0 rfl tt _ fr _ hg Tryd.underlying96 rfl (by kernel_rfl) ?_)
  clear hg
  go_loopg [16] 3 (fun g i wr => ∃ k : Nat, g + k = 3 ∧ i = .int .i64 k ∧ Below w.heap.size w wr)
  case atStart => exact ⟨0, rfl, rfl, Below.refl _ _⟩
  case round =>
    obtain ⟨k, hg, rfl, hb⟩ := hrel
    have hk : k = 0 ∨ k = 1 ∨ k = 2 ∨ k = 3 := by omega
    rcases hk with rfl | rfl | rfl | rfl
    · go_wp2
      go_roundg 2
      case measure => omega
      case rel => exact ⟨1, by omega, by go_num, hb.alloc hb.size _⟩
    · go_wp2
      go_roundg 1
      case measure => omega
      case rel => exact ⟨2, by omega, by go_num, hb.alloc hb.size _⟩
    · go_wp2
      go_roundg 0
      case measure => omega
      case rel => exact ⟨3, by omega, by go_num, hb.alloc hb.size _⟩
    · clear hg
      go_wp2
      go_ret
      exact ⟨rfl, hb.alloc hb.size _⟩
set_option maxRecDepth 100000 in
set_option maxHeartbeats 4000000 in
theorem eclosed_none (c : Int) (w : World) (HE : Hid (EntV w)) (h9 : (c == 9) = false) (h10 : (c == 10) = false) (h13 : (c == 13) = false) (h38 : ((38 : Int) == c) = false) (h60 : ((60 : Int) == c) = false) (h62 : ((62 : Int) == c) = false) (h34 : ((34 : Int) == c) = false) :
    Calls Tryd.prog 46 #[.int .u8 c] w fun e w' => e = .returned (.string ⟨#[]⟩) ∧ Below w.heap.size w w' := by
  obtain ⟨tt, fr, hg⟩ := HE.out.names
  have i0 : ∀ w, (Instr.index 96 (.agg nameCells) (.int .i64 0)).run Tryd.prog w = .ok (.agg #[.string ⟨#[97, 109, 112]⟩, .int .u8 38, .bool true]) w := fun _ => by kernel_rfl
  have i1 : ∀ w, (Instr.index 96 (.agg nameCells) (.int .i64 1)).run Tryd.prog w = .ok (.agg #[.string ⟨#[108, 116]⟩, .int .u8 60, .bool true]) w := fun _ => by kernel_rfl
  have i2 : ∀ w, (Instr.index 96 (.agg nameCells) (.int .i64 2)).run Tryd.prog w = .ok (.agg #[.string ⟨#[103, 116]⟩, .int .u8 62, .bool true]) w := fun _ => by kernel_rfl
  have i3 : ∀ w, (Instr.index 96 (.agg nameCells) (.int .i64 3)).run Tryd.prog w = .ok (.agg #[.string ⟨#[113, 117, 111, 116]⟩, .int .u8 34, .bool true]) w := fun _ => by kernel_rfl
  have i4 : ∀ w, (Instr.index 96 (.agg nameCells) (.int .i64 4)).run Tryd.prog w = .ok (.agg #[.string ⟨#[97, 112, 111, 115]⟩, .int .u8 39, .bool false]) w := fun _ => by kernel_rfl
  go_enter Tryd.func46, Tryd.ntmps46
  go_wp2_with (refine wpList_load_row rfl 96 _ rfl 0 rfl tt _ fr _ hg Tryd.underlying96 rfl (by kernel_rfl) ?_)
  clear hg
  go_loopg [16] 5 (fun g i wr => ∃ k : Nat, g + k = 5 ∧ i = .int .i64 k ∧ Below w.heap.size w wr)
  case atStart => exact ⟨0, rfl, rfl, Below.refl _ _⟩
  case round =>
    obtain ⟨k, hg, rfl, hb⟩ := hrel
    have hk : k = 0 ∨ k = 1 ∨ k = 2 ∨ k = 3 ∨ k = 4 ∨ k = 5 := by omega
    rcases hk with rfl | rfl | rfl | rfl | rfl | rfl
    · go_wp2
      go_roundg 4
      case measure => omega
      case rel => exact ⟨1, by omega, by go_num, hb.alloc hb.size _⟩
    · go_wp2
      go_roundg 3
      case measure => omega
      case rel => exact ⟨2, by omega, by go_num, hb.alloc hb.size _⟩
    · go_wp2
      go_roundg 2
      case measure => omega
      case rel => exact ⟨3, by omega, by go_num, hb.alloc hb.size _⟩
    · go_wp2
      go_roundg 1
      case measure => omega
      case rel => exact ⟨4, by omega, by go_num, hb.alloc hb.size _⟩
    · go_wp2
      go_roundg 0
      case measure => omega
      case rel => exact ⟨5, by omega, by go_num, hb.alloc hb.size _⟩
    · clear hg
      go_wp2
      go_ret
      exact ⟨rfl, hb⟩
/-- **entity.closed at every byte.** -/
theorem eclosed (c : UInt8) (w : World) (HE : Hid (EntV w)) : ∃ X : ByteArray,
    (Calls Tryd.prog 46 #[.int .u8 (c.toNat : Int)] w fun e w' => e = .returned (.string X) ∧ Below w.heap.size w w') ∧
    ((X.toList.isEmpty = false ∧ bl X = closeB c) ∨ (X = ⟨#[]⟩ ∧ closeB c = [c])) := by
  by_cases c38 : c.toNat = 38
  · obtain rfl : c = 38 := UInt8.toNat_inj.1 c38
    exact ⟨⟨#[38, 97, 109, 112, 59]⟩, eclosed_38 w HE, .inl ⟨by rw [Lib.toList_data]; rfl, rfl⟩⟩
  by_cases c60 : c.toNat = 60
  · obtain rfl : c = 60 := UInt8.toNat_inj.1 c60
    exact ⟨⟨#[38, 108, 116, 59]⟩, eclosed_60 w HE, .inl ⟨by rw [Lib.toList_data]; rfl, rfl⟩⟩
  by_cases c62 : c.toNat = 62
  · obtain rfl : c = 62 := UInt8.toNat_inj.1 c62
    exact ⟨⟨#[38, 103, 116, 59]⟩, eclosed_62 w HE, .inl ⟨by rw [Lib.toList_data]; rfl, rfl⟩⟩
  by_cases c34 : c.toNat = 34
  · obtain rfl : c = 34 := UInt8.toNat_inj.1 c34
    exact ⟨⟨#[38, 113, 117, 111, 116, 59]⟩, eclosed_34 w HE, .inl ⟨by rw [Lib.toList_data]; rfl, rfl⟩⟩
  by_cases c9 : c.toNat = 9
  · obtain rfl : c = 9 := UInt8.toNat_inj.1 c9
    exact ⟨⟨#[38, 35, 57, 59]⟩, eclosed_9 w, .inl ⟨by rw [Lib.toList_data]; rfl, rfl⟩⟩
  by_cases c10 : c.toNat = 10
  · obtain rfl : c = 10 := UInt8.toNat_inj.1 c10
    exact ⟨⟨#[38, 35, 49, 48, 59]⟩, eclosed_10 w, .inl ⟨by rw [Lib.toList_data]; rfl, rfl⟩⟩
  by_cases c13 : c.toNat = 13
  · obtain rfl : c = 13 := UInt8.toNat_inj.1 c13
    exact ⟨⟨#[38, 35, 49, 51, 59]⟩, eclosed_13 w, .inl ⟨by rw [Lib.toList_data]; rfl, rfl⟩⟩
  refine ⟨⟨#[]⟩, eclosed_none c.toNat w HE ?_ ?_ ?_ ?_ ?_ ?_ ?_, .inr ⟨rfl, closeB_plain c c38 c60 c62 c34 c9 c10 c13⟩⟩
  all_goals (simp; omega)

/-! ### entity.Close -/
theorem take_get (s : ByteArray) (k : Nat) (h : k < s.size) : (bl s).take (k + 1) = (bl s).take k ++ [s[k]'h] := by
  have hl : k < (bl s).length := by rw [bl_size]; exact h
  rw [List.take_succ_eq_append_getElem hl]
  congr 1
theorem take_all (s : ByteArray) : (bl s).take s.size = bl s := List.take_of_length_le (by rw [bl_size]; exact Nat.le_refl _)
set_option maxRecDepth 100000 in
set_option maxHeartbeats 4000000 in
theorem eclose0 (s : ByteArray) (w : World) (HE : Hid (EntV w)) (hs : s.size ≤ 4294967296) (A : ByteArray) (HA : Hid (A = str (closeL (bl s)))) :
    Calls Tryd.prog 33 #[.string s] w fun e w' => e = .returned (.string A) ∧ Below w.heap.size w w' := by
  go_enter Tryd.func33, Tryd.ntmps33
  go_wp2
  go_loopg [8] s.size (fun g i wr => ∃ k : Nat, g + k = s.size ∧ i = .int .i64 k ∧ Bl w.heap.size w.heap.size (closeL ((bl s).take k)) wr ∧ Below w.heap.size w wr)
  case atStart => exact ⟨0, rfl, rfl, bl_new w, (Below.refl _ _).alloc (Nat.le_refl _) _⟩
  case round =>
    obtain ⟨k, hg, rfl, hB, hb⟩ := hrel
    by_cases hin : k < s.size
    · have hin' : (k : Int) < (s.size : Int) := by omega
      have htk := take_get s k hin
      have hlen : (closeL ((bl s).take k)).length ≤ 6 * k := by
        have := closeL_len ((bl s).take k)
        rw [List.length_take] at this
        omega
      obtain ⟨c, hc⟩ : ∃ c, s[k]'hin = c := ⟨_, rfl⟩
      rw [hc] at htk
      obtain ⟨X, hX, hcase⟩ := eclosed c wr (Lib.hid (HE.out.below hb))
      have CX := Lib.hid hX
      have HB := Lib.hid hB
      clear hX hB
      rcases hcase with ⟨hne, hXc⟩ | ⟨rfl, hXc⟩
      · have HXc := Lib.hid hXc
        have Htk := Lib.hid htk
        have hXs : X.size ≤ 6 := by rw [← bl_size, hXc]; exact (closeB_len c).1
        clear hXc htk
        go_wp2_with (go_at_call 46; refine CX.out.mono ?_; rintro e w1 ⟨rfl, hb1⟩)
        have C2 := Lib.hid (lstring _ _ _ X w1 (HB.out.below hb1) (by omega))
        refine C2.out.mono ?_
        rintro e w2 ⟨rfl, h2, hb2⟩
        have hb3 : Below w.heap.size w w2 := (hb.trans (hb1.mono hb.size)).trans hb2
        have h2' : Bl w.heap.size w.heap.size (closeL ((bl s).take (k + 1))) w2 := by rw [Htk.out, closeL_append, closeL_one, ← HXc.out]; exact h2
        clear hb hb1 hb2 h2
        go_wp2
        go_roundg (s.size - (k + 1))
        case measure => omega
        case rel => exact ⟨k + 1, by omega, by go_num, h2', hb3⟩
      · have HXc := Lib.hid hXc
        have Htk := Lib.hid htk
        clear hXc htk
        go_wp2_with (go_at_call 46; refine CX.out.mono ?_; rintro e w1 ⟨rfl, hb1⟩)
        have C2 := Lib.hid (lbyte _ _ _ c w1 (HB.out.below hb1) (by omega))
        refine C2.out.mono ?_
        rintro e w2 ⟨rfl, h2, hb2⟩
        have hb3 : Below w.heap.size w w2 := (hb.trans (hb1.mono hb.size)).trans hb2
        have h2' : Bl w.heap.size w.heap.size (closeL ((bl s).take (k + 1))) w2 := by rw [Htk.out, closeL_append, closeL_one, HXc.out]; exact h2
        clear hb hb1 hb2 h2
        go_wp2
        go_roundg (s.size - (k + 1))
        case measure => omega
        case rel => exact ⟨k + 1, by omega, by go_num, h2', hb3⟩
    · obtain rfl : k = s.size := by omega
      have hA : A = str (closeL ((bl s).take s.size)) := by rw [take_all]; exact HA.out
      subst hA
      have C := Lib.hid (lout _ _ _ wr hB)
      clear hB HA
      go_wp2_with (go_at_call 17; refine C.out.mono ?_; rintro e w1 ⟨rfl, hb1⟩)
      go_ret
      exact ⟨rfl, hb.trans hb1⟩
/-- **entity.Close at strings that are not too long.** -/
theorem eclose (s : ByteArray) (w : World) (HE : Hid (EntV w)) (hs : s.size ≤ 4294967296) :
    Calls Tryd.prog 33 #[.string s] w fun e w' => e = .returned (.string (str (closeL (bl s)))) ∧ Below w.heap.size w w' :=
  eclose0 s w HE hs _ (Lib.hid rfl)

end Go.Proofs.YtincdacickhdkaaDoor
namespace Go.Proofs.YtincdacickhdkaaDoor
open Go.RowKit
set_option maxRecDepth 100000

/-! ### up to a semicolon -/
end Go.Proofs.YtincdacickhdkaaDoor
namespace Go.Proofs.YtincdacickhdkaaDoor
open Go.RowKit
set_option maxRecDepth 100000

/-! ### what changes, and what does not -/
/-- Of what was there only block b may have changed. -/
structure Only (b : Nat) (w w' : World) : Prop where
  os : w'.os = w.os
  tape : w'.tape = w.tape
  output : w'.output = w.output
  size : w.heap.size ≤ w'.heap.size
  block : ∀ k, k < w.heap.size → k ≠ b → w'.heap[k]? = w.heap[k]?
theorem Only.refl (b : Nat) (w : World) : Only b w w := ⟨rfl, rfl, rfl, Nat.le_refl _, fun _ _ _ => rfl⟩
theorem Only.trans {b : Nat} {x y z : World} (h : Only b x y) (k : Only b y z) : Only b x z :=
  ⟨k.os.trans h.os, k.tape.trans h.tape, k.output.trans h.output, Nat.le_trans h.size k.size, fun i hi hb => (k.block i (Nat.lt_of_lt_of_le hi h.size) hb).trans (h.block i hi hb)⟩
theorem Only.of {b : Nat} {w w' : World} (h : Below w.heap.size w w') : Only b w w' := ⟨h.os, h.tape, h.output, h.size, fun k hk _ => h.block k hk⟩
theorem Only.below {b B : Nat} {w w' : World} (h : Only b w w') (hB : B ≤ b) (hw : B ≤ w.heap.size) : Below B w w' := ⟨h.os, h.tape, h.output, h.size, fun k hk => h.block k (by omega) (by omega)⟩
theorem Only.set (b o : Nat) (w : World) (v : Value) : Only b w (w.setCell ⟨b, o, none⟩ v) := ⟨rfl, rfl, rfl, by simp [World.setCell], fun k _ hb => Below.heap_setCell _ _ _ _ hb⟩
theorem Only.alloc (b : Nat) (w : World) (o : Obj) : Only b w (w.alloc o) := Only.of ((Below.refl _ _).alloc (Nat.le_refl _) _)
/-- What the package-level variables hold lies below B, and is as it was. -/
def Glob (B : Nat) (w : World) : Prop := ∃ w0, w0.heap.size = B ∧ EntV w0 ∧ Tabs w0 ∧ Below B w0 w
theorem Glob.start {w : World} (h : EntV w) (k : Tabs w) : Glob w.heap.size w := ⟨w, rfl, h, k, Below.refl _ _⟩
theorem Glob.ent {B : Nat} {w : World} (h : Glob B w) : EntV w := by obtain ⟨w0, rfl, h1, _, h3⟩ := h; exact h1.below h3
theorem Glob.tabs {B : Nat} {w : World} (h : Glob B w) : Tabs w := by obtain ⟨w0, rfl, _, h2, h3⟩ := h; exact h2.below h3
theorem Glob.le {B : Nat} {w : World} (h : Glob B w) : B ≤ w.heap.size := by obtain ⟨w0, rfl, _, _, h3⟩ := h; exact h3.size
theorem Glob.step {B : Nat} {w w' : World} (h : Glob B w) (hb : Below B w w') : Glob B w' := by obtain ⟨w0, h0, h1, h2, h3⟩ := h; exact ⟨w0, h0, h1, h2, h3.trans hb⟩

theorem heap_set {w : World} {b o : Nat} {cs : Array Value} {t : TypeId} {z : Nat × Nat} (v : Value) (h : w.heap[b]? = some (.cells cs t z)) : (w.setCell ⟨b, o, none⟩ v).heap[b]? = some (.cells (cs.setIfInBounds o v) t z) := by
  simp only [World.setCell, Array.getElem?_modify, if_true, h, Option.map_some]
  rfl
/-! ### stands, skip, must -/
/-! ### letters, opened -/
end Go.Proofs.YtincdacickhdkaaDoor
namespace Go.Proofs.YtincdacickhdkaaDoor
open Go.RowKit
set_option maxRecDepth 100000

theorem bl_sub (s : ByteArray) (a b : Nat) : bl (s.extract a b) = ((bl s).take b).drop a := by
  unfold bl; rw [Lib.extract_data, List.take_drop]
  by_cases h : a ≤ b
  · rw [show a + (b - a) = b by omega]
  · rw [List.drop_eq_nil_of_le (by rw [List.length_take]; omega), List.drop_eq_nil_of_le (by rw [List.length_take]; omega)]
/-! ### the law's digits -/
end Go.Proofs.YtincdacickhdkaaDoor
namespace Go.Proofs.YtincdacickhdkaaDoor
open Go.RowKit
set_option maxRecDepth 100000

/-! ### name -/
end Go.Proofs.YtincdacickhdkaaDoor
namespace Go.Proofs.YtincdacickhdkaaDoor
open Go.RowKit
set_option maxRecDepth 100000

end Go.Proofs.YtincdacickhdkaaDoor
namespace Go.Proofs.YtincdacickhdkaaDoor
open Go.RowKit
set_option maxRecDepth 100000

/-- A slice of attributes, as it reads. -/
def Rows (w : World) (v : Value) (A : List (List UInt8 × List UInt8)) : Prop :=
  (A = [] ∧ v = .slice none 0 0) ∨ ∃ g cap, v = .slice (some ⟨g, 0, none⟩) A.length cap ∧ g < w.heap.size ∧
    ∀ j (h : j < A.length), w.cell? ⟨g, j * 2, none⟩ = some (.string (str (A[j]'h).1)) ∧ w.cell? ⟨g, j * 2 + 1, none⟩ = some (.string (str (A[j]'h).2))
theorem Rows.below {w w' : World} {v : Value} {A : List (List UInt8 × List UInt8)} (h : Rows w v A) (hb : Below w.heap.size w w') : Rows w' v A := by
  rcases h with h | ⟨g, cap, hv, hg, h⟩
  · exact .inl h
  · exact .inr ⟨g, cap, hv, Nat.lt_of_lt_of_le hg hb.size, fun j hj => ⟨(hb.cell (p := ⟨g, j * 2, none⟩) hg).trans (h j hj).1, (hb.cell (p := ⟨g, j * 2 + 1, none⟩) hg).trans (h j hj).2⟩⟩
/-! ### attr -/
theorem Only.heap {b : Nat} {w w' : World} (h : Only b w w') {k : Nat} {o : Obj} (hk : w.heap[k]? = some o) (hb : k ≠ b) : w'.heap[k]? = some o := by
  rw [h.block k (Array.getElem?_eq_some_iff.1 hk).1 hb]; exact hk
/-- .. in another block than b. -/
def RowsB (b : Nat) (w : World) (v : Value) (A : List (List UInt8 × List UInt8)) : Prop := Rows w v A ∧ ∀ g o n c, v = .slice (some ⟨g, o, none⟩) n c → g ≠ b ∧ ∃ cs z, w.heap[g]? = some (.cells cs 31 z)
theorem RowsB.only {b : Nat} {w w' : World} {v : Value} {A : List (List UInt8 × List UInt8)} (h : RowsB b w v A) (ho : Only b w w') : RowsB b w' v A := by
  obtain ⟨h, hne⟩ := h
  refine ⟨?_, fun g o n c hv => ?_⟩
  · rcases h with h | ⟨g, cap, hv, hg, h⟩
    · exact .inl h
    · have hb := ho.block g hg (hne _ _ _ _ hv).1
      exact .inr ⟨g, cap, hv, Nat.lt_of_lt_of_le hg ho.size, fun j hj => ⟨(World.cell?_of_block (w := w) hb).trans (h j hj).1, (World.cell?_of_block (w := w) hb).trans (h j hj).2⟩⟩
  · obtain ⟨h1, cs, z, h2⟩ := hne g o n c hv
    exact ⟨h1, cs, z, ho.heap h2 h1⟩
end Go.Proofs.YtincdacickhdkaaDoor
namespace Go.Proofs.YtincdacickhdkaaDoor
open Go.RowKit
set_option maxRecDepth 100000

theorem Only.grown {b : Nat} {w w' : World} (h : Only b w w') : w.grownBy w' (some b) := ⟨h.os, h.tape, h.output, h.size, fun k hk hne => h.block k hk (fun e => hne (by rw [e]))⟩
theorem Only.grownBy {b base : Nat} {w x y : World} {row : Option Nat} (h : Only b w x) (hg : x.grownBy y row) (hr : ∀ k, row = some k → base ≤ k) (hb : w.heap.size ≤ base) : Only b w y :=
  ⟨hg.os.trans h.os, hg.tape.trans h.tape, hg.output.trans h.output, Nat.le_trans h.size hg.size, fun k hk hkb => (hg.block k (Nat.lt_of_lt_of_le hk h.size) (fun e => by have := hr k e.symm; omega)).trans (h.block k hk hkb)⟩
/-! ### a piece that is stored, cell by cell -/
def st5 (w : World) (R : Nat) (x0 x1 x2 x3 x4 : Value) : World := ((((w.setCell ⟨R, 0, none⟩ x0).setCell ⟨R, 1, none⟩ x1).setCell ⟨R, 2, none⟩ x2).setCell ⟨R, 3, none⟩ x3).setCell ⟨R, 4, none⟩ x4
theorem st5_heap {w : World} {R : Nat} {a0 a1 a2 a3 a4 : Value} {t : TypeId} {z : Nat × Nat} (h : w.heap[R]? = some (.cells #[a0, a1, a2, a3, a4] t z)) (x0 x1 x2 x3 x4 : Value) : (st5 w R x0 x1 x2 x3 x4).heap[R]? = some (.cells #[x0, x1, x2, x3, x4] t z) := by
  unfold st5
  rw [heap_set _ (heap_set _ (heap_set _ (heap_set _ (heap_set _ h))))]; rfl
theorem st5_other {w : World} {R k : Nat} (hk : k ≠ R) (x0 x1 x2 x3 x4 : Value) : (st5 w R x0 x1 x2 x3 x4).heap[k]? = w.heap[k]? := by
  unfold st5
  rw [Below.heap_setCell _ _ _ _ hk, Below.heap_setCell _ _ _ _ hk, Below.heap_setCell _ _ _ _ hk, Below.heap_setCell _ _ _ _ hk, Below.heap_setCell _ _ _ _ hk]
theorem RowsB.heap {b : Nat} {w w' : World} {v : Value} {A : List (List UInt8 × List UInt8)} (h : RowsB b w v A) (hs : w.heap.size ≤ w'.heap.size) (hk : ∀ g o n c, v = .slice (some ⟨g, o, none⟩) n c → w'.heap[g]? = w.heap[g]?) : RowsB b w' v A := by
  obtain ⟨h, hne⟩ := h
  refine ⟨?_, fun g o n c hv => ?_⟩
  · rcases h with h | ⟨g, cap, hv, hg, h⟩
    · exact .inl h
    · have hb := hk _ _ _ _ hv
      exact .inr ⟨g, cap, hv, Nat.lt_of_lt_of_le hg hs, fun j hj => ⟨(World.cell?_of_block (w := w) hb).trans (h j hj).1, (World.cell?_of_block (w := w) hb).trans (h j hj).2⟩⟩
  · obtain ⟨h1, cs, z, h2⟩ := hne g o n c hv
    exact ⟨h1, cs, z, (hk g o n c hv).trans h2⟩
theorem st5_size (w : World) (R : Nat) (x0 x1 x2 x3 x4 : Value) : (st5 w R x0 x1 x2 x3 x4).heap.size = w.heap.size := by unfold st5; simp [World.setCell]
end Go.Proofs.YtincdacickhdkaaDoor
namespace Go.Proofs.YtincdacickhdkaaDoor
open Go.RowKit
set_option maxRecDepth 100000

end Go.Proofs.YtincdacickhdkaaDoor
namespace Go.Proofs.YtincdacickhdkaaDoor
open Go.RowKit
set_option maxRecDepth 100000

theorem RowsB.set {b : Nat} {w : World} {v : Value} {A : List (List UInt8 × List UInt8)} (h : RowsB b w v A) {p : Addr} (hk : ∀ g o n c, v = .slice (some ⟨g, o, none⟩) n c → g ≠ p.block) (x : Value) : RowsB b (w.setCell p x) v A :=
  h.heap (by simp [World.setCell]) (fun g o n c hv => Below.heap_setCell _ _ _ _ (hk g o n c hv))
theorem RowsB.st5 {b : Nat} {w : World} {v : Value} {A : List (List UInt8 × List UInt8)} (h : RowsB b w v A) {R : Nat} (hk : ∀ g o n c, v = .slice (some ⟨g, o, none⟩) n c → g ≠ R) (x0 x1 x2 x3 x4 : Value) : RowsB b (st5 w R x0 x1 x2 x3 x4) v A :=
  h.heap (by rw [st5_size]; exact Nat.le_refl _) (fun g o n c hv => st5_other (hk g o n c hv) _ _ _ _ _)
end Go.Proofs.YtincdacickhdkaaDoor
namespace Go.Proofs.YtincdacickhdkaaDoor
open Go.RowKit
set_option maxRecDepth 100000

/-! ### what may stand where nothing is said -/
end Go.Proofs.YtincdacickhdkaaDoor
namespace Go.Proofs.YtincdacickhdkaaDoor
open Go.RowKit
set_option maxRecDepth 100000

/-! ### Next -/
/-! ### New -/
end Go.Proofs.YtincdacickhdkaaDoor
namespace Go.Proofs.YtincdacickhdkaaDoor
open Go Go.RowKit
set_option maxRecDepth 100000

/-! ### know -/
end Go.Proofs.YtincdacickhdkaaDoor
namespace Go.Proofs.YtincdacickhdkaaDoor
open Go Go.RowKit
set_option maxRecDepth 100000

theorem att_info : (Tryd.prog.info? 31).map (fun i => (i.zero, i.size, i.bytes)) = some (some (.agg #[.string ⟨#[]⟩, .string ⟨#[]⟩]), 2, 32) := by kernel_rfl
/-- Block g holds attributes, from its beginning on. -/
def AttrsAt (w : World) (g : Nat) (A : List Att) : Prop := ∃ cs z, w.heap[g]? = some (.cells cs 31 z) ∧ ∀ j, j < A.length * 2 → cs[j]? = (cellsA A)[j]?
theorem AttrsAt.cells {w : World} {g : Nat} {A : List Att} (h : AttrsAt w g A) (j : Nat) (hj : j < A.length) : w.cell? ⟨g, j * 2, none⟩ = some (.string (A[j]'hj).1) ∧ w.cell? ⟨g, j * 2 + 1, none⟩ = some (.string (A[j]'hj).2) := by
  obtain ⟨cs, z, h1, h2⟩ := h
  refine ⟨?_, ?_⟩
  · rw [Lib.cell_of_heap h1, h2 _ (by omega)]; exact cellsA_get A j hj 0 (by decide)
  · rw [Lib.cell_of_heap h1, h2 _ (by omega)]; exact cellsA_get A j hj 1 (by decide)
theorem AttrsAt.own {w : World} {base g n cap : Nat} {A : List Att} (h : w.ownsRow base 31 2 (.slice (some ⟨g, 0, none⟩) n cap) n (cellsA A)) (hn : A.length = n) : AttrsAt w g A := by
  subst hn
  rcases h.2 with ⟨h', _⟩ | ⟨g', cap', cur, h', _, hg, _, _, _, ht⟩
  · simp at h'
  · simp only [Value.slice.injEq, Option.some.injEq, Addr.mk.injEq, and_true, true_and] at h'
    obtain ⟨rfl, rfl⟩ := h'
    exact ⟨cur, (0, 0), hg, fun j hj => by rw [← ht, List.getElem?_take, if_pos hj]; simp⟩
end Go.Proofs.YtincdacickhdkaaDoor
namespace Go.Proofs.YtincdacickhdkaaDoor
open Go Go.RowKit
set_option maxRecDepth 100000

end Go.Proofs.YtincdacickhdkaaDoor
namespace Go.Proofs.YtincdacickhdkaaDoor
open Go Go.RowKit
set_option maxRecDepth 100000

end Go.Proofs.YtincdacickhdkaaDoor
namespace Go.Proofs.YtincdacickhdkaaDoor
open Go Go.RowKit
set_option maxRecDepth 100000

/-! ### Frames -/
/-- What is of none of these types lies as it lay. -/
structure Kept (ts : List TypeId) (w w' : World) : Prop where
  size : w.heap.size ≤ w'.heap.size
  block : ∀ j, j < w.heap.size → (∀ c t z, w.heap[j]? = some (.cells c t z) → t ∉ ts) → w'.heap[j]? = w.heap[j]?
theorem Kept.refl (ts : List TypeId) (w : World) : Kept ts w w := ⟨Nat.le_refl _, fun _ _ _ => rfl⟩
theorem Kept.trans {ts : List TypeId} {a b c : World} (h : Kept ts a b) (k : Kept ts b c) : Kept ts a c :=
  ⟨Nat.le_trans h.size k.size, fun j hj hn => by
    have e := h.block j hj hn
    exact (k.block j (Nat.lt_of_lt_of_le hj h.size) (by rw [e]; exact hn)).trans e⟩
theorem Kept.of {w w' : World} (ts : List TypeId) (h : Below w.heap.size w w') : Kept ts w w' := ⟨h.size, fun j hj _ => h.block j hj⟩
theorem Kept.alloc (ts : List TypeId) (w : World) (o : Obj) : Kept ts w (w.alloc o) := Kept.of ts ((Below.refl _ _).alloc (Nat.le_refl _) _)
theorem Kept.mono {ts us : List TypeId} {w w' : World} (h : Kept ts w w') (hs : ∀ t ∈ ts, t ∈ us) : Kept us w w' :=
  ⟨h.size, fun j hj hn => h.block j hj fun c t z e ht => hn c t z e (hs t ht)⟩
theorem Kept.heap {ts : List TypeId} {w w' : World} (h : Kept ts w w') {b : Nat} {cs : Array Value} {t : TypeId} {z : Nat × Nat} (hb : w.heap[b]? = some (.cells cs t z)) (ht : t ∉ ts) : w'.heap[b]? = some (.cells cs t z) :=
  (h.block b (Array.getElem?_eq_some_iff.1 hb).1 (fun c t' z' e => by rw [hb] at e; cases e; exact ht)).trans hb
theorem Kept.only {ts : List TypeId} {b : Nat} {w w' : World} (h : Only b w w') {cs : Array Value} {t : TypeId} {z : Nat × Nat} (hb : w.heap[b]? = some (.cells cs t z)) (ht : t ∈ ts) : Kept ts w w' :=
  ⟨h.size, fun j hj hn => h.block j hj (fun e => by rw [e] at hn; exact hn cs t z hb ht)⟩
theorem Kept.set {ts : List TypeId} {w : World} {b : Nat} {cs : Array Value} {t : TypeId} {z : Nat × Nat} (h : w.heap[b]? = some (.cells cs t z)) (ht : t ∈ ts) (o : Nat) (v : Value) : Kept ts w (w.setCell ⟨b, o, none⟩ v) :=
  Kept.only (Only.set b o w v) h ht
theorem Kept.owns {ts : List TypeId} {w w' : World} (h : Kept ts w w') {base : Nat} {e : TypeId} {z n : Nat} {v : Value} {xs : List Value} (ho : w.ownsRow base e z v n xs) (he : e ∉ ts) : w'.ownsRow base e z v n xs := by
  refine ⟨ho.1, ?_⟩
  rcases ho.2 with hn | ⟨g, cap, cur, hv, hb, hg, r⟩
  · exact .inl hn
  · exact .inr ⟨g, cap, cur, hv, hb, h.heap hg he, r⟩
/-! ### Elements as values -/
/-- A slice of attributes, as it reads. -/
def AttV (P : Nat → Prop) (w : World) (v : Value) (A : List Att) : Prop :=
  ∃ ao cap, v = .slice ao A.length cap ∧ (0 < A.length → ∃ g o, ao = some ⟨g, o, none⟩ ∧ P g ∧ g < w.heap.size ∧
    ∀ j (h : j < A.length), w.cell? ⟨g, o + j * 2, none⟩ = some (.string (A[j]'h).1) ∧ w.cell? ⟨g, o + j * 2 + 1, none⟩ = some (.string (A[j]'h).2)) ∧ A.length ≤ cap
/-- An element's value; its blocks are those that P says. -/
inductive NodeV (P : Nat → Prop) (w : World) : Value → Nd → Prop where
  | mk (sp nm tx : ByteArray) (A : List Att) (K : List Nd) (va : Value) (ao : Option Addr) (cap : Nat) (c : Nat → Nat → Value) (ha : AttV P w va A)
    (hk : 0 < K.length → ∃ g o, ao = some ⟨g, o, none⟩ ∧ P g ∧ g < w.heap.size ∧ ∀ j, j < K.length → ∀ q, q < 5 → w.cell? ⟨g, o + j * 5 + q, none⟩ = some (c j q))
    (hn : ∀ j (h : j < K.length), NodeV P w (.agg #[c j 0, c j 1, c j 2, c j 3, c j 4]) (K[j]'h)) :
    NodeV P w (.agg #[.string sp, .string nm, va, .slice ao K.length cap, .string tx]) (.mk sp nm A K tx)
theorem AttV.to {P P' : Nat → Prop} {w w' : World} {v : Value} {A : List Att} (h : AttV P w v A) (hs : w.heap.size ≤ w'.heap.size) (hb : ∀ g, P g → g < w.heap.size → P' g ∧ w'.heap[g]? = w.heap[g]?) : AttV P' w' v A := by
  obtain ⟨ao, cap, hv, h, hcp⟩ := h
  refine ⟨ao, cap, hv, fun h0 => ?_, hcp⟩
  obtain ⟨g, o, ha, hp, hg, h⟩ := h h0
  obtain ⟨hp', he⟩ := hb g hp hg
  exact ⟨g, o, ha, hp', Nat.lt_of_lt_of_le hg hs, fun j hj => ⟨(World.cell?_of_block (w := w) he).trans (h j hj).1, (World.cell?_of_block (w := w) he).trans (h j hj).2⟩⟩
theorem NodeV.to {P P' : Nat → Prop} {w w' : World} {v : Value} {x : Nd} (h : NodeV P w v x) (hs : w.heap.size ≤ w'.heap.size) (hb : ∀ g, P g → g < w.heap.size → P' g ∧ w'.heap[g]? = w.heap[g]?) : NodeV P' w' v x := by
  induction h with
  | mk sp nm tx A K va ao cap c ha hk hn ih =>
    refine .mk sp nm tx A K va ao cap c (ha.to hs hb) (fun h0 => ?_) ih
    obtain ⟨g, o, hao, hp, hg, h⟩ := hk h0
    obtain ⟨hp', he⟩ := hb g hp hg
    exact ⟨g, o, hao, hp', Nat.lt_of_lt_of_le hg hs, fun j hj q hq => (World.cell?_of_block (w := w) he).trans (h j hj q hq)⟩
theorem NodeV.stay {P : Nat → Prop} {w w' : World} {v : Value} {x : Nd} (h : NodeV P w v x) (hb : Below w.heap.size w w') : NodeV P w' v x := h.to hb.size fun g hp hg => ⟨hp, hb.block g hg⟩
theorem AttV.stay {P : Nat → Prop} {w w' : World} {v : Value} {A : List Att} (h : AttV P w v A) (hb : Below w.heap.size w w') : AttV P w' v A := h.to hb.size fun g hp hg => ⟨hp, hb.block g hg⟩
/-- The five cells of an element. -/
structure NV where
  a : Value
  b : Value
  c : Value
  d : Value
  e : Value
def NV.val (x : NV) : Value := .agg #[x.a, x.b, x.c, x.d, x.e]
def NV.at_ (x : NV) (q : Nat) : Value := match q with | 0 => x.a | 1 => x.b | 2 => x.c | 3 => x.d | _ => x.e
def cellsN (L : List NV) : List Value := L.flatMap fun x => [x.a, x.b, x.c, x.d, x.e]
theorem cellsN_len : ∀ L : List NV, (cellsN L).length = L.length * 5
  | [] => rfl
  | x :: L => by
    have ih := cellsN_len L
    have e : cellsN (x :: L) = [x.a, x.b, x.c, x.d, x.e] ++ cellsN L := rfl
    rw [e, List.length_append, ih]
    show 5 + _ = (L.length + 1) * 5
    omega
theorem cellsN_app (L M : List NV) : cellsN (L ++ M) = cellsN L ++ cellsN M := by unfold cellsN; simp
theorem cellsN_get : ∀ (L : List NV) (j : Nat) (h : j < L.length) (q : Nat), q < 5 → (cellsN L)[j * 5 + q]? = some ((L[j]'h).at_ q)
  | x :: L, 0, h, q, hq => by
    have e : cellsN (x :: L) = [x.a, x.b, x.c, x.d, x.e] ++ cellsN L := rfl
    rw [e, Nat.zero_mul, Nat.zero_add, List.getElem?_append_left (by show q < 5; exact hq)]
    match q, hq with
    | 0, _ => rfl
    | 1, _ => rfl
    | 2, _ => rfl
    | 3, _ => rfl
    | 4, _ => rfl
  | x :: L, j + 1, h, q, hq => by
    have ih := cellsN_get L j (by simpa using h) q hq
    have e : cellsN (x :: L) = [x.a, x.b, x.c, x.d, x.e] ++ cellsN L := rfl
    rw [e, List.getElem?_append_right (by show 5 ≤ _; omega), show (j + 1) * 5 + q - ([x.a, x.b, x.c, x.d, x.e] : List Value).length = j * 5 + q by show (j + 1) * 5 + q - 5 = _; omega, ih]
    rfl
/-- An element's value has five cells. -/
theorem NodeV.cells {P : Nat → Prop} {w : World} {v : Value} {x : Nd} (h : NodeV P w v x) : ∃ y : NV, v = y.val ∧ ∃ sp nm tx va ao n cap, y = ⟨.string sp, .string nm, va, .slice ao n cap, .string tx⟩ := by
  cases h
  exact ⟨⟨_, _, _, _, _⟩, rfl, _, _, _, _, _, _, _, rfl⟩
end Go.Proofs.YtincdacickhdkaaDoor
namespace Go.Proofs.YtincdacickhdkaaDoor
open Go Go.RowKit Go.Lib
set_option maxRecDepth 100000

def nmB (b : Nat) : UInt8 := [97, 98, 90, 95, 48, 45, 46, 57].getD (b % 8) 0
def nmR (l : List UInt8) : List UInt8 := 110 :: (l.take 5).map fun c => nmB c.toNat
theorem abZ_at (b : Nat) (h : b % 8 < (⟨#[97, 98, 90, 95, 48, 45, 46, 57]⟩ : ByteArray).size) : (⟨#[97, 98, 90, 95, 48, 45, 46, 57]⟩ : ByteArray)[b % 8]'h = nmB b := by
  unfold nmB
  have h8 : b % 8 < 8 := Nat.mod_lt _ (by decide)
  have key : ∀ i : Fin 8, (⟨#[97, 98, 90, 95, 48, 45, 46, 57]⟩ : ByteArray)[i.val]'i.isLt = ([97, 98, 90, 95, 48, 45, 46, 57] : List UInt8).getD i.val 0 := by decide +kernel
  exact key ⟨b % 8, h8⟩
theorem nm_next {s X : ByteArray} {k : Nat} (hk : k < s.size) (h : bl X = 110 :: (((bl s).take k).map fun c => nmB c.toNat)) : bl (X ++ ⟨#[ub (nmB s[k].toNat).toNat]⟩) = 110 :: (((bl s).take (k + 1)).map fun c => nmB c.toNat) := by
  have hub : ub ((nmB s[k].toNat).toNat : Int) = nmB s[k].toNat := by
    rw [ub_eq (x := ((nmB s[k].toNat).toNat : Int)) (n := (nmB s[k].toNat).toNat) rfl]
    simp
  have hl : k < (bl s).length := by rw [bl_size]; exact hk
  have e : (bl s)[k]'hl = s[k] := rfl
  rw [hub, bl_append, h, List.take_succ_eq_append_getElem hl, List.map_append, e]
  rfl
theorem nm_all {s X : ByteArray} {k : Nat} (h : bl X = 110 :: (((bl s).take k).map fun c => nmB c.toNat)) (hk : ¬ k < s.size ∨ k = 5) (h5 : k ≤ 5) : X = str (nmR (bl s)) := by
  have e : (bl s).take k = (bl s).take 5 := by
    rcases hk with hk | rfl
    · rw [List.take_of_length_le (by rw [bl_size]; omega), List.take_of_length_le (by rw [bl_size]; omega)]
    · rfl
  unfold nmR
  rw [← str_bl_ X, h, e]
set_option maxHeartbeats 4000000 in
theorem name06 (s : ByteArray) (w : World) :
    Calls Tryd.prog 11 #[.string s] w fun e w' => e = .returned (.string (str (nmR (bl s)))) ∧ Below w.heap.size w w' := by
  go_enter Tryd.func11, Tryd.ntmps11
  go_wp2
  go_loopg [3, 4] s.size (fun g out at_ wr => ∃ (k : Nat) (X : ByteArray), g + k = s.size ∧ k ≤ 5 ∧ at_ = .int .i64 k ∧ out = .string X ∧ X.size = k + 1 ∧ Hid (bl X = 110 :: (((bl s).take k).map fun c => nmB c.toNat)) ∧ Below w.heap.size w wr)
  case atStart => exact ⟨0, ⟨#[110]⟩, rfl, by decide, rfl, rfl, by decide, Lib.hid (by simp [bl]), Below.refl _ _⟩
  case round =>
    obtain ⟨k, X, hg, hk5, rfl, rfl, hX, HX, hb⟩ := hrel
    by_cases hk : k < s.size
    · by_cases h5 : k < 5
      · have hk' : (k : Int) < (s.size : Int) := by omega
        have h5' : (k : Int) < 5 := by omega
        have h8 : s[k].toNat % 8 < (⟨#[97, 98, 90, 95, 48, 45, 46, 57]⟩ : ByteArray).size := Nat.mod_lt _ (by decide)
        have CV := conv1 wr ((nmB s[k].toNat).toNat : Int) (by have := (nmB s[k].toNat).toNat_lt; omega)
        rw [← abZ_at s[k].toNat h8] at CV
        have HN := Lib.hid (nm_next hk HX.out)
        rw [← abZ_at s[k].toNat h8] at HN
        generalize ub ((⟨#[97, 98, 90, 95, 48, 45, 46, 57]⟩ : ByteArray)[s[k].toNat % 8]'h8).toNat = c at CV HN
        clear HX
        go_wp2
        go_roundg (s.size - (k + 1))
        case measure => omega
        case rel => exact ⟨k + 1, X ++ ⟨#[c]⟩, by omega, by omega, rfl, rfl, by rw [ByteArray.size_append, hX]; rfl, HN, hb.alloc hb.size _⟩
      · have hk' : (k : Int) < (s.size : Int) := by omega
        have h5' : ¬ (k : Int) < 5 := by omega
        go_wp2
        go_ret
        exact ⟨by rw [← nm_all HX.out (.inr (by omega)) hk5]; rfl, hb⟩
    · have hk' : ¬ (k : Int) < (s.size : Int) := by omega
      go_wp2
      go_ret
      exact ⟨by rw [← nm_all HX.out (.inl hk) hk5]; rfl, hb⟩
theorem nmB_ok (b : Nat) : okN (nmB b) = true := by
  have key : ∀ i : Fin 8, okN (([97, 98, 90, 95, 48, 45, 46, 57] : List UInt8).getD i.val 0) = true := by decide +kernel
  exact key ⟨b % 8, Nat.mod_lt _ (by decide)⟩
theorem nmR_ok (l : List UInt8) : ∀ c ∈ nmR l, okN c = true := by
  intro c hc
  unfold nmR at hc
  rcases List.mem_cons.1 hc with rfl | h
  · decide
  · obtain ⟨x, _, rfl⟩ := List.mem_map.1 h
    exact nmB_ok _
theorem nmR_len (l : List UInt8) : (nmR l).length ≤ 6 := by
  unfold nmR
  rw [List.length_cons, List.length_map, List.length_take]
  omega

/-- An element's value: its attributes and its elements, as they read. -/
theorem parts06 {P : Nat → Prop} {w : World} {v : Value} {x : Nd} (h : NodeV P w v x) : ∃ (sp nm tx : ByteArray) (A : List Att) (K : List Nd) (a1 : Option Addr) (c1 : Nat) (a2 : Option Addr) (c2 : Nat) (c : Nat → Nat → Value),
    v = .agg #[.string sp, .string nm, .slice a1 A.length c1, .slice a2 K.length c2, .string tx] ∧ x = .mk sp nm A K tx ∧
    (0 < A.length → ∃ g o, a1 = some ⟨g, o, none⟩ ∧ P g ∧ g < w.heap.size ∧ ∀ j (h : j < A.length), w.cell? ⟨g, o + j * 2, none⟩ = some (.string (A[j]'h).1) ∧ w.cell? ⟨g, o + j * 2 + 1, none⟩ = some (.string (A[j]'h).2)) ∧
    (0 < K.length → ∃ g o, a2 = some ⟨g, o, none⟩ ∧ P g ∧ g < w.heap.size ∧ ∀ j, j < K.length → ∀ q, q < 5 → w.cell? ⟨g, o + j * 5 + q, none⟩ = some (c j q)) ∧
    (∀ j (h : j < K.length), NodeV P w (.agg #[c j 0, c j 1, c j 2, c j 3, c j 4]) (K[j]'h)) := by
  cases h with
  | mk sp nm tx A K va ao cap c ha hk hn =>
    obtain ⟨a1, c1, rfl, ha, _⟩ := ha
    exact ⟨sp, nm, tx, A, K, a1, c1, ao, cap, c, rfl, rfl, ha, hk, hn⟩
/-- The attributes' row has room for them. -/
theorem cap06 {P : Nat → Prop} {w : World} {v0 v1 v3 v4 : Value} {a1 : Option Addr} {m c1 : Nat} {x : Nd} (h : NodeV P w (.agg #[v0, v1, .slice a1 m c1, v3, v4]) x) : m ≤ c1 := by
  cases h with
  | mk sp nm tx A K va ao cap c ha hk hn =>
    obtain ⟨a, c, hv, _, hc⟩ := ha
    injection hv with _ h2 h3
    omega

end Go.Proofs.YtincdacickhdkaaDoor
