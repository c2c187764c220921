/-
  The walks of New, (*Spaces).Depth, Leave.
  Documents in memory: frames by types, elements as values, the three blocks of a document that is read.
  The walk of galliardref06.name.
  Which elements may be: write's letters, attributes, alone, may, May.
  Operations of a region that asks the tape, where what is known of the world hangs on which of them have come up already.
-/
import Derived.Test.YtincdacickhdkaaGreatDoorW11
import Derived.Deep.RegionWith
import Derived.Test.YtincdacickhdkaaGreatDoorW5
import Derived.Test.YtincdacickhdkaaGreatDoorW6
import Derived.Test.YtincdacickhdkaaGreatDoorW2
import Derived.Deep.LoopGhost
import Derived.Test.YtincdacickhdkaaGreatDoorW3
import Derived.Deep.RegionHeld3
import Derived.BigQuiet
import Derived.Deep.QuietTactic
import Derived.IntWalk
import Derived.OrdersHeld
import Derived.Deep.RegionHeld
namespace Go.Proofs.YtincdacickhdkaaGreatDoor
open Go Go.RowKit
set_option maxRecDepth 100000

set_option maxHeartbeats 1000000 in
theorem pdepth (B b d : Nat) (L : List Tell) (w : World) (hS : Sp B b d L w) :
    Calls Tryz.prog 68 #[.pointer (some ⟨b, 0, none⟩)] w fun r w' => r = .returned (.int .i64 d) ∧ w' = w := by
  obtain ⟨_, k, cap, hb, _⟩ := hS
  have c0 := Lib.cell_of_heap hb 0
  simp only [List.getElem?_toArray, List.getElem?_cons_zero] at c0
  clear hb
  go_enter Tryz.func68, Tryz.ntmps68
  go_wp2
  go_ret
  exact ⟨rfl, rfl⟩
set_option maxHeartbeats 1000000 in
theorem pnew (w : World) :
    Calls Tryz.prog 25 #[] w fun r w' => ∃ b, r = .returned (.pointer (some ⟨b, 0, none⟩)) ∧ Sp w.heap.size b 0 tells0 w' ∧ Below w.heap.size w w' := by
  go_enter Tryz.func25, Tryz.ntmps25
  go_wp2
  go_ret
  refine ⟨w.heap.size + 1, rfl, ⟨by omega, w.heap.size, 2, ?_, ?_⟩, ((Below.refl _ w).alloc (Nat.le_refl _) _).alloc (by simp) _⟩
  · have := heap_alloc_new (w.alloc (.cells #[.string bXml, .string bXmlSpace, .int .i64 0, .string bNone, .string bNone, .int .i64 0] 75)) (.cells #[.int .i64 0, .slice (some ⟨w.heap.size, 0, none⟩) 2 2] 78)
    rw [World.size_alloc] at this
    exact this
  · exact (World.ownsRow_lit w #[.string bXml, .string bXmlSpace, .int .i64 0, .string bNone, .string bNone, .int .i64 0] 2 (Nat.le_refl _) (by decide) rfl).alloc _

set_option maxHeartbeats 4000000 in
theorem pleave (B b d : Nat) (L : List Tell) (m : Nat) (w : World) (hS : Sp B b (d + 1) L w) (hd : d ≤ 100000) (hlen : L.length ≤ 1000) (hm : m ≤ L.length)
    (h1 : ∀ j (h : j < L.length), j < m → (L[j]'h).d ≤ d) (h2 : ∀ j (h : j < L.length), m ≤ j → d < (L[j]'h).d) :
    Calls Tryz.prog 53 #[.pointer (some ⟨b, 0, none⟩)] w fun r w' => r = .returned (.tuple #[]) ∧ Sp B b d (L.take m) w' ∧ Below B w w' ∧ Apart w w' := by
  have hl := hS.lt
  have hbase := hS.base
  obtain ⟨_, k, cap, hb, ho⟩ := hS
  have hbk : b ≠ k := own_block_ne ho hb (by decide)
  have hB1 := (Below.refl w.heap.size w).alloc (Nat.le_refl _) (.cells #[.pointer (some ⟨b, 0, none⟩)] 53)
  have c0 := Lib.cell_of_heap hb 0
  simp only [List.getElem?_toArray, List.getElem?_cons_zero] at c0
  have c0 := (hB1.cell (p := ⟨b, 0, none⟩) hl).trans c0
  have cd : (w.alloc (.cells #[.pointer (some ⟨b, 0, none⟩)] 53)).frozen? ⟨b, 0, none⟩ = false := (hB1.frozen (p := ⟨b, 0, none⟩) hl).trans (Lib.frozen_of_heap hb 0)
  obtain ⟨w1, hw1⟩ : ∃ w1, (w.setCell ⟨b, 0, none⟩ (.int .i64 d)).alloc (.cells #[.pointer (some ⟨b, 0, none⟩)] 53) = w1 := ⟨_, rfl⟩
  have hsz : (w.setCell ⟨b, 0, none⟩ (.int .i64 d)).heap.size = w.heap.size := by simp [World.setCell]
  have hA := (Below.refl (w.setCell ⟨b, 0, none⟩ (.int .i64 d)).heap.size (w.setCell ⟨b, 0, none⟩ (.int .i64 d))).alloc (Nat.le_refl _) (.cells #[.pointer (some ⟨b, 0, none⟩)] 53)
  have hs1 : w1.heap.size = w.heap.size + 1 := by rw [← hw1]; simp [World.setCell]
  have hKQ := heap_alloc_new (w.setCell ⟨b, 0, none⟩ (.int .i64 d)) (.cells #[.pointer (some ⟨b, 0, none⟩)] 53)
  rw [hw1] at hA hKQ
  rw [hsz] at hKQ
  have KB : Hid (Below B w w1) := Lib.hid (((Below.refl B w).setCell (p := ⟨b, 0, none⟩) hbase _).trans (hA.mono (by rw [hsz]; omega)))
  have KA : Hid (Apart w w1) := Lib.hid ((Apart.set hb (.inr rfl) _ _).trans (Apart.of hA))
  have KH := Lib.hid ((hA.block b (by rw [hsz]; exact hl)).trans (heap_put (o := 0) (.int .i64 d) hb))
  have KO := Lib.hid (own_kept (ownsRow_setCell_other ho (a := ⟨b, 0, none⟩) (by intro e; exact hbk (by cases e; rfl)) (.int .i64 d)) hA)
  have KQ := Lib.hid hKQ
  have HW1 := Lib.hid hw1
  have H1 := Lib.hid h1
  have H2 := Lib.hid h2
  have hqb : ¬ w.heap.size = b := by omega
  have e1 : wrap64 (d : Int) = (d : Int) := by unfold wrap64; omega
  clear hB1 hb ho h1 h2 hA hKQ hw1 hsz
  go_enter Tryz.func53, Tryz.ntmps53
  go_wp2_with fail
  rw [HW1.out]
  clear c0 cd HW1
  obtain ⟨q, hq⟩ : ∃ q, w.heap.size = q := ⟨_, rfl⟩
  rw [hq] at KQ hs1 hqb ⊢
  have hKH : w1.heap[b]? = some (.cells #[.int .i64 d, .slice (some ⟨k, 0, none⟩) L.length cap] 78 (0, 0)) := KH.out
  have hkl := (KO.out.lt k rfl).2
  have hkB := (KO.out.lt k rfl).1
  have hqk : q ≠ k := own_block_ne KO.out KQ.out (by decide)
  -- the call, in whatever world that draws alone have led to
  have CD : ∀ wx, Below w1.heap.size w1 wx → Calls Tryz.prog 71 #[.slice (some ⟨k, 0, none⟩) L.length cap, .func (.func 72) #[] #[.pointer (some ⟨q, 0, none⟩)]] wx fun r wy =>
      r = .returned (.slice (some ⟨k, 0, none⟩) m cap) ∧ wy.cell? ⟨q, 0, none⟩ = some (.pointer (some ⟨b, 0, none⟩)) ∧ wy.cell? ⟨b, 1, none⟩ = some (.slice (some ⟨k, 0, none⟩) L.length cap) ∧ wy.frozen? ⟨b, 1, none⟩ = false ∧
      Hid (wy.heap[b]? = some (.cells #[.int .i64 d, .slice (some ⟨k, 0, none⟩) L.length cap] 78 (0, 0)) ∧ wy.ownsRow B 75 3 (.slice (some ⟨k, 0, none⟩) m cap) m (cellsT (L.take m)) ∧ Below B w1 wy ∧ Apart w1 wy) := fun wx hx => by
    have hox := own_kept KO.out hx
    have hbx := (hx.block b (by omega)).trans hKH
    have hqx := (hx.block q (by omega)).trans KQ.out
    refine (pdel B q b k cap d L m wx (Nat.lt_of_lt_of_le (by omega) hx.size) (Nat.lt_of_lt_of_le (by omega) hx.size) hlen hm (by rw [Lib.cell_of_heap hqx]; rfl) (by rw [Lib.cell_of_heap hbx]; rfl) hox H1.out H2.out).mono ?_
    rintro r wy ⟨rfl, ho, hg⟩
    have hby := (hg.block b (Nat.lt_of_lt_of_le (by omega) hx.size) (by intro e; exact hbk (by cases e; rfl))).trans hbx
    have hqy := (hg.block q (Nat.lt_of_lt_of_le (by omega) hx.size) (by intro e; exact hqk (by cases e; rfl))).trans hqx
    refine ⟨rfl, by rw [Lib.cell_of_heap hqy]; rfl, by rw [Lib.cell_of_heap hby]; rfl, Lib.frozen_of_heap hby 1, Lib.hid ⟨hby, ho, (hx.mono (by omega)).grown hg (by have := hx.size; omega) (fun j e => by cases e; exact hkB), (Apart.of hx).trans (Apart.grown hg (fun j e => ?_))⟩⟩
    cases e
    rcases hox.2 with ⟨h', _⟩ | ⟨g', cap', cur, h', _, hg', _⟩
    · simp at h'
    · simp only [Value.slice.injEq, Option.some.injEq, Addr.mk.injEq, and_true, true_and] at h'
      obtain ⟨rfl, rfl⟩ := h'
      exact ⟨_, _, _, hg', .inl rfl⟩
  have HF := Lib.hid (fun wy (h : Hid (wy.heap[b]? = some (.cells #[.int .i64 d, .slice (some ⟨k, 0, none⟩) L.length cap] 78 (0, 0)) ∧ wy.ownsRow B 75 3 (.slice (some ⟨k, 0, none⟩) m cap) m (cellsT (L.take m)) ∧ Below B w1 wy ∧ Apart w1 wy)) =>
    have p := Sp.put (by rw [List.length_take, Nat.min_eq_left hm]) hbase h.out.1 h.out.2.1
    show Sp B b d (L.take m) (wy.setCell ⟨b, 1, none⟩ (.slice (some ⟨k, 0, none⟩) m cap)) ∧ Below B w (wy.setCell ⟨b, 1, none⟩ (.slice (some ⟨k, 0, none⟩) m cap)) ∧ Apart w (wy.setCell ⟨b, 1, none⟩ (.slice (some ⟨k, 0, none⟩) m cap)) from
      ⟨p.1, (KB.out.trans h.out.2.2.1).trans p.2.1, (KA.out.trans h.out.2.2.2).trans p.2.2⟩)
  have CD := Lib.hid CD
  have q0 := Lib.cell_of_heap KQ.out 0
  have b1 := Lib.cell_of_heap hKH 1
  simp only [List.getElem?_toArray, List.getElem?_cons_zero, List.getElem?_cons_succ] at q0 b1
  clear hKH hkl hkB hqk hs1 hlen hm hl hq
  go_region_with (go_at_call 71; refine (CD.out _ (by first | exact Below.refl _ _ | exact (Below.refl _ _).drew)).mono ?_; rintro e wy ⟨rfl, qy, by1, fy, KY⟩)
  all_goals
    go_end0
    exact ⟨rfl, HF.out wy KY⟩

end Go.Proofs.YtincdacickhdkaaGreatDoor
namespace Go.Proofs.YtincdacickhdkaaGreatDoor
open Go Go.RowKit
set_option maxRecDepth 100000

/-! ### Frames -/
/-- What is of none of these types lies as it lay. -/
structure Kept (ts : List TypeId) (w w' : World) : Prop where
  size : w.heap.size ≤ w'.heap.size
  block : ∀ j, j < w.heap.size → (∀ c t z, w.heap[j]? = some (.cells c t z) → t ∉ ts) → w'.heap[j]? = w.heap[j]?
theorem Kept.refl (ts : List TypeId) (w : World) : Kept ts w w := ⟨Nat.le_refl _, fun _ _ _ => rfl⟩
theorem Kept.trans {ts : List TypeId} {a b c : World} (h : Kept ts a b) (k : Kept ts b c) : Kept ts a c :=
  ⟨Nat.le_trans h.size k.size, fun j hj hn => by
    have e := h.block j hj hn
    exact (k.block j (Nat.lt_of_lt_of_le hj h.size) (by rw [e]; exact hn)).trans e⟩
theorem Kept.of {w w' : World} (ts : List TypeId) (h : Below w.heap.size w w') : Kept ts w w' := ⟨h.size, fun j hj _ => h.block j hj⟩
theorem Kept.alloc (ts : List TypeId) (w : World) (o : Obj) : Kept ts w (w.alloc o) := Kept.of ts ((Below.refl _ _).alloc (Nat.le_refl _) _)
theorem Kept.mono {ts us : List TypeId} {w w' : World} (h : Kept ts w w') (hs : ∀ t ∈ ts, t ∈ us) : Kept us w w' :=
  ⟨h.size, fun j hj hn => h.block j hj fun c t z e ht => hn c t z e (hs t ht)⟩
theorem Kept.heap {ts : List TypeId} {w w' : World} (h : Kept ts w w') {b : Nat} {cs : Array Value} {t : TypeId} {z : Nat × Nat} (hb : w.heap[b]? = some (.cells cs t z)) (ht : t ∉ ts) : w'.heap[b]? = some (.cells cs t z) :=
  (h.block b (Array.getElem?_eq_some_iff.1 hb).1 (fun c t' z' e => by rw [hb] at e; cases e; exact ht)).trans hb
theorem Kept.only {ts : List TypeId} {b : Nat} {w w' : World} (h : Only b w w') {cs : Array Value} {t : TypeId} {z : Nat × Nat} (hb : w.heap[b]? = some (.cells cs t z)) (ht : t ∈ ts) : Kept ts w w' :=
  ⟨h.size, fun j hj hn => h.block j hj (fun e => by rw [e] at hn; exact hn cs t z hb ht)⟩
theorem Kept.set {ts : List TypeId} {w : World} {b : Nat} {cs : Array Value} {t : TypeId} {z : Nat × Nat} (h : w.heap[b]? = some (.cells cs t z)) (ht : t ∈ ts) (o : Nat) (v : Value) : Kept ts w (w.setCell ⟨b, o, none⟩ v) :=
  Kept.only (Only.set b o w v) h ht
theorem Kept.apart {w w' : World} (h : Apart w w') : Kept [75, 78] w w' :=
  ⟨h.size, fun j hj hn => h.block j hj (fun ⟨c, t, z, e, ht⟩ => hn c t z e (by rcases ht with h | h <;> simp [h]))⟩
theorem Kept.owns {ts : List TypeId} {w w' : World} (h : Kept ts w w') {base : Nat} {e : TypeId} {z n : Nat} {v : Value} {xs : List Value} (ho : w.ownsRow base e z v n xs) (he : e ∉ ts) : w'.ownsRow base e z v n xs := by
  refine ⟨ho.1, ?_⟩
  rcases ho.2 with hn | ⟨g, cap, cur, hv, hb, hg, r⟩
  · exact .inl hn
  · exact .inr ⟨g, cap, cur, hv, hb, h.heap hg he, r⟩
/-- The types of what a document's reading changes. -/
def docT : List TypeId := [75, 78, 56, 72]
theorem Kept.doc {w w' : World} (h : Apart w w') : Kept docT w w' := (Kept.apart h).mono (by decide)

/-! ### Elements as values -/
/-- A slice of attributes, as it reads. -/
def AttV (P : Nat → Prop) (w : World) (v : Value) (A : List Att) : Prop :=
  ∃ ao cap, v = .slice ao A.length cap ∧ (0 < A.length → ∃ g o, ao = some ⟨g, o, none⟩ ∧ P g ∧ g < w.heap.size ∧
    ∀ j (h : j < A.length), w.cell? ⟨g, o + j * 2, none⟩ = some (.string (A[j]'h).1) ∧ w.cell? ⟨g, o + j * 2 + 1, none⟩ = some (.string (A[j]'h).2)) ∧ A.length ≤ cap
/-- An element's value; its blocks are those that P says. -/
inductive NodeV (P : Nat → Prop) (w : World) : Value → Nd → Prop where
  | mk (sp nm tx : ByteArray) (A : List Att) (K : List Nd) (va : Value) (ao : Option Addr) (cap : Nat) (c : Nat → Nat → Value) (ha : AttV P w va A)
    (hk : 0 < K.length → ∃ g o, ao = some ⟨g, o, none⟩ ∧ P g ∧ g < w.heap.size ∧ ∀ j, j < K.length → ∀ q, q < 5 → w.cell? ⟨g, o + j * 5 + q, none⟩ = some (c j q))
    (hn : ∀ j (h : j < K.length), NodeV P w (.agg #[c j 0, c j 1, c j 2, c j 3, c j 4]) (K[j]'h)) :
    NodeV P w (.agg #[.string sp, .string nm, va, .slice ao K.length cap, .string tx]) (.mk sp nm A K tx)
theorem AttV.to {P P' : Nat → Prop} {w w' : World} {v : Value} {A : List Att} (h : AttV P w v A) (hs : w.heap.size ≤ w'.heap.size) (hb : ∀ g, P g → g < w.heap.size → P' g ∧ w'.heap[g]? = w.heap[g]?) : AttV P' w' v A := by
  obtain ⟨ao, cap, hv, h, hcp⟩ := h
  refine ⟨ao, cap, hv, fun h0 => ?_, hcp⟩
  obtain ⟨g, o, ha, hp, hg, h⟩ := h h0
  obtain ⟨hp', he⟩ := hb g hp hg
  exact ⟨g, o, ha, hp', Nat.lt_of_lt_of_le hg hs, fun j hj => ⟨(World.cell?_of_block (w := w) he).trans (h j hj).1, (World.cell?_of_block (w := w) he).trans (h j hj).2⟩⟩
theorem NodeV.to {P P' : Nat → Prop} {w w' : World} {v : Value} {x : Nd} (h : NodeV P w v x) (hs : w.heap.size ≤ w'.heap.size) (hb : ∀ g, P g → g < w.heap.size → P' g ∧ w'.heap[g]? = w.heap[g]?) : NodeV P' w' v x := by
  induction h with
  | mk sp nm tx A K va ao cap c ha hk hn ih =>
    refine .mk sp nm tx A K va ao cap c (ha.to hs hb) (fun h0 => ?_) ih
    obtain ⟨g, o, hao, hp, hg, h⟩ := hk h0
    obtain ⟨hp', he⟩ := hb g hp hg
    exact ⟨g, o, hao, hp', Nat.lt_of_lt_of_le hg hs, fun j hj q hq => (World.cell?_of_block (w := w) he).trans (h j hj q hq)⟩
theorem NodeV.stay {P : Nat → Prop} {w w' : World} {v : Value} {x : Nd} (h : NodeV P w v x) (hb : Below w.heap.size w w') : NodeV P w' v x := h.to hb.size fun g hp hg => ⟨hp, hb.block g hg⟩
theorem AttV.stay {P : Nat → Prop} {w w' : World} {v : Value} {A : List Att} (h : AttV P w v A) (hb : Below w.heap.size w w') : AttV P w' v A := h.to hb.size fun g hp hg => ⟨hp, hb.block g hg⟩
/-- The five cells of an element. -/
structure NV where
  a : Value
  b : Value
  c : Value
  d : Value
  e : Value
def NV.val (x : NV) : Value := .agg #[x.a, x.b, x.c, x.d, x.e]
def NV.at_ (x : NV) (q : Nat) : Value := match q with | 0 => x.a | 1 => x.b | 2 => x.c | 3 => x.d | _ => x.e
def cellsN (L : List NV) : List Value := L.flatMap fun x => [x.a, x.b, x.c, x.d, x.e]
theorem cellsN_len : ∀ L : List NV, (cellsN L).length = L.length * 5
  | [] => rfl
  | x :: L => by
    have ih := cellsN_len L
    have e : cellsN (x :: L) = [x.a, x.b, x.c, x.d, x.e] ++ cellsN L := rfl
    rw [e, List.length_append, ih]
    show 5 + _ = (L.length + 1) * 5
    omega
theorem cellsN_app (L M : List NV) : cellsN (L ++ M) = cellsN L ++ cellsN M := by unfold cellsN; simp
theorem cellsN_get : ∀ (L : List NV) (j : Nat) (h : j < L.length) (q : Nat), q < 5 → (cellsN L)[j * 5 + q]? = some ((L[j]'h).at_ q)
  | x :: L, 0, h, q, hq => by
    have e : cellsN (x :: L) = [x.a, x.b, x.c, x.d, x.e] ++ cellsN L := rfl
    rw [e, Nat.zero_mul, Nat.zero_add, List.getElem?_append_left (by show q < 5; exact hq)]
    match q, hq with
    | 0, _ => rfl
    | 1, _ => rfl
    | 2, _ => rfl
    | 3, _ => rfl
    | 4, _ => rfl
  | x :: L, j + 1, h, q, hq => by
    have ih := cellsN_get L j (by simpa using h) q hq
    have e : cellsN (x :: L) = [x.a, x.b, x.c, x.d, x.e] ++ cellsN L := rfl
    rw [e, List.getElem?_append_right (by show 5 ≤ _; omega), show (j + 1) * 5 + q - ([x.a, x.b, x.c, x.d, x.e] : List Value).length = j * 5 + q by show (j + 1) * 5 + q - 5 = _; omega, ih]
    rfl
/-- An element's value has five cells. -/
theorem NodeV.cells {P : Nat → Prop} {w : World} {v : Value} {x : Nd} (h : NodeV P w v x) : ∃ y : NV, v = y.val ∧ ∃ sp nm tx va ao n cap, y = ⟨.string sp, .string nm, va, .slice ao n cap, .string tx⟩ := by
  cases h
  exact ⟨⟨_, _, _, _, _⟩, rfl, _, _, _, _, _, _, _, rfl⟩
end Go.Proofs.YtincdacickhdkaaGreatDoor
namespace Go.Proofs.YtincdacickhdkaaGreatDoor
open Go Go.RowKit Go.Lib
set_option maxRecDepth 100000

def nmB (b : Nat) : UInt8 := [97, 98, 90, 95, 48, 45, 46, 57].getD (b % 8) 0
def nmR (l : List UInt8) : List UInt8 := 110 :: (l.take 5).map fun c => nmB c.toNat
theorem abZ_at (b : Nat) (h : b % 8 < (⟨#[97, 98, 90, 95, 48, 45, 46, 57]⟩ : ByteArray).size) : (⟨#[97, 98, 90, 95, 48, 45, 46, 57]⟩ : ByteArray)[b % 8]'h = nmB b := by
  unfold nmB
  have h8 : b % 8 < 8 := Nat.mod_lt _ (by decide)
  have key : ∀ i : Fin 8, (⟨#[97, 98, 90, 95, 48, 45, 46, 57]⟩ : ByteArray)[i.val]'i.isLt = ([97, 98, 90, 95, 48, 45, 46, 57] : List UInt8).getD i.val 0 := by decide +kernel
  exact key ⟨b % 8, h8⟩
theorem nm_next {s X : ByteArray} {k : Nat} (hk : k < s.size) (h : bl X = 110 :: (((bl s).take k).map fun c => nmB c.toNat)) : bl (X ++ ⟨#[ub (nmB s[k].toNat).toNat]⟩) = 110 :: (((bl s).take (k + 1)).map fun c => nmB c.toNat) := by
  have hub : ub ((nmB s[k].toNat).toNat : Int) = nmB s[k].toNat := by
    rw [ub_eq (x := ((nmB s[k].toNat).toNat : Int)) (n := (nmB s[k].toNat).toNat) rfl]
    simp
  have hl : k < (bl s).length := by rw [bl_size]; exact hk
  have e : (bl s)[k]'hl = s[k] := rfl
  rw [hub, bl_append, h, List.take_succ_eq_append_getElem hl, List.map_append, e]
  rfl
theorem nm_all {s X : ByteArray} {k : Nat} (h : bl X = 110 :: (((bl s).take k).map fun c => nmB c.toNat)) (hk : ¬ k < s.size ∨ k = 5) (h5 : k ≤ 5) : X = str (nmR (bl s)) := by
  have e : (bl s).take k = (bl s).take 5 := by
    rcases hk with hk | rfl
    · rw [List.take_of_length_le (by rw [bl_size]; omega), List.take_of_length_le (by rw [bl_size]; omega)]
    · rfl
  unfold nmR
  rw [← str_bl_ X, h, e]
set_option maxHeartbeats 4000000 in
theorem name06 (s : ByteArray) (w : World) :
    Calls Tryz.prog 19 #[.string s] w fun e w' => e = .returned (.string (str (nmR (bl s)))) ∧ Below w.heap.size w w' := by
  go_enter Tryz.func19, Tryz.ntmps19
  go_wp2
  go_loopg [3, 4] s.size (fun g out at_ wr => ∃ (k : Nat) (X : ByteArray), g + k = s.size ∧ k ≤ 5 ∧ at_ = .int .i64 k ∧ out = .string X ∧ X.size = k + 1 ∧ Hid (bl X = 110 :: (((bl s).take k).map fun c => nmB c.toNat)) ∧ Below w.heap.size w wr)
  case atStart => exact ⟨0, ⟨#[110]⟩, rfl, by decide, rfl, rfl, by decide, Lib.hid (by simp [bl]), Below.refl _ _⟩
  case round =>
    obtain ⟨k, X, hg, hk5, rfl, rfl, hX, HX, hb⟩ := hrel
    by_cases hk : k < s.size
    · by_cases h5 : k < 5
      · have hk' : (k : Int) < (s.size : Int) := by omega
        have h5' : (k : Int) < 5 := by omega
        have h8 : s[k].toNat % 8 < (⟨#[97, 98, 90, 95, 48, 45, 46, 57]⟩ : ByteArray).size := Nat.mod_lt _ (by decide)
        have CV := conv1 wr ((nmB s[k].toNat).toNat : Int) (by have := (nmB s[k].toNat).toNat_lt; omega)
        rw [← abZ_at s[k].toNat h8] at CV
        have HN := Lib.hid (nm_next hk HX.out)
        rw [← abZ_at s[k].toNat h8] at HN
        generalize ub ((⟨#[97, 98, 90, 95, 48, 45, 46, 57]⟩ : ByteArray)[s[k].toNat % 8]'h8).toNat = c at CV HN
        clear HX
        go_wp2
        go_roundg (s.size - (k + 1))
        case measure => omega
        case rel => exact ⟨k + 1, X ++ ⟨#[c]⟩, by omega, by omega, rfl, rfl, by rw [ByteArray.size_append, hX]; rfl, HN, hb.alloc hb.size _⟩
      · have hk' : (k : Int) < (s.size : Int) := by omega
        have h5' : ¬ (k : Int) < 5 := by omega
        go_wp2
        go_ret
        exact ⟨by rw [← nm_all HX.out (.inr (by omega)) hk5]; rfl, hb⟩
    · have hk' : ¬ (k : Int) < (s.size : Int) := by omega
      go_wp2
      go_ret
      exact ⟨by rw [← nm_all HX.out (.inl hk) hk5]; rfl, hb⟩
theorem nmB_ok (b : Nat) : okN (nmB b) = true := by
  have key : ∀ i : Fin 8, okN (([97, 98, 90, 95, 48, 45, 46, 57] : List UInt8).getD i.val 0) = true := by decide +kernel
  exact key ⟨b % 8, Nat.mod_lt _ (by decide)⟩
theorem nmR_ok (l : List UInt8) : ∀ c ∈ nmR l, okN c = true := by
  intro c hc
  unfold nmR at hc
  rcases List.mem_cons.1 hc with rfl | h
  · decide
  · obtain ⟨x, _, rfl⟩ := List.mem_map.1 h
    exact nmB_ok _
theorem nmR_len (l : List UInt8) : (nmR l).length ≤ 6 := by
  unfold nmR
  rw [List.length_cons, List.length_map, List.length_take]
  omega

/-- An element's value: its attributes and its elements, as they read. -/
theorem parts06 {P : Nat → Prop} {w : World} {v : Value} {x : Nd} (h : NodeV P w v x) : ∃ (sp nm tx : ByteArray) (A : List Att) (K : List Nd) (a1 : Option Addr) (c1 : Nat) (a2 : Option Addr) (c2 : Nat) (c : Nat → Nat → Value),
    v = .agg #[.string sp, .string nm, .slice a1 A.length c1, .slice a2 K.length c2, .string tx] ∧ x = .mk sp nm A K tx ∧
    (0 < A.length → ∃ g o, a1 = some ⟨g, o, none⟩ ∧ P g ∧ g < w.heap.size ∧ ∀ j (h : j < A.length), w.cell? ⟨g, o + j * 2, none⟩ = some (.string (A[j]'h).1) ∧ w.cell? ⟨g, o + j * 2 + 1, none⟩ = some (.string (A[j]'h).2)) ∧
    (0 < K.length → ∃ g o, a2 = some ⟨g, o, none⟩ ∧ P g ∧ g < w.heap.size ∧ ∀ j, j < K.length → ∀ q, q < 5 → w.cell? ⟨g, o + j * 5 + q, none⟩ = some (c j q)) ∧
    (∀ j (h : j < K.length), NodeV P w (.agg #[c j 0, c j 1, c j 2, c j 3, c j 4]) (K[j]'h)) := by
  cases h with
  | mk sp nm tx A K va ao cap c ha hk hn =>
    obtain ⟨a1, c1, rfl, ha, _⟩ := ha
    exact ⟨sp, nm, tx, A, K, a1, c1, ao, cap, c, rfl, rfl, ha, hk, hn⟩
/-- The attributes' row has room for them. -/
theorem cap06 {P : Nat → Prop} {w : World} {v0 v1 v3 v4 : Value} {a1 : Option Addr} {m c1 : Nat} {x : Nd} (h : NodeV P w (.agg #[v0, v1, .slice a1 m c1, v3, v4]) x) : m ≤ c1 := by
  cases h with
  | mk sp nm tx A K va ao cap c ha hk hn =>
    obtain ⟨a, c, hv, _, hc⟩ := ha
    injection hv with _ h2 h3
    omega

end Go.Proofs.YtincdacickhdkaaGreatDoor
namespace Go.Proofs.YtincdacickhdkaaGreatDoor
open Go Go.RowKit Go.Lib
set_option maxRecDepth 100000

def lettersB (s : ByteArray) : Bool := decide (textL (bl s) < 0)
/-- Attributes, each by what is known of those ahead. -/
def attB (R : List Att) (a : Att) : Bool := !(R.any fun b => decide (b.1 = a.1)) && (!(decide (a.1 = bXmlns)) && (nameL (bl a.1) && lettersB a.2))
def attsF : List Att → List Att → Bool
  | _, [] => true
  | R, a :: A => attB R a && attsF (R ++ [a]) A
def attsB (A : List Att) : Bool := decide (A.length ≤ 15) && attsF [] A
def aloneB (s n t : ByteArray) (A : List Att) (k : Nat) : Bool := nameL (bl n) && (lettersB s && (attsB A && (lettersB t && (decide (trimmed t = t) && (decide (t.size = 0) || decide (k = 0))))))
/-- Texts that are not too long for a machine. -/
def SmA (A : List Att) : Prop := ∀ a ∈ A, a.1.size ≤ 1000000 ∧ a.2.size ≤ 1000000
theorem wletters (s : ByteArray) (w : World) (hs : s.size ≤ 9223372036854775807) (hT : Tabs w) :
    Calls Tryz.prog 61 #[.string s] w fun e w' => e = .returned (.bool (lettersB s)) ∧ Below w.heap.size w w' := by
  have C := Lib.hid (ctext s w hs hT)
  unfold lettersB
  generalize textL (bl s) = A at C ⊢
  clear hT
  go_enter Tryz.func61, Tryz.ntmps61
  go_wp2_with fail
  refine C.out.mono ?_
  rintro e w1 ⟨rfl, hb⟩
  have HB := Lib.hid hb
  clear hb C
  go_wp2_with fail
  go_ret
  exact ⟨rfl, HB.out⟩
/-- The function that attributes hands on. -/
theorem acl (q : Nat) (an n v : ByteArray) (w : World) (hq : q < w.heap.size) (cq : w.cell? ⟨q, 0, none⟩ = some (.string an)) :
    Calls Tryz.prog 84 #[.agg #[.string n, .string v], .pointer (some ⟨q, 0, none⟩)] w fun r w' => r = .returned (.bool (decide (n = an))) ∧ Below w.heap.size w w' := by
  have hB1 := (Below.refl w.heap.size w).alloc (Nat.le_refl _) (.cells #[.string n, .string v] 48)
  have cq1 := (hB1.cell (p := ⟨q, 0, none⟩) hq).trans cq
  have H := Lib.hid hB1
  have HE := Lib.hid (tl_beq n an)
  clear cq hB1
  go_enter Tryz.func84, Tryz.ntmps84
  go_wp2
  go_ret
  exact ⟨by rw [← HE.out]; rfl, H.out⟩
set_option maxHeartbeats 2000000 in
/-- slices.IndexFunc: the first attribute of that name. -/
theorem aidx (q g o cap : Nat) (an : ByteArray) (A : List Att) (m : Nat) (x : Int) (w : World) (hx : x = if m = A.length then -1 else (m : Int)) (hq : q < w.heap.size) (hg : g < w.heap.size) (hlen : A.length ≤ 1000) (hm : m ≤ A.length)
    (cq : w.cell? ⟨q, 0, none⟩ = some (.string an))
    (hc : ∀ j (h : j < A.length), w.cell? ⟨g, o + j * 2, none⟩ = some (.string (A[j]'h).1) ∧ w.cell? ⟨g, o + j * 2 + 1, none⟩ = some (.string (A[j]'h).2))
    (h1 : ∀ j (h : j < A.length), j < m → ¬ (A[j]'h).1 = an) (h2 : ∀ j (h : j < A.length), j = m → (A[j]'h).1 = an) :
    Calls Tryz.prog 98 #[.slice (some ⟨g, o, none⟩) A.length cap, .func (.func 84) #[] #[.pointer (some ⟨q, 0, none⟩)]] w fun r w' => r = .returned (.int .i64 x) ∧ Below w.heap.size w w' := by
  have HX := Lib.hid hx
  clear hx
  have HC := Lib.hid hc
  have H1 := Lib.hid h1
  have H2 := Lib.hid h2
  have HQ := Lib.hid cq
  clear hc h1 h2 cq
  go_enter Tryz.func98, Tryz.ntmps98
  go_wp2
  go_loopg [8] (m + 1) (fun g i wr => ∃ j : Nat, g + j = m + 1 ∧ j ≤ m ∧ i = .int .i64 j ∧ Below w.heap.size w wr)
  case atStart => exact ⟨0, rfl, Nat.zero_le _, rfl, Below.refl _ _⟩
  case round =>
    obtain ⟨j, hgm, hj, rfl, hBw⟩ := hrel
    by_cases hlt : j < A.length
    · obtain ⟨b0, b1⟩ := HC.out j hlt
      have c0 := (hBw.cell (p := ⟨g, o + j * 2, none⟩) hg).trans b0
      have c1 := (hBw.cell (p := ⟨g, o + j * 2 + 1, none⟩) hg).trans b1
      clear b0 b1
      have C := fun n v => acl q an n v wr (Nat.lt_of_lt_of_le hq hBw.size) ((hBw.cell (p := ⟨q, 0, none⟩) hq).trans HQ.out)
      have hltz : (j : Int) < (A.length : Int) := by omega
      have HW := Lib.hid hBw
      clear hBw
      by_cases hjm : j < m
      · have hd := H1.out j hlt hjm
        obtain ⟨⟨tn, tv⟩, ht⟩ : ∃ t, A[j]'hlt = t := ⟨_, rfl⟩
        rw [ht] at c0 c1 hd
        have C := C tn tv
        rw [decide_eq_false hd] at C
        have C := Lib.hid C
        have hf := Lib.hid (show (m + 1 - (j + 1)) + (j + 1) = m + 1 by omega)
        have hjm := Lib.hid hjm
        clear ht hd hlt hj
        go_wp2_with fail
        refine C.out.mono ?_
        rintro r w2 ⟨rfl, hB2⟩
        have HW2 := Lib.hid (HW.out.trans (hB2.mono HW.out.size))
        clear hB2 C
        go_wp2
        go_roundg (m + 1 - (j + 1))
        case measure => have := hjm.out; omega
        case rel => exact ⟨j + 1, hf.out, hjm.out, by simp, HW2.out⟩
      · have hd := H2.out j hlt (by omega)
        obtain ⟨⟨tn, tv⟩, ht⟩ : ∃ t, A[j]'hlt = t := ⟨_, rfl⟩
        rw [ht] at c0 c1 hd
        have C := C tn tv
        rw [decide_eq_true hd] at C
        have C := Lib.hid C
        obtain rfl : j = m := by omega
        have hR := Lib.hid (show x = j by rw [HX.out, if_neg (by omega)])
        clear ht hd hlt hj hjm
        go_wp2_with fail
        refine C.out.mono ?_
        rintro r w2 ⟨rfl, hB2⟩
        have HW2 := Lib.hid (HW.out.trans (hB2.mono HW.out.size))
        clear hB2 C
        go_wp2
        go_ret
        exact ⟨by rw [hR.out]; rfl, HW2.out⟩
    · obtain rfl : j = A.length := by omega
      have hR := Lib.hid (show x = -1 by rw [HX.out, if_pos (by omega)])
      have HW := Lib.hid hBw
      clear hBw hj hgm
      go_wp2
      go_ret
      exact ⟨by rw [hR.out]; rfl, HW.out⟩
/-- slices.ContainsFunc: whether there is one of that name. -/
theorem acont (q g o cap : Nat) (an : ByteArray) (A : List Att) (w : World) (hq : q < w.heap.size) (hg : g < w.heap.size) (hlen : A.length ≤ 1000)
    (cq : w.cell? ⟨q, 0, none⟩ = some (.string an))
    (hc : ∀ j (h : j < A.length), w.cell? ⟨g, o + j * 2, none⟩ = some (.string (A[j]'h).1) ∧ w.cell? ⟨g, o + j * 2 + 1, none⟩ = some (.string (A[j]'h).2)) :
    Calls Tryz.prog 83 #[.slice (some ⟨g, o, none⟩) A.length cap, .func (.func 84) #[] #[.pointer (some ⟨q, 0, none⟩)]] w fun r w' => r = .returned (.bool (A.any fun b => decide (b.1 = an))) ∧ Below w.heap.size w w' := by
  obtain ⟨m, hm1, hm2, hm3⟩ := first_non (fun j => decide (¬ (A.getD j (⟨#[]⟩, ⟨#[]⟩)).1 = an)) A.length
  have hget : ∀ j (h : j < A.length), A.getD j (⟨#[]⟩, ⟨#[]⟩) = A[j]'h := fun j h => by simp [List.getD, h]
  have C := Lib.hid (aidx q g o cap an A m _ w rfl hq hg hlen hm1 cq hc (fun j h hj => by have := hm2 j hj; rw [hget j h] at this; exact of_decide_eq_true this) (fun j h e => by
    have := hm3 (by omega)
    rw [← e, hget j h] at this
    exact Decidable.not_not.1 (of_decide_eq_false this)))
  have hany : (A.any fun b => decide (b.1 = an)) = decide ((0 : Int) ≤ if m = A.length then -1 else (m : Int)) := by
    by_cases hml : m = A.length
    · rw [if_pos hml, decide_eq_false (by decide), List.any_eq_false]
      intro b hb
      obtain ⟨j, hj, rfl⟩ := List.mem_iff_getElem.1 hb
      have := hm2 j (by omega)
      rw [hget j hj] at this
      simpa using this
    · rw [if_neg hml, decide_eq_true (by omega), List.any_eq_true]
      have hml' : m < A.length := by omega
      have := hm3 hml'
      rw [hget m hml'] at this
      exact ⟨_, List.getElem_mem hml', by simpa using this⟩
  rw [hany]
  generalize (if m = A.length then -1 else (m : Int)) = x at C ⊢
  clear hany hget hm1 hm2 hm3 hc cq
  go_enter Tryz.func83, Tryz.ntmps83
  go_wp2_with fail
  refine C.out.mono ?_
  rintro e w1 ⟨rfl, hb⟩
  have HB := Lib.hid hb
  clear hb C
  go_wp2_with fail
  go_ret
  exact ⟨rfl, HB.out⟩

theorem xmlns_list : bXmlns.toList = [120, 109, 108, 110, 115] := by rw [Lib.toList_data]; rfl
theorem attsF_at (A : List Att) (k : Nat) (h : k < A.length) : attsF (A.take k) (A.drop k) = (attB (A.take k) (A[k]'h) && attsF (A.take (k + 1)) (A.drop (k + 1))) := by
  rw [List.drop_eq_getElem_cons h, attsF, List.take_succ_eq_append_getElem h]
set_option maxHeartbeats 8000000 in
theorem wattrs (P : Nat → Prop) (va : Value) (A : List Att) (w : World) (hA : AttV P w va A) (hs : SmA A) (hT : Tabs w) :
    Calls Tryz.prog 62 #[va] w fun e w' => e = .returned (.bool (attsB A)) ∧ Below w.heap.size w w' := by
  obtain ⟨ao, cap, rfl, hc, hcp⟩ := hA
  by_cases h15 : A.length ≤ 15
  · have h15' : decide ((15 : Int) < (A.length : Int)) = false := decide_eq_false (by omega)
    have hB : attsB A = attsF (A.take 0) (A.drop 0) := by unfold attsB; rw [decide_eq_true h15]; rfl
    have HB0 := Lib.hid hB
    have HC := Lib.hid hc
    have HS := Lib.hid hs
    have HT := Lib.hid hT
    clear hc hs hT hB
    go_enter Tryz.func62, Tryz.ntmps62
    go_wp2
    go_loopg [3, 4, 5, 11] A.length (fun g i bx ag ix wr => ∃ k : Nat, g + k = A.length ∧ ix = .int .i64 k ∧ Hid (attsB A = attsF (A.take k) (A.drop k)) ∧ Below w.heap.size w wr)
    case atStart => exact ⟨0, rfl, rfl, HB0, Below.refl _ _⟩
    case round =>
      obtain ⟨k, hg, rfl, HF, hbr⟩ := hrel
      by_cases hk : k < A.length
      · have hk' : (k : Int) < (A.length : Int) := by omega
        obtain ⟨g0, o0, rfl, _, hg0, hcell⟩ := HC.out (by omega)
        obtain ⟨⟨an, av⟩, hav⟩ : ∃ y, A[k]'hk = y := ⟨_, rfl⟩
        have hsz := HS.out (an, av) (by rw [← hav]; exact List.getElem_mem hk)
        have hF := attsF_at A k hk
        rw [hav, ← HF.out] at hF
        have a0 := (hbr.cell (p := ⟨g0, o0 + k * 2, none⟩) hg0).trans (hcell k hk).1
        have a1 := (hbr.cell (p := ⟨g0, o0 + k * 2 + 1, none⟩) hg0).trans (hcell k hk).2
        rw [hav] at a0 a1
        have hbx := heap_alloc_new wr (.cells #[.string an, .string av] 48)
        have hA1 := hbr.alloc hbr.size (.cells #[.string an, .string av] 48)
        obtain ⟨w1, hw1⟩ : ∃ w1, wr.alloc (.cells #[.string an, .string av] 48) = w1 := ⟨_, rfl⟩
        have hlt : wr.heap.size < w1.heap.size := by rw [← hw1]; simp
        obtain ⟨q, hq⟩ : ∃ q, wr.heap.size = q := ⟨_, rfl⟩
        rw [hw1] at hbx hA1
        rw [hq] at hbx hlt
        have b0 := Lib.cell_of_heap hbx 0
        simp only [List.getElem?_toArray, List.getElem?_cons_zero] at b0
        have htk : (A.take k).length = k := by rw [List.length_take]; omega
        have CF := acont q g0 o0 cap an (A.take k) w1 hlt (Nat.lt_of_lt_of_le hg0 hA1.size) (by omega) b0 (fun j hj => by
          have hj' : j < A.length := by omega
          have e : (A.take k)[j]'hj = A[j]'hj' := by simp
          rw [e]
          exact ⟨(hA1.cell (p := ⟨g0, o0 + j * 2, none⟩) hg0).trans (hcell j hj').1, (hA1.cell (p := ⟨g0, o0 + j * 2 + 1, none⟩) hg0).trans (hcell j hj').2⟩)
        rw [htk] at CF
        have CF := Lib.hid CF
        have HBX := Lib.hid hbx
        have HA1 := Lib.hid hA1
        have HLT := Lib.hid hlt
        have HFE := Lib.hid hF
        have HSZ := Lib.hid hsz
        have hkc : (k : Int) ≤ (cap : Int) := by omega
        have hk15 : (k : Int) < 15 := by omega
        clear hF hav hsz htk hbr hcell hbx hA1 hlt b0
        go_wp2_with fail
        refine CF.out.mono ?_
        rintro e w2 ⟨rfl, hb2⟩
        have hX2 := (hb2.block q HLT.out).trans HBX.out
        have HA2 := Lib.hid (HA1.out.trans (hb2.mono HA1.out.size))
        have hT2 := HT.out.below HA2.out
        have HLT2 := Lib.hid (Nat.lt_of_lt_of_le HLT.out hb2.size)
        have d0 := Lib.cell_of_heap hX2 0
        have d1 := Lib.cell_of_heap hX2 1
        simp only [List.getElem?_toArray, List.getElem?_cons_zero, List.getElem?_cons_succ] at d0 d1
        have CN := cname an w2 (by have := HSZ.out.1; omega) hT2
        have HT2 := Lib.hid hT2
        have HX2 := Lib.hid hX2
        clear hb2 CF hX2 hT2 a0 a1
        cases hany : (A.take k).any fun b => decide (b.1 = an) with
        | true =>
          have HR := Lib.hid (show attsB A = false by rw [HFE.out]; unfold attB; rw [hany]; rfl)
          clear hany CN
          go_wp2_with fail
          go_ret
          exact ⟨by rw [HR.out]; rfl, HA2.out⟩
        | false =>
          by_cases hx : an = bXmlns
          · have HR := Lib.hid (show attsB A = false by rw [HFE.out]; unfold attB; rw [decide_eq_true hx]; simp)
            have q1 : (an.toList == bXmlns.toList) = true := by rw [hx]; simp
            rw [xmlns_list] at q1
            clear hany CN hx
            go_wp2_with fail
            go_ret
            exact ⟨by rw [HR.out]; rfl, HA2.out⟩
          · have q1 : (an.toList == bXmlns.toList) = false := beq_eq_false_iff_ne.2 fun e => hx (tl_inj e)
            rw [xmlns_list] at q1
            cases hn : nameL (bl an) with
            | false =>
              rw [hn] at CN
              have HR := Lib.hid (show attsB A = false by rw [HFE.out]; unfold attB; rw [hn]; simp)
              have CN := Lib.hid CN
              clear hany hn hx
              go_wp2_with fail
              refine CN.out.mono ?_
              rintro e w3 ⟨rfl, hb3⟩
              have HA3 := Lib.hid (HA2.out.trans (hb3.mono HA2.out.size))
              clear hb3 CN
              go_wp2_with fail
              go_ret
              exact ⟨by rw [HR.out]; rfl, HA3.out⟩
            | true =>
              rw [hn] at CN
              have CN := Lib.hid CN
              have HAT := Lib.hid (show attB (A.take k) (an, av) = lettersB av by unfold attB; rw [hany, decide_eq_false hx, hn]; rfl)
              clear hany hn hx
              go_wp2_with fail
              refine CN.out.mono ?_
              rintro e w3 ⟨rfl, hb3⟩
              have HA3 := Lib.hid (HA2.out.trans (hb3.mono HA2.out.size))
              have hX3 := (hb3.block q HLT2.out).trans HX2.out
              have e1 := Lib.cell_of_heap hX3 1
              simp only [List.getElem?_toArray, List.getElem?_cons_zero, List.getElem?_cons_succ] at e1
              have CL := wletters av w3 (by have := HSZ.out.2; omega) (HT2.out.below hb3)
              clear hb3 CN d0 d1 hX3
              cases hl : lettersB av with
              | false =>
                rw [hl] at CL
                have CL := Lib.hid CL
                have HR := Lib.hid (show attsB A = false by rw [HFE.out, HAT.out, hl]; rfl)
                clear hl
                go_wp2_with fail
                refine CL.out.mono ?_
                rintro e w4 ⟨rfl, hb4⟩
                have HA4 := Lib.hid (HA3.out.trans (hb4.mono HA3.out.size))
                clear hb4 CL e1
                go_wp2_with fail
                go_ret
                exact ⟨by rw [HR.out]; rfl, HA4.out⟩
              | true =>
                rw [hl] at CL
                have CL := Lib.hid CL
                have HR := Lib.hid (show attsB A = attsF (A.take (k + 1)) (A.drop (k + 1)) by rw [HFE.out, HAT.out, hl]; rfl)
                clear hl
                go_wp2_with fail
                refine CL.out.mono ?_
                rintro e w4 ⟨rfl, hb4⟩
                have HA4 := Lib.hid (HA3.out.trans (hb4.mono HA3.out.size))
                clear hb4 CL e1
                go_wp2_with fail
                go_roundg (A.length - (k + 1))
                case measure => omega
                case rel => exact ⟨k + 1, by omega, by go_num, HR, HA4.out⟩
      · have hk' : ¬ (k : Int) < (A.length : Int) := by omega
        have HR := Lib.hid (show attsB A = true by rw [HF.out, List.drop_of_length_le (by omega)]; cases A.take k <;> rfl)
        have HBR := Lib.hid hbr
        clear hbr
        go_wp2_with fail
        go_ret
        exact ⟨by rw [HR.out]; rfl, HBR.out⟩
  · have h15' : (15 : Int) < (A.length : Int) := by omega
    have HR := Lib.hid (show attsB A = false by unfold attsB; rw [decide_eq_false h15]; rfl)
    clear hc hs hT
    go_enter Tryz.func62, Tryz.ntmps62
    go_wp2_with fail
    go_ret
    exact ⟨by rw [HR.out]; rfl, Below.refl _ _⟩


end Go.Proofs.YtincdacickhdkaaGreatDoor
namespace Go.Proofs.YtincdacickhdkaaGreatDoor
open Go

section
variable {P : Program} {ops : Array Oper} {Q : Exit → Act → World → Prop} {md : Region.Mode} {S : Array Bool → World → Prop}
/-- All orders from here on; S holds, behind each operation, of those that have come up and of the world. -/
def AnyG (P : Program) (md : Region.Mode) (ops : Array Oper) (Q : Exit → Act → World → Prop) (S : Array Bool → World → Prop) : Nat → Array Bool → Act → World → Prop
  | 0, L, a, w => Region.ready md ops L = [] ∧ Q .normal a w
  | f + 1, L, a, w => (Region.ready md ops L = [] → Q .normal a w) ∧ ∀ i ∈ Region.ready md ops L, wpOp P ops Q i (fun a' w' => S (L.setIfInBounds i true) w' ∧ AnyG P md ops Q S f (L.setIfInBounds i true) a' w') a w
theorem AnyG.any {f : Nat} : ∀ {L : Array Bool} {a : Act} {w : World}, AnyG P md ops Q S f L a w → wpAny P md ops Q f L a w := by
  induction f with
  | zero => exact id
  | succ f ih => exact fun h => ⟨h.1, fun i hi => wpOp_mono (fun _ _ k => ih k.2) (h.2 i hi)⟩
/-- Nobody who may come ahead of number i touches what it reads or leaves. -/
def FreeG (md : Region.Mode) (ops : Array Oper) (i : Nat) (oi : Oper) (L : Array Bool) : Prop :=
  ∀ j oj, ops[j]? = some oj → j ≠ i → L.getD j true = false → (∀ e ∈ oj.after, Region.binds md e = true → e.on ≠ i) → oi.apart ops oj = true
theorem FreeG.next {i j : Nat} {oi : Oper} {L : Array Bool} (h : FreeG md ops i oi L) (hj : L.getD j true = false) : FreeG md ops i oi (L.setIfInBounds j true) := fun k ok hk hki hun =>
  h k ok hk hki (if e : j = k then e ▸ hj else (getD_set_ne true e).symm.trans hun)
theorem unlisted_getD {L : Array Bool} {i : Nat} (h : L.getD i true = false) : L.getD i false = false := by
  by_cases hl : i < L.size
  · simpa [hl] using h
  · simp [hl]
/-- Two that may come up do not wait for one another. -/
theorem ready_apart {L : Array Bool} {i j : Nat} {oj : Oper} (hi : i ∈ Region.ready md ops L) (hj : j ∈ Region.ready md ops L) (ho : ops[j]? = some oj) : ∀ e ∈ oj.after, Region.binds md e = true → e.on ≠ i := by
  rintro e he hb rfl
  obtain ⟨_, o, ho', hall⟩ := mem_ready.1 hj
  obtain rfl : oj = o := by rw [ho] at ho'; exact Option.some.inj ho'
  have h := hall e he hb
  rw [unlisted_getD (mem_ready.1 hi).1] at h
  cases h
/-- What is asked of an operation that is taken first: R is what is known of those that have come up while it has not. -/
structure TakeG (P : Program) (md : Region.Mode) (ops : Array Oper) (Q : Exit → Act → World → Prop) (S : Array Bool → World → Prop) (R : Array Bool → Prop) (i : Nat) (oi : Oper) (v : Value) : Prop where
  at_ : ops[i]? = some oi
  sel : ∀ (j : Nat) (o : Oper) cs b, ops[j]? = some o → o.op ≠ .select cs b
  panic : ∀ c a w, Q (.panic c) (a.put oi.dst v) w → Q (.panic c) a w
  keeps : ∀ L j, R L → i ∈ Region.ready md ops L → j ∈ Region.ready md ops L → j ≠ i → R (L.setIfInBounds j true)
  less : ∀ L w, S (L.setIfInBounds i true) w → S L w
theorem TakeG.first {R : Array Bool → Prop} {i : Nat} {oi : Oper} {v : Value} (T : TakeG P md ops Q S R i oi v) : ∀ (f : Nat) (L : Array Bool) (a : Act) (w : World), FreeG md ops i oi L → i ∈ Region.ready md ops L → R L →
    YieldsIf P ops (fun w => ∃ L, R L ∧ S L w) oi v a → S (L.setIfInBounds i true) w → AnyG P md ops Q S f (L.setIfInBounds i true) (a.put oi.dst v) w → AnyG P md ops Q S (f + 1) L a w := by
  intro f
  induction f with
  | zero =>
    refine fun L a w _ hr hR hy hS H => ⟨fun e => absurd hr (by rw [e]; exact List.not_mem_nil), fun j hj => ?_⟩
    rcases Decidable.em (j = i) with rfl | hne
    · exact hy.wpOp T.at_ ⟨L, hR, T.less _ _ hS⟩ ⟨hS, H⟩
    · exact absurd (ready_mono hj hne) (by rw [H.1]; exact List.not_mem_nil)
  | succ f ih =>
    refine fun L a w hf hr hR hy hS H => ⟨fun e => absurd hr (by rw [e]; exact List.not_mem_nil), fun j hj => ?_⟩
    rcases Decidable.em (j = i) with rfl | hne
    · exact hy.wpOp T.at_ ⟨L, hR, T.less _ _ hS⟩ ⟨hS, H⟩
    obtain ⟨hun, oj, hoj, _⟩ := mem_ready.1 hj
    have hcomm : (L.setIfInBounds i true).setIfInBounds j true = (L.setIfInBounds j true).setIfInBounds i true := (Array.setIfInBounds_comm _ _ hne).symm
    have hstep := wpOp_putIf hoj (hf j oj hoj hne hun (ready_apart hr hj hoj)) (fun cs b => T.sel i oi cs b T.at_) (fun cs b => T.sel j oj cs b hoj) T.panic hy (H.2 j (ready_mono hj hne))
    refine wpOp_mono (fun a' w' k => ?_) hstep
    obtain ⟨ky, kS, kH⟩ := k
    rw [hcomm] at kS kH
    exact ⟨T.less _ _ kS, ih _ a' w' (hf.next hun) (ready_mono hr fun e => hne e.symm) (T.keeps L j hR hr hj hne) ky kS kH⟩

/-! ### cells that are loaded (C), and one that is stored behind operation s (T) -/
def SG (C T : World → Prop) (s : Nat) : Array Bool → World → Prop := fun L w => C w ∧ (L.getD s false = false → T w)
theorem SG.set {C T : World → Prop} {s i : Nat} {L : Array Bool} {w : World} (h : i ≠ s) : SG C T s (L.setIfInBounds i true) w ↔ SG C T s L w := by
  unfold SG; rw [getD_set_ne false h]
theorem SG.take {C T : World → Prop} {s i : Nat} {oi : Oper} {v : Value} {f : Nat} {L : Array Bool} {a : Act} {w : World} (hi : ops[i]? = some oi) (hs : Region.noSelect ops = true) (hf : Region.free md ops L i = true) (hr : (Region.ready md ops L).contains i = true)
    (hQ : ∀ c a w, Q (.panic c) (a.put oi.dst v) w → Q (.panic c) a w) (his : i ≠ s) (hw : Region.wanted oi (yielded ops a.tmps) = true) (hy : ∀ w, C w → (execOp a.eval oi).run P w = .ok (.value v) w) (hS : SG C T s L w)
    (h : AnyG P md ops Q (SG C T s) f (L.setIfInBounds i true) (a.put oi.dst v) w) : AnyG P md ops Q (SG C T s) (f + 1) L a w :=
  TakeG.first (R := fun _ => True) ⟨hi, Region.noSelect_spec hs, hQ, fun _ _ _ _ _ _ => trivial, fun L' w' k => (SG.set (C := C) (T := T) (L := L') (w := w') his).1 k⟩ f L a w (fun j oj => Region.free_spec hi hf j oj) (by simpa using hr) trivial
    (.inl ⟨hw, fun w hw => hy w (by obtain ⟨_, _, k, _⟩ := hw; exact k)⟩) ((SG.set his).2 hS) h
theorem SG.takeT {C T : World → Prop} {s i : Nat} {oi os : Oper} {v : Value} {f : Nat} {L : Array Bool} {a : Act} {w : World} (hi : ops[i]? = some oi) (hs : Region.noSelect ops = true) (hf : Region.free md ops L i = true) (hr : (Region.ready md ops L).contains i = true)
    (hQ : ∀ c a w, Q (.panic c) (a.put oi.dst v) w → Q (.panic c) a w) (his : i ≠ s) (hw : Region.wanted oi (yielded ops a.tmps) = true) (hos : ops[s]? = some os) (hwait : (os.after.any fun e => Region.binds md e && e.on == i) = true) (hL : L.getD s false = false)
    (hy : ∀ w, C w → T w → (execOp a.eval oi).run P w = .ok (.value v) w) (hS : SG C T s L w)
    (h : AnyG P md ops Q (SG C T s) f (L.setIfInBounds i true) (a.put oi.dst v) w) : AnyG P md ops Q (SG C T s) (f + 1) L a w :=
  TakeG.first (R := fun L => L.getD s false = false) ⟨hi, Region.noSelect_spec hs, hQ, fun L j hR hri hrj hne => by
      have hjs : j ≠ s := by
        rintro rfl
        rw [Array.any_eq_true'] at hwait
        obtain ⟨e, he, hb⟩ := hwait
        rw [Bool.and_eq_true, beq_iff_eq] at hb
        exact ready_apart hri hrj hos e he hb.1 hb.2
      rw [getD_set_ne false hjs]; exact hR, fun L' w' k => (SG.set (C := C) (T := T) (L := L') (w := w') his).1 k⟩ f L a w (fun j oj => Region.free_spec hi hf j oj) (by simpa using hr) hL
    (.inl ⟨hw, fun w hw => by obtain ⟨L', hR, hC, hT⟩ := hw; exact hy w hC (hT hR)⟩) ((SG.set his).2 hS) h
theorem no_listed {L : Array Bool} {s : Nat} (h : L.getD s false = true) (k : L.getD s false = false) : False := by rw [h] at k; cases k
/-- Each of those that may come up comes up next. -/
def AllG (P : Program) (md : Region.Mode) (ops : Array Oper) (Q : Exit → Act → World → Prop) (S : Array Bool → World → Prop) (f : Nat) (L : Array Bool) (a : Act) (w : World) (rs : List Nat) : Prop :=
  ∀ i ∈ rs, wpOp P ops Q i (fun a' w' => S (L.setIfInBounds i true) w' ∧ AnyG P md ops Q S f (L.setIfInBounds i true) a' w') a w
theorem AllG.nil {f : Nat} {L : Array Bool} {a : Act} {w : World} : AllG P md ops Q S f L a w [] := fun _ h => (by cases h)
theorem AllG.cons {f : Nat} {L : Array Bool} {a : Act} {w : World} {i : Nat} {o : Oper} {rs : List Nat} (ho : ops[i]? = some o)
    (h : ∀ K' : Act → World → Prop, Shut (∀ a w, S (L.setIfInBounds i true) w → (S (L.setIfInBounds i true) w → AnyG P md ops Q S f (L.setIfInBounds i true) a w) → K' a w) → if Region.wanted o (yielded ops a.tmps) = true then Oper.wp P o a w K' Q else K' (a.put o.dst undef) w)
    (hs : AllG P md ops Q S f L a w rs) : AllG P md ops Q S f L a w (i :: rs) := fun j hj => by
  rcases List.mem_cons.1 hj with rfl | hj
  · exact wpOp_step ho (fun K' hK => h K' (fun a w hS hW => hK a w ⟨hS, hW hS⟩))
  · exact hs j hj
theorem AllG.ready {rs : List Nat} {f : Nat} {L : Array Bool} {a : Act} {w : World} (hr : Region.ready md ops L = rs) (hne : rs ≠ []) (h : AllG P md ops Q S f L a w rs) : AnyG P md ops Q S (f + 1) L a w :=
  ⟨fun e => absurd (hr.symm.trans e) hne, fun i hi => h i (hr ▸ hi)⟩
theorem AnyG.done {L : Array Bool} {a : Act} {w : World} (hr : Region.ready md ops L = []) (h : Q .normal a w) : ∀ f, AnyG P md ops Q S f L a w
  | 0 => ⟨hr, h⟩
  | _ + 1 => ⟨fun _ => h, fun i hi => absurd hi (by rw [hr]; exact List.not_mem_nil)⟩
theorem AnyG.begin {id : Nat} {a : Act} {w : World} (hm : P.follows .mixedOrders = true) (hS : S (Array.replicate ops.size false) w.drew) (h : S (Array.replicate ops.size false) w.drew → AnyG P .any ops Q S ops.size (Array.replicate ops.size false) a w.drew) : (Code.region id ops true).wp P Q a w :=
  wp_region_any hm (h hS).any
end

end Go.Proofs.YtincdacickhdkaaGreatDoor
