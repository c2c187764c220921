/-
  The walk of galliardref06.Near.
-/
import Derived.Test.YtnlkpdodacphkaaGreatDoorA18
import Derived.Test.YtnlkpdodacphkaaGreatDoorA13
import Derived.Test.YtnlkpdodacphkaaGreatDoorA7
import Derived.Deep.RegionLaw
import Derived.Deep.RegionWith
import Derived.Test.YtnlkpdodacphkaaGreatDoorA14
import Derived.Deep.RegionHeld3
import Derived.Deep.AppendLies
import Derived.Deep.CutBlock
import Derived.Deep.CutRange
import Derived.Deep.DeepCutAuto
import Derived.IntWalk
namespace Go.Proofs.YtnlkpdodacphkaaGreatDoor
open Go Go.RowKit Go.Lib
set_option maxRecDepth 100000

theorem node06 : (Tryz.prog.info? 25).map (fun i => (i.zero, i.size, i.bytes)) = some (some (.agg #[.string ⟨#[]⟩, .string ⟨#[]⟩, .slice none 0 0, .slice none 0 0, .string ⟨#[]⟩]), 5, 96) := by kernel_rfl
theorem form06 {P : Nat → Prop} {w : World} {v : Value} {x : Nd} (h : NodeV P w v x) : ∃ sp nm tx a1 n1 c1 a2 n2 c2, v = .agg #[.string sp, .string nm, .slice a1 n1 c1, .slice a2 n2 c2, .string tx] := by
  cases h with
  | mk sp nm tx A K va ao cap c ha hk hn =>
    obtain ⟨a1, c1, rfl, _⟩ := ha
    exact ⟨_, _, _, _, _, _, _, _, _, rfl⟩
/-- The default spaces of Near. -/
def spB (k : Nat) : ByteArray := match k with | 0 => ⟨#[]⟩ | 1 => ⟨#[117]⟩ | 2 => ⟨#[118, 38, 60]⟩ | _ => ⟨#[119]⟩
theorem spB_cell (k : Nat) (h : k < 4) : (#[Value.string ⟨#[]⟩, .string ⟨#[117]⟩, .string ⟨#[118, 38, 60]⟩, .string ⟨#[119]⟩] : Array Value)[k]? = some (.string (spB k)) := by
  match k, h with
  | 0, _ => rfl
  | 1, _ => rfl
  | 2, _ => rfl
  | 3, _ => rfl
theorem spB_lets (k : Nat) (h : k < 4) : Lets (bl (spB k)) ∧ (bl (spB k)).length ≤ 3 := by
  match k, h with
  | 0, _ => exact ⟨asc_lets _ (by decide), by decide⟩
  | 1, _ => exact ⟨asc_lets _ (by decide), by decide⟩
  | 2, _ => exact ⟨asc_lets _ (by decide), by decide⟩
  | 3, _ => exact ⟨asc_lets _ (by decide), by decide⟩
theorem convC06 (w : World) (q : Nat) (x : Int) (hx : 0 ≤ x ∧ x < 256) (h : w.cell? ⟨q, 0, none⟩ = some (.int .u8 x)) :
    (convert 58 9 (.slice (some ⟨q, 0, none⟩) 1 1)).run Tryz.prog w = .ok (.string ⟨#[ub x]⟩) w :=
  run_convert_bytes_back _ 58 9 5 ⟨q, 0, none⟩ 1 [ub x] Tryz.underlying58 Tryz.underlying5 Tryz.underlying9 (fun j hj => by
    obtain rfl : j = 0 := by simpa using hj
    rw [show Addr.add ⟨q, 0, none⟩ 0 = ⟨q, 0, none⟩ from rfl, h]
    show some (Value.int .u8 x) = _
    rw [← ub_toNat hx]; simp [ub_toNat hx])
theorem bcell06 {W w1 : World} (hb : Below W.heap.size W w1) : (∀ b o, b < W.heap.size → w1.cell? ⟨b, o, none⟩ = W.cell? ⟨b, o, none⟩) ∧ (∀ b o, b < W.heap.size → w1.frozen? ⟨b, o, none⟩ = W.frozen? ⟨b, o, none⟩) :=
  ⟨fun b o h => hb.cell (p := ⟨b, o, none⟩) h, fun b o h => hb.frozen (p := ⟨b, o, none⟩) h⟩
theorem grown_cell06 {wr wA w7 : World} {row : Option Nat} (hg : wA.grownBy w7 row) (hA : Below wr.heap.size wr wA) {b : Nat} (hb : b < wr.heap.size) (hne : some b ≠ row) (o : Nat) : w7.cell? ⟨b, o, none⟩ = wr.cell? ⟨b, o, none⟩ ∧ w7.frozen? ⟨b, o, none⟩ = wr.frozen? ⟨b, o, none⟩ :=
  ⟨(hg.cell_far ⟨b, o, none⟩ (Nat.lt_of_lt_of_le hb hA.size) hne).trans (hA.cell (p := ⟨b, o, none⟩) hb), (hg.frozen_far ⟨b, o, none⟩ (Nat.lt_of_lt_of_le hb hA.size) hne).trans (hA.frozen (p := ⟨b, o, none⟩) hb)⟩
theorem ub_of (k : Nat) {x : Int} (hx : 65 + (k : Int) = x) : ub x = UInt8.ofNat (65 + k) := by
  subst hx
  unfold ub
  congr 1
theorem att06 {an NM : ByteArray} {V : List UInt8} {k : Nat} {x : Int} (hNM : str (nmR (bl an)) = NM) (hk : k < 3) (hx : 65 + (k : Int) = x) (hV : Lets V) (hl : V.length ≤ 9) :
    AttB (NM ++ ⟨#[ub x]⟩, str V) ∧ ∃ r, bl ((NM ++ ⟨#[ub x]⟩, str V) : Att).1 = r ++ [UInt8.ofNat (65 + k)] := by
  have e : bl (NM ++ ⟨#[ub x]⟩) = nmR (bl an) ++ [UInt8.ofNat (65 + k)] := by
    rw [← hNM, bl_append, str_bl, ub_of k hx]; rfl
  refine ⟨⟨⟨_, by rw [e]; rfl⟩, fun c hc => ?_, ?_, by rw [str_bl]; exact hV, by rw [str_bl]; exact hl, fun h0 => ?_⟩, _, e⟩
  · rw [e] at hc
    rcases List.mem_append.1 hc with h | h
    · exact nmR_ok _ c h
    · rw [List.mem_singleton.1 h]
      match k, hk with
      | 0, _ => decide
      | 1, _ => decide
      | 2, _ => decide
  · rw [e, List.length_append]
    have := nmR_len (bl an)
    show _ + 1 ≤ 7
    omega
  · rw [e] at h0
    have h1 : UInt8.ofNat (65 + k) = 111 := by simpa using congrArg List.getLast? h0
    match k, hk with
    | 0, _ => exact absurd h1 (by decide)
    | 1, _ => exact absurd h1 (by decide)
    | 2, _ => exact absurd h1 (by decide)
theorem alloc_lt06 (w : World) (o : Obj) : w.heap.size < (w.alloc o).heap.size := by simp
theorem alloc_cell06 (w : World) (x : Int) (t : TypeId) : (w.alloc (.cells #[.int .u8 x] t)).cell? ⟨w.heap.size, 0, none⟩ = some (.int .u8 x) := by rw [Lib.cell_of_heap (heap_alloc_new w _)]; rfl
/-- What is known behind a call within Near's first loop. -/
def NrC (wc : World) (Q g o : Nat) (vx vn : Value) (an av : ByteArray) (wx w' : World) : Prop :=
  w'.cell? ⟨Q, 2, none⟩ = some vx ∧ w'.cell? ⟨Q + 1, 2, none⟩ = some vn ∧ w'.frozen? ⟨Q + 1, 2, none⟩ = false ∧ w'.cell? ⟨g, o, none⟩ = some (.string an) ∧ w'.cell? ⟨g, o + 1, none⟩ = some (.string av) ∧
  Q < w'.heap.size ∧ Q + 1 < w'.heap.size ∧ g < w'.heap.size ∧ wx.heap.size ≤ w'.heap.size ∧ Hid (Below wc.heap.size wc w') ∧ Hid (∀ q v, q < wx.heap.size → wx.cell? ⟨q, 0, none⟩ = some v → w'.cell? ⟨q, 0, none⟩ = some v)
theorem nrC {wc wx w' : World} {Q g o : Nat} {vx vn : Value} {an av : ByteArray} (h0 : wc.cell? ⟨Q, 2, none⟩ = some vx) (h1 : wc.cell? ⟨Q + 1, 2, none⟩ = some vn) (h2 : wc.frozen? ⟨Q + 1, 2, none⟩ = false) (h3 : wc.cell? ⟨g, o, none⟩ = some (.string an)) (h4 : wc.cell? ⟨g, o + 1, none⟩ = some (.string av))
    (hQ : Q + 1 < wc.heap.size) (hg : g < wc.heap.size) (hx : Below wc.heap.size wc wx) (hb : Below wx.heap.size wx w') : NrC wc Q g o vx vn an av wx w' := by
  have h := hx.trans (hb.mono hx.size)
  have hs := h.size
  exact ⟨(h.cell (p := ⟨Q, 2, none⟩) (by show Q < _; omega)).trans h0, (h.cell (p := ⟨Q + 1, 2, none⟩) hQ).trans h1, (h.frozen (p := ⟨Q + 1, 2, none⟩) hQ).trans h2, (h.cell (p := ⟨g, o, none⟩) hg).trans h3, (h.cell (p := ⟨g, o + 1, none⟩) hg).trans h4,
    by omega, by omega, by omega, hb.size, Lib.hid h, Lib.hid fun q v hq hv => (hb.cell (p := ⟨q, 0, none⟩) hq).trans hv⟩
theorem Below.call {w wx wy : World} (h2 : Hid (Below wx.heap.size wx wy)) (h : Below w.heap.size w wx) : Below w.heap.size w wy := h.trans (h2.out.mono h.size)
theorem Below.allocs {w wx : World} (h : Below w.heap.size w wx) (o : Obj) : Below w.heap.size w (wx.alloc o) := h.alloc h.size o
/-- What Near's first loop keeps: x in block Q, n in block Q + 1, its attributes in a row of its own. -/
structure NrA (Q : Nat) (w : World) (X : Array Value) (sp nm : ByteArray) (A : List Att) (v : Value) (wr : World) : Prop where
  hx : wr.heap[Q]? = some (.cells X 25 (0, 0))
  hn : wr.heap[Q + 1]? = some (.cells #[.string sp, .string nm, v, .slice none 0 0, .string ⟨#[]⟩] 25 (0, 0))
  below : Below Q w wr
  own : wr.ownsRow (Q + 2) 56 2 v A.length (cellsA A)
  ok : ∀ a ∈ A, AttB a
  last : ∀ i (h : i < A.length), ∃ r, bl (A[i]'h).1 = r ++ [UInt8.ofNat (65 + i)]
  few : A.length ≤ 3
theorem NrA.pair {Q : Nat} {w : World} {X : Array Value} {sp nm : ByteArray} {A : List Att} {v : Value} {wr : World} (h : NrA Q w X sp nm A v wr) : A.Pairwise (fun x y => (bl x.1 == bl y.1) = false) := by
  rw [List.pairwise_iff_getElem]
  intro i j hi hj hij
  obtain ⟨r, hr⟩ := h.last i hi
  obtain ⟨s, hs⟩ := h.last j hj
  rw [hr, hs]
  rw [beq_eq_false_iff_ne]
  intro e
  have h1 := List.append_inj' e rfl
  have h2 := (List.cons.inj h1.2).1
  have h3 := congrArg UInt8.toNat h2
  have hf := h.few
  rw [toNat_byte (by omega), toNat_byte (by omega)] at h3
  omega
theorem NrA.step {Q : Nat} {w : World} {X : Array Value} {sp nm : ByteArray} {A : List Att} {v : Value} {wr wx : World} (h : NrA Q w X sp nm A v wr) (hb : Below wr.heap.size wr wx) : NrA Q w X sp nm A v wx := by
  have h1 := (Array.getElem?_eq_some_iff.1 h.hx).1
  have h2 := (Array.getElem?_eq_some_iff.1 h.hn).1
  exact ⟨(hb.block _ h1).trans h.hx, (hb.block _ h2).trans h.hn, h.below.trans (hb.mono (by omega)), own_kept h.own hb, h.ok, h.last, h.few⟩
/-- One attribute more. -/
theorem NrA.app {Q : Nat} {w : World} {X : Array Value} {sp nm : ByteArray} {A : List Att} {v : Value} {wr wA w7 : World} (h : NrA Q w X sp nm A v wr) (hA : Below wr.heap.size wr wA) {a : Att} {g n cap : Nat} (hn : A.length = n) (h3 : n < 3)
    (ha : AttB a) (hl : ∃ r, bl a.1 = r ++ [UInt8.ofNat (65 + n)]) (hown : w7.ownsRow (Q + 2) 56 2 (.slice (some ⟨g, 0, none⟩) (n + 1) cap) (n + 1) (cellsA A ++ [.string a.1, .string a.2])) (hg : wA.grownBy w7 v.ownBlock) :
    NrA Q w X sp nm (A ++ [a]) (.slice (some ⟨g, 0, none⟩) (n + 1) cap) (w7.setCell ⟨Q + 1, 2, none⟩ (.slice (some ⟨g, 0, none⟩) (n + 1) cap)) := by
  have hA' := h.step hA
  have h1 := (Array.getElem?_eq_some_iff.1 hA'.hx).1
  have h2 := (Array.getElem?_eq_some_iff.1 hA'.hn).1
  have hv : ∀ k, v.ownBlock = some k → Q + 2 ≤ k := fun k e => (h.own.lt k e).1
  have hx7 := (hg.block Q h1 (fun e => by have := hv Q e.symm; omega)).trans hA'.hx
  have hn7 := (hg.block (Q + 1) h2 (fun e => by have := hv (Q + 1) e.symm; omega)).trans hA'.hn
  have hlen : (A ++ [a]).length = n + 1 := by rw [List.length_append, hn]; rfl
  refine ⟨(Below.heap_setCell _ _ _ _ (by show Q ≠ Q + 1; omega)).trans hx7, ?_, ?_, ?_, ?_, ?_, by omega⟩
  · rw [heap_put _ hn7]; rfl
  · exact ((hA'.below).grown hg (by omega) (fun k e => by have := hv k e; omega)).setCell (p := ⟨Q + 1, 2, none⟩) (by show Q ≤ Q + 1; omega) _
  · rw [hlen, cellsA_app]
    exact ownsRow_setCell_other hown (a := ⟨Q + 1, 2, none⟩) (fun e => by have := (hown.lt (Q + 1) e).1; omega) _
  · intro x hx
    rcases List.mem_append.1 hx with h' | h'
    · exact h.ok x h'
    · rw [List.mem_singleton.1 h']; exact ha
  · intro i hi
    by_cases hiA : i < A.length
    · rw [List.getElem_append_left hiA]; exact h.last i hiA
    · have hin : i = n := by omega
      subst hin
      rw [List.getElem_append_right (by omega)]
      simp only [List.getElem_singleton]
      exact hl
/-- What Near leaves. -/
def NearGives (d : Nat) (w : World) (e : Ending) (w' : World) : Prop := ∃ v y, e = .returned v ∧ NodeV (fun g => w.heap.size ≤ g) w' v y ∧ NearB (d + 1) y ∧ Below w.heap.size w w'
def NearSpec (d : Nat) : Prop := ∀ (D : Int) (v : Value) (x : Nd) (w : World), D ≤ d + 1 → -1000 ≤ D → D ≤ 1000 → NodeV (fun _ => True) w v x → Calls Tryz.prog 8 #[v, .int .i64 D] w (NearGives d w)

theorem own_cases06 {w : World} {base : Nat} {e : TypeId} {z n N ck : Nat} {ak : Option Addr} {xs : List Value} (h : w.ownsRow base e z (.slice ak n ck) N xs) : (ak = none ∧ n = 0) ∨ ∃ g, ak = some ⟨g, 0, none⟩ := by
  rcases h.2 with ⟨hv, _⟩ | ⟨g, cap, cur, hv, _⟩
  · injection hv with h1 h2 h3; exact .inl ⟨h1, h2⟩
  · injection hv with h1 h2 h3; exact .inr ⟨g, h1⟩
theorem own_only06 {w w' : World} {base b : Nat} {e : TypeId} {z n : Nat} {v : Value} {xs : List Value} (h : w.ownsRow base e z v n xs) (hs : Only b w w') (hb : b < base) : w'.ownsRow base e z v n xs := by
  refine ⟨h.1, ?_⟩
  rcases h.2 with hn | ⟨g, cap, cur, hv, hg, hh, r⟩
  · exact .inl hn
  · exact .inr ⟨g, cap, cur, hv, hg, (hs.block g (Array.getElem?_eq_some_iff.1 hh).1 (by omega)).trans hh, r⟩
theorem own_cap06 {w : World} {base : Nat} {e : TypeId} {z n cap : Nat} {ao : Option Addr} {xs : List Value} (h : w.ownsRow base e z (.slice ao n cap) n xs) : n ≤ cap := by
  rcases h.2 with ⟨hv, h0⟩ | ⟨g, cap', cur, hv, hb, hg, hnc, _⟩
  · omega
  · injection hv with _ _ h3; omega
theorem att_own06 {P : Nat → Prop} {w : World} {base n cap : Nat} {ao : Option Addr} {A : List Att} (h : w.ownsRow base 56 2 (.slice ao n cap) n (cellsA A)) (hn : A.length = n) (hP : ∀ g, base ≤ g → P g) : AttV P w (.slice ao n cap) A := by
  subst hn
  refine ⟨ao, cap, rfl, fun h0 => ?_, own_cap06 h⟩
  rcases own_cases06 h with ⟨_, h0'⟩ | ⟨g, rfl⟩
  · omega
  obtain ⟨cur, hg, hb⟩ := own_cell h
  refine ⟨g, 0, rfl, hP g hb, (Array.getElem?_eq_some_iff.1 hg).1, fun j hj => ⟨?_, ?_⟩⟩
  · rw [Nat.zero_add, h.cellAt (j * 2) (by omega)]
    exact cellsA_get A j hj 0 (by decide)
  · rw [Nat.zero_add, h.cellAt (j * 2 + 1) (by omega)]
    exact cellsA_get A j hj 1 (by decide)
theorem near_leaf {d Q : Nat} {w w6 : World} {sp nm : ByteArray} {A : List Att} {V : List UInt8} {va : Option Addr} {k vc : Nat} (hQ : w.heap.size = Q) (hk : A.length = k)
    (hN : w6.heap[Q + 1]? = some (.cells #[.string sp, .string nm, .slice va k vc, .slice none 0 0, .string (str (trimL V))] 25 (0, 0))) (hB : Below Q w w6) (hO : w6.ownsRow (Q + 2) 56 2 (.slice va k vc) A.length (cellsA A))
    (hnm : (∃ r, bl nm = 110 :: r) ∧ (∀ c ∈ bl nm, okN c = true) ∧ (bl nm).length ≤ 6) (hsp : Lets (bl sp) ∧ (bl sp).length ≤ 3) (hA : ∀ a ∈ A, AttB a) (hAd : A.Pairwise (fun x y => (bl x.1 == bl y.1) = false)) (hAl : A.length ≤ 3) (hV : Lets V) (hVl : V.length ≤ 12) :
    NearGives d w (.returned (.agg #[.string sp, .string nm, .slice va k vc, .slice none 0 0, .string (str (trimL V))])) (st5 w6 (Q + 1) (.string sp) (.string nm) (.slice va k vc) (.slice none 0 0) (.string (str (trimL V)))) := by
  have hs := st5_onlyR w6 (Q + 1) (.string sp) (.string nm) (.slice va k vc) (.slice none 0 0) (.string (str (trimL V)))
  have hb : Below Q w6 (st5 w6 (Q + 1) (.string sp) (.string nm) (.slice va k vc) (.slice none 0 0) (.string (str (trimL V)))) := ⟨hs.os, hs.tape, hs.output, hs.size, fun j hj => hs.block j (by have := (Array.getElem?_eq_some_iff.1 hN).1; omega) (by omega)⟩
  rw [hk] at hO
  refine ⟨_, .mk sp nm A [] (str (trimL V)), rfl, .mk sp nm (str (trimL V)) A [] _ none 0 (fun _ _ => undef) (att_own06 (own_only06 hO hs (by omega)) hk (fun g h => by omega)) (fun h => absurd h (Nat.lt_irrefl _)) (fun j h => absurd h (Nat.not_lt_zero j)),
    .mk d sp nm (str (trimL V)) A [] hnm.1 hnm.2.1 hnm.2.2 hsp.1 hsp.2 (by rw [str_bl]; exact trim_lets hV) (by rw [str_bl]; have := trimL_len V; omega) (by rw [str_bl]; exact trim_trim V) hA hAd hAl (.inl rfl) (Nat.zero_le _) (fun k h => by cases h), by rw [hQ]; exact hB.trans hb⟩
theorem nrFin {Q k : Nat} {w : World} {X : Array Value} {sp nm : ByteArray} {A : List Att} {v : Value} {wr wA w7 : World} {an NM : ByteArray} {V : List UInt8} {x : Int} {g cap : Nat} (h : NrA Q w X sp nm A v wr) (hA : Below wr.heap.size wr wA) (hn : A.length = k) (hk : k < 3)
    (hNM : str (nmR (bl an)) = NM) (hx : 65 + (k : Int) = x) (hV : Lets V ∧ V.length ≤ 9)
    (hown : w7.ownsRow (Q + 2) 56 2 (.slice (some ⟨g, 0, none⟩) (k + 1) cap) (k + 1) (cellsA A ++ [.string (NM ++ ⟨#[ub x]⟩), .string (str V)])) (hg : wA.grownBy w7 v.ownBlock) :
    ∃ A' v', A'.length = k + 1 ∧ NrA Q w X sp nm A' v' (w7.setCell ⟨Q + 1, 2, none⟩ (.slice (some ⟨g, 0, none⟩) (k + 1) cap)) := by
  have hh := att06 hNM hk hx hV.1 hV.2
  exact ⟨_, _, by rw [List.length_append, hn]; rfl, h.app hA hn hk hh.1 hh.2 hown hg⟩
theorem nr7 {wc wA w7 : World} {row : Option Nat} {Q g o : Nat} {vx vn : Value} {an av : ByteArray} (hg : wA.grownBy w7 row) (hA : Below wc.heap.size wc wA) (h0 : Q < wc.heap.size) (h1 : Q + 1 < wc.heap.size) (h2 : g < wc.heap.size)
    (n0 : some Q ≠ row) (n1 : some (Q + 1) ≠ row) (n2 : some g ≠ row) (x : wc.cell? ⟨Q, 2, none⟩ = some vx) (n : wc.cell? ⟨Q + 1, 2, none⟩ = some vn) (f : wc.frozen? ⟨Q + 1, 2, none⟩ = false) (a : wc.cell? ⟨g, o, none⟩ = some (.string an)) (b : wc.cell? ⟨g, o + 1, none⟩ = some (.string av)) :
    w7.cell? ⟨Q, 2, none⟩ = some vx ∧ w7.cell? ⟨g, o, none⟩ = some (.string an) ∧ w7.cell? ⟨g, o + 1, none⟩ = some (.string av) ∧ w7.cell? ⟨Q + 1, 2, none⟩ = some vn ∧ w7.frozen? ⟨Q + 1, 2, none⟩ = false :=
  ⟨(grown_cell06 hg hA h0 n0 2).1.trans x, (grown_cell06 hg hA h2 n2 o).1.trans a, (grown_cell06 hg hA h2 n2 (o + 1)).1.trans b, (grown_cell06 hg hA h1 n1 2).1.trans n, (grown_cell06 hg hA h1 n1 2).2.trans f⟩
theorem size06 (w : World) (o : Obj) : (w.alloc o).heap.size = w.heap.size + 1 := by simp
theorem app_att {ops : Array Oper} {o : Oper} {a : Act} {K : Act → World → Prop} {Q : Exit → Act → World → Prop} {E : Prop} (hgd : o.guard = none) (s x : Operand)
    (ho : o.op = .call { callee := .builtin .append, args := #[s, x], argTypes := #[22, 22] }) {wc wX : World} {base k vc : Nat} {va : Option Addr} {A : List Att} (hs : a.eval s = .slice va k vc)
    (hown : wc.ownsRow base 56 2 (.slice va k vc) k (cellsA A)) (hb : Below wc.heap.size wc wX) (hk : k < 3) (hbase : base ≤ wc.heap.size) (N V : ByteArray) (B : Nat) (hB : wX.heap.size = B)
    (hx : a.eval x = .slice (some ⟨B, 0, none⟩) 1 1)
    (h : ∀ g cap w', w'.ownsRow base 56 2 (.slice (some ⟨g, 0, none⟩) (k + 1) cap) (k + 1) (cellsA A ++ [.string N, .string V]) → (wX.alloc (.cells #[.string N, .string V] 56)).grownBy w' (Value.ownBlock (.slice va k vc)) →
      K (a.put o.dst (.slice (some ⟨g, 0, none⟩) (k + 1) cap)) w') :
    if Region.wanted o (yielded ops a.tmps) = true then Oper.wp Tryz.prog o a (wX.alloc (.cells #[.string N, .string V] 56)) K Q else E := by
  subst hB
  obtain ⟨i0, hi, hz0, hz1, hz2⟩ := info_parts att_info
  have hbA : Below wc.heap.size wc (wX.alloc (.cells #[.string N, .string V] 56)) := Below.allocs hb _
  exact step_append_lies _ hgd s x _ ho base 56 i0 _ 2 32 Tryz.underlying22 hi hz0 hz1 hz2 rfl (by omega) (.slice va k vc) k (cellsA A) hs (own_kept hown hbA)
    ⟨wX.heap.size, 0, none⟩ 1 1 [.string N, .string V] hx rfl
    (World.news_of_block (cs := #[.string N, .string V]) (t := 56) (fr := (0, 0)) (heap_alloc_new wX _)) (by simp [Value.oneCell'])
    (by omega) (by unfold maxLen; omega) (by omega) (Nat.le_trans hbase hbA.size) _ rfl (fun g cap w' h1 h2 _ _ => h g cap w' h1 h2)
theorem app_kid {ops : Array Oper} {o : Oper} {a : Act} {K : Act → World → Prop} {Q : Exit → Act → World → Prop} {E : Prop} (hgd : o.guard = none) (s x : Operand)
    (ho : o.op = .call { callee := .builtin .append, args := #[s, x], argTypes := #[23, 23] }) {wc wn : World} {base j ck : Nat} {vk : Option Addr} {V : List NV} (hs : a.eval s = .slice vk j ck)
    (hown : wc.ownsRow base 25 5 (.slice vk j ck) j (cellsN V)) (hb : Below wc.heap.size wc wn) (hj : j < 3) (hbase : base ≤ wc.heap.size) (a0 a1 a4 : ByteArray) (p2 p3 : Option Addr) (n2 m2 n3 m3 : Nat)
    (hx : a.eval x = .slice (some ⟨wn.heap.size, 0, none⟩) 1 1)
    (h : ∀ g cap w', w'.ownsRow base 25 5 (.slice (some ⟨g, 0, none⟩) (j + 1) cap) (j + 1) (cellsN V ++ [.string a0, .string a1, .slice p2 n2 m2, .slice p3 n3 m3, .string a4]) →
      (wn.alloc (.cells #[.string a0, .string a1, .slice p2 n2 m2, .slice p3 n3 m3, .string a4] 25)).grownBy w' (Value.ownBlock (.slice vk j ck)) →
      (Value.ownBlock (.slice vk j ck) = some g ∨ g = (wn.alloc (.cells #[.string a0, .string a1, .slice p2 n2 m2, .slice p3 n3 m3, .string a4] 25)).heap.size) → K (a.put o.dst (.slice (some ⟨g, 0, none⟩) (j + 1) cap)) w') :
    if Region.wanted o (yielded ops a.tmps) = true then Oper.wp Tryz.prog o a (wn.alloc (.cells #[.string a0, .string a1, .slice p2 n2 m2, .slice p3 n3 m3, .string a4] 25)) K Q else E := by
  obtain ⟨i0, hi, hz0, hz1, hz2⟩ := info_parts node06
  have hbA : Below wc.heap.size wc (wn.alloc (.cells #[.string a0, .string a1, .slice p2 n2 m2, .slice p3 n3 m3, .string a4] 25)) := Below.allocs hb _
  exact step_append_lies _ hgd s x _ ho base 25 i0 _ 5 96 Tryz.underlying23 hi hz0 hz1 hz2 rfl (by omega) (.slice vk j ck) j (cellsN V) hs (own_kept hown hbA)
    ⟨wn.heap.size, 0, none⟩ 1 1 [.string a0, .string a1, .slice p2 n2 m2, .slice p3 n3 m3, .string a4] hx rfl
    (World.news_of_block (cs := #[.string a0, .string a1, .slice p2 n2 m2, .slice p3 n3 m3, .string a4]) (t := 25) (fr := (0, 0)) (heap_alloc_new wn _)) (by simp [Value.oneCell'])
    (by omega) (by unfold maxLen; omega) (by omega) (Nat.le_trans hbase hbA.size) _ rfl (fun g cap w' h1 h2 h3 _ => h g cap w' h1 h2 h3)
theorem own_differ {w : World} {b c : Nat} {za zb na nb : Nat} {va vb : Value} {xs ys : List Value} (ha : w.ownsRow b 56 za va na xs) (hb : w.ownsRow c 25 zb vb nb ys) : va.ownBlock = none ∨ va.ownBlock ≠ vb.ownBlock := by
  rcases ha.2 with ⟨rfl, _⟩ | ⟨g, cap, cur, rfl, _, hg, _⟩
  · exact .inl rfl
  · right
    intro e
    rcases hb.2 with ⟨rfl, _⟩ | ⟨g', cap', cur', rfl, _, hg', _⟩
    · cases e
    · have e' : g = g' := by injection e
      subst e'
      rw [hg] at hg'
      injection hg' with h
      injection h with h1 h2
      exact absurd h2 (by decide)
/-- What Near's second loop keeps. -/
structure NrK (Q d : Nat) (w : World) (X : Array Value) (sp nm : ByteArray) (A : List Att) (va v : Value) (V : List NV) (K : List Nd) (wr : World) : Prop where
  hx : wr.heap[Q]? = some (.cells X 25 (0, 0))
  hn : wr.heap[Q + 1]? = some (.cells #[.string sp, .string nm, va, v, .string ⟨#[]⟩] 25 (0, 0))
  below : Below Q w wr
  owna : wr.ownsRow (Q + 2) 56 2 va A.length (cellsA A)
  own : wr.ownsRow (Q + 2) 25 5 v V.length (cellsN V)
  len : V.length = K.length
  nodes : ∀ j (h : j < V.length) (h' : j < K.length), NodeV (fun g => Q + 2 ≤ g ∧ v.ownBlock ≠ some g) wr (V[j]'h).val (K[j]'h')
  near : ∀ y ∈ K, NearB d y
  few : K.length ≤ 3
theorem NrA.kids {Q d : Nat} {w : World} {X : Array Value} {sp nm : ByteArray} {A : List Att} {v : Value} {wr : World} (h : NrA Q w X sp nm A v wr) : NrK Q d w X sp nm A v (.slice none 0 0) [] [] wr :=
  ⟨h.hx, h.hn, h.below, h.own, World.ownsRow_nil _ _ _ _, rfl, fun j h => absurd h (Nat.not_lt_zero j), fun y h => (by cases h), by decide⟩
theorem NrK.step {Q d : Nat} {w : World} {X : Array Value} {sp nm : ByteArray} {A : List Att} {va v : Value} {V : List NV} {K : List Nd} {wr wx : World} (h : NrK Q d w X sp nm A va v V K wr) (hb : Below wr.heap.size wr wx) : NrK Q d w X sp nm A va v V K wx := by
  have h1 := (Array.getElem?_eq_some_iff.1 h.hx).1
  have h2 := (Array.getElem?_eq_some_iff.1 h.hn).1
  exact ⟨(hb.block _ h1).trans h.hx, (hb.block _ h2).trans h.hn, h.below.trans (hb.mono (by omega)), own_kept h.owna hb, own_kept h.own hb, h.len, fun j hj hj' => (h.nodes j hj hj').stay hb, h.near, h.few⟩
/-- One element more. -/
theorem NrK.app {Q d : Nat} {w : World} {X : Array Value} {sp nm : ByteArray} {A : List Att} {va v : Value} {V : List NV} {K : List Nd} {wr wn wA w7 : World} (h : NrK Q d w X sp nm A va v V K wr) (hN : Below wr.heap.size wr wn) (hA : Below wn.heap.size wn wA)
    {y : NV} {x : Nd} (hy : NodeV (fun g => wr.heap.size ≤ g) wn y.val x) (hx : NearB d x) {g n cap : Nat} (hn : V.length = n) (h3 : n < 3)
    (hown : w7.ownsRow (Q + 2) 25 5 (.slice (some ⟨g, 0, none⟩) (n + 1) cap) (n + 1) (cellsN V ++ [y.a, y.b, y.c, y.d, y.e])) (hg : wA.grownBy w7 v.ownBlock) (hat : v.ownBlock = some g ∨ g = wA.heap.size) (hva : va.ownBlock = none ∨ va.ownBlock ≠ v.ownBlock) :
    NrK Q d w X sp nm A va (.slice (some ⟨g, 0, none⟩) (n + 1) cap) (V ++ [y]) (K ++ [x]) (w7.setCell ⟨Q + 1, 3, none⟩ (.slice (some ⟨g, 0, none⟩) (n + 1) cap)) := by
  have hNA : Below wr.heap.size wr wA := hN.trans (hA.mono hN.size)
  have hA' := h.step hNA
  have h1 := (Array.getElem?_eq_some_iff.1 hA'.hx).1
  have h2 := (Array.getElem?_eq_some_iff.1 hA'.hn).1
  have hv : ∀ k, v.ownBlock = some k → Q + 2 ≤ k ∧ k < wr.heap.size := fun k e => h.own.lt k e
  have hx7 := (hg.block Q h1 (fun e => by have := (hv Q e.symm).1; omega)).trans hA'.hx
  have hn7 := (hg.block (Q + 1) h2 (fun e => by have := (hv (Q + 1) e.symm).1; omega)).trans hA'.hn
  have hlen : (V ++ [y]).length = n + 1 := by rw [List.length_append, hn]; rfl
  have hlK : K.length = n := by rw [← h.len, hn]
  have hs7 := hg.size
  have hsNA := hNA.size
  have hsN := hN.size
  have hsA := hA.size
  have hcs : cellsN (V ++ [y]) = cellsN V ++ [y.a, y.b, y.c, y.d, y.e] := by rw [cellsN_app]; rfl
  have far : ∀ k, k < wA.heap.size → v.ownBlock ≠ some k → k ≠ Q + 1 → (w7.setCell ⟨Q + 1, 3, none⟩ (.slice (some ⟨g, 0, none⟩) (n + 1) cap)).heap[k]? = wA.heap[k]? := fun k hk hne hq =>
    (Below.heap_setCell _ _ _ _ hq).trans (hg.block k hk (fun e => hne e.symm))
  have hg0 : (Value.slice (some ⟨g, 0, none⟩) (n + 1) cap).ownBlock = some g := rfl
  refine ⟨(Below.heap_setCell _ _ _ _ (by show Q ≠ Q + 1; omega)).trans hx7, ?_, ?_, ?_, ?_, ?_, ?_, ?_, by rw [List.length_append, hlK]; show n + 1 ≤ 3; omega⟩
  · rw [heap_put _ hn7]; rfl
  · exact ((hA'.below).grown hg (by omega) (fun k e => by have := (hv k e).1; omega)).setCell (p := ⟨Q + 1, 3, none⟩) (by show Q ≤ Q + 1; omega) _
  · exact ownsRow_setCell_other (hA'.owna.kept hg hva) (a := ⟨Q + 1, 3, none⟩) (fun e => by have := (h.owna.lt (Q + 1) e).1; omega) _
  · rw [hlen, hcs]
    exact ownsRow_setCell_other hown (a := ⟨Q + 1, 3, none⟩) (fun e => by have := (hown.lt (Q + 1) e).1; omega) _
  · rw [List.length_append, List.length_append, h.len]; rfl
  · intro j hj hj'
    have hnew : ∀ k, k < wA.heap.size → v.ownBlock ≠ some k → some g ≠ some k := fun k hk hne e => by
      injection e with e
      rcases hat with h' | h'
      · exact hne (by rw [h', e])
      · omega
    by_cases hjV : j < V.length
    · rw [List.getElem_append_left hjV, List.getElem_append_left (by rw [← h.len]; exact hjV)]
      refine (hA'.nodes j hjV (by rw [← h.len]; exact hjV)).to (by simp; omega) fun k hk hl => ⟨⟨hk.1, hnew k hl hk.2⟩, far k hl hk.2 (by omega)⟩
    · have hjn : j = n := by omega
      subst hjn
      rw [List.getElem_append_right (by omega), List.getElem_append_right (by omega)]
      simp only [List.getElem_singleton]
      refine (hy.to hsA fun k hk hl => ⟨(show wr.heap.size ≤ k ∧ k < wn.heap.size from ⟨hk, hl⟩), hA.block k hl⟩).to (by simp; omega) fun k hk hl => ?_
      have hq := (Array.getElem?_eq_some_iff.1 h.hn).1
      have hne : v.ownBlock ≠ some k := fun e => by have := (hv k e).2; omega
      exact ⟨⟨by omega, hnew k hl hne⟩, far k hl hne (by omega)⟩
  · intro z hz
    rcases List.mem_append.1 hz with h' | h'
    · exact h.near z h'
    · rw [List.mem_singleton.1 h']; exact hx
theorem near_tree {d Q : Nat} {w w6 : World} {X : Array Value} {sp nm : ByteArray} {A : List Att} {V : List NV} {K : List Nd} {va vk : Option Addr} {k vc n ck : Nat} (hQ : w.heap.size = Q) (hk : A.length = k) (hn : V.length = n)
    (h : NrK Q d w X sp nm A (.slice va k vc) (.slice vk n ck) V K w6)
    (hnm : (∃ r, bl nm = 110 :: r) ∧ (∀ c ∈ bl nm, okN c = true) ∧ (bl nm).length ≤ 6) (hsp : Lets (bl sp) ∧ (bl sp).length ≤ 3) (hA : ∀ a ∈ A, AttB a) (hAd : A.Pairwise (fun x y => (bl x.1 == bl y.1) = false)) (hAl : A.length ≤ 3) :
    NearGives d w (.returned (.agg #[.string sp, .string nm, .slice va k vc, .slice vk n ck, .string ⟨#[]⟩])) (st5 w6 (Q + 1) (.string sp) (.string nm) (.slice va k vc) (.slice vk n ck) (.string ⟨#[]⟩)) := by
  have hs := st5_onlyR w6 (Q + 1) (.string sp) (.string nm) (.slice va k vc) (.slice vk n ck) (.string ⟨#[]⟩)
  have hq := (Array.getElem?_eq_some_iff.1 h.hn).1
  have hb : Below Q w6 (st5 w6 (Q + 1) (.string sp) (.string nm) (.slice va k vc) (.slice vk n ck) (.string ⟨#[]⟩)) := ⟨hs.os, hs.tape, hs.output, hs.size, fun j hj => hs.block j (by omega) (by omega)⟩
  have hO := h.owna
  rw [hk] at hO
  have hlK : K.length = n := by rw [← h.len, hn]
  have hown := own_only06 h.own hs (by omega)
  rw [hn] at hown
  subst hlK
  refine ⟨_, .mk sp nm A K ⟨#[]⟩, rfl, .mk sp nm ⟨#[]⟩ A K _ vk ck (fun j q => ((cellsN V)[j * 5 + q]?).getD undef) (att_own06 (own_only06 hO hs (by omega)) hk (fun g h => by omega)) (fun h0 => ?_) (fun j hj => ?_),
    .mk d sp nm ⟨#[]⟩ A K hnm.1 hnm.2.1 hnm.2.2 hsp.1 hsp.2 Lets.nil (by decide) (by kernel_rfl) hA hAd hAl (.inr rfl) h.few h.near, by rw [hQ]; exact h.below.trans hb⟩
  · rcases own_cases06 hown with ⟨_, h0'⟩ | ⟨g, rfl⟩
    · omega
    obtain ⟨cur, hg, hbg⟩ := own_cell hown
    refine ⟨g, 0, rfl, by show w.heap.size ≤ g; omega, (Array.getElem?_eq_some_iff.1 hg).1, fun j hj q hq5 => ?_⟩
    rw [Nat.zero_add, hown.cellAt (j * 5 + q) (by omega), List.getElem?_eq_getElem (by rw [cellsN_len, hn]; omega)]
    rfl
  · have hjV : j < V.length := by omega
    have hv := (h.nodes j hjV hj).to hs.size fun g hg hl => ⟨(show w.heap.size ≤ g by have := hg.1; omega), hs.block g hl (by have := hg.1; omega)⟩
    have e : ∀ q, q < 5 → ((cellsN V)[j * 5 + q]?).getD undef = (V[j]'hjV).at_ q := fun q hq => by rw [cellsN_get V j hjV q hq]; rfl
    rw [e 0 (by decide), e 1 (by decide), e 2 (by decide), e 3 (by decide), e 4 (by decide)]
    exact hv
/-- What is known behind the call within Near's second loop. -/
def NrD (wc : World) (Q g o : Nat) (vx vn : Value) (c : Nat → Value) (wx w' : World) : Prop :=
  w'.cell? ⟨Q, 3, none⟩ = some vx ∧ w'.cell? ⟨Q + 1, 3, none⟩ = some vn ∧ w'.frozen? ⟨Q + 1, 3, none⟩ = false ∧
  w'.cell? ⟨g, o, none⟩ = some (c 0) ∧ w'.cell? ⟨g, o + 1, none⟩ = some (c 1) ∧ w'.cell? ⟨g, o + 2, none⟩ = some (c 2) ∧ w'.cell? ⟨g, o + 3, none⟩ = some (c 3) ∧ w'.cell? ⟨g, o + 4, none⟩ = some (c 4) ∧
  Q < w'.heap.size ∧ Q + 1 < w'.heap.size ∧ g < w'.heap.size ∧ wx.heap.size ≤ w'.heap.size ∧ Hid (Below wc.heap.size wc w')
theorem nrD {wc wx w' : World} {Q g o : Nat} {vx vn : Value} {c : Nat → Value} (h0 : wc.cell? ⟨Q, 3, none⟩ = some vx) (h1 : wc.cell? ⟨Q + 1, 3, none⟩ = some vn) (h2 : wc.frozen? ⟨Q + 1, 3, none⟩ = false)
    (k0 : wc.cell? ⟨g, o, none⟩ = some (c 0)) (k1 : wc.cell? ⟨g, o + 1, none⟩ = some (c 1)) (k2 : wc.cell? ⟨g, o + 2, none⟩ = some (c 2)) (k3 : wc.cell? ⟨g, o + 3, none⟩ = some (c 3)) (k4 : wc.cell? ⟨g, o + 4, none⟩ = some (c 4))
    (hQ : Q + 1 < wc.heap.size) (hg : g < wc.heap.size) (hx : Below wc.heap.size wc wx) (hb : Below wx.heap.size wx w') : NrD wc Q g o vx vn c wx w' := by
  have h := hx.trans (hb.mono hx.size)
  have hs := h.size
  have far : ∀ q v, wc.cell? ⟨g, q, none⟩ = some v → w'.cell? ⟨g, q, none⟩ = some v := fun q v e => (h.cell (p := ⟨g, q, none⟩) hg).trans e
  exact ⟨(h.cell (p := ⟨Q, 3, none⟩) (by show Q < _; omega)).trans h0, (h.cell (p := ⟨Q + 1, 3, none⟩) hQ).trans h1, (h.frozen (p := ⟨Q + 1, 3, none⟩) hQ).trans h2, far _ _ k0, far _ _ k1, far _ _ k2, far _ _ k3, far _ _ k4,
    by omega, by omega, by omega, hb.size, Lib.hid h⟩
set_option linter.unusedSimpArgs false in
set_option maxHeartbeats 16000000 in
theorem near_one (d : Nat) (hIH : ∀ d', d = d' + 1 → NearSpec d') : NearSpec d := by
  intro D v x w hD hD0 hD1 hv
  obtain ⟨xsp, xnm, xtx, XA, XK, xa, xac, xk, xkc, xc, rfl, rfl, hxa, hxk, hxn⟩ := parts06 hv
  obtain ⟨xan, hxan⟩ : ∃ n, XA.length = n := ⟨_, rfl⟩
  obtain ⟨xkn, hxkn⟩ : ∃ n, XK.length = n := ⟨_, rfl⟩
  rw [hxan, hxkn]
  have HXA := Lib.hid hxa
  have HXK := Lib.hid hxk
  have HXN := Lib.hid hxn
  have HXan := Lib.hid hxan
  have HXkn := Lib.hid hxkn
  clear hxa hxk hxn hxan hxkn hv
  have hA1 := (Below.refl w.heap.size w).alloc (Nat.le_refl _) (.cells #[.string xsp, .string xnm, .slice xa xan xac, .slice xk xkn xkc, .string xtx] 25)
  have hA2 := hA1.alloc (by simp) (.cells #[.string ⟨#[]⟩, .string ⟨#[]⟩, .slice none 0 0, .slice none 0 0, .string ⟨#[]⟩] 25)
  have hX0 := (Below.heap_alloc (w.alloc (.cells #[.string xsp, .string xnm, .slice xa xan xac, .slice xk xkn xkc, .string xtx] 25)) (.cells #[.string ⟨#[]⟩, .string ⟨#[]⟩, .slice none 0 0, .slice none 0 0, .string ⟨#[]⟩] 25) w.heap.size (by simp)).trans (heap_alloc_new w _)
  have hN0 := heap_alloc_new (w.alloc (.cells #[.string xsp, .string xnm, .slice xa xan xac, .slice xk xkn xkc, .string xtx] 25)) (.cells #[.string ⟨#[]⟩, .string ⟨#[]⟩, .slice none 0 0, .slice none 0 0, .string ⟨#[]⟩] 25)
  rw [World.size_alloc] at hN0
  have HX0 := Lib.hid hX0
  have HN0 := Lib.hid hN0
  have HA2 := Lib.hid hA2
  have HIH := Lib.hid hIH
  clear hA1 hA2 hX0 hN0 hIH
  go_enter Tryz.func8, Tryz.ntmps8
  go_wp2_with fail
  obtain ⟨Q, hQ⟩ : ∃ Q, w.heap.size = Q := ⟨_, rfl⟩
  rw [hQ] at HX0 HN0 HA2 ⊢
  have HQ := Lib.hid hQ
  clear hQ
  generalize (w.alloc (.cells #[.string xsp, .string xnm, .slice xa xan xac, .slice xk xkn xkc, .string xtx] 25)).alloc (.cells #[.string ⟨#[]⟩, .string ⟨#[]⟩, .slice none 0 0, .slice none 0 0, .string ⟨#[]⟩] 25) = w0 at HX0 HN0 HA2 ⊢
  refine (name06 xnm w0).mono ?_
  rintro e w1 ⟨rfl, hb1⟩
  obtain ⟨nm, hnm⟩ : ∃ nm, str (nmR (bl xnm)) = nm := ⟨_, rfl⟩
  rw [hnm]
  have HNM := Lib.hid (show (∃ r, bl nm = 110 :: r) ∧ (∀ c ∈ bl nm, okN c = true) ∧ (bl nm).length ≤ 6 by
    rw [← hnm, str_bl]; exact ⟨⟨_, rfl⟩, nmR_ok _, nmR_len _⟩)
  have hX1 := (hb1.block _ (Array.getElem?_eq_some_iff.1 HX0.out).1).trans HX0.out
  have hN1 := (hb1.block _ (Array.getElem?_eq_some_iff.1 HN0.out).1).trans HN0.out
  have hB1 := HA2.out.trans (hb1.mono (by have := (Array.getElem?_eq_some_iff.1 HX0.out).1; omega))
  have x0 := Lib.cell_of_heap hX1 0
  have x2 := Lib.cell_of_heap hX1 2
  have n1 := Lib.cell_of_heap hN1 1
  have n0 := Lib.cell_of_heap hN1 0
  have f1 := Lib.frozen_of_heap hN1 1
  have f0 := Lib.frozen_of_heap hN1 0
  simp only [List.getElem?_toArray, List.getElem?_cons_zero, List.getElem?_cons_succ] at x0 x2 n1 n0
  obtain ⟨m, hm, hmask⟩ := mask_i64 xsp.size 2 (by decide) 3 (by decide)
  have hm' : (m : Int) < 4 := by omega
  have hq1 : Q + 1 < w1.heap.size := (Array.getElem?_eq_some_iff.1 hN1).1
  have hq0 : Q < w1.heap.size := by omega
  have hmc : ((w1.setCell ⟨Q + 1, 1, none⟩ (.string nm)).alloc (.cells #[.string ⟨#[]⟩, .string ⟨#[117]⟩, .string ⟨#[118, 38, 60]⟩, .string ⟨#[119]⟩] 9)).cell? ⟨w1.heap.size, m, none⟩ = some (.string (spB m)) := by
    have h := heap_alloc_new (w1.setCell ⟨Q + 1, 1, none⟩ (.string nm)) (.cells #[.string ⟨#[]⟩, .string ⟨#[117]⟩, .string ⟨#[118, 38, 60]⟩, .string ⟨#[119]⟩] 9)
    rw [World.size_setCell] at h
    rw [Lib.cell_of_heap h]
    exact spB_cell m hm
  obtain ⟨sp, hsp⟩ : ∃ sp, spB m = sp := ⟨_, rfl⟩
  have HSP := Lib.hid (show Lets (bl sp) ∧ (bl sp).length ≤ 3 by rw [← hsp]; exact spB_lets m hm)
  rw [hsp] at hmc
  have HX1 := Lib.hid hX1
  have HN1 := Lib.hid hN1
  have HB1 := Lib.hid hB1
  clear hb1 hX1 hN1 hB1 HX0 HN0 HA2 hnm hsp hm
  go_wp2_with fail
  have hN2 : (((w1.setCell ⟨Q + 1, 1, none⟩ (.string nm)).setCell ⟨Q + 1, 0, none⟩ (.string sp)).alloc (.cells #[.string ⟨#[]⟩, .string ⟨#[117]⟩, .string ⟨#[118, 38, 60]⟩, .string ⟨#[119]⟩] 9)).heap[Q + 1]? = some (.cells #[.string sp, .string nm, .slice none 0 0, .slice none 0 0, .string ⟨#[]⟩] 25 (0, 0)) := by
    rw [Below.heap_alloc _ _ _ (by simp; omega), heap_put _ (heap_put _ HN1.out)]; rfl
  have hX2 : (((w1.setCell ⟨Q + 1, 1, none⟩ (.string nm)).setCell ⟨Q + 1, 0, none⟩ (.string sp)).alloc (.cells #[.string ⟨#[]⟩, .string ⟨#[117]⟩, .string ⟨#[118, 38, 60]⟩, .string ⟨#[119]⟩] 9)).heap[Q]? = some (.cells #[.string xsp, .string xnm, .slice xa xan xac, .slice xk xkn xkc, .string xtx] 25 (0, 0)) := by
    rw [Below.heap_alloc _ _ _ (by simp; omega), Below.heap_setCell _ _ _ _ (by show Q ≠ Q + 1; omega), Below.heap_setCell _ _ _ _ (by show Q ≠ Q + 1; omega)]; exact HX1.out
  have hB2 := (((HB1.out.setCell (p := ⟨Q + 1, 1, none⟩) (by show Q ≤ Q + 1; omega) (.string nm)).setCell (p := ⟨Q + 1, 0, none⟩) (by show Q ≤ Q + 1; omega) (.string sp)).alloc (by simp; omega) (.cells #[.string ⟨#[]⟩, .string ⟨#[117]⟩, .string ⟨#[118, 38, 60]⟩, .string ⟨#[119]⟩] 9))
  have HR := Lib.hid (show NrA Q w #[.string xsp, .string xnm, .slice xa xan xac, .slice xk xkn xkc, .string xtx] sp nm [] (.slice none 0 0) _ from
    ⟨hX2, hN2, hB2, World.ownsRow_nil _ _ _ _, fun a h => (by cases h), fun i h => absurd h (Nat.not_lt_zero i), by decide⟩)
  clear hN2 hX2 hB2 HX1 HN1 HB1 x0 x2 n1 n0 f1 f0 hmask hm' hq1 hq0 hmc
  generalize ((w1.setCell ⟨Q + 1, 1, none⟩ (.string nm)).setCell ⟨Q + 1, 0, none⟩ (.string sp)).alloc (.cells #[.string ⟨#[]⟩, .string ⟨#[117]⟩, .string ⟨#[118, 38, 60]⟩, .string ⟨#[119]⟩] 9) = w2 at HR ⊢
  go_loopg [5] 3 (fun g i wr => ∃ k A v, g + k = 3 ∧ i = .int .i64 k ∧ A.length = k ∧ NrA Q w #[.string xsp, .string xnm, .slice xa xan xac, .slice xk xkn xkc, .string xtx] sp nm A v wr)
  case atStart => exact ⟨0, [], _, by omega, rfl, rfl, HR.out⟩
  case round =>
    clear HR
    obtain ⟨k, A, v, hg, rfl, hAk, hr⟩ := hrel
    obtain ⟨va, vc, hvf⟩ := own_form hr.own
    rw [hAk] at hvf
    subst hvf
    have x2 := Lib.cell_of_heap hr.hx 2
    have n2 := Lib.cell_of_heap hr.hn 2
    have f2 := Lib.frozen_of_heap hr.hn 2
    simp only [List.getElem?_toArray, List.getElem?_cons_zero, List.getElem?_cons_succ] at x2 n2
    have HR := Lib.hid hr
    have HAk := Lib.hid hAk
    clear hr hAk
    obtain ⟨E, hE'⟩ : ∃ E : Bool, decide (k < xan ∧ k < 3) = E := ⟨_, rfl⟩
    have HE' := Lib.hid hE'
    clear hE'
    go_upto_region 4 with (fail)
    go_cut [27] (fun u wx => u = .bool E ∧ wx = wr)
    case first =>
      by_cases h1 : k < xan
      · have h1' : (k : Int) < (xan : Int) := by omega
        by_cases h2 : k < 3
        · have h2' : (k : Int) < 3 := by omega
          go_wp2
          go_meet
          exact ⟨by rw [← HE'.out]; simp [h1, h2], rfl⟩
        · have h2' : decide ((k : Int) < 3) = false := decide_eq_false (by omega)
          go_wp2
          go_meet
          exact ⟨by rw [← HE'.out]; simp [h2], rfl⟩
      · have h1' : decide ((k : Int) < (xan : Int)) = false := decide_eq_false (by omega)
        go_wp2
        go_meet
        exact ⟨by rw [← HE'.out]; simp [h1], rfl⟩
    case rest =>
      obtain ⟨rfl, rfl⟩ := hcut
      cases hEE : E with
      | true =>
        subst hEE
        obtain ⟨h1, h2⟩ : k < xan ∧ k < 3 := by have := HE'.out; simpa using this
        clear HE'
        obtain ⟨g0, o0, rfl, _, hg0, hcell⟩ := HXA.out (by have := HXan.out; omega)
        obtain ⟨c0, c1⟩ := hcell k (by have := HXan.out; omega)
        obtain ⟨⟨an, av⟩, hav⟩ : ∃ y, XA[k]'(by have := HXan.out; omega) = y := ⟨_, rfl⟩
        rw [hav] at c0 c1
        have hbw := HR.out.below
        rw [HQ.out] at hg0
        have a0 := (hbw.cell (p := ⟨g0, o0 + k * 2, none⟩) hg0).trans c0
        have a1 := (hbw.cell (p := ⟨g0, o0 + k * 2 + 1, none⟩) hg0).trans c1
        have hq1 : Q + 1 < wc.heap.size := (Array.getElem?_eq_some_iff.1 HR.out.hn).1
        have hq0 : Q < wc.heap.size := by omega
        have hgr : g0 < wc.heap.size := by omega
        obtain ⟨m, hm1, hm2, hm3, hmi, hmn⟩ := min8 av.size 9
        have hmI : min (av.size : Int) 9 = m := by have := hmi.out; omega
        obtain ⟨T, hT⟩ : ∃ T, av.extract 0 m = T := ⟨_, rfl⟩
        have hTs : T.size = m := by rw [← hT, ByteArray.size_extract]; omega
        have CN := fun wx => name06 an wx
        obtain ⟨NM, hNM⟩ : ∃ NM, str (nmR (bl an)) = NM := ⟨_, rfl⟩
        rw [hNM] at CN
        have hNMs : NM.size ≤ 6 := by rw [← hNM, str_size]; exact nmR_len _
        have hadd : ¬ 9223372036854775807 < NM.size + 1 := by omega
        have HNMe := Lib.hid hNM
        have CN := Lib.hid (fun (wx : World) (hx : Below wc.heap.size wc wx) => (CN wx).mono (fun e w' (h : _ ∧ Below wx.heap.size wx w') => (show e = .returned (.string NM) ∧ NrC wc Q g0 (o0 + k * 2) (.slice (some ⟨g0, o0, none⟩) xan xac) (.slice va k vc) an av wx w' from ⟨h.1, nrC x2 n2 f2 a0 a1 hq1 hgr hx h.2⟩)))
        have CP := Lib.hid (fun (wx : World) (hx : Below wc.heap.size wc wx) => (rplain T wx (by omega)).mono (fun e w' (h : Plains T wx e w') => (show ∃ V, e = .returned (.string (str V)) ∧ NrC wc Q g0 (o0 + k * 2) (.slice (some ⟨g0, o0, none⟩) xan xac) (.slice va k vc) an av wx w' ∧ Hid (Lets V ∧ V.length = T.size) from by
          obtain ⟨V, h1, h2, h3, h4⟩ := h
          exact ⟨V, h1, nrC x2 n2 f2 a0 a1 hq1 hgr hx h4, Lib.hid ⟨h2, h3⟩⟩)))
        obtain ⟨x, hx⟩ : ∃ x : Int, 65 + (k : Int) = x := ⟨_, rfl⟩
        have hx2 : x < 256 := by omega
        have hx0 : 0 ≤ x := by omega
        have hxu : IntKind.u8.wrap x = x := IntWalk.u8_in _ (by omega)
        have hxi : IntKind.i64.wrap x = x := IntWalk.i64_in _ (by omega)
        have hcv : ∀ (w' : World) (q : Nat), w'.cell? ⟨q, 0, none⟩ = some (.int .u8 x) → (convert 58 9 (.slice (some ⟨q, 0, none⟩) 1 1)).run Tryz.prog w' = .ok (.string ⟨#[ub x]⟩) w' := fun w' q h => convC06 w' q x ⟨hx0, hx2⟩ h
        have HXE := Lib.hid hx
        clear hNM hm3 hmi hmn hcell c0 c1 hav hbw
        have hown := HR.out.own
        rw [HAk.out] at hown
        have HOwn := Lib.hid hown
        have HQ2 := Lib.hid (show Q + 2 ≤ wc.heap.size by omega)
        have HNe0 := Lib.hid (show some Q ≠ Value.ownBlock (.slice va k vc) from fun e => by have := (hown.lt Q e.symm).1; omega)
        have HNe1 := Lib.hid (show some g0 ≠ Value.ownBlock (.slice va k vc) from fun e => by have := (hown.lt g0 e.symm).1; omega)
        have hgx : ¬ g0 = Q + 1 := by omega
        have hxg : ¬ Q + 1 = g0 := by omega
        have hqx : ¬ Q = Q + 1 := by omega
        have HNe := Lib.hid (show some (Q + 1) ≠ Value.ownBlock (.slice va k vc) from fun e => by have := (hown.lt (Q + 1) e.symm).1; omega)
        clear hown
        go_upto_block 1 with fail
        go_cut [] from 19 to 64 (fun wx => ∃ A' v', A'.length = k + 1 ∧ NrA Q w #[.string xsp, .string xnm, .slice (some ⟨g0, o0, none⟩) xan xac, .slice xk xkn xkc, .string xtx] sp nm A' v' wx)
        case first =>
          go_wp2_with fail
          refine AnyG.begin (S := SG (fun w' => w'.cell? ⟨Q, 2, none⟩ = some (.slice (some ⟨g0, o0, none⟩) xan xac) ∧ w'.cell? ⟨g0, o0 + k * 2, none⟩ = some (.string an) ∧ w'.cell? ⟨g0, o0 + k * 2 + 1, none⟩ = some (.string av)) (fun w' => w'.cell? ⟨Q + 1, 2, none⟩ = some (.slice va k vc)) 33) (by kernel_rfl) ⟨?_, ?_⟩ (fun hHeld => ?_)
          focus ((try dsimp only); first | (refine ⟨?_, ?_, ?_⟩ <;> assumption) | go_keep)
          focus (intro _; (try dsimp only); first | assumption | go_keep)
          refine SG.take (i := 0) (v := ?_) rfl (by kernel_rfl) (by kernel_rfl) (by kernel_rfl) (fun _ _ _ h => h) (by decide) (by rfl) ?_ (by assumption) ?_
          rotate_left
          focus (intro w hSw; (try dsimp only at hSw); go_simp; (try with_reducible rfl))
          try simp only [Act.put, List.setIfInBounds_toArray, List.set_cons_zero, List.set_cons_succ, List.getElem_toArray, List.getElem_cons_succ, List.getElem_cons_zero]
          refine SG.takeT (i := 1) (v := ?_) rfl (by kernel_rfl) (by kernel_rfl) (by kernel_rfl) (fun _ _ _ h => h) (by decide) (by rfl) rfl (by kernel_rfl) (by kernel_rfl) ?_ (by assumption) ?_
          rotate_left
          focus (intro w hSw hTw; (try dsimp only at hSw); (try dsimp only at hTw); go_simp; (try with_reducible rfl))
          try simp only [Act.put, List.setIfInBounds_toArray, List.set_cons_zero, List.set_cons_succ, List.getElem_toArray, List.getElem_cons_succ, List.getElem_cons_zero]
          refine SG.take (i := 2) (v := ?_) rfl (by kernel_rfl) (by kernel_rfl) (by kernel_rfl) (fun _ _ _ h => h) (by decide) (by rfl) ?_ (by assumption) ?_
          rotate_left
          focus (intro w hSw; (try dsimp only at hSw); go_simp; (try with_reducible rfl))
          try simp only [Act.put, List.setIfInBounds_toArray, List.set_cons_zero, List.set_cons_succ, List.getElem_toArray, List.getElem_cons_succ, List.getElem_cons_zero]
          refine SG.take (i := 3) (v := ?_) rfl (by kernel_rfl) (by kernel_rfl) (by kernel_rfl) (fun _ _ _ h => h) (by decide) (by rfl) ?_ (by assumption) ?_
          rotate_left
          focus (intro w hSw; (try dsimp only at hSw); go_simp; (try with_reducible rfl))
          try simp only [Act.put, List.setIfInBounds_toArray, List.set_cons_zero, List.set_cons_succ, List.getElem_toArray, List.getElem_cons_succ, List.getElem_cons_zero]
          refine SG.take (i := 4) (v := ?_) rfl (by kernel_rfl) (by kernel_rfl) (by kernel_rfl) (fun _ _ _ h => h) (by decide) (by rfl) ?_ (by assumption) ?_
          rotate_left
          focus (intro w hSw; (try dsimp only at hSw); go_simp; (try with_reducible rfl))
          try simp only [Act.put, List.setIfInBounds_toArray, List.set_cons_zero, List.set_cons_succ, List.getElem_toArray, List.getElem_cons_succ, List.getElem_cons_zero]
          refine SG.take (i := 5) (v := ?_) rfl (by kernel_rfl) (by kernel_rfl) (by kernel_rfl) (fun _ _ _ h => h) (by decide) (by rfl) ?_ (by assumption) ?_
          rotate_left
          focus (intro w hSw; (try dsimp only at hSw); go_simp; (try with_reducible rfl))
          try simp only [Act.put, List.setIfInBounds_toArray, List.set_cons_zero, List.set_cons_succ, List.getElem_toArray, List.getElem_cons_succ, List.getElem_cons_zero]
          refine SG.take (i := 6) (v := ?_) rfl (by kernel_rfl) (by kernel_rfl) (by kernel_rfl) (fun _ _ _ h => h) (by decide) (by rfl) ?_ (by assumption) ?_
          rotate_left
          focus (intro w hSw; (try dsimp only at hSw); go_simp; (try with_reducible rfl))
          try simp only [Act.put, List.setIfInBounds_toArray, List.set_cons_zero, List.set_cons_succ, List.getElem_toArray, List.getElem_cons_succ, List.getElem_cons_zero]
          refine SG.take (i := 7) (v := ?_) rfl (by kernel_rfl) (by kernel_rfl) (by kernel_rfl) (fun _ _ _ h => h) (by decide) (by rfl) ?_ (by assumption) ?_
          rotate_left
          focus (intro w hSw; (try dsimp only at hSw); go_simp; (try with_reducible rfl))
          try simp only [Act.put, List.setIfInBounds_toArray, List.set_cons_zero, List.set_cons_succ, List.getElem_toArray, List.getElem_cons_succ, List.getElem_cons_zero]
          refine SG.take (i := 9) (v := ?_) rfl (by kernel_rfl) (by kernel_rfl) (by kernel_rfl) (fun _ _ _ h => h) (by decide) (by rfl) ?_ (by assumption) ?_
          rotate_left
          focus (intro w hSw; (try dsimp only at hSw); go_simp; (try with_reducible rfl))
          try simp only [Act.put, List.setIfInBounds_toArray, List.set_cons_zero, List.set_cons_succ, List.getElem_toArray, List.getElem_cons_succ, List.getElem_cons_zero]
          refine SG.take (i := 10) (v := ?_) rfl (by kernel_rfl) (by kernel_rfl) (by kernel_rfl) (fun _ _ _ h => h) (by decide) (by rfl) ?_ (by assumption) ?_
          rotate_left
          focus (intro w hSw; (try dsimp only at hSw); go_simp; (try with_reducible rfl))
          try simp only [Act.put, List.setIfInBounds_toArray, List.set_cons_zero, List.set_cons_succ, List.getElem_toArray, List.getElem_cons_succ, List.getElem_cons_zero]
          refine SG.take (i := 11) (v := ?_) rfl (by kernel_rfl) (by kernel_rfl) (by kernel_rfl) (fun _ _ _ h => h) (by decide) (by rfl) ?_ (by assumption) ?_
          rotate_left
          focus (intro w hSw; (try dsimp only at hSw); go_simp; (try with_reducible rfl))
          try simp only [Act.put, List.setIfInBounds_toArray, List.set_cons_zero, List.set_cons_succ, List.getElem_toArray, List.getElem_cons_succ, List.getElem_cons_zero]
          refine SG.take (i := 15) (v := ?_) rfl (by kernel_rfl) (by kernel_rfl) (by kernel_rfl) (fun _ _ _ h => h) (by decide) (by rfl) ?_ (by assumption) ?_
          rotate_left
          focus (intro w hSw; (try dsimp only at hSw); go_simp; (try with_reducible rfl))
          try simp only [Act.put, List.setIfInBounds_toArray, List.set_cons_zero, List.set_cons_succ, List.getElem_toArray, List.getElem_cons_succ, List.getElem_cons_zero]
          refine SG.take (i := 16) (v := ?_) rfl (by kernel_rfl) (by kernel_rfl) (by kernel_rfl) (fun _ _ _ h => h) (by decide) (by rfl) ?_ (by assumption) ?_
          rotate_left
          focus (intro w hSw; (try dsimp only at hSw); go_simp; (try with_reducible rfl))
          try simp only [Act.put, List.setIfInBounds_toArray, List.set_cons_zero, List.set_cons_succ, List.getElem_toArray, List.getElem_cons_succ, List.getElem_cons_zero]
          refine SG.take (i := 17) (v := ?_) rfl (by kernel_rfl) (by kernel_rfl) (by kernel_rfl) (fun _ _ _ h => h) (by decide) (by rfl) ?_ (by assumption) ?_
          rotate_left
          focus (intro w hSw; (try dsimp only at hSw); go_simp; (try with_reducible rfl))
          try simp only [Act.put, List.setIfInBounds_toArray, List.set_cons_zero, List.set_cons_succ, List.getElem_toArray, List.getElem_cons_succ, List.getElem_cons_zero]
          refine SG.take (i := 18) (v := ?_) rfl (by kernel_rfl) (by kernel_rfl) (by kernel_rfl) (fun _ _ _ h => h) (by decide) (by rfl) ?_ (by assumption) ?_
          rotate_left
          focus (intro w hSw; (try dsimp only at hSw); go_simp; (try with_reducible rfl))
          try simp only [Act.put, List.setIfInBounds_toArray, List.set_cons_zero, List.set_cons_succ, List.getElem_toArray, List.getElem_cons_succ, List.getElem_cons_zero]
          refine SG.take (i := 19) (v := ?_) rfl (by kernel_rfl) (by kernel_rfl) (by kernel_rfl) (fun _ _ _ h => h) (by decide) (by rfl) ?_ (by assumption) ?_
          rotate_left
          focus (intro w hSw; (try dsimp only at hSw); go_simp; (try with_reducible rfl))
          try simp only [Act.put, List.setIfInBounds_toArray, List.set_cons_zero, List.set_cons_succ, List.getElem_toArray, List.getElem_cons_succ, List.getElem_cons_zero]
          refine SG.take (i := 20) (v := ?_) rfl (by kernel_rfl) (by kernel_rfl) (by kernel_rfl) (fun _ _ _ h => h) (by decide) (by rfl) ?_ (by assumption) ?_
          rotate_left
          focus (intro w hSw; (try dsimp only at hSw); go_simp; (try with_reducible rfl))
          try simp only [Act.put, List.setIfInBounds_toArray, List.set_cons_zero, List.set_cons_succ, List.getElem_toArray, List.getElem_cons_succ, List.getElem_cons_zero]
          refine SG.take (i := 21) (v := ?_) rfl (by kernel_rfl) (by kernel_rfl) (by kernel_rfl) (fun _ _ _ h => h) (by decide) (by rfl) ?_ (by assumption) ?_
          rotate_left
          focus (intro w hSw; (try dsimp only at hSw); go_simp; (try with_reducible rfl))
          try simp only [Act.put, List.setIfInBounds_toArray, List.set_cons_zero, List.set_cons_succ, List.getElem_toArray, List.getElem_cons_succ, List.getElem_cons_zero]
          refine SG.take (i := 22) (v := ?_) rfl (by kernel_rfl) (by kernel_rfl) (by kernel_rfl) (fun _ _ _ h => h) (by decide) (by rfl) ?_ (by assumption) ?_
          rotate_left
          focus (intro w hSw; (try dsimp only at hSw); go_simp; (try with_reducible rfl))
          try simp only [Act.put, List.setIfInBounds_toArray, List.set_cons_zero, List.set_cons_succ, List.getElem_toArray, List.getElem_cons_succ, List.getElem_cons_zero]
          refine SG.take (i := 23) (v := ?_) rfl (by kernel_rfl) (by kernel_rfl) (by kernel_rfl) (fun _ _ _ h => h) (by decide) (by rfl) ?_ (by assumption) ?_
          rotate_left
          focus (intro w hSw; (try dsimp only at hSw); go_simp; (try with_reducible rfl))
          try simp only [Act.put, List.setIfInBounds_toArray, List.set_cons_zero, List.set_cons_succ, List.getElem_toArray, List.getElem_cons_succ, List.getElem_cons_zero]
          refine SG.take (i := 24) (v := ?_) rfl (by kernel_rfl) (by kernel_rfl) (by kernel_rfl) (fun _ _ _ h => h) (by decide) (by rfl) ?_ (by assumption) ?_
          rotate_left
          focus (intro w hSw; (try dsimp only at hSw); go_simp; (try with_reducible rfl))
          try simp only [Act.put, List.setIfInBounds_toArray, List.set_cons_zero, List.set_cons_succ, List.getElem_toArray, List.getElem_cons_succ, List.getElem_cons_zero]
          refine SG.take (i := 25) (v := ?_) rfl (by kernel_rfl) (by kernel_rfl) (by kernel_rfl) (fun _ _ _ h => h) (by decide) (by rfl) ?_ (by assumption) ?_
          rotate_left
          focus (intro w hSw; (try dsimp only at hSw); go_simp; (try with_reducible rfl))
          try simp only [Act.put, List.setIfInBounds_toArray, List.set_cons_zero, List.set_cons_succ, List.getElem_toArray, List.getElem_cons_succ, List.getElem_cons_zero]
          refine SG.take (i := 26) (v := ?_) rfl (by kernel_rfl) (by kernel_rfl) (by kernel_rfl) (fun _ _ _ h => h) (by decide) (by rfl) ?_ (by assumption) ?_
          rotate_left
          focus (intro w hSw; (try dsimp only at hSw); go_simp; (try with_reducible rfl))
          try simp only [Act.put, List.setIfInBounds_toArray, List.set_cons_zero, List.set_cons_succ, List.getElem_toArray, List.getElem_cons_succ, List.getElem_cons_zero]
          refine SG.take (i := 27) (v := ?_) rfl (by kernel_rfl) (by kernel_rfl) (by kernel_rfl) (fun _ _ _ h => h) (by decide) (by rfl) ?_ (by assumption) ?_
          rotate_left
          focus (intro w hSw; (try dsimp only at hSw); go_simp; (try with_reducible rfl))
          try simp only [Act.put, List.setIfInBounds_toArray, List.set_cons_zero, List.set_cons_succ, List.getElem_toArray, List.getElem_cons_succ, List.getElem_cons_zero]
          refine SG.take (i := 28) (v := ?_) rfl (by kernel_rfl) (by kernel_rfl) (by kernel_rfl) (fun _ _ _ h => h) (by decide) (by rfl) ?_ (by assumption) ?_
          rotate_left
          focus (intro w hSw; (try dsimp only at hSw); go_simp; (try with_reducible rfl))
          try simp only [Act.put, List.setIfInBounds_toArray, List.set_cons_zero, List.set_cons_succ, List.getElem_toArray, List.getElem_cons_succ, List.getElem_cons_zero]
          refine SG.take (i := 29) (v := ?_) rfl (by kernel_rfl) (by kernel_rfl) (by kernel_rfl) (fun _ _ _ h => h) (by decide) (by rfl) ?_ (by assumption) ?_
          rotate_left
          focus (intro w hSw; (try dsimp only at hSw); go_simp; (try with_reducible rfl))
          try simp only [Act.put, List.setIfInBounds_toArray, List.set_cons_zero, List.set_cons_succ, List.getElem_toArray, List.getElem_cons_succ, List.getElem_cons_zero]
          refine AllG.ready (rs := [8, 12]) (by kernel_rfl) (by simp) ?_
          refine AllG.cons (o := _) rfl (fun K hK => ?_) ?_
          go_simp
          go_at_call 23
          refine (CN.out _ (by first | exact (Below.refl _ _).drew | exact Below.refl _ _ | exact Below.allocs (Below.refl _ _) _)).mono ?_
          rintro e wn ⟨rfl, y0n, y1n, y2n, y3n, y4n, hq0n, hq1n, hgn, hzwn, HBwn, HFwn⟩
          try go_wp2_with fail
          clear hHeld
          refine hK.out _ _ ⟨?_, ?_⟩ (fun hHeld => ?_)
          focus ((try dsimp only); first | (refine ⟨?_, ?_, ?_⟩ <;> assumption) | go_keep)
          focus (intro _; (try dsimp only); first | assumption | go_keep)
          clear hK K
          try simp only [Act.put, List.setIfInBounds_toArray, List.set_cons_zero, List.set_cons_succ, List.getElem_toArray, List.getElem_cons_succ, List.getElem_cons_zero]
          refine AllG.ready (rs := [12, 30]) (by kernel_rfl) (by simp) ?_
          refine AllG.cons (o := _) rfl (fun K hK => ?_) ?_
          go_simp
          clear hHeld
          refine hK.out _ _ ⟨?_, ?_⟩ (fun hHeld => ?_)
          focus ((try dsimp only); first | (refine ⟨?_, ?_, ?_⟩ <;> assumption) | go_keep)
          focus (intro _; (try dsimp only); first | assumption | go_keep)
          clear hK K
          try simp only [Act.put, List.setIfInBounds_toArray, List.set_cons_zero, List.set_cons_succ, List.getElem_toArray, List.getElem_cons_succ, List.getElem_cons_zero]
          refine AllG.ready (rs := [13, 30]) (by kernel_rfl) (by simp) ?_
          refine AllG.cons (o := _) rfl (fun K hK => ?_) ?_
          go_simp
          clear hHeld
          refine hK.out _ _ ⟨?_, ?_⟩ (fun hHeld => ?_)
          focus ((try dsimp only); first | (refine ⟨?_, ?_, ?_⟩ <;> assumption) | go_keep)
          focus (intro _; (try dsimp only); first | assumption | go_keep)
          clear hK K
          try simp only [Act.put, List.setIfInBounds_toArray, List.set_cons_zero, List.set_cons_succ, List.getElem_toArray, List.getElem_cons_succ, List.getElem_cons_zero]
          refine SG.take (i := 14) (v := ?_) rfl (by kernel_rfl) (by kernel_rfl) (by kernel_rfl) (fun _ _ _ h => h) (by decide) (by rfl) ?_ (by assumption) ?_
          rotate_left
          focus (intro w hSw; (try dsimp only at hSw); go_simp; (try with_reducible rfl))
          try simp only [Act.put, List.setIfInBounds_toArray, List.set_cons_zero, List.set_cons_succ, List.getElem_toArray, List.getElem_cons_succ, List.getElem_cons_zero]
          refine AllG.ready (rs := [30]) (by kernel_rfl) (by simp) ?_
          refine AllG.cons (o := _) rfl (fun K hK => ?_) ?_
          go_simp
          go_at_call 24
          refine (CP.out _ (Below.allocs HBwn.out _)).mono ?_
          rintro e wp ⟨V, rfl, ⟨y0p, y1p, y2p, y3p, y4p, hq0p, hq1p, hgp, hzwp, HBwp, HFwp⟩, HVV⟩
          try go_wp2_with fail
          clear hHeld
          refine hK.out _ _ ⟨?_, ?_⟩ (fun hHeld => ?_)
          focus ((try dsimp only); first | (refine ⟨?_, ?_, ?_⟩ <;> assumption) | go_keep)
          focus (intro _; (try dsimp only); first | assumption | go_keep)
          clear hK K
          try simp only [Act.put, List.setIfInBounds_toArray, List.set_cons_zero, List.set_cons_succ, List.getElem_toArray, List.getElem_cons_succ, List.getElem_cons_zero]
          refine SG.take (i := 31) (v := ?_) rfl (by kernel_rfl) (by kernel_rfl) (by kernel_rfl) (fun _ _ _ h => h) (by decide) (by rfl) ?_ (by assumption) ?_
          rotate_left
          focus (intro w hSw; (try dsimp only at hSw); go_simp; (try with_reducible rfl))
          try simp only [Act.put, List.setIfInBounds_toArray, List.set_cons_zero, List.set_cons_succ, List.getElem_toArray, List.getElem_cons_succ, List.getElem_cons_zero]
          refine AllG.ready (rs := [32]) (by kernel_rfl) (by simp) ?_
          refine AllG.cons (o := _) rfl (fun K hK => ?_) ?_
          go_simp
          clear hHeld
          refine hK.out _ _ ⟨?_, ?_⟩ (fun hHeld => ?_)
          focus ((try dsimp only); first | (refine ⟨?_, ?_, ?_⟩ <;> assumption) | go_keep)
          focus (intro _; (try dsimp only); first | assumption | go_keep)
          clear hK K
          try simp only [Act.put, List.setIfInBounds_toArray, List.set_cons_zero, List.set_cons_succ, List.getElem_toArray, List.getElem_cons_succ, List.getElem_cons_zero]
          refine AllG.ready (rs := [33]) (by kernel_rfl) (by simp) ?_
          refine AllG.cons (o := _) rfl (fun K hK => ?_) ?_
          refine app_att (wc := wc) (base := Q + 2) (k := k) (vc := vc) (va := va) (A := A) (N := NM ++ ⟨#[ub x]⟩) (V := str V) (B := wp.heap.size) ?ka1 ?kb1 ?kc1 ?kd1 ?ke1 HOwn.out (HBwp.out) h2 HQ2.out rfl ?kf1 ?kg1
          case ka1 => rfl
          case kd1 => rfl
          case ke1 => rfl
          case kf1 => rfl
          intro gg cap' w7 hown7 hgrow
          have HG7 := Lib.hid hgrow
          have HO7 := Lib.hid hown7
          have HA7 := Lib.hid (Below.allocs (HBwp.out) (.cells #[.string (NM ++ ⟨#[ub x]⟩), .string (str V)] 56))
          obtain ⟨s0, s1, s2, k7, g7⟩ := nr7 hgrow HA7.out hq0 hq1 hgr HNe0.out HNe.out HNe1.out x2 n2 f2 a0 a1
          clear hgrow hown7
          clear hHeld
          refine hK.out _ _ ⟨?_, ?_⟩ (fun hHeld => ?_)
          focus ((try dsimp only); first | (refine ⟨?_, ?_, ?_⟩ <;> assumption) | go_keep)
          focus (intro hL; exact (no_listed (by kernel_rfl) hL).elim)
          clear hK K
          try simp only [Act.put, List.setIfInBounds_toArray, List.set_cons_zero, List.set_cons_succ, List.getElem_toArray, List.getElem_cons_succ, List.getElem_cons_zero]
          refine SG.take (i := 34) (v := ?_) rfl (by kernel_rfl) (by kernel_rfl) (by kernel_rfl) (fun _ _ _ h => h) (by decide) (by rfl) ?_ (by assumption) ?_
          rotate_left
          focus (intro w hSw; (try dsimp only at hSw); go_simp; (try with_reducible rfl))
          try simp only [Act.put, List.setIfInBounds_toArray, List.set_cons_zero, List.set_cons_succ, List.getElem_toArray, List.getElem_cons_succ, List.getElem_cons_zero]
          refine AllG.ready (rs := [35]) (by kernel_rfl) (by simp) ?_
          refine AllG.cons (o := _) rfl (fun K hK => ?_) ?_
          go_simp
          clear hHeld
          refine hK.out _ _ ⟨?_, ?_⟩ (fun hHeld => ?_)
          focus ((try dsimp only); first | (refine ⟨?_, ?_, ?_⟩ <;> assumption) | go_keep)
          focus (intro hL; exact (no_listed (by kernel_rfl) hL).elim)
          clear hK K
          try simp only [Act.put, List.setIfInBounds_toArray, List.set_cons_zero, List.set_cons_succ, List.getElem_toArray, List.getElem_cons_succ, List.getElem_cons_zero]
          refine AnyG.done (by kernel_rfl) ?_ _
          have H7 := Lib.hid (nrFin HR.out HA7.out HAk.out h2 HNMe.out HXE.out (by have := HVV.out; exact ⟨this.1, by omega⟩) HO7.out HG7.out)
          clear HG7 HO7 HA7 s0 s1 s2 k7 g7 y0p y1p y2p y3p y4p y0n y1n y2n y3n y4n HBwn HBwp HFwn HFwp hHeld
          go_wp2_with fail
          go_meet
          exact H7.out
          exact AllG.nil
          exact AllG.nil
          exact AllG.nil
          exact AllG.nil
          refine AllG.cons (o := _) rfl (fun K hK => ?_) ?_
          go_simp
          go_at_call 24
          refine (CP.out _ (Below.allocs HBwn.out _)).mono ?_
          rintro e wp ⟨V, rfl, ⟨y0p, y1p, y2p, y3p, y4p, hq0p, hq1p, hgp, hzwp, HBwp, HFwp⟩, HVV⟩
          have b1wp := HFwp.out _ _ (alloc_lt06 wn _) (alloc_cell06 wn x _)
          try go_wp2_with fail
          clear hHeld
          refine hK.out _ _ ⟨?_, ?_⟩ (fun hHeld => ?_)
          focus ((try dsimp only); first | (refine ⟨?_, ?_, ?_⟩ <;> assumption) | go_keep)
          focus (intro _; (try dsimp only); first | assumption | go_keep)
          clear hK K
          try simp only [Act.put, List.setIfInBounds_toArray, List.set_cons_zero, List.set_cons_succ, List.getElem_toArray, List.getElem_cons_succ, List.getElem_cons_zero]
          refine AllG.ready (rs := [13]) (by kernel_rfl) (by simp) ?_
          refine AllG.cons (o := _) rfl (fun K hK => ?_) ?_
          go_simp
          clear hHeld
          refine hK.out _ _ ⟨?_, ?_⟩ (fun hHeld => ?_)
          focus ((try dsimp only); first | (refine ⟨?_, ?_, ?_⟩ <;> assumption) | go_keep)
          focus (intro _; (try dsimp only); first | assumption | go_keep)
          clear hK K
          try simp only [Act.put, List.setIfInBounds_toArray, List.set_cons_zero, List.set_cons_succ, List.getElem_toArray, List.getElem_cons_succ, List.getElem_cons_zero]
          refine SG.take (i := 14) (v := ?_) rfl (by kernel_rfl) (by kernel_rfl) (by kernel_rfl) (fun _ _ _ h => h) (by decide) (by rfl) ?_ (by assumption) ?_
          rotate_left
          focus (intro w hSw; (try dsimp only at hSw); go_simp; (try with_reducible rfl))
          try simp only [Act.put, List.setIfInBounds_toArray, List.set_cons_zero, List.set_cons_succ, List.getElem_toArray, List.getElem_cons_succ, List.getElem_cons_zero]
          refine SG.take (i := 31) (v := ?_) rfl (by kernel_rfl) (by kernel_rfl) (by kernel_rfl) (fun _ _ _ h => h) (by decide) (by rfl) ?_ (by assumption) ?_
          rotate_left
          focus (intro w hSw; (try dsimp only at hSw); go_simp; (try with_reducible rfl))
          try simp only [Act.put, List.setIfInBounds_toArray, List.set_cons_zero, List.set_cons_succ, List.getElem_toArray, List.getElem_cons_succ, List.getElem_cons_zero]
          refine AllG.ready (rs := [32]) (by kernel_rfl) (by simp) ?_
          refine AllG.cons (o := _) rfl (fun K hK => ?_) ?_
          go_simp
          clear hHeld
          refine hK.out _ _ ⟨?_, ?_⟩ (fun hHeld => ?_)
          focus ((try dsimp only); first | (refine ⟨?_, ?_, ?_⟩ <;> assumption) | go_keep)
          focus (intro _; (try dsimp only); first | assumption | go_keep)
          clear hK K
          try simp only [Act.put, List.setIfInBounds_toArray, List.set_cons_zero, List.set_cons_succ, List.getElem_toArray, List.getElem_cons_succ, List.getElem_cons_zero]
          refine AllG.ready (rs := [33]) (by kernel_rfl) (by simp) ?_
          refine AllG.cons (o := _) rfl (fun K hK => ?_) ?_
          refine app_att (wc := wc) (base := Q + 2) (k := k) (vc := vc) (va := va) (A := A) (N := NM ++ ⟨#[ub x]⟩) (V := str V) (B := wp.heap.size) ?ka2 ?kb2 ?kc2 ?kd2 ?ke2 HOwn.out (HBwp.out) h2 HQ2.out rfl ?kf2 ?kg2
          case ka2 => rfl
          case kd2 => rfl
          case ke2 => rfl
          case kf2 => rfl
          intro gg cap' w7 hown7 hgrow
          have HG7 := Lib.hid hgrow
          have HO7 := Lib.hid hown7
          have HA7 := Lib.hid (Below.allocs (HBwp.out) (.cells #[.string (NM ++ ⟨#[ub x]⟩), .string (str V)] 56))
          obtain ⟨s0, s1, s2, k7, g7⟩ := nr7 hgrow HA7.out hq0 hq1 hgr HNe0.out HNe.out HNe1.out x2 n2 f2 a0 a1
          clear hgrow hown7
          clear hHeld
          refine hK.out _ _ ⟨?_, ?_⟩ (fun hHeld => ?_)
          focus ((try dsimp only); first | (refine ⟨?_, ?_, ?_⟩ <;> assumption) | go_keep)
          focus (intro hL; exact (no_listed (by kernel_rfl) hL).elim)
          clear hK K
          try simp only [Act.put, List.setIfInBounds_toArray, List.set_cons_zero, List.set_cons_succ, List.getElem_toArray, List.getElem_cons_succ, List.getElem_cons_zero]
          refine SG.take (i := 34) (v := ?_) rfl (by kernel_rfl) (by kernel_rfl) (by kernel_rfl) (fun _ _ _ h => h) (by decide) (by rfl) ?_ (by assumption) ?_
          rotate_left
          focus (intro w hSw; (try dsimp only at hSw); go_simp; (try with_reducible rfl))
          try simp only [Act.put, List.setIfInBounds_toArray, List.set_cons_zero, List.set_cons_succ, List.getElem_toArray, List.getElem_cons_succ, List.getElem_cons_zero]
          refine AllG.ready (rs := [35]) (by kernel_rfl) (by simp) ?_
          refine AllG.cons (o := _) rfl (fun K hK => ?_) ?_
          go_simp
          clear hHeld
          refine hK.out _ _ ⟨?_, ?_⟩ (fun hHeld => ?_)
          focus ((try dsimp only); first | (refine ⟨?_, ?_, ?_⟩ <;> assumption) | go_keep)
          focus (intro hL; exact (no_listed (by kernel_rfl) hL).elim)
          clear hK K
          try simp only [Act.put, List.setIfInBounds_toArray, List.set_cons_zero, List.set_cons_succ, List.getElem_toArray, List.getElem_cons_succ, List.getElem_cons_zero]
          refine AnyG.done (by kernel_rfl) ?_ _
          have H7 := Lib.hid (nrFin HR.out HA7.out HAk.out h2 HNMe.out HXE.out (by have := HVV.out; exact ⟨this.1, by omega⟩) HO7.out HG7.out)
          clear HG7 HO7 HA7 s0 s1 s2 k7 g7 y0p y1p y2p y3p y4p y0n y1n y2n y3n y4n HBwn HBwp HFwn HFwp hHeld
          go_wp2_with fail
          go_meet
          exact H7.out
          exact AllG.nil
          exact AllG.nil
          exact AllG.nil
          exact AllG.nil
          exact AllG.nil
          refine AllG.cons (o := _) rfl (fun K hK => ?_) ?_
          go_simp
          go_at_call 24
          refine (CP.out _ (HBwn.out)).mono ?_
          rintro e wp ⟨V, rfl, ⟨y0p, y1p, y2p, y3p, y4p, hq0p, hq1p, hgp, hzwp, HBwp, HFwp⟩, HVV⟩
          try go_wp2_with fail
          clear hHeld
          refine hK.out _ _ ⟨?_, ?_⟩ (fun hHeld => ?_)
          focus ((try dsimp only); first | (refine ⟨?_, ?_, ?_⟩ <;> assumption) | go_keep)
          focus (intro _; (try dsimp only); first | assumption | go_keep)
          clear hK K
          try simp only [Act.put, List.setIfInBounds_toArray, List.set_cons_zero, List.set_cons_succ, List.getElem_toArray, List.getElem_cons_succ, List.getElem_cons_zero]
          refine AllG.ready (rs := [12]) (by kernel_rfl) (by simp) ?_
          refine AllG.cons (o := _) rfl (fun K hK => ?_) ?_
          go_simp
          clear hHeld
          refine hK.out _ _ ⟨?_, ?_⟩ (fun hHeld => ?_)
          focus ((try dsimp only); first | (refine ⟨?_, ?_, ?_⟩ <;> assumption) | go_keep)
          focus (intro _; (try dsimp only); first | assumption | go_keep)
          clear hK K
          try simp only [Act.put, List.setIfInBounds_toArray, List.set_cons_zero, List.set_cons_succ, List.getElem_toArray, List.getElem_cons_succ, List.getElem_cons_zero]
          refine AllG.ready (rs := [13]) (by kernel_rfl) (by simp) ?_
          refine AllG.cons (o := _) rfl (fun K hK => ?_) ?_
          go_simp
          clear hHeld
          refine hK.out _ _ ⟨?_, ?_⟩ (fun hHeld => ?_)
          focus ((try dsimp only); first | (refine ⟨?_, ?_, ?_⟩ <;> assumption) | go_keep)
          focus (intro _; (try dsimp only); first | assumption | go_keep)
          clear hK K
          try simp only [Act.put, List.setIfInBounds_toArray, List.set_cons_zero, List.set_cons_succ, List.getElem_toArray, List.getElem_cons_succ, List.getElem_cons_zero]
          refine SG.take (i := 14) (v := ?_) rfl (by kernel_rfl) (by kernel_rfl) (by kernel_rfl) (fun _ _ _ h => h) (by decide) (by rfl) ?_ (by assumption) ?_
          rotate_left
          focus (intro w hSw; (try dsimp only at hSw); go_simp; (try with_reducible rfl))
          try simp only [Act.put, List.setIfInBounds_toArray, List.set_cons_zero, List.set_cons_succ, List.getElem_toArray, List.getElem_cons_succ, List.getElem_cons_zero]
          refine SG.take (i := 31) (v := ?_) rfl (by kernel_rfl) (by kernel_rfl) (by kernel_rfl) (fun _ _ _ h => h) (by decide) (by rfl) ?_ (by assumption) ?_
          rotate_left
          focus (intro w hSw; (try dsimp only at hSw); go_simp; (try with_reducible rfl))
          try simp only [Act.put, List.setIfInBounds_toArray, List.set_cons_zero, List.set_cons_succ, List.getElem_toArray, List.getElem_cons_succ, List.getElem_cons_zero]
          refine AllG.ready (rs := [32]) (by kernel_rfl) (by simp) ?_
          refine AllG.cons (o := _) rfl (fun K hK => ?_) ?_
          go_simp
          clear hHeld
          refine hK.out _ _ ⟨?_, ?_⟩ (fun hHeld => ?_)
          focus ((try dsimp only); first | (refine ⟨?_, ?_, ?_⟩ <;> assumption) | go_keep)
          focus (intro _; (try dsimp only); first | assumption | go_keep)
          clear hK K
          try simp only [Act.put, List.setIfInBounds_toArray, List.set_cons_zero, List.set_cons_succ, List.getElem_toArray, List.getElem_cons_succ, List.getElem_cons_zero]
          refine AllG.ready (rs := [33]) (by kernel_rfl) (by simp) ?_
          refine AllG.cons (o := _) rfl (fun K hK => ?_) ?_
          refine app_att (wc := wc) (base := Q + 2) (k := k) (vc := vc) (va := va) (A := A) (N := NM ++ ⟨#[ub x]⟩) (V := str V) (B := wp.heap.size + 1) ?ka3 ?kb3 ?kc3 ?kd3 ?ke3 HOwn.out (Below.allocs HBwp.out (.cells #[.int .u8 x] 5)) h2 HQ2.out (size06 wp _) ?kf3 ?kg3
          case ka3 => rfl
          case kd3 => rfl
          case ke3 => rfl
          case kf3 => rfl
          intro gg cap' w7 hown7 hgrow
          have HG7 := Lib.hid hgrow
          have HO7 := Lib.hid hown7
          have HA7 := Lib.hid (Below.allocs (Below.allocs HBwp.out (.cells #[.int .u8 x] 5)) (.cells #[.string (NM ++ ⟨#[ub x]⟩), .string (str V)] 56))
          obtain ⟨s0, s1, s2, k7, g7⟩ := nr7 hgrow HA7.out hq0 hq1 hgr HNe0.out HNe.out HNe1.out x2 n2 f2 a0 a1
          clear hgrow hown7
          clear hHeld
          refine hK.out _ _ ⟨?_, ?_⟩ (fun hHeld => ?_)
          focus ((try dsimp only); first | (refine ⟨?_, ?_, ?_⟩ <;> assumption) | go_keep)
          focus (intro hL; exact (no_listed (by kernel_rfl) hL).elim)
          clear hK K
          try simp only [Act.put, List.setIfInBounds_toArray, List.set_cons_zero, List.set_cons_succ, List.getElem_toArray, List.getElem_cons_succ, List.getElem_cons_zero]
          refine SG.take (i := 34) (v := ?_) rfl (by kernel_rfl) (by kernel_rfl) (by kernel_rfl) (fun _ _ _ h => h) (by decide) (by rfl) ?_ (by assumption) ?_
          rotate_left
          focus (intro w hSw; (try dsimp only at hSw); go_simp; (try with_reducible rfl))
          try simp only [Act.put, List.setIfInBounds_toArray, List.set_cons_zero, List.set_cons_succ, List.getElem_toArray, List.getElem_cons_succ, List.getElem_cons_zero]
          refine AllG.ready (rs := [35]) (by kernel_rfl) (by simp) ?_
          refine AllG.cons (o := _) rfl (fun K hK => ?_) ?_
          go_simp
          clear hHeld
          refine hK.out _ _ ⟨?_, ?_⟩ (fun hHeld => ?_)
          focus ((try dsimp only); first | (refine ⟨?_, ?_, ?_⟩ <;> assumption) | go_keep)
          focus (intro hL; exact (no_listed (by kernel_rfl) hL).elim)
          clear hK K
          try simp only [Act.put, List.setIfInBounds_toArray, List.set_cons_zero, List.set_cons_succ, List.getElem_toArray, List.getElem_cons_succ, List.getElem_cons_zero]
          refine AnyG.done (by kernel_rfl) ?_ _
          have H7 := Lib.hid (nrFin HR.out HA7.out HAk.out h2 HNMe.out HXE.out (by have := HVV.out; exact ⟨this.1, by omega⟩) HO7.out HG7.out)
          clear HG7 HO7 HA7 s0 s1 s2 k7 g7 y0p y1p y2p y3p y4p y0n y1n y2n y3n y4n HBwn HBwp HFwn HFwp hHeld
          go_wp2_with fail
          go_meet
          exact H7.out
          exact AllG.nil
          exact AllG.nil
          exact AllG.nil
          exact AllG.nil
          exact AllG.nil
          exact AllG.nil
          refine AllG.cons (o := _) rfl (fun K hK => ?_) ?_
          go_simp
          clear hHeld
          refine hK.out _ _ ⟨?_, ?_⟩ (fun hHeld => ?_)
          focus ((try dsimp only); first | (refine ⟨?_, ?_, ?_⟩ <;> assumption) | go_keep)
          focus (intro _; (try dsimp only); first | assumption | go_keep)
          clear hK K
          try simp only [Act.put, List.setIfInBounds_toArray, List.set_cons_zero, List.set_cons_succ, List.getElem_toArray, List.getElem_cons_succ, List.getElem_cons_zero]
          refine AllG.ready (rs := [8, 13]) (by kernel_rfl) (by simp) ?_
          refine AllG.cons (o := _) rfl (fun K hK => ?_) ?_
          go_simp
          go_at_call 23
          refine (CN.out _ (by first | exact (Below.allocs (Below.refl _ _) _).drew | exact Below.refl _ _ | exact Below.allocs (Below.refl _ _) _)).mono ?_
          rintro e wn ⟨rfl, y0n, y1n, y2n, y3n, y4n, hq0n, hq1n, hgn, hzwn, HBwn, HFwn⟩
          have b1wn := HFwn.out _ _ (alloc_lt06 wc _) (alloc_cell06 wc x _)
          try go_wp2_with fail
          clear hHeld
          refine hK.out _ _ ⟨?_, ?_⟩ (fun hHeld => ?_)
          focus ((try dsimp only); first | (refine ⟨?_, ?_, ?_⟩ <;> assumption) | go_keep)
          focus (intro _; (try dsimp only); first | assumption | go_keep)
          clear hK K
          try simp only [Act.put, List.setIfInBounds_toArray, List.set_cons_zero, List.set_cons_succ, List.getElem_toArray, List.getElem_cons_succ, List.getElem_cons_zero]
          refine AllG.ready (rs := [13, 30]) (by kernel_rfl) (by simp) ?_
          refine AllG.cons (o := _) rfl (fun K hK => ?_) ?_
          go_simp
          clear hHeld
          refine hK.out _ _ ⟨?_, ?_⟩ (fun hHeld => ?_)
          focus ((try dsimp only); first | (refine ⟨?_, ?_, ?_⟩ <;> assumption) | go_keep)
          focus (intro _; (try dsimp only); first | assumption | go_keep)
          clear hK K
          try simp only [Act.put, List.setIfInBounds_toArray, List.set_cons_zero, List.set_cons_succ, List.getElem_toArray, List.getElem_cons_succ, List.getElem_cons_zero]
          refine SG.take (i := 14) (v := ?_) rfl (by kernel_rfl) (by kernel_rfl) (by kernel_rfl) (fun _ _ _ h => h) (by decide) (by rfl) ?_ (by assumption) ?_
          rotate_left
          focus (intro w hSw; (try dsimp only at hSw); go_simp; (try with_reducible rfl))
          try simp only [Act.put, List.setIfInBounds_toArray, List.set_cons_zero, List.set_cons_succ, List.getElem_toArray, List.getElem_cons_succ, List.getElem_cons_zero]
          refine AllG.ready (rs := [30]) (by kernel_rfl) (by simp) ?_
          refine AllG.cons (o := _) rfl (fun K hK => ?_) ?_
          go_simp
          go_at_call 24
          refine (CP.out _ (HBwn.out)).mono ?_
          rintro e wp ⟨V, rfl, ⟨y0p, y1p, y2p, y3p, y4p, hq0p, hq1p, hgp, hzwp, HBwp, HFwp⟩, HVV⟩
          try go_wp2_with fail
          clear hHeld
          refine hK.out _ _ ⟨?_, ?_⟩ (fun hHeld => ?_)
          focus ((try dsimp only); first | (refine ⟨?_, ?_, ?_⟩ <;> assumption) | go_keep)
          focus (intro _; (try dsimp only); first | assumption | go_keep)
          clear hK K
          try simp only [Act.put, List.setIfInBounds_toArray, List.set_cons_zero, List.set_cons_succ, List.getElem_toArray, List.getElem_cons_succ, List.getElem_cons_zero]
          refine SG.take (i := 31) (v := ?_) rfl (by kernel_rfl) (by kernel_rfl) (by kernel_rfl) (fun _ _ _ h => h) (by decide) (by rfl) ?_ (by assumption) ?_
          rotate_left
          focus (intro w hSw; (try dsimp only at hSw); go_simp; (try with_reducible rfl))
          try simp only [Act.put, List.setIfInBounds_toArray, List.set_cons_zero, List.set_cons_succ, List.getElem_toArray, List.getElem_cons_succ, List.getElem_cons_zero]
          refine AllG.ready (rs := [32]) (by kernel_rfl) (by simp) ?_
          refine AllG.cons (o := _) rfl (fun K hK => ?_) ?_
          go_simp
          clear hHeld
          refine hK.out _ _ ⟨?_, ?_⟩ (fun hHeld => ?_)
          focus ((try dsimp only); first | (refine ⟨?_, ?_, ?_⟩ <;> assumption) | go_keep)
          focus (intro _; (try dsimp only); first | assumption | go_keep)
          clear hK K
          try simp only [Act.put, List.setIfInBounds_toArray, List.set_cons_zero, List.set_cons_succ, List.getElem_toArray, List.getElem_cons_succ, List.getElem_cons_zero]
          refine AllG.ready (rs := [33]) (by kernel_rfl) (by simp) ?_
          refine AllG.cons (o := _) rfl (fun K hK => ?_) ?_
          refine app_att (wc := wc) (base := Q + 2) (k := k) (vc := vc) (va := va) (A := A) (N := NM ++ ⟨#[ub x]⟩) (V := str V) (B := wp.heap.size) ?ka4 ?kb4 ?kc4 ?kd4 ?ke4 HOwn.out (HBwp.out) h2 HQ2.out rfl ?kf4 ?kg4
          case ka4 => rfl
          case kd4 => rfl
          case ke4 => rfl
          case kf4 => rfl
          intro gg cap' w7 hown7 hgrow
          have HG7 := Lib.hid hgrow
          have HO7 := Lib.hid hown7
          have HA7 := Lib.hid (Below.allocs (HBwp.out) (.cells #[.string (NM ++ ⟨#[ub x]⟩), .string (str V)] 56))
          obtain ⟨s0, s1, s2, k7, g7⟩ := nr7 hgrow HA7.out hq0 hq1 hgr HNe0.out HNe.out HNe1.out x2 n2 f2 a0 a1
          clear hgrow hown7
          clear hHeld
          refine hK.out _ _ ⟨?_, ?_⟩ (fun hHeld => ?_)
          focus ((try dsimp only); first | (refine ⟨?_, ?_, ?_⟩ <;> assumption) | go_keep)
          focus (intro hL; exact (no_listed (by kernel_rfl) hL).elim)
          clear hK K
          try simp only [Act.put, List.setIfInBounds_toArray, List.set_cons_zero, List.set_cons_succ, List.getElem_toArray, List.getElem_cons_succ, List.getElem_cons_zero]
          refine SG.take (i := 34) (v := ?_) rfl (by kernel_rfl) (by kernel_rfl) (by kernel_rfl) (fun _ _ _ h => h) (by decide) (by rfl) ?_ (by assumption) ?_
          rotate_left
          focus (intro w hSw; (try dsimp only at hSw); go_simp; (try with_reducible rfl))
          try simp only [Act.put, List.setIfInBounds_toArray, List.set_cons_zero, List.set_cons_succ, List.getElem_toArray, List.getElem_cons_succ, List.getElem_cons_zero]
          refine AllG.ready (rs := [35]) (by kernel_rfl) (by simp) ?_
          refine AllG.cons (o := _) rfl (fun K hK => ?_) ?_
          go_simp
          clear hHeld
          refine hK.out _ _ ⟨?_, ?_⟩ (fun hHeld => ?_)
          focus ((try dsimp only); first | (refine ⟨?_, ?_, ?_⟩ <;> assumption) | go_keep)
          focus (intro hL; exact (no_listed (by kernel_rfl) hL).elim)
          clear hK K
          try simp only [Act.put, List.setIfInBounds_toArray, List.set_cons_zero, List.set_cons_succ, List.getElem_toArray, List.getElem_cons_succ, List.getElem_cons_zero]
          refine AnyG.done (by kernel_rfl) ?_ _
          have H7 := Lib.hid (nrFin HR.out HA7.out HAk.out h2 HNMe.out HXE.out (by have := HVV.out; exact ⟨this.1, by omega⟩) HO7.out HG7.out)
          clear HG7 HO7 HA7 s0 s1 s2 k7 g7 y0p y1p y2p y3p y4p y0n y1n y2n y3n y4n HBwn HBwp HFwn HFwp hHeld
          go_wp2_with fail
          go_meet
          exact H7.out
          exact AllG.nil
          exact AllG.nil
          exact AllG.nil
          exact AllG.nil
          refine AllG.cons (o := _) rfl (fun K hK => ?_) ?_
          go_simp
          go_at_call 24
          refine (CP.out _ (HBwn.out)).mono ?_
          rintro e wp ⟨V, rfl, ⟨y0p, y1p, y2p, y3p, y4p, hq0p, hq1p, hgp, hzwp, HBwp, HFwp⟩, HVV⟩
          have b1wp := HFwp.out _ _ (Nat.lt_of_lt_of_le (alloc_lt06 wc _) hzwn) b1wn
          try go_wp2_with fail
          clear hHeld
          refine hK.out _ _ ⟨?_, ?_⟩ (fun hHeld => ?_)
          focus ((try dsimp only); first | (refine ⟨?_, ?_, ?_⟩ <;> assumption) | go_keep)
          focus (intro _; (try dsimp only); first | assumption | go_keep)
          clear hK K
          try simp only [Act.put, List.setIfInBounds_toArray, List.set_cons_zero, List.set_cons_succ, List.getElem_toArray, List.getElem_cons_succ, List.getElem_cons_zero]
          refine AllG.ready (rs := [13]) (by kernel_rfl) (by simp) ?_
          refine AllG.cons (o := _) rfl (fun K hK => ?_) ?_
          go_simp
          clear hHeld
          refine hK.out _ _ ⟨?_, ?_⟩ (fun hHeld => ?_)
          focus ((try dsimp only); first | (refine ⟨?_, ?_, ?_⟩ <;> assumption) | go_keep)
          focus (intro _; (try dsimp only); first | assumption | go_keep)
          clear hK K
          try simp only [Act.put, List.setIfInBounds_toArray, List.set_cons_zero, List.set_cons_succ, List.getElem_toArray, List.getElem_cons_succ, List.getElem_cons_zero]
          refine SG.take (i := 14) (v := ?_) rfl (by kernel_rfl) (by kernel_rfl) (by kernel_rfl) (fun _ _ _ h => h) (by decide) (by rfl) ?_ (by assumption) ?_
          rotate_left
          focus (intro w hSw; (try dsimp only at hSw); go_simp; (try with_reducible rfl))
          try simp only [Act.put, List.setIfInBounds_toArray, List.set_cons_zero, List.set_cons_succ, List.getElem_toArray, List.getElem_cons_succ, List.getElem_cons_zero]
          refine SG.take (i := 31) (v := ?_) rfl (by kernel_rfl) (by kernel_rfl) (by kernel_rfl) (fun _ _ _ h => h) (by decide) (by rfl) ?_ (by assumption) ?_
          rotate_left
          focus (intro w hSw; (try dsimp only at hSw); go_simp; (try with_reducible rfl))
          try simp only [Act.put, List.setIfInBounds_toArray, List.set_cons_zero, List.set_cons_succ, List.getElem_toArray, List.getElem_cons_succ, List.getElem_cons_zero]
          refine AllG.ready (rs := [32]) (by kernel_rfl) (by simp) ?_
          refine AllG.cons (o := _) rfl (fun K hK => ?_) ?_
          go_simp
          clear hHeld
          refine hK.out _ _ ⟨?_, ?_⟩ (fun hHeld => ?_)
          focus ((try dsimp only); first | (refine ⟨?_, ?_, ?_⟩ <;> assumption) | go_keep)
          focus (intro _; (try dsimp only); first | assumption | go_keep)
          clear hK K
          try simp only [Act.put, List.setIfInBounds_toArray, List.set_cons_zero, List.set_cons_succ, List.getElem_toArray, List.getElem_cons_succ, List.getElem_cons_zero]
          refine AllG.ready (rs := [33]) (by kernel_rfl) (by simp) ?_
          refine AllG.cons (o := _) rfl (fun K hK => ?_) ?_
          refine app_att (wc := wc) (base := Q + 2) (k := k) (vc := vc) (va := va) (A := A) (N := NM ++ ⟨#[ub x]⟩) (V := str V) (B := wp.heap.size) ?ka5 ?kb5 ?kc5 ?kd5 ?ke5 HOwn.out (HBwp.out) h2 HQ2.out rfl ?kf5 ?kg5
          case ka5 => rfl
          case kd5 => rfl
          case ke5 => rfl
          case kf5 => rfl
          intro gg cap' w7 hown7 hgrow
          have HG7 := Lib.hid hgrow
          have HO7 := Lib.hid hown7
          have HA7 := Lib.hid (Below.allocs (HBwp.out) (.cells #[.string (NM ++ ⟨#[ub x]⟩), .string (str V)] 56))
          obtain ⟨s0, s1, s2, k7, g7⟩ := nr7 hgrow HA7.out hq0 hq1 hgr HNe0.out HNe.out HNe1.out x2 n2 f2 a0 a1
          clear hgrow hown7
          clear hHeld
          refine hK.out _ _ ⟨?_, ?_⟩ (fun hHeld => ?_)
          focus ((try dsimp only); first | (refine ⟨?_, ?_, ?_⟩ <;> assumption) | go_keep)
          focus (intro hL; exact (no_listed (by kernel_rfl) hL).elim)
          clear hK K
          try simp only [Act.put, List.setIfInBounds_toArray, List.set_cons_zero, List.set_cons_succ, List.getElem_toArray, List.getElem_cons_succ, List.getElem_cons_zero]
          refine SG.take (i := 34) (v := ?_) rfl (by kernel_rfl) (by kernel_rfl) (by kernel_rfl) (fun _ _ _ h => h) (by decide) (by rfl) ?_ (by assumption) ?_
          rotate_left
          focus (intro w hSw; (try dsimp only at hSw); go_simp; (try with_reducible rfl))
          try simp only [Act.put, List.setIfInBounds_toArray, List.set_cons_zero, List.set_cons_succ, List.getElem_toArray, List.getElem_cons_succ, List.getElem_cons_zero]
          refine AllG.ready (rs := [35]) (by kernel_rfl) (by simp) ?_
          refine AllG.cons (o := _) rfl (fun K hK => ?_) ?_
          go_simp
          clear hHeld
          refine hK.out _ _ ⟨?_, ?_⟩ (fun hHeld => ?_)
          focus ((try dsimp only); first | (refine ⟨?_, ?_, ?_⟩ <;> assumption) | go_keep)
          focus (intro hL; exact (no_listed (by kernel_rfl) hL).elim)
          clear hK K
          try simp only [Act.put, List.setIfInBounds_toArray, List.set_cons_zero, List.set_cons_succ, List.getElem_toArray, List.getElem_cons_succ, List.getElem_cons_zero]
          refine AnyG.done (by kernel_rfl) ?_ _
          have H7 := Lib.hid (nrFin HR.out HA7.out HAk.out h2 HNMe.out HXE.out (by have := HVV.out; exact ⟨this.1, by omega⟩) HO7.out HG7.out)
          clear HG7 HO7 HA7 s0 s1 s2 k7 g7 y0p y1p y2p y3p y4p y0n y1n y2n y3n y4n HBwn HBwp HFwn HFwp hHeld
          go_wp2_with fail
          go_meet
          exact H7.out
          exact AllG.nil
          exact AllG.nil
          exact AllG.nil
          exact AllG.nil
          exact AllG.nil
          refine AllG.cons (o := _) rfl (fun K hK => ?_) ?_
          go_simp
          clear hHeld
          refine hK.out _ _ ⟨?_, ?_⟩ (fun hHeld => ?_)
          focus ((try dsimp only); first | (refine ⟨?_, ?_, ?_⟩ <;> assumption) | go_keep)
          focus (intro _; (try dsimp only); first | assumption | go_keep)
          clear hK K
          try simp only [Act.put, List.setIfInBounds_toArray, List.set_cons_zero, List.set_cons_succ, List.getElem_toArray, List.getElem_cons_succ, List.getElem_cons_zero]
          refine AllG.ready (rs := [8]) (by kernel_rfl) (by simp) ?_
          refine AllG.cons (o := _) rfl (fun K hK => ?_) ?_
          go_simp
          go_at_call 23
          refine (CN.out _ (by first | exact (Below.allocs (Below.refl _ _) _).drew | exact Below.refl _ _ | exact Below.allocs (Below.refl _ _) _)).mono ?_
          rintro e wn ⟨rfl, y0n, y1n, y2n, y3n, y4n, hq0n, hq1n, hgn, hzwn, HBwn, HFwn⟩
          try go_wp2_with fail
          clear hHeld
          refine hK.out _ _ ⟨?_, ?_⟩ (fun hHeld => ?_)
          focus ((try dsimp only); first | (refine ⟨?_, ?_, ?_⟩ <;> assumption) | go_keep)
          focus (intro _; (try dsimp only); first | assumption | go_keep)
          clear hK K
          try simp only [Act.put, List.setIfInBounds_toArray, List.set_cons_zero, List.set_cons_succ, List.getElem_toArray, List.getElem_cons_succ, List.getElem_cons_zero]
          refine SG.take (i := 14) (v := ?_) rfl (by kernel_rfl) (by kernel_rfl) (by kernel_rfl) (fun _ _ _ h => h) (by decide) (by rfl) ?_ (by assumption) ?_
          rotate_left
          focus (intro w hSw; (try dsimp only at hSw); go_simp; (try with_reducible rfl))
          try simp only [Act.put, List.setIfInBounds_toArray, List.set_cons_zero, List.set_cons_succ, List.getElem_toArray, List.getElem_cons_succ, List.getElem_cons_zero]
          refine AllG.ready (rs := [30]) (by kernel_rfl) (by simp) ?_
          refine AllG.cons (o := _) rfl (fun K hK => ?_) ?_
          go_simp
          go_at_call 24
          refine (CP.out _ (HBwn.out)).mono ?_
          rintro e wp ⟨V, rfl, ⟨y0p, y1p, y2p, y3p, y4p, hq0p, hq1p, hgp, hzwp, HBwp, HFwp⟩, HVV⟩
          try go_wp2_with fail
          clear hHeld
          refine hK.out _ _ ⟨?_, ?_⟩ (fun hHeld => ?_)
          focus ((try dsimp only); first | (refine ⟨?_, ?_, ?_⟩ <;> assumption) | go_keep)
          focus (intro _; (try dsimp only); first | assumption | go_keep)
          clear hK K
          try simp only [Act.put, List.setIfInBounds_toArray, List.set_cons_zero, List.set_cons_succ, List.getElem_toArray, List.getElem_cons_succ, List.getElem_cons_zero]
          refine SG.take (i := 31) (v := ?_) rfl (by kernel_rfl) (by kernel_rfl) (by kernel_rfl) (fun _ _ _ h => h) (by decide) (by rfl) ?_ (by assumption) ?_
          rotate_left
          focus (intro w hSw; (try dsimp only at hSw); go_simp; (try with_reducible rfl))
          try simp only [Act.put, List.setIfInBounds_toArray, List.set_cons_zero, List.set_cons_succ, List.getElem_toArray, List.getElem_cons_succ, List.getElem_cons_zero]
          refine AllG.ready (rs := [32]) (by kernel_rfl) (by simp) ?_
          refine AllG.cons (o := _) rfl (fun K hK => ?_) ?_
          go_simp
          clear hHeld
          refine hK.out _ _ ⟨?_, ?_⟩ (fun hHeld => ?_)
          focus ((try dsimp only); first | (refine ⟨?_, ?_, ?_⟩ <;> assumption) | go_keep)
          focus (intro _; (try dsimp only); first | assumption | go_keep)
          clear hK K
          try simp only [Act.put, List.setIfInBounds_toArray, List.set_cons_zero, List.set_cons_succ, List.getElem_toArray, List.getElem_cons_succ, List.getElem_cons_zero]
          refine AllG.ready (rs := [33]) (by kernel_rfl) (by simp) ?_
          refine AllG.cons (o := _) rfl (fun K hK => ?_) ?_
          refine app_att (wc := wc) (base := Q + 2) (k := k) (vc := vc) (va := va) (A := A) (N := NM ++ ⟨#[ub x]⟩) (V := str V) (B := wp.heap.size) ?ka6 ?kb6 ?kc6 ?kd6 ?ke6 HOwn.out (HBwp.out) h2 HQ2.out rfl ?kf6 ?kg6
          case ka6 => rfl
          case kd6 => rfl
          case ke6 => rfl
          case kf6 => rfl
          intro gg cap' w7 hown7 hgrow
          have HG7 := Lib.hid hgrow
          have HO7 := Lib.hid hown7
          have HA7 := Lib.hid (Below.allocs (HBwp.out) (.cells #[.string (NM ++ ⟨#[ub x]⟩), .string (str V)] 56))
          obtain ⟨s0, s1, s2, k7, g7⟩ := nr7 hgrow HA7.out hq0 hq1 hgr HNe0.out HNe.out HNe1.out x2 n2 f2 a0 a1
          clear hgrow hown7
          clear hHeld
          refine hK.out _ _ ⟨?_, ?_⟩ (fun hHeld => ?_)
          focus ((try dsimp only); first | (refine ⟨?_, ?_, ?_⟩ <;> assumption) | go_keep)
          focus (intro hL; exact (no_listed (by kernel_rfl) hL).elim)
          clear hK K
          try simp only [Act.put, List.setIfInBounds_toArray, List.set_cons_zero, List.set_cons_succ, List.getElem_toArray, List.getElem_cons_succ, List.getElem_cons_zero]
          refine SG.take (i := 34) (v := ?_) rfl (by kernel_rfl) (by kernel_rfl) (by kernel_rfl) (fun _ _ _ h => h) (by decide) (by rfl) ?_ (by assumption) ?_
          rotate_left
          focus (intro w hSw; (try dsimp only at hSw); go_simp; (try with_reducible rfl))
          try simp only [Act.put, List.setIfInBounds_toArray, List.set_cons_zero, List.set_cons_succ, List.getElem_toArray, List.getElem_cons_succ, List.getElem_cons_zero]
          refine AllG.ready (rs := [35]) (by kernel_rfl) (by simp) ?_
          refine AllG.cons (o := _) rfl (fun K hK => ?_) ?_
          go_simp
          clear hHeld
          refine hK.out _ _ ⟨?_, ?_⟩ (fun hHeld => ?_)
          focus ((try dsimp only); first | (refine ⟨?_, ?_, ?_⟩ <;> assumption) | go_keep)
          focus (intro hL; exact (no_listed (by kernel_rfl) hL).elim)
          clear hK K
          try simp only [Act.put, List.setIfInBounds_toArray, List.set_cons_zero, List.set_cons_succ, List.getElem_toArray, List.getElem_cons_succ, List.getElem_cons_zero]
          refine AnyG.done (by kernel_rfl) ?_ _
          have H7 := Lib.hid (nrFin HR.out HA7.out HAk.out h2 HNMe.out HXE.out (by have := HVV.out; exact ⟨this.1, by omega⟩) HO7.out HG7.out)
          clear HG7 HO7 HA7 s0 s1 s2 k7 g7 y0p y1p y2p y3p y4p y0n y1n y2n y3n y4n HBwn HBwp HFwn HFwp hHeld
          go_wp2_with fail
          go_meet
          exact H7.out
          exact AllG.nil
          exact AllG.nil
          exact AllG.nil
          exact AllG.nil
          exact AllG.nil
          exact AllG.nil
          exact AllG.nil
        case rest =>
          obtain ⟨A', v', hA', hR'⟩ := hcut
          have HR' := Lib.hid hR'
          clear hR' x2 n2 f2 a0 a1 CN CP hcv
          go_wp2_with fail
          go_roundg (3 - (k + 1))
          case measure => omega
          case rel => exact ⟨k + 1, A', v', by omega, by go_num, hA', HR'.out⟩
      | false =>
        subst hEE
        clear HE' x2 n2 f2 HXA
        obtain ⟨E2, hE2⟩ : ∃ E : Bool, decide (1 < D ∧ 0 < xkn) = E := ⟨_, rfl⟩
        have HE2 := Lib.hid hE2
        clear hE2
        have x3 := Lib.cell_of_heap HR.out.hx 3
        simp only [List.getElem?_toArray, List.getElem?_cons_zero, List.getElem?_cons_succ] at x3
        go_upto_region 7 with (fail)
        go_cut [72] (fun u wx => u = .bool E2 ∧ wx = wc)
        case first =>
          by_cases h1 : 1 < D
          · by_cases h2 : 0 < xkn
            · have h2' : (0 : Int) < (xkn : Int) := by omega
              have HQE := Lib.hid (show true = E2 by rw [← HE2.out]; exact (decide_eq_true ⟨h1, h2⟩).symm)
              go_wp2
              go_meet
              exact ⟨congrArg Value.bool HQE.out, rfl⟩
            · have h2' : decide ((0 : Int) < (xkn : Int)) = false := decide_eq_false (by omega)
              have HQE := Lib.hid (show false = E2 by rw [← HE2.out]; exact (decide_eq_false fun h => h2 h.2).symm)
              go_wp2
              go_meet
              exact ⟨congrArg Value.bool HQE.out, rfl⟩
          · have h1' : decide (1 < D) = false := decide_eq_false h1
            have HQE := Lib.hid (show false = E2 by rw [← HE2.out]; exact (decide_eq_false fun h => h1 h.1).symm)
            go_wp2
            go_meet
            exact ⟨congrArg Value.bool HQE.out, rfl⟩
        case rest =>
          obtain ⟨rfl, rfl⟩ := hcut
          cases hEE2 : E2 with
          | false =>
            subst hEE2
            clear HE2 x3
            have x4 := Lib.cell_of_heap HR.out.hx 4
            simp only [List.getElem?_toArray, List.getElem?_cons_zero, List.getElem?_cons_succ] at x4
            obtain ⟨m, hm1, hm2, hm3, hmi, hmn⟩ := min8 xtx.size 12
            have hmI : min (xtx.size : Int) 12 = m := by have := hmi.out; omega
            obtain ⟨T, hT⟩ : ∃ T, xtx.extract 0 m = T := ⟨_, rfl⟩
            have hTs : T.size = m := by rw [← hT, ByteArray.size_extract]; omega
            have CP := Lib.hid (rplain T wc (by omega))
            clear hm3 hmi hmn
            go_wp2_with fail
            refine CP.out.mono ?_
            rintro e w4 ⟨V, rfl, hV, hVl, hb4⟩
            have HV := Lib.hid hV
            have HVl := Lib.hid hVl
            have HR4 := Lib.hid (HR.out.step hb4)
            have CT := rtrim (str V) w4 (by rw [str_size]; omega)
            have hTX : trimmed (str V) = str (trimL V) := by unfold trimmed; rw [str_bl]; rfl
            rw [hTX] at CT
            have CT := Lib.hid CT
            clear hb4 hV hVl hTX CP hT x4
            go_wp2_with fail
            refine CT.out.mono ?_
            rintro e w5 ⟨rfl, hb5⟩
            have HR5 := Lib.hid (HR4.out.step hb5)
            clear hb5 HR4 CT
            have n4 := Lib.cell_of_heap HR5.out.hn 4
            have f4 := Lib.frozen_of_heap HR5.out.hn 4
            simp only [List.getElem?_toArray, List.getElem?_cons_zero, List.getElem?_cons_succ] at n4
            obtain ⟨TX, hTX⟩ : ∃ TX, str (trimL V) = TX := ⟨_, rfl⟩
            rw [hTX]
            have HN6 : Hid ((w5.setCell ⟨Q + 1, 4, none⟩ (.string TX)).heap[Q + 1]? = some (.cells #[.string sp, .string nm, .slice va k vc, .slice none 0 0, .string TX] 25 (0, 0))) := Lib.hid (by rw [heap_put _ HR5.out.hn]; rfl)
            have HB6 := Lib.hid ((HR5.out.below).setCell (p := ⟨Q + 1, 4, none⟩) (by show Q ≤ Q + 1; omega) (.string TX))
            have HO6 := Lib.hid (ownsRow_setCell_other HR5.out.own (a := ⟨Q + 1, 4, none⟩) (fun e => by have := (HR5.out.own.lt (Q + 1) e).1; omega) (.string TX))
            go_upto_region 14 with (fail)
            clear n4 f4
            generalize w5.setCell ⟨Q + 1, 4, none⟩ (.string TX) = w6 at HN6 HB6 HO6 ⊢
            have n0 := Lib.cell_of_heap HN6.out 0
            have n1 := Lib.cell_of_heap HN6.out 1
            have n2 := Lib.cell_of_heap HN6.out 2
            have n3 := Lib.cell_of_heap HN6.out 3
            have n4 := Lib.cell_of_heap HN6.out 4
            have f0 := Lib.frozen_of_heap HN6.out 0
            have f1 := Lib.frozen_of_heap HN6.out 1
            have f2 := Lib.frozen_of_heap HN6.out 2
            have f3 := Lib.frozen_of_heap HN6.out 3
            have f4 := Lib.frozen_of_heap HN6.out 4
            simp only [List.getElem?_toArray, List.getElem?_cons_zero, List.getElem?_cons_succ] at n0 n1 n2 n3 n4
            have HT5 := Lib.hid hTX
            have HG := Lib.hid (near_leaf (d := d) HQ.out HAk.out (by rw [HT5.out]; exact HN6.out) HB6.out HO6.out HNM.out HSP.out HR5.out.ok HR5.out.pair HR5.out.few HV.out (by have := HVl.out; omega))
            go_wp2_with fail
            refine bodyPost_ret (res_node _ 4 rfl _ (Q + 1) rfl _ _ _ _ _ _ 25 (0, 0) (st5_heap HN6.out _ _ _ _ _)) rfl ?_
            have hh := HG.out
            rw [HT5.out] at hh
            exact hh
          | true =>
            subst hEE2
            obtain ⟨h1, h2⟩ : 1 < D ∧ 0 < xkn := by have := HE2.out; simpa using this
            clear HE2
            obtain ⟨d', hd'⟩ : ∃ d', d = d' + 1 := ⟨d - 1, by omega⟩
            subst hd'
            obtain ⟨g1, o1, rfl, _, hg1, hkc⟩ := HXK.out (by have := HXkn.out; omega)
            rw [HQ.out] at hg1
            have HKC := Lib.hid hkc
            have HK0 := Lib.hid (HR.out.kids (d := d' + 1))
            have HP := Lib.hid HR.out.pair
            have HOK := Lib.hid HR.out.ok
            have HFW := Lib.hid HR.out.few
            clear hkc x3
            go_wp2_with fail
            go_loopg [6] 3 (fun g i wr => ∃ j V K v, g + j = 3 ∧ i = .int .i64 (j : Nat) ∧ V.length = j ∧ NrK Q (d' + 1) w #[.string xsp, .string xnm, .slice xa xan xac, .slice (some ⟨g1, o1, none⟩) xkn xkc, .string xtx] sp nm A (.slice va k vc) v V K wr)
            case atStart => exact ⟨0, [], [], _, by omega, rfl, rfl, HK0.out⟩
            case round =>
              obtain ⟨j, V, K, v, hg, rfl, hVj, hr⟩ := hrel
              obtain ⟨vk, ck, hvf⟩ := own_form hr.own
              rw [hVj] at hvf
              subst hvf
              have x3 := Lib.cell_of_heap hr.hx 3
              have n3 := Lib.cell_of_heap hr.hn 3
              have f3 := Lib.frozen_of_heap hr.hn 3
              simp only [List.getElem?_toArray, List.getElem?_cons_zero, List.getElem?_cons_succ] at x3 n3
              have HK := Lib.hid hr
              have HVj := Lib.hid hVj
              clear hr hVj
              obtain ⟨E3, hE3⟩ : ∃ E : Bool, decide (j < xkn ∧ j < 3) = E := ⟨_, rfl⟩
              have HE3 := Lib.hid hE3
              clear hE3
              go_upto_region 9 with (fail)
              go_cut [81] (fun u wx => u = .bool E3 ∧ wx = wr)
              case first =>
                by_cases h3 : j < xkn
                · have h3' : (j : Int) < (xkn : Int) := by omega
                  by_cases h4 : j < 3
                  · have h4' : (j : Int) < 3 := by omega
                    have HQE := Lib.hid (show true = E3 by rw [← HE3.out]; exact (decide_eq_true ⟨h3, h4⟩).symm)
                    go_wp2
                    go_meet
                    exact ⟨congrArg Value.bool HQE.out, rfl⟩
                  · have h4' : decide ((j : Int) < 3) = false := decide_eq_false (by omega)
                    have HQE := Lib.hid (show false = E3 by rw [← HE3.out]; exact (decide_eq_false fun h => h4 h.2).symm)
                    go_wp2
                    go_meet
                    exact ⟨congrArg Value.bool HQE.out, rfl⟩
                · have h3' : decide ((j : Int) < (xkn : Int)) = false := decide_eq_false (by omega)
                  have HQE := Lib.hid (show false = E3 by rw [← HE3.out]; exact (decide_eq_false fun h => h3 h.1).symm)
                  go_wp2
                  go_meet
                  exact ⟨congrArg Value.bool HQE.out, rfl⟩
              case rest =>
                obtain ⟨rfl, rfl⟩ := hcut
                cases hEE3 : E3 with
                | true =>
                  subst hEE3
                  obtain ⟨h3, h4⟩ : j < xkn ∧ j < 3 := by have := HE3.out; simpa using this
                  clear HE3
                  have hbw := HK.out.below
                  have k0 := (hbw.cell (p := ⟨g1, o1 + j * 5 + 0, none⟩) hg1).trans (HKC.out j (by have := HXkn.out; omega) 0 (by decide))
                  have k1 := (hbw.cell (p := ⟨g1, o1 + j * 5 + 1, none⟩) hg1).trans (HKC.out j (by have := HXkn.out; omega) 1 (by decide))
                  have k2 := (hbw.cell (p := ⟨g1, o1 + j * 5 + 2, none⟩) hg1).trans (HKC.out j (by have := HXkn.out; omega) 2 (by decide))
                  have k3 := (hbw.cell (p := ⟨g1, o1 + j * 5 + 3, none⟩) hg1).trans (HKC.out j (by have := HXkn.out; omega) 3 (by decide))
                  have k4 := (hbw.cell (p := ⟨g1, o1 + j * 5 + 4, none⟩) hg1).trans (HKC.out j (by have := HXkn.out; omega) 4 (by decide))
                  rw [Nat.add_zero] at k0
                  have hq1 : Q + 1 < wc.heap.size := (Array.getElem?_eq_some_iff.1 HK.out.hn).1
                  have hq0 : Q < wc.heap.size := by omega
                  have hgr : g1 < wc.heap.size := by omega
                  have hnode := HXN.out j (by have := HXkn.out; omega)
                  obtain ⟨D2, hD2⟩ : ∃ D2, D - 1 = D2 := ⟨_, rfl⟩
                  have hDw : IntKind.i64.wrap D2 = D2 := IntWalk.i64_in _ (by omega)
                  have CE := Lib.hid (fun (wx : World) (hx : Below wc.heap.size wc wx) => (HIH.out d' rfl D2 _ _ wx (by omega) (by omega) (by omega) (hnode.to (Nat.le_trans (by rw [HQ.out]; omega) hx.size) (fun g _ hl => ⟨trivial, (hx.block g (by rw [HQ.out] at hl; omega)).trans (hbw.block g (by rw [← HQ.out]; exact hl))⟩))).mono
                    (fun e w' (h : NearGives d' wx e w') => (show ∃ ysp ynm ytx y1 m1 l1 y2 m2 l2, e = .returned (.agg #[.string ysp, .string ynm, .slice y1 m1 l1, .slice y2 m2 l2, .string ytx]) ∧
                      NrD wc Q g1 (o1 + j * 5) (.slice (some ⟨g1, o1, none⟩) xkn xkc) (.slice vk j ck) (fun q => xc j q) wx w' ∧ Hid (∃ y, NodeV (fun g => wc.heap.size ≤ g) w' (.agg #[.string ysp, .string ynm, .slice y1 m1 l1, .slice y2 m2 l2, .string ytx]) y ∧ NearB (d' + 1) y) from by
                        obtain ⟨yv, y, he, hy, hyn, hyb⟩ := h
                        obtain ⟨ysp, ynm, ytx, y1, m1, l1, y2, m2, l2, rfl⟩ := form06 hy
                        exact ⟨_, _, _, _, _, _, _, _, _, he, nrD x3 n3 f3 k0 k1 k2 k3 k4 hq1 hgr hx hyb, Lib.hid ⟨y, hy.to (Nat.le_refl _) fun g hg _ => ⟨Nat.le_trans hx.size hg, rfl⟩, hyn⟩⟩)))
                  have hown := HK.out.own
                  rw [HVj.out] at hown
                  have HOwn := Lib.hid hown
                  have HQ2 := Lib.hid (show Q + 2 ≤ wc.heap.size by omega)
                  have HNe0 := Lib.hid (show some Q ≠ Value.ownBlock (.slice vk j ck) from fun e => by have := (hown.lt Q e.symm).1; omega)
                  have HNe := Lib.hid (show some (Q + 1) ≠ Value.ownBlock (.slice vk j ck) from fun e => by have := (hown.lt (Q + 1) e.symm).1; omega)
                  have HNe1 := Lib.hid (show some g1 ≠ Value.ownBlock (.slice vk j ck) from fun e => by have := (hown.lt g1 e.symm).1; omega)
                  have HVA := Lib.hid (own_differ HK.out.owna HK.out.own)
                  have hgx : ¬ g1 = Q + 1 := by omega
                  have hxg : ¬ Q + 1 = g1 := by omega
                  have hqx : ¬ Q = Q + 1 := by omega
                  clear hown hbw hnode
                  go_upto_block 3 with fail
                  go_cut [] from 73 to 96 (fun wx => ∃ V' K' v', V'.length = j + 1 ∧ NrK Q (d' + 1) w #[.string xsp, .string xnm, .slice xa xan xac, .slice (some ⟨g1, o1, none⟩) xkn xkc, .string xtx] sp nm A (.slice va k vc) v' V' K' wx)
                  case first =>
                    go_wp2_with fail
                    refine wp_region_held_drew (S := fun w' => w'.cell? ⟨Q, 3, none⟩ = some (.slice (some ⟨g1, o1, none⟩) xkn xkc) ∧ w'.cell? ⟨g1, o1 + j * 5, none⟩ = some (xc j 0) ∧ w'.cell? ⟨g1, o1 + j * 5 + 1, none⟩ = some (xc j 1) ∧ w'.cell? ⟨g1, o1 + j * 5 + 2, none⟩ = some (xc j 2) ∧ w'.cell? ⟨g1, o1 + j * 5 + 3, none⟩ = some (xc j 3) ∧ w'.cell? ⟨g1, o1 + j * 5 + 4, none⟩ = some (xc j 4)) (by kernel_rfl) ?_ (fun hHeld => ?_)
                    · ((try dsimp only); first | (refine ⟨?_, ?_, ?_, ?_, ?_, ?_⟩ <;> assumption) | go_keep)
                    refine wpAnyH_take (i := 0) (v := ?_) rfl (by kernel_rfl) (by kernel_rfl) (by kernel_rfl) (fun _ _ _ h => h) (Or.inl ⟨by rfl, ?_⟩) (by assumption) ?_
                    rotate_left
                    · (intro w hSw; (try dsimp only at hSw); go_simp; (try with_reducible rfl))
                    try simp only [Act.put, List.setIfInBounds_toArray, List.set_cons_zero, List.set_cons_succ]
                    refine wpAnyH_take (i := 2) (v := ?_) rfl (by kernel_rfl) (by kernel_rfl) (by kernel_rfl) (fun _ _ _ h => h) (Or.inl ⟨by rfl, ?_⟩) (by assumption) ?_
                    rotate_left
                    · (intro w hSw; (try dsimp only at hSw); go_simp; (try with_reducible rfl))
                    try simp only [Act.put, List.setIfInBounds_toArray, List.set_cons_zero, List.set_cons_succ]
                    refine wpAnyH_take (i := 3) (v := ?_) rfl (by kernel_rfl) (by kernel_rfl) (by kernel_rfl) (fun _ _ _ h => h) (Or.inl ⟨by rfl, ?_⟩) (by assumption) ?_
                    rotate_left
                    · (intro w hSw; (try dsimp only at hSw); go_simp; (try with_reducible rfl))
                    try simp only [Act.put, List.setIfInBounds_toArray, List.set_cons_zero, List.set_cons_succ]
                    refine wpAnyH_take (i := 4) (v := ?_) rfl (by kernel_rfl) (by kernel_rfl) (by kernel_rfl) (fun _ _ _ h => h) (Or.inl ⟨by rfl, ?_⟩) (by assumption) ?_
                    rotate_left
                    · (intro w hSw; (try dsimp only at hSw); go_simp; (try with_reducible rfl))
                    try simp only [Act.put, List.setIfInBounds_toArray, List.set_cons_zero, List.set_cons_succ]
                    refine wpAnyH_take (i := 5) (v := ?_) rfl (by kernel_rfl) (by kernel_rfl) (by kernel_rfl) (fun _ _ _ h => h) (Or.inl ⟨by rfl, ?_⟩) (by assumption) ?_
                    rotate_left
                    · (intro w hSw; (try dsimp only at hSw); go_simp; (try with_reducible rfl))
                    try simp only [Act.put, List.setIfInBounds_toArray, List.set_cons_zero, List.set_cons_succ]
                    refine wpAnyH_take (i := 6) (v := ?_) rfl (by kernel_rfl) (by kernel_rfl) (by kernel_rfl) (fun _ _ _ h => h) (Or.inl ⟨by rfl, ?_⟩) (by assumption) ?_
                    rotate_left
                    · (intro w hSw; (try dsimp only at hSw); go_simp; (try with_reducible rfl))
                    try simp only [Act.put, List.setIfInBounds_toArray, List.set_cons_zero, List.set_cons_succ]
                    refine wpAnyH_take (i := 7) (v := ?_) rfl (by kernel_rfl) (by kernel_rfl) (by kernel_rfl) (fun _ _ _ h => h) (Or.inl ⟨by rfl, ?_⟩) (by assumption) ?_
                    rotate_left
                    · (intro w hSw; (try dsimp only at hSw); go_simp; (try with_reducible rfl))
                    try simp only [Act.put, List.setIfInBounds_toArray, List.set_cons_zero, List.set_cons_succ]
                    refine wpAnyH_take (i := 8) (v := ?_) rfl (by kernel_rfl) (by kernel_rfl) (by kernel_rfl) (fun _ _ _ h => h) (Or.inl ⟨by rfl, ?_⟩) (by assumption) ?_
                    rotate_left
                    · (intro w hSw; (try dsimp only at hSw); go_simp; (try with_reducible rfl))
                    try simp only [Act.put, List.setIfInBounds_toArray, List.set_cons_zero, List.set_cons_succ]
                    refine wpAnyH_ready (rs := [1, 9]) (by kernel_rfl) (by simp) ?_
                    refine AllReadyH.cons (o := _) rfl (fun K hK => ?_) ?_
                    · go_simp
                      clear hHeld
                      refine hK.out _ _ ?_ (fun hHeld => ?_)
                      · ((try dsimp only); first | (refine ⟨?_, ?_, ?_, ?_, ?_, ?_⟩ <;> assumption) | go_keep)
                      clear hK K
                      try simp only [Act.put, List.setIfInBounds_toArray, List.set_cons_zero, List.set_cons_succ]
                      refine wpAnyH_ready (rs := [9]) (by kernel_rfl) (by simp) ?_
                      refine AllReadyH.cons (o := _) rfl (fun K hK => ?_) ?_
                      · go_simp
                        go_at_call 8
                        refine (CE.out _ (by first | exact (Below.refl _ _).drew | exact Below.refl _ _)).mono ?_
                        rintro e wn ⟨ysp, ynm, ytx, y1, m1, l1, y2, m2, l2, rfl, ⟨z0, z1, z2, z3, z4, z5, z6, z7, hq0n, hq1n, hgn, hzwn, HBwn⟩, HY⟩
                        try go_wp2_with fail
                        clear hHeld
                        refine hK.out _ _ ?_ (fun hHeld => ?_)
                        · ((try dsimp only); first | (refine ⟨?_, ?_, ?_, ?_, ?_, ?_⟩ <;> assumption) | go_keep)
                        clear hK K
                        try simp only [Act.put, List.setIfInBounds_toArray, List.set_cons_zero, List.set_cons_succ]
                        refine wpAnyH_ready (rs := [10]) (by kernel_rfl) (by simp) ?_
                        refine AllReadyH.cons (o := _) rfl (fun K hK => ?_) ?_
                        · go_simp
                          clear hHeld
                          refine hK.out _ _ ?_ (fun hHeld => ?_)
                          · ((try dsimp only); first | (refine ⟨?_, ?_, ?_, ?_, ?_, ?_⟩ <;> assumption) | go_keep)
                          clear hK K
                          try simp only [Act.put, List.setIfInBounds_toArray, List.set_cons_zero, List.set_cons_succ]
                          refine wpAnyH_ready (rs := [11]) (by kernel_rfl) (by simp) ?_
                          refine AllReadyH.cons (o := _) rfl (fun K hK => ?_) ?_
                          · refine app_kid rfl _ _ rfl (vk := vk) (j := j) (ck := ck) (V := V) (base := Q + 2) rfl HOwn.out HBwn.out h4 HQ2.out ysp ynm ytx y1 y2 m1 l1 m2 l2 rfl ?_
                            intro gg cap' w7 hown7 hgrow hat
                            have HG7 := Lib.hid hgrow
                            have HO7 := Lib.hid hown7
                            have HAT := Lib.hid hat
                            have HA7 := Lib.hid (Below.allocs HBwn.out (.cells #[.string ysp, .string ynm, .slice y1 m1 l1, .slice y2 m2 l2, .string ytx] 25))
                            have s0 := (grown_cell06 hgrow HA7.out hq0 HNe0.out 3).1.trans x3
                            have s1 := (grown_cell06 hgrow HA7.out hgr HNe1.out (o1 + j * 5)).1.trans k0
                            have s2 := (grown_cell06 hgrow HA7.out hgr HNe1.out (o1 + j * 5 + 1)).1.trans k1
                            have s3 := (grown_cell06 hgrow HA7.out hgr HNe1.out (o1 + j * 5 + 2)).1.trans k2
                            have s4 := (grown_cell06 hgrow HA7.out hgr HNe1.out (o1 + j * 5 + 3)).1.trans k3
                            have s5 := (grown_cell06 hgrow HA7.out hgr HNe1.out (o1 + j * 5 + 4)).1.trans k4
                            have k7 := (grown_cell06 hgrow HA7.out hq1 HNe.out 3).1.trans n3
                            have g7 := (grown_cell06 hgrow HA7.out hq1 HNe.out 3).2.trans f3
                            clear hgrow hown7 hat
                            clear hHeld
                            refine hK.out _ _ ?_ (fun hHeld => ?_)
                            · ((try dsimp only); first | (refine ⟨?_, ?_, ?_, ?_, ?_, ?_⟩ <;> assumption) | go_keep)
                            clear hK K
                            try simp only [Act.put, List.setIfInBounds_toArray, List.set_cons_zero, List.set_cons_succ]
                            refine wpAnyH_take (i := 12) (v := ?_) rfl (by kernel_rfl) (by kernel_rfl) (by kernel_rfl) (fun _ _ _ h => h) (Or.inl ⟨by rfl, ?_⟩) (by assumption) ?_
                            rotate_left
                            · (intro w hSw; (try dsimp only at hSw); go_simp; (try with_reducible rfl))
                            try simp only [Act.put, List.setIfInBounds_toArray, List.set_cons_zero, List.set_cons_succ]
                            refine wpAnyH_ready (rs := [13]) (by kernel_rfl) (by simp) ?_
                            refine AllReadyH.cons (o := _) rfl (fun K hK => ?_) ?_
                            · go_simp
                              clear hHeld
                              refine hK.out _ _ ?_ (fun hHeld => ?_)
                              · ((try dsimp only); first | (refine ⟨?_, ?_, ?_, ?_, ?_, ?_⟩ <;> assumption) | go_keep)
                              clear hK K
                              try simp only [Act.put, List.setIfInBounds_toArray, List.set_cons_zero, List.set_cons_succ]
                              refine wpAnyH_done (by kernel_rfl) ?_ _
                              obtain ⟨y, hy, hyn⟩ := HY.out
                              have H7 := Lib.hid (HK.out.app (y := ⟨.string ysp, .string ynm, .slice y1 m1 l1, .slice y2 m2 l2, .string ytx⟩) HBwn.out (Below.allocs (Below.refl wn.heap.size wn) _) hy hyn HVj.out h4 HO7.out HG7.out HAT.out HVA.out)
                              have HL7 := Lib.hid (show (V ++ [(⟨.string ysp, .string ynm, .slice y1 m1 l1, .slice y2 m2 l2, .string ytx⟩ : NV)]).length = j + 1 by rw [List.length_append, HVj.out]; rfl)
                              clear hy hyn HY HG7 HO7 HAT HA7 s0 s1 s2 s3 s4 s5 k7 g7 z0 z1 z2 z3 z4 z5 z6 z7 HBwn hHeld
                              go_wp2_with fail
                              go_meet
                              exact ⟨_, _, _, HL7.out, H7.out⟩
                            exact AllReadyH.nil
                          exact AllReadyH.nil
                        exact AllReadyH.nil
                      exact AllReadyH.nil
                    refine AllReadyH.cons (o := _) rfl (fun K hK => ?_) ?_
                    · go_simp
                      go_at_call 8
                      refine (CE.out _ (by first | exact (Below.refl _ _).drew | exact Below.refl _ _)).mono ?_
                      rintro e wn ⟨ysp, ynm, ytx, y1, m1, l1, y2, m2, l2, rfl, ⟨z0, z1, z2, z3, z4, z5, z6, z7, hq0n, hq1n, hgn, hzwn, HBwn⟩, HY⟩
                      try go_wp2_with fail
                      clear hHeld
                      refine hK.out _ _ ?_ (fun hHeld => ?_)
                      · ((try dsimp only); first | (refine ⟨?_, ?_, ?_, ?_, ?_, ?_⟩ <;> assumption) | go_keep)
                      clear hK K
                      try simp only [Act.put, List.setIfInBounds_toArray, List.set_cons_zero, List.set_cons_succ]
                      refine wpAnyH_ready (rs := [1, 10]) (by kernel_rfl) (by simp) ?_
                      refine AllReadyH.cons (o := _) rfl (fun K hK => ?_) ?_
                      · go_simp
                        clear hHeld
                        refine hK.out _ _ ?_ (fun hHeld => ?_)
                        · ((try dsimp only); first | (refine ⟨?_, ?_, ?_, ?_, ?_, ?_⟩ <;> assumption) | go_keep)
                        clear hK K
                        try simp only [Act.put, List.setIfInBounds_toArray, List.set_cons_zero, List.set_cons_succ]
                        refine wpAnyH_ready (rs := [10]) (by kernel_rfl) (by simp) ?_
                        refine AllReadyH.cons (o := _) rfl (fun K hK => ?_) ?_
                        · go_simp
                          clear hHeld
                          refine hK.out _ _ ?_ (fun hHeld => ?_)
                          · ((try dsimp only); first | (refine ⟨?_, ?_, ?_, ?_, ?_, ?_⟩ <;> assumption) | go_keep)
                          clear hK K
                          try simp only [Act.put, List.setIfInBounds_toArray, List.set_cons_zero, List.set_cons_succ]
                          refine wpAnyH_ready (rs := [11]) (by kernel_rfl) (by simp) ?_
                          refine AllReadyH.cons (o := _) rfl (fun K hK => ?_) ?_
                          · refine app_kid rfl _ _ rfl (vk := vk) (j := j) (ck := ck) (V := V) (base := Q + 2) rfl HOwn.out HBwn.out h4 HQ2.out ysp ynm ytx y1 y2 m1 l1 m2 l2 rfl ?_
                            intro gg cap' w7 hown7 hgrow hat
                            have HG7 := Lib.hid hgrow
                            have HO7 := Lib.hid hown7
                            have HAT := Lib.hid hat
                            have HA7 := Lib.hid (Below.allocs HBwn.out (.cells #[.string ysp, .string ynm, .slice y1 m1 l1, .slice y2 m2 l2, .string ytx] 25))
                            have s0 := (grown_cell06 hgrow HA7.out hq0 HNe0.out 3).1.trans x3
                            have s1 := (grown_cell06 hgrow HA7.out hgr HNe1.out (o1 + j * 5)).1.trans k0
                            have s2 := (grown_cell06 hgrow HA7.out hgr HNe1.out (o1 + j * 5 + 1)).1.trans k1
                            have s3 := (grown_cell06 hgrow HA7.out hgr HNe1.out (o1 + j * 5 + 2)).1.trans k2
                            have s4 := (grown_cell06 hgrow HA7.out hgr HNe1.out (o1 + j * 5 + 3)).1.trans k3
                            have s5 := (grown_cell06 hgrow HA7.out hgr HNe1.out (o1 + j * 5 + 4)).1.trans k4
                            have k7 := (grown_cell06 hgrow HA7.out hq1 HNe.out 3).1.trans n3
                            have g7 := (grown_cell06 hgrow HA7.out hq1 HNe.out 3).2.trans f3
                            clear hgrow hown7 hat
                            clear hHeld
                            refine hK.out _ _ ?_ (fun hHeld => ?_)
                            · ((try dsimp only); first | (refine ⟨?_, ?_, ?_, ?_, ?_, ?_⟩ <;> assumption) | go_keep)
                            clear hK K
                            try simp only [Act.put, List.setIfInBounds_toArray, List.set_cons_zero, List.set_cons_succ]
                            refine wpAnyH_take (i := 12) (v := ?_) rfl (by kernel_rfl) (by kernel_rfl) (by kernel_rfl) (fun _ _ _ h => h) (Or.inl ⟨by rfl, ?_⟩) (by assumption) ?_
                            rotate_left
                            · (intro w hSw; (try dsimp only at hSw); go_simp; (try with_reducible rfl))
                            try simp only [Act.put, List.setIfInBounds_toArray, List.set_cons_zero, List.set_cons_succ]
                            refine wpAnyH_ready (rs := [13]) (by kernel_rfl) (by simp) ?_
                            refine AllReadyH.cons (o := _) rfl (fun K hK => ?_) ?_
                            · go_simp
                              clear hHeld
                              refine hK.out _ _ ?_ (fun hHeld => ?_)
                              · ((try dsimp only); first | (refine ⟨?_, ?_, ?_, ?_, ?_, ?_⟩ <;> assumption) | go_keep)
                              clear hK K
                              try simp only [Act.put, List.setIfInBounds_toArray, List.set_cons_zero, List.set_cons_succ]
                              refine wpAnyH_done (by kernel_rfl) ?_ _
                              obtain ⟨y, hy, hyn⟩ := HY.out
                              have H7 := Lib.hid (HK.out.app (y := ⟨.string ysp, .string ynm, .slice y1 m1 l1, .slice y2 m2 l2, .string ytx⟩) HBwn.out (Below.allocs (Below.refl wn.heap.size wn) _) hy hyn HVj.out h4 HO7.out HG7.out HAT.out HVA.out)
                              have HL7 := Lib.hid (show (V ++ [(⟨.string ysp, .string ynm, .slice y1 m1 l1, .slice y2 m2 l2, .string ytx⟩ : NV)]).length = j + 1 by rw [List.length_append, HVj.out]; rfl)
                              clear hy hyn HY HG7 HO7 HAT HA7 s0 s1 s2 s3 s4 s5 k7 g7 z0 z1 z2 z3 z4 z5 z6 z7 HBwn hHeld
                              go_wp2_with fail
                              go_meet
                              exact ⟨_, _, _, HL7.out, H7.out⟩
                            exact AllReadyH.nil
                          exact AllReadyH.nil
                        exact AllReadyH.nil
                      refine AllReadyH.cons (o := _) rfl (fun K hK => ?_) ?_
                      · go_simp
                        clear hHeld
                        refine hK.out _ _ ?_ (fun hHeld => ?_)
                        · ((try dsimp only); first | (refine ⟨?_, ?_, ?_, ?_, ?_, ?_⟩ <;> assumption) | go_keep)
                        clear hK K
                        try simp only [Act.put, List.setIfInBounds_toArray, List.set_cons_zero, List.set_cons_succ]
                        refine wpAnyH_ready (rs := [1]) (by kernel_rfl) (by simp) ?_
                        refine AllReadyH.cons (o := _) rfl (fun K hK => ?_) ?_
                        · go_simp
                          clear hHeld
                          refine hK.out _ _ ?_ (fun hHeld => ?_)
                          · ((try dsimp only); first | (refine ⟨?_, ?_, ?_, ?_, ?_, ?_⟩ <;> assumption) | go_keep)
                          clear hK K
                          try simp only [Act.put, List.setIfInBounds_toArray, List.set_cons_zero, List.set_cons_succ]
                          refine wpAnyH_ready (rs := [11]) (by kernel_rfl) (by simp) ?_
                          refine AllReadyH.cons (o := _) rfl (fun K hK => ?_) ?_
                          · refine app_kid rfl _ _ rfl (vk := vk) (j := j) (ck := ck) (V := V) (base := Q + 2) rfl HOwn.out HBwn.out h4 HQ2.out ysp ynm ytx y1 y2 m1 l1 m2 l2 rfl ?_
                            intro gg cap' w7 hown7 hgrow hat
                            have HG7 := Lib.hid hgrow
                            have HO7 := Lib.hid hown7
                            have HAT := Lib.hid hat
                            have HA7 := Lib.hid (Below.allocs HBwn.out (.cells #[.string ysp, .string ynm, .slice y1 m1 l1, .slice y2 m2 l2, .string ytx] 25))
                            have s0 := (grown_cell06 hgrow HA7.out hq0 HNe0.out 3).1.trans x3
                            have s1 := (grown_cell06 hgrow HA7.out hgr HNe1.out (o1 + j * 5)).1.trans k0
                            have s2 := (grown_cell06 hgrow HA7.out hgr HNe1.out (o1 + j * 5 + 1)).1.trans k1
                            have s3 := (grown_cell06 hgrow HA7.out hgr HNe1.out (o1 + j * 5 + 2)).1.trans k2
                            have s4 := (grown_cell06 hgrow HA7.out hgr HNe1.out (o1 + j * 5 + 3)).1.trans k3
                            have s5 := (grown_cell06 hgrow HA7.out hgr HNe1.out (o1 + j * 5 + 4)).1.trans k4
                            have k7 := (grown_cell06 hgrow HA7.out hq1 HNe.out 3).1.trans n3
                            have g7 := (grown_cell06 hgrow HA7.out hq1 HNe.out 3).2.trans f3
                            clear hgrow hown7 hat
                            clear hHeld
                            refine hK.out _ _ ?_ (fun hHeld => ?_)
                            · ((try dsimp only); first | (refine ⟨?_, ?_, ?_, ?_, ?_, ?_⟩ <;> assumption) | go_keep)
                            clear hK K
                            try simp only [Act.put, List.setIfInBounds_toArray, List.set_cons_zero, List.set_cons_succ]
                            refine wpAnyH_take (i := 12) (v := ?_) rfl (by kernel_rfl) (by kernel_rfl) (by kernel_rfl) (fun _ _ _ h => h) (Or.inl ⟨by rfl, ?_⟩) (by assumption) ?_
                            rotate_left
                            · (intro w hSw; (try dsimp only at hSw); go_simp; (try with_reducible rfl))
                            try simp only [Act.put, List.setIfInBounds_toArray, List.set_cons_zero, List.set_cons_succ]
                            refine wpAnyH_ready (rs := [13]) (by kernel_rfl) (by simp) ?_
                            refine AllReadyH.cons (o := _) rfl (fun K hK => ?_) ?_
                            · go_simp
                              clear hHeld
                              refine hK.out _ _ ?_ (fun hHeld => ?_)
                              · ((try dsimp only); first | (refine ⟨?_, ?_, ?_, ?_, ?_, ?_⟩ <;> assumption) | go_keep)
                              clear hK K
                              try simp only [Act.put, List.setIfInBounds_toArray, List.set_cons_zero, List.set_cons_succ]
                              refine wpAnyH_done (by kernel_rfl) ?_ _
                              obtain ⟨y, hy, hyn⟩ := HY.out
                              have H7 := Lib.hid (HK.out.app (y := ⟨.string ysp, .string ynm, .slice y1 m1 l1, .slice y2 m2 l2, .string ytx⟩) HBwn.out (Below.allocs (Below.refl wn.heap.size wn) _) hy hyn HVj.out h4 HO7.out HG7.out HAT.out HVA.out)
                              have HL7 := Lib.hid (show (V ++ [(⟨.string ysp, .string ynm, .slice y1 m1 l1, .slice y2 m2 l2, .string ytx⟩ : NV)]).length = j + 1 by rw [List.length_append, HVj.out]; rfl)
                              clear hy hyn HY HG7 HO7 HAT HA7 s0 s1 s2 s3 s4 s5 k7 g7 z0 z1 z2 z3 z4 z5 z6 z7 HBwn hHeld
                              go_wp2_with fail
                              go_meet
                              exact ⟨_, _, _, HL7.out, H7.out⟩
                            exact AllReadyH.nil
                          exact AllReadyH.nil
                        exact AllReadyH.nil
                      exact AllReadyH.nil
                    exact AllReadyH.nil
                  case rest =>
                    obtain ⟨V', K', v', hV', hR'⟩ := hcut
                    have HR' := Lib.hid hR'
                    clear hR' x3 n3 f3 k0 k1 k2 k3 k4 CE
                    go_wp2_with fail
                    go_roundg (3 - (j + 1))
                    case measure => omega
                    case rel => exact ⟨j + 1, V', K', v', by omega, by go_num, hV', HR'.out⟩
                | false =>
                  subst hEE3
                  clear HE3 x3 n3 f3
                  have HN6 := Lib.hid HK.out.hn
                  have n0 := Lib.cell_of_heap HN6.out 0
                  have n1 := Lib.cell_of_heap HN6.out 1
                  have n2 := Lib.cell_of_heap HN6.out 2
                  have n3 := Lib.cell_of_heap HN6.out 3
                  have n4 := Lib.cell_of_heap HN6.out 4
                  have f0 := Lib.frozen_of_heap HN6.out 0
                  have f1 := Lib.frozen_of_heap HN6.out 1
                  have f2 := Lib.frozen_of_heap HN6.out 2
                  have f3 := Lib.frozen_of_heap HN6.out 3
                  have f4 := Lib.frozen_of_heap HN6.out 4
                  simp only [List.getElem?_toArray, List.getElem?_cons_zero, List.getElem?_cons_succ] at n0 n1 n2 n3 n4
                  have HG := Lib.hid (near_tree (d := d' + 1) HQ.out HAk.out HVj.out HK.out HNM.out HSP.out HOK.out HP.out HFW.out)
                  go_wp2_with fail
                  refine bodyPost_ret (res_node _ 4 rfl _ (Q + 1) rfl _ _ _ _ _ _ 25 (0, 0) (st5_heap HN6.out _ _ _ _ _)) rfl ?_
                  exact HG.out
theorem near_spec : ∀ d, NearSpec d
  | 0 => near_one 0 fun d' h => absurd h (by omega)
  | d + 1 => near_one (d + 1) fun d' h => by
    have e : d' = d := by omega
    rw [e]; exact near_spec d

end Go.Proofs.YtnlkpdodacphkaaGreatDoor
