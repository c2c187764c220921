/-
  Elements, level by level: the walks of kidsOf, Count and Depth. The walks of kidsOf, Count and Depth.
  The walks of slices.Equal at attributes, tree.alike, slices.EqualFunc and tree.Same, at two values of one element.
  The walks of layer 6's laws galliardlaw06.awake and TreeBad.
-/
import Derived.Test.YtincdacickhdkaaGreatDoorB21
import Derived.Deep.LoopGhost
import Derived.Test.YtincdacickhdkaaGreatDoorB19
import Derived.Test.YtincdacickhdkaaGreatDoorB9
import Derived.BigQuiet
import Derived.Deep.QuietTactic
import Derived.IntWalk
namespace Go.Proofs.YtincdacickhdkaaGreatDoor
open Go Go.RowKit
set_option maxRecDepth 100000

/-! ### a level in memory -/
abbrev anyB : Nat → Prop := fun _ => True
/-- A slice of elements, as it reads. -/
def LevelV (w : World) (v : Value) (ts : List Nd) : Prop :=
  ∃ (ao : Option Addr) (cap : Nat) (c : Nat → Nat → Value), v = .slice ao ts.length cap ∧ (0 < ts.length → ∃ g o, ao = some ⟨g, o, none⟩ ∧ g < w.heap.size ∧ ∀ j, j < ts.length → ∀ q, q < 5 → w.cell? ⟨g, o + j * 5 + q, none⟩ = some (c j q)) ∧
    ∀ j (h : j < ts.length), NodeV anyB w (.agg #[c j 0, c j 1, c j 2, c j 3, c j 4]) (ts[j]'h)
theorem NodeV.any {P : Nat → Prop} {w w' : World} {v : Value} {x : Nd} (h : NodeV P w v x) (hb : Below w.heap.size w w') : NodeV anyB w' v x := h.to hb.size fun g _ hg => ⟨trivial, hb.block g hg⟩
theorem LevelV.step {w w' : World} {v : Value} {ts : List Nd} (h : LevelV w v ts) (hb : Below w.heap.size w w') : LevelV w' v ts := by
  obtain ⟨ao, cap, c, hv, hc, hn⟩ := h
  refine ⟨ao, cap, c, hv, fun h0 => ?_, fun j hj => (hn j hj).any hb⟩
  obtain ⟨g, o, ha, hg, h⟩ := hc h0
  exact ⟨g, o, ha, Nat.lt_of_lt_of_le hg hb.size, fun j hj q hq => (hb.cell (p := ⟨g, o + j * 5 + q, none⟩) hg).trans (h j hj q hq)⟩
/-- The row that kidsOf makes. -/
structure KidR (w : World) (v : Value) (V : List NV) (K : List Nd) (wr : World) : Prop where
  len : V.length = K.length
  own : wr.ownsRow w.heap.size 25 5 v V.length (cellsN V)
  nodes : ∀ j (h : j < V.length) (h' : j < K.length), NodeV (fun g => g < w.heap.size) wr (V[j]'h).val (K[j]'h')
  below : Below w.heap.size w wr
theorem KidR.level {w : World} {v : Value} {V : List NV} {K : List Nd} {wr : World} (h : KidR w v V K wr) : LevelV wr v K := by
  obtain ⟨ak, ck, hv⟩ := own_form h.own
  refine ⟨ak, ck, fun j q => ((cellsN V)[j * 5 + q]?).getD undef, by rw [hv, h.len], fun h0 => ?_, fun j hj => ?_⟩
  · have hown := h.own
    rw [hv] at hown
    obtain ⟨g, rfl, hg⟩ := own_some hown (by have := h.len; omega)
    refine ⟨g, 0, rfl, hg, fun j hj q hq => ?_⟩
    have hlt : j * 5 + q < (cellsN V).length := by rw [cellsN_len, h.len]; omega
    show wr.cell? ⟨g, 0 + j * 5 + q, none⟩ = some (((cellsN V)[j * 5 + q]?).getD undef)
    rw [Nat.zero_add, hown.cellAt _ (by have := h.len; omega), List.getElem?_eq_getElem hlt]
    rfl
  · have hj' : j < V.length := by have := h.len; omega
    have hv := h.nodes j hj' hj
    have e : ∀ q, q < 5 → ((cellsN V)[j * 5 + q]?).getD undef = (V[j]'hj').at_ q := fun q hq => by rw [cellsN_get V j hj' q hq]; rfl
    show NodeV anyB wr (.agg #[((cellsN V)[j * 5 + 0]?).getD undef, ((cellsN V)[j * 5 + 1]?).getD undef, ((cellsN V)[j * 5 + 2]?).getD undef, ((cellsN V)[j * 5 + 3]?).getD undef, ((cellsN V)[j * 5 + 4]?).getD undef]) _
    rw [e 0 (by decide), e 1 (by decide), e 2 (by decide), e 3 (by decide), e 4 (by decide)]
    exact hv.to (Nat.le_refl _) fun g _ _ => ⟨trivial, rfl⟩
/-- The values of an element's elements, out of its cells. -/
def rowOf (c : Nat → Nat → Value) (n : Nat) : List NV := (List.range n).map fun j => ⟨c j 0, c j 1, c j 2, c j 3, c j 4⟩
theorem rowOf_len (c : Nat → Nat → Value) (n : Nat) : (rowOf c n).length = n := by simp [rowOf]
theorem rowOf_get (c : Nat → Nat → Value) (n j : Nat) (h : j < (rowOf c n).length) : (rowOf c n)[j]'h = ⟨c j 0, c j 1, c j 2, c j 3, c j 4⟩ := by simp only [rowOf, List.getElem_map, List.getElem_range]
theorem rowOf_cells (c : Nat → Nat → Value) (n : Nat) : ∀ j u, (cellsN (rowOf c n))[j]? = some u → ∃ i q, i < n ∧ q < 5 ∧ j = i * 5 + q ∧ u = c i q := fun j u h => by
  have hj : j < n * 5 := by
    have := (List.getElem?_eq_some_iff.1 h).1
    rw [cellsN_len, rowOf_len] at this; exact this
  have hi : j / 5 < (rowOf c n).length := by rw [rowOf_len]; omega
  have hg := cellsN_get (rowOf c n) (j / 5) hi (j % 5) (by omega)
  rw [show j / 5 * 5 + j % 5 = j by omega, h] at hg
  refine ⟨j / 5, j % 5, by omega, by omega, by omega, ?_⟩
  have hx : (rowOf c n)[j / 5]'hi = ⟨c (j / 5) 0, c (j / 5) 1, c (j / 5) 2, c (j / 5) 3, c (j / 5) 4⟩ := rowOf_get c _ _ _
  rw [hx] at hg
  have hq : j % 5 < 5 := by omega
  generalize j % 5 = q at hg hq ⊢
  injection hg with hg
  rw [hg]
  match q, hq with
  | 0, _ => rfl
  | 1, _ => rfl
  | 2, _ => rfl
  | 3, _ => rfl
  | 4, _ => rfl
theorem NodeV.kidsAt {P : Nat → Prop} {w : World} {v : Value} {x : Nd} (h : NodeV P w v x) : ∃ sp nm tx a1 n1 c1 ao cap, ∃ c : Nat → Nat → Value, v = .agg #[.string sp, .string nm, .slice a1 n1 c1, .slice ao x.kids.length cap, .string tx] ∧
    (0 < x.kids.length → ∃ g o, ao = some ⟨g, o, none⟩ ∧ P g ∧ g < w.heap.size ∧ ∀ j, j < x.kids.length → ∀ q, q < 5 → w.cell? ⟨g, o + j * 5 + q, none⟩ = some (c j q)) ∧
    ∀ j (h : j < x.kids.length), NodeV P w (.agg #[c j 0, c j 1, c j 2, c j 3, c j 4]) (x.kids[j]'h) := by
  cases h with
  | mk sp nm tx A K va ao cap c ha hk hn =>
    obtain ⟨a1, c1, rfl, _⟩ := ha
    exact ⟨_, _, _, _, _, _, _, _, c, rfl, hk, hn⟩
/-- One element's elements are put behind those that are there. -/
theorem KidR.more {w : World} {v v' : Value} {V : List NV} {K : List Nd} {wr wA w7 : World} (h : KidR w v V K wr) (hA : Below wr.heap.size wr wA) {c : Nat → Nat → Value} {K2 : List Nd} (hK : ∀ j (h : j < K2.length), NodeV (fun g => g < w.heap.size) wA (.agg #[c j 0, c j 1, c j 2, c j 3, c j 4]) (K2[j]'h))
    (hown : w7.ownsRow w.heap.size 25 5 v' (V.length + K2.length) (cellsN V ++ cellsN (rowOf c K2.length))) (hg : wA.grownBy w7 v.ownBlock) : KidR w v' (V ++ rowOf c K2.length) (K ++ K2) w7 := by
  have hr : ∀ r, v.ownBlock = some r → w.heap.size ≤ r := fun r e => (h.own.lt r e).1
  have hb7 : Below w.heap.size w w7 := (h.below.trans (hA.mono h.below.size)).grown hg (Nat.le_trans h.below.size hA.size) hr
  have hst : ∀ v x, NodeV (fun g => g < w.heap.size) wA v x → NodeV (fun g => g < w.heap.size) w7 v x := fun v x hv => hv.to hg.size fun g hp hl => ⟨hp, hg.block g hl (fun e => by have := hr g e.symm; omega)⟩
  refine ⟨by rw [List.length_append, List.length_append, rowOf_len, h.len], ?_, fun j hj hj' => ?_, hb7⟩
  · rw [cellsN_app, List.length_append, rowOf_len]; exact hown
  · by_cases hjV : j < V.length
    · rw [List.getElem_append_left hjV, List.getElem_append_left (by rw [← h.len]; exact hjV)]
      exact hst _ _ ((h.nodes j hjV (by rw [← h.len]; exact hjV)).to hA.size fun g hp hl => ⟨hp, hA.block g hl⟩)
    · rw [List.getElem_append_right (by omega), List.getElem_append_right (by rw [← h.len]; omega)]
      have hj2 : j - V.length < K2.length := by rw [List.length_append, rowOf_len] at hj; omega
      have e : (rowOf c K2.length)[j - V.length]'(by rw [rowOf_len]; exact hj2) = ⟨c (j - V.length) 0, c (j - V.length) 1, c (j - V.length) 2, c (j - V.length) 3, c (j - V.length) 4⟩ := rowOf_get c _ _ _
      rw [e]
      have hk := hst _ _ (hK (j - V.length) hj2)
      have hl := h.len
      simp only [← hl]
      exact hk

end Go.Proofs.YtincdacickhdkaaGreatDoor

namespace Go.Proofs.YtincdacickhdkaaGreatDoor
open Go Go.RowKit
set_option maxRecDepth 100000

theorem kidsL_take (ts : List Nd) (j : Nat) (h : j < ts.length) : kidsL (ts.take (j + 1)) = kidsL (ts.take j) ++ (ts[j]'h).kids := by
  unfold kidsL
  rw [List.take_succ_eq_append_getElem h, List.flatMap_append]
  simp
theorem kidsL_le (ts : List Nd) (j : Nat) : (kidsL (ts.take j)).length ≤ (kidsL ts).length := by
  have e : kidsL ts = kidsL (ts.take j) ++ kidsL (ts.drop j) := by unfold kidsL; rw [← List.flatMap_append, List.take_append_drop]
  rw [e, List.length_append]; omega
theorem one_cells (V : List NV) (h : ∀ x ∈ V, x.a.oneCell' = true ∧ x.b.oneCell' = true ∧ x.c.oneCell' = true ∧ x.d.oneCell' = true ∧ x.e.oneCell' = true) : ∀ u ∈ cellsN V, u.oneCell' = true := fun u hu => by
  unfold cellsN at hu
  obtain ⟨x, hx, hu⟩ := List.mem_flatMap.1 hu
  have hh := h x hx
  rcases List.mem_cons.1 hu with rfl | hu
  · exact hh.1
  rcases List.mem_cons.1 hu with rfl | hu
  · exact hh.2.1
  rcases List.mem_cons.1 hu with rfl | hu
  · exact hh.2.2.1
  rcases List.mem_cons.1 hu with rfl | hu
  · exact hh.2.2.2.1
  · rw [List.mem_singleton.1 hu]; exact hh.2.2.2.2
theorem node_cells {P : Nat → Prop} {w : World} {c : Nat → Value} {x : Nd} (h : NodeV P w (.agg #[c 0, c 1, c 2, c 3, c 4]) x) : (c 0).oneCell' = true ∧ (c 1).oneCell' = true ∧ (c 2).oneCell' = true ∧ (c 3).oneCell' = true ∧ (c 4).oneCell' = true := by
  obtain ⟨sp, nm, tx, a1, n1, c1, ao, cap, c', hv, _⟩ := h.kidsAt
  injection hv with hv
  injection hv with hv
  injection hv with h0 hv
  injection hv with h1 hv
  injection hv with h2 hv
  injection hv with h3 hv
  injection hv with h4 hv
  rw [h0, h1, h2, h3, h4]
  exact ⟨rfl, rfl, rfl, rfl, rfl⟩
theorem KidR.step {w : World} {v : Value} {V : List NV} {K : List Nd} {wr wx : World} (h : KidR w v V K wr) (hb : Below wr.heap.size wr wx) : KidR w v V K wx :=
  ⟨h.len, own_kept h.own hb, fun j hj hj' => (h.nodes j hj hj').to hb.size fun g hp hg => ⟨hp, hb.block g hg⟩, h.below.trans (hb.mono h.below.size)⟩
theorem own_cases {w : World} {base : Nat} {e : TypeId} {z n N ck : Nat} {ak : Option Addr} {xs : List Value} (h : w.ownsRow base e z (.slice ak n ck) N xs) (hn : N = n) : (ak = none ∧ n = 0 ∧ ck = 0) ∨ ∃ g, ak = some ⟨g, 0, none⟩ ∧ n ≤ ck := by
  rcases h.2 with ⟨hv, _⟩ | ⟨g, cap, cur, hv, _, _, hc, _⟩
  · injection hv with h1 h2 h3; exact .inl ⟨h1, h2, h3⟩
  · injection hv with h1 h2 h3; subst h3; exact .inr ⟨g, h1, by omega⟩
set_option maxHeartbeats 8000000 in
theorem pkids (v : Value) (ts : List Nd) (w : World) (h : LevelV w v ts) (hlen : (kidsL ts).length ≤ 1000000) (hts : ts.length ≤ 1000000) :
    Calls Tryz.prog 29 #[v] w fun r w' => ∃ v', r = .returned v' ∧ LevelV w' v' (kidsL ts) ∧ Below w.heap.size w w' := by
  obtain ⟨ao, cap, c, rfl, hc, hn⟩ := h
  obtain ⟨i0, hi, hz0, hz1, hz2⟩ := info_parts node_info
  have HI := Lib.hid hi
  have HI0 := Lib.hid hz0
  have HI1 := Lib.hid hz1
  have HI2 := Lib.hid hz2
  have HC := Lib.hid hc
  have HN := Lib.hid hn
  have HL := Lib.hid hlen
  clear hi hz0 hz1 hz2 hc hn hlen
  go_enter Tryz.func29, Tryz.ntmps29
  go_wp2
  go_loopg [3, 8] ts.length (fun g kids k wr => ∃ j V, g + j = ts.length ∧ k = .int .i64 (j : Nat) ∧ KidR w kids V (kidsL (ts.take j)) wr)
  case atStart => exact ⟨0, [], rfl, rfl, ⟨rfl, World.ownsRow_nil _ _ _ _, fun j hj => absurd hj (Nat.not_lt_zero j), Below.refl _ _⟩⟩
  case round =>
    obtain ⟨j, V, hg, rfl, hr⟩ := hrel
    obtain ⟨ak, ck, hkv⟩ := own_form hr.own
    obtain ⟨nv, hnv⟩ : ∃ nv, V.length = nv := ⟨_, rfl⟩
    rw [hnv] at hkv
    subst hkv
    have HR := Lib.hid hr
    have HNV := Lib.hid hnv
    clear hr hnv
    by_cases hj : j < ts.length
    · obtain ⟨g0, o0, rfl, hg0, hcell⟩ := HC.out (by omega)
      have hnode := HN.out j hj
      obtain ⟨x, hx⟩ : ∃ x, ts[j]'hj = x := ⟨_, rfl⟩
      rw [hx] at hnode
      obtain ⟨sp, nm, tx, a1, n1, c1, kao, kcap, c', hv, hkc, hkn⟩ := hnode.kidsAt
      injection hv with hv
      injection hv with hv
      injection hv with e0 hv
      injection hv with e1 hv
      injection hv with e2 hv
      injection hv with e3 hv
      injection hv with e4 hv
      have r0 := (HR.out.below.cell (p := ⟨g0, o0 + j * 5 + 0, none⟩) hg0).trans (hcell j hj 0 (by decide))
      have r1 := (HR.out.below.cell (p := ⟨g0, o0 + j * 5 + 1, none⟩) hg0).trans (hcell j hj 1 (by decide))
      have r2 := (HR.out.below.cell (p := ⟨g0, o0 + j * 5 + 2, none⟩) hg0).trans (hcell j hj 2 (by decide))
      have r3 := (HR.out.below.cell (p := ⟨g0, o0 + j * 5 + 3, none⟩) hg0).trans (hcell j hj 3 (by decide))
      have r4 := (HR.out.below.cell (p := ⟨g0, o0 + j * 5 + 4, none⟩) hg0).trans (hcell j hj 4 (by decide))
      rw [e0] at r0
      rw [e1] at r1
      rw [e2] at r2
      rw [e3] at r3
      rw [e4] at r4
      rw [Nat.add_zero] at r0
      have hj' : (j : Int) < (ts.length : Int) := by omega
      have htake := kidsL_take ts j hj
      rw [hx] at htake
      have hle := kidsL_le ts (j + 1)
      rw [htake, List.length_append] at hle
      have hlen2 : nv + x.kids.length ≤ 1000000 := by have := HR.out.len; have := HNV.out; have := HL.out; omega
      have HTK := Lib.hid htake
      have HKC := Lib.hid hkc
      have HKN := Lib.hid hkn
      obtain ⟨m, hm⟩ : ∃ m, x.kids.length = m := ⟨_, rfl⟩
      rw [hm] at r3 hlen2
      have HMm := Lib.hid hm
      clear hv hkc hkn hcell hnode e0 e1 e2 e3 e4 htake hle hx hm
      by_cases hK : m = 0
      · subst hK
        have hk0 : x.kids = [] := List.eq_nil_of_length_eq_zero HMm.out
        have hstep := HR.out.step ((Below.refl wr.heap.size wr).alloc (Nat.le_refl _) (.cells #[.string sp, .string nm, .slice a1 n1 c1, .slice kao 0 kcap, .string tx] 25))
        have hsame : kidsL (ts.take (j + 1)) = kidsL (ts.take j) := by rw [HTK.out, hk0, List.append_nil]
        rw [← hsame] at hstep
        have HST := Lib.hid hstep
        cases kao with
        | none =>
          rcases own_cases HR.out.own HNV.out with ⟨rfl, rfl, rfl⟩ | ⟨gr, rfl, hnc⟩
          · clear hstep hsame hk0 HKN HKC HTK
            go_wp2
            go_roundg (ts.length - (j + 1))
            case measure => omega
            case rel => exact ⟨j + 1, V, by omega, by go_num, HST.out⟩
          · clear hstep hsame hk0 HKN HKC HTK
            go_wp2
            go_roundg (ts.length - (j + 1))
            case measure => omega
            case rel => exact ⟨j + 1, V, by omega, by go_num, HST.out⟩
        | some ad =>
          have HZ := Lib.hid ((Below.refl wr.heap.size wr).alloc (Nat.le_refl _) (.cells #[.string sp, .string nm, .slice a1 n1 c1, .slice (some ad) 0 kcap, .string tx] 25))
          go_wp2_with (
            at_builtin
            refine wpList_append_own _ rfl _ _ 23 rfl w.heap.size 25 i0 _ 5 96 Tryz.underlying23 HI.out HI0.out HI1.out HI2.out rfl (by decide) (.slice ak nv ck) nv (cellsN V) rfl (by have := (HR.out.own).alloc (.cells #[.string sp, .string nm, .slice a1 n1 c1, .slice (some ad) 0 kcap, .string tx] 25); rw [HNV.out] at this; exact this)
              ad 0 kcap [] rfl rfl (fun _ _ h => by simp at h) (fun _ h => by cases h) (by unfold maxLen; omega) (by omega) (Nat.le_trans HR.out.below.size HZ.out.size) ?next)
          case next =>
            intro v' w7 hown hgr _
            have hmore := HR.out.more HZ.out (c := c') (K2 := []) (fun i hi => absurd hi (Nat.not_lt_zero i)) (v' := v') (by rw [HNV.out]; show w7.ownsRow _ _ _ v' (nv + 0) (cellsN V ++ []); rw [List.append_nil]; exact hown) hgr
            rw [List.append_nil, ← hsame] at hmore
            have HM := Lib.hid hmore
            obtain ⟨ak2, ck2, hv2⟩ := own_form hown
            subst hv2
            clear hmore hown hgr HKN HKC HZ HTK hstep hsame hk0 r0 r1 r2 r3 r4
            go_wp2
            go_roundg (ts.length - (j + 1))
            case measure => omega
            case rel => exact ⟨j + 1, _, by omega, by go_num, HM.out⟩
      · obtain ⟨gk, ok, rfl, _, hgk, hkcell⟩ := HKC.out (by have := HMm.out; omega)
        have hZ := (Below.refl wr.heap.size wr).alloc (Nat.le_refl _) (.cells #[.string sp, .string nm, .slice a1 n1 c1, .slice (some ⟨gk, ok, none⟩) m kcap, .string tx] 25)
        have HZ := Lib.hid hZ
        have HKcell := Lib.hid hkcell
        have HHgk := Lib.hid hgk
        clear hZ hkcell hgk
        go_wp2_with (
          at_builtin
          refine wpList_append_own _ rfl _ _ 23 rfl w.heap.size 25 i0 _ 5 96 Tryz.underlying23 HI.out HI0.out HI1.out HI2.out rfl (by decide) (.slice ak nv ck) nv (cellsN V) rfl (by have := (HR.out.own).alloc (.cells #[.string sp, .string nm, .slice a1 n1 c1, .slice (some ⟨gk, ok, none⟩) m kcap, .string tx] 25); rw [HNV.out] at this; exact this)
            ⟨gk, ok, none⟩ m kcap (cellsN (rowOf c' m)) rfl (by rw [cellsN_len, rowOf_len]) ?c1 ?c2 (by unfold maxLen; omega) (by omega) (Nat.le_trans HR.out.below.size HZ.out.size) ?next)
        case c1 =>
          intro i u hu
          obtain ⟨i1, q1, hi1, hq1, rfl, rfl⟩ := rowOf_cells c' m i u hu
          rw [Go.WideShapes.add_plain, ← Nat.add_assoc]
          exact (HZ.out.cell (p := ⟨gk, ok + i1 * 5 + q1, none⟩) (Nat.lt_of_lt_of_le HHgk.out HR.out.below.size)).trans ((HR.out.below.cell (p := ⟨gk, ok + i1 * 5 + q1, none⟩) HHgk.out).trans (HKcell.out i1 (by have := HMm.out; omega) q1 hq1))
        case c2 =>
          refine one_cells _ fun y hy => ?_
          obtain ⟨i1, hi1, rfl⟩ := List.mem_iff_getElem.1 hy
          rw [rowOf_len] at hi1
          rw [rowOf_get]
          exact node_cells (c := fun q => c' i1 q) (HKN.out i1 (by have := HMm.out; omega))
        case next =>
          intro v' w7 hown hgr _
          have hmore := HR.out.more HZ.out (c := c') (K2 := x.kids) (fun i hi => (HKN.out i hi).to (Nat.le_trans HR.out.below.size HZ.out.size) fun g _ hg => ⟨hg, (HZ.out.block g (Nat.lt_of_lt_of_le hg HR.out.below.size)).trans (HR.out.below.block g hg)⟩) (by rw [HMm.out, HNV.out]; exact hown) hgr
          rw [HMm.out, ← HTK.out] at hmore
          have HM := Lib.hid hmore
          obtain ⟨ak2, ck2, hv2⟩ := own_form hown
          subst hv2
          clear hmore hown hgr HKN HKC HKcell HZ HTK r0 r1 r2 r3 r4
          go_wp2
          go_roundg (ts.length - (j + 1))
          case measure => omega
          case rel => exact ⟨j + 1, _, by omega, by go_num, HM.out⟩
    · have hj' : ¬ (j : Int) < (ts.length : Int) := by omega
      have HLV := Lib.hid (show LevelV wr (.slice ak nv ck) (kidsL ts) by
        have h1 := HR.out.level
        rw [List.take_of_length_le (by omega)] at h1
        exact h1)
      have HB := Lib.hid HR.out.below
      go_wp2
      go_ret
      exact ⟨_, rfl, HLV.out, HB.out⟩

/-- An element alone, as a level. -/
theorem level_one {P : Nat → Prop} {w : World} {c0 c1 c2 c3 c4 : Value} {x : Nd} (h : NodeV P w (.agg #[c0, c1, c2, c3, c4]) x) : LevelV (w.alloc (.cells #[c0, c1, c2, c3, c4] 25)) (.slice (some ⟨w.heap.size, 0, none⟩) 1 1) [x] := by
  refine ⟨_, 1, fun _ q => match q with | 0 => c0 | 1 => c1 | 2 => c2 | 3 => c3 | _ => c4, rfl, fun _ => ⟨_, _, rfl, by simp, fun j hj q hq => ?_⟩, fun j hj => ?_⟩
  · have hj0 : j = 0 := by have : ([x] : List Nd).length = 1 := rfl; omega
    subst hj0
    have hh := heap_alloc_new w (.cells #[c0, c1, c2, c3, c4] 25)
    rw [Lib.cell_of_heap hh]
    match q, hq with
    | 0, _ => rfl
    | 1, _ => rfl
    | 2, _ => rfl
    | 3, _ => rfl
    | 4, _ => rfl
  · have hj0 : j = 0 := by have : ([x] : List Nd).length = 1 := rfl; omega
    subst hj0
    exact h.any ((Below.refl _ _).alloc (Nat.le_refl _) _)
theorem LevelV.form {w : World} {v : Value} {ts : List Nd} (h : LevelV w v ts) : ∃ ao cap, v = .slice ao ts.length cap := by obtain ⟨ao, cap, _, hv, _⟩ := h; exact ⟨_, _, hv⟩
set_option maxHeartbeats 4000000 in
/-- **tree.Count.** -/
theorem pcount (v : Value) (x : Nd) (P : Nat → Prop) (w : World) (h : NodeV P w v x) (hc : x.count ≤ 1000000) :
    Calls Tryz.prog 14 #[v] w fun r w' => r = .returned (.int .i64 (x.count : Nat)) ∧ Below w.heap.size w w' := by
  obtain ⟨sp, nm, tx, a1, n1, c1, ao, cap, c, rfl, _⟩ := h.kidsAt
  have hb1 := (Below.refl w.heap.size w).alloc (Nat.le_refl _) (.cells #[.string sp, .string nm, .slice a1 n1 c1, .slice ao x.kids.length cap, .string tx] 25)
  have hl := level_one (h.any hb1)
  have hb2 := hb1.alloc (by simp) (.cells #[.string sp, .string nm, .slice a1 n1 c1, .slice ao x.kids.length cap, .string tx] 25)
  rw [World.size_alloc] at hl
  have hx1 : countK [x] = x.count := by simp [countK]
  have HL := Lib.hid hl
  have HB := Lib.hid hb2
  have HC := Lib.hid hc
  have HX := Lib.hid hx1
  clear h hl hb1 hb2 hc hx1
  go_enter Tryz.func14, Tryz.ntmps14
  go_wp2
  go_loopg [3, 4] (countK [x]) (fun g cnt lv wr => ∃ (k : Nat) (ts : List Nd), cnt = .int .i64 (k : Nat) ∧ LevelV wr lv ts ∧ k + countK ts = x.count ∧ g = countK ts ∧ Below w.heap.size w wr)
  case atStart => exact ⟨0, [x], rfl, HL.out, by rw [HX.out]; omega, rfl, HB.out⟩
  case round =>
    obtain ⟨k, ts, rfl, hlv, hk, hg, hbw⟩ := hrel
    obtain ⟨ao2, cap2, rfl⟩ := hlv.form
    have HLV := Lib.hid hlv
    have hlen := len_count ts
    have hlev := count_level ts
    have hcc := HC.out
    clear hlv
    by_cases h0 : ts.length = 0
    · have hts : ts = [] := List.eq_nil_of_length_eq_zero h0
      have hk2 : k = x.count := by rw [hts] at hk; simpa [countK] using hk
      subst hk2
      have q : (ts.length : Int) = 0 := by omega
      have q0 : decide ((0 : Int) < (ts.length : Int)) = false := decide_eq_false (by omega)
      have HBW := Lib.hid hbw
      clear hlen hlev hk hbw hts
      rw [h0]
      go_wp2
      go_ret
      exact ⟨rfl, HBW.out⟩
    · have q0 : (0 : Int) < (ts.length : Int) := by omega
      have CK := Lib.hid (pkids _ ts wr HLV.out (by have := len_count (kidsL ts); omega) (by omega))
      go_wp2_with fail
      refine CK.out.mono ?_
      rintro r w1 ⟨v', rfl, hl', hb'⟩
      have HL2 := Lib.hid hl'
      have HB2 := Lib.hid (hbw.trans (hb'.mono hbw.size))
      obtain ⟨ao3, cap3, hv3⟩ := hl'.form
      subst hv3
      clear hl' hb' hbw CK HLV
      go_wp2
      go_roundg (countK (kidsL ts))
      case measure => omega
      case rel => exact ⟨k + ts.length, kidsL ts, by go_num, HL2.out, by omega, rfl, HB2.out⟩
set_option maxHeartbeats 4000000 in
/-- **tree.Depth.** -/
theorem pdepthT (v : Value) (x : Nd) (P : Nat → Prop) (w : World) (h : NodeV P w v x) (hc : x.count ≤ 1000000) :
    Calls Tryz.prog 15 #[v] w fun r w' => r = .returned (.int .i64 (x.depth : Nat)) ∧ Below w.heap.size w w' := by
  obtain ⟨sp, nm, tx, a1, n1, c1, ao, cap, c, rfl, _⟩ := h.kidsAt
  have hb1 := (Below.refl w.heap.size w).alloc (Nat.le_refl _) (.cells #[.string sp, .string nm, .slice a1 n1 c1, .slice ao x.kids.length cap, .string tx] 25)
  have hl := level_one (h.any hb1)
  have hb2 := hb1.alloc (by simp) (.cells #[.string sp, .string nm, .slice a1 n1 c1, .slice ao x.kids.length cap, .string tx] 25)
  rw [World.size_alloc] at hl
  have hx1 : depthK [x] = x.depth ∧ countK [x] = x.count := by simp [depthK, countK]
  have HL := Lib.hid hl
  have HB := Lib.hid hb2
  have HC := Lib.hid hc
  have HX := Lib.hid hx1
  clear h hl hb1 hb2 hc hx1
  go_enter Tryz.func15, Tryz.ntmps15
  go_wp2
  go_loopg [3, 4] (depthK [x]) (fun g cnt lv wr => ∃ (k : Nat) (ts : List Nd), cnt = .int .i64 (k : Nat) ∧ LevelV wr lv ts ∧ (k + depthK ts = x.depth ∧ k + countK ts ≤ x.count) ∧ g = depthK ts ∧ Below w.heap.size w wr)
  case atStart => exact ⟨0, [x], rfl, HL.out, ⟨by rw [HX.out.1]; omega, by rw [HX.out.2]; omega⟩, rfl, HB.out⟩
  case round =>
    obtain ⟨k, ts, rfl, hlv, hk, hg, hbw⟩ := hrel
    obtain ⟨ao2, cap2, rfl⟩ := hlv.form
    have HLV := Lib.hid hlv
    have hlen := len_count ts
    have hlev := count_level ts
    have hdl := depth_level ts
    have hcc := HC.out
    clear hlv
    by_cases h0 : ts.length = 0
    · have hts : ts = [] := List.eq_nil_of_length_eq_zero h0
      have hk2 : k = x.depth := by rw [hts] at hk; simpa [depthK] using hk.1
      subst hk2
      have q : (ts.length : Int) = 0 := by omega
      have q0 : decide ((0 : Int) < (ts.length : Int)) = false := decide_eq_false (by omega)
      have HBW := Lib.hid hbw
      clear hlen hlev hdl hk hbw hts
      rw [h0]
      go_wp2
      go_ret
      exact ⟨rfl, HBW.out⟩
    · have q0 : (0 : Int) < (ts.length : Int) := by omega
      have hd2 := hdl (fun e => h0 (by rw [e]; rfl))
      clear hdl
      have CK := Lib.hid (pkids _ ts wr HLV.out (by have := len_count (kidsL ts); omega) (by omega))
      go_wp2_with fail
      refine CK.out.mono ?_
      rintro r w1 ⟨v', rfl, hl', hb'⟩
      have HL2 := Lib.hid hl'
      have HB2 := Lib.hid (hbw.trans (hb'.mono hbw.size))
      obtain ⟨ao3, cap3, hv3⟩ := hl'.form
      subst hv3
      clear hl' hb' hbw CK HLV
      go_wp2
      go_roundg (depthK (kidsL ts))
      case measure => omega
      case rel => exact ⟨k + 1, kidsL ts, by go_num, HL2.out, ⟨by omega, by omega⟩, rfl, HB2.out⟩

end Go.Proofs.YtincdacickhdkaaGreatDoor

namespace Go.Proofs.YtincdacickhdkaaGreatDoor
open Go Go.RowKit Go.Lib
set_option maxRecDepth 100000

set_option maxHeartbeats 8000000 in
theorem attrs_equal (P : Nat → Prop) (va vb : Value) (A : List Att) (w : World) (ha : AttV P w va A) (hb : AttV P w vb A) (hAl : A.length ≤ 100000) :
    Calls Tryz.prog 41 #[va, vb] w fun e w' => e = .returned (.bool true) ∧ Below w.heap.size w w' := by
  obtain ⟨a1, c1, rfl, ha⟩ := ha
  obtain ⟨a2, c2, rfl, hb⟩ := hb
  have HA := Lib.hid ha
  have HB := Lib.hid hb
  clear ha hb
  go_enter Tryz.func41, Tryz.ntmps41
  go_wp2_with fail
  go_loopg [5, 13] A.length (fun g u i wr => ∃ j, g + j = A.length ∧ i = .int .i64 (j : Nat) ∧ Below w.heap.size w wr)
  case atStart => exact ⟨0, by omega, rfl, Below.refl _ _⟩
  case round =>
    obtain ⟨j, hg, rfl, hbr⟩ := hrel
    have HBR := Lib.hid hbr
    by_cases hj : j < A.length
    · have hj' : (j : Int) < (A.length : Int) := by omega
      obtain ⟨g0, o0, rfl, _, hg0, hac⟩ := HA.out (by omega)
      obtain ⟨g1, o1, rfl, _, hg1, hbc⟩ := HB.out (by omega)
      obtain ⟨k0, k1⟩ := hac j hj
      obtain ⟨d0, d1⟩ := hbc j hj
      obtain ⟨⟨an, av⟩, hav⟩ : ∃ y, A[j]'hj = y := ⟨_, rfl⟩
      rw [hav] at k0 k1 d0 d1
      have a0 := (hbr.cell (p := ⟨g0, o0 + j * 2, none⟩) hg0).trans k0
      have a1 := (hbr.cell (p := ⟨g0, o0 + j * 2 + 1, none⟩) hg0).trans k1
      have b0 := (hbr.cell (p := ⟨g1, o1 + j * 2, none⟩) hg1).trans d0
      have b1 := (hbr.cell (p := ⟨g1, o1 + j * 2 + 1, none⟩) hg1).trans d1
      have hjl : (j : Int) < 100000 := by omega
      clear hbr k0 k1 d0 d1 hac hbc hav
      go_wp2_with fail
      go_quiet (fail)
      go_wp2_with fail
      go_roundg (A.length - (j + 1))
      case measure => omega
      case rel => exact ⟨j + 1, by omega, by go_num, HBR.out.trans ((below_drewN _ _).mono HBR.out.size)⟩
    · have hj' : ¬ (j : Int) < (A.length : Int) := by omega
      clear hbr
      go_wp2_with fail
      go_ret
      exact ⟨rfl, HBR.out⟩
set_option maxHeartbeats 8000000 in
theorem alike_same (va vb : Value) (s n tx : ByteArray) (A : List Att) (K : List Nd) (w : World) (hva : NodeV (fun _ => True) w va (.mk s n A K tx)) (hvb : NodeV (fun _ => True) w vb (.mk s n A K tx)) (hAl : A.length ≤ 100000) :
    Calls Tryz.prog 28 #[va, vb] w fun e w' => e = .returned (.bool true) ∧ Below w.heap.size w w' := by
  obtain ⟨a1, c1, ak, ac, _, rfl, hxa, _, _⟩ := parts_at hva
  obtain ⟨b1, d1, bk, bc, _, rfl, hya, _, _⟩ := parts_at hvb
  have ha : AttV (fun _ => True) w (.slice a1 A.length c1) A := ⟨a1, c1, rfl, hxa⟩
  have hb : AttV (fun _ => True) w (.slice b1 A.length d1) A := ⟨b1, d1, rfl, hya⟩
  obtain ⟨sp, hsp⟩ : ∃ sp, s = sp := ⟨_, rfl⟩
  obtain ⟨nm, hnm⟩ : ∃ nm, n = nm := ⟨_, rfl⟩
  subst hsp hnm
  obtain ⟨al, hal⟩ : ∃ al, A.length = al := ⟨_, rfl⟩
  obtain ⟨kl, hkl⟩ : ∃ kl, K.length = kl := ⟨_, rfl⟩
  rw [hal] at ha hb hAl ⊢
  rw [hkl]
  have hA1 := (Below.refl w.heap.size w).alloc (Nat.le_refl _) (.cells #[.string s, .string n, .slice a1 al c1, .slice ak kl ac, .string tx] 25)
  have hA2 := hA1.alloc (by simp) (.cells #[.string s, .string n, .slice b1 al d1, .slice bk kl bc, .string tx] 25)
  have hX0 := (Below.heap_alloc (w.alloc (.cells #[.string s, .string n, .slice a1 al c1, .slice ak kl ac, .string tx] 25)) (.cells #[.string s, .string n, .slice b1 al d1, .slice bk kl bc, .string tx] 25) w.heap.size (by simp)).trans (heap_alloc_new w _)
  have hY0 := heap_alloc_new (w.alloc (.cells #[.string s, .string n, .slice a1 al c1, .slice ak kl ac, .string tx] 25)) (.cells #[.string s, .string n, .slice b1 al d1, .slice bk kl bc, .string tx] 25)
  rw [World.size_alloc] at hY0
  obtain ⟨w0, hw0⟩ : ∃ w0, (w.alloc (.cells #[.string s, .string n, .slice a1 al c1, .slice ak kl ac, .string tx] 25)).alloc (.cells #[.string s, .string n, .slice b1 al d1, .slice bk kl bc, .string tx] 25) = w0 := ⟨_, rfl⟩
  rw [hw0] at hA2 hX0 hY0
  have CE := Lib.hid (attrs_equal _ _ _ _ w0 (ha.stay hA2) (hb.stay hA2) (by rw [hal]; exact hAl))
  have HA2 := Lib.hid hA2
  have HX0 := Lib.hid hX0
  have HY0 := Lib.hid hY0
  obtain ⟨Q, hQ⟩ : ∃ Q, w.heap.size = Q := ⟨_, rfl⟩
  have HQ := Lib.hid hQ
  have x0 := Lib.cell_of_heap hX0 0
  have x1 := Lib.cell_of_heap hX0 1
  have x2 := Lib.cell_of_heap hX0 2
  have x4 := Lib.cell_of_heap hX0 4
  have y0 := Lib.cell_of_heap hY0 0
  have y1 := Lib.cell_of_heap hY0 1
  have y2 := Lib.cell_of_heap hY0 2
  have y4 := Lib.cell_of_heap hY0 4
  simp only [List.getElem?_toArray, List.getElem?_cons_zero, List.getElem?_cons_succ] at x0 x1 x2 x4 y0 y1 y2 y4
  rw [hQ] at x0 x1 x2 x4 y0 y1 y2 y4
  have HQ0 := Lib.hid (show Q + 1 < w0.heap.size by rw [← hQ]; exact (Array.getElem?_eq_some_iff.1 hY0).1)
  clear hA1 hA2 hX0 hY0 ha hb hxa hya hva hvb hkl hal
  go_enter Tryz.func28, Tryz.ntmps28
  go_wp2_with fail
  refine CE.out.mono ?_
  rintro e w1 ⟨rfl, hb1⟩
  have hX := (hb1.block _ (by have := HQ0.out; have := HQ.out; omega)).trans HX0.out
  have hY := (hb1.block _ (by have := HQ0.out; have := HQ.out; omega)).trans HY0.out
  rw [HQ.out] at hX hY
  have x3 := Lib.cell_of_heap hX 3
  have y3 := Lib.cell_of_heap hY 3
  simp only [List.getElem?_toArray, List.getElem?_cons_zero, List.getElem?_cons_succ] at x3 y3
  have HF := Lib.hid (HA2.out.trans (hb1.mono HA2.out.size))
  clear hb1 hX hY CE
  go_wp2_with fail
  go_ret
  exact ⟨rfl, HF.out⟩

theorem agg_five {a b c d e a' b' c' d' e' : Value} (h : Value.agg #[a, b, c, d, e] = .agg #[a', b', c', d', e']) : a = a' ∧ b = b' ∧ c = c' ∧ d = d' ∧ e = e' := by
  injection h with h
  injection h with h
  injection h with h0 h
  injection h with h1 h
  injection h with h2 h
  injection h with h3 h
  injection h with h4 h
  exact ⟨h0, h1, h2, h3, h4⟩
set_option maxHeartbeats 8000000 in
theorem eqfunc_same (va vb : Value) (ts : List Nd) (w : World) (ha : LevelV w va ts) (hb : LevelV w vb ts) (hl : ts.length ≤ 100000) (hA : ∀ s n A K t, Nd.mk s n A K t ∈ ts → A.length ≤ 100000) :
    Calls Tryz.prog 27 #[va, vb, .func (.func 28) #[] #[]] w fun e w' => e = .returned (.bool true) ∧ Below w.heap.size w w' := by
  obtain ⟨a1, c1, xc, rfl, hac, han⟩ := ha
  obtain ⟨b1, d1, yc, rfl, hbc, hbn⟩ := hb
  have HAC := Lib.hid hac
  have HBC := Lib.hid hbc
  have HAN := Lib.hid han
  have HBN := Lib.hid hbn
  have HA := Lib.hid hA
  clear hac hbc han hbn hA
  go_enter Tryz.func27, Tryz.ntmps27
  go_wp2_with fail
  go_loopg [7, 8, 9, 17] ts.length (fun g u p r i wr => ∃ j, g + j = ts.length ∧ i = .int .i64 (j : Nat) ∧ Below w.heap.size w wr)
  case atStart => exact ⟨0, by omega, rfl, Below.refl _ _⟩
  case round =>
    obtain ⟨j, hg, rfl, hbr⟩ := hrel
    have HBR := Lib.hid hbr
    by_cases hj : j < ts.length
    · have hj' : (j : Int) < (ts.length : Int) := by omega
      obtain ⟨g0, o0, rfl, hg0, hkc⟩ := HAC.out (by omega)
      obtain ⟨g1, o1, rfl, hg1, hlc⟩ := HBC.out (by omega)
      have k0 := (hbr.cell (p := ⟨g0, o0 + j * 5 + 0, none⟩) hg0).trans (hkc j hj 0 (by decide))
      have k1 := (hbr.cell (p := ⟨g0, o0 + j * 5 + 1, none⟩) hg0).trans (hkc j hj 1 (by decide))
      have k2 := (hbr.cell (p := ⟨g0, o0 + j * 5 + 2, none⟩) hg0).trans (hkc j hj 2 (by decide))
      have k3 := (hbr.cell (p := ⟨g0, o0 + j * 5 + 3, none⟩) hg0).trans (hkc j hj 3 (by decide))
      have k4 := (hbr.cell (p := ⟨g0, o0 + j * 5 + 4, none⟩) hg0).trans (hkc j hj 4 (by decide))
      have l0 := (hbr.cell (p := ⟨g1, o1 + j * 5 + 0, none⟩) hg1).trans (hlc j hj 0 (by decide))
      have l1 := (hbr.cell (p := ⟨g1, o1 + j * 5 + 1, none⟩) hg1).trans (hlc j hj 1 (by decide))
      have l2 := (hbr.cell (p := ⟨g1, o1 + j * 5 + 2, none⟩) hg1).trans (hlc j hj 2 (by decide))
      have l3 := (hbr.cell (p := ⟨g1, o1 + j * 5 + 3, none⟩) hg1).trans (hlc j hj 3 (by decide))
      have l4 := (hbr.cell (p := ⟨g1, o1 + j * 5 + 4, none⟩) hg1).trans (hlc j hj 4 (by decide))
      rw [Nat.add_zero] at k0 l0
      have hna := HAN.out j hj
      have hnb := HBN.out j hj
      have hmem := List.getElem_mem hj
      obtain ⟨s1, n1, t1, A1, K1, p1, q1, p2, q2, _, hv1, _⟩ := parts06 hna
      obtain ⟨s2, n2, t2, A2, K2, r1, u1, r2, u2, _, hv2, _⟩ := parts06 hnb
      obtain ⟨e0, e1, e2, e3, e4⟩ := agg_five hv1
      obtain ⟨f0, f1, f2, f3, f4⟩ := agg_five hv2
      rw [e0] at k0
      rw [e1] at k1
      rw [e2] at k2
      rw [e3] at k3
      rw [e4] at k4
      rw [f0] at l0
      rw [f1] at l1
      rw [f2] at l2
      rw [f3] at l3
      rw [f4] at l4
      rw [e0, e1, e2, e3, e4] at hna
      rw [f0, f1, f2, f3, f4] at hnb
      have hg0r : g0 < wr.heap.size := Nat.lt_of_lt_of_le hg0 hbr.size
      have hg1r : g1 < wr.heap.size := Nat.lt_of_lt_of_le hg1 hbr.size
      have CA := Lib.hid (fun (wx : World) (hx : Below w.heap.size w wx) => show Calls Tryz.prog 28 #[.agg #[.string s1, .string n1, .slice p1 A1.length q1, .slice p2 K1.length q2, .string t1], .agg #[.string s2, .string n2, .slice r1 A2.length u1, .slice r2 K2.length u2, .string t2]] wx (fun e w' => e = .returned (.bool true) ∧ Below wx.heap.size wx w') from by
        have ha := hna.any hx
        have hb := hnb.any hx
        have hal := HA.out
        obtain ⟨x, hx2⟩ : ∃ x, ts[j]'hj = x := ⟨_, rfl⟩
        rw [hx2] at ha hb hmem
        obtain ⟨s, n, A, K, t⟩ := x
        exact alike_same _ _ s n t A K wx ha hb (hal s n A K t hmem))
      have hjl : (j : Int) < 100000 := by omega
      have hb2 := hbr.alloc hbr.size (.cells #[.string s1, .string n1, .slice p1 A1.length q1, .slice p2 K1.length q2, .string t1] 25)
      have HB3 := Lib.hid (hb2.alloc hb2.size (.cells #[.string s2, .string n2, .slice r1 A2.length u1, .slice r2 K2.length u2, .string t2] 25))
      clear hbr hkc hlc hna hnb hmem hb2 hv1 hv2 e0 e1 e2 e3 e4 f0 f1 f2 f3 f4
      go_wp2_with fail
      refine (CA.out _ HB3.out).mono ?_
      rintro e w2 ⟨rfl, hbz⟩
      have HBZ := Lib.hid (HB3.out.trans (hbz.mono HB3.out.size))
      clear hbz CA
      go_wp2_with fail
      go_roundg (ts.length - (j + 1))
      case measure => omega
      case rel => exact ⟨j + 1, by omega, by go_num, HBZ.out⟩
    · have hj' : ¬ (j : Int) < (ts.length : Int) := by omega
      clear hbr
      go_wp2_with fail
      go_ret
      exact ⟨rfl, HBR.out⟩

theorem fewK_app : ∀ {a b : List Nd}, fewK a → fewK b → fewK (a ++ b)
  | [], _, _, h => h
  | x :: a, b, h, k => by
    rw [fewK] at h
    rw [List.cons_append, fewK]
    exact ⟨h.1, fewK_app h.2 k⟩
theorem few_kids : ∀ {x : Nd}, x.few → fewK x.kids
  | .mk _ _ _ _ _, h => by rw [Nd.few] at h; exact h.2
theorem few_level : ∀ {ts : List Nd}, fewK ts → fewK (kidsL ts)
  | [], h => h
  | x :: ts, h => by
    rw [fewK] at h
    have e : kidsL (x :: ts) = x.kids ++ kidsL ts := by unfold kidsL; rw [List.flatMap_cons]
    rw [e]
    exact fewK_app (few_kids h.1) (few_level h.2)
theorem few_at {s n : ByteArray} {A : List Att} {K : List Nd} {t : ByteArray} {ts : List Nd} (h : fewK ts) (hm : Nd.mk s n A K t ∈ ts) : A.length ≤ 100000 := by
  have := few_kid h hm
  rw [Nd.few] at this
  exact this.1
set_option maxHeartbeats 8000000 in
theorem tsame (va vb : Value) (s n tx : ByteArray) (A : List Att) (K : List Nd) (w : World) (hva : NodeV (fun _ => True) w va (.mk s n A K tx)) (hvb : NodeV (fun _ => True) w vb (.mk s n A K tx)) (hf : fewK [.mk s n A K tx]) (hc : countK [.mk s n A K tx] ≤ 100000) :
    Calls Tryz.prog 13 #[va, vb] w fun e w' => e = .returned (.bool true) ∧ Below w.heap.size w w' := by
  obtain ⟨a1, c1, ak, ac, _, rfl, hxa, _, _⟩ := parts_at hva
  obtain ⟨b1, d1, bk, bc, _, rfl, hya, _, _⟩ := parts_at hvb
  clear hxa hya
  obtain ⟨al, hal⟩ : ∃ al, A.length = al := ⟨_, rfl⟩
  obtain ⟨kl, hkl⟩ : ∃ kl, K.length = kl := ⟨_, rfl⟩
  rw [hal, hkl] at hva hvb
  rw [hal, hkl]
  obtain ⟨x, hx⟩ : ∃ x, Nd.mk s n A K tx = x := ⟨_, rfl⟩
  rw [hx] at hva hvb hf hc
  have hA1 := (Below.refl w.heap.size w).alloc (Nat.le_refl _) (.cells #[.string s, .string n, .slice a1 al c1, .slice ak kl ac, .string tx] 25)
  have hA2 := hA1.alloc (by simp) (.cells #[.string s, .string n, .slice b1 al d1, .slice bk kl bc, .string tx] 25)
  have hX0 := (Below.heap_alloc (w.alloc (.cells #[.string s, .string n, .slice a1 al c1, .slice ak kl ac, .string tx] 25)) (.cells #[.string s, .string n, .slice b1 al d1, .slice bk kl bc, .string tx] 25) w.heap.size (by simp)).trans (heap_alloc_new w _)
  have hY0 := heap_alloc_new (w.alloc (.cells #[.string s, .string n, .slice a1 al c1, .slice ak kl ac, .string tx] 25)) (.cells #[.string s, .string n, .slice b1 al d1, .slice bk kl bc, .string tx] 25)
  rw [World.size_alloc] at hY0
  obtain ⟨w0, hw0⟩ : ∃ w0, (w.alloc (.cells #[.string s, .string n, .slice a1 al c1, .slice ak kl ac, .string tx] 25)).alloc (.cells #[.string s, .string n, .slice b1 al d1, .slice bk kl bc, .string tx] 25) = w0 := ⟨_, rfl⟩
  rw [hw0] at hA2 hX0 hY0
  have HVA := Lib.hid (hva.any hA2)
  have HVB := Lib.hid (hvb.any hA2)
  have HA2 := Lib.hid hA2
  obtain ⟨Q, hQ⟩ : ∃ Q, w.heap.size = Q := ⟨_, rfl⟩
  have HQ := Lib.hid hQ
  have x0 := Lib.cell_of_heap hX0 0
  have x1 := Lib.cell_of_heap hX0 1
  have x2 := Lib.cell_of_heap hX0 2
  have x3 := Lib.cell_of_heap hX0 3
  have x4 := Lib.cell_of_heap hX0 4
  have y0 := Lib.cell_of_heap hY0 0
  have y1 := Lib.cell_of_heap hY0 1
  have y2 := Lib.cell_of_heap hY0 2
  have y3 := Lib.cell_of_heap hY0 3
  have y4 := Lib.cell_of_heap hY0 4
  simp only [List.getElem?_toArray, List.getElem?_cons_zero, List.getElem?_cons_succ] at x0 x1 x2 x3 x4 y0 y1 y2 y3 y4
  rw [hQ] at x0 x1 x2 x3 x4 y0 y1 y2 y3 y4
  have hq1 : Q + 1 < w0.heap.size := by rw [← hQ]; exact (Array.getElem?_eq_some_iff.1 hY0).1
  have hq0 : Q < w0.heap.size := by omega
  have HF := Lib.hid hf
  have HC := Lib.hid hc
  clear hA1 hA2 hX0 hY0 hva hvb hx hal hkl hf hc
  go_enter Tryz.func13, Tryz.ntmps13
  go_upto_region 1 with fail
  go_cut [5, 6] from 7 to 10 (fun a b wx => LevelV wx a [x] ∧ LevelV wx b [x] ∧ Below w0.heap.size w0 wx)
  case first =>
    have ha1 := level_one HVA.out
    have hb1 := level_one HVB.out
    have ha2 := level_one (HVA.out.any ((Below.refl w0.heap.size w0).alloc (Nat.le_refl _) (.cells #[.string s, .string n, .slice b1 al d1, .slice bk kl bc, .string tx] 25)))
    have hb2 := level_one (HVB.out.any ((Below.refl w0.heap.size w0).alloc (Nat.le_refl _) (.cells #[.string s, .string n, .slice a1 al c1, .slice ak kl ac, .string tx] 25)))
    rw [World.size_alloc] at ha2 hb2
    have B1 := (((Below.refl w0.heap.size w0).alloc (Nat.le_refl _) (.cells #[.string s, .string n, .slice a1 al c1, .slice ak kl ac, .string tx] 25)).alloc (by simp) (.cells #[.string s, .string n, .slice b1 al d1, .slice bk kl bc, .string tx] 25)).drew
    have B2 := (((Below.refl w0.heap.size w0).alloc (Nat.le_refl _) (.cells #[.string s, .string n, .slice b1 al d1, .slice bk kl bc, .string tx] 25)).alloc (by simp) (.cells #[.string s, .string n, .slice a1 al c1, .slice ak kl ac, .string tx] 25)).drew
    have H1 := Lib.hid (And.intro (ha1.step ((Below.refl _ _).alloc (Nat.le_refl _) (.cells #[.string s, .string n, .slice b1 al d1, .slice bk kl bc, .string tx] 25)).drew) (And.intro (hb2.step (Below.refl _ _).drew) B1))
    have H2 := Lib.hid (And.intro (ha2.step (Below.refl _ _).drew) (And.intro (hb1.step ((Below.refl _ _).alloc (Nat.le_refl _) (.cells #[.string s, .string n, .slice a1 al c1, .slice ak kl ac, .string tx] 25)).drew) B2))
    clear ha1 hb1 ha2 hb2 B1 B2
    go_wp2_with fail
    go_region
    all_goals
      go_wp2_with fail
      go_meet
      first
        | with_reducible exact H1.out
        | with_reducible exact H2.out
        | exact H1.out
        | exact H2.out
  case rest =>
    obtain ⟨h1, h2, h3⟩ := hcut
    have H1 := Lib.hid h1
    have H2 := Lib.hid h2
    have H3 := Lib.hid (HA2.out.trans (h3.mono HA2.out.size))
    clear h1 h2 h3 x0 x1 x2 x3 x4 y0 y1 y2 y3 y4 hq0 hq1
    go_wp2_with fail
    go_loopg [5, 6] (countK [x]) (fun g a b wr => ∃ ts, LevelV wr a ts ∧ LevelV wr b ts ∧ countK ts = g ∧ g ≤ 100000 ∧ fewK ts ∧ Below w.heap.size w wr)
    case atStart => exact ⟨[x], H1.out, H2.out, rfl, HC.out, HF.out, H3.out⟩
    case round =>
      obtain ⟨ts, ha, hb, hg, hg2, hfw, hbr⟩ := hrel
      have hlen := len_count ts
      have hkl := count_level ts
      have hkk := len_count (kidsL ts)
      have CE := Lib.hid (eqfunc_same _ _ ts wr ha hb (by omega) (fun s n A K t hm => few_at hfw hm))
      have HA := Lib.hid ha
      have HB := Lib.hid hb
      have HBR := Lib.hid hbr
      have HFW := Lib.hid hfw
      have hlow : ∀ v, LevelV wr v ts → ∃ ao cap, v = .slice ao ts.length cap := fun v h => by obtain ⟨ao, cap, _, h, _⟩ := h; exact ⟨ao, cap, h⟩
      obtain ⟨ao, cp, rfl⟩ := hlow _ ha
      obtain ⟨bo, cq, rfl⟩ := hlow _ hb
      clear ha hb hbr hfw hlow
      by_cases h0 : 0 < ts.length
      · have h0' : (0 : Int) < (ts.length : Int) := by omega
        go_wp2_with fail
        refine CE.out.mono ?_
        rintro e w1 ⟨rfl, hb1⟩
        have HA1 := Lib.hid (HA.out.step hb1)
        have HB1 := Lib.hid (HB.out.step hb1)
        have HBR1 := Lib.hid (HBR.out.trans (hb1.mono HBR.out.size))
        have CK1 := Lib.hid (pkids _ ts w1 HA1.out (by omega) (by omega))
        clear hb1 CE
        go_wp2_with fail
        refine CK1.out.mono ?_
        rintro e w2 ⟨v2, rfl, hv2, hb2⟩
        have HV2 := Lib.hid hv2
        have HB2 := Lib.hid (HB1.out.step hb2)
        have HBR2 := Lib.hid (HBR1.out.trans (hb2.mono HBR1.out.size))
        have CK2 := Lib.hid (pkids _ ts w2 HB2.out (by omega) (by omega))
        clear hv2 hb2 CK1
        go_wp2_with fail
        refine CK2.out.mono ?_
        rintro e w3 ⟨v3, rfl, hv3, hb3⟩
        have HV3 := Lib.hid hv3
        have HV23 := Lib.hid (HV2.out.step hb3)
        have HBR3 := Lib.hid (HBR2.out.trans (hb3.mono HBR2.out.size))
        clear hv3 hb3 CK2
        go_wp2_with fail
        go_roundg (countK (kidsL ts))
        case measure => omega
        case rel => exact ⟨kidsL ts, HV23.out, HV3.out, rfl, by omega, few_level HFW.out, HBR3.out⟩
      · have h0' : ¬ (0 : Int) < (ts.length : Int) := by omega
        clear CE
        go_wp2_with fail
        go_ret
        exact ⟨rfl, by rw [← HQ.out]; exact HBR.out⟩

end Go.Proofs.YtincdacickhdkaaGreatDoor

namespace Go.Proofs.YtincdacickhdkaaGreatDoor
open Go Go.RowKit
set_option maxRecDepth 100000

theorem dparse_ok (s : ByteArray) (x : Nd) (h : parseL (bl s) = .ok x) (w : World) (hE : EntV w) (hT : Tabs w) (hs : s.size ≤ 4000000000) :
    Calls Tryz.prog 8 #[.string s] w fun r w' => ∃ v, r = .returned (.tuple #[v, .int .i64 0, .int .i64 0]) ∧ NodeV (NB w.heap.size none w') w' v x ∧ Below w.heap.size w w' := by
  refine (dparse s w hE hT hs).mono ?_
  rintro r w' ⟨h1 | h1, hb⟩
  · obtain ⟨e, a, h2, _⟩ := h1; rw [h] at h2; cases h2
  · obtain ⟨y, v, h2, h3, h4⟩ := h1; rw [h] at h2; cases h2; exact ⟨v, h3, h4, hb⟩
theorem dparse_bad (s : ByteArray) (e a : Int) (h : parseL (bl s) = .bad e a) (w : World) (hE : EntV w) (hT : Tabs w) (hs : s.size ≤ 4000000000) :
    Calls Tryz.prog 8 #[.string s] w fun r w' => r = .returned (.tuple #[.agg #[.string ⟨#[]⟩, .string ⟨#[]⟩, .slice none 0 0, .slice none 0 0, .string ⟨#[]⟩], .int .i64 a, .int .i64 e]) ∧ Below w.heap.size w w' := by
  refine (dparse s w hE hT hs).mono ?_
  rintro r w' ⟨h1 | h1, hb⟩
  · obtain ⟨e', a', h2, h3⟩ := h1; rw [h] at h2; cases h2; exact ⟨h3, hb⟩
  · obtain ⟨y, v, h2, _⟩ := h1; rw [h] at h2; cases h2
set_option maxHeartbeats 4000000 in
theorem awake06 (w : World) (hE : EntV w) (hT : Tabs w) :
    Calls Tryz.prog 11 #[] w fun e w' => e = .returned (.bool true) ∧ Below w.heap.size w w' := by
  have C1 := Lib.hid (dparse_ok ⟨#[60, 97, 62, 32, 98, 32, 60, 47, 97, 62]⟩ _ awake06a w hE hT (by decide))
  have HE := Lib.hid hE
  have HT := Lib.hid hT
  clear hE hT
  go_enter Tryz.func11, Tryz.ntmps11
  go_wp2_with fail
  refine C1.out.mono ?_
  rintro r w1 ⟨v, rfl, hv, hb1⟩
  obtain ⟨ao, n, cap, a2, n2, c2, rfl⟩ : ∃ ao n cap a2 n2 c2, v = .agg #[.string ⟨#[]⟩, .string ⟨#[97]⟩, .slice ao n cap, .slice a2 n2 c2, .string ⟨#[98]⟩] := by
    cases hv with
    | mk sp nm tx A K va ao cap c ha hk hn => obtain ⟨a1, c1, rfl, _⟩ := ha; exact ⟨_, _, _, _, _, _, rfl⟩
  have hA := hb1.alloc hb1.size (.cells #[.string ⟨#[]⟩, .string ⟨#[97]⟩, .slice ao n cap, .slice a2 n2 c2, .string ⟨#[98]⟩] 25)
  have HA := Lib.hid hA
  have C2 := Lib.hid (dparse_bad ⟨#[60, 97, 62, 60, 98, 62, 60, 47, 97, 62]⟩ _ _ awake06b _ (HE.out.below hA) (HT.out.below hA) (by decide))
  have hX := heap_alloc_new w1 (.cells #[.string ⟨#[]⟩, .string ⟨#[97]⟩, .slice ao n cap, .slice a2 n2 c2, .string ⟨#[98]⟩] 25)
  have HX := Lib.hid hX
  have HXl := Lib.hid (show w1.heap.size < (w1.alloc (.cells #[.string ⟨#[]⟩, .string ⟨#[97]⟩, .slice ao n cap, .slice a2 n2 c2, .string ⟨#[98]⟩] 25)).heap.size by simp)
  clear hv hb1 hA hX C1
  go_wp2_with fail
  refine C2.out.mono ?_
  rintro r w2 ⟨rfl, hb2⟩
  have hb2' := hb2.alloc hb2.size (.cells #[.string ⟨#[]⟩, .string ⟨#[]⟩, .slice none 0 0, .slice none 0 0, .string ⟨#[]⟩] 25)
  have HB := Lib.hid (HA.out.trans (hb2'.mono HA.out.size))
  have k1 := (hb2'.cell (p := ⟨w1.heap.size, 1, none⟩) HXl.out).trans (Lib.cell_of_heap HX.out 1)
  have k4 := (hb2'.cell (p := ⟨w1.heap.size, 4, none⟩) HXl.out).trans (Lib.cell_of_heap HX.out 4)
  simp only [List.getElem?_toArray, List.getElem?_cons_zero, List.getElem?_cons_succ] at k1 k4
  clear hb2 hb2' C2
  go_wp2
  go_ret
  exact ⟨rfl, HB.out⟩

/-! ### TreeBad -/
def tS (k : Nat) : ByteArray := match k with
  | 0 => ⟨#[]⟩
  | 1 => ⟨#[97]⟩
  | 2 => ⟨#[60, 97, 62]⟩
  | 3 => ⟨#[60, 97, 47, 62, 60, 98, 47, 62]⟩
  | 4 => ⟨#[60, 97, 62, 60, 47, 98, 62]⟩
  | 5 => ⟨#[60, 97, 62, 120, 60, 98, 47, 62, 60, 47, 97, 62]⟩
  | 6 => ⟨#[60, 112, 58, 97, 47, 62]⟩
  | 7 => ⟨#[60, 97, 32, 112, 58, 98, 61, 39, 39, 47, 62]⟩
  | 8 => ⟨#[60, 47, 97, 62]⟩
  | 9 => ⟨#[60, 97, 47, 62, 120]⟩
  | 10 => ⟨#[60, 97, 32, 120, 109, 108, 110, 115, 58, 112, 61, 39, 39, 47, 62]⟩
  | 11 => ⟨#[60, 97, 62, 38, 60, 47, 97, 62]⟩
  | 12 => ⟨#[60, 97, 32, 120, 109, 108, 110, 115, 58, 120, 109, 108, 61, 39, 117, 39, 47, 62]⟩
  | 13 => ⟨#[60, 97, 32, 98, 61, 39, 49, 39, 32, 98, 61, 39, 50, 39, 47, 62]⟩
  | 14 => ⟨#[60, 97, 62, 60, 98, 62]⟩
  | _ => ⟨#[60, 97, 62, 0, 60, 47, 97, 62]⟩
def tA (k : Nat) : Int := match k with
  | 0 => 0
  | 1 => 0
  | 2 => 3
  | 3 => 4
  | 4 => 3
  | 5 => 0
  | 6 => 0
  | 7 => 0
  | 8 => 0
  | 9 => 4
  | 10 => 0
  | 11 => 3
  | 12 => 0
  | 13 => 9
  | 14 => 6
  | _ => 3
def tE (k : Nat) : Int := match k with
  | 0 => 3
  | 1 => 3
  | 2 => 3
  | 3 => 3
  | 4 => 3
  | 5 => 3
  | 6 => 3
  | 7 => 3
  | 8 => 3
  | 9 => 3
  | 10 => 3
  | 11 => 3
  | 12 => 3
  | 13 => 7
  | 14 => 3
  | _ => 3
theorem bad06 (k : Nat) (hk : k < 16) : parseL (bl (tS k)) = .bad (tE k) (tA k) := by
  match k, hk with
  | 0, _ => exact (show parseL (bl (tS 0)) = Res.bad (tE 0) (tA 0) by kernel_rfl)
  | 1, _ => exact (show parseL (bl (tS 1)) = Res.bad (tE 1) (tA 1) by kernel_rfl)
  | 2, _ => exact (show parseL (bl (tS 2)) = Res.bad (tE 2) (tA 2) by kernel_rfl)
  | 3, _ => exact (show parseL (bl (tS 3)) = Res.bad (tE 3) (tA 3) by kernel_rfl)
  | 4, _ => exact (show parseL (bl (tS 4)) = Res.bad (tE 4) (tA 4) by kernel_rfl)
  | 5, _ => exact (show parseL (bl (tS 5)) = Res.bad (tE 5) (tA 5) by kernel_rfl)
  | 6, _ => exact (show parseL (bl (tS 6)) = Res.bad (tE 6) (tA 6) by kernel_rfl)
  | 7, _ => exact (show parseL (bl (tS 7)) = Res.bad (tE 7) (tA 7) by kernel_rfl)
  | 8, _ => exact (show parseL (bl (tS 8)) = Res.bad (tE 8) (tA 8) by kernel_rfl)
  | 9, _ => exact (show parseL (bl (tS 9)) = Res.bad (tE 9) (tA 9) by kernel_rfl)
  | 10, _ => exact (show parseL (bl (tS 10)) = Res.bad (tE 10) (tA 10) by kernel_rfl)
  | 11, _ => exact (show parseL (bl (tS 11)) = Res.bad (tE 11) (tA 11) by kernel_rfl)
  | 12, _ => exact (show parseL (bl (tS 12)) = Res.bad (tE 12) (tA 12) by kernel_rfl)
  | 13, _ => exact (show parseL (bl (tS 13)) = Res.bad (tE 13) (tA 13) by kernel_rfl)
  | 14, _ => exact (show parseL (bl (tS 14)) = Res.bad (tE 14) (tA 14) by kernel_rfl)
  | 15, _ => exact (show parseL (bl (tS 15)) = Res.bad (tE 15) (tA 15) by kernel_rfl)
  | k + 16, h => exact absurd h (by omega)
theorem tS_cell (k : Nat) (hk : k < 16) : (#[.string ⟨#[]⟩, .string ⟨#[97]⟩, .string ⟨#[60, 97, 62]⟩, .string ⟨#[60, 97, 47, 62, 60, 98, 47, 62]⟩, .string ⟨#[60, 97, 62, 60, 47, 98, 62]⟩, .string ⟨#[60, 97, 62, 120, 60, 98, 47, 62, 60, 47, 97, 62]⟩, .string ⟨#[60, 112, 58, 97, 47, 62]⟩, .string ⟨#[60, 97, 32, 112, 58, 98, 61, 39, 39, 47, 62]⟩, .string ⟨#[60, 47, 97, 62]⟩, .string ⟨#[60, 97, 47, 62, 120]⟩, .string ⟨#[60, 97, 32, 120, 109, 108, 110, 115, 58, 112, 61, 39, 39, 47, 62]⟩, .string ⟨#[60, 97, 62, 38, 60, 47, 97, 62]⟩, .string ⟨#[60, 97, 32, 120, 109, 108, 110, 115, 58, 120, 109, 108, 61, 39, 117, 39, 47, 62]⟩, .string ⟨#[60, 97, 32, 98, 61, 39, 49, 39, 32, 98, 61, 39, 50, 39, 47, 62]⟩, .string ⟨#[60, 97, 62, 60, 98, 62]⟩, .string ⟨#[60, 97, 62, 0, 60, 47, 97, 62]⟩] : Array Value)[k]? = some (.string (tS k)) := by
  match k, hk with
  | 0, _ => rfl
  | 1, _ => rfl
  | 2, _ => rfl
  | 3, _ => rfl
  | 4, _ => rfl
  | 5, _ => rfl
  | 6, _ => rfl
  | 7, _ => rfl
  | 8, _ => rfl
  | 9, _ => rfl
  | 10, _ => rfl
  | 11, _ => rfl
  | 12, _ => rfl
  | 13, _ => rfl
  | 14, _ => rfl
  | 15, _ => rfl
  | k + 16, h => exact absurd h (by omega)
theorem tA_cell (k : Nat) (hk : k < 16) : (#[.int .i64 0, .int .i64 0, .int .i64 3, .int .i64 4, .int .i64 3, .int .i64 0, .int .i64 0, .int .i64 0, .int .i64 0, .int .i64 4, .int .i64 0, .int .i64 3, .int .i64 0, .int .i64 9, .int .i64 6, .int .i64 3] : Array Value)[k]? = some (.int .i64 (tA k)) := by
  match k, hk with
  | 0, _ => rfl
  | 1, _ => rfl
  | 2, _ => rfl
  | 3, _ => rfl
  | 4, _ => rfl
  | 5, _ => rfl
  | 6, _ => rfl
  | 7, _ => rfl
  | 8, _ => rfl
  | 9, _ => rfl
  | 10, _ => rfl
  | 11, _ => rfl
  | 12, _ => rfl
  | 13, _ => rfl
  | 14, _ => rfl
  | 15, _ => rfl
  | k + 16, h => exact absurd h (by omega)
theorem tE_cell (k : Nat) (hk : k < 16) : (#[.int .i64 3, .int .i64 3, .int .i64 3, .int .i64 3, .int .i64 3, .int .i64 3, .int .i64 3, .int .i64 3, .int .i64 3, .int .i64 3, .int .i64 3, .int .i64 3, .int .i64 3, .int .i64 7, .int .i64 3, .int .i64 3] : Array Value)[k]? = some (.int .i64 (tE k)) := by
  match k, hk with
  | 0, _ => rfl
  | 1, _ => rfl
  | 2, _ => rfl
  | 3, _ => rfl
  | 4, _ => rfl
  | 5, _ => rfl
  | 6, _ => rfl
  | 7, _ => rfl
  | 8, _ => rfl
  | 9, _ => rfl
  | 10, _ => rfl
  | 11, _ => rfl
  | 12, _ => rfl
  | 13, _ => rfl
  | 14, _ => rfl
  | 15, _ => rfl
  | k + 16, h => exact absurd h (by omega)
theorem tS_len (k : Nat) (hk : k < 16) : (tS k).size ≤ 4000000000 := by
  match k, hk with
  | 0, _ => decide
  | 1, _ => decide
  | 2, _ => decide
  | 3, _ => decide
  | 4, _ => decide
  | 5, _ => decide
  | 6, _ => decide
  | 7, _ => decide
  | 8, _ => decide
  | 9, _ => decide
  | 10, _ => decide
  | 11, _ => decide
  | 12, _ => decide
  | 13, _ => decide
  | 14, _ => decide
  | 15, _ => decide
  | k + 16, h => exact absurd h (by omega)
end Go.Proofs.YtincdacickhdkaaGreatDoor
