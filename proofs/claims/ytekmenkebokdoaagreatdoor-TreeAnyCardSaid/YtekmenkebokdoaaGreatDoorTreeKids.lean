/-
  Elements, level by level: the walks of kidsOf, Count and Depth. The walks of kidsOf, Count and Depth.
-/
import Derived.Test.YtekmenkebokdoaaGreatDoorTreeTop
import Derived.Deep.LoopGhost
namespace Go.Proofs.YtekmenkebokdoaaGreatDoor
open Go Go.RowKit
set_option maxRecDepth 100000

/-! ### a level in memory -/
abbrev anyB : Nat → Prop := fun _ => True
/-- A slice of elements, as it reads. -/
def LevelV (w : World) (v : Value) (ts : List Nd) : Prop :=
  ∃ (ao : Option Addr) (cap : Nat) (c : Nat → Nat → Value), v = .slice ao ts.length cap ∧ (0 < ts.length → ∃ g o, ao = some ⟨g, o, none⟩ ∧ g < w.heap.size ∧ ∀ j, j < ts.length → ∀ q, q < 5 → w.cell? ⟨g, o + j * 5 + q, none⟩ = some (c j q)) ∧
    ∀ j (h : j < ts.length), NodeV anyB w (.agg #[c j 0, c j 1, c j 2, c j 3, c j 4]) (ts[j]'h)
theorem NodeV.any {P : Nat → Prop} {w w' : World} {v : Value} {x : Nd} (h : NodeV P w v x) (hb : Below w.heap.size w w') : NodeV anyB w' v x := h.to hb.size fun g _ hg => ⟨trivial, hb.block g hg⟩
theorem LevelV.step {w w' : World} {v : Value} {ts : List Nd} (h : LevelV w v ts) (hb : Below w.heap.size w w') : LevelV w' v ts := by
  obtain ⟨ao, cap, c, hv, hc, hn⟩ := h
  refine ⟨ao, cap, c, hv, fun h0 => ?_, fun j hj => (hn j hj).any hb⟩
  obtain ⟨g, o, ha, hg, h⟩ := hc h0
  exact ⟨g, o, ha, Nat.lt_of_lt_of_le hg hb.size, fun j hj q hq => (hb.cell (p := ⟨g, o + j * 5 + q, none⟩) hg).trans (h j hj q hq)⟩
/-- The row that kidsOf makes. -/
structure KidR (w : World) (v : Value) (V : List NV) (K : List Nd) (wr : World) : Prop where
  len : V.length = K.length
  own : wr.ownsRow w.heap.size 25 5 v V.length (cellsN V)
  nodes : ∀ j (h : j < V.length) (h' : j < K.length), NodeV (fun g => g < w.heap.size) wr (V[j]'h).val (K[j]'h')
  below : Below w.heap.size w wr
theorem KidR.level {w : World} {v : Value} {V : List NV} {K : List Nd} {wr : World} (h : KidR w v V K wr) : LevelV wr v K := by
  obtain ⟨ak, ck, hv⟩ := own_form h.own
  refine ⟨ak, ck, fun j q => ((cellsN V)[j * 5 + q]?).getD undef, by rw [hv, h.len], fun h0 => ?_, fun j hj => ?_⟩
  · have hown := h.own
    rw [hv] at hown
    obtain ⟨g, rfl, hg⟩ := own_some hown (by have := h.len; omega)
    refine ⟨g, 0, rfl, hg, fun j hj q hq => ?_⟩
    have hlt : j * 5 + q < (cellsN V).length := by rw [cellsN_len, h.len]; omega
    show wr.cell? ⟨g, 0 + j * 5 + q, none⟩ = some (((cellsN V)[j * 5 + q]?).getD undef)
    rw [Nat.zero_add, hown.cellAt _ (by have := h.len; omega), List.getElem?_eq_getElem hlt]
    rfl
  · have hj' : j < V.length := by have := h.len; omega
    have hv := h.nodes j hj' hj
    have e : ∀ q, q < 5 → ((cellsN V)[j * 5 + q]?).getD undef = (V[j]'hj').at_ q := fun q hq => by rw [cellsN_get V j hj' q hq]; rfl
    show NodeV anyB wr (.agg #[((cellsN V)[j * 5 + 0]?).getD undef, ((cellsN V)[j * 5 + 1]?).getD undef, ((cellsN V)[j * 5 + 2]?).getD undef, ((cellsN V)[j * 5 + 3]?).getD undef, ((cellsN V)[j * 5 + 4]?).getD undef]) _
    rw [e 0 (by decide), e 1 (by decide), e 2 (by decide), e 3 (by decide), e 4 (by decide)]
    exact hv.to (Nat.le_refl _) fun g _ _ => ⟨trivial, rfl⟩
/-- The values of an element's elements, out of its cells. -/
def rowOf (c : Nat → Nat → Value) (n : Nat) : List NV := (List.range n).map fun j => ⟨c j 0, c j 1, c j 2, c j 3, c j 4⟩
theorem rowOf_len (c : Nat → Nat → Value) (n : Nat) : (rowOf c n).length = n := by simp [rowOf]
theorem rowOf_get (c : Nat → Nat → Value) (n j : Nat) (h : j < (rowOf c n).length) : (rowOf c n)[j]'h = ⟨c j 0, c j 1, c j 2, c j 3, c j 4⟩ := by simp only [rowOf, List.getElem_map, List.getElem_range]
theorem rowOf_cells (c : Nat → Nat → Value) (n : Nat) : ∀ j u, (cellsN (rowOf c n))[j]? = some u → ∃ i q, i < n ∧ q < 5 ∧ j = i * 5 + q ∧ u = c i q := fun j u h => by
  have hj : j < n * 5 := by
    have := (List.getElem?_eq_some_iff.1 h).1
    rw [cellsN_len, rowOf_len] at this; exact this
  have hi : j / 5 < (rowOf c n).length := by rw [rowOf_len]; omega
  have hg := cellsN_get (rowOf c n) (j / 5) hi (j % 5) (by omega)
  rw [show j / 5 * 5 + j % 5 = j by omega, h] at hg
  refine ⟨j / 5, j % 5, by omega, by omega, by omega, ?_⟩
  have hx : (rowOf c n)[j / 5]'hi = ⟨c (j / 5) 0, c (j / 5) 1, c (j / 5) 2, c (j / 5) 3, c (j / 5) 4⟩ := rowOf_get c _ _ _
  rw [hx] at hg
  have hq : j % 5 < 5 := by omega
  generalize j % 5 = q at hg hq ⊢
  injection hg with hg
  rw [hg]
  match q, hq with
  | 0, _ => rfl
  | 1, _ => rfl
  | 2, _ => rfl
  | 3, _ => rfl
  | 4, _ => rfl
theorem NodeV.kidsAt {P : Nat → Prop} {w : World} {v : Value} {x : Nd} (h : NodeV P w v x) : ∃ sp nm tx a1 n1 c1 ao cap, ∃ c : Nat → Nat → Value, v = .agg #[.string sp, .string nm, .slice a1 n1 c1, .slice ao x.kids.length cap, .string tx] ∧
    (0 < x.kids.length → ∃ g o, ao = some ⟨g, o, none⟩ ∧ P g ∧ g < w.heap.size ∧ ∀ j, j < x.kids.length → ∀ q, q < 5 → w.cell? ⟨g, o + j * 5 + q, none⟩ = some (c j q)) ∧
    ∀ j (h : j < x.kids.length), NodeV P w (.agg #[c j 0, c j 1, c j 2, c j 3, c j 4]) (x.kids[j]'h) := by
  cases h with
  | mk sp nm tx A K va ao cap c ha hk hn =>
    obtain ⟨a1, c1, rfl, _⟩ := ha
    exact ⟨_, _, _, _, _, _, _, _, c, rfl, hk, hn⟩
/-- One element's elements are put behind those that are there. -/
theorem KidR.more {w : World} {v v' : Value} {V : List NV} {K : List Nd} {wr wA w7 : World} (h : KidR w v V K wr) (hA : Below wr.heap.size wr wA) {c : Nat → Nat → Value} {K2 : List Nd} (hK : ∀ j (h : j < K2.length), NodeV (fun g => g < w.heap.size) wA (.agg #[c j 0, c j 1, c j 2, c j 3, c j 4]) (K2[j]'h))
    (hown : w7.ownsRow w.heap.size 25 5 v' (V.length + K2.length) (cellsN V ++ cellsN (rowOf c K2.length))) (hg : wA.grownBy w7 v.ownBlock) : KidR w v' (V ++ rowOf c K2.length) (K ++ K2) w7 := by
  have hr : ∀ r, v.ownBlock = some r → w.heap.size ≤ r := fun r e => (h.own.lt r e).1
  have hb7 : Below w.heap.size w w7 := (h.below.trans (hA.mono h.below.size)).grown hg (Nat.le_trans h.below.size hA.size) hr
  have hst : ∀ v x, NodeV (fun g => g < w.heap.size) wA v x → NodeV (fun g => g < w.heap.size) w7 v x := fun v x hv => hv.to hg.size fun g hp hl => ⟨hp, hg.block g hl (fun e => by have := hr g e.symm; omega)⟩
  refine ⟨by rw [List.length_append, List.length_append, rowOf_len, h.len], ?_, fun j hj hj' => ?_, hb7⟩
  · rw [cellsN_app, List.length_append, rowOf_len]; exact hown
  · by_cases hjV : j < V.length
    · rw [List.getElem_append_left hjV, List.getElem_append_left (by rw [← h.len]; exact hjV)]
      exact hst _ _ ((h.nodes j hjV (by rw [← h.len]; exact hjV)).to hA.size fun g hp hl => ⟨hp, hA.block g hl⟩)
    · rw [List.getElem_append_right (by omega), List.getElem_append_right (by rw [← h.len]; omega)]
      have hj2 : j - V.length < K2.length := by rw [List.length_append, rowOf_len] at hj; omega
      have e : (rowOf c K2.length)[j - V.length]'(by rw [rowOf_len]; exact hj2) = ⟨c (j - V.length) 0, c (j - V.length) 1, c (j - V.length) 2, c (j - V.length) 3, c (j - V.length) 4⟩ := rowOf_get c _ _ _
      rw [e]
      have hk := hst _ _ (hK (j - V.length) hj2)
      have hl := h.len
      simp only [← hl]
      exact hk

end Go.Proofs.YtekmenkebokdoaaGreatDoor

namespace Go.Proofs.YtekmenkebokdoaaGreatDoor
open Go Go.RowKit
set_option maxRecDepth 100000

theorem kidsL_take (ts : List Nd) (j : Nat) (h : j < ts.length) : kidsL (ts.take (j + 1)) = kidsL (ts.take j) ++ (ts[j]'h).kids := by
  unfold kidsL
  rw [List.take_succ_eq_append_getElem h, List.flatMap_append]
  simp
theorem kidsL_le (ts : List Nd) (j : Nat) : (kidsL (ts.take j)).length ≤ (kidsL ts).length := by
  have e : kidsL ts = kidsL (ts.take j) ++ kidsL (ts.drop j) := by unfold kidsL; rw [← List.flatMap_append, List.take_append_drop]
  rw [e, List.length_append]; omega
theorem one_cells (V : List NV) (h : ∀ x ∈ V, x.a.oneCell' = true ∧ x.b.oneCell' = true ∧ x.c.oneCell' = true ∧ x.d.oneCell' = true ∧ x.e.oneCell' = true) : ∀ u ∈ cellsN V, u.oneCell' = true := fun u hu => by
  unfold cellsN at hu
  obtain ⟨x, hx, hu⟩ := List.mem_flatMap.1 hu
  have hh := h x hx
  rcases List.mem_cons.1 hu with rfl | hu
  · exact hh.1
  rcases List.mem_cons.1 hu with rfl | hu
  · exact hh.2.1
  rcases List.mem_cons.1 hu with rfl | hu
  · exact hh.2.2.1
  rcases List.mem_cons.1 hu with rfl | hu
  · exact hh.2.2.2.1
  · rw [List.mem_singleton.1 hu]; exact hh.2.2.2.2
theorem node_cells {P : Nat → Prop} {w : World} {c : Nat → Value} {x : Nd} (h : NodeV P w (.agg #[c 0, c 1, c 2, c 3, c 4]) x) : (c 0).oneCell' = true ∧ (c 1).oneCell' = true ∧ (c 2).oneCell' = true ∧ (c 3).oneCell' = true ∧ (c 4).oneCell' = true := by
  obtain ⟨sp, nm, tx, a1, n1, c1, ao, cap, c', hv, _⟩ := h.kidsAt
  injection hv with hv
  injection hv with hv
  injection hv with h0 hv
  injection hv with h1 hv
  injection hv with h2 hv
  injection hv with h3 hv
  injection hv with h4 hv
  rw [h0, h1, h2, h3, h4]
  exact ⟨rfl, rfl, rfl, rfl, rfl⟩
theorem KidR.step {w : World} {v : Value} {V : List NV} {K : List Nd} {wr wx : World} (h : KidR w v V K wr) (hb : Below wr.heap.size wr wx) : KidR w v V K wx :=
  ⟨h.len, own_kept h.own hb, fun j hj hj' => (h.nodes j hj hj').to hb.size fun g hp hg => ⟨hp, hb.block g hg⟩, h.below.trans (hb.mono h.below.size)⟩
theorem own_cases {w : World} {base : Nat} {e : TypeId} {z n N ck : Nat} {ak : Option Addr} {xs : List Value} (h : w.ownsRow base e z (.slice ak n ck) N xs) (hn : N = n) : (ak = none ∧ n = 0 ∧ ck = 0) ∨ ∃ g, ak = some ⟨g, 0, none⟩ ∧ n ≤ ck := by
  rcases h.2 with ⟨hv, _⟩ | ⟨g, cap, cur, hv, _, _, hc, _⟩
  · injection hv with h1 h2 h3; exact .inl ⟨h1, h2, h3⟩
  · injection hv with h1 h2 h3; subst h3; exact .inr ⟨g, h1, by omega⟩
set_option maxHeartbeats 8000000 in
theorem pkids (v : Value) (ts : List Nd) (w : World) (h : LevelV w v ts) (hlen : (kidsL ts).length ≤ 1000000) (hts : ts.length ≤ 1000000) :
    Calls Tryz.prog 28 #[v] w fun r w' => ∃ v', r = .returned v' ∧ LevelV w' v' (kidsL ts) ∧ Below w.heap.size w w' := by
  obtain ⟨ao, cap, c, rfl, hc, hn⟩ := h
  obtain ⟨i0, hi, hz0, hz1, hz2⟩ := info_parts node_info
  have HI := Lib.hid hi
  have HI0 := Lib.hid hz0
  have HI1 := Lib.hid hz1
  have HI2 := Lib.hid hz2
  have HC := Lib.hid hc
  have HN := Lib.hid hn
  have HL := Lib.hid hlen
  clear hi hz0 hz1 hz2 hc hn hlen
  go_enter Tryz.func28, Tryz.ntmps28
  go_wp2
  go_loopg [3, 8] ts.length (fun g kids k wr => ∃ j V, g + j = ts.length ∧ k = .int .i64 (j : Nat) ∧ KidR w kids V (kidsL (ts.take j)) wr)
  case atStart => exact ⟨0, [], rfl, rfl, ⟨rfl, World.ownsRow_nil _ _ _ _, fun j hj => absurd hj (Nat.not_lt_zero j), Below.refl _ _⟩⟩
  case round =>
    obtain ⟨j, V, hg, rfl, hr⟩ := hrel
    obtain ⟨ak, ck, hkv⟩ := own_form hr.own
    obtain ⟨nv, hnv⟩ : ∃ nv, V.length = nv := ⟨_, rfl⟩
    rw [hnv] at hkv
    subst hkv
    have HR := Lib.hid hr
    have HNV := Lib.hid hnv
    clear hr hnv
    by_cases hj : j < ts.length
    · obtain ⟨g0, o0, rfl, hg0, hcell⟩ := HC.out (by omega)
      have hnode := HN.out j hj
      obtain ⟨x, hx⟩ : ∃ x, ts[j]'hj = x := ⟨_, rfl⟩
      rw [hx] at hnode
      obtain ⟨sp, nm, tx, a1, n1, c1, kao, kcap, c', hv, hkc, hkn⟩ := hnode.kidsAt
      injection hv with hv
      injection hv with hv
      injection hv with e0 hv
      injection hv with e1 hv
      injection hv with e2 hv
      injection hv with e3 hv
      injection hv with e4 hv
      have r0 := (HR.out.below.cell (p := ⟨g0, o0 + j * 5 + 0, none⟩) hg0).trans (hcell j hj 0 (by decide))
      have r1 := (HR.out.below.cell (p := ⟨g0, o0 + j * 5 + 1, none⟩) hg0).trans (hcell j hj 1 (by decide))
      have r2 := (HR.out.below.cell (p := ⟨g0, o0 + j * 5 + 2, none⟩) hg0).trans (hcell j hj 2 (by decide))
      have r3 := (HR.out.below.cell (p := ⟨g0, o0 + j * 5 + 3, none⟩) hg0).trans (hcell j hj 3 (by decide))
      have r4 := (HR.out.below.cell (p := ⟨g0, o0 + j * 5 + 4, none⟩) hg0).trans (hcell j hj 4 (by decide))
      rw [e0] at r0
      rw [e1] at r1
      rw [e2] at r2
      rw [e3] at r3
      rw [e4] at r4
      rw [Nat.add_zero] at r0
      have hj' : (j : Int) < (ts.length : Int) := by omega
      have htake := kidsL_take ts j hj
      rw [hx] at htake
      have hle := kidsL_le ts (j + 1)
      rw [htake, List.length_append] at hle
      have hlen2 : nv + x.kids.length ≤ 1000000 := by have := HR.out.len; have := HNV.out; have := HL.out; omega
      have HTK := Lib.hid htake
      have HKC := Lib.hid hkc
      have HKN := Lib.hid hkn
      obtain ⟨m, hm⟩ : ∃ m, x.kids.length = m := ⟨_, rfl⟩
      rw [hm] at r3 hlen2
      have HMm := Lib.hid hm
      clear hv hkc hkn hcell hnode e0 e1 e2 e3 e4 htake hle hx hm
      by_cases hK : m = 0
      · subst hK
        have hk0 : x.kids = [] := List.eq_nil_of_length_eq_zero HMm.out
        have hstep := HR.out.step ((Below.refl wr.heap.size wr).alloc (Nat.le_refl _) (.cells #[.string sp, .string nm, .slice a1 n1 c1, .slice kao 0 kcap, .string tx] 25))
        have hsame : kidsL (ts.take (j + 1)) = kidsL (ts.take j) := by rw [HTK.out, hk0, List.append_nil]
        rw [← hsame] at hstep
        have HST := Lib.hid hstep
        cases kao with
        | none =>
          rcases own_cases HR.out.own HNV.out with ⟨rfl, rfl, rfl⟩ | ⟨gr, rfl, hnc⟩
          · clear hstep hsame hk0 HKN HKC HTK
            go_wp2
            go_roundg (ts.length - (j + 1))
            case measure => omega
            case rel => exact ⟨j + 1, V, by omega, by go_num, HST.out⟩
          · clear hstep hsame hk0 HKN HKC HTK
            go_wp2
            go_roundg (ts.length - (j + 1))
            case measure => omega
            case rel => exact ⟨j + 1, V, by omega, by go_num, HST.out⟩
        | some ad =>
          have HZ := Lib.hid ((Below.refl wr.heap.size wr).alloc (Nat.le_refl _) (.cells #[.string sp, .string nm, .slice a1 n1 c1, .slice (some ad) 0 kcap, .string tx] 25))
          go_wp2_with (
            at_builtin
            refine wpList_append_own _ rfl _ _ 23 rfl w.heap.size 25 i0 _ 5 96 Tryz.underlying23 HI.out HI0.out HI1.out HI2.out rfl (by decide) (.slice ak nv ck) nv (cellsN V) rfl (by have := (HR.out.own).alloc (.cells #[.string sp, .string nm, .slice a1 n1 c1, .slice (some ad) 0 kcap, .string tx] 25); rw [HNV.out] at this; exact this)
              ad 0 kcap [] rfl rfl (fun _ _ h => by simp at h) (fun _ h => by cases h) (by unfold maxLen; omega) (by omega) (Nat.le_trans HR.out.below.size HZ.out.size) ?next)
          case next =>
            intro v' w7 hown hgr _
            have hmore := HR.out.more HZ.out (c := c') (K2 := []) (fun i hi => absurd hi (Nat.not_lt_zero i)) (v' := v') (by rw [HNV.out]; show w7.ownsRow _ _ _ v' (nv + 0) (cellsN V ++ []); rw [List.append_nil]; exact hown) hgr
            rw [List.append_nil, ← hsame] at hmore
            have HM := Lib.hid hmore
            obtain ⟨ak2, ck2, hv2⟩ := own_form hown
            subst hv2
            clear hmore hown hgr HKN HKC HZ HTK hstep hsame hk0 r0 r1 r2 r3 r4
            go_wp2
            go_roundg (ts.length - (j + 1))
            case measure => omega
            case rel => exact ⟨j + 1, _, by omega, by go_num, HM.out⟩
      · obtain ⟨gk, ok, rfl, _, hgk, hkcell⟩ := HKC.out (by have := HMm.out; omega)
        have hZ := (Below.refl wr.heap.size wr).alloc (Nat.le_refl _) (.cells #[.string sp, .string nm, .slice a1 n1 c1, .slice (some ⟨gk, ok, none⟩) m kcap, .string tx] 25)
        have HZ := Lib.hid hZ
        have HKcell := Lib.hid hkcell
        have HHgk := Lib.hid hgk
        clear hZ hkcell hgk
        go_wp2_with (
          at_builtin
          refine wpList_append_own _ rfl _ _ 23 rfl w.heap.size 25 i0 _ 5 96 Tryz.underlying23 HI.out HI0.out HI1.out HI2.out rfl (by decide) (.slice ak nv ck) nv (cellsN V) rfl (by have := (HR.out.own).alloc (.cells #[.string sp, .string nm, .slice a1 n1 c1, .slice (some ⟨gk, ok, none⟩) m kcap, .string tx] 25); rw [HNV.out] at this; exact this)
            ⟨gk, ok, none⟩ m kcap (cellsN (rowOf c' m)) rfl (by rw [cellsN_len, rowOf_len]) ?c1 ?c2 (by unfold maxLen; omega) (by omega) (Nat.le_trans HR.out.below.size HZ.out.size) ?next)
        case c1 =>
          intro i u hu
          obtain ⟨i1, q1, hi1, hq1, rfl, rfl⟩ := rowOf_cells c' m i u hu
          rw [Go.WideShapes.add_plain, ← Nat.add_assoc]
          exact (HZ.out.cell (p := ⟨gk, ok + i1 * 5 + q1, none⟩) (Nat.lt_of_lt_of_le HHgk.out HR.out.below.size)).trans ((HR.out.below.cell (p := ⟨gk, ok + i1 * 5 + q1, none⟩) HHgk.out).trans (HKcell.out i1 (by have := HMm.out; omega) q1 hq1))
        case c2 =>
          refine one_cells _ fun y hy => ?_
          obtain ⟨i1, hi1, rfl⟩ := List.mem_iff_getElem.1 hy
          rw [rowOf_len] at hi1
          rw [rowOf_get]
          exact node_cells (c := fun q => c' i1 q) (HKN.out i1 (by have := HMm.out; omega))
        case next =>
          intro v' w7 hown hgr _
          have hmore := HR.out.more HZ.out (c := c') (K2 := x.kids) (fun i hi => (HKN.out i hi).to (Nat.le_trans HR.out.below.size HZ.out.size) fun g _ hg => ⟨hg, (HZ.out.block g (Nat.lt_of_lt_of_le hg HR.out.below.size)).trans (HR.out.below.block g hg)⟩) (by rw [HMm.out, HNV.out]; exact hown) hgr
          rw [HMm.out, ← HTK.out] at hmore
          have HM := Lib.hid hmore
          obtain ⟨ak2, ck2, hv2⟩ := own_form hown
          subst hv2
          clear hmore hown hgr HKN HKC HKcell HZ HTK r0 r1 r2 r3 r4
          go_wp2
          go_roundg (ts.length - (j + 1))
          case measure => omega
          case rel => exact ⟨j + 1, _, by omega, by go_num, HM.out⟩
    · have hj' : ¬ (j : Int) < (ts.length : Int) := by omega
      have HLV := Lib.hid (show LevelV wr (.slice ak nv ck) (kidsL ts) by
        have h1 := HR.out.level
        rw [List.take_of_length_le (by omega)] at h1
        exact h1)
      have HB := Lib.hid HR.out.below
      go_wp2
      go_ret
      exact ⟨_, rfl, HLV.out, HB.out⟩

/-- An element alone, as a level. -/
theorem level_one {P : Nat → Prop} {w : World} {c0 c1 c2 c3 c4 : Value} {x : Nd} (h : NodeV P w (.agg #[c0, c1, c2, c3, c4]) x) : LevelV (w.alloc (.cells #[c0, c1, c2, c3, c4] 25)) (.slice (some ⟨w.heap.size, 0, none⟩) 1 1) [x] := by
  refine ⟨_, 1, fun _ q => match q with | 0 => c0 | 1 => c1 | 2 => c2 | 3 => c3 | _ => c4, rfl, fun _ => ⟨_, _, rfl, by simp, fun j hj q hq => ?_⟩, fun j hj => ?_⟩
  · have hj0 : j = 0 := by have : ([x] : List Nd).length = 1 := rfl; omega
    subst hj0
    have hh := heap_alloc_new w (.cells #[c0, c1, c2, c3, c4] 25)
    rw [Lib.cell_of_heap hh]
    match q, hq with
    | 0, _ => rfl
    | 1, _ => rfl
    | 2, _ => rfl
    | 3, _ => rfl
    | 4, _ => rfl
  · have hj0 : j = 0 := by have : ([x] : List Nd).length = 1 := rfl; omega
    subst hj0
    exact h.any ((Below.refl _ _).alloc (Nat.le_refl _) _)
theorem LevelV.form {w : World} {v : Value} {ts : List Nd} (h : LevelV w v ts) : ∃ ao cap, v = .slice ao ts.length cap := by obtain ⟨ao, cap, _, hv, _⟩ := h; exact ⟨_, _, hv⟩
set_option maxHeartbeats 4000000 in
/-- **tree.Count.** -/
theorem pcount (v : Value) (x : Nd) (P : Nat → Prop) (w : World) (h : NodeV P w v x) (hc : x.count ≤ 1000000) :
    Calls Tryz.prog 15 #[v] w fun r w' => r = .returned (.int .i64 (x.count : Nat)) ∧ Below w.heap.size w w' := by
  obtain ⟨sp, nm, tx, a1, n1, c1, ao, cap, c, rfl, _⟩ := h.kidsAt
  have hb1 := (Below.refl w.heap.size w).alloc (Nat.le_refl _) (.cells #[.string sp, .string nm, .slice a1 n1 c1, .slice ao x.kids.length cap, .string tx] 25)
  have hl := level_one (h.any hb1)
  have hb2 := hb1.alloc (by simp) (.cells #[.string sp, .string nm, .slice a1 n1 c1, .slice ao x.kids.length cap, .string tx] 25)
  rw [World.size_alloc] at hl
  have hx1 : countK [x] = x.count := by simp [countK]
  have HL := Lib.hid hl
  have HB := Lib.hid hb2
  have HC := Lib.hid hc
  have HX := Lib.hid hx1
  clear h hl hb1 hb2 hc hx1
  go_enter Tryz.func15, Tryz.ntmps15
  go_wp2
  go_loopg [3, 4] (countK [x]) (fun g cnt lv wr => ∃ (k : Nat) (ts : List Nd), cnt = .int .i64 (k : Nat) ∧ LevelV wr lv ts ∧ k + countK ts = x.count ∧ g = countK ts ∧ Below w.heap.size w wr)
  case atStart => exact ⟨0, [x], rfl, HL.out, by rw [HX.out]; omega, rfl, HB.out⟩
  case round =>
    obtain ⟨k, ts, rfl, hlv, hk, hg, hbw⟩ := hrel
    obtain ⟨ao2, cap2, rfl⟩ := hlv.form
    have HLV := Lib.hid hlv
    have hlen := len_count ts
    have hlev := count_level ts
    have hcc := HC.out
    clear hlv
    by_cases h0 : ts.length = 0
    · have hts : ts = [] := List.eq_nil_of_length_eq_zero h0
      have hk2 : k = x.count := by rw [hts] at hk; simpa [countK] using hk
      subst hk2
      have q : (ts.length : Int) = 0 := by omega
      have q0 : decide ((0 : Int) < (ts.length : Int)) = false := decide_eq_false (by omega)
      have HBW := Lib.hid hbw
      clear hlen hlev hk hbw hts
      rw [h0]
      go_wp2
      go_ret
      exact ⟨rfl, HBW.out⟩
    · have q0 : (0 : Int) < (ts.length : Int) := by omega
      have CK := Lib.hid (pkids _ ts wr HLV.out (by have := len_count (kidsL ts); omega) (by omega))
      go_wp2_with fail
      refine CK.out.mono ?_
      rintro r w1 ⟨v', rfl, hl', hb'⟩
      have HL2 := Lib.hid hl'
      have HB2 := Lib.hid (hbw.trans (hb'.mono hbw.size))
      obtain ⟨ao3, cap3, hv3⟩ := hl'.form
      subst hv3
      clear hl' hb' hbw CK HLV
      go_wp2
      go_roundg (countK (kidsL ts))
      case measure => omega
      case rel => exact ⟨k + ts.length, kidsL ts, by go_num, HL2.out, by omega, rfl, HB2.out⟩
set_option maxHeartbeats 4000000 in
/-- **tree.Depth.** -/
theorem pdepthT (v : Value) (x : Nd) (P : Nat → Prop) (w : World) (h : NodeV P w v x) (hc : x.count ≤ 1000000) :
    Calls Tryz.prog 16 #[v] w fun r w' => r = .returned (.int .i64 (x.depth : Nat)) ∧ Below w.heap.size w w' := by
  obtain ⟨sp, nm, tx, a1, n1, c1, ao, cap, c, rfl, _⟩ := h.kidsAt
  have hb1 := (Below.refl w.heap.size w).alloc (Nat.le_refl _) (.cells #[.string sp, .string nm, .slice a1 n1 c1, .slice ao x.kids.length cap, .string tx] 25)
  have hl := level_one (h.any hb1)
  have hb2 := hb1.alloc (by simp) (.cells #[.string sp, .string nm, .slice a1 n1 c1, .slice ao x.kids.length cap, .string tx] 25)
  rw [World.size_alloc] at hl
  have hx1 : depthK [x] = x.depth ∧ countK [x] = x.count := by simp [depthK, countK]
  have HL := Lib.hid hl
  have HB := Lib.hid hb2
  have HC := Lib.hid hc
  have HX := Lib.hid hx1
  clear h hl hb1 hb2 hc hx1
  go_enter Tryz.func16, Tryz.ntmps16
  go_wp2
  go_loopg [3, 4] (depthK [x]) (fun g cnt lv wr => ∃ (k : Nat) (ts : List Nd), cnt = .int .i64 (k : Nat) ∧ LevelV wr lv ts ∧ (k + depthK ts = x.depth ∧ k + countK ts ≤ x.count) ∧ g = depthK ts ∧ Below w.heap.size w wr)
  case atStart => exact ⟨0, [x], rfl, HL.out, ⟨by rw [HX.out.1]; omega, by rw [HX.out.2]; omega⟩, rfl, HB.out⟩
  case round =>
    obtain ⟨k, ts, rfl, hlv, hk, hg, hbw⟩ := hrel
    obtain ⟨ao2, cap2, rfl⟩ := hlv.form
    have HLV := Lib.hid hlv
    have hlen := len_count ts
    have hlev := count_level ts
    have hdl := depth_level ts
    have hcc := HC.out
    clear hlv
    by_cases h0 : ts.length = 0
    · have hts : ts = [] := List.eq_nil_of_length_eq_zero h0
      have hk2 : k = x.depth := by rw [hts] at hk; simpa [depthK] using hk.1
      subst hk2
      have q : (ts.length : Int) = 0 := by omega
      have q0 : decide ((0 : Int) < (ts.length : Int)) = false := decide_eq_false (by omega)
      have HBW := Lib.hid hbw
      clear hlen hlev hdl hk hbw hts
      rw [h0]
      go_wp2
      go_ret
      exact ⟨rfl, HBW.out⟩
    · have q0 : (0 : Int) < (ts.length : Int) := by omega
      have hd2 := hdl (fun e => h0 (by rw [e]; rfl))
      clear hdl
      have CK := Lib.hid (pkids _ ts wr HLV.out (by have := len_count (kidsL ts); omega) (by omega))
      go_wp2_with fail
      refine CK.out.mono ?_
      rintro r w1 ⟨v', rfl, hl', hb'⟩
      have HL2 := Lib.hid hl'
      have HB2 := Lib.hid (hbw.trans (hb'.mono hbw.size))
      obtain ⟨ao3, cap3, hv3⟩ := hl'.form
      subst hv3
      clear hl' hb' hbw CK HLV
      go_wp2
      go_roundg (depthK (kidsL ts))
      case measure => omega
      case rel => exact ⟨k + 1, kidsL ts, by go_num, HL2.out, ⟨by omega, by omega⟩, rfl, HB2.out⟩

end Go.Proofs.YtekmenkebokdoaaGreatDoor
