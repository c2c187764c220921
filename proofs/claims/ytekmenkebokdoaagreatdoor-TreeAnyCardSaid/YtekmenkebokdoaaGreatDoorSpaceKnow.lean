/-
  The walks of toldOf, (*Spaces).know.
-/
import Derived.Test.YtekmenkebokdoaaGreatDoorSpaceRep
import Derived.Test.YtekmenkebokdoaaGreatDoorShelf
import Derived.Deep.RegionLaw
import Derived.RegionTactic
import Derived.OwnWalk
import Derived.Deep.CutBlock
import Derived.Deep.DeepCutAuto
namespace Go.Proofs.YtekmenkebokdoaaGreatDoor
open Go Go.RowKit
set_option maxRecDepth 100000

theorem tl_of {a b : ByteArray} (h : a = b) (l : List UInt8) (hb : b.data.toList = l) : a.toList = l := by rw [h, Lib.toList_data]; exact hb
theorem tl_nq {a b : ByteArray} (h : a ≠ b) (l : List UInt8) (hb : b.data.toList = l) : (a.toList == l) = false := by
  rw [← hb, ← Lib.toList_data, tl_beq]
  exact decide_eq_false h
set_option maxHeartbeats 1000000 in
theorem ptold (n : ByteArray) (w : World) :
    Calls Tryz.prog 63 #[.string n] w fun r w' => r = .returned (.tuple #[.string (tellS n).1, .bool (tellS n).2]) ∧ w' = w := by
  have C := Tryz.strings_CutPrefix n ⟨#[120, 109, 108, 110, 115, 58]⟩ w
  unfold tellS
  by_cases h : n = bXmlns
  · rw [if_pos h]
    have q := tl_of h [120, 109, 108, 110, 115] rfl
    clear C h
    go_enter Tryz.func63, Tryz.ntmps63
    go_wp2
    go_ret2
    exact ⟨rfl, rfl⟩
  · rw [if_neg h]
    have q := tl_nq h [120, 109, 108, 110, 115] rfl
    change Calls _ _ _ _ (fun e w' => e = .returned (.tuple #[.string ⟨(Lib.trimPrefix n.data.toList bXmlnsC.data.toList).toArray⟩, .bool (Lib.hasPrefix n.data.toList bXmlnsC.data.toList)]) ∧ w' = w) at C
    generalize Lib.hasPrefix n.data.toList bXmlnsC.data.toList = A at C ⊢
    generalize (⟨(Lib.trimPrefix n.data.toList bXmlnsC.data.toList).toArray⟩ : ByteArray) = X at C ⊢
    have C := Lib.hid C
    clear h
    go_enter Tryz.func63, Tryz.ntmps63
    go_wp2_with (go_at_call 90; refine C.out.mono ?_; rintro e w' ⟨rfl, rfl⟩)
    go_ret2
    exact ⟨rfl, rfl⟩

/-! ### know -/
theorem tell_info : (Tryz.prog.info? 68).map (fun i => (i.zero, i.size, i.bytes)) = some (some (.agg #[.string ⟨#[]⟩, .string ⟨#[]⟩, .int .i64 0]), 3, 40) := by kernel_rfl
set_option maxHeartbeats 1000000 in
theorem pknow_form (b : Nat) (p s : ByteArray) (w : World) (h : p = bXml ∨ p = bXmlns ∨ (p ≠ bNone ∧ s = bNone)) :
    Calls Tryz.prog 64 #[.pointer (some ⟨b, 0, none⟩), .string p, .string s] w fun r w' => r = .returned (.int .i64 3) ∧ w' = w := by
  by_cases h1 : p = bXml
  · have q1 := tl_of h1 [120, 109, 108] rfl
    clear h h1
    go_enter Tryz.func64, Tryz.ntmps64
    go_wp2
    go_ret
    exact ⟨rfl, rfl⟩
  · have q1 := tl_nq h1 [120, 109, 108] rfl
    by_cases h2 : p = bXmlns
    · have q2 := tl_of h2 [120, 109, 108, 110, 115] rfl
      clear h h1 h2
      go_enter Tryz.func64, Tryz.ntmps64
      go_wp2
      go_ret
      exact ⟨rfl, rfl⟩
    · have q2 := tl_nq h2 [120, 109, 108, 110, 115] rfl
      have h3 : p ≠ bNone ∧ s = bNone := by
        rcases h with h | h | h
        · exact absurd h h1
        · exact absurd h h2
        · exact h
      have q3 := tl_nq h3.1 [] rfl
      have q4 := tl_of h3.2 [] rfl
      clear h h1 h2 h3
      go_enter Tryz.func64, Tryz.ntmps64
      go_wp2
      go_ret
      exact ⟨rfl, rfl⟩

set_option maxHeartbeats 1000000 in
theorem pknow_big (B b d : Nat) (L : List Tell) (p s : ByteArray) (w : World) (hS : Sp B b d L w) (h : ¬ (p = bXml ∨ p = bXmlns ∨ (p ≠ bNone ∧ s = bNone))) (hL : 100 ≤ L.length) :
    Calls Tryz.prog 64 #[.pointer (some ⟨b, 0, none⟩), .string p, .string s] w fun r w' => r = .returned (.int .i64 5) ∧ w' = w := by
  have q1 := tl_nq (fun e => h (.inl e)) [120, 109, 108] rfl
  have q2 := tl_nq (fun e => h (.inr (.inl e))) [120, 109, 108, 110, 115] rfl
  obtain ⟨_, k, cap, hb, _⟩ := hS
  have c1 := Lib.cell_of_heap hb 1
  simp only [List.getElem?_toArray, List.getElem?_cons_zero, List.getElem?_cons_succ] at c1
  have hLi : (100 : Int) ≤ (L.length : Int) := by omega
  by_cases h3 : p = bNone
  · have q3 := tl_of h3 [] rfl
    clear h hb h3 hL
    go_enter Tryz.func64, Tryz.ntmps64
    go_wp2
    go_ret
    exact ⟨rfl, rfl⟩
  · have q3 := tl_nq h3 [] rfl
    have q4 := tl_nq (fun e => h (.inr (.inr ⟨h3, e⟩))) [] rfl
    clear h hb h3 hL
    go_enter Tryz.func64, Tryz.ntmps64
    go_wp2
    go_ret
    exact ⟨rfl, rfl⟩

set_option maxHeartbeats 4000000 in
theorem pknow_ok (B b d : Nat) (L : List Tell) (p s : ByteArray) (w : World) (hS : Sp B b d L w) (h : ¬ (p = bXml ∨ p = bXmlns ∨ (p ≠ bNone ∧ s = bNone))) (hL : L.length < 100) :
    Calls Tryz.prog 64 #[.pointer (some ⟨b, 0, none⟩), .string p, .string s] w fun r w' => r = .returned (.int .i64 0) ∧ Sp B b d (L ++ [⟨p, s, d⟩]) w' ∧ Below B w w' ∧ Apart w w' := by
  have q1 := tl_nq (fun e => h (.inl e)) [120, 109, 108] rfl
  have q2 := tl_nq (fun e => h (.inr (.inl e))) [120, 109, 108, 110, 115] rfl
  have q3 : (p.toList == []) = true ∨ (p.toList == []) = false ∧ (s.toList == []) = false := by
    by_cases h3 : p = bNone
    · left; rw [tl_of h3 [] rfl]; rfl
    · exact .inr ⟨tl_nq h3 [] rfl, tl_nq (fun e => h (.inr (.inr ⟨h3, e⟩))) [] rfl⟩
  have hbl := hS.lt
  have hbase := hS.base
  obtain ⟨_, k, cap, hb, ho⟩ := hS
  have hbk : b ≠ k := own_block_ne ho hb (by decide)
  have c0 := Lib.cell_of_heap hb 0
  have c1 := Lib.cell_of_heap hb 1
  have f1 := Lib.frozen_of_heap hb 1
  simp only [List.getElem?_toArray, List.getElem?_cons_zero, List.getElem?_cons_succ] at c0 c1
  have hLi : ¬ (100 : Int) ≤ (L.length : Int) := by omega
  have HB := Lib.hid hb
  have HO := Lib.hid ho
  clear h hb ho
  go_enter Tryz.func64, Tryz.ntmps64
  obtain ⟨i0, hi, hz0, hz1, hz2⟩ := info_parts tell_info
  have HI := Lib.hid hi
  have HI0 := Lib.hid hz0
  have HI1 := Lib.hid hz1
  have HI2 := Lib.hid hz2
  clear hi hz0 hz1 hz2
  have HX : Hid (∀ (gg cap' : Nat) (w7 : World), w7.ownsRow B 68 3 (.slice (some ⟨gg, 0, none⟩) (L.length + 1) cap') (L.length + 1) (cellsT L ++ [.string p, .string s, .int .i64 d]) → (w.alloc (.cells #[.string p, .string s, .int .i64 d] 68)).grownBy w7 (some k) →
      w7.cell? ⟨b, 1, none⟩ = some (.slice (some ⟨k, 0, none⟩) L.length cap) ∧ w7.frozen? ⟨b, 1, none⟩ = false ∧
      Hid (Sp B b d (L ++ [⟨p, s, d⟩]) (w7.setCell ⟨b, 1, none⟩ (.slice (some ⟨gg, 0, none⟩) (L.length + 1) cap')) ∧ Below B w (w7.setCell ⟨b, 1, none⟩ (.slice (some ⟨gg, 0, none⟩) (L.length + 1) cap')) ∧ Apart w (w7.setCell ⟨b, 1, none⟩ (.slice (some ⟨gg, 0, none⟩) (L.length + 1) cap')))) := by
    refine Lib.hid fun gg cap' w7 hown7 hgrow => ?_
    have hB1 := (Below.refl w.heap.size w).alloc (Nat.le_refl _) (.cells #[.string p, .string s, .int .i64 d] 68)
    have hb1 := (hB1.block b hbl).trans HB.out
    have hs1 := hB1.size
    have hb7 := (hgrow.block b (by omega) (by intro e; exact hbk (by cases e; rfl))).trans hb1
    have hkB := (HO.out.lt k rfl).1
    have p7 := Sp.put (L := L ++ [⟨p, s, d⟩]) (n := L.length + 1) (by simp) hbase hb7 (by rw [cellsT_app]; exact hown7)
    refine ⟨by rw [Lib.cell_of_heap hb7]; rfl, Lib.frozen_of_heap hb7 1, Lib.hid ⟨p7.1, ((hB1.mono (by omega)).grown hgrow (by omega) (fun j e => by cases e; exact hkB)).trans p7.2.1, ((Apart.of hB1).trans (Apart.grown hgrow (fun j e => ?_))).trans p7.2.2⟩⟩
    cases e
    rcases (HO.out.alloc (.cells #[.string p, .string s, .int .i64 d] 68)).2 with ⟨h', _⟩ | ⟨g', cap', cur, h', _, hg', _⟩
    · simp at h'
    · simp only [Value.slice.injEq, Option.some.injEq, Addr.mk.injEq, and_true, true_and] at h'
      obtain ⟨rfl, rfl⟩ := h'
      exact ⟨_, _, _, hg', .inl rfl⟩
  rcases q3 with q3 | ⟨q3, q4⟩
  · go_upto_region 7 with (fail)
    go_region_law (
       refine step_append_lies _ (by rfl) _ _ _ (by rfl) B 68 i0 _ 3 40 Tryz.underlying69 HI.out HI0.out HI1.out HI2.out rfl (by omega) (.slice (some ⟨k, 0, none⟩) L.length cap) L.length (cellsT L) (by rfl) (HO.out.alloc _)
         ⟨w.heap.size, 0, none⟩ 1 1 [.string p, .string s, .int .i64 d] (by rfl) (by rfl) (World.news_of_block (cs := #[.string p, .string s, .int .i64 d]) (t := 68) (fr := (0, 0)) (heap_alloc_new w _)) (by simp [Value.oneCell'])
         (by omega) (by unfold maxLen; omega) (by omega) (by simp; omega) (w.heap.size + 1) (by simp) ?_
       intro gg cap' w7 hown7 hgrow hat hlt
       have hx7 := HX.out gg cap' w7 hown7 ⟨hgrow.os, hgrow.tape, hgrow.output, hgrow.size, hgrow.block⟩
       have k7 := hx7.1
       have g7 := hx7.2.1
       have H7 := hx7.2.2)
    all_goals
      clear hgrow hown7 k7 g7 hx7
      go_wp2
      go_ret
      exact ⟨rfl, H7.out⟩
  · go_upto_region 7 with (fail)
    go_region_law (
       refine step_append_lies _ (by rfl) _ _ _ (by rfl) B 68 i0 _ 3 40 Tryz.underlying69 HI.out HI0.out HI1.out HI2.out rfl (by omega) (.slice (some ⟨k, 0, none⟩) L.length cap) L.length (cellsT L) (by rfl) (HO.out.alloc _)
         ⟨w.heap.size, 0, none⟩ 1 1 [.string p, .string s, .int .i64 d] (by rfl) (by rfl) (World.news_of_block (cs := #[.string p, .string s, .int .i64 d]) (t := 68) (fr := (0, 0)) (heap_alloc_new w _)) (by simp [Value.oneCell'])
         (by omega) (by unfold maxLen; omega) (by omega) (by simp; omega) (w.heap.size + 1) (by simp) ?_
       intro gg cap' w7 hown7 hgrow hat hlt
       have hx7 := HX.out gg cap' w7 hown7 ⟨hgrow.os, hgrow.tape, hgrow.output, hgrow.size, hgrow.block⟩
       have k7 := hx7.1
       have g7 := hx7.2.1
       have H7 := hx7.2.2)
    all_goals
      clear hgrow hown7 k7 g7 hx7
      go_wp2
      go_ret
      exact ⟨rfl, H7.out⟩

/-- **(*Spaces).know.** -/
theorem pknow (B b d : Nat) (L : List Tell) (p s : ByteArray) (w : World) (hS : Sp B b d L w) :
    Calls Tryz.prog 64 #[.pointer (some ⟨b, 0, none⟩), .string p, .string s] w fun r w' => r = .returned (.int .i64 (knowE L p s)) ∧ Sp B b d (if knowE L p s = 0 then L ++ [⟨p, s, d⟩] else L) w' ∧ Below B w w' ∧ Apart w w' := by
  unfold knowE
  by_cases h : p = bXml ∨ p = bXmlns ∨ (p ≠ bNone ∧ s = bNone)
  · rw [if_pos h, if_neg (by decide)]
    exact (pknow_form b p s w h).mono fun r w' ⟨hr, hw⟩ => by subst hw; exact ⟨hr, hS, Below.refl _ _, Apart.refl _⟩
  · rw [if_neg h]
    by_cases hL : 100 ≤ L.length
    · rw [if_pos hL, if_neg (by decide)]
      exact (pknow_big B b d L p s w hS h hL).mono fun r w' ⟨hr, hw⟩ => by subst hw; exact ⟨hr, hS, Below.refl _ _, Apart.refl _⟩
    · rw [if_neg hL, if_pos rfl]
      exact pknow_ok B b d L p s w hS h (by omega)

end Go.Proofs.YtekmenkebokdoaaGreatDoor
