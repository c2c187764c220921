/-
  The walk of layer 6's law TreeAny: whatever a text is, it is a document, or an error at one of its bytes.
  Whatever a text is, what Parse answers: an element with a name, or an error at one of the text's places; plain mathematics.
-/
import Derived.Test.YtekmenkebokdoaaGreatDoorNearMath
import Derived.Test.YtekmenkebokdoaaGreatDoorNear
import Derived.Test.YtekmenkebokdoaaGreatDoorText
import Derived.Test.YtekmenkebokdoaaGreatDoorLaw06M
import Derived.Test.YtekmenkebokdoaaGreatDoorTreeKids
import Derived.Test.YtekmenkebokdoaaGreatDoorCharsRef
import Derived.BigQuiet
import Derived.Deep.QuietTactic
import Derived.IntWalk
namespace Go.Proofs.YtekmenkebokdoaaGreatDoor
open Go Go.RowKit Go.Lib
set_option maxRecDepth 100000

def Nd.name : Nd → ByteArray
  | .mk _ n _ _ _ => n
/-- An error that may be, at a place that may be. -/
def badOk (n : Nat) (e a : Int) : Prop := 0 ≤ a ∧ a ≤ n ∧ (e = 2 ∨ e = 3 ∨ e = 5 ∨ e = 7)
def resOk (n : Nat) : Res Nd → Prop
  | .bad e a => badOk n e a
  | .ok x => nameL (bl x.name) = true ∧ 1 ≤ x.count ∧ x.count ≤ 32
theorem lts_drop {D : List UInt8} {p q : Nat} (h : p ≤ q) : lts (D.drop q) ≤ lts (D.drop p) := by
  have e : D.drop q = (D.drop p).drop (q - p) := by rw [List.drop_drop]; congr 1; omega
  rw [e]
  exact (List.drop_sublist _ _).count_le 60
theorem rawS_kind (D : List UInt8) (σ : St) : ¬ opens (rawS D σ).1 := by rintro (h | h) <;> exact absurd (show (4 : Int) = _ from h) (by decide)
theorem textS_kind (D : List UInt8) (σ : St) : ¬ opens (textS D σ).1 := by rintro (h | h) <;> exact absurd (show (4 : Int) = _ from h) (by decide)
theorem closingS_kind (D : List UInt8) (σ : St) : ¬ opens (closingS D σ).1 := by rintro (h | h) <;> exact absurd (show (2 : Int) = _ from h) (by decide)
theorem pc0_kind : ¬ opens pc0 := by rintro (h | h) <;> exact absurd (show (0 : Int) = _ from h) (by decide)
/-- Where an element begins there is a <. -/
theorem open_lt {D : List UInt8} {σ : St} (hs : Scn D.length σ) (h : opens (nextP D σ)) : lts (D.drop (nextS D σ).pos) + 1 ≤ lts (D.drop σ.pos) := by
  have hk : (nextP D σ).kind ≠ 0 := by rcases h with h | h <;> rw [h] <;> decide
  have hp := (next_scn D σ hs).2.2 hk
  have key : (nextP D σ).at_ = (passAllS D σ).pos ∧ ∃ r, D.drop (passAllS D σ).pos = 60 :: r := by
    unfold nextP at h ⊢
    split
    · rename_i hc
      rw [if_pos hc] at h
      split
      · rename_i he
        rw [if_pos he] at h
        refine ⟨rfl, ?_⟩
        have ho : opens (pieceR D (passAllS D σ)).1 := h
        unfold pieceR at ho
        split at ho
        · exact absurd ho (rawS_kind _ _)
        split at ho
        · exact absurd ho (closingS_kind _ _)
        split at ho
        · rename_i hst
          obtain ⟨r, hr⟩ := List.isPrefixOf_iff_prefix.1 hst
          exact ⟨r, hr.symm⟩
        · exact absurd ho (textS_kind _ _)
      · rename_i he; rw [if_neg he] at h; exact absurd h pc0_kind
    · rename_i hc; rw [if_neg hc] at h; exact absurd h pc0_kind
  obtain ⟨ha, r, hr⟩ := key
  rw [ha] at hp
  have h1 := lts_drop (D := D) (p := σ.pos) (q := (passAllS D σ).pos) (by omega)
  have h2 := lts_drop (D := D) (p := (passAllS D σ).pos + 1) (q := (nextS D σ).pos) (by omega)
  have h3 : D.drop ((passAllS D σ).pos + 1) = r := by
    rw [← List.drop_drop, hr]; rfl
  rw [h3] at h2
  rw [hr, lts_60] at h1
  omega
structure FrOk (n : Nat) (F : Fr) : Prop where
  lo : 0 ≤ F.at_
  hi : F.at_ ≤ n
  nm : nameL (bl F.nm) = true
def MOk (n : Nat) : Mach → Prop
  | (.before, _, _) => True
  | (.inside F S, _, _) => FrOk n F ∧ ∀ G ∈ S, FrOk n G
  | (.behind x, _, _) => nameL (bl x.name) = true
/-- How many elements there are in those that are open, with themselves. -/
def cntS : List Fr → Nat
  | [] => 0
  | F :: S => 1 + countK F.K + cntS S
theorem cntS_len : ∀ S : List Fr, S.length ≤ cntS S
  | [] => Nat.le_refl _
  | F :: S => by have := cntS_len S; rw [List.length_cons, cntS]; omega
def openN : Mach → Nat
  | (.before, _, _) => 0
  | (.inside F S, _, _) => cntS (F :: S)
  | (.behind x, _, _) => x.count
def StOk (n k : Nat) : Res Mach → Prop
  | .bad e a => badOk n e a
  | .ok m => MOk n m ∧ openN m ≤ k
theorem split_name {l : List UInt8} (h : (splitL l).2.2 = true) : nameL (splitL l).2.1 = true := by
  revert h
  unfold splitL
  split <;> simp_all
theorem name_name {L : List Tell} {s : ByteArray} (h : (nameSp L s).2.2 = true) : nameL (bl (nameSp L s).2.1) = true := by
  revert h
  unfold nameSp nameZ
  split
  · intro h; cases h
  · rename_i hc
    split
    · intro h; cases h
    · intro _
      show nameL (bl (str _)) = true
      rw [str_bl]
      exact split_name (by simpa using hc)
theorem give_ok {n : Nat} {x : Nd} {S : List Fr} {L : List Tell} {c : Nat} (hx : nameL (bl x.name) = true) (hS : ∀ G ∈ S, FrOk n G) : MOk n (give x S, L, c) ∧ openN (give x S, L, c) = cntS S + x.count := by
  cases S with
  | nil => exact ⟨hx, by show x.count = 0 + x.count; omega⟩
  | cons F S =>
    have hF := hS F (List.mem_cons_self ..)
    exact ⟨⟨⟨hF.lo, hF.hi, hF.nm⟩, fun G hG => hS G (List.mem_cons_of_mem _ hG)⟩, by
      show 1 + countK (F.K ++ [x]) + cntS S = 1 + countK F.K + cntS S + x.count
      rw [countK_app, countK, countK]; omega⟩
def EnOk (n : Nat) : Res (Fr × List Tell) → Prop
  | .bad e a => badOk n e a
  | .ok E => FrOk n E.1 ∧ E.1.K = []
theorem enter_ok {n : Nat} {p : Pc} {d : Nat} {L : List Tell} {c : Nat} (hp : 0 ≤ p.at_ ∧ p.at_ ≤ n) (hd : d < 32) : EnOk n (enterR p d L c) := by
  have h3 : badOk n 3 p.at_ := ⟨hp.1, hp.2, .inr (.inl rfl)⟩
  unfold enterR
  by_cases hc : c < 2000
  · rw [if_pos hc, if_pos hd]
    have hg := enterL_grow (d + 1) (toAtt p.attrs) [] L
    generalize enterL (d + 1) (toAtt p.attrs) [] L = Z at hg ⊢
    have hN := name_name (L := Z.2.2) (s := str p.name)
    generalize nameSp Z.2.2 (str p.name) = N at hN ⊢
    unfold enterC
    by_cases h0 : Z.2.1 = 0
    · rw [if_pos h0]
      by_cases h1 : N.2.2 = true
      · rw [if_pos h1]
        by_cases h2 : attsOk Z.1 = true
        · rw [if_pos h2]; exact ⟨⟨hp.1, hp.2, hN h1⟩, rfl⟩
        · rw [if_neg h2]; exact h3
      · rw [if_neg h1]; exact h3
    · rw [if_neg h0]
      refine ⟨hp.1, hp.2, ?_⟩
      rcases hg with h | h | h
      · exact absurd h h0
      · exact .inr (.inl h)
      · exact .inr (.inr (.inl h))
  · rw [if_neg hc]; exact ⟨hp.1, hp.2, .inr (.inr (.inl rfl))⟩
theorem opn_any {n : Nat} {p : Pc} {S : List Fr} {L : List Tell} {c : Nat} (hp : 0 ≤ p.at_ ∧ p.at_ ≤ n) (hS : ∀ G ∈ S, FrOk n G) (hd : S.length < 32) : StOk n (cntS S + 1) (opn p S L c) := by
  have h := enter_ok (L := L) (c := c) hp hd
  unfold opn
  cases hr : enterR p S.length L c with
  | bad e a => rw [hr] at h; exact h
  | ok E =>
    rw [hr] at h
    show StOk n (cntS S + 1) (if p.kind = 1 then _ else _)
    by_cases hk : p.kind = 1
    · rw [if_pos hk]
      refine ⟨⟨h.1, hS⟩, ?_⟩
      show 1 + countK E.1.K + cntS S ≤ _
      rw [h.2, countK]; omega
    · rw [if_neg hk]
      have hg := give_ok (n := n) (x := .mk E.1.sp E.1.nm E.1.A [] (str [])) (S := S) (L := L) (c := c + 1) h.1.nm hS
      exact ⟨hg.1, by rw [hg.2, Nd.count, countK]; omega⟩
theorem step_ok {n : Nat} {p : Pc} {m : Mach} (hp : 0 ≤ p.at_ ∧ p.at_ ≤ n) (hm : MOk n m) (hd : opens p → openN m < 32) (k : Nat) (hk : openN m + (if opens p then 1 else 0) = k) : StOk n k (step p m) := by
  have hbad : badOk n 3 p.at_ := ⟨hp.1, hp.2, .inr (.inl rfl)⟩
  obtain ⟨ph, L, c⟩ := m
  cases ph with
  | before =>
    show StOk n k (if blankP p then _ else if opens p then _ else _)
    by_cases hb : blankP p
    · rw [if_pos hb]; exact ⟨trivial, Nat.zero_le _⟩
    rw [if_neg hb]
    by_cases ho : opens p
    · rw [if_pos ho] at hk ⊢
      rw [← hk]
      exact opn_any (S := []) hp (fun G h => by cases h) (by decide)
    · rw [if_neg ho]; exact hbad
  | behind x =>
    show StOk n k (if blankP p then _ else _)
    by_cases hb : blankP p
    · rw [if_pos hb]; exact ⟨hm, by rw [← hk]; exact Nat.le_add_right _ _⟩
    · rw [if_neg hb]; exact hbad
  | inside F S =>
    rw [step_in]
    obtain ⟨hF, hS⟩ := hm
    have hFS : ∀ G ∈ F :: S, FrOk n G := fun G hG => by
      rcases List.mem_cons.1 hG with rfl | h
      · exact hF
      · exact hS G h
    have hlen : openN (.inside F S, L, c) = 1 + countK F.K + cntS S := rfl
    rw [hlen] at hk hd
    by_cases h2 : p.kind = 2
    · rw [if_pos h2]
      by_cases ht : p.name = F.tag
      · rw [if_pos ht]
        unfold shut
        by_cases hs : trimL F.tx = [] ∨ F.K = []
        · rw [if_pos hs]
          have hg := give_ok (n := n) (x := .mk F.sp F.nm F.A F.K (str (trimL F.tx))) (S := S) (L := F.L) (c := c) hF.nm hS
          exact ⟨hg.1, by rw [hg.2, Nd.count]; omega⟩
        · rw [if_neg hs]; exact ⟨hF.lo, hF.hi, .inr (.inl rfl)⟩
      · rw [if_neg ht]; exact hbad
    rw [if_neg h2]
    by_cases ho : opens p
    · rw [if_pos ho] at hk ⊢
      rw [← hk]
      have hl := cntS_len S
      have hd' := hd ho
      exact opn_any (S := F :: S) hp hFS (by rw [List.length_cons]; omega)
    · rw [if_neg ho] at hk ⊢
      exact ⟨⟨⟨hF.lo, hF.hi, hF.nm⟩, hS⟩, by rw [← hk]; exact Nat.le_refl _⟩
theorem run_ok (D : List UInt8) : ∀ (k : Nat) (σ : St) (m : Mach), D.length - σ.pos < k → Scn D.length σ → MOk D.length m → openN m + lts (D.drop σ.pos) ≤ 32 → resOk D.length (runAt D σ m)
  | 0, _, _, h, _, _, _ => absurd h (Nat.not_lt_zero _)
  | k + 1, σ, m, hk, hs, hm, hd => by
    have hn := next_scn D σ hs
    by_cases h0 : (nextS D σ).err = 0
    · by_cases h1 : (nextP D σ).kind = 0
      · unfold runAt
        rw [toks_fin h0 h1]
        obtain ⟨ph, L, c⟩ := m
        cases ph with
        | before => exact ⟨Int.le_refl _, by show (0 : Int) ≤ _; omega, .inr (.inl rfl)⟩
        | inside F S => exact ⟨by show (0 : Int) ≤ _; omega, by have := hn.1.pos; show ((nextS D σ).pos : Int) ≤ _; omega, .inr (.inl rfl)⟩
        | behind x => exact ⟨hm, by rw [count_kids x]; omega, by have : x.count + lts (D.drop σ.pos) ≤ 32 := hd; omega⟩
      · rw [runAt_pc hs h0 h1]
        have hp := hn.2.2 h1
        have hpos := hn.1.pos
        have hle := lts_drop (D := D) (p := σ.pos) (q := (nextS D σ).pos) (by omega)
        have hst := step_ok (n := D.length) (p := nextP D σ) (m := m) ⟨by omega, by omega⟩ hm (fun ho => by have := open_lt hs ho; omega) _ rfl
        cases hr : step (nextP D σ) m with
        | bad e a => rw [hr] at hst; exact hst
        | ok m' =>
          rw [hr] at hst
          refine run_ok D k (nextS D σ) m' (by omega) hn.1 hst.1 ?_
          have h2 := hst.2
          by_cases ho : opens (nextP D σ)
          · rw [if_pos ho] at h2
            have := open_lt hs ho
            omega
          · rw [if_neg ho] at h2
            omega
    · rw [runAt_bad h0]
      refine ⟨hn.1.wrg.1, hn.1.wrg.2, ?_⟩
      rcases hn.1.err_or with h | h | h | h | h
      · exact absurd h h0
      · exact .inl h
      · exact .inr (.inl h)
      · exact .inr (.inr (.inl h))
      · exact .inr (.inr (.inr h))
/-- Whatever a text is, if no more than 32 of its bytes are <. -/
theorem parse_ok (D : List UInt8) (h : lts D ≤ 32) : resOk D.length (parseL D) :=
  run_ok D (D.length + 1) (newS D) _ (by omega) (new_scn D) trivial (by
    have := lts_drop (D := D) (p := 0) (q := (newS D).pos) (Nat.zero_le _)
    rw [List.drop_zero] at this
    show 0 + _ ≤ 32
    omega)

end Go.Proofs.YtekmenkebokdoaaGreatDoor

namespace Go.Proofs.YtekmenkebokdoaaGreatDoor
open Go Go.RowKit Go.Lib
set_option maxRecDepth 100000

theorem text_size {d : Nat} {y : Nd} (h : NearB d y) : (textT y ⟨#[]⟩ []).length ≤ lenB d 0 + 1 := by
  have := h.len ⟨#[]⟩ []
  unfold textT
  simp only [List.length_append, List.length_nil, List.length_singleton]
  simp only [List.length_nil] at this
  omega
theorem text_lts {d : Nat} {y : Nd} (h : NearB d y) : lts (textT y ⟨#[]⟩ []) ≤ 2 * cntB d := by
  have h1 := h.few ⟨#[]⟩ [] (fun b hb => by cases hb)
  have h2 := h.count
  have e : lts (textT y ⟨#[]⟩ []) = lts (bodyT y ⟨#[]⟩ []) := by
    unfold textT
    rw [List.nil_append, lts_app]
    rfl
  omega
theorem lts_le (l : List UInt8) : lts l ≤ l.length := List.count_le_length
theorem cut_lts (t s : List UInt8) (k m e : Nat) (hk : k ≤ e) (hm : m ≤ 6) : lts (t.take k ++ s.take m ++ t.drop e) ≤ lts t + 6 := by
  have h1 : lts t = lts (t.take k) + lts (t.drop k) := by rw [← lts_app, List.take_append_drop]
  have h2 := lts_drop (D := t) hk
  have h3 := lts_le (s.take m)
  rw [List.length_take] at h3
  rw [lts_app, lts_app]
  omega
set_option maxHeartbeats 8000000 in
theorem any06_any (v v2 : Value) (s : ByteArray) (w : World) (hE : EntV w) (hT : Tabs w) (hv : ∃ X, NodeV (fun _ => True) w v X) (h2 : ∃ a b : Int, v2 = .agg #[.int .i64 a, .int .i64 b]) :
    Calls Tryz.prog 6 #[v, v2, .string s] w fun e w' => e = .returned (.bool true) ∧ Below w.heap.size w w' := by
  obtain ⟨X, hX⟩ := hv
  obtain ⟨a, b, rfl⟩ := h2
  obtain ⟨xsp, xnm, xtx, xa, xan, xac, xk, xkn, xkc, rfl⟩ := form06 hX
  have hA1 := (Below.refl w.heap.size w).alloc (Nat.le_refl _) (.cells #[.string xsp, .string xnm, .slice xa xan xac, .slice xk xkn xkc, .string xtx] 25)
  have hA2 := hA1.alloc (by simp) (.cells #[.int .i64 a, .int .i64 b] 45)
  have hN0 := heap_alloc_new (w.alloc (.cells #[.string xsp, .string xnm, .slice xa xan xac, .slice xk xkn xkc, .string xtx] 25)) (.cells #[.int .i64 a, .int .i64 b] 45)
  rw [World.size_alloc] at hN0
  obtain ⟨w0, hw0⟩ : ∃ w0, (w.alloc (.cells #[.string xsp, .string xnm, .slice xa xan xac, .slice xk xkn xkc, .string xtx] 25)).alloc (.cells #[.int .i64 a, .int .i64 b] 45) = w0 := ⟨_, rfl⟩
  have hc0 : ∀ q v, (#[.string xsp, .string xnm, .slice xa xan xac, .slice xk xkn xkc, .string xtx] : Array Value)[q]? = some v → w0.cell? ⟨w.heap.size, q, none⟩ = some v := fun q v h => by
    have hX0 := (Below.heap_alloc (w.alloc (.cells #[.string xsp, .string xnm, .slice xa xan xac, .slice xk xkn xkc, .string xtx] 25)) (.cells #[.int .i64 a, .int .i64 b] 45) w.heap.size (by simp)).trans (heap_alloc_new w _)
    rw [← hw0, Lib.cell_of_heap hX0]; exact h
  have x0 := hc0 0 _ rfl
  have x1 := hc0 1 _ rfl
  have x2 := hc0 2 _ rfl
  have x3 := hc0 3 _ rfl
  have x4 := hc0 4 _ rfl
  rw [hw0] at hA2 hN0
  have HN := Lib.hid (near_spec 2 3 _ X w0 (by decide) (by decide) (by decide) (hX.any hA2))
  have HA2 := Lib.hid hA2
  have HN0 := Lib.hid hN0
  have HE := Lib.hid (hE.below hA2)
  have HT := Lib.hid (hT.below hA2)
  clear hA1 hA2 hN0 hX hE hT hc0
  go_enter Tryz.func6, Tryz.ntmps6
  go_wp2_with fail
  refine HN.out.mono ?_
  rintro e w1 ⟨v1, y, rfl, hy, hyB, hb1⟩
  obtain ⟨ysp, ynm, ytx, ya, yan, yac, yk, ykn, ykc, rfl⟩ := form06 hy
  have CT := text_spec 3 y _ ⟨#[]⟩ [] w1 (hy.any (Below.refl _ _)) hyB (by decide)
  have hTl := text_size hyB
  have hTc := text_lts hyB
  obtain ⟨TL, hTL⟩ : ∃ TL, textT y ⟨#[]⟩ [] = TL := ⟨_, rfl⟩
  rw [hTL] at CT hTl hTc
  have hTl2 : TL.length ≤ 100000 := Nat.le_trans hTl (by decide)
  have hTc2 : lts TL ≤ 26 := Nat.le_trans hTc (by decide)
  have CT := Lib.hid CT
  have hq0 : w.heap.size + 1 < w0.heap.size := (Array.getElem?_eq_some_iff.1 HN0.out).1
  have HN1 := Lib.hid ((hb1.block _ hq0).trans HN0.out)
  have HB1 := Lib.hid (HA2.out.trans (hb1.mono HA2.out.size))
  have HE1 := Lib.hid (HE.out.below hb1)
  have HT1 := Lib.hid (HT.out.below hb1)
  clear hy hyB hb1 hTL hTl hTc x0 x1 x2 x3 x4 HN hw0 HN0 HA2 HE HT hq0
  go_wp2_with fail
  refine CT.out.mono ?_
  rintro e w2 ⟨rfl, hb2⟩
  obtain ⟨T, hT⟩ : ∃ T, str TL = T := ⟨_, rfl⟩
  have hTs : T.size = TL.length := by rw [← hT, str_size]
  have hq1 : w.heap.size + 1 < w1.heap.size := (Array.getElem?_eq_some_iff.1 HN1.out).1
  have hN2 := (hb2.block _ hq1).trans HN1.out
  have c0 := Lib.cell_of_heap hN2 0
  have c1 := Lib.cell_of_heap hN2 1
  simp only [List.getElem?_toArray, List.getElem?_cons_zero, List.getElem?_cons_succ] at c0 c1
  have HB2 := Lib.hid (HB1.out.trans (hb2.mono HB1.out.size))
  have HE2 := Lib.hid (HE1.out.below hb2)
  have HT2 := Lib.hid (HT1.out.below hb2)
  rw [hT]
  have HTe := Lib.hid hT
  obtain ⟨m0, hm0, hmask0⟩ := mask_i64 a 16 (by decide) 65535 (by decide)
  obtain ⟨j, hj, hmask1⟩ := mask_i64 b 3 (by decide) 7 (by decide)
  obtain ⟨n, hn⟩ : ∃ n, T.size = n := ⟨_, rfl⟩
  have hn2 : n ≤ 100000 := by omega
  obtain ⟨k, hk⟩ : ∃ k, m0 % (n + 1) = k := ⟨_, rfl⟩
  have hkn : k ≤ n := by have := Nat.mod_lt m0 (show 0 < n + 1 by omega); omega
  obtain ⟨m, hm1, hm2, hm3, hmi, hmn⟩ := min8 s.size 6
  have hmI : min (s.size : Int) 6 = m := by have := hmi.out; omega
  have hj8 : (j : Int) < 8 := by omega
  obtain ⟨q, hq⟩ : ∃ q, min (k + j) n = q := ⟨_, rfl⟩
  have hqn : q ≤ n := by omega
  have hkq : k ≤ q := by omega
  have hmQ : min ((k : Int) + j) n = q := by omega
  obtain ⟨T1, hT1⟩ : ∃ T1, T.extract 0 k = T1 := ⟨_, rfl⟩
  obtain ⟨S1, hS1⟩ : ∃ S1, s.extract 0 m = S1 := ⟨_, rfl⟩
  obtain ⟨T2, hT2⟩ : ∃ T2, T.extract q n = T2 := ⟨_, rfl⟩
  have hrem : (m0 : Int).tmod ((n : Int) + 1) = k := by rw [← hk]; norm_cast
  have t1s : T1.size = k := by rw [← hT1, ByteArray.size_extract]; omega
  have s1s : S1.size = m := by rw [← hS1, ByteArray.size_extract]; omega
  have t2s : T2.size = n - q := by rw [← hT2, ByteArray.size_extract]; omega
  obtain ⟨U1, hU1⟩ : ∃ U1, T1 ++ S1 = U1 := ⟨_, rfl⟩
  obtain ⟨U, hU⟩ : ∃ U, U1 ++ T2 = U := ⟨_, rfl⟩
  have u1s : U1.size = k + m := by rw [← hU1, ByteArray.size_append]; omega
  have us : U.size = k + m + (n - q) := by rw [← hU, ByteArray.size_append]; omega
  have qa : ¬ 9223372036854775807 < T1.size + S1.size := by omega
  have qb : ¬ 9223372036854775807 < U1.size + T2.size := by omega
  have hUl : lts (bl U) ≤ 32 := by
    have e : bl U = (bl T).take k ++ (bl s).take m ++ (bl T).drop q := by
      rw [← hU, ← hU1, bl_append, bl_append, ← hT1, ← hS1, ← hT2]
      have e1 : bl (T.extract 0 k) = (bl T).take k := by unfold bl; simp
      have e2 : bl (s.extract 0 m) = (bl s).take m := by unfold bl; simp
      have e3 : bl (T.extract q n) = (bl T).drop q := by rw [← hn]; exact bl_from T q
      rw [e1, e2, e3]
    rw [e]
    have := cut_lts (bl T) (bl s) k m q hkq hm2
    rw [← HTe.out, str_bl] at this ⊢
    omega
  have hpar := parse_ok (bl U) hUl
  have HPAR := Lib.hid hpar
  have HUs := Lib.hid (show U.size ≤ 4000000000 by omega)
  have kw : IntKind.i64.wrap ((k : Int) + j) = (k : Int) + j := IntWalk.i64_in _ (by omega)
  clear hb2 hN2 hT hm3 hmi hmn hTs t1s s1s t2s u1s us hpar hUl
  go_wp2_with fail
  go_quiet (fail)
  have hdr := below_drewN w2 nq
  have HB3 := Lib.hid (HB2.out.trans (hdr.mono HB2.out.size))
  have HPA := Lib.hid (dparse U (w2.drewN nq) (HE2.out.below hdr) (HT2.out.below hdr) HUs.out)
  have HE3 := Lib.hid (HE2.out.below hdr)
  have HT3 := Lib.hid (HT2.out.below hdr)
  clear hdr c0 c1 hmask0 hmask1 hmI hmQ hrem kw hT1 hS1 hT2 hU1 hU qa qb
  generalize w2.drewN nq = w3 at HB3 HPA HE3 HT3 ⊢
  go_wp2_with fail
  refine HPA.out.mono ?_
  rintro r w4 ⟨h1 | h1, hb4⟩
  · obtain ⟨e, p, hpe, rfl⟩ := h1
    have hok := HPAR.out
    rw [hpe] at hok
    obtain ⟨hp0, hp1, he⟩ := hok
    rw [bl_size] at hp1
    have hA := hb4.alloc hb4.size (.cells #[.string ⟨#[]⟩, .string ⟨#[]⟩, .slice none 0 0, .slice none 0 0, .string ⟨#[]⟩] 25)
    have hX := heap_alloc_new w4 (.cells #[.string ⟨#[]⟩, .string ⟨#[]⟩, .slice none 0 0, .slice none 0 0, .string ⟨#[]⟩] 25)
    have HA := Lib.hid hA
    have HX := Lib.hid hX
    have HXl := Lib.hid (show w4.heap.size < (w4.alloc (.cells #[.string ⟨#[]⟩, .string ⟨#[]⟩, .slice none 0 0, .slice none 0 0, .string ⟨#[]⟩] 25)).heap.size by simp)
    have CA := Lib.hid (awake06 _ (HE3.out.below hA) (HT3.out.below hA))
    clear hb4 hA hX HPA hpe
    rcases he with rfl | rfl | rfl | rfl
    all_goals
      go_wp2_with fail
      refine CA.out.mono ?_
      rintro r w5 ⟨rfl, hb5⟩
      have n1 := (hb5.cell (p := ⟨w4.heap.size, 1, none⟩) HXl.out).trans (Lib.cell_of_heap HX.out 1)
      simp only [List.getElem?_toArray, List.getElem?_cons_zero, List.getElem?_cons_succ] at n1
      have HB5 := Lib.hid (HB3.out.trans ((HA.out.trans (hb5.mono HA.out.size)).mono HB3.out.size))
      clear hb5 CA
      go_wp2_with fail
      go_ret
      exact ⟨rfl, HB5.out⟩
  · obtain ⟨x, v, hpx, rfl, hx⟩ := h1
    have hok := HPAR.out
    rw [hpx] at hok
    obtain ⟨hnm, hc1, hc2⟩ := hok
    obtain ⟨zsp, znm, ztx, ZA, ZK, za, zac, zk, zkc, zc, rfl, rfl, _⟩ := parts06 hx
    have hA := hb4.alloc hb4.size (.cells #[.string zsp, .string znm, .slice za ZA.length zac, .slice zk ZK.length zkc, .string ztx] 25)
    have hX := heap_alloc_new w4 (.cells #[.string zsp, .string znm, .slice za ZA.length zac, .slice zk ZK.length zkc, .string ztx] 25)
    have HA := Lib.hid hA
    have HX := Lib.hid hX
    have HXl := Lib.hid (show w4.heap.size < (w4.alloc (.cells #[.string zsp, .string znm, .slice za ZA.length zac, .slice zk ZK.length zkc, .string ztx] 25)).heap.size by simp)
    have CA := Lib.hid (awake06 _ (HE3.out.below hA) (HT3.out.below hA))
    have HNA := Lib.hid (hx.any ((Below.refl w4.heap.size w4).alloc (Nat.le_refl _) (.cells #[.string zsp, .string znm, .slice za ZA.length zac, .slice zk ZK.length zkc, .string ztx] 25)))
    have hnm' : nameL (bl znm) = true := hnm
    have hns : znm.size ≤ 60 := by
      have := hnm'
      unfold nameL at this
      rw [← bl_size]
      exact (of_decide_eq_true this).2.1
    have CN := fun wx => rname znm wx (by omega)
    rw [hnm'] at CN
    have CN := Lib.hid CN
    obtain ⟨ct, hct⟩ : ∃ ct, (Nd.mk zsp znm ZA ZK ztx).count = ct := ⟨_, rfl⟩
    rw [hct] at hc1 hc2
    have hc1' : (1 : Int) ≤ (ct : Int) := by omega
    have HCT := Lib.hid hct
    clear hb4 hA hX HPA hpx hnm hnm' hx hct
    go_wp2_with fail
    refine CA.out.mono ?_
    rintro r w5 ⟨rfl, hb5⟩
    have hX5 := (hb5.block _ HXl.out).trans HX.out
    have HN5 := Lib.hid (HNA.out.any hb5)
    have HB5 := Lib.hid (HB3.out.trans ((HA.out.trans (hb5.mono HA.out.size)).mono HB3.out.size))
    have n1 := Lib.cell_of_heap hX5 1
    simp only [List.getElem?_toArray, List.getElem?_cons_zero, List.getElem?_cons_succ] at n1
    have HX5 := Lib.hid hX5
    have HX5l := Lib.hid (show w4.heap.size < w5.heap.size from (Array.getElem?_eq_some_iff.1 hX5).1)
    clear hb5 CA hX5
    go_wp2_with fail
    refine (CN.out w5).mono ?_
    rintro r w6 ⟨rfl, hb6⟩
    have hX6 := (hb6.block _ HX5l.out).trans HX5.out
    have HN6 := Lib.hid (HN5.out.any hb6)
    have HB6 := Lib.hid (HB5.out.trans (hb6.mono HB5.out.size))
    have q0 := Lib.cell_of_heap hX6 0
    have q1 := Lib.cell_of_heap hX6 1
    have q2 := Lib.cell_of_heap hX6 2
    have q3 := Lib.cell_of_heap hX6 3
    have q4 := Lib.cell_of_heap hX6 4
    simp only [List.getElem?_toArray, List.getElem?_cons_zero, List.getElem?_cons_succ] at q0 q1 q2 q3 q4
    have CC := pcount _ _ _ w6 HN6.out (by rw [HCT.out]; omega)
    rw [HCT.out] at CC
    have CC := Lib.hid CC
    clear hb6 hX6 n1 CN
    go_wp2_with fail
    refine CC.out.mono ?_
    rintro r w7 ⟨rfl, hb7⟩
    have HB7 := Lib.hid (HB6.out.trans (hb7.mono HB6.out.size))
    clear hb7 CC
    go_wp2_with fail
    go_ret
    exact ⟨rfl, HB7.out⟩

end Go.Proofs.YtekmenkebokdoaaGreatDoor
