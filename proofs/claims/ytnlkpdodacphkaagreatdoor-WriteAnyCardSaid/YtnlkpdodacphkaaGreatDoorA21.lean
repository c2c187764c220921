/-
  A near element's text is tags and what is between them; how long the text of what is read is; plain mathematics.
  Whatever a text is, what Parse answers: an element with a name, or an error at one of the text's places; plain mathematics.
  The walk of galliardref06.Same, at two values of one element.
  What a near element's text, cut and put together with six bytes between, is read as may be written, and is read of it again; plain mathematics.
  An element that lies at a block, as the laws of layers 6 and 7 keep it.
  The walk of layer 7's awake.
-/
import Derived.Test.YtnlkpdodacphkaaGreatDoorA5
import Derived.Test.YtnlkpdodacphkaaGreatDoorA20
import Derived.Test.YtnlkpdodacphkaaGreatDoorA4
import Derived.Test.YtnlkpdodacphkaaGreatDoorA18
import Derived.BigQuiet
import Derived.Deep.QuietTactic
import Derived.Deep.RegionWith
import Derived.Deep.RegionHeld3
import Derived.Test.YtnlkpdodacphkaaGreatDoorA7
import Derived.Test.YtnlkpdodacphkaaGreatDoorA13
import Derived.Test.YtnlkpdodacphkaaGreatDoorA8
namespace Go.Proofs.YtnlkpdodacphkaaGreatDoor
open Go Go.RowKit Go.Lib
set_option maxRecDepth 100000

theorem ok_pln {n : List UInt8} (h : ∀ c ∈ n, okN c = true) : NoQ n ∧ ∀ c ∈ n, c ≠ 60 ∧ c ≠ 62 := by
  have key : ∀ c ∈ n, c ≠ 34 ∧ c ≠ 39 ∧ c ≠ 60 ∧ c ≠ 62 := fun c hc => by
    have h1 := h c hc
    unfold okN at h1
    rw [Bool.and_eq_true] at h1
    refine nb_pln ?_
    unfold nb
    rw [h1.1]; rfl
  exact ⟨fun c hc => ⟨(key c hc).1, (key c hc).2.1⟩, fun c hc => (key c hc).2.2⟩
theorem clB_no (c : UInt8) : ∀ x ∈ closeB c, x ≠ 60 ∧ x ≠ 62 := by
  have key : ∀ i : Fin 256, ∀ x ∈ closeB (UInt8.ofNat i.val), x ≠ 60 ∧ x ≠ 62 := by decide +kernel
  have := key ⟨c.toNat, UInt8.toNat_lt c⟩
  rw [show UInt8.ofNat c.toNat = c by simp] at this
  exact this
theorem cl_no (v : List UInt8) : Fl (closeL v) := fun x hx => by
  unfold closeL at hx
  obtain ⟨c, _, hc⟩ := List.mem_flatMap.1 hx
  exact clB_no c x hc
theorem ats_no : ∀ A : List (List UInt8 × List UInt8), (∀ a ∈ A, ∀ c ∈ a.1, c ≠ 60 ∧ c ≠ 62) → ∀ c ∈ atsT [32] A, c ≠ 60 ∧ c ≠ 62
  | [], _, _, h => by cases h
  | a :: A, h, c, hc => by
    rw [atsT_cons] at hc
    rcases List.mem_append.1 hc with hc | hc
    · rcases List.mem_append.1 hc with hc | hc
      · rcases List.mem_append.1 hc with hc | hc
        · rcases List.mem_cons.1 hc with rfl | hc
          · decide
          · exact h a (List.mem_cons_self ..) c hc
        · rw [List.mem_singleton.1 hc]; decide
      · rcases List.mem_cons.1 hc with rfl | hc
        · decide
        · rcases List.mem_append.1 hc with hc | hc
          · exact cl_no _ c hc
          · rw [List.mem_singleton.1 hc]; decide
    · exact ats_no A (fun x hx => h x (List.mem_cons_of_mem _ hx)) c hc
theorem tag_pln {s sp : ByteArray} {A : List Att} (hA : ∀ a ∈ A, AttB a) : ∀ a ∈ tagA s sp A, NoQ a.1 ∧ ∀ c ∈ a.1, c ≠ 60 ∧ c ≠ 62 := by
  intro a ha
  unfold tagA at ha
  rcases List.mem_append.1 ha with h | h
  · split at h
    · cases h
    · rw [List.mem_singleton.1 h]
      exact ⟨(by decide : ∀ c ∈ bXm, c ≠ 34 ∧ c ≠ 39), (by decide : ∀ c ∈ bXm, c ≠ 60 ∧ c ≠ 62)⟩
  · obtain ⟨y, hy, rfl⟩ := List.mem_map.1 h
    exact ok_pln (hA y hy).ok
theorem bd_tag {s sp : ByteArray} {n tl : List UInt8} {A : List Att} (hA : ∀ a ∈ A, AttB a) (hAl : A.length ≤ 3) (hs : (bl s).length ≤ 3) (hn : ∀ c ∈ n, okN c = true) (hnl : n.length ≤ 6) (ht : tl = [] ∨ tl = [47]) :
    Bd (n ++ (atsT [32] (tagA s sp A) ++ tl)) := by
  have h1 := atsT_few _ (tag_few (sp := sp) hs hA)
  have h2 := Nat.mul_le_mul_right 65 (tag_len4 s sp hAl)
  have ht1 : tl.length ≤ 1 := by rcases ht with rfl | rfl <;> decide
  refine bd_ats (fun a ha => (tag_pln hA a ha).1) (ats_no _ fun a ha => (tag_pln hA a ha).2) (tag_len4 s sp hAl) (ok_pln hn).1 (ok_pln hn).2 ?_ ?_ ?_
  · rcases ht with rfl | rfl <;> unfold NoQ <;> decide
  · rcases ht with rfl | rfl <;> decide
  · simp only [List.length_append]; omega
theorem bd_shut {n : List UInt8} (hn : ∀ c ∈ n, okN c = true) (hnl : n.length ≤ 6) : Bd (47 :: n) := by
  have h := ok_pln hn
  refine bd_plain (fun c hc => ?_) (fun c hc => ?_) (by simp; omega)
  · rcases List.mem_cons.1 hc with rfl | hc
    · decide
    · exact h.1 c hc
  · rcases List.mem_cons.1 hc with rfl | hc
    · decide
    · exact h.2 c hc
theorem Fl.pad {pad : List UInt8} (h : ∀ b ∈ pad, b = 32) : Fl (10 :: pad) := fun c hc => by
  rcases List.mem_cons.1 hc with rfl | hc
  · decide
  · rw [h c hc]; decide
theorem body_chs {d : Nat} {x : Nd} (h : NearB d x) : ∀ (sp : ByteArray) (pad f r : List UInt8), (∀ b ∈ pad, b = 32) → Fl f → Chs r → Chs (bodyT x sp pad ++ (f ++ r)) := by
  induction h with
  | mk d s n t A K hn hn2 hnl hs hsl ht htl htr hA hAd hAl hKt hKl hK ih =>
    intro sp pad f r hpad hf hr
    have hsh : Chs (60 :: (((47 :: bl n) ++ 62 :: f) ++ r)) := .cons _ _ _ (bd_shut hn2 hnl) hf hr
    rw [bodyT]
    split
    · split
      · have := Chs.cons _ _ _ (bd_tag (s := s) (sp := sp) (tl := [47]) hA hAl hsl hn2 hnl (.inr rfl)) hf hr
        simpa using this
      · have := Chs.cons _ _ _ (bd_tag (s := s) (sp := sp) (tl := []) hA hAl hsl hn2 hnl (.inl rfl)) (cl_no (bl t)) hsh
        simpa using this
    · have hp2 : ∀ b ∈ pad ++ [32], b = 32 := fun b hb => by
        rcases List.mem_append.1 hb with h | h
        · exact hpad b h
        · exact List.mem_singleton.1 h
      have key : ∀ K : List Nd, (∀ k ∈ K, ∀ (sp : ByteArray) (pad f r : List UInt8), (∀ b ∈ pad, b = 32) → Fl f → Chs r → Chs (bodyT k sp pad ++ (f ++ r))) →
          ∃ g z, kidsT K s (pad ++ [32]) ++ (10 :: (pad ++ (60 :: (((47 :: bl n) ++ 62 :: f) ++ r)))) = g ++ z ∧ Fl g ∧ Chs z := by
        intro K
        induction K with
        | nil =>
          intro _
          rw [kidsT]
          exact ⟨10 :: pad, _, by simp, Fl.pad hpad, hsh⟩
        | cons k K ihK =>
          intro hk
          obtain ⟨g, z, e, hg, hz⟩ := ihK fun y hy => hk y (List.mem_cons_of_mem _ hy)
          rw [kidsT]
          refine ⟨10 :: (pad ++ [32]), bodyT k s (pad ++ [32]) ++ (g ++ z), ?_, Fl.pad hp2, hk k (List.mem_cons_self ..) s _ g z hp2 hg hz⟩
          rw [← e]; simp
      obtain ⟨g, z, e, hg, hz⟩ := key K ih
      have := Chs.cons _ _ _ (bd_tag (s := s) (sp := sp) (tl := []) hA hAl hsl hn2 hnl (.inl rfl)) hg hz
      have e2 : ((bl n ++ (atsT [32] (tagA s sp A) ++ [])) ++ 62 :: g) ++ z = (bl n ++ atsT [32] (tagA s sp A)) ++ 62 :: (g ++ z) := by simp
      rw [e2, ← e] at this
      simpa using this
theorem text_chs {d : Nat} {x : Nd} (h : NearB d x) : Chs (textT x ⟨#[]⟩ []) := by
  have := body_chs h ⟨#[]⟩ [] [10] [] (fun _ h => by cases h) (by intro c hc; rw [List.mem_singleton.1 hc]; decide) .nil
  unfold textT
  simpa using this
/-! ### how long its text is -/
theorem atsT_mass : ∀ A : List (List UInt8 × List UInt8), (atsT [32] A).length ≤ 6 * massA A
  | [] => Nat.zero_le _
  | a :: A => by
    have ih := atsT_mass A
    have h := closeL_len a.2
    rw [atsT_cons, massA]
    simp only [List.length_append, List.length_cons, List.length_nil]
    omega
theorem massA_of : ∀ A : List Att, massA (A.map fun a => (bl a.1, bl a.2)) = massL A
  | [] => rfl
  | a :: A => by rw [List.map_cons, massA, massL, massA_of A]
theorem massA_app : ∀ A B : List (List UInt8 × List UInt8), massA (A ++ B) = massA A + massA B
  | [], B => by simp [massA]
  | a :: A, B => by rw [List.cons_append, massA, massA, massA_app A B]; omega
theorem tag_mass (s sp : ByteArray) (A : List Att) (hs : SpOk s) : massA (tagA s sp A) ≤ 715 + massL A := by
  unfold tagA
  rw [massA_app, massA_of]
  have h := hs.2
  split
  · rw [massA]; omega
  · have e : massA [(bXm, bl s)] = 5 + (bl s).length + 4 + 0 := rfl
    rw [e]
    omega
mutual
theorem body_mass : ∀ (x : Nd), GN x → ∀ (sp : ByteArray) (pad : List UInt8) (p : Nat), pad.length + x.depth ≤ p → (bodyT x sp pad).length + (1 + p) ≤ 6 * x.mass + x.count * (4300 + 2 * p)
  | .mk s n A K t, h, sp, pad, p, hp => by
    have hs : SpOk s := by cases h; assumption
    have hK : ∀ k ∈ K, GN k := by cases h; assumption
    have h1 := atsT_mass (tagA s sp A)
    have h2 := tag_mass s sp A hs
    have h3 := closeL_len (bl t)
    have h4 := kids_mass K hK s (pad ++ [32]) p (by rw [Nd.depth] at hp; rw [List.length_append, List.length_singleton]; omega)
    have h5 : pad.length ≤ p := by omega
    rw [bodyT, Nd.mass, Nd.count, Nat.add_mul]
    split
    · split
      · simp only [List.length_append, List.length_cons, List.length_nil]
        omega
      · simp only [List.length_append, List.length_cons, List.length_nil]
        omega
    · simp only [List.length_append, List.length_cons, List.length_nil]
      omega
theorem kids_mass : ∀ (K : List Nd), (∀ k ∈ K, GN k) → ∀ (s : ByteArray) (pad : List UInt8) (p : Nat), pad.length + depthK K ≤ p → (kidsT K s pad).length ≤ 6 * massK K + countK K * (4300 + 2 * p)
  | [], _, s, pad, p, _ => by rw [kidsT]; simp
  | k :: K, h, s, pad, p, hp => by
    rw [depthK] at hp
    have h1 := body_mass k (h k (List.mem_cons_self ..)) s pad p (by omega)
    have h2 := kids_mass K (fun y hy => h y (List.mem_cons_of_mem _ hy)) s pad p (by omega)
    rw [kidsT, massK, countK, Nat.add_mul]
    simp only [List.length_append, List.length_cons]
    omega
end

end Go.Proofs.YtnlkpdodacphkaaGreatDoor
namespace Go.Proofs.YtnlkpdodacphkaaGreatDoor
open Go Go.RowKit Go.Lib
set_option maxRecDepth 100000

def Nd.name : Nd → ByteArray
  | .mk _ n _ _ _ => n
/-- An error that may be, at a place that may be. -/
def badOk (n : Nat) (e a : Int) : Prop := 0 ≤ a ∧ a ≤ n ∧ (e = 2 ∨ e = 3 ∨ e = 5 ∨ e = 7)
def resOk (n : Nat) : Res Nd → Prop
  | .bad e a => badOk n e a
  | .ok x => nameL (bl x.name) = true ∧ 1 ≤ x.count ∧ x.count ≤ 32
theorem lts_drop {D : List UInt8} {p q : Nat} (h : p ≤ q) : lts (D.drop q) ≤ lts (D.drop p) := by
  have e : D.drop q = (D.drop p).drop (q - p) := by rw [List.drop_drop]; congr 1; omega
  rw [e]
  exact (List.drop_sublist _ _).count_le 60
theorem rawS_kind (D : List UInt8) (σ : St) : ¬ opens (rawS D σ).1 := by rintro (h | h) <;> exact absurd (show (4 : Int) = _ from h) (by decide)
theorem textS_kind (D : List UInt8) (σ : St) : ¬ opens (textS D σ).1 := by rintro (h | h) <;> exact absurd (show (4 : Int) = _ from h) (by decide)
theorem closingS_kind (D : List UInt8) (σ : St) : ¬ opens (closingS D σ).1 := by rintro (h | h) <;> exact absurd (show (2 : Int) = _ from h) (by decide)
theorem pc0_kind : ¬ opens pc0 := by rintro (h | h) <;> exact absurd (show (0 : Int) = _ from h) (by decide)
/-- Where an element begins there is a <. -/
theorem open_lt {D : List UInt8} {σ : St} (hs : Scn D.length σ) (h : opens (nextP D σ)) : lts (D.drop (nextS D σ).pos) + 1 ≤ lts (D.drop σ.pos) := by
  have hk : (nextP D σ).kind ≠ 0 := by rcases h with h | h <;> rw [h] <;> decide
  have hp := (next_scn D σ hs).2.2 hk
  have key : (nextP D σ).at_ = (passAllS D σ).pos ∧ ∃ r, D.drop (passAllS D σ).pos = 60 :: r := by
    unfold nextP at h ⊢
    split
    · rename_i hc
      rw [if_pos hc] at h
      split
      · rename_i he
        rw [if_pos he] at h
        refine ⟨rfl, ?_⟩
        have ho : opens (pieceR D (passAllS D σ)).1 := h
        unfold pieceR at ho
        split at ho
        · exact absurd ho (rawS_kind _ _)
        split at ho
        · exact absurd ho (closingS_kind _ _)
        split at ho
        · rename_i hst
          obtain ⟨r, hr⟩ := List.isPrefixOf_iff_prefix.1 hst
          exact ⟨r, hr.symm⟩
        · exact absurd ho (textS_kind _ _)
      · rename_i he; rw [if_neg he] at h; exact absurd h pc0_kind
    · rename_i hc; rw [if_neg hc] at h; exact absurd h pc0_kind
  obtain ⟨ha, r, hr⟩ := key
  rw [ha] at hp
  have h1 := lts_drop (D := D) (p := σ.pos) (q := (passAllS D σ).pos) (by omega)
  have h2 := lts_drop (D := D) (p := (passAllS D σ).pos + 1) (q := (nextS D σ).pos) (by omega)
  have h3 : D.drop ((passAllS D σ).pos + 1) = r := by
    rw [← List.drop_drop, hr]; rfl
  rw [h3] at h2
  rw [hr, lts_60] at h1
  omega
structure FrOk (n : Nat) (F : Fr) : Prop where
  lo : 0 ≤ F.at_
  hi : F.at_ ≤ n
  nm : nameL (bl F.nm) = true
def MOk (n : Nat) : Mach → Prop
  | (.before, _, _) => True
  | (.inside F S, _, _) => FrOk n F ∧ ∀ G ∈ S, FrOk n G
  | (.behind x, _, _) => nameL (bl x.name) = true
/-- How many elements there are in those that are open, with themselves. -/
def cntS : List Fr → Nat
  | [] => 0
  | F :: S => 1 + countK F.K + cntS S
theorem cntS_len : ∀ S : List Fr, S.length ≤ cntS S
  | [] => Nat.le_refl _
  | F :: S => by have := cntS_len S; rw [List.length_cons, cntS]; omega
def openN : Mach → Nat
  | (.before, _, _) => 0
  | (.inside F S, _, _) => cntS (F :: S)
  | (.behind x, _, _) => x.count
def StOk (n k : Nat) : Res Mach → Prop
  | .bad e a => badOk n e a
  | .ok m => MOk n m ∧ openN m ≤ k
theorem split_name {l : List UInt8} (h : (splitL l).2.2 = true) : nameL (splitL l).2.1 = true := by
  revert h
  unfold splitL
  split <;> simp_all
theorem name_name {L : List Tell} {s : ByteArray} (h : (nameSp L s).2.2 = true) : nameL (bl (nameSp L s).2.1) = true := by
  revert h
  unfold nameSp nameZ
  split
  · intro h; cases h
  · rename_i hc
    split
    · intro h; cases h
    · intro _
      show nameL (bl (str _)) = true
      rw [str_bl]
      exact split_name (by simpa using hc)
theorem give_ok {n : Nat} {x : Nd} {S : List Fr} {L : List Tell} {c : Nat} (hx : nameL (bl x.name) = true) (hS : ∀ G ∈ S, FrOk n G) : MOk n (give x S, L, c) ∧ openN (give x S, L, c) = cntS S + x.count := by
  cases S with
  | nil => exact ⟨hx, by show x.count = 0 + x.count; omega⟩
  | cons F S =>
    have hF := hS F (List.mem_cons_self ..)
    exact ⟨⟨⟨hF.lo, hF.hi, hF.nm⟩, fun G hG => hS G (List.mem_cons_of_mem _ hG)⟩, by
      show 1 + countK (F.K ++ [x]) + cntS S = 1 + countK F.K + cntS S + x.count
      rw [countK_app, countK, countK]; omega⟩
def EnOk (n : Nat) : Res (Fr × List Tell) → Prop
  | .bad e a => badOk n e a
  | .ok E => FrOk n E.1 ∧ E.1.K = []
theorem enter_ok {n : Nat} {p : Pc} {d : Nat} {L : List Tell} {c : Nat} (hp : 0 ≤ p.at_ ∧ p.at_ ≤ n) (hd : d < 32) : EnOk n (enterR p d L c) := by
  have h3 : badOk n 3 p.at_ := ⟨hp.1, hp.2, .inr (.inl rfl)⟩
  unfold enterR
  by_cases hc : c < 2000
  · rw [if_pos hc, if_pos hd]
    have hg := enterL_grow (d + 1) (toAtt p.attrs) [] L
    generalize enterL (d + 1) (toAtt p.attrs) [] L = Z at hg ⊢
    have hN := name_name (L := Z.2.2) (s := str p.name)
    generalize nameSp Z.2.2 (str p.name) = N at hN ⊢
    unfold enterC
    by_cases h0 : Z.2.1 = 0
    · rw [if_pos h0]
      by_cases h1 : N.2.2 = true
      · rw [if_pos h1]
        by_cases h2 : attsOk Z.1 = true
        · rw [if_pos h2]; exact ⟨⟨hp.1, hp.2, hN h1⟩, rfl⟩
        · rw [if_neg h2]; exact h3
      · rw [if_neg h1]; exact h3
    · rw [if_neg h0]
      refine ⟨hp.1, hp.2, ?_⟩
      rcases hg with h | h | h
      · exact absurd h h0
      · exact .inr (.inl h)
      · exact .inr (.inr (.inl h))
  · rw [if_neg hc]; exact ⟨hp.1, hp.2, .inr (.inr (.inl rfl))⟩
theorem opn_any {n : Nat} {p : Pc} {S : List Fr} {L : List Tell} {c : Nat} (hp : 0 ≤ p.at_ ∧ p.at_ ≤ n) (hS : ∀ G ∈ S, FrOk n G) (hd : S.length < 32) : StOk n (cntS S + 1) (opn p S L c) := by
  have h := enter_ok (L := L) (c := c) hp hd
  unfold opn
  cases hr : enterR p S.length L c with
  | bad e a => rw [hr] at h; exact h
  | ok E =>
    rw [hr] at h
    show StOk n (cntS S + 1) (if p.kind = 1 then _ else _)
    by_cases hk : p.kind = 1
    · rw [if_pos hk]
      refine ⟨⟨h.1, hS⟩, ?_⟩
      show 1 + countK E.1.K + cntS S ≤ _
      rw [h.2, countK]; omega
    · rw [if_neg hk]
      have hg := give_ok (n := n) (x := .mk E.1.sp E.1.nm E.1.A [] (str [])) (S := S) (L := L) (c := c + 1) h.1.nm hS
      exact ⟨hg.1, by rw [hg.2, Nd.count, countK]; omega⟩
theorem step_ok {n : Nat} {p : Pc} {m : Mach} (hp : 0 ≤ p.at_ ∧ p.at_ ≤ n) (hm : MOk n m) (hd : opens p → openN m < 32) (k : Nat) (hk : openN m + (if opens p then 1 else 0) = k) : StOk n k (step p m) := by
  have hbad : badOk n 3 p.at_ := ⟨hp.1, hp.2, .inr (.inl rfl)⟩
  obtain ⟨ph, L, c⟩ := m
  cases ph with
  | before =>
    show StOk n k (if blankP p then _ else if opens p then _ else _)
    by_cases hb : blankP p
    · rw [if_pos hb]; exact ⟨trivial, Nat.zero_le _⟩
    rw [if_neg hb]
    by_cases ho : opens p
    · rw [if_pos ho] at hk ⊢
      rw [← hk]
      exact opn_any (S := []) hp (fun G h => by cases h) (by decide)
    · rw [if_neg ho]; exact hbad
  | behind x =>
    show StOk n k (if blankP p then _ else _)
    by_cases hb : blankP p
    · rw [if_pos hb]; exact ⟨hm, by rw [← hk]; exact Nat.le_add_right _ _⟩
    · rw [if_neg hb]; exact hbad
  | inside F S =>
    rw [step_in]
    obtain ⟨hF, hS⟩ := hm
    have hFS : ∀ G ∈ F :: S, FrOk n G := fun G hG => by
      rcases List.mem_cons.1 hG with rfl | h
      · exact hF
      · exact hS G h
    have hlen : openN (.inside F S, L, c) = 1 + countK F.K + cntS S := rfl
    rw [hlen] at hk hd
    by_cases h2 : p.kind = 2
    · rw [if_pos h2]
      by_cases ht : p.name = F.tag
      · rw [if_pos ht]
        unfold shut
        by_cases hs : trimL F.tx = [] ∨ F.K = []
        · rw [if_pos hs]
          have hg := give_ok (n := n) (x := .mk F.sp F.nm F.A F.K (str (trimL F.tx))) (S := S) (L := F.L) (c := c) hF.nm hS
          exact ⟨hg.1, by rw [hg.2, Nd.count]; omega⟩
        · rw [if_neg hs]; exact ⟨hF.lo, hF.hi, .inr (.inl rfl)⟩
      · rw [if_neg ht]; exact hbad
    rw [if_neg h2]
    by_cases ho : opens p
    · rw [if_pos ho] at hk ⊢
      rw [← hk]
      have hl := cntS_len S
      have hd' := hd ho
      exact opn_any (S := F :: S) hp hFS (by rw [List.length_cons]; omega)
    · rw [if_neg ho] at hk ⊢
      exact ⟨⟨⟨hF.lo, hF.hi, hF.nm⟩, hS⟩, by rw [← hk]; exact Nat.le_refl _⟩
theorem run_ok (D : List UInt8) : ∀ (k : Nat) (σ : St) (m : Mach), D.length - σ.pos < k → Scn D.length σ → MOk D.length m → openN m + lts (D.drop σ.pos) ≤ 32 → resOk D.length (runAt D σ m)
  | 0, _, _, h, _, _, _ => absurd h (Nat.not_lt_zero _)
  | k + 1, σ, m, hk, hs, hm, hd => by
    have hn := next_scn D σ hs
    by_cases h0 : (nextS D σ).err = 0
    · by_cases h1 : (nextP D σ).kind = 0
      · unfold runAt
        rw [toks_fin h0 h1]
        obtain ⟨ph, L, c⟩ := m
        cases ph with
        | before => exact ⟨Int.le_refl _, by show (0 : Int) ≤ _; omega, .inr (.inl rfl)⟩
        | inside F S => exact ⟨by show (0 : Int) ≤ _; omega, by have := hn.1.pos; show ((nextS D σ).pos : Int) ≤ _; omega, .inr (.inl rfl)⟩
        | behind x => exact ⟨hm, by rw [count_kids x]; omega, by have : x.count + lts (D.drop σ.pos) ≤ 32 := hd; omega⟩
      · rw [runAt_pc hs h0 h1]
        have hp := hn.2.2 h1
        have hpos := hn.1.pos
        have hle := lts_drop (D := D) (p := σ.pos) (q := (nextS D σ).pos) (by omega)
        have hst := step_ok (n := D.length) (p := nextP D σ) (m := m) ⟨by omega, by omega⟩ hm (fun ho => by have := open_lt hs ho; omega) _ rfl
        cases hr : step (nextP D σ) m with
        | bad e a => rw [hr] at hst; exact hst
        | ok m' =>
          rw [hr] at hst
          refine run_ok D k (nextS D σ) m' (by omega) hn.1 hst.1 ?_
          have h2 := hst.2
          by_cases ho : opens (nextP D σ)
          · rw [if_pos ho] at h2
            have := open_lt hs ho
            omega
          · rw [if_neg ho] at h2
            omega
    · rw [runAt_bad h0]
      refine ⟨hn.1.wrg.1, hn.1.wrg.2, ?_⟩
      rcases hn.1.err_or with h | h | h | h | h
      · exact absurd h h0
      · exact .inl h
      · exact .inr (.inl h)
      · exact .inr (.inr (.inl h))
      · exact .inr (.inr (.inr h))
/-- Whatever a text is, if no more than 32 of its bytes are <. -/
theorem parse_ok (D : List UInt8) (h : lts D ≤ 32) : resOk D.length (parseL D) :=
  run_ok D (D.length + 1) (newS D) _ (by omega) (new_scn D) trivial (by
    have := lts_drop (D := D) (p := 0) (q := (newS D).pos) (Nat.zero_le _)
    rw [List.drop_zero] at this
    show 0 + _ ≤ 32
    omega)

end Go.Proofs.YtnlkpdodacphkaaGreatDoor

namespace Go.Proofs.YtnlkpdodacphkaaGreatDoor
open Go Go.RowKit Go.Lib
set_option maxRecDepth 100000

theorem text_size {d : Nat} {y : Nd} (h : NearB d y) : (textT y ⟨#[]⟩ []).length ≤ lenB d 0 + 1 := by
  have := h.len ⟨#[]⟩ []
  unfold textT
  simp only [List.length_append, List.length_nil, List.length_singleton]
  simp only [List.length_nil] at this
  omega
theorem text_lts {d : Nat} {y : Nd} (h : NearB d y) : lts (textT y ⟨#[]⟩ []) ≤ 2 * cntB d := by
  have h1 := h.few ⟨#[]⟩ [] (fun b hb => by cases hb)
  have h2 := h.count
  have e : lts (textT y ⟨#[]⟩ []) = lts (bodyT y ⟨#[]⟩ []) := by
    unfold textT
    rw [List.nil_append, lts_app]
    rfl
  omega
theorem lts_le (l : List UInt8) : lts l ≤ l.length := List.count_le_length
theorem cut_lts (t s : List UInt8) (k m e : Nat) (hk : k ≤ e) (hm : m ≤ 6) : lts (t.take k ++ s.take m ++ t.drop e) ≤ lts t + 6 := by
  have h1 : lts t = lts (t.take k) + lts (t.drop k) := by rw [← lts_app, List.take_append_drop]
  have h2 := lts_drop (D := t) hk
  have h3 := lts_le (s.take m)
  rw [List.length_take] at h3
  rw [lts_app, lts_app]
  omega

end Go.Proofs.YtnlkpdodacphkaaGreatDoor
namespace Go.Proofs.YtnlkpdodacphkaaGreatDoor
open Go Go.RowKit Go.Lib
set_option maxRecDepth 100000

mutual
/-- No element has too many attributes. -/
def Nd.few : Nd → Prop
  | .mk _ _ A K _ => A.length ≤ 100000 ∧ fewK K
def fewK : List Nd → Prop
  | [] => True
  | x :: r => x.few ∧ fewK r
end
theorem few_kid : ∀ {K : List Nd} {k : Nd}, fewK K → k ∈ K → k.few
  | x :: K, k, h, hk => by
    rw [fewK] at h
    rcases List.mem_cons.1 hk with rfl | hk
    · exact h.1
    · exact few_kid h.2 hk
def SameSpec (d : Nat) : Prop := ∀ (x : Nd) (va vb : Value) (w : World), NodeV (fun _ => True) w va x → NodeV (fun _ => True) w vb x → x.depth ≤ d → x.count ≤ 100000 → x.few →
  Calls Tryz.prog 13 #[va, vb] w fun e w' => e = .returned (.bool true) ∧ Below w.heap.size w w'
/-- Two lists of attributes that are one. -/
theorem parts_at {P : Nat → Prop} {w : World} {v : Value} {s n t : ByteArray} {A : List Att} {K : List Nd} (h : NodeV P w v (.mk s n A K t)) : ∃ (a1 : Option Addr) (c1 : Nat) (a2 : Option Addr) (c2 : Nat) (c : Nat → Nat → Value),
    v = .agg #[.string s, .string n, .slice a1 A.length c1, .slice a2 K.length c2, .string t] ∧
    (0 < A.length → ∃ g o, a1 = some ⟨g, o, none⟩ ∧ P g ∧ g < w.heap.size ∧ ∀ j (h : j < A.length), w.cell? ⟨g, o + j * 2, none⟩ = some (.string (A[j]'h).1) ∧ w.cell? ⟨g, o + j * 2 + 1, none⟩ = some (.string (A[j]'h).2)) ∧
    (0 < K.length → ∃ g o, a2 = some ⟨g, o, none⟩ ∧ P g ∧ g < w.heap.size ∧ ∀ j, j < K.length → ∀ q, q < 5 → w.cell? ⟨g, o + j * 5 + q, none⟩ = some (c j q)) ∧
    (∀ j (h : j < K.length), NodeV P w (.agg #[c j 0, c j 1, c j 2, c j 3, c j 4]) (K[j]'h)) := by
  obtain ⟨sp, nm, tx, A', K', a1, c1, a2, c2, c, hv, hx, h1, h2, h3⟩ := parts06 h
  injection hx with e1 e2 e3 e4 e5
  subst e1 e2 e3 e4 e5
  exact ⟨a1, c1, a2, c2, c, hv, h1, h2, h3⟩
set_option maxHeartbeats 8000000 in
theorem same_one (d : Nat) (hIH : SameSpec d) : SameSpec (d + 1) := by
  intro x va vb w hva hvb hd hc hf
  obtain ⟨s, n, A, K, t⟩ := x
  have hcnt : (Nd.mk s n A K t).count = 1 + countK K := by rw [Nd.count]
  have hdep : (Nd.mk s n A K t).depth = 1 + depthK K := by rw [Nd.depth]
  rw [hcnt] at hc
  rw [hdep] at hd
  obtain ⟨xa, xac, xk, xkc, xc, rfl, hxa, hxk, hxn⟩ := parts_at hva
  obtain ⟨ya, yac, yk, ykc, yc, rfl, hya, hyk, hyn⟩ := parts_at hvb
  have hA1 := (Below.refl w.heap.size w).alloc (Nat.le_refl _) (.cells #[.string s, .string n, .slice xa A.length xac, .slice xk K.length xkc, .string t] 25)
  have hA2 := hA1.alloc (by simp) (.cells #[.string s, .string n, .slice ya A.length yac, .slice yk K.length ykc, .string t] 25)
  have hX0 := (Below.heap_alloc (w.alloc (.cells #[.string s, .string n, .slice xa A.length xac, .slice xk K.length xkc, .string t] 25)) (.cells #[.string s, .string n, .slice ya A.length yac, .slice yk K.length ykc, .string t] 25) w.heap.size (by simp)).trans (heap_alloc_new w _)
  have hY0 := heap_alloc_new (w.alloc (.cells #[.string s, .string n, .slice xa A.length xac, .slice xk K.length xkc, .string t] 25)) (.cells #[.string s, .string n, .slice ya A.length yac, .slice yk K.length ykc, .string t] 25)
  rw [World.size_alloc] at hY0
  obtain ⟨w0, hw0⟩ : ∃ w0, (w.alloc (.cells #[.string s, .string n, .slice xa A.length xac, .slice xk K.length xkc, .string t] 25)).alloc (.cells #[.string s, .string n, .slice ya A.length yac, .slice yk K.length ykc, .string t] 25) = w0 := ⟨_, rfl⟩
  rw [hw0] at hA2 hX0 hY0
  have HA2 := Lib.hid hA2
  have HX0 := Lib.hid hX0
  have HY0 := Lib.hid hY0
  have HIH := Lib.hid hIH
  have HXA := Lib.hid hxa
  have HXK := Lib.hid hxk
  have HXN := Lib.hid hxn
  have HYA := Lib.hid hya
  have HYK := Lib.hid hyk
  have HYN := Lib.hid hyn
  have HD := Lib.hid hd
  have HC := Lib.hid hc
  rw [Nd.few] at hf
  have HAl := Lib.hid hf.1
  have HFK := Lib.hid hf.2
  obtain ⟨Q, hQ⟩ : ∃ Q, w.heap.size = Q := ⟨_, rfl⟩
  have HQ := Lib.hid hQ
  have x0 := Lib.cell_of_heap hX0 0
  have x1 := Lib.cell_of_heap hX0 1
  have x2 := Lib.cell_of_heap hX0 2
  have x3 := Lib.cell_of_heap hX0 3
  have x4 := Lib.cell_of_heap hX0 4
  have y0 := Lib.cell_of_heap hY0 0
  have y1 := Lib.cell_of_heap hY0 1
  have y2 := Lib.cell_of_heap hY0 2
  have y3 := Lib.cell_of_heap hY0 3
  have y4 := Lib.cell_of_heap hY0 4
  simp only [List.getElem?_toArray, List.getElem?_cons_zero, List.getElem?_cons_succ] at x0 x1 x2 x3 x4 y0 y1 y2 y3 y4
  rw [hQ] at x0 x1 x2 x3 x4 y0 y1 y2 y3 y4
  have hq0 : Q + 1 < w0.heap.size := by rw [← hQ]; exact (Array.getElem?_eq_some_iff.1 hY0).1
  have HQ0 := Lib.hid hq0
  clear hf hA1 hA2 hX0 hY0 hIH hxa hxk hxn hya hyk hyn hva hvb hd hcnt hdep hc hq0
  go_enter Tryz.func13, Tryz.ntmps13
  go_wp2_with fail
  clear x0 x1 x2 x3 x4 y0 y1 y2 y3 y4
  go_loopg [5] A.length (fun g i wr => ∃ j, g + j = A.length ∧ i = .int .i64 (j : Nat) ∧ Below w0.heap.size w0 wr)
  case atStart => exact ⟨0, by omega, rfl, Below.refl _ _⟩
  case round =>
    obtain ⟨j, hg, rfl, hbr⟩ := hrel
    have hX := (hbr.block _ (by have := HQ0.out; have := HQ.out; omega)).trans HX0.out
    have hY := (hbr.block _ (by have := HQ0.out; have := HQ.out; omega)).trans HY0.out
    rw [HQ.out] at hX hY
    have x2 := Lib.cell_of_heap hX 2
    have x3 := Lib.cell_of_heap hX 3
    have y2 := Lib.cell_of_heap hY 2
    simp only [List.getElem?_toArray, List.getElem?_cons_zero, List.getElem?_cons_succ] at x2 x3 y2
    have hsw : w.heap.size ≤ w0.heap.size := by have := HQ0.out; have := HQ.out; omega
    have hbw := HA2.out.trans (hbr.mono hsw)
    have HBR := Lib.hid hbr
    have HBW := Lib.hid hbw
    have hAl : A.length ≤ 100000 := HAl.out
    by_cases hj : j < A.length
    · have hj' : (j : Int) < (A.length : Int) := by omega
      obtain ⟨g0, o0, rfl, _, hg0, hac⟩ := HXA.out (by omega)
      obtain ⟨g1, o1, rfl, _, hg1, hbc⟩ := HYA.out (by omega)
      obtain ⟨c0, c1⟩ := hac j hj
      obtain ⟨d0, d1⟩ := hbc j hj
      obtain ⟨⟨an, av⟩, hav⟩ : ∃ y, A[j]'hj = y := ⟨_, rfl⟩
      rw [hav] at c0 c1 d0 d1
      have a0 := (hbw.cell (p := ⟨g0, o0 + j * 2, none⟩) hg0).trans c0
      have a1 := (hbw.cell (p := ⟨g0, o0 + j * 2 + 1, none⟩) hg0).trans c1
      have b0 := (hbw.cell (p := ⟨g1, o1 + j * 2, none⟩) hg1).trans d0
      have b1 := (hbw.cell (p := ⟨g1, o1 + j * 2 + 1, none⟩) hg1).trans d1
      have hjw : IntKind.i64.wrap ((j : Int) + 1) = (j : Int) + 1 := IntWalk.i64_in _ (by omega)
      have hjl : (j : Int) < 100000 := by omega
      clear hX hY hbr hbw c0 c1 d0 d1 hac hbc hav
      go_wp2_with fail
      go_quiet (fail)
      go_wp2_with fail
      go_roundg (A.length - (j + 1))
      case measure => omega
      case rel => exact ⟨j + 1, by omega, by go_num, HBR.out.trans ((below_drewN _ _).mono HBR.out.size)⟩
    · have hj' : ¬ (j : Int) < (A.length : Int) := by omega
      have hKl : K.length ≤ 100000 := by have : K.length ≤ countK K := len_count K; have := HC.out; omega
      have HKl := Lib.hid hKl
      have HX1 := Lib.hid hX
      have HY1 := Lib.hid hY
      clear hX hY hbr hbw y2 hKl
      go_wp2_with fail
      go_loopg [6] K.length (fun g i wx => ∃ j, g + j = K.length ∧ i = .int .i64 (j : Nat) ∧ Below wr.heap.size wr wx)
      case atStart => exact ⟨0, by omega, rfl, Below.refl _ _⟩
      case round =>
        obtain ⟨q, hg, rfl, hbx⟩ := hrel
        have hq1 := (Array.getElem?_eq_some_iff.1 HY1.out).1
        have hX := (hbx.block _ (by omega)).trans HX1.out
        have hY := (hbx.block _ hq1).trans HY1.out
        have x3 := Lib.cell_of_heap hX 3
        have y3 := Lib.cell_of_heap hY 3
        simp only [List.getElem?_toArray, List.getElem?_cons_zero, List.getElem?_cons_succ] at x3 y3
        have hbw := HBW.out.trans (hbx.mono HBW.out.size)
        have HBX := Lib.hid hbx
        by_cases hk : q < K.length
        · have hk' : (q : Int) < (K.length : Int) := by omega
          obtain ⟨g2, o2, rfl, _, hg2, hkc⟩ := HXK.out (by omega)
          obtain ⟨g3, o3, rfl, _, hg3, hlc⟩ := HYK.out (by omega)
          have k0 := (hbw.cell (p := ⟨g2, o2 + q * 5 + 0, none⟩) hg2).trans (hkc q hk 0 (by decide))
          have k1 := (hbw.cell (p := ⟨g2, o2 + q * 5 + 1, none⟩) hg2).trans (hkc q hk 1 (by decide))
          have k2 := (hbw.cell (p := ⟨g2, o2 + q * 5 + 2, none⟩) hg2).trans (hkc q hk 2 (by decide))
          have k3 := (hbw.cell (p := ⟨g2, o2 + q * 5 + 3, none⟩) hg2).trans (hkc q hk 3 (by decide))
          have k4 := (hbw.cell (p := ⟨g2, o2 + q * 5 + 4, none⟩) hg2).trans (hkc q hk 4 (by decide))
          have l0 := (hbw.cell (p := ⟨g3, o3 + q * 5 + 0, none⟩) hg3).trans (hlc q hk 0 (by decide))
          have l1 := (hbw.cell (p := ⟨g3, o3 + q * 5 + 1, none⟩) hg3).trans (hlc q hk 1 (by decide))
          have l2 := (hbw.cell (p := ⟨g3, o3 + q * 5 + 2, none⟩) hg3).trans (hlc q hk 2 (by decide))
          have l3 := (hbw.cell (p := ⟨g3, o3 + q * 5 + 3, none⟩) hg3).trans (hlc q hk 3 (by decide))
          have l4 := (hbw.cell (p := ⟨g3, o3 + q * 5 + 4, none⟩) hg3).trans (hlc q hk 4 (by decide))
          rw [Nat.add_zero] at k0 l0
          have hmem := List.getElem_mem hk
          have CS := Lib.hid (fun (wy : World) (hb : Below wr.heap.size wr wy) => HIH.out (K[q]'hk) (.agg #[xc q 0, xc q 1, xc q 2, xc q 3, xc q 4]) (.agg #[yc q 0, yc q 1, yc q 2, yc q 3, yc q 4]) wy
            ((HXN.out q hk).to (Nat.le_trans hbw.size hb.size) fun g _ hg => ⟨trivial, (hb.block g (Nat.lt_of_lt_of_le hg hbw.size)).trans (hbw.block g hg)⟩)
            ((HYN.out q hk).to (Nat.le_trans hbw.size hb.size) fun g _ hg => ⟨trivial, (hb.block g (Nat.lt_of_lt_of_le hg hbw.size)).trans (hbw.block g hg)⟩)
            (by have := depth_kid hmem; have := HD.out; omega) (by have := count_kid hmem; have := HC.out; omega) (few_kid HFK.out hmem))
          have hql : (q : Int) < 100000 := by have := HKl.out; omega
          have HQL := Lib.hid (show Q < wr.heap.size ∧ Q + 1 < wr.heap.size ∧ g2 < wr.heap.size ∧ g3 < wr.heap.size from ⟨(Array.getElem?_eq_some_iff.1 hX).1, (Array.getElem?_eq_some_iff.1 hY).1, Nat.lt_of_lt_of_le hg2 hbw.size, Nat.lt_of_lt_of_le hg3 hbw.size⟩)
          clear hX hY hbx hbw hkc hlc hmem hq1
          go_wp2_with fail
          have CS2 := Lib.hid (fun (wy : World) (hb : Below wr.heap.size wr wy) => (CS.out wy hb).mono (fun e w' (h : _ ∧ Below wy.heap.size wy w') => (show e = .returned (.bool true) ∧ Hid (Below wr.heap.size wr w') ∧ (w'.cell? ⟨Q, 3, none⟩ = some (.slice (some ⟨g2, o2, none⟩) K.length xkc) ∧ w'.cell? ⟨Q + 1, 3, none⟩ = some (.slice (some ⟨g3, o3, none⟩) K.length ykc) ∧ w'.cell? ⟨g2, o2 + q * 5, none⟩ = some (xc q 0) ∧ w'.cell? ⟨g2, o2 + q * 5 + 1, none⟩ = some (xc q 1) ∧ w'.cell? ⟨g2, o2 + q * 5 + 2, none⟩ = some (xc q 2) ∧ w'.cell? ⟨g2, o2 + q * 5 + 3, none⟩ = some (xc q 3) ∧ w'.cell? ⟨g2, o2 + q * 5 + 4, none⟩ = some (xc q 4) ∧ w'.cell? ⟨g3, o3 + q * 5, none⟩ = some (yc q 0) ∧ w'.cell? ⟨g3, o3 + q * 5 + 1, none⟩ = some (yc q 1) ∧ w'.cell? ⟨g3, o3 + q * 5 + 2, none⟩ = some (yc q 2) ∧ w'.cell? ⟨g3, o3 + q * 5 + 3, none⟩ = some (yc q 3) ∧ w'.cell? ⟨g3, o3 + q * 5 + 4, none⟩ = some (yc q 4)) from by
            have hz := hb.trans (h.2.mono hb.size)
            exact ⟨h.1, Lib.hid hz, (hz.cell (p := ⟨Q, 3, none⟩) HQL.out.1).trans x3, (hz.cell (p := ⟨Q + 1, 3, none⟩) HQL.out.2.1).trans y3,
              (hz.cell (p := ⟨g2, o2 + q * 5, none⟩) HQL.out.2.2.1).trans k0, (hz.cell (p := ⟨g2, o2 + q * 5 + 1, none⟩) HQL.out.2.2.1).trans k1, (hz.cell (p := ⟨g2, o2 + q * 5 + 2, none⟩) HQL.out.2.2.1).trans k2, (hz.cell (p := ⟨g2, o2 + q * 5 + 3, none⟩) HQL.out.2.2.1).trans k3, (hz.cell (p := ⟨g2, o2 + q * 5 + 4, none⟩) HQL.out.2.2.1).trans k4,
              (hz.cell (p := ⟨g3, o3 + q * 5, none⟩) HQL.out.2.2.2).trans l0, (hz.cell (p := ⟨g3, o3 + q * 5 + 1, none⟩) HQL.out.2.2.2).trans l1, (hz.cell (p := ⟨g3, o3 + q * 5 + 2, none⟩) HQL.out.2.2.2).trans l2, (hz.cell (p := ⟨g3, o3 + q * 5 + 3, none⟩) HQL.out.2.2.2).trans l3, (hz.cell (p := ⟨g3, o3 + q * 5 + 4, none⟩) HQL.out.2.2.2).trans l4⟩)))
          go_upto_block 3 with fail
          go_cut [80] from 62 to 80 (fun u wx => u = .bool false ∧ Below wr.heap.size wr wx)
          case first =>
            go_wp2_with fail
            go_region_held3 (fun w' => w'.cell? ⟨Q, 3, none⟩ = some (.slice (some ⟨g2, o2, none⟩) K.length xkc) ∧ w'.cell? ⟨Q + 1, 3, none⟩ = some (.slice (some ⟨g3, o3, none⟩) K.length ykc) ∧ w'.cell? ⟨g2, o2 + q * 5, none⟩ = some (xc q 0) ∧ w'.cell? ⟨g2, o2 + q * 5 + 1, none⟩ = some (xc q 1) ∧ w'.cell? ⟨g2, o2 + q * 5 + 2, none⟩ = some (xc q 2) ∧ w'.cell? ⟨g2, o2 + q * 5 + 3, none⟩ = some (xc q 3) ∧ w'.cell? ⟨g2, o2 + q * 5 + 4, none⟩ = some (xc q 4) ∧ w'.cell? ⟨g3, o3 + q * 5, none⟩ = some (yc q 0) ∧ w'.cell? ⟨g3, o3 + q * 5 + 1, none⟩ = some (yc q 1) ∧ w'.cell? ⟨g3, o3 + q * 5 + 2, none⟩ = some (yc q 2) ∧ w'.cell? ⟨g3, o3 + q * 5 + 3, none⟩ = some (yc q 3) ∧ w'.cell? ⟨g3, o3 + q * 5 + 4, none⟩ = some (yc q 4))
              (first
                | (refine ⟨?_, ?_, ?_, ?_, ?_, ?_, ?_, ?_, ?_, ?_, ?_, ?_⟩ <;> assumption)
                | go_keep)
              (first
                | (go_at_call 13; refine (CS2.out _ (by first | exact (Below.refl _ _).drew | exact Below.refl _ _)).mono ?_; rintro e wz ⟨rfl, HBZ, z0, z1, z2, z3, z4, z5, z6, z7, z8, z9, z10, z11⟩))
            all_goals
              clear z0 z1 z2 z3 z4 z5 z6 z7 z8 z9 z10 z11
              go_wp2_with fail
              go_meet
              exact ⟨rfl, HBZ.out⟩
          case rest =>
            obtain ⟨rfl, hcb⟩ := hcut
            have HBZ2 := Lib.hid hcb
            clear hcb k0 k1 k2 k3 k4 l0 l1 l2 l3 l4 x3 y3 CS2 CS
            go_wp2_with fail
            go_roundg (K.length - (q + 1))
            case measure => omega
            case rel => exact ⟨q + 1, by omega, by go_num, HBX.out.trans (HBZ2.out.mono HBX.out.size)⟩
        · have hk' : ¬ (q : Int) < (K.length : Int) := by omega
          have HBF := Lib.hid hbw
          clear hX hY hbx hbw hq1
          go_wp2_with fail
          go_ret
          exact ⟨rfl, by rw [← HQ.out]; exact HBF.out⟩
theorem same_spec : ∀ d, SameSpec d
  | 0 => fun x va vb w _ _ hd _ _ => absurd hd (by have := depth_kids x; omega)
  | d + 1 => same_one d (same_spec d)

end Go.Proofs.YtnlkpdodacphkaaGreatDoor
namespace Go.Proofs.YtnlkpdodacphkaaGreatDoor
open Go Go.RowKit Go.Lib
set_option maxRecDepth 100000

mutual
theorem depth_cnt : ∀ x : Nd, x.depth ≤ x.count
  | .mk s n A K t => by
    have := depthK_cnt K
    rw [Nd.depth, Nd.count]; omega
theorem depthK_cnt : ∀ K : List Nd, depthK K ≤ countK K
  | [] => by rw [depthK]; exact Nat.zero_le _
  | x :: K => by
    have h1 := depth_cnt x
    have h2 := depthK_cnt K
    rw [depthK, countK]; omega
end
theorem massL_mem : ∀ {A : List Att} {a : Att}, a ∈ A → a.1.size + a.2.size ≤ massL A
  | [], _, h => by cases h
  | b :: A, a, h => by
    rw [massL]
    rcases List.mem_cons.1 h with rfl | h
    · rw [bl_size, bl_size]; omega
    · have := massL_mem h; omega
theorem massK_mem : ∀ {K : List Nd} {k : Nd}, k ∈ K → k.mass ≤ massK K
  | [], _, h => by cases h
  | b :: K, k, h => by
    rw [massK]
    rcases List.mem_cons.1 h with rfl | h
    · omega
    · have := massK_mem h; omega
theorem gn_good {x : Nd} (h : GN x) : x.good := by
  induction h with
  | mk s n t A K hn hs ht htr hA hAd hAl hKt hK ih =>
    refine ⟨alone_ok hn hs.1 (atts_ok (fun a ha => ⟨(hA a ha).nm, (hA a ha).no, (hA a ha).lets⟩) hAd hAl) ht htr ?_, goodK_of ih⟩
    rcases hKt with h | h
    · left; rw [h]; rfl
    · exact .inr h
theorem gn_sm {x : Nd} (h : GN x) : x.mass ≤ 1000000 → x.sm := by
  induction h with
  | mk s n t A K hn hs ht htr hA hAd hAl hKt hK ih =>
    intro hm
    rw [Nd.mass] at hm
    have h2 := hs.2
    rw [bl_size] at h2
    rw [bl_size, bl_size] at hm
    refine ⟨⟨by omega, by omega, by omega, fun a ha => ?_⟩, smK_of fun k hk => ih k hk ?_⟩
    · have := massL_mem ha; omega
    · have := massK_mem hk; omega
theorem gn_few {x : Nd} (h : GN x) : x.few := by
  induction h with
  | mk s n t A K hn hs ht htr hA hAd hAl hKt hK ih =>
    have key : ∀ K : List Nd, (∀ k ∈ K, k.few) → fewK K := by
      intro K
      induction K with
      | nil => intro _; exact trivial
      | cons k K ihK => intro h; exact ⟨h k (List.mem_cons_self ..), ihK fun y hy => h y (List.mem_cons_of_mem _ hy)⟩
    exact ⟨by omega, key K ih⟩
def Nd.atts : Nd → List Att
  | .mk _ _ A _ _ => A
structure AnyOk (x : Nd) : Prop where
  cnt : x.count ≤ 32
  dep : x.depth ≤ 32
  len : (textT x ⟨#[]⟩ []).length ≤ 200000
  may : (mayF x 1 0).1 = true
  sm : x.sm
  few : x.few
  back : parseL (textT x ⟨#[]⟩ []) = .ok x
  atts : x.atts.length ≤ 15
theorem any_facts {U : List UInt8} {x : Nd} (hF : FewT U) (hl : lts U ≤ 32) (hlen : U.length ≤ 7000) (h : parseL U = .ok x) : AnyOk x := by
  have h1 := parse_ok U hl
  rw [h] at h1
  have hg := parse_g hF h
  have hc : x.count ≤ 32 := h1.2.2
  have hd := depth_cnt x
  have hb := body_mass x hg.1 ⟨#[]⟩ [] 32 (by simp; omega)
  have hlen2 : (textT x ⟨#[]⟩ []).length ≤ 200000 := by
    have hmul := Nat.mul_le_mul_right (4300 + 2 * 32) hc
    have hm := hg.2
    unfold textT
    simp only [List.length_append, List.length_nil, List.length_singleton]
    omega
  exact ⟨hc, by omega, hlen2, by rw [may_good x 1 0 (gn_good hg.1) (by omega) (by omega)], gn_sm hg.1 (by have := hg.2; omega), gn_few hg.1, parse_may hg.1.may hlen2 (by omega) (by omega), by
    have := hg.1
    cases this; assumption⟩

end Go.Proofs.YtnlkpdodacphkaaGreatDoor
namespace Go.Proofs.YtnlkpdodacphkaaGreatDoor
open Go Go.RowKit Go.Lib
set_option maxRecDepth 100000

/-- What is known of a world in which an element lies at a block. -/
structure AtN (B : Nat) (w0 w : World) (q : Nat) (a b e : ByteArray) (p1 : Option Addr) (n1 c1 : Nat) (p2 : Option Addr) (n2 c2 : Nat) (x : Nd) : Prop where
  below : Below B w0 w
  lt : q < w.heap.size
  k0 : w.cell? ⟨q, 0, none⟩ = some (.string a)
  k1 : w.cell? ⟨q, 1, none⟩ = some (.string b)
  k2 : w.cell? ⟨q, 2, none⟩ = some (.slice p1 n1 c1)
  k3 : w.cell? ⟨q, 3, none⟩ = some (.slice p2 n2 c2)
  k4 : w.cell? ⟨q, 4, none⟩ = some (.string e)
  nv : NodeV (fun _ => True) w (.agg #[.string a, .string b, .slice p1 n1 c1, .slice p2 n2 c2, .string e]) x
  ev : EntV w
  tv : Tabs w
theorem AtN.to {B : Nat} {w0 w w' : World} {q : Nat} {a b e : ByteArray} {p1 : Option Addr} {n1 c1 : Nat} {p2 : Option Addr} {n2 c2 : Nat} {x : Nd} (h : AtN B w0 w q a b e p1 n1 c1 p2 n2 c2 x) (hb : Below w.heap.size w w') (hB : B ≤ w.heap.size) : AtN B w0 w' q a b e p1 n1 c1 p2 n2 c2 x where
  below := h.below.trans (hb.mono hB)
  lt := Nat.lt_of_lt_of_le h.lt hb.size
  k0 := (hb.cell (p := ⟨q, 0, none⟩) h.lt).trans h.k0
  k1 := (hb.cell (p := ⟨q, 1, none⟩) h.lt).trans h.k1
  k2 := (hb.cell (p := ⟨q, 2, none⟩) h.lt).trans h.k2
  k3 := (hb.cell (p := ⟨q, 3, none⟩) h.lt).trans h.k3
  k4 := (hb.cell (p := ⟨q, 4, none⟩) h.lt).trans h.k4
  nv := h.nv.to hb.size fun g _ hg => ⟨trivial, hb.block g hg⟩
  ev := h.ev.below hb
  tv := h.tv.below hb

end Go.Proofs.YtnlkpdodacphkaaGreatDoor
namespace Go.Proofs.YtnlkpdodacphkaaGreatDoor
open Go Go.RowKit Go.Lib
set_option maxRecDepth 100000

/-- An element without anything but its name and its text, as a value. -/
theorem leaf_node (w : World) (t : ByteArray) : NodeV (fun _ => True) w (.agg #[.string ⟨#[]⟩, .string bA, .slice none 0 0, .slice none 0 0, .string t]) (.mk ⟨#[]⟩ bA [] [] t) :=
  .mk ⟨#[]⟩ bA t [] [] (.slice none 0 0) none 0 (fun _ _ => undef) ⟨none, 0, rfl, fun h => absurd h (Nat.lt_irrefl _), Nat.le_refl _⟩ (fun h => absurd h (Nat.lt_irrefl _)) (fun j h => absurd h (Nat.not_lt_zero j))
theorem leaf_sm (t : ByteArray) (h : t.size ≤ 1000000) : (Nd.mk ⟨#[]⟩ bA [] [] t).sm := ⟨⟨by decide, by decide, h, fun _ h => by cases h⟩, trivial⟩
set_option maxHeartbeats 4000000 in
/-- The law's awake. -/
theorem awake07 (w : World) (hE : EntV w) (hT : Tabs w) :
    Calls Tryz.prog 10 #[] w fun e w' => e = .returned (.bool true) ∧ Below w.heap.size w w' := by
  have C1 := wtext _ _ w (leaf_node w ⟨#[]⟩) (leaf_sm _ (by decide)) (by rw [awake_may.1]) (by rw [awake_text]; decide) hE hT
  rw [awake_text, show str [60, 97, 47, 62, 10] = (⟨#[60, 97, 47, 62, 10]⟩ : ByteArray) from rfl] at C1
  have C2 := fun (w1 : World) (hb : Below w.heap.size w w1) => wmay _ _ w1 (leaf_node w1 ⟨#[120]⟩) (leaf_sm _ (by decide)) (hE.below hb) (hT.below hb)
  rw [awake_may.2.1] at C2
  have C3 := fun (w1 : World) (hb : Below w.heap.size w w1) => wmay _ _ w1 (leaf_node w1 ⟨#[32, 120]⟩) (leaf_sm _ (by decide)) (hE.below hb) (hT.below hb)
  rw [awake_may.2.2] at C3
  replace C1 := Lib.hid C1
  replace C2 := Lib.hid C2
  replace C3 := Lib.hid C3
  clear hE hT
  go_enter Tryz.func10, Tryz.ntmps10
  go_wp2_with fail
  refine C1.out.mono ?_
  rintro e w1 ⟨rfl, hb1⟩
  have HB1 := Lib.hid hb1
  clear hb1
  go_wp2_with fail
  refine (C2.out w1 HB1.out).mono ?_
  rintro e w2 ⟨rfl, hb2⟩
  have HB2 := Lib.hid (HB1.out.trans (hb2.mono HB1.out.size))
  clear hb2
  go_wp2_with fail
  refine (C3.out w2 HB2.out).mono ?_
  rintro e w3 ⟨rfl, hb3⟩
  have HB3 := Lib.hid (HB2.out.trans (hb3.mono HB2.out.size))
  clear hb3
  go_wp2_with fail
  go_ret
  exact ⟨rfl, HB3.out⟩

end Go.Proofs.YtnlkpdodacphkaaGreatDoor
