/-
  Elements as documents, as galliardref06.Text writes them, and that the machine takes them as what they are; plain mathematics.
  An element's text is taken as that element, wherever it stands; plain mathematics.
  What says nothing around an element, and that a document is read as the element that it was written of; plain mathematics.
-/
import Derived.Test.YtekmenkebokdoaaGreatDoorTreeMath
namespace Go.Proofs.YtekmenkebokdoaaGreatDoor
open Go Go.RowKit Go.Lib
set_option maxRecDepth 100000

def bXm : List UInt8 := [120, 109, 108, 110, 115]
/-- The attributes of an element's tag: what it tells of the space, and its own. -/
def tagA (s sp : ByteArray) (A : List Att) : List (List UInt8 × List UInt8) := (if s = sp then [] else [(bXm, bl s)]) ++ A.map fun a => (bl a.1, bl a.2)
mutual
/-- An element's text, from its < to its >. -/
def bodyT : Nd → ByteArray → List UInt8 → List UInt8
  | .mk s n A K t, sp, pad =>
    60 :: (bl n ++ (atsT [32] (tagA s sp A) ++
      (if K.isEmpty = true then (if bl t = [] then [47, 62] else 62 :: (closeL (bl t) ++ (60 :: 47 :: (bl n ++ [62]))))
       else 62 :: (kidsT K s (pad ++ [32]) ++ (10 :: (pad ++ (60 :: 47 :: (bl n ++ [62]))))))))
def kidsT : List Nd → ByteArray → List UInt8 → List UInt8
  | [], _, _ => []
  | k :: r, s, pad => 10 :: (pad ++ (bodyT k s pad ++ kidsT r s pad))
end
/-- The text of galliardref06.Text. -/
def textT (x : Nd) (sp : ByteArray) (pad : List UInt8) : List UInt8 := pad ++ (bodyT x sp pad ++ [10])
/-- An element that galliardref06.Near makes. -/
inductive NearN : Nd → Prop where
  | mk (s n t : ByteArray) (A : List Att) (K : List Nd) (hn : ∃ r, bl n = 110 :: r) (hn2 : ∀ c ∈ bl n, okN c = true) (hnl : (bl n).length ≤ 40) (hs : Lets (bl s)) (ht : Lets (bl t)) (htr : trimL (bl t) = bl t)
    (hA : ∀ a ∈ A, (∃ r, bl a.1 = 110 :: r) ∧ (∀ c ∈ bl a.1, okN c = true) ∧ (bl a.1).length ≤ 40 ∧ Lets (bl a.2)) (hAd : A.Pairwise (fun x y => (bl x.1 == bl y.1) = false)) (hAl : A.length ≤ 15)
    (hKt : K = [] ∨ bl t = []) (hK : ∀ k ∈ K, NearN k) : NearN (.mk s n A K t)
def blk_ (l : List UInt8) : Prop := ∀ c ∈ l, bb c = true
/-- A text of blanks. -/
theorem blanks_lets {l : List UInt8} (h : ∀ c ∈ l, c = 32 ∨ c = 10) : Lets l := by
  induction l with
  | nil => exact Lets.nil
  | cons c l ih =>
    have h1 : Lets [c] := by
      rcases h c (List.mem_cons_self ..) with rfl | rfl
      · exact ⟨[32], by decide, by kernel_rfl⟩
      · exact ⟨[10], by decide, by kernel_rfl⟩
    exact h1.append (ih fun x hx => h x (List.mem_cons_of_mem _ hx))
theorem openF_plain : ∀ (f : Nat) (l done : List UInt8) (a : Nat), l.length ≤ f → (∀ c ∈ l, c ≠ 38) → openF f l done a = (done ++ l, -1)
  | 0, [], done, a, _, _ => by unfold openF; simp
  | 0, c :: l, done, a, h, _ => absurd h (by simp)
  | f + 1, [], done, a, _, _ => by unfold openF; simp
  | f + 1, c :: l, done, a, h, hc => by
    unfold openF
    rw [if_pos (hc c (List.mem_cons_self ..)), openF_plain f l (done ++ [c]) (a + 1) (by simp at h; omega) (fun x hx => hc x (List.mem_cons_of_mem _ hx))]
    simp
theorem openL_plain {l : List UInt8} (hc : ∀ c ∈ l, c ≠ 38) : openL l = (l, -1) := by
  unfold openL; rw [openF_plain _ l [] 0 (Nat.le_refl _) hc]; rfl
/-- A text in which nothing is written as a name. -/
theorem text_raw {D v r : List UInt8} {p : Nat} (hv : Lets v) (hv0 : v ≠ []) (hc : ∀ c ∈ v, c ≠ 60 ∧ c ≠ 38) (hr : r = [] ∨ ∃ r', r = 60 :: r') (hd : D.drop p = v ++ r) :
    nextP D (P_ p) = ⟨4, [], [], v, p⟩ ∧ nextS D (P_ p) = P_ (p + v.length) := by
  obtain ⟨c, t, hct⟩ : ∃ c t, v = c :: t := by
    cases v with
    | nil => exact absurd rfl hv0
    | cons x v => exact ⟨x, v, rfl⟩
  have hc60 : c ≠ 60 := (hc c (by rw [hct]; exact List.mem_cons_self ..)).1
  have hd' : D.drop p = c :: (t ++ r) := by rw [hd, hct]; rfl
  refine next_on (Q := ⟨4, [], [], v, 0⟩) hd' (.inl hc60) ?_
  have hraw := (bcom_no hd' (.inl hc60)).2.2
  have hrun := run_on (h := tb) hd (fun x hx => by have := (hc x hx).1; unfold tb; simp [this]) (by rcases hr with rfl | ⟨r', rfl⟩; exact .inl rfl; exact Stops.cons tb_60)
  have ho : openedS v ((P_ p).pos : Int) (P_ (p + v.length)) = P_ (p + v.length) := by
    unfold openedS lettersS
    rw [hv.text, openL_plain (fun x hx => (hc x hx).2), if_neg (show ¬ 0 ≤ (-1 : Int) by decide), if_neg (show ¬ 0 ≤ (-1 : Int) by decide)]
  unfold pieceR
  rw [if_neg (by rw [hraw]; decide), if_neg (by rw [show standsS [60, 47] D (P_ p) = false from stands_no (x := [47]) hd' (fun e => hc60 e.symm)]; decide), if_neg (by rw [show standsS [60] D (P_ p) = false from stands_no (x := []) hd' (fun e => hc60 e.symm)]; decide)]
  unfold textS
  rw [hrun.1, hrun.2, ho, openL_plain (fun x hx => (hc x hx).2)]
/-- Blanks within an element are taken as text. -/
theorem run_blanks {D v r : List UInt8} {p : Nat} (hv : ∀ c ∈ v, c = 32 ∨ c = 10) (hv0 : v ≠ []) (hd : D.drop p = v ++ 60 :: r) (F : Fr) (S : List Fr) (L : List Tell) (c : Nat) :
    runAt D (P_ p) (.inside F S, L, c) = runAt D (P_ (p + v.length)) (.inside { F with tx := F.tx ++ v } S, L, c) := by
  have hp := drop_le hd hv0
  have h := text_raw (D := D) (v := v) (r := 60 :: r) (p := p) (blanks_lets hv) hv0 (fun x hx => by rcases hv x hx with rfl | rfl <;> decide) (.inr ⟨_, rfl⟩) hd
  rw [run_piece (by omega) h (show (4 : Int) ≠ 0 by decide), step_in, if_neg (show ¬ (4 : Int) = 2 by decide), if_neg (by rintro (h | h) <;> exact absurd (show (4 : Int) = _ from h) (by decide))]
  rfl
theorem dropWhile_all {α : Type} {p : α → Bool} : ∀ l : List α, (∀ c ∈ l, p c = true) → l.dropWhile p = []
  | [], _ => rfl
  | c :: l, h => by rw [List.dropWhile_cons, if_pos (h c (List.mem_cons_self ..))]; exact dropWhile_all l fun x hx => h x (List.mem_cons_of_mem _ hx)
theorem trim_blanks {l : List UInt8} (hl : ∀ c ∈ l, c = 32 ∨ c = 10) : trimL l = [] := by
  have h := trim_cut l l.length l.length (Nat.le_refl _) (Nat.le_refl _) (fun j hj => by
    have hm := hl _ (List.getElem_mem hj)
    have e : nth l j = (l[j]'hj).toNat := by unfold nth; simp [List.getD, hj]
    rw [e]
    rcases hm with hm | hm <;> rw [hm] <;> decide) (fun h => absurd h (Nat.lt_irrefl _)) (fun j h1 h2 => by omega) (fun h => absurd h (Nat.lt_irrefl _))
  rw [h]
  simp

/-! ### what a tag says -/
theorem str_bl_ (s : ByteArray) : str (bl s) = s := by cases s; rfl
theorem toAtt_tag (s sp : ByteArray) (A : List Att) : toAtt (tagA s sp A) = (if s = sp then [] else [(bXmlns, s)]) ++ A := by
  have hA : (A.map fun a => (bl a.1, bl a.2)).map (fun a => (str a.1, str a.2)) = A := by
    rw [List.map_map]
    conv => rhs; rw [← List.map_id A]
    refine List.map_congr_left fun a _ => ?_
    show (str (bl a.1), str (bl a.2)) = a
    rw [str_bl_, str_bl_]
  unfold toAtt tagA
  rw [List.map_append, hA]
  split
  · rfl
  · show [(str bXm, str (bl s))] ++ A = _
    rw [str_bl_]; rfl
theorem tell_n {n : ByteArray} (h : ∃ r, bl n = 110 :: r) : (tellS n).2 = false := by
  obtain ⟨r, hr⟩ := h
  have hne : n ≠ bXmlns := fun e => by rw [e] at hr; exact absurd (congrArg (List.head? ·) hr) (by show ¬ some (120 : UInt8) = some 110; decide)
  unfold tellS
  rw [if_neg hne]
  show Lib.hasPrefix n.data.toList _ = false
  rw [show n.data.toList = 110 :: r from hr]
  rfl
theorem enter_own (d : Nat) (L : List Tell) : ∀ (A R : List Att), (∀ a ∈ A, ∃ r, bl a.1 = 110 :: r) → enterL d A R L = (R ++ A, 0, L)
  | [], R, _ => by simp [enterL]
  | a :: A, R, h => by
    unfold enterL
    rw [if_pos (tell_n (h a (List.mem_cons_self ..))), enter_own d L A (R ++ [a]) fun x hx => h x (List.mem_cons_of_mem _ hx)]
    simp
def newL (s sp : ByteArray) (d : Nat) : List Tell := if s = sp then [] else [⟨bNone, s, d⟩]
theorem enter_tag (s sp : ByteArray) (A : List Att) (d : Nat) (L : List Tell) (hL : L.length < 100) (hA : ∀ a ∈ A, ∃ r, bl a.1 = 110 :: r) : enterL d (toAtt (tagA s sp A)) [] L = (A, 0, L ++ newL s sp d) := by
  rw [toAtt_tag]
  unfold newL
  split
  · rw [List.nil_append, enter_own d L A [] hA, List.append_nil]; rfl
  · show enterL d ((bXmlns, s) :: A) [] L = _
    unfold enterL
    have ht : tellS bXmlns = (bNone, true) := by kernel_rfl
    have hk : knowE L bNone s = 0 := by
      unfold knowE
      rw [if_neg (by rintro (h | h | h); exact absurd h (by decide); exact absurd h (by decide); exact h.1 rfl), if_neg (by omega)]
    rw [if_neg (by rw [ht]; decide), if_pos (by rw [ht]; exact hk), ht]
    exact enter_own d _ A [] hA

theorem of_new {L : List Tell} {sp s : ByteArray} {d : Nat} (h : ofT L bNone = some sp) : ofT (L ++ newL s sp d) bNone = some s := by
  unfold newL
  split
  · rename_i e; rw [List.append_nil, h, e]
  · unfold ofT
    rw [List.reverse_append]
    rfl
theorem name_own {L : List Tell} {s n : ByteArray} (h : ofT L bNone = some s) (hn : ∃ r, bl n = 110 :: r) (hn2 : ∀ c ∈ bl n, okN c = true) (hnl : (bl n).length ≤ 40) : nameSp L (str (bl n)) = (s, n, true) := by
  obtain ⟨r, hr⟩ := hn
  have hname : nameL (bl n) = true := by
    rw [hr] at hn2 hnl ⊢
    exact ok_name hn2 (by decide) (by simp at hnl; omega)
  rw [str_bl_]
  unfold nameSp
  rw [split_none _ (ok_colon hn2), hname]
  have e0 : str ([] : List UInt8) = bNone := rfl
  unfold nameZ
  rw [if_neg (show ¬ true = false by decide), e0, h, str_bl_]
/-- What is known where an element stands whose default space is sp. -/
structure Knows (L : List Tell) (sp : ByteArray) (d : Nat) : Prop where
  of : ofT L bNone = some sp
  few : L.length ≤ 2 + d
theorem Knows.more {L : List Tell} {sp s : ByteArray} {d : Nat} (h : Knows L sp d) : Knows (L ++ newL s sp (d + 1)) s (d + 1) := by
  refine ⟨of_new h.of, ?_⟩
  have := h.few
  rw [List.length_append]
  unfold newL
  split
  · simp; omega
  · simp; omega
theorem enter_near {s n sp : ByteArray} {A : List Att} {L : List Tell} {d c p : Nat} {kd : Int} (hL : Knows L sp d) (hd : d < 32) (hc : c < 2000) (hn : ∃ r, bl n = 110 :: r) (hn2 : ∀ c ∈ bl n, okN c = true) (hnl : (bl n).length ≤ 40)
    (hA : ∀ a ∈ A, (∃ r, bl a.1 = 110 :: r) ∧ (∀ c ∈ bl a.1, okN c = true) ∧ (bl a.1).length ≤ 40 ∧ Lets (bl a.2)) :
    enterR ⟨kd, bl n, tagA s sp A, [], p⟩ d L c = .ok (⟨bl n, p, s, n, A, [], [], L⟩, L ++ newL s sp (d + 1)) := by
  unfold enterR
  rw [if_pos hc, if_pos hd]
  show enterC _ (enterL (d + 1) (toAtt (tagA s sp A)) [] L) (nameSp (enterL (d + 1) (toAtt (tagA s sp A)) [] L).2.2 (str (bl n))) L = _
  rw [enter_tag s sp A (d + 1) L (by have := hL.few; omega) (fun a ha => (hA a ha).1), name_own (of_new hL.of) hn hn2 hnl]
  have hok : attsOk A = true := List.all_eq_true.2 fun a ha => by
    obtain ⟨⟨r, hr⟩, h2, h3, _⟩ := hA a ha
    rw [hr] at h2 h3 ⊢
    exact ok_name h2 (by decide) (by simp at h3; omega)
  unfold enterC
  rw [if_pos rfl, if_pos rfl, if_pos hok]

end Go.Proofs.YtekmenkebokdoaaGreatDoor

namespace Go.Proofs.YtekmenkebokdoaaGreatDoor
open Go Go.RowKit Go.Lib
set_option maxRecDepth 100000

theorem nm_own {n : List UInt8} (hn : ∃ r, n = 110 :: r) (hn2 : ∀ c ∈ n, okN c = true) (hnl : n.length ≤ 40) : Nm n := by
  obtain ⟨r, rfl⟩ := hn
  exact ok_nm hn2 (by decide) (by simp at hnl; omega)
def AOk (A : List Att) : Prop := ∀ a ∈ A, (∃ r, bl a.1 = 110 :: r) ∧ (∀ c ∈ bl a.1, okN c = true) ∧ (bl a.1).length ≤ 40 ∧ Lets (bl a.2)
theorem tag_ok {s sp : ByteArray} {A : List Att} (hs : Lets (bl s)) (hA : AOk A) : ∀ a ∈ tagA s sp A, AtOk a := by
  have hown : ∀ a ∈ A.map (fun a => (bl a.1, bl a.2)), AtOk a := fun a ha => by
    obtain ⟨y, hy, rfl⟩ := List.mem_map.1 ha
    obtain ⟨h1, h2, h3, h4⟩ := hA y hy
    refine ⟨nm_own h1 h2 h3, h4, ?_⟩
    obtain ⟨r, hr⟩ := h1
    exact ⟨110, r, hr, by kernel_rfl, by decide, by decide⟩
  intro a ha
  unfold tagA at ha
  split at ha
  · exact hown a ha
  · rcases List.mem_append.1 ha with h | h
    · rw [List.mem_singleton.1 h]
      exact ⟨ok_nm (by decide) (by decide) (by decide), hs, ⟨120, [109, 108, 110, 115], rfl, by kernel_rfl, by decide, by decide⟩⟩
    · exact hown a h
theorem tag_pair {s sp : ByteArray} {A : List Att} (hA : AOk A) (hd : A.Pairwise (fun x y => (bl x.1 == bl y.1) = false)) : (tagA s sp A).Pairwise (fun x y => (x.1 == y.1) = false) := by
  have h2 : (A.map (fun a => (bl a.1, bl a.2))).Pairwise (fun x y => (x.1 == y.1) = false) := List.pairwise_map.2 hd
  unfold tagA
  split
  · exact h2
  · refine List.pairwise_append.2 ⟨List.pairwise_singleton _ _, h2, fun x hx y hy => ?_⟩
    rw [List.mem_singleton.1 hx]
    obtain ⟨z, hz, rfl⟩ := List.mem_map.1 hy
    obtain ⟨⟨r, hr⟩, _⟩ := hA z hz
    show (bXm == bl z.1) = false
    rw [hr]; rfl
theorem tag_len {s sp : ByteArray} {A : List Att} (h : A.length ≤ 15) : (tagA s sp A).length ≤ 16 := by
  unfold tagA
  rw [List.length_append, List.length_map]
  split
  · simp; omega
  · simp; omega
theorem open_near {D r e : List UInt8} {p : Nat} {kd : Int} {s sp n : ByteArray} {A : List Att} (hn : ∃ r, bl n = 110 :: r) (hn2 : ∀ c ∈ bl n, okN c = true) (hnl : (bl n).length ≤ 40) (hs : Lets (bl s)) (hA : AOk A)
    (hAd : A.Pairwise (fun x y => (bl x.1 == bl y.1) = false)) (hAl : A.length ≤ 15) (he : Ends e kd) (hd : D.drop p = 60 :: (bl n ++ (atsT [32] (tagA s sp A) ++ (e ++ r)))) :
    nextP D (P_ p) = ⟨kd, bl n, tagA s sp A, [], p⟩ ∧ nextS D (P_ p) = P_ (p + (1 + (bl n).length + (atsT [32] (tagA s sp A)).length + e.length)) := by
  have h := open_on (D := D) (b := [32]) (eb := []) (e := e) (r := r) (kd := kd) (p := p) (nm_own hn hn2 hnl) (by obtain ⟨r, hr⟩ := hn; exact ⟨110, r, hr, by decide, by decide, by decide⟩) (by decide) (by decide) (by decide) (fun _ h => by cases h) (fun _ h => by cases h) he
    (tag_ok hs hA) (tag_pair hA hAd) (tag_len hAl) hd
  exact h
/-- What it is that an element's text is taken as it. -/
def Takes (x : Nd) : Prop := ∀ (sp : ByteArray) (pad D r : List UInt8) (p : Nat) (S : List Fr) (L : List Tell) (c : Nat), Knows L sp S.length → D.drop p = bodyT x sp pad ++ r → (∀ b ∈ pad, b = 32) → c + x.count ≤ 2000 → S.length + x.depth ≤ 32 →
  ∃ Q q, nextP D (P_ p) = Q ∧ nextS D (P_ p) = P_ q ∧ opens Q ∧ ((opn Q S L c).on fun m' => runAt D (P_ q) m') = runAt D (P_ (p + (bodyT x sp pad).length)) (give x S, L, c + x.count)
theorem body_head (x : Nd) (sp : ByteArray) (pad : List UInt8) : ∃ t, bodyT x sp pad = 60 :: t := by
  cases x with
  | mk s n A K t => exact ⟨_, by unfold bodyT; rfl⟩
theorem kids_run : ∀ (K : List Nd), (∀ k ∈ K, Takes k) → ∀ (s : ByteArray) (pad D r : List UInt8) (p : Nat) (F : Fr) (S : List Fr) (L : List Tell) (c : Nat), Knows L s (F :: S).length → D.drop p = kidsT K s pad ++ r → p ≤ D.length → (∀ b ∈ pad, b = 32) →
    c + countK K ≤ 2000 → (F :: S).length + depthK K ≤ 32 → (∀ b ∈ F.tx, b = 32 ∨ b = 10) →
    ∃ tx', (∀ b ∈ tx', b = 32 ∨ b = 10) ∧ runAt D (P_ p) (.inside F S, L, c) = runAt D (P_ (p + (kidsT K s pad).length)) (.inside { F with K := F.K ++ K, tx := tx' } S, L, c + countK K)
  | [], _, s, pad, D, r, p, F, S, L, c, _, _, _, _, _, _, hF => ⟨F.tx, hF, by simp [kidsT, countK]⟩
  | k :: K, hP, s, pad, D, r, p, F, S, L, c, hL, hd, hp, hpad, hc, hdep, hF => by
    obtain ⟨t, ht⟩ := body_head k s pad
    have hbl : ∀ b ∈ (10 :: pad), b = 32 ∨ b = 10 := fun b hb => by
      rcases List.mem_cons.1 hb with rfl | hb
      · exact .inr rfl
      · exact .inl (hpad b hb)
    have hd1 : D.drop p = (10 :: pad) ++ (bodyT k s pad ++ (kidsT K s pad ++ r)) := by
      rw [hd, kidsT]; simp
    have hd2 : D.drop p = (10 :: pad) ++ 60 :: (t ++ (kidsT K s pad ++ r)) := by rw [hd1, ht]; rfl
    have h1 := run_blanks hbl (by simp) hd2 F S L c
    have hd3 := drop_on hd1
    have hp3 := drop_le hd1 (by simp)
    rw [countK] at hc
    rw [depthK] at hdep
    obtain ⟨Q, q, hQ, hq, hop, hrun⟩ := hP k (List.mem_cons_self ..) s pad D _ _ ({ F with tx := F.tx ++ (10 :: pad) } :: S) L c hL hd3 hpad (by omega) (by have e : ({ F with tx := F.tx ++ (10 :: pad) } :: S).length = (F :: S).length := rfl; rw [e]; omega)
    have hk0 : Q.kind ≠ 0 ∧ Q.kind ≠ 2 := by rcases hop with h | h <;> rw [h] <;> decide
    have h2 : runAt D (P_ (p + (10 :: pad).length)) (.inside { F with tx := F.tx ++ (10 :: pad) } S, L, c) = runAt D (P_ (p + (10 :: pad).length + (bodyT k s pad).length)) (.inside { F with K := F.K ++ [k], tx := F.tx ++ (10 :: pad) } S, L, c + k.count) := by
      rw [run_piece hp3 ⟨hQ, hq⟩ hk0.1, step_in, if_neg hk0.2, if_pos hop, hrun]
      rfl
    have hd4 := drop_on hd3
    have hp4 := drop_le hd3 (by rw [ht]; simp)
    obtain ⟨tx', htx, h3⟩ := kids_run K (fun y hy => hP y (List.mem_cons_of_mem _ hy)) s pad D r _ { F with K := F.K ++ [k], tx := F.tx ++ (10 :: pad) } S L (c + k.count) hL hd4 hp4 hpad (by omega) (by have e : ({ F with K := F.K ++ [k], tx := F.tx ++ (10 :: pad) } :: S).length = (F :: S).length := rfl; rw [e]; omega)
      (fun b hb => by rcases List.mem_append.1 hb with h | h; exact hF b h; exact hbl b h)
    refine ⟨tx', htx, ?_⟩
    rw [h1, h2, h3, kidsT, countK]
    have el : p + (10 :: pad).length + (bodyT k s pad).length + (kidsT K s pad).length = p + (10 :: (pad ++ (bodyT k s pad ++ kidsT K s pad))).length := by simp; omega
    rw [el, Nat.add_assoc c]
    simp
theorem start_near {s n sp : ByteArray} {A : List Att} {D e r : List UInt8} {p c : Nat} {kd : Int} {S : List Fr} {L : List Tell} (hL : Knows L sp S.length) (hS : S.length < 32) (hc : c < 2000) (hn : ∃ r, bl n = 110 :: r) (hn2 : ∀ c ∈ bl n, okN c = true)
    (hnl : (bl n).length ≤ 40) (hs : Lets (bl s)) (hA : AOk A) (hAd : A.Pairwise (fun x y => (bl x.1 == bl y.1) = false)) (hAl : A.length ≤ 15) (he : Ends e kd) (hd : D.drop p = 60 :: (bl n ++ (atsT [32] (tagA s sp A) ++ (e ++ r)))) :
    ∃ Q q, nextP D (P_ p) = Q ∧ nextS D (P_ p) = P_ q ∧ opens Q ∧ q = p + (1 + (bl n).length + (atsT [32] (tagA s sp A)).length + e.length) ∧ D.drop q = r ∧ q ≤ D.length ∧
      opn Q S L c = if kd = 1 then .ok (.inside ⟨bl n, p, s, n, A, [], [], L⟩ S, L ++ newL s sp (S.length + 1), c + 1) else .ok (give (.mk s n A [] (str [])) S, L, c + 1) := by
  obtain ⟨h1, h2⟩ := open_near hn hn2 hnl hs hA hAd hAl he hd
  have hd1 : D.drop p = (60 :: (bl n ++ (atsT [32] (tagA s sp A) ++ e))) ++ r := by rw [hd]; simp
  have el : p + (60 :: (bl n ++ (atsT [32] (tagA s sp A) ++ e))).length = p + (1 + (bl n).length + (atsT [32] (tagA s sp A)).length + e.length) := by simp; omega
  have h3 := drop_on hd1
  have h4 := drop_le hd1 (by simp)
  rw [el] at h3 h4
  refine ⟨_, _, h1, h2, ?_, rfl, h3, h4, ?_⟩
  · rcases he with ⟨_, h⟩ | ⟨_, h⟩
    · exact .inl h
    · exact .inr h
  · unfold opn
    rw [enter_near hL hS hc hn hn2 hnl hA]
    rfl
theorem shut_near {D r : List UInt8} {p c : Nat} {n : List UInt8} {F : Fr} {S : List Fr} {L : List Tell} {x : Nd} (hn : Nm n) (hF : F.tag = n) (hx : shut F = .ok x) (hd : D.drop p = 60 :: 47 :: (n ++ 62 :: r)) :
    runAt D (P_ p) (.inside F S, L, c) = runAt D (P_ (p + (2 + n.length + 1))) (give x S, F.L, c) := by
  have h := close_on (eb := []) hn (fun _ h => by cases h) (fun _ h => by cases h) hd
  have hp := drop_lt hd
  rw [run_piece (by omega) h (show (2 : Int) ≠ 0 by decide), step_in, if_pos rfl, if_pos hF.symm, hx]
  rfl
theorem takes_mk {s n t : ByteArray} {A : List Att} {K : List Nd} (hn : ∃ r, bl n = 110 :: r) (hn2 : ∀ c ∈ bl n, okN c = true) (hnl : (bl n).length ≤ 40) (hs : Lets (bl s)) (ht : Lets (bl t)) (htr : trimL (bl t) = bl t) (hA : AOk A)
    (hAd : A.Pairwise (fun x y => (bl x.1 == bl y.1) = false)) (hAl : A.length ≤ 15) (hKt : K = [] ∨ bl t = []) (hK : ∀ k ∈ K, Takes k) : Takes (.mk s n A K t) := by
  intro sp pad D r p S L c hL hd hpad hc hdep
  have hcnt : (Nd.mk s n A K t).count = 1 + countK K := by rw [Nd.count]
  have hdp : (Nd.mk s n A K t).depth = 1 + depthK K := by rw [Nd.depth]
  rw [hcnt] at hc ⊢
  rw [hdp] at hdep
  have hnm := nm_own hn hn2 hnl
  by_cases hK0 : K.isEmpty = true
  · have hK1 : K = [] := List.isEmpty_iff.1 hK0
    subst hK1
    by_cases ht0 : bl t = []
    · have ht1 : str [] = t := by rw [← ht0, str_bl_]
      have hb : bodyT (.mk s n A [] t) sp pad = 60 :: (bl n ++ (atsT [32] (tagA s sp A) ++ [47, 62])) := by
        rw [bodyT, if_pos hK0, if_pos ht0]
      rw [hb] at hd ⊢
      obtain ⟨Q, q, h1, h2, h3, hq, -, -, ho⟩ := start_near (e := [47, 62]) (kd := 3) (r := r) (c := c) hL (by omega) (by omega) hn hn2 hnl hs hA hAd hAl (.inr ⟨rfl, rfl⟩) (by rw [hd]; simp)
      refine ⟨Q, q, h1, h2, h3, ?_⟩
      have el : p + (60 :: (bl n ++ (atsT [32] (tagA s sp A) ++ [47, 62]))).length = q := by rw [hq]; simp; omega
      rw [ho, el, if_neg (by decide), ht1, countK]
      rfl
    · have hb : bodyT (.mk s n A [] t) sp pad = 60 :: (bl n ++ (atsT [32] (tagA s sp A) ++ 62 :: (closeL (bl t) ++ (60 :: 47 :: (bl n ++ [62]))))) := by
        rw [bodyT, if_pos hK0, if_neg ht0]
      rw [hb] at hd ⊢
      obtain ⟨Q, q, h1, h2, h3, hq, hdq, hql, ho⟩ := start_near (e := [62]) (kd := 1) (r := closeL (bl t) ++ (60 :: 47 :: (bl n ++ 62 :: r))) (c := c) hL (by omega) (by omega) hn hn2 hnl hs hA hAd hAl (.inl ⟨rfl, rfl⟩) (by rw [hd]; simp)
      refine ⟨Q, q, h1, h2, h3, ?_⟩
      have h4 := text_on ht ht0 (.inr ⟨_, rfl⟩) hdq
      have hd5 := drop_on hdq
      have el : p + (60 :: (bl n ++ (atsT [32] (tagA s sp A) ++ 62 :: (closeL (bl t) ++ (60 :: 47 :: (bl n ++ [62])))))).length = q + (closeL (bl t)).length + (2 + (bl n).length + 1) := by rw [hq]; simp; omega
      rw [ho, el, if_pos rfl, countK]
      show runAt D (P_ q) _ = _
      rw [run_piece hql h4 (show (4 : Int) ≠ 0 by decide), step_in, if_neg (show ¬ (4 : Int) = 2 by decide), if_neg (by rintro (h | h) <;> exact absurd (show (4 : Int) = _ from h) (by decide))]
      show runAt D _ _ = _
      rw [shut_near (x := .mk s n A [] t) hnm rfl (by
        unfold shut
        rw [if_pos (.inr rfl)]
        show Res.ok (Nd.mk s n A [] (str (trimL (bl t)))) = _
        rw [htr, str_bl_]) hd5]
  · have hne : K ≠ [] := fun e => hK0 (by rw [e]; rfl)
    have ht0 : bl t = [] := hKt.resolve_left hne
    have ht1 : str [] = t := by rw [← ht0, str_bl_]
    have hb : bodyT (.mk s n A K t) sp pad = 60 :: (bl n ++ (atsT [32] (tagA s sp A) ++ 62 :: (kidsT K s (pad ++ [32]) ++ (10 :: (pad ++ (60 :: 47 :: (bl n ++ [62]))))))) := by
      rw [bodyT, if_neg hK0]
    rw [hb] at hd ⊢
    obtain ⟨Q, q, h1, h2, h3, hq, hdq, hql, ho⟩ := start_near (e := [62]) (kd := 1) (r := kidsT K s (pad ++ [32]) ++ (10 :: (pad ++ (60 :: 47 :: (bl n ++ 62 :: r))))) (c := c) hL (by omega) (by omega) hn hn2 hnl hs hA hAd hAl (.inl ⟨rfl, rfl⟩) (by rw [hd]; simp)
    refine ⟨Q, q, h1, h2, h3, ?_⟩
    obtain ⟨tx', htx, h4⟩ := kids_run K hK s (pad ++ [32]) D _ q ⟨bl n, p, s, n, A, [], [], L⟩ S (L ++ newL s sp (S.length + 1)) (c + 1) hL.more hdq hql
      (fun b hb => by rcases List.mem_append.1 hb with h | h; exact hpad b h; exact List.mem_singleton.1 h) (by omega) (by rw [List.length_cons]; omega) (fun _ h => by cases h)
    have hd5 : D.drop (q + (kidsT K s (pad ++ [32])).length) = (10 :: pad) ++ 60 :: (47 :: (bl n ++ 62 :: r)) := drop_on hdq
    have hbl : ∀ b ∈ (10 :: pad), b = 32 ∨ b = 10 := fun b hb => by
      rcases List.mem_cons.1 hb with rfl | hb
      · exact .inr rfl
      · exact .inl (hpad b hb)
    have hd6 := drop_on hd5
    have el : p + (60 :: (bl n ++ (atsT [32] (tagA s sp A) ++ 62 :: (kidsT K s (pad ++ [32]) ++ (10 :: (pad ++ (60 :: 47 :: (bl n ++ [62])))))))).length = q + (kidsT K s (pad ++ [32])).length + (10 :: pad).length + (2 + (bl n).length + 1) := by rw [hq]; simp; omega
    rw [ho, el, if_pos rfl]
    show runAt D (P_ q) _ = _
    rw [h4, run_blanks hbl (by simp) hd5, shut_near (x := .mk s n A K t) hnm rfl (by
      unfold shut
      have htr2 : trimL (tx' ++ 10 :: pad) = [] := trim_blanks fun b hb => by
        rcases List.mem_append.1 hb with h | h
        · exact htx b h
        · exact hbl b h
      rw [if_pos (.inl htr2)]
      show Res.ok (Nd.mk s n A ([] ++ K) (str (trimL (tx' ++ 10 :: pad)))) = _
      rw [htr2, ht1]; rfl) hd6, Nat.add_assoc c]
theorem takes {x : Nd} (hx : NearN x) : Takes x := by
  induction hx with
  | mk s n t A K hn hn2 hnl hs ht htr hA hAd hAl hKt _ ih => exact takes_mk hn hn2 hnl hs ht htr hA hAd hAl hKt ih

end Go.Proofs.YtekmenkebokdoaaGreatDoor

namespace Go.Proofs.YtekmenkebokdoaaGreatDoor
open Go Go.RowKit Go.Lib
set_option maxRecDepth 100000

/-- A comment's text: no two dashes stand in it, and none at its end. -/
def noDD : List UInt8 → Bool
  | [] => true
  | [c] => c != 45
  | c :: d :: t => !(c == 45 && d == 45) && noDD (d :: t)
theorem index_step {c : UInt8} {t s : List UInt8} {n : Nat} (hp : List.isPrefixOf s (c :: t) = false) (h : index t s = (n : Int)) : index (c :: t) s = ((n + 1 : Nat) : Int) := by
  unfold index
  rw [hp, if_neg (by decide), h, if_neg (by simp)]
  omega
theorem index_com : ∀ (x r : List UInt8), noDD x = true → index (x ++ 45 :: 45 :: 62 :: r) [45, 45, 62] = (x.length : Int)
  | [], r, _ => by unfold index; rfl
  | [c], r, h => by
    have hc : ¬ (45 : UInt8) = c := fun e => by rw [← e] at h; exact absurd h (by decide)
    have hp : List.isPrefixOf [45, 45, 62] (c :: (([] : List UInt8) ++ 45 :: 45 :: 62 :: r)) = false := by
      show ((45 == c) && _) = false
      rw [beq_eq_false_iff_ne.2 hc]; rfl
    exact index_step hp (index_com [] r rfl)
  | c :: d :: t, r, h => by
    unfold noDD at h
    rw [Bool.and_eq_true] at h
    refine index_step ?_ (index_com (d :: t) r h.2)
    have h1 := h.1
    by_cases hc : (45 : UInt8) = c
    · by_cases hd : (45 : UInt8) = d
      · rw [← hc, ← hd] at h1; exact absurd h1 (by decide)
      · simp [List.isPrefixOf, hd]
    · simp [List.isPrefixOf, hc]
theorem com_pass {D u r : List UInt8} {p : Nat} (hu : noDD u = true) (hm : mayC u = true) (hd : D.drop p = bCom ++ (u ++ (eCom ++ r))) : passAllS D (P_ p) = passAllS D (P_ (p + (bCom ++ (u ++ eCom)).length)) := by
  have hl0 : D.length = p + (bCom ++ (u ++ eCom)).length + r.length := by
    have h1 := congrArg List.length hd
    rw [List.length_drop] at h1
    simp [bCom, eCom] at h1 ⊢
    omega
  have hs1 := stands_yes hd
  have hd2 : D.drop (p + bCom.length) = u ++ (eCom ++ r) := drop_on hd
  have hlen : (bCom ++ (u ++ eCom)).length = u.length + 7 := by simp [bCom, eCom]
  have h1 : passS bCom eCom mayC D (P_ p) = P_ (p + (bCom ++ (u ++ eCom)).length) := by
    have hc : passC bCom eCom D (P_ p) = (u, r, true) := by
      unfold passC
      show cut (D.drop (p + bCom.length)) eCom = _
      rw [hd2]
      have hi : index (u ++ (eCom ++ r)) eCom = (u.length : Int) := index_com u r hu
      unfold cut
      rw [hi, if_pos (by omega)]
      simp [eCom]
    unfold passS
    rw [hc, if_pos ⟨rfl, hm⟩]
    show P_ (D.length - r.length) = _
    congr 1
    omega
  have e1 : passAllS D (P_ p) = passF D.length D (P_ (p + (bCom ++ (u ++ eCom)).length)) := by
    unfold passAllS
    conv => lhs; unfold passF
    rw [if_pos (show (P_ p).err = 0 from rfl), if_pos hs1, h1]
  rw [e1]
  exact pass_fuel D _ _ _ (by show p + (bCom ++ (u ++ eCom)).length ≤ _; omega) (by show D.length - (p + (bCom ++ (u ++ eCom)).length) < _; omega) (by show D.length - (p + (bCom ++ (u ++ eCom)).length) < _; omega)
theorem hint_pass {D u r : List UInt8} {p : Nat} (hu : ∀ c ∈ u, c ≠ 63) (hd : D.drop p = bHint ++ (u ++ (eHint ++ r))) : passAllS D (P_ p) = passAllS D (P_ (p + (bHint ++ (u ++ eHint)).length)) := by
  have hl0 : D.length = p + (bHint ++ (u ++ eHint)).length + r.length := by
    have h1 := congrArg List.length hd
    rw [List.length_drop] at h1
    simp [bHint, eHint] at h1 ⊢
    omega
  have hs1 := stands_yes hd
  have hno : standsS bCom D (P_ p) = false := stands_no2 (x := [45, 45]) (show D.drop p = 60 :: 63 :: (u ++ (eHint ++ r)) from hd) (by decide)
  have hd2 : D.drop (p + bHint.length) = u ++ (eHint ++ r) := drop_on hd
  have hlen : (bHint ++ (u ++ eHint)).length = u.length + 4 := by simp [bHint, eHint]
  have h1 : passS bHint eHint mayH D (P_ p) = P_ (p + (bHint ++ (u ++ eHint)).length) := by
    have hc : passC bHint eHint D (P_ p) = (u, r, true) := by
      unfold passC
      show cut (D.drop (p + bHint.length)) eHint = _
      rw [hd2]
      have hi : index (u ++ (eHint ++ r)) eHint = (u.length : Int) := index_hint u r hu
      unfold cut
      rw [hi, if_pos (by omega)]
      simp [eHint]
    unfold passS
    rw [hc, if_pos ⟨rfl, rfl⟩]
    show P_ (D.length - r.length) = _
    congr 1
    omega
  have e1 : passAllS D (P_ p) = passF D.length D (P_ (p + (bHint ++ (u ++ eHint)).length)) := by
    unfold passAllS
    conv => lhs; unfold passF
    rw [if_pos (show (P_ p).err = 0 from rfl), if_neg (by rw [hno]; decide), if_pos hs1, h1]
  rw [e1]
  exact pass_fuel D _ _ _ (by show p + (bHint ++ (u ++ eHint)).length ≤ _; omega) (by show D.length - (p + (bHint ++ (u ++ eHint)).length) < _; omega) (by show D.length - (p + (bHint ++ (u ++ eHint)).length) < _; omega)
theorem run_pass {D : List UInt8} {p q : Nat} (h : passAllS D (P_ p) = passAllS D (P_ q)) {Q : Pc} {k : Nat} (hn : nextP D (P_ q) = Q ∧ nextS D (P_ q) = P_ k) : nextP D (P_ p) = Q ∧ nextS D (P_ p) = P_ k := by
  have e : nextP D (P_ p) = nextP D (P_ q) ∧ nextS D (P_ p) = nextS D (P_ q) := by
    unfold nextP nextS
    rw [h]
    exact ⟨rfl, rfl⟩
  exact ⟨e.1.trans hn.1, e.2.trans hn.2⟩
theorem step_blank {v : List UInt8} {p : Nat} (ht : trimL v = []) (L : List Tell) (c : Nat) : step ⟨4, [], [], v, p⟩ (.before, L, c) = .ok (.before, L, c) ∧ ∀ x, step ⟨4, [], [], v, p⟩ (.behind x, L, c) = .ok (.behind x, L, c) := by
  have hb : blankP ⟨4, [], [], v, p⟩ := ⟨rfl, ht⟩
  exact ⟨by show (if _ then _ else _) = _; rw [if_pos hb], fun x => by show (if _ then _ else _) = _; rw [if_pos hb]⟩
/-- A document is read as the element that it was written of, whatever says nothing around it. -/
theorem root {x : Nd} {u D : List UInt8} (hx : NearN x) (hu : noDD u = true) (hm : mayC u = true) (hl : D.length ≤ 200000) (hL : Lets D) (hc : x.count ≤ 2000) (hdep : x.depth ≤ 32)
    (hD : D = [32] ++ 60 :: ([33, 45, 45] ++ (u ++ (eCom ++ (10 :: (bodyT x bNone [] ++ (10 :: 9 :: (bHint ++ ([120] ++ (eHint ++ []))))))))) ) : parseL D = .ok x := by
  show runAt D (newS D) (.before, tells0, 0) = _
  rw [new_P0 hl hL]
  have d0 : D.drop 0 = [32] ++ 60 :: ([33, 45, 45] ++ (u ++ (eCom ++ (10 :: (bodyT x bNone [] ++ (10 :: 9 :: (bHint ++ ([120] ++ (eHint ++ []))))))))) := by rw [List.drop_zero]; exact hD
  have l32 : Lets [32] := blanks_lets (fun c h => .inl (List.mem_singleton.1 h))
  have l10 : Lets [10] := blanks_lets (fun c h => .inr (List.mem_singleton.1 h))
  have l9 : Lets [10, 9] := ⟨[10, 9], by decide, by kernel_rfl⟩
  have h0 := text_raw l32 (by simp) (by decide) (.inr ⟨_, rfl⟩) d0
  have d1 : D.drop (0 + ([32] : List UInt8).length) = bCom ++ (u ++ (eCom ++ (10 :: (bodyT x bNone [] ++ (10 :: 9 :: (bHint ++ ([120] ++ (eHint ++ [])))))))) := drop_on d0
  have hpass := com_pass hu hm d1
  obtain ⟨t, ht⟩ := body_head x bNone []
  have d2 : D.drop (0 + ([32] : List UInt8).length + (bCom ++ (u ++ eCom)).length) = [10] ++ (bodyT x bNone [] ++ (10 :: 9 :: (bHint ++ ([120] ++ (eHint ++ []))))) := drop_on (by rw [d1]; simp)
  generalize 0 + ([32] : List UInt8).length + (bCom ++ (u ++ eCom)).length = p1 at hpass d2
  have h1 := text_raw l10 (by simp) (by decide) (.inr ⟨t ++ (10 :: 9 :: (bHint ++ ([120] ++ (eHint ++ [])))), by rw [ht]; rfl⟩) d2
  have d3 := drop_on d2
  have hle0 : 0 + ([32] : List UInt8).length ≤ D.length := drop_le d0 (by decide)
  have hle3 : p1 + ([10] : List UInt8).length ≤ D.length := drop_le d2 (by decide)
  rw [run_piece (Nat.zero_le _) h0 (show (4 : Int) ≠ 0 by decide), (step_blank (by kernel_rfl) _ _).1]
  show runAt D (P_ (0 + ([32] : List UInt8).length)) _ = _
  rw [run_piece hle0 (run_pass hpass h1) (show (4 : Int) ≠ 0 by decide), (step_blank (by kernel_rfl) _ _).1]
  show runAt D (P_ (p1 + ([10] : List UInt8).length)) _ = _
  obtain ⟨Q, q, hQ, hq, hop, hrun⟩ := takes hx bNone [] D _ (p1 + ([10] : List UInt8).length) [] tells0 0 ⟨by kernel_rfl, by decide⟩ d3 (fun _ h => by cases h) (by omega) (by rw [List.length_nil]; omega)
  have hk0 : Q.kind ≠ 0 ∧ Q.kind ≠ 4 := by rcases hop with h | h <;> rw [h] <;> decide
  have hst : step Q (.before, tells0, 0) = opn Q [] tells0 0 := by
    show (if _ then _ else _) = _
    rw [if_neg (fun h => hk0.2 h.1), if_pos hop]
  rw [run_piece hle3 ⟨hQ, hq⟩ hk0.1, hst, hrun]
  have d4 : D.drop (p1 + ([10] : List UInt8).length + (bodyT x bNone []).length) = [10, 9] ++ 60 :: ([63] ++ ([120] ++ (eHint ++ []))) := drop_on d3
  have d5 : D.drop (p1 + ([10] : List UInt8).length + (bodyT x bNone []).length + ([10, 9] : List UInt8).length) = bHint ++ ([120] ++ (eHint ++ [])) := drop_on d4
  have hle4 : p1 + ([10] : List UInt8).length + (bodyT x bNone []).length ≤ D.length := Nat.le_of_lt (drop_lt (c := 10) (r := 9 :: (60 :: ([63] ++ ([120] ++ (eHint ++ []))))) d4)
  have hle5 : p1 + ([10] : List UInt8).length + (bodyT x bNone []).length + ([10, 9] : List UInt8).length ≤ D.length := drop_le d4 (by decide)
  generalize p1 + ([10] : List UInt8).length + (bodyT x bNone []).length = p2 at d4 d5 hle4 hle5
  have h4 := text_raw l9 (by simp) (by decide) (.inr ⟨_, rfl⟩) d4
  rw [run_piece hle4 h4 (show (4 : Int) ≠ 0 by decide)]
  show ((step _ (.behind x, tells0, _)).on _) = _
  rw [(step_blank (by kernel_rfl) _ _).2]
  show runAt D (P_ (p2 + ([10, 9] : List UInt8).length)) _ = _
  have d6 : D.drop (p2 + ([10, 9] : List UInt8).length + (bHint ++ ([120] ++ eHint)).length) = [] := drop_on (by rw [d5]; rfl)
  have hle6 := drop_le (x := bHint ++ ([120] ++ eHint)) (r := []) (by rw [d5]; rfl) (by decide)
  have h6 := run_pass (hint_pass (by decide) d5) (next_end d6 hle6)
  unfold runAt
  rw [toks_fin (by rw [h6.2]; rfl) (by rw [h6.1]; rfl)]
  rfl
theorem index_no {c : UInt8} {t s : List UInt8} (hp : List.isPrefixOf s (c :: t) = false) (h : index t s = -1) : index (c :: t) s = -1 := by
  unfold index
  rw [hp, if_neg (by decide), h]
  rfl
theorem index_dd : ∀ x : List UInt8, noDD x = true → index x [45, 45] = -1
  | [], _ => rfl
  | [c], _ => index_no (by simp [List.isPrefixOf]) rfl
  | c :: d :: t, h => by
    unfold noDD at h
    rw [Bool.and_eq_true] at h
    refine index_no ?_ (index_dd (d :: t) h.2)
    have h1 := h.1
    by_cases hc : (45 : UInt8) = c
    · by_cases hd : (45 : UInt8) = d
      · rw [← hc, ← hd] at h1; exact absurd h1 (by decide)
      · simp [List.isPrefixOf, hd]
    · simp [List.isPrefixOf, hc]
theorem last_dd : ∀ x : List UInt8, noDD x = true → hasSuffix x [45] = false
  | [], _ => rfl
  | [c], h => by
    unfold hasSuffix
    rw [Bool.eq_false_iff]
    intro hs
    have := List.isSuffixOf_iff_suffix.1 hs
    obtain ⟨t, ht⟩ := this
    cases t with
    | nil => obtain rfl : (45 : UInt8) = c := by simpa using ht
             exact absurd h (by decide)
    | cons a t => exact absurd (congrArg List.length ht) (by simp)
  | c :: d :: t, h => by
    have h0 := h
    unfold noDD at h
    rw [Bool.and_eq_true] at h
    have ih := last_dd (d :: t) h.2
    unfold hasSuffix at ih ⊢
    rw [Bool.eq_false_iff] at ih ⊢
    intro hs
    obtain ⟨u, hu⟩ := List.isSuffixOf_iff_suffix.1 hs
    cases u with
    | nil => exact absurd (congrArg List.length hu) (by simp)
    | cons a u => exact ih (List.isSuffixOf_iff_suffix.2 ⟨u, by simpa using (List.cons.inj hu).2⟩)
theorem dd_may {x : List UInt8} (h : noDD x = true) : mayC x = true := by
  unfold mayC contains
  rw [index_dd x h, last_dd x h]
  rfl

end Go.Proofs.YtekmenkebokdoaaGreatDoor
