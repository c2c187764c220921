/-
  Elements that may be, whatever their names: their documents are taken as they are; plain mathematics.
  The walk of galliardref06.Text.
-/
import Derived.Test.YtincdacickhdkaaGreatDoorW6
import Derived.Test.YtincdacickhdkaaGreatDoorW16
import Derived.Test.YtincdacickhdkaaGreatDoorW12
import Derived.Test.YtincdacickhdkaaGreatDoorW8
import Derived.BigQuiet
import Derived.Deep.QuietTactic
import Derived.Deep.RegionWith
namespace Go.Proofs.YtincdacickhdkaaGreatDoor
open Go Go.RowKit Go.Lib
set_option maxRecDepth 100000

/-! ### letters -/
theorem gl_tk {l : List UInt8} (h : (gl l).2 ≠ 0) : put (gl l).1 = l.take (gl l).2.toNat ∧ 1 ≤ (gl l).2.toNat ∧ (gl l).2.toNat ≤ l.length := by
  have key : ∀ f n, 1 ≤ n → (refFrom f n l).2 ≠ 0 → put (refFrom f n l).1 = l.take (refFrom f n l).2.toNat ∧ 1 ≤ (refFrom f n l).2.toNat ∧ (refFrom f n l).2.toNat ≤ l.length := by
    intro f
    induction f with
    | zero => intro n _ h; exact absurd rfl h
    | succ f ih =>
      intro n hn h
      by_cases a : n ≤ l.length
      · by_cases b : put (candN n l) = l.take n
        · rw [refFrom_hit f n l a b]
          exact ⟨by simpa using b, by simpa using hn, by simpa using a⟩
        · rw [refFrom_miss f n l a b] at h ⊢
          exact ih (n + 1) (by omega) h
      · rw [refFrom_out _ _ _ a] at h
        exact absurd rfl h
  rw [gl_from] at h ⊢
  exact key 4 1 (Nat.le_refl _) h
theorem gl_split {l : List UInt8} (h : (gl l).2 ≠ 0) : l = put (gl l).1 ++ l.drop (gl l).2.toNat := by
  rw [(gl_tk h).1, List.take_append_drop]
/-- Bytes of letters. -/
def Utf (l : List UInt8) : Prop := ∃ rs : List Int, (∀ r ∈ rs, mayB r = true) ∧ l = rs.flatMap put
theorem Utf.nil : Utf [] := ⟨[], fun _ h => (by cases h), rfl⟩
theorem Utf.append {l m : List UInt8} (h : Utf l) (k : Utf m) : Utf (l ++ m) := by
  obtain ⟨a, ha, rfl⟩ := h
  obtain ⟨b, hb, rfl⟩ := k
  refine ⟨a ++ b, fun r hr => ?_, by rw [List.flatMap_append]⟩
  rcases List.mem_append.1 hr with h | h
  · exact ha r h
  · exact hb r h
theorem Lets.utf {l : List UInt8} (h : Lets l) : Utf l := by
  obtain ⟨rs, h1, h2⟩ := h
  exact ⟨rs, fun r hr => let_may r (h1 r hr), h2⟩
theorem run_utf0 : ∀ rs : List Int, (∀ r ∈ rs, mayB r = true) → (runL (rs.flatMap put)).2 = (rs.flatMap put).length
  | [], _ => rfl
  | r :: rs, h => by
    have hr := h r (List.mem_cons_self ..)
    have ih := run_utf0 rs (fun x hx => h x (List.mem_cons_of_mem _ hx))
    rw [List.flatMap_cons]
    have hg := gl_put r hr (rs.flatMap put)
    have hp := put_pos r hr
    rw [runL_step _ (by rw [hg]; simp only; omega), hg]
    simp only [Int.toNat_natCast]
    rw [List.drop_left, ih, List.length_append]; omega
theorem Utf.ok {l : List UInt8} (h : Utf l) : badL l = -1 := by
  obtain ⟨rs, h1, rfl⟩ := h
  unfold badL
  rw [run_utf0 rs h1, if_neg (Nat.lt_irrefl _)]
theorem utf_of_bad : ∀ (n : Nat) (l : List UInt8), l.length ≤ n → badL l < 0 → Utf l
  | 0, l, hl, _ => by
    obtain rfl : l = [] := List.eq_nil_of_length_eq_zero (by omega)
    exact Utf.nil
  | n + 1, l, hl, h => by
    by_cases h0 : l = []
    · subst h0; exact Utf.nil
    have hp : 0 < l.length := List.length_pos_iff.2 h0
    have hr : (runL l).2 = l.length := by
      unfold badL at h
      have := (runL_le l).2
      by_cases hc : (runL l).2 < l.length
      · rw [if_pos hc] at h; omega
      · omega
    have hg : (gl l).2 ≠ 0 := fun e => by
      rw [runL_stop l e] at hr
      have : (0 : Nat) = l.length := hr
      omega
    have ht := gl_tk hg
    rw [runL_step l hg] at hr
    have hr' : (runL (l.drop (gl l).2.toNat)).2 + (gl l).2.toNat = l.length := hr
    have hd : (runL (l.drop (gl l).2.toNat)).2 = (l.drop (gl l).2.toNat).length := by rw [List.length_drop]; omega
    have ih := utf_of_bad n (l.drop (gl l).2.toNat) (by rw [List.length_drop]; omega) (by unfold badL; rw [hd, if_neg (Nat.lt_irrefl _)]; decide)
    rw [gl_split hg]
    have h1 : Utf (put (gl l).1) := ⟨[(gl l).1], fun r hr => by rw [List.mem_singleton.1 hr]; exact gl_may l hg, by simp⟩
    exact h1.append ih
/-! ### names -/
theorem name_facts {l : List UInt8} (h : nameL l = true) : l ≠ [] ∧ l.length ≤ 60 ∧ startB (nth l 0) = true ∧ (∀ c ∈ l, partB (c.toNat : Int) = true) ∧ badL l < 0 := by
  unfold nameL at h; exact of_decide_eq_true h
theorem part_no {c : UInt8} (h : partB (c.toNat : Int) = true) : c ≠ 58 ∧ c ≠ 62 ∧ c ≠ 47 ∧ c ≠ 33 ∧ c ≠ 63 ∧ bb c = false ∧ c ≠ 60 ∧ c ≠ 32 := by
  have key : ∀ i : Fin 256, partB ((UInt8.ofNat i.val).toNat : Int) = true → UInt8.ofNat i.val ≠ 58 ∧ UInt8.ofNat i.val ≠ 62 ∧ UInt8.ofNat i.val ≠ 47 ∧ UInt8.ofNat i.val ≠ 33 ∧ UInt8.ofNat i.val ≠ 63 ∧ bb (UInt8.ofNat i.val) = false ∧ UInt8.ofNat i.val ≠ 60 ∧ UInt8.ofNat i.val ≠ 32 := by decide +kernel
  have := key ⟨c.toNat, UInt8.toNat_lt c⟩
  rw [show UInt8.ofNat c.toNat = c by simp] at this
  exact this h
theorem part_colon {l : List UInt8} (h : ∀ c ∈ l, partB (c.toNat : Int) = true) : colonAt l = l.length := by
  induction l with
  | nil => rfl
  | cons c l ih => rw [colonAt_miss c l (part_no (h c (List.mem_cons_self ..))).1, ih (fun x hx => h x (List.mem_cons_of_mem _ hx)), List.length_cons]
theorem name_split {l : List UInt8} (h : nameL l = true) : splitL l = ([], l, true) := by
  rw [split_none _ (part_colon (name_facts h).2.2.2.1), h]
theorem name_nm {l : List UInt8} (h : nameL l = true) : Nm l :=
  ⟨fun c hc => by unfold nb; rw [(name_facts h).2.2.2.1 c hc]; rfl, by rw [name_split h]⟩
theorem name_cons {l : List UInt8} (h : nameL l = true) : ∃ c r, l = c :: r ∧ partB (c.toNat : Int) = true := by
  have hf := name_facts h
  cases l with
  | nil => exact absurd rfl hf.1
  | cons c r => exact ⟨c, r, rfl, hf.2.2.2.1 c (List.mem_cons_self ..)⟩
theorem name_utf {l : List UInt8} (h : nameL l = true) : Utf l := utf_of_bad l.length l (Nat.le_refl _) (name_facts h).2.2.2.2
/-- An attribute that may be. -/
structure GA (a : Att) : Prop where
  nm : nameL (bl a.1) = true
  no : ¬ a.1 = bXmlns
  lets : Lets (bl a.2)
/-- An element that may be. -/
inductive MayN : Nd → Prop where
  | mk (s n t : ByteArray) (A : List Att) (K : List Nd) (hn : nameL (bl n) = true) (hs : Lets (bl s)) (ht : Lets (bl t)) (htr : trimL (bl t) = bl t)
    (hA : ∀ a ∈ A, GA a) (hAd : A.Pairwise (fun x y => (bl x.1 == bl y.1) = false)) (hAl : A.length ≤ 15)
    (hKt : K = [] ∨ bl t = []) (hK : ∀ k ∈ K, MayN k) : MayN (.mk s n A K t)
theorem tell_g {n : ByteArray} (h : nameL (bl n) = true) (hno : ¬ n = bXmlns) : (tellS n).2 = false := by
  unfold tellS
  rw [if_neg hno]
  show Lib.hasPrefix n.data.toList _ = false
  cases hc : Lib.hasPrefix n.data.toList bXmlnsC.data.toList with
  | false => rfl
  | true =>
    exfalso
    unfold Lib.hasPrefix at hc
    obtain ⟨t, ht⟩ := List.isPrefixOf_iff_prefix.1 hc
    have hm : (58 : UInt8) ∈ bl n := by
      show (58 : UInt8) ∈ n.data.toList
      rw [← ht]
      exact List.mem_append_left _ (by decide)
    exact (part_no ((name_facts h).2.2.2.1 58 hm)).1 rfl
theorem enter_own_g (d : Nat) (L : List Tell) : ∀ (A R : List Att), (∀ a ∈ A, (tellS a.1).2 = false) → enterL d A R L = (R ++ A, 0, L)
  | [], R, _ => by simp [enterL]
  | a :: A, R, h => by
    unfold enterL
    rw [if_pos (h a (List.mem_cons_self ..)), enter_own_g d L A (R ++ [a]) fun x hx => h x (List.mem_cons_of_mem _ hx)]
    simp
theorem enter_tag_g (s sp : ByteArray) (A : List Att) (d : Nat) (L : List Tell) (hL : L.length < 100) (hA : ∀ a ∈ A, GA a) : enterL d (toAtt (tagA s sp A)) [] L = (A, 0, L ++ newL s sp d) := by
  have hA' : ∀ a ∈ A, (tellS a.1).2 = false := fun a ha => tell_g (hA a ha).nm (hA a ha).no
  rw [toAtt_tag]
  unfold newL
  split
  · rw [List.nil_append, enter_own_g d L A [] hA', List.append_nil]; rfl
  · show enterL d ((bXmlns, s) :: A) [] L = _
    unfold enterL
    have ht : tellS bXmlns = (bNone, true) := by kernel_rfl
    have hk : knowE L bNone s = 0 := by
      unfold knowE
      rw [if_neg (by rintro (h | h | h); exact absurd h (by decide); exact absurd h (by decide); exact h.1 rfl), if_neg (by omega)]
    rw [if_neg (by rw [ht]; decide), if_pos (by rw [ht]; exact hk), ht]
    exact enter_own_g d _ A [] hA'
theorem name_own_g {L : List Tell} {s n : ByteArray} (h : ofT L bNone = some s) (hn : nameL (bl n) = true) : nameSp L (str (bl n)) = (s, n, true) := by
  rw [str_bl_]
  unfold nameSp
  rw [name_split hn]
  have e0 : str ([] : List UInt8) = bNone := rfl
  unfold nameZ
  rw [if_neg (show ¬ true = false by decide), e0, h, str_bl_]
theorem enter_g {s n sp : ByteArray} {A : List Att} {L : List Tell} {d c p : Nat} {kd : Int} (hL : Knows L sp d) (hd : d < 32) (hc : c < 2000) (hn : nameL (bl n) = true) (hA : ∀ a ∈ A, GA a) :
    enterR ⟨kd, bl n, tagA s sp A, [], p⟩ d L c = .ok (⟨bl n, p, s, n, A, [], [], L⟩, L ++ newL s sp (d + 1)) := by
  unfold enterR
  rw [if_pos hc, if_pos hd]
  show enterC _ (enterL (d + 1) (toAtt (tagA s sp A)) [] L) (nameSp (enterL (d + 1) (toAtt (tagA s sp A)) [] L).2.2 (str (bl n))) L = _
  rw [enter_tag_g s sp A (d + 1) L (by have := hL.few; omega) hA, name_own_g (of_new hL.of) hn]
  have hok : attsOk A = true := List.all_eq_true.2 fun a ha => (hA a ha).nm
  unfold enterC
  rw [if_pos rfl, if_pos rfl, if_pos hok]
theorem at_head {l : List UInt8} (h : nameL l = true) : ∃ c r, l = c :: r ∧ bb c = false ∧ c ≠ 62 ∧ c ≠ 47 := by
  obtain ⟨c, r, e, hp⟩ := name_cons h
  have := part_no hp
  exact ⟨c, r, e, this.2.2.2.2.2.1, this.2.1, this.2.2.1⟩
theorem tag_ok_g {s sp : ByteArray} {A : List Att} (hs : Lets (bl s)) (hA : ∀ a ∈ A, GA a) : ∀ a ∈ tagA s sp A, AtOk a := by
  have hown : ∀ a ∈ A.map (fun a => (bl a.1, bl a.2)), AtOk a := fun a ha => by
    obtain ⟨y, hy, rfl⟩ := List.mem_map.1 ha
    have h := hA y hy
    exact ⟨name_nm h.nm, h.lets, at_head h.nm⟩
  intro a ha
  unfold tagA at ha
  split at ha
  · exact hown a ha
  · rcases List.mem_append.1 ha with h | h
    · rw [List.mem_singleton.1 h]
      exact ⟨ok_nm (by decide) (by decide) (by decide), hs, ⟨120, [109, 108, 110, 115], rfl, by kernel_rfl, by decide, by decide⟩⟩
    · exact hown a h
theorem tag_pair_g {s sp : ByteArray} {A : List Att} (hA : ∀ a ∈ A, GA a) (hd : A.Pairwise (fun x y => (bl x.1 == bl y.1) = false)) : (tagA s sp A).Pairwise (fun x y => (x.1 == y.1) = false) := by
  have h2 : (A.map (fun a => (bl a.1, bl a.2))).Pairwise (fun x y => (x.1 == y.1) = false) := List.pairwise_map.2 hd
  unfold tagA
  split
  · exact h2
  · refine List.pairwise_append.2 ⟨List.pairwise_singleton _ _, h2, fun x hx y hy => ?_⟩
    rw [List.mem_singleton.1 hx]
    obtain ⟨z, hz, rfl⟩ := List.mem_map.1 hy
    have h := (hA z hz).no
    show (bXm == bl z.1) = false
    refine beq_eq_false_iff_ne.2 fun e => h ?_
    rw [← bl_str z.1, ← e]; rfl
theorem open_g {D r e : List UInt8} {p : Nat} {kd : Int} {s sp n : ByteArray} {A : List Att} (hn : nameL (bl n) = true) (hs : Lets (bl s)) (hA : ∀ a ∈ A, GA a)
    (hAd : A.Pairwise (fun x y => (bl x.1 == bl y.1) = false)) (hAl : A.length ≤ 15) (he : Ends e kd) (hd : D.drop p = 60 :: (bl n ++ (atsT [32] (tagA s sp A) ++ (e ++ r)))) :
    nextP D (P_ p) = ⟨kd, bl n, tagA s sp A, [], p⟩ ∧ nextS D (P_ p) = P_ (p + (1 + (bl n).length + (atsT [32] (tagA s sp A)).length + e.length)) := by
  have h := open_on (D := D) (b := [32]) (eb := []) (e := e) (r := r) (kd := kd) (p := p) (name_nm hn) (by obtain ⟨c, r, e, hp⟩ := name_cons hn; have := part_no hp; exact ⟨c, r, e, this.2.2.1, this.2.2.2.1, this.2.2.2.2.1⟩) (by decide) (by decide) (by decide) (fun _ h => by cases h) (fun _ h => by cases h) he
    (tag_ok_g hs hA) (tag_pair_g hA hAd) (tag_len hAl) hd
  exact h
theorem start_g {s n sp : ByteArray} {A : List Att} {D e r : List UInt8} {p c : Nat} {kd : Int} {S : List Fr} {L : List Tell} (hL : Knows L sp S.length) (hS : S.length < 32) (hc : c < 2000) (hn : nameL (bl n) = true) (hs : Lets (bl s)) (hA : ∀ a ∈ A, GA a) (hAd : A.Pairwise (fun x y => (bl x.1 == bl y.1) = false)) (hAl : A.length ≤ 15) (he : Ends e kd) (hd : D.drop p = 60 :: (bl n ++ (atsT [32] (tagA s sp A) ++ (e ++ r)))) :
    ∃ Q q, nextP D (P_ p) = Q ∧ nextS D (P_ p) = P_ q ∧ opens Q ∧ q = p + (1 + (bl n).length + (atsT [32] (tagA s sp A)).length + e.length) ∧ D.drop q = r ∧ q ≤ D.length ∧
      opn Q S L c = if kd = 1 then .ok (.inside ⟨bl n, p, s, n, A, [], [], L⟩ S, L ++ newL s sp (S.length + 1), c + 1) else .ok (give (.mk s n A [] (str [])) S, L, c + 1) := by
  obtain ⟨h1, h2⟩ := open_g hn hs hA hAd hAl he hd
  have hd1 : D.drop p = (60 :: (bl n ++ (atsT [32] (tagA s sp A) ++ e))) ++ r := by rw [hd]; simp
  have el : p + (60 :: (bl n ++ (atsT [32] (tagA s sp A) ++ e))).length = p + (1 + (bl n).length + (atsT [32] (tagA s sp A)).length + e.length) := by simp; omega
  have h3 := drop_on hd1
  have h4 := drop_le hd1 (by simp)
  rw [el] at h3 h4
  refine ⟨_, _, h1, h2, ?_, rfl, h3, h4, ?_⟩
  · rcases he with ⟨_, h⟩ | ⟨_, h⟩
    · exact .inl h
    · exact .inr h
  · unfold opn
    rw [enter_g hL hS hc hn hA]
    rfl
theorem takes_mk_g {s n t : ByteArray} {A : List Att} {K : List Nd} (hn : nameL (bl n) = true) (hs : Lets (bl s)) (ht : Lets (bl t)) (htr : trimL (bl t) = bl t) (hA : ∀ a ∈ A, GA a)
    (hAd : A.Pairwise (fun x y => (bl x.1 == bl y.1) = false)) (hAl : A.length ≤ 15) (hKt : K = [] ∨ bl t = []) (hK : ∀ k ∈ K, Takes k) : Takes (.mk s n A K t) := by
  intro sp pad D r p S L c hL hd hpad hc hdep
  have hcnt : (Nd.mk s n A K t).count = 1 + countK K := by rw [Nd.count]
  have hdp : (Nd.mk s n A K t).depth = 1 + depthK K := by rw [Nd.depth]
  rw [hcnt] at hc ⊢
  rw [hdp] at hdep
  have hnm := name_nm hn
  by_cases hK0 : K.isEmpty = true
  · have hK1 : K = [] := List.isEmpty_iff.1 hK0
    subst hK1
    by_cases ht0 : bl t = []
    · have ht1 : str [] = t := by rw [← ht0, str_bl_]
      have hb : bodyT (.mk s n A [] t) sp pad = 60 :: (bl n ++ (atsT [32] (tagA s sp A) ++ [47, 62])) := by
        rw [bodyT, if_pos hK0, if_pos ht0]
      rw [hb] at hd ⊢
      obtain ⟨Q, q, h1, h2, h3, hq, -, -, ho⟩ := start_g (e := [47, 62]) (kd := 3) (r := r) (c := c) hL (by omega) (by omega) hn hs hA hAd hAl (.inr ⟨rfl, rfl⟩) (by rw [hd]; simp)
      refine ⟨Q, q, h1, h2, h3, ?_⟩
      have el : p + (60 :: (bl n ++ (atsT [32] (tagA s sp A) ++ [47, 62]))).length = q := by rw [hq]; simp; omega
      rw [ho, el, if_neg (by decide), ht1, countK]
      rfl
    · have hb : bodyT (.mk s n A [] t) sp pad = 60 :: (bl n ++ (atsT [32] (tagA s sp A) ++ 62 :: (closeL (bl t) ++ (60 :: 47 :: (bl n ++ [62]))))) := by
        rw [bodyT, if_pos hK0, if_neg ht0]
      rw [hb] at hd ⊢
      obtain ⟨Q, q, h1, h2, h3, hq, hdq, hql, ho⟩ := start_g (e := [62]) (kd := 1) (r := closeL (bl t) ++ (60 :: 47 :: (bl n ++ 62 :: r))) (c := c) hL (by omega) (by omega) hn hs hA hAd hAl (.inl ⟨rfl, rfl⟩) (by rw [hd]; simp)
      refine ⟨Q, q, h1, h2, h3, ?_⟩
      have h4 := text_on ht ht0 (.inr ⟨_, rfl⟩) hdq
      have hd5 := drop_on hdq
      have el : p + (60 :: (bl n ++ (atsT [32] (tagA s sp A) ++ 62 :: (closeL (bl t) ++ (60 :: 47 :: (bl n ++ [62])))))).length = q + (closeL (bl t)).length + (2 + (bl n).length + 1) := by rw [hq]; simp; omega
      rw [ho, el, if_pos rfl, countK]
      show runAt D (P_ q) _ = _
      rw [run_piece hql h4 (show (4 : Int) ≠ 0 by decide), step_in, if_neg (show ¬ (4 : Int) = 2 by decide), if_neg (by rintro (h | h) <;> exact absurd (show (4 : Int) = _ from h) (by decide))]
      show runAt D _ _ = _
      rw [shut_near (x := .mk s n A [] t) hnm rfl (by
        unfold shut
        rw [if_pos (.inr rfl)]
        show Res.ok (Nd.mk s n A [] (str (trimL (bl t)))) = _
        rw [htr, str_bl_]) hd5]
  · have hne : K ≠ [] := fun e => hK0 (by rw [e]; rfl)
    have ht0 : bl t = [] := hKt.resolve_left hne
    have ht1 : str [] = t := by rw [← ht0, str_bl_]
    have hb : bodyT (.mk s n A K t) sp pad = 60 :: (bl n ++ (atsT [32] (tagA s sp A) ++ 62 :: (kidsT K s (pad ++ [32]) ++ (10 :: (pad ++ (60 :: 47 :: (bl n ++ [62]))))))) := by
      rw [bodyT, if_neg hK0]
    rw [hb] at hd ⊢
    obtain ⟨Q, q, h1, h2, h3, hq, hdq, hql, ho⟩ := start_g (e := [62]) (kd := 1) (r := kidsT K s (pad ++ [32]) ++ (10 :: (pad ++ (60 :: 47 :: (bl n ++ 62 :: r))))) (c := c) hL (by omega) (by omega) hn hs hA hAd hAl (.inl ⟨rfl, rfl⟩) (by rw [hd]; simp)
    refine ⟨Q, q, h1, h2, h3, ?_⟩
    obtain ⟨tx', htx, h4⟩ := kids_run K hK s (pad ++ [32]) D _ q ⟨bl n, p, s, n, A, [], [], L⟩ S (L ++ newL s sp (S.length + 1)) (c + 1) hL.more hdq hql
      (fun b hb => by rcases List.mem_append.1 hb with h | h; exact hpad b h; exact List.mem_singleton.1 h) (by omega) (by rw [List.length_cons]; omega) (fun _ h => by cases h)
    have hd5 : D.drop (q + (kidsT K s (pad ++ [32])).length) = (10 :: pad) ++ 60 :: (47 :: (bl n ++ 62 :: r)) := drop_on hdq
    have hbl : ∀ b ∈ (10 :: pad), b = 32 ∨ b = 10 := fun b hb => by
      rcases List.mem_cons.1 hb with rfl | hb
      · exact .inr rfl
      · exact .inl (hpad b hb)
    have hd6 := drop_on hd5
    have el : p + (60 :: (bl n ++ (atsT [32] (tagA s sp A) ++ 62 :: (kidsT K s (pad ++ [32]) ++ (10 :: (pad ++ (60 :: 47 :: (bl n ++ [62])))))))).length = q + (kidsT K s (pad ++ [32])).length + (10 :: pad).length + (2 + (bl n).length + 1) := by rw [hq]; simp; omega
    rw [ho, el, if_pos rfl]
    show runAt D (P_ q) _ = _
    rw [h4, run_blanks hbl (by simp) hd5, shut_near (x := .mk s n A K t) hnm rfl (by
      unfold shut
      have htr2 : trimL (tx' ++ 10 :: pad) = [] := trim_blanks fun b hb => by
        rcases List.mem_append.1 hb with h | h
        · exact htx b h
        · exact hbl b h
      rw [if_pos (.inl htr2)]
      show Res.ok (Nd.mk s n A ([] ++ K) (str (trimL (tx' ++ 10 :: pad)))) = _
      rw [htr2, ht1]; rfl) hd6, Nat.add_assoc c]
theorem takes_g {x : Nd} (hx : MayN x) : Takes x := by
  induction hx with
  | mk s n t A K hn hs ht htr hA hAd hAl hKt _ ih => exact takes_mk_g hn hs ht htr hA hAd hAl hKt ih

/-- A document is read as the element that it was written of. -/
theorem new_U0 {D : List UInt8} (hl : D.length ≤ 200000) (hL : Utf D) : newS D = P_ 0 := by
  unfold newS
  rw [if_neg (by omega), if_neg (by rw [hL.ok]; decide)]
  rfl
theorem root_g {x : Nd} (hx : MayN x) (hl : (bodyT x bNone [] ++ [10]).length ≤ 200000) (hL : Utf (bodyT x bNone [] ++ [10])) (hc : x.count ≤ 2000) (hdep : x.depth ≤ 32) : parseL (bodyT x bNone [] ++ [10]) = .ok x := by
  generalize hD : bodyT x bNone [] ++ [10] = D at hl hL ⊢
  show runAt D (newS D) (.before, tells0, 0) = _
  rw [new_U0 hl hL]
  have d0 : D.drop 0 = bodyT x bNone [] ++ [10] := by rw [List.drop_zero, hD]
  have l10 : Lets [10] := blanks_lets (fun c h => .inr (List.mem_singleton.1 h))
  obtain ⟨Q, q, hQ, hq, hop, hrun⟩ := takes_g hx bNone [] D _ 0 [] tells0 0 ⟨by kernel_rfl, by decide⟩ d0 (fun _ h => by cases h) (by omega) (by rw [List.length_nil]; omega)
  have hk0 : Q.kind ≠ 0 ∧ Q.kind ≠ 4 := by rcases hop with h | h <;> rw [h] <;> decide
  have hst : step Q (.before, tells0, 0) = opn Q [] tells0 0 := by
    show (if _ then _ else _) = _
    rw [if_neg (fun h => hk0.2 h.1), if_pos hop]
  rw [run_piece (Nat.zero_le _) ⟨hQ, hq⟩ hk0.1, hst, hrun]
  have d1 : D.drop (0 + (bodyT x bNone []).length) = [10] ++ [] := drop_on d0
  have hle := drop_le d1 (by decide)
  have hle0 : 0 + (bodyT x bNone []).length ≤ D.length := by omega
  generalize 0 + (bodyT x bNone []).length = p at d1 hle hle0
  have h4 := text_raw l10 (by simp) (by decide) (.inl rfl) d1
  rw [run_piece hle0 h4 (show (4 : Int) ≠ 0 by decide)]
  show ((step _ (.behind x, tells0, _)).on _) = _
  rw [(step_blank (by kernel_rfl) _ _).2]
  show runAt D (P_ (p + ([10] : List UInt8).length)) _ = _
  have d2 : D.drop (p + ([10] : List UInt8).length) = [] := drop_on d1
  have h6 := next_end d2 hle
  unfold runAt
  rw [toks_fin (by rw [h6.2]; rfl) (by rw [h6.1]; rfl)]
  rfl
/-- Its text is one of letters. -/
theorem asc_utf (l : List UInt8) (h : ∀ c ∈ l, 32 ≤ c.toNat ∧ c.toNat < 128) : Utf l := (asc_lets l h).utf
theorem utf_cons {c : UInt8} {l : List UInt8} (h : 32 ≤ c.toNat ∧ c.toNat < 128) (hl : Utf l) : Utf (c :: l) := (lets_one c h).utf.append hl
theorem atsT_utf {b : List UInt8} (hb : Utf b) : ∀ A : List (List UInt8 × List UInt8), (∀ a ∈ A, Utf a.1 ∧ Lets a.2) → Utf (atsT b A)
  | [], _ => Utf.nil
  | a :: A, h => by
    have h1 := h a (List.mem_cons_self ..)
    unfold atsT
    rw [List.flatMap_cons]
    have h2 : Utf (atT a.1 a.2) := by
      unfold atT
      exact h1.1.append (utf_cons (by decide) (utf_cons (by decide) (h1.2.close.utf.append (utf_cons (by decide) Utf.nil))))
    exact (hb.append h2).append (atsT_utf hb A (fun x hx => h x (List.mem_cons_of_mem _ hx)))
theorem MayN.utf {x : Nd} (h : MayN x) : ∀ sp pad, (∀ b ∈ pad, b = 32) → Utf (bodyT x sp pad) := by
  induction h with
  | mk s n t A K hn hs ht htr hA hAd hAl hKt hK ih =>
    intro sp pad hpad
    have l10 : Utf [10] := (blanks_lets (fun c h => .inr (List.mem_singleton.1 h))).utf
    have hp : Utf pad := (blanks_lets (fun c h => .inl (hpad c h))).utf
    have hnm : Utf (bl n) := name_utf hn
    have hat : Utf (atsT [32] (tagA s sp A)) := atsT_utf (blanks_lets (fun c h => .inl (List.mem_singleton.1 h))).utf _ fun a ha => by
      unfold tagA at ha
      rcases List.mem_append.1 ha with h | h
      · split at h
        · cases h
        · rw [List.mem_singleton.1 h]
          exact ⟨asc_utf bXm (by decide), hs⟩
      · obtain ⟨y, hy, rfl⟩ := List.mem_map.1 h
        exact ⟨name_utf (hA y hy).nm, (hA y hy).lets⟩
    have hcl : Utf (60 :: 47 :: (bl n ++ [62])) := utf_cons (by decide) (utf_cons (by decide) (hnm.append (utf_cons (by decide) Utf.nil)))
    rw [bodyT]
    refine utf_cons (by decide) (hnm.append (hat.append ?_))
    split
    · split
      · exact asc_utf _ (by decide)
      · exact utf_cons (by decide) (ht.close.utf.append hcl)
    · refine utf_cons (by decide) (Utf.append ?_ (l10.append (hp.append hcl)))
      have hp2 : ∀ b ∈ pad ++ [32], b = 32 := fun b hb => by
        rcases List.mem_append.1 hb with h | h
        · exact hpad b h
        · exact List.mem_singleton.1 h
      have hpl : Utf (pad ++ [32]) := (blanks_lets (fun c h => .inl (hp2 c h))).utf
      have key : ∀ K : List Nd, (∀ k ∈ K, Utf (bodyT k s (pad ++ [32]))) → Utf (kidsT K s (pad ++ [32])) := by
        intro K
        induction K with
        | nil => intro _; rw [kidsT]; exact Utf.nil
        | cons k K ihK =>
          intro hk
          rw [kidsT]
          exact l10.append (hpl.append ((hk k (List.mem_cons_self ..)).append (ihK fun y hy => hk y (List.mem_cons_of_mem _ hy))))
      exact key K fun k hk => ih k hk s (pad ++ [32]) hp2
/-- What may be, is what is read of its text. -/
theorem parse_may {x : Nd} (hx : MayN x) (hl : (textT x ⟨#[]⟩ []).length ≤ 200000) (hc : x.count ≤ 2000) (hdep : x.depth ≤ 32) : parseL (textT x ⟨#[]⟩ []) = .ok x := by
  have l10 : Utf [10] := (blanks_lets (fun c h => .inr (List.mem_singleton.1 h))).utf
  have e : textT x ⟨#[]⟩ [] = bodyT x bNone [] ++ [10] := rfl
  rw [e] at hl ⊢
  exact root_g hx hl ((hx.utf bNone [] (fun b hb => by cases hb)).append l10) hc hdep
theorem near_name {n : List UInt8} (h : ∃ r, n = 110 :: r) (h2 : ∀ c ∈ n, okN c = true) (h3 : n.length ≤ 40) : nameL n = true := by
  obtain ⟨r, rfl⟩ := h
  exact ok_name h2 (by decide) (by simp at h3; omega)
theorem near_may {x : Nd} (h : NearN x) : MayN x := by
  induction h with
  | mk s n t A K hn hn2 hnl hs ht htr hA hAd hAl hKt hK ih =>
    refine .mk s n t A K (near_name hn hn2 hnl) hs ht htr (fun a ha => ?_) hAd hAl hKt ih
    obtain ⟨h1, h2, h3, h4⟩ := hA a ha
    refine ⟨near_name h1 h2 h3, fun e => ?_, h4⟩
    obtain ⟨r, hr⟩ := h1
    rw [e] at hr
    exact absurd (List.cons.inj hr).1 (by decide)

end Go.Proofs.YtincdacickhdkaaGreatDoor
namespace Go.Proofs.YtincdacickhdkaaGreatDoor
open Go Go.RowKit Go.Lib
set_option maxRecDepth 100000

theorem kidsT_app (s : ByteArray) (pad : List UInt8) : ∀ a b : List Nd, kidsT (a ++ b) s pad = kidsT a s pad ++ kidsT b s pad
  | [], b => by rw [List.nil_append, kidsT, List.nil_append]
  | x :: a, b => by rw [List.cons_append, kidsT, kidsT, kidsT_app s pad a b]; simp
theorem kidsT_take (s : ByteArray) (pad : List UInt8) (K : List Nd) (k : Nat) (h : k < K.length) : kidsT (K.take (k + 1)) s pad = kidsT (K.take k) s pad ++ (10 :: (pad ++ bodyT (K[k]'h) s pad)) := by
  rw [List.take_succ_eq_append_getElem h, kidsT_app, kidsT, kidsT]
  simp
def attL (A : List Att) : List UInt8 := atsT [32] (A.map fun a => (bl a.1, bl a.2))
theorem attL_take (A : List Att) (k : Nat) (h : k < A.length) : attL (A.take (k + 1)) = attL (A.take k) ++ (32 :: atT (bl (A[k]'h).1) (bl (A[k]'h).2)) := by
  unfold attL atsT
  rw [List.take_succ_eq_append_getElem h, List.map_append, List.flatMap_append]
  simp
def xmL (s sp : ByteArray) : List UInt8 := if s = sp then [] else 32 :: atT bXm (bl s)
theorem tag_parts (s sp : ByteArray) (A : List Att) : atsT [32] (tagA s sp A) = xmL s sp ++ attL A := by
  unfold tagA atsT xmL attL atsT
  rw [List.flatMap_append]
  congr 1
  split
  · rfl
  · simp
/-- Text's beginning, with so many attributes. -/
def headT (s n sp : ByteArray) (A : List Att) (pad : List UInt8) : List UInt8 := pad ++ (60 :: (bl n ++ (xmL s sp ++ attL A)))
theorem text_empty {s n t sp : ByteArray} {A : List Att} {pad : List UInt8} (ht : bl t = []) : textT (.mk s n A [] t) sp pad = headT s n sp A pad ++ [47, 62, 10] := by
  unfold textT headT
  rw [bodyT, if_pos (show ([] : List Nd).isEmpty = true from rfl), if_pos ht, tag_parts]
  simp
theorem text_text {s n t sp : ByteArray} {A : List Att} {pad : List UInt8} (ht : bl t ≠ []) : textT (.mk s n A [] t) sp pad = headT s n sp A pad ++ (62 :: (closeL (bl t) ++ (60 :: 47 :: (bl n ++ [62, 10])))) := by
  unfold textT headT
  rw [bodyT, if_pos (show ([] : List Nd).isEmpty = true from rfl), if_neg ht, tag_parts]
  simp
theorem text_kids {s n t sp : ByteArray} {A : List Att} {K : List Nd} {pad : List UInt8} (hK : K ≠ []) : textT (.mk s n A K t) sp pad = headT s n sp A pad ++ (62 :: (kidsT K s (pad ++ [32]) ++ (10 :: (pad ++ (60 :: 47 :: (bl n ++ [62, 10])))))) := by
  unfold textT headT
  rw [bodyT, if_neg (by cases K with | nil => exact absurd rfl hK | cons _ _ => intro h; cases h), tag_parts]
  simp
theorem head_len {d : Nat} {s n t sp : ByteArray} {A : List Att} {K : List Nd} {pad : List UInt8} (h : NearB d (.mk s n A K t)) (k : Nat) : (headT s n sp (A.take k) pad).length ≤ pad.length + 400 := by
  cases h with
  | mk d _ _ _ _ _ hn hn2 hnl hs hsl ht htl htr hA hAd hAl hKt hKl hK =>
    have h1 := atsT_few _ (tag_few (s := s) (sp := sp) (A := A.take k) hsl (fun a ha => hA a (List.mem_of_mem_take ha)))
    have h2 := Nat.mul_le_mul_right 65 (tag_len4 s sp (A := A.take k) (by rw [List.length_take]; omega))
    rw [tag_parts] at h1
    unfold headT
    simp only [List.length_append, List.length_cons] at h1 ⊢
    omega
theorem same_eq {s p : ByteArray} (h : s = p) : (s.toList == p.toList) = true := by rw [h]; simp
theorem same_ne {s p : ByteArray} (h : ¬ s = p) : (s.toList == p.toList) = false := by
  rw [beq_eq_false_iff_ne]
  intro e
  rw [Lib.toList_data, Lib.toList_data] at e
  exact h (by rw [← bl_str s, ← bl_str p]; unfold bl; rw [e])
theorem head_same {s n sp : ByteArray} {pad : List UInt8} {A : List Att} (h : s = sp) : str (headT s n sp (A.take 0) pad) = str pad ++ ⟨#[60]⟩ ++ n := by
  have e : headT s n sp (A.take 0) pad = (pad ++ [60]) ++ bl n := by unfold headT xmL attL atsT; rw [if_pos h]; simp
  rw [e, ← str_append, ← str_append, bl_str]; rfl
theorem head_other {s n sp : ByteArray} {pad : List UInt8} {A : List Att} (h : ¬ s = sp) : str (headT s n sp (A.take 0) pad) = (str pad ++ ⟨#[60]⟩ ++ n) ++ (⟨#[32, 120, 109, 108, 110, 115, 61, 34]⟩ ++ str (closeL (bl s)) ++ ⟨#[34]⟩) := by
  have e : headT s n sp (A.take 0) pad = ((pad ++ [60]) ++ bl n) ++ (([32, 120, 109, 108, 110, 115, 61, 34] ++ closeL (bl s)) ++ [34]) := by unfold headT xmL attL atsT atT bXm; rw [if_neg h]; simp
  rw [e, ← str_append, ← str_append, ← str_append, ← str_append, ← str_append, bl_str]; rfl
/-- Text, with so many elements. -/
def midT (s n sp : ByteArray) (A : List Att) (K : List Nd) (pad : List UInt8) : List UInt8 := headT s n sp A pad ++ (62 :: (kidsT K s (pad ++ [32]) ++ [10]))
theorem mid_next {s n sp : ByteArray} {A : List Att} {K : List Nd} {pad : List UInt8} {k : Nat} (h : k < K.length) : midT s n sp A (K.take (k + 1)) pad = midT s n sp A (K.take k) pad ++ textT (K[k]'h) s (pad ++ [32]) := by
  unfold midT textT
  rw [kidsT_take s _ K k h]
  simp
theorem mid_done {s n t sp : ByteArray} {A : List Att} {K : List Nd} {pad : List UInt8} (hK : K ≠ []) : textT (.mk s n A K t) sp pad = (((midT s n sp A K pad ++ pad) ++ [60, 47]) ++ bl n) ++ [62, 10] := by
  unfold midT
  rw [text_kids hK]
  simp
theorem NearB.kids {d : Nat} {s n t : ByteArray} {A : List Att} {K : List Nd} (h : NearB (d + 1) (.mk s n A K t)) : ∀ k ∈ K, NearB d k := by cases h; assumption
theorem mid_len {d : Nat} {s n t sp : ByteArray} {A : List Att} {K : List Nd} {pad : List UInt8} (h : NearB (d + 1) (.mk s n A K t)) (k : Nat) : (midT s n sp A (K.take k) pad).length ≤ 4 * pad.length + 1000 + 3 * lenB d (pad.length + 1) := by
  have h1 := head_len (s := s) (n := n) (sp := sp) (pad := pad) h A.length
  rw [List.take_length] at h1
  have h2 := kidsT_len s (pad ++ [32]) (K.take k) (m := lenB d (pad.length + 1)) fun y hy => by
    have := (h.kids y (List.mem_of_mem_take hy)).len s (pad ++ [32])
    rw [List.length_append] at this
    exact this
  have h3 : (K.take k).length ≤ 3 := by
    rw [List.length_take]
    cases h with
    | mk d _ _ _ _ _ hn hn2 hnl hs hsl ht htl htr hA hAd hAl hKt hKl hK => omega
  rw [List.length_append] at h2
  have h4 := Nat.mul_le_mul_right (1 + (pad.length + ([32] : List UInt8).length) + lenB d (pad.length + 1)) h3
  have e1 : ([32] : List UInt8).length = 1 := rfl
  rw [e1] at h2 h4
  generalize hG : (K.take k).length * (1 + (pad.length + 1) + lenB d (pad.length + 1)) = G at h2 h4
  unfold midT
  simp only [List.length_append, List.length_cons, List.length_nil]
  omega
/-- What Text leaves. -/
def TextSpec (d : Nat) : Prop := ∀ (x : Nd) (v : Value) (sp : ByteArray) (pad : List UInt8) (w : World), NodeV (fun _ => True) w v x → NearB d x → pad.length + lenB d pad.length ≤ 1000000 →
  Calls Tryz.prog 7 #[v, .string sp, .string (str pad)] w fun e w' => e = .returned (.string (str (textT x sp pad))) ∧ Below w.heap.size w w'

set_option maxHeartbeats 8000000 in
theorem text_one (d : Nat) (hIH : ∀ d', d = d' + 1 → TextSpec d') : TextSpec d := by
  intro x v sp pad w hv hB hpad
  obtain ⟨s, n, t, A, K, xa, xac, xk, xkc, xc, rfl, rfl, hxa, hxk, hxn⟩ := parts06 hv
  have hd1 : ∃ d', d = d' + 1 := by cases hB; exact ⟨_, rfl⟩
  obtain ⟨d, rfl⟩ := hd1
  have hA1 := (Below.refl w.heap.size w).alloc (Nat.le_refl _) (.cells #[.string s, .string n, .slice xa A.length xac, .slice xk K.length xkc, .string t] 25)
  have hX0 := heap_alloc_new w (.cells #[.string s, .string n, .slice xa A.length xac, .slice xk K.length xkc, .string t] 25)
  obtain ⟨w0, hw0⟩ : ∃ w0, w.alloc (.cells #[.string s, .string n, .slice xa A.length xac, .slice xk K.length xkc, .string t] 25) = w0 := ⟨_, rfl⟩
  have hsz : n.size ≤ 6 ∧ s.size ≤ 3 ∧ t.size ≤ 12 ∧ A.length ≤ 3 ∧ K.length ≤ 3 := by
    cases hB with
    | mk d _ _ _ _ _ hn hn2 hnl hs hsl ht htl htr hA hAd hAl hKt hKl hK => rw [← bl_size n, ← bl_size s, ← bl_size t]; exact ⟨hnl, hsl, htl, hAl, hKl⟩
  obtain ⟨hns, hss, hts, hA3, hK3⟩ := hsz
  obtain ⟨PAD, hPAD⟩ : ∃ PAD, str pad = PAD := ⟨_, rfl⟩
  have hPs : PAD.size ≤ 1000000 := by rw [← hPAD, str_size]; omega
  rw [hPAD]
  have HPAD := Lib.hid hPAD
  have HW0 := Lib.hid hw0
  rw [hw0] at hA1 hX0
  have HA1 := Lib.hid hA1
  have HX0 := Lib.hid hX0
  have HIH := Lib.hid (hIH d rfl)
  have HXA := Lib.hid hxa
  have HXK := Lib.hid hxk
  have HXN := Lib.hid hxn
  have HB := Lib.hid hB
  have HPL := Lib.hid hpad
  obtain ⟨Q, hQ⟩ : ∃ Q, w.heap.size = Q := ⟨_, rfl⟩
  have HQ := Lib.hid hQ
  have x0 := Lib.cell_of_heap hX0 0
  have x1 := Lib.cell_of_heap hX0 1
  have x2 := Lib.cell_of_heap hX0 2
  have x3 := Lib.cell_of_heap hX0 3
  have x4 := Lib.cell_of_heap hX0 4
  simp only [List.getElem?_toArray, List.getElem?_cons_zero, List.getElem?_cons_succ] at x0 x1 x2 x3 x4
  rw [hQ] at x0 x1 x2 x3 x4
  clear hA1 hX0 hIH hxa hxk hxn hv hB hPAD hpad
  go_enter Tryz.func7, Tryz.ntmps7
  go_upto_if 18 with (fail)
  obtain ⟨B1, hB1⟩ : ∃ B1, PAD ++ ⟨#[60]⟩ ++ n = B1 := ⟨_, rfl⟩
  have hB1s : B1.size ≤ 1000007 := by rw [← hB1, ByteArray.size_append, ByteArray.size_append]; show PAD.size + 1 + n.size ≤ _; omega
  rw [hB1]
  have HB1 := Lib.hid hB1
  clear hB1
  obtain ⟨H0, hH0⟩ : ∃ H0, str (headT s n sp (A.take 0) pad) = H0 := ⟨_, rfl⟩
  have HH0 := Lib.hid hH0
  clear hH0
  go_cut [7] (fun u wx => u = .string H0 ∧ Below w0.heap.size w0 wx)
  case first =>
    by_cases hs : s = sp
    · have q : (!(s.toList == sp.toList)) = false := by rw [same_eq hs]; rfl
      have HE := Lib.hid (show Value.string B1 = .string H0 by rw [← HB1.out, ← HH0.out, head_same hs, HPAD.out])
      clear hs
      go_wp2_with fail
      · exact absurd ‹(!(s.toList == sp.toList)) = true› (by rw [q]; decide)
      · go_meet
        exact ⟨HE.out, Below.refl _ _⟩
    · have q : (!(s.toList == sp.toList)) = true := by rw [same_ne hs]; rfl
      obtain ⟨C, hC⟩ : ∃ C, str (closeL (bl s)) = C := ⟨_, rfl⟩
      have hCs : C.size ≤ 18 := by rw [← hC, str_size]; have := closeL_len (bl s); rw [bl_size] at this; omega
      have CC := rclose s w0 (by omega)
      rw [hC] at CC
      have CC := Lib.hid CC
      have HE := Lib.hid (show Value.string (B1 ++ (⟨#[32, 120, 109, 108, 110, 115, 61, 34]⟩ ++ C ++ ⟨#[34]⟩)) = .string H0 by rw [← HB1.out, ← HH0.out, head_other hs, HPAD.out, hC])
      clear hs hC
      go_wp2_with fail
      · refine CC.out.mono ?_
        rintro e w1 ⟨rfl, rfl⟩
        go_wp2_with fail
        go_meet
        exact ⟨HE.out, Below.refl _ _⟩
      · exact absurd ‹(!(s.toList == sp.toList)) = false› (by rw [q]; decide)
  case rest =>
    obtain ⟨rfl, hb1⟩ := hcut
    have hsw : w.heap.size < w0.heap.size := by rw [← hw0]; simp
    have HSW := Lib.hid hsw
    clear hsw hw0 hQ x0 x1 x2 x3 x4 hss hB1s hPs HB1
    go_wp2_with fail
    go_loopg [7, 8] A.length (fun g sv i wr => ∃ k, g + k = A.length ∧ i = .int .i64 (k : Nat) ∧ sv = .string (str (headT s n sp (A.take k) pad)) ∧ Below w0.heap.size w0 wr)
    case atStart => exact ⟨0, by omega, rfl, by rw [HH0.out], hb1⟩
    case round =>
      clear hb1
      obtain ⟨k, hg, rfl, rfl, hbr⟩ := hrel
      have hX := (hbr.block _ HSW.out).trans HX0.out
      rw [HQ.out] at hX
      have x2 := Lib.cell_of_heap hX 2
      simp only [List.getElem?_toArray, List.getElem?_cons_zero, List.getElem?_cons_succ] at x2
      have HBR := Lib.hid hbr
      clear hbr
      by_cases hk : k < A.length
      · have hk' : (k : Int) < (A.length : Int) := by omega
        obtain ⟨g0, o0, rfl, _, hg0, hcell⟩ := HXA.out (by omega)
        obtain ⟨c0, c1⟩ := hcell k hk
        obtain ⟨⟨an, av⟩, hav⟩ : ∃ y, A[k]'hk = y := ⟨_, rfl⟩
        rw [hav] at c0 c1
        have hbw := HA1.out.trans (HBR.out.mono (Nat.le_of_lt HSW.out))
        have a0 := (hbw.cell (p := ⟨g0, o0 + k * 2, none⟩) hg0).trans c0
        have a1 := (hbw.cell (p := ⟨g0, o0 + k * 2 + 1, none⟩) hg0).trans c1
        have hAB := HB.out.atts (an, av) (by rw [← hav]; exact List.getElem_mem hk)
        have hans : an.size ≤ 7 := by rw [← bl_size]; exact hAB.len
        have havs : av.size ≤ 9 := by rw [← bl_size]; exact hAB.vlen
        have htake := attL_take A k hk
        rw [hav] at htake
        have hSs := head_len (s := s) (n := n) (sp := sp) (pad := pad) HB.out k
        obtain ⟨S, hS⟩ : ∃ S, str (headT s n sp (A.take k) pad) = S := ⟨_, rfl⟩
        have hS2 : S.size ≤ 1000400 := by rw [← hS, str_size]; have := HPL.out; omega
        obtain ⟨C, hC⟩ : ∃ C, str (closeL (bl av)) = C := ⟨_, rfl⟩
        have hCs : C.size ≤ 54 := by rw [← hC, str_size]; have := closeL_len (bl av); rw [bl_size] at this; omega
        obtain ⟨B2, hB2⟩ : ∃ B2, (⟨#[32]⟩ : ByteArray) ++ an = B2 := ⟨_, rfl⟩
        obtain ⟨B3, hB3⟩ : ∃ B3, B2 ++ (⟨#[61, 34]⟩ : ByteArray) = B3 := ⟨_, rfl⟩
        obtain ⟨B4, hB4⟩ : ∃ B4, B3 ++ C = B4 := ⟨_, rfl⟩
        obtain ⟨B5, hB5⟩ : ∃ B5, B4 ++ (⟨#[34]⟩ : ByteArray) = B5 := ⟨_, rfl⟩
        have z2 : B2.size = 1 + an.size := by rw [← hB2, ByteArray.size_append]; rfl
        have z3 : B3.size = B2.size + 2 := by rw [← hB3, ByteArray.size_append]; rfl
        have z4 : B4.size = B3.size + C.size := by rw [← hB4, ByteArray.size_append]
        have z5 : B5.size = B4.size + 1 := by rw [← hB5, ByteArray.size_append]; rfl
        have q2 : ¬ 9223372036854775807 < 1 + an.size := by omega
        have q3 : ¬ 9223372036854775807 < B2.size + 2 := by omega
        have q4 : ¬ 9223372036854775807 < B3.size + C.size := by omega
        have q5 : ¬ 9223372036854775807 < B4.size + 1 := by omega
        have q6 : ¬ 9223372036854775807 < S.size + B5.size := by omega
        have CC := fun wx => (rclose av wx (by omega)).mono (fun e w' (h : _ ∧ wx = w') => (show e = .returned (.string C) ∧ w' = wx from ⟨by rw [← hC]; exact h.1, h.2.symm⟩))
        have CC := Lib.hid CC
        have HN := Lib.hid (show Value.string (S ++ B5) = .string (str (headT s n sp (A.take (k + 1)) pad)) by
          have e : headT s n sp (A.take (k + 1)) pad = headT s n sp (A.take k) pad ++ (((([32] ++ bl an) ++ [61, 34]) ++ closeL (bl av)) ++ [34]) := by
            unfold headT
            rw [htake]
            unfold atT
            simp
          rw [e, ← str_append, ← str_append, ← str_append, ← str_append, ← str_append, bl_str, hC, hS, ← hB5, ← hB4, ← hB3, ← hB2]
          rfl)
        rw [hS]
        clear z2 z3 z4 z5 hC hS hSs hS2 htake hAB hbw c0 c1 hcell hav hans havs hCs
        go_wp2_with fail
        go_quiet ((go_at_call 22; exact Calls.quiet_of_same (CC.out _)))
        clear hB2 hB3 hB4 hB5 q2 q3 q4 q5 q6 a0 a1 x2
        go_wp2_with fail
        go_roundg (A.length - (k + 1))
        case measure => omega
        case rel => exact ⟨k + 1, by omega, by go_num, HN.out, HBR.out.trans ((below_drewN _ _).mono HBR.out.size)⟩
      · have hk' : ¬ (k : Int) < (A.length : Int) := by omega
        have hSs := head_len (s := s) (n := n) (sp := sp) (pad := pad) HB.out k
        rw [List.take_of_length_le (show A.length ≤ k by omega)] at hSs ⊢
        obtain ⟨S, hS⟩ : ∃ S, str (headT s n sp A pad) = S := ⟨_, rfl⟩
        have hS2 : S.size ≤ 1000400 := by rw [← hS, str_size]; have := HPL.out; omega
        rw [hS]
        have HS := Lib.hid hS
        have x0 := Lib.cell_of_heap hX 0
        have x1 := Lib.cell_of_heap hX 1
        have x3 := Lib.cell_of_heap hX 3
        have x4 := Lib.cell_of_heap hX 4
        simp only [List.getElem?_toArray, List.getElem?_cons_zero, List.getElem?_cons_succ] at x0 x1 x3 x4
        have hbw := HA1.out.trans (HBR.out.mono (Nat.le_of_lt HSW.out))
        have HBW := Lib.hid hbw
        have HX := Lib.hid hX
        clear hS hSs hbw hX hk
        by_cases hK : K = []
        · subst hK
          have hKl : ([] : List Nd).length = 0 := rfl
          by_cases ht : t.size = 0
          · have q : t.toList.isEmpty = true := bl_empty t ht
            have htn : bl t = [] := by rw [← List.length_eq_zero_iff, bl_size]; exact ht
            have HE := Lib.hid (show S ++ ⟨#[47, 62, 10]⟩ = str (textT (.mk s n A [] t) sp pad) by rw [text_empty htn, ← str_append, HS.out]; rfl)
            clear ht htn
            go_wp2_with fail
            go_ret
            exact ⟨by rw [HE.out]; rfl, HBW.out⟩
          · have q : t.toList.isEmpty = false := bl_more t ht
            have htn : bl t ≠ [] := fun e => ht (by rw [← bl_size, e]; rfl)
            obtain ⟨C, hC⟩ : ∃ C, str (closeL (bl t)) = C := ⟨_, rfl⟩
            have hCs : C.size ≤ 72 := by rw [← hC, str_size]; have := closeL_len (bl t); rw [bl_size] at this; omega
            obtain ⟨B2, hB2⟩ : ∃ B2, S ++ (⟨#[62]⟩ : ByteArray) = B2 := ⟨_, rfl⟩
            obtain ⟨B3, hB3⟩ : ∃ B3, B2 ++ C = B3 := ⟨_, rfl⟩
            obtain ⟨B4, hB4⟩ : ∃ B4, B3 ++ (⟨#[60, 47]⟩ : ByteArray) = B4 := ⟨_, rfl⟩
            obtain ⟨B5, hB5⟩ : ∃ B5, B4 ++ n = B5 := ⟨_, rfl⟩
            have z2 : B2.size = S.size + 1 := by rw [← hB2, ByteArray.size_append]; rfl
            have z3 : B3.size = B2.size + C.size := by rw [← hB3, ByteArray.size_append]
            have z4 : B4.size = B3.size + 2 := by rw [← hB4, ByteArray.size_append]; rfl
            have z5 : B5.size = B4.size + n.size := by rw [← hB5, ByteArray.size_append]
            have q2 : ¬ 9223372036854775807 < S.size + 1 := by omega
            have q3 : ¬ 9223372036854775807 < B2.size + C.size := by omega
            have q4 : ¬ 9223372036854775807 < B3.size + 2 := by omega
            have q5 : ¬ 9223372036854775807 < B4.size + n.size := by omega
            have q6 : ¬ 9223372036854775807 < B5.size + 2 := by omega
            have CC := fun wx => (rclose t wx (by omega)).mono (fun e w' (h : _ ∧ wx = w') => (show e = .returned (.string C) ∧ w' = wx from ⟨by rw [← hC]; exact h.1, h.2.symm⟩))
            have CC := Lib.hid CC
            have HE := Lib.hid (show B5 ++ ⟨#[62, 10]⟩ = str (textT (.mk s n A [] t) sp pad) by
              have e : headT s n sp A pad ++ (62 :: (closeL (bl t) ++ (60 :: 47 :: (bl n ++ [62, 10])))) = (((headT s n sp A pad ++ [62]) ++ closeL (bl t)) ++ [60, 47]) ++ bl n ++ [62, 10] := by simp
              rw [text_text htn, e, ← str_append, ← str_append, ← str_append, ← str_append, ← str_append, bl_str, hC, HS.out, ← hB5, ← hB4, ← hB3, ← hB2]
              rfl)
            clear z2 z3 z4 z5 hC hCs ht htn
            go_wp2_with fail
            go_quiet ((go_at_call 22; exact Calls.quiet_of_same (CC.out _)))
            go_wp2_with fail
            go_ret
            exact ⟨by rw [HE.out]; rfl, HBW.out.trans ((below_drewN _ _).mono HBW.out.size)⟩
        · have hKp : 0 < K.length := Nat.pos_of_ne_zero fun e => hK (List.eq_nil_of_length_eq_zero e)
          have hKi : (0 : Int) < (K.length : Int) := by omega
          obtain ⟨g1, o1, rfl, _, hg1, hkc⟩ := HXK.out hKp
          have HKc := Lib.hid hkc
          have HKn := Lib.hid hK
          clear hkc hK
          go_wp2_with fail
          obtain ⟨S1, hS1⟩ : ∃ S1, S ++ (⟨#[62, 10]⟩ : ByteArray) = S1 := ⟨_, rfl⟩
          rw [hS1]
          have HS1 := Lib.hid (show S1 = str (midT s n sp A (K.take 0) pad) by
            have e : midT s n sp A (K.take 0) pad = headT s n sp A pad ++ [62, 10] := by unfold midT; rw [List.take_zero, kidsT]; rfl
            rw [e, ← str_append, HS.out, ← hS1]; rfl)
          clear hS1 hS2 x2 x4
          go_loopg [7, 9] K.length (fun g sv i wx => ∃ k, g + k = K.length ∧ i = .int .i64 (k : Nat) ∧ sv = .string (str (midT s n sp A (K.take k) pad)) ∧ Below wr.heap.size wr wx)
          case atStart => exact ⟨0, by omega, rfl, by rw [HS1.out], Below.refl _ _⟩
          case round =>
            obtain ⟨j, hg, rfl, rfl, hbx⟩ := hrel
            have hX := (hbx.block _ (by have := HBR.out.size; have := HSW.out; have := HQ.out; omega)).trans HX.out
            have x3 := Lib.cell_of_heap hX 3
            have x0 := Lib.cell_of_heap hX 0
            have x1 := Lib.cell_of_heap hX 1
            simp only [List.getElem?_toArray, List.getElem?_cons_zero, List.getElem?_cons_succ] at x0 x1 x3
            have hml := mid_len (s := s) (n := n) (sp := sp) (pad := pad) HB.out j
            have hpl : lenB (d + 1) pad.length = 500 + pad.length + 3 * (1 + (pad.length + 1) + lenB d (pad.length + 1)) := rfl
            obtain ⟨S2, hS2⟩ : ∃ S2, str (midT s n sp A (K.take j) pad) = S2 := ⟨_, rfl⟩
            have hS2s : S2.size ≤ 1001000 := by rw [← hS2, str_size]; have := HPL.out; omega
            rw [hS2]
            have hps : PAD.size ≤ 1000000 := by rw [← HPAD.out, str_size]; have := HPL.out; omega
            by_cases hj : j < K.length
            · have hj' : (j : Int) < (K.length : Int) := by omega
              have hbw := HBW.out.trans (hbx.mono HBW.out.size)
              have k0 := (hbw.cell (p := ⟨g1, o1 + j * 5 + 0, none⟩) hg1).trans (HKc.out j hj 0 (by decide))
              have k1 := (hbw.cell (p := ⟨g1, o1 + j * 5 + 1, none⟩) hg1).trans (HKc.out j hj 1 (by decide))
              have k2 := (hbw.cell (p := ⟨g1, o1 + j * 5 + 2, none⟩) hg1).trans (HKc.out j hj 2 (by decide))
              have k3 := (hbw.cell (p := ⟨g1, o1 + j * 5 + 3, none⟩) hg1).trans (HKc.out j hj 3 (by decide))
              have k4 := (hbw.cell (p := ⟨g1, o1 + j * 5 + 4, none⟩) hg1).trans (HKc.out j hj 4 (by decide))
              rw [Nat.add_zero] at k0
              obtain ⟨PAD2, hPAD2⟩ : ∃ PAD2, PAD ++ (⟨#[32]⟩ : ByteArray) = PAD2 := ⟨_, rfl⟩
              have hP2 : str (pad ++ [32]) = PAD2 := by rw [← str_append, HPAD.out, ← hPAD2]; rfl
              have CT := fun (wy : World) (hb : Below wr.heap.size wr wy) => HIH.out (K[j]'hj) (.agg #[xc j 0, xc j 1, xc j 2, xc j 3, xc j 4]) s (pad ++ [32]) wy ((HXN.out j hj).to (Nat.le_trans hbw.size hb.size) fun g _ hg => ⟨trivial, (hb.block g (Nat.lt_of_lt_of_le hg hbw.size)).trans (hbw.block g hg)⟩)
                (HB.out.kids _ (List.getElem_mem hj)) (by have := HPL.out; rw [List.length_append]; show pad.length + 1 + lenB d (pad.length + 1) ≤ _; omega)
              have hnx := mid_next (s := s) (n := n) (sp := sp) (A := A) (pad := pad) hj
              obtain ⟨TX, hTX⟩ : ∃ TX, str (textT (K[j]'hj) s (pad ++ [32])) = TX := ⟨_, rfl⟩
              have hml2 := mid_len (s := s) (n := n) (sp := sp) (pad := pad) HB.out (j + 1)
              have hTs : S2.size + TX.size ≤ 1001000 := by
                have := congrArg List.length hnx
                rw [List.length_append] at this
                rw [← hS2, ← hTX, str_size, str_size]
                have := HPL.out
                omega
              rw [hP2, hTX] at CT
              have CT := Lib.hid CT
              have q1 : ¬ 9223372036854775807 < PAD.size + 1 := by omega
              have q2 : ¬ 9223372036854775807 < S2.size + TX.size := by omega
              have HE := Lib.hid (show Value.string (S2 ++ TX) = .string (str (midT s n sp A (K.take (j + 1)) pad)) by rw [hnx, ← str_append, hS2, hTX])
              have HBX := Lib.hid hbx
              clear hS2s hml hpl hps hP2 hnx hml2 hTs hTX hS2 hbx hbw x1
              go_wp2_with fail
              go_region_with (go_at_call 7; refine (CT.out _ (by first | exact Below.refl _ _ | exact (Below.refl _ _).drew)).mono ?_; rintro e wz ⟨rfl, hbz⟩; have HBZ := Lib.hid hbz; clear hbz)
              all_goals
                have HBZ2 := Lib.hid (show Below wr.heap.size wr wz from by first | exact HBZ.out | exact ((Below.refl _ _).drew).trans HBZ.out)
                go_wp2_with fail
                go_roundg (K.length - (j + 1))
                case measure => omega
                case rel => exact ⟨j + 1, by omega, by go_num, HE.out, HBX.out.trans (HBZ2.out.mono HBX.out.size)⟩
            · have hj' : ¬ (j : Int) < (K.length : Int) := by omega
              have htl : K.take j = K := List.take_of_length_le (by omega)
              rw [htl] at hS2
              obtain ⟨B2, hB2⟩ : ∃ B2, S2 ++ PAD = B2 := ⟨_, rfl⟩
              obtain ⟨B3, hB3⟩ : ∃ B3, B2 ++ (⟨#[60, 47]⟩ : ByteArray) = B3 := ⟨_, rfl⟩
              obtain ⟨B4, hB4⟩ : ∃ B4, B3 ++ n = B4 := ⟨_, rfl⟩
              have z2 : B2.size = S2.size + PAD.size := by rw [← hB2, ByteArray.size_append]
              have z3 : B3.size = B2.size + 2 := by rw [← hB3, ByteArray.size_append]; rfl
              have z4 : B4.size = B3.size + n.size := by rw [← hB4, ByteArray.size_append]
              have q2 : ¬ 9223372036854775807 < S2.size + PAD.size := by omega
              have q3 : ¬ 9223372036854775807 < B2.size + 2 := by omega
              have q4 : ¬ 9223372036854775807 < B3.size + n.size := by omega
              have q5 : ¬ 9223372036854775807 < B4.size + 2 := by omega
              have HE := Lib.hid (show B4 ++ ⟨#[62, 10]⟩ = str (textT (.mk s n A K t) sp pad) by
                rw [mid_done HKn.out, ← str_append, ← str_append, ← str_append, ← str_append, bl_str, HPAD.out, hS2, ← hB4, ← hB3, ← hB2]
                rfl)
              have HBX := Lib.hid (HBW.out.trans (hbx.mono HBW.out.size))
              clear hS2s hml hpl hps hS2 hbx hj htl z2 z3 z4 x0
              go_wp2_with fail
              go_ret
              exact ⟨by rw [HE.out]; rfl, HBX.out⟩
theorem text_spec : ∀ d, TextSpec d
  | 0 => text_one 0 fun d' h => absurd h (by omega)
  | d + 1 => text_one (d + 1) fun d' h => by
    have e : d' = d := by omega
    rw [e]; exact text_spec d

end Go.Proofs.YtincdacickhdkaaGreatDoor
