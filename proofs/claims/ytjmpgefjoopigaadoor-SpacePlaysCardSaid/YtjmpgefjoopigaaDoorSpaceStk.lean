/-
  What the law SpacePlays plays: elements within elements, as plain mathematics.
-/
import Derived.Test.YtjmpgefjoopigaaDoorSpaceName
namespace Go.Proofs.YtjmpgefjoopigaaDoor
open Go Go.RowKit
set_option maxRecDepth 100000

def bNo : ByteArray := ⟨#[110, 111, 110, 101]⟩
def bQ : ByteArray := ⟨#[113]⟩
def bXmlnsQ : ByteArray := ⟨#[120, 109, 108, 110, 115, 58, 113]⟩
/-- The three prefixes, the attributes that tell of them, the four spaces. -/
def preP (k : Nat) : ByteArray := match k with | 0 => bNone | 1 => bP | _ => bQ
def nameP (k : Nat) : ByteArray := match k with | 0 => bXmlns | 1 => bXmlnsP | _ => bXmlnsQ
def uS (x : Nat) : ByteArray := match x with | 0 => ⟨#[117, 97]⟩ | 1 => ⟨#[117, 98]⟩ | 2 => ⟨#[117, 99]⟩ | _ => ⟨#[117, 100]⟩
/-- What an element tells of a prefix. -/
def wantU (v : Nat) : Option ByteArray := if v < 4 then none else some (uS (v - 4))
theorem uS_ne (x : Nat) : uS x ≠ bNone ∧ uS x ≠ bNo := by
  match x with
  | 0 => exact ⟨by decide, by decide⟩
  | 1 => exact ⟨by decide, by decide⟩
  | 2 => exact ⟨by decide, by decide⟩
  | x + 3 => exact ⟨show (⟨#[117, 100]⟩ : ByteArray) ≠ bNone by decide, show (⟨#[117, 100]⟩ : ByteArray) ≠ bNo by decide⟩
/-- A row of what the three prefixes stand for; behind the first k of an element's. -/
abbrev Row3 := Nat → ByteArray
def rowC (T : Row3) : List Value := [.string (T 0), .string (T 1), .string (T 2)]
def rowsC (M : List Row3) : List Value := M.flatMap rowC
theorem rowsC_len : ∀ M : List Row3, (rowsC M).length = M.length * 3
  | [] => rfl
  | T :: M => by
    have ih := rowsC_len M
    have e : rowsC (T :: M) = rowC T ++ rowsC M := rfl
    rw [e, List.length_append, ih]
    show 3 + _ = (M.length + 1) * 3
    omega
theorem rowsC_app (L M : List Row3) : rowsC (L ++ M) = rowsC L ++ rowsC M := by unfold rowsC; simp
theorem rowsC_last (M : List Row3) (T : Row3) (k : Nat) (hk : k < 3) : (rowsC (M ++ [T]))[M.length * 3 + k]? = some (.string (T k)) := by
  rw [rowsC_app, List.getElem?_append_right (by rw [rowsC_len]; omega), rowsC_len, show M.length * 3 + k - M.length * 3 = k by omega]
  match k, hk with
  | 0, _ => rfl
  | 1, _ => rfl
  | 2, _ => rfl
def nowK (T : Row3) (v : Nat → Nat) (k : Nat) : Row3 := fun j => if j < k then (wantU (v j)).getD (T j) else T j
def attK (v : Nat → Nat) : Nat → List Att
  | 0 => [(⟨#[120]⟩, ⟨#[121]⟩)]
  | k + 1 => match wantU (v k) with
    | none => attK v k
    | some u => attK v k ++ [(nameP k, u)]
def newK (v : Nat → Nat) (d : Nat) : Nat → List Tell
  | 0 => []
  | k + 1 => match wantU (v k) with
    | none => newK v d k
    | some u => newK v d k ++ [⟨preP k, u, d⟩]
theorem newK_len (v : Nat → Nat) (d : Nat) : ∀ k, (newK v d k).length ≤ k
  | 0 => Nat.le_refl _
  | k + 1 => by
    have ih := newK_len v d k
    unfold newK
    split
    · omega
    · rw [List.length_append]; show _ + 1 ≤ _; omega
theorem attK_len (v : Nat → Nat) : ∀ k, (attK v k).length ≤ k + 1
  | 0 => Nat.le_refl _
  | k + 1 => by
    have ih := attK_len v k
    unfold attK
    split
    · omega
    · rw [List.length_append]; show _ + 1 ≤ _; omega
theorem attK_pos (v : Nat → Nat) : ∀ k, 0 < (attK v k).length
  | 0 => Nat.lt_succ_self 0
  | k + 1 => by
    have ih := attK_pos v k
    unfold attK
    split
    · omega
    · rw [List.length_append]; omega
theorem newK_d (v : Nat → Nat) (d : Nat) : ∀ k, ∀ t ∈ newK v d k, t.d = d
  | 0, t, h => by cases h
  | k + 1, t, h => by
    have ih := newK_d v d k
    unfold newK at h
    split at h
    · exact ih t h
    · rcases List.mem_append.1 h with h | h
      · exact ih t h
      · simp at h; rw [h]

/-! ### Enter at these attributes -/
theorem tell_k (k : Nat) (hk : k < 3) : tellS (nameP k) = (preP k, true) := by
  match k, hk with
  | 0, _ => exact (show tellS bXmlns = (bNone, true) by kernel_rfl)
  | 1, _ => exact (show tellS bXmlnsP = (bP, true) by kernel_rfl)
  | 2, _ => exact (show tellS bXmlnsQ = (bQ, true) by kernel_rfl)
theorem tell_x : tellS ⟨#[120]⟩ = (⟨#[120]⟩, false) := by kernel_rfl
theorem know_k (L : List Tell) (k x : Nat) (hk : k < 3) (hL : L.length < 100) : knowE L (preP k) (uS x) = 0 := by
  unfold knowE
  have h1 : preP k ≠ bXml ∧ preP k ≠ bXmlns := by
    match k, hk with
    | 0, _ => exact ⟨by decide, by decide⟩
    | 1, _ => exact ⟨by decide, by decide⟩
    | 2, _ => exact ⟨by decide, by decide⟩
  rw [if_neg (by rintro (h | h | h); exact h1.1 h; exact h1.2 h; exact (uS_ne x).1 h.2), if_neg (by omega)]
theorem enterL_app (d : Nat) : ∀ (A A' : List Att) (R R' : List Att) (L L' : List Tell), enterL d A R L = (R', 0, L') → enterL d (A ++ A') R L = enterL d A' R' L'
  | [], A', R, R', L, L', h => by
    unfold enterL at h
    cases h
    rfl
  | a :: A, A', R, R', L, L', h => by
    rw [List.cons_append]
    obtain ⟨Y, hY⟩ : ∃ Y, enterL d A' R' L' = Y := ⟨_, rfl⟩
    rw [hY]
    unfold enterL at h ⊢
    split at h
    · rename_i h1
      rw [if_pos h1]
      exact (enterL_app d A A' _ R' L L' h).trans hY
    · rename_i h1
      rw [if_neg h1]
      split at h
      · rename_i h2
        rw [if_pos h2]
        exact (enterL_app d A A' R R' _ L' h).trans hY
      · rename_i h2
        simp only [Prod.mk.injEq] at h
        exact absurd h.2.1 h2
theorem enter_att (d : Nat) (v : Nat → Nat) (L : List Tell) : ∀ k, k ≤ 3 → L.length + k ≤ 100 → enterL d (attK v k) [] L = ([(⟨#[120]⟩, ⟨#[121]⟩)], 0, L ++ newK v d k)
  | 0, _, _ => by
    unfold attK newK enterL
    rw [tell_x, if_pos rfl, List.append_nil]
    rfl
  | k + 1, hk, hL => by
    have ih := enter_att d v L k (by omega) (by omega)
    unfold attK newK
    cases hw : wantU (v k) with
    | none => exact ih
    | some u =>
      obtain ⟨x, rfl⟩ : ∃ x, u = uS x := by
        unfold wantU at hw
        split at hw
        · cases hw
        · exact ⟨_, (Option.some.inj hw).symm⟩
      simp only
      rw [enterL_app d _ _ _ _ _ _ ih]
      unfold enterL
      simp only [tell_k k (by omega)]
      rw [if_neg (by decide), know_k _ k x (by omega) (by rw [List.length_append]; have := newK_len v d k; omega), if_pos rfl, List.append_assoc]
      rfl

/-! ### What is known -/
theorem ofT_app (L N : List Tell) (p : ByteArray) : ofT (L ++ N) p = (ofT N p).or (ofT L p) := by
  unfold ofT
  rw [List.reverse_append, List.find?_append]
  cases N.reverse.find? fun t => decide (t.p = p) <;> rfl
theorem pre_ne (j k : Nat) (hj : j < 3) (hk : k < 3) (h : preP j = preP k) : j = k := by
  match j, k, hj, hk with
  | 0, 0, _, _ => rfl
  | 1, 1, _, _ => rfl
  | 2, 2, _, _ => rfl
  | 0, 1, _, _ => exact absurd h (by decide)
  | 0, 2, _, _ => exact absurd h (by decide)
  | 1, 0, _, _ => exact absurd h (by decide)
  | 1, 2, _, _ => exact absurd h (by decide)
  | 2, 0, _, _ => exact absurd h (by decide)
  | 2, 1, _, _ => exact absurd h (by decide)
theorem ofT_one (p q s : ByteArray) (d : Nat) : ofT [⟨p, s, d⟩] q = if p = q then some s else none := by
  unfold ofT
  by_cases h : p = q <;> simp [h]
theorem ofT_new (v : Nat → Nat) (d : Nat) (j : Nat) (hj : j < 3) : ∀ k, k ≤ 3 → ofT (newK v d k) (preP j) = if j < k then wantU (v j) else none
  | 0, _ => rfl
  | k + 1, hk => by
    have ih := ofT_new v d j hj k (by omega)
    unfold newK
    cases hw : wantU (v k) with
    | none =>
      simp only
      rw [ih]
      by_cases hjk : j < k
      · rw [if_pos hjk, if_pos (by omega)]
      · rw [if_neg hjk]
        by_cases hjk' : j < k + 1
        · obtain rfl : j = k := by omega
          rw [if_pos hjk', hw]
        · rw [if_neg hjk']
    | some u =>
      simp only
      rw [ofT_app, ofT_one, ih]
      by_cases hjk : j = k
      · subst hjk
        simp [hw]
      · rw [if_neg (fun h => hjk (pre_ne k j (by omega) hj h).symm)]
        by_cases hlt : j < k
        · rw [if_pos hlt, if_pos (by omega)]; rfl
        · rw [if_neg hlt, if_neg (by omega)]; rfl
theorem ofT_xml (v : Nat → Nat) (d : Nat) : ∀ k, k ≤ 3 → ofT (newK v d k) bXml = none
  | 0, _ => rfl
  | k + 1, hk => by
    have ih := ofT_xml v d k (by omega)
    have hp : preP k ≠ bXml := by
      match k, hk with
      | 0, _ => decide
      | 1, _ => decide
      | 2, _ => decide
      | k + 3, h => exact absurd h (by omega)
    unfold newK
    cases wantU (v k) with
    | none => exact ih
    | some u =>
      simp only
      rw [ofT_app, ofT_one, if_neg hp, ih]
      rfl
/-- The row tells what the three prefixes stand for. -/
def RowOk (L : List Tell) (T : Row3) : Prop := (∀ j, j < 3 → ofT L (preP j) = if T j = bNo then none else some (T j)) ∧ ofT L bXml = some bXmlSpace
theorem RowOk.next {L : List Tell} {T : Row3} (h : RowOk L T) (v : Nat → Nat) (d : Nat) : RowOk (L ++ newK v d 3) (nowK T v 3) := by
  refine ⟨fun j hj => ?_, ?_⟩
  · rw [ofT_app, ofT_new v d j hj 3 (Nat.le_refl _), if_pos hj, h.1 j hj]
    unfold nowK
    rw [if_pos hj]
    cases hw : wantU (v j) with
    | none => rfl
    | some u =>
      obtain ⟨x, rfl⟩ : ∃ x, u = uS x := by
        unfold wantU at hw
        split at hw
        · cases hw
        · exact ⟨_, (Option.some.inj hw).symm⟩
      rw [Option.getD_some, if_neg (uS_ne x).2]
      rfl
  · rw [ofT_app, ofT_xml v d 3 (Nat.le_refl _), h.2]
    rfl
def row0 : Row3 := fun j => if j = 0 then bNone else bNo
theorem RowOk.first : RowOk tells0 row0 := by
  refine ⟨fun j hj => ?_, by kernel_rfl⟩
  match j, hj with
  | 0, _ => exact (show ofT tells0 bNone = some bNone by kernel_rfl)
  | 1, _ => exact (show ofT tells0 bP = none by kernel_rfl)
  | 2, _ => exact (show ofT tells0 bQ = none by kernel_rfl)

/-- Elements within elements: how deep, what is known, the rows. -/
inductive Stk : Nat → List Tell → List Row3 → Prop
  | first : Stk 0 tells0 [row0]
  | next {d : Nat} {L : List Tell} {M : List Row3} {T : Row3} (h : Stk d L (M ++ [T])) (v : Nat → Nat) : Stk (d + 1) (L ++ newK v (d + 1) 3) (M ++ [T] ++ [nowK T v 3])
theorem Stk.facts {d : Nat} {L : List Tell} {M : List Row3} (h : Stk d L M) : M.length = d + 1 ∧ L.length ≤ 2 + 3 * d ∧ (∀ t ∈ L, t.d ≤ d) ∧ ∃ M' T, M = M' ++ [T] ∧ RowOk L T := by
  induction h with
  | first => exact ⟨rfl, by decide, by decide, [], row0, rfl, RowOk.first⟩
  | next h v ih =>
    rename_i d L M T
    obtain ⟨h1, h2, h3, M', T', h4, h5⟩ := ih
    have hl := newK_len v (d + 1) 3
    refine ⟨by rw [List.length_append, h1]; rfl, by rw [List.length_append]; omega, fun t ht => ?_, M ++ [T], _, rfl, ?_⟩
    · rcases List.mem_append.1 ht with ht | ht
      · have := h3 t ht; omega
      · rw [newK_d _ _ _ t ht]; exact Nat.le_refl _
    · obtain ⟨rfl, e⟩ := List.append_inj' h4 rfl
      simp at e
      subst e
      exact h5.next v _
/-- The end of an element. -/
theorem Stk.back {d : Nat} {L : List Tell} {M : List Row3} (h : Stk (d + 1) L M) : ∃ n, n ≤ L.length ∧ (∀ j (h : j < L.length), j < n → (L[j]'h).d ≤ d) ∧ (∀ j (h : j < L.length), n ≤ j → d < (L[j]'h).d) ∧ Stk d (L.take n) (M.take (d + 1)) := by
  cases h with
  | next h v =>
    rename_i L0 M0 T
    have hf := h.facts
    refine ⟨L0.length, by rw [List.length_append]; omega, fun j hj hjn => ?_, fun j hj hjn => ?_, ?_⟩
    · rw [List.getElem_append_left hjn]
      exact hf.2.2.1 _ (List.getElem_mem _)
    · rw [List.getElem_append_right hjn, newK_d _ _ _ _ (List.getElem_mem _)]
      exact Nat.lt_succ_self _
    · rw [List.take_left, ← hf.1, List.take_left]
      exact h

end Go.Proofs.YtjmpgefjoopigaaDoor
