/-
  Operations of a region that asks the tape, where what is known of the world hangs on which of them have come up already.
-/
import Derived.OrdersHeld
import Derived.Deep.RegionHeld
namespace Go.Proofs.YtekmenkebokdoaaGreatDoor
open Go

section
variable {P : Program} {ops : Array Oper} {Q : Exit → Act → World → Prop} {md : Region.Mode} {S : Array Bool → World → Prop}
/-- All orders from here on; S holds, behind each operation, of those that have come up and of the world. -/
def AnyG (P : Program) (md : Region.Mode) (ops : Array Oper) (Q : Exit → Act → World → Prop) (S : Array Bool → World → Prop) : Nat → Array Bool → Act → World → Prop
  | 0, L, a, w => Region.ready md ops L = [] ∧ Q .normal a w
  | f + 1, L, a, w => (Region.ready md ops L = [] → Q .normal a w) ∧ ∀ i ∈ Region.ready md ops L, wpOp P ops Q i (fun a' w' => S (L.setIfInBounds i true) w' ∧ AnyG P md ops Q S f (L.setIfInBounds i true) a' w') a w
theorem AnyG.any {f : Nat} : ∀ {L : Array Bool} {a : Act} {w : World}, AnyG P md ops Q S f L a w → wpAny P md ops Q f L a w := by
  induction f with
  | zero => exact id
  | succ f ih => exact fun h => ⟨h.1, fun i hi => wpOp_mono (fun _ _ k => ih k.2) (h.2 i hi)⟩
/-- Nobody who may come ahead of number i touches what it reads or leaves. -/
def FreeG (md : Region.Mode) (ops : Array Oper) (i : Nat) (oi : Oper) (L : Array Bool) : Prop :=
  ∀ j oj, ops[j]? = some oj → j ≠ i → L.getD j true = false → (∀ e ∈ oj.after, Region.binds md e = true → e.on ≠ i) → oi.apart ops oj = true
theorem FreeG.next {i j : Nat} {oi : Oper} {L : Array Bool} (h : FreeG md ops i oi L) (hj : L.getD j true = false) : FreeG md ops i oi (L.setIfInBounds j true) := fun k ok hk hki hun =>
  h k ok hk hki (if e : j = k then e ▸ hj else (getD_set_ne true e).symm.trans hun)
theorem unlisted_getD {L : Array Bool} {i : Nat} (h : L.getD i true = false) : L.getD i false = false := by
  by_cases hl : i < L.size
  · simpa [hl] using h
  · simp [hl]
/-- Two that may come up do not wait for one another. -/
theorem ready_apart {L : Array Bool} {i j : Nat} {oj : Oper} (hi : i ∈ Region.ready md ops L) (hj : j ∈ Region.ready md ops L) (ho : ops[j]? = some oj) : ∀ e ∈ oj.after, Region.binds md e = true → e.on ≠ i := by
  rintro e he hb rfl
  obtain ⟨_, o, ho', hall⟩ := mem_ready.1 hj
  obtain rfl : oj = o := by rw [ho] at ho'; exact Option.some.inj ho'
  have h := hall e he hb
  rw [unlisted_getD (mem_ready.1 hi).1] at h
  cases h
/-- What is asked of an operation that is taken first: R is what is known of those that have come up while it has not. -/
structure TakeG (P : Program) (md : Region.Mode) (ops : Array Oper) (Q : Exit → Act → World → Prop) (S : Array Bool → World → Prop) (R : Array Bool → Prop) (i : Nat) (oi : Oper) (v : Value) : Prop where
  at_ : ops[i]? = some oi
  sel : ∀ (j : Nat) (o : Oper) cs b, ops[j]? = some o → o.op ≠ .select cs b
  panic : ∀ c a w, Q (.panic c) (a.put oi.dst v) w → Q (.panic c) a w
  keeps : ∀ L j, R L → i ∈ Region.ready md ops L → j ∈ Region.ready md ops L → j ≠ i → R (L.setIfInBounds j true)
  less : ∀ L w, S (L.setIfInBounds i true) w → S L w
theorem TakeG.first {R : Array Bool → Prop} {i : Nat} {oi : Oper} {v : Value} (T : TakeG P md ops Q S R i oi v) : ∀ (f : Nat) (L : Array Bool) (a : Act) (w : World), FreeG md ops i oi L → i ∈ Region.ready md ops L → R L →
    YieldsIf P ops (fun w => ∃ L, R L ∧ S L w) oi v a → S (L.setIfInBounds i true) w → AnyG P md ops Q S f (L.setIfInBounds i true) (a.put oi.dst v) w → AnyG P md ops Q S (f + 1) L a w := by
  intro f
  induction f with
  | zero =>
    refine fun L a w _ hr hR hy hS H => ⟨fun e => absurd hr (by rw [e]; exact List.not_mem_nil), fun j hj => ?_⟩
    rcases Decidable.em (j = i) with rfl | hne
    · exact hy.wpOp T.at_ ⟨L, hR, T.less _ _ hS⟩ ⟨hS, H⟩
    · exact absurd (ready_mono hj hne) (by rw [H.1]; exact List.not_mem_nil)
  | succ f ih =>
    refine fun L a w hf hr hR hy hS H => ⟨fun e => absurd hr (by rw [e]; exact List.not_mem_nil), fun j hj => ?_⟩
    rcases Decidable.em (j = i) with rfl | hne
    · exact hy.wpOp T.at_ ⟨L, hR, T.less _ _ hS⟩ ⟨hS, H⟩
    obtain ⟨hun, oj, hoj, _⟩ := mem_ready.1 hj
    have hcomm : (L.setIfInBounds i true).setIfInBounds j true = (L.setIfInBounds j true).setIfInBounds i true := (Array.setIfInBounds_comm _ _ hne).symm
    have hstep := wpOp_putIf hoj (hf j oj hoj hne hun (ready_apart hr hj hoj)) (fun cs b => T.sel i oi cs b T.at_) (fun cs b => T.sel j oj cs b hoj) T.panic hy (H.2 j (ready_mono hj hne))
    refine wpOp_mono (fun a' w' k => ?_) hstep
    obtain ⟨ky, kS, kH⟩ := k
    rw [hcomm] at kS kH
    exact ⟨T.less _ _ kS, ih _ a' w' (hf.next hun) (ready_mono hr fun e => hne e.symm) (T.keeps L j hR hr hj hne) ky kS kH⟩

/-! ### cells that are loaded (C), and one that is stored behind operation s (T) -/
def SG (C T : World → Prop) (s : Nat) : Array Bool → World → Prop := fun L w => C w ∧ (L.getD s false = false → T w)
theorem SG.set {C T : World → Prop} {s i : Nat} {L : Array Bool} {w : World} (h : i ≠ s) : SG C T s (L.setIfInBounds i true) w ↔ SG C T s L w := by
  unfold SG; rw [getD_set_ne false h]
theorem SG.take {C T : World → Prop} {s i : Nat} {oi : Oper} {v : Value} {f : Nat} {L : Array Bool} {a : Act} {w : World} (hi : ops[i]? = some oi) (hs : Region.noSelect ops = true) (hf : Region.free md ops L i = true) (hr : (Region.ready md ops L).contains i = true)
    (hQ : ∀ c a w, Q (.panic c) (a.put oi.dst v) w → Q (.panic c) a w) (his : i ≠ s) (hw : Region.wanted oi (yielded ops a.tmps) = true) (hy : ∀ w, C w → (execOp a.eval oi).run P w = .ok (.value v) w) (hS : SG C T s L w)
    (h : AnyG P md ops Q (SG C T s) f (L.setIfInBounds i true) (a.put oi.dst v) w) : AnyG P md ops Q (SG C T s) (f + 1) L a w :=
  TakeG.first (R := fun _ => True) ⟨hi, Region.noSelect_spec hs, hQ, fun _ _ _ _ _ _ => trivial, fun L' w' k => (SG.set (C := C) (T := T) (L := L') (w := w') his).1 k⟩ f L a w (fun j oj => Region.free_spec hi hf j oj) (by simpa using hr) trivial
    (.inl ⟨hw, fun w hw => hy w (by obtain ⟨_, _, k, _⟩ := hw; exact k)⟩) ((SG.set his).2 hS) h
theorem SG.takeT {C T : World → Prop} {s i : Nat} {oi os : Oper} {v : Value} {f : Nat} {L : Array Bool} {a : Act} {w : World} (hi : ops[i]? = some oi) (hs : Region.noSelect ops = true) (hf : Region.free md ops L i = true) (hr : (Region.ready md ops L).contains i = true)
    (hQ : ∀ c a w, Q (.panic c) (a.put oi.dst v) w → Q (.panic c) a w) (his : i ≠ s) (hw : Region.wanted oi (yielded ops a.tmps) = true) (hos : ops[s]? = some os) (hwait : (os.after.any fun e => Region.binds md e && e.on == i) = true) (hL : L.getD s false = false)
    (hy : ∀ w, C w → T w → (execOp a.eval oi).run P w = .ok (.value v) w) (hS : SG C T s L w)
    (h : AnyG P md ops Q (SG C T s) f (L.setIfInBounds i true) (a.put oi.dst v) w) : AnyG P md ops Q (SG C T s) (f + 1) L a w :=
  TakeG.first (R := fun L => L.getD s false = false) ⟨hi, Region.noSelect_spec hs, hQ, fun L j hR hri hrj hne => by
      have hjs : j ≠ s := by
        rintro rfl
        rw [Array.any_eq_true'] at hwait
        obtain ⟨e, he, hb⟩ := hwait
        rw [Bool.and_eq_true, beq_iff_eq] at hb
        exact ready_apart hri hrj hos e he hb.1 hb.2
      rw [getD_set_ne false hjs]; exact hR, fun L' w' k => (SG.set (C := C) (T := T) (L := L') (w := w') his).1 k⟩ f L a w (fun j oj => Region.free_spec hi hf j oj) (by simpa using hr) hL
    (.inl ⟨hw, fun w hw => by obtain ⟨L', hR, hC, hT⟩ := hw; exact hy w hC (hT hR)⟩) ((SG.set his).2 hS) h
theorem no_listed {L : Array Bool} {s : Nat} (h : L.getD s false = true) (k : L.getD s false = false) : False := by rw [h] at k; cases k
/-- Each of those that may come up comes up next. -/
def AllG (P : Program) (md : Region.Mode) (ops : Array Oper) (Q : Exit → Act → World → Prop) (S : Array Bool → World → Prop) (f : Nat) (L : Array Bool) (a : Act) (w : World) (rs : List Nat) : Prop :=
  ∀ i ∈ rs, wpOp P ops Q i (fun a' w' => S (L.setIfInBounds i true) w' ∧ AnyG P md ops Q S f (L.setIfInBounds i true) a' w') a w
theorem AllG.nil {f : Nat} {L : Array Bool} {a : Act} {w : World} : AllG P md ops Q S f L a w [] := fun _ h => (by cases h)
theorem AllG.cons {f : Nat} {L : Array Bool} {a : Act} {w : World} {i : Nat} {o : Oper} {rs : List Nat} (ho : ops[i]? = some o)
    (h : ∀ K' : Act → World → Prop, Shut (∀ a w, S (L.setIfInBounds i true) w → (S (L.setIfInBounds i true) w → AnyG P md ops Q S f (L.setIfInBounds i true) a w) → K' a w) → if Region.wanted o (yielded ops a.tmps) = true then Oper.wp P o a w K' Q else K' (a.put o.dst undef) w)
    (hs : AllG P md ops Q S f L a w rs) : AllG P md ops Q S f L a w (i :: rs) := fun j hj => by
  rcases List.mem_cons.1 hj with rfl | hj
  · exact wpOp_step ho (fun K' hK => h K' (fun a w hS hW => hK a w ⟨hS, hW hS⟩))
  · exact hs j hj
theorem AllG.ready {rs : List Nat} {f : Nat} {L : Array Bool} {a : Act} {w : World} (hr : Region.ready md ops L = rs) (hne : rs ≠ []) (h : AllG P md ops Q S f L a w rs) : AnyG P md ops Q S (f + 1) L a w :=
  ⟨fun e => absurd (hr.symm.trans e) hne, fun i hi => h i (hr ▸ hi)⟩
theorem AnyG.done {L : Array Bool} {a : Act} {w : World} (hr : Region.ready md ops L = []) (h : Q .normal a w) : ∀ f, AnyG P md ops Q S f L a w
  | 0 => ⟨hr, h⟩
  | _ + 1 => ⟨fun _ => h, fun i hi => absurd hi (by rw [hr]; exact List.not_mem_nil)⟩
theorem AnyG.begin {id : Nat} {a : Act} {w : World} (hm : P.follows .mixedOrders = true) (hS : S (Array.replicate ops.size false) w.drew) (h : S (Array.replicate ops.size false) w.drew → AnyG P .any ops Q S ops.size (Array.replicate ops.size false) a w.drew) : (Code.region id ops true).wp P Q a w :=
  wp_region_any hm (h hS).any
end

end Go.Proofs.YtekmenkebokdoaaGreatDoor
