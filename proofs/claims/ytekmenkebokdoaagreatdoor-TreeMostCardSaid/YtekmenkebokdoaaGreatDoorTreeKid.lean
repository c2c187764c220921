/-
  An element that is put behind those that are there: what fill keeps, behind its append.
-/
import Derived.Test.YtekmenkebokdoaaGreatDoorTreeElem
namespace Go.Proofs.YtekmenkebokdoaaGreatDoor
open Go Go.RowKit
set_option maxRecDepth 100000

theorem own_set {w : World} {base g n cap size : Nat} {e : TypeId} {xs : List Value} (h : w.ownsRow base e size (.slice (some ⟨g, 0, none⟩) n cap) n xs) (o : Nat) (u : Value) :
    (w.setCell ⟨g, o, none⟩ u).ownsRow base e size (.slice (some ⟨g, 0, none⟩) n cap) n (xs.set o u) := by
  refine ⟨by rw [List.length_set]; exact h.1, ?_⟩
  rcases h.2 with ⟨hv, _⟩ | ⟨g', cap', cur, hv, hb, hg, h1, h2, h3, h4⟩
  · cases hv
  · injection hv with e1 e2 e3
    injection e1 with e1
    injection e1 with e1
    subst e1 e3
    exact .inr ⟨g, cap, cur.setIfInBounds o u, rfl, hb, heap_put u hg, h1, h2, by rw [Array.size_setIfInBounds]; exact h3, by rw [Array.toList_setIfInBounds, List.take_set, h4]⟩
theorem own_cell {w : World} {base g n cap size : Nat} {e : TypeId} {xs : List Value} (h : w.ownsRow base e size (.slice (some ⟨g, 0, none⟩) n cap) n xs) : ∃ cur, w.heap[g]? = some (.cells cur e (0, 0)) ∧ base ≤ g := by
  rcases h.2 with ⟨hv, _⟩ | ⟨g', cap', cur, hv, hb, hg, _⟩
  · cases hv
  · injection hv with e1 e2 e3
    injection e1 with e1
    injection e1 with e1
    subst e1
    exact ⟨cur, hg, hb⟩
abbrev zeroC : List Value := [.string ⟨#[]⟩, .string ⟨#[]⟩, .slice none 0 0, .slice none 0 0, .string ⟨#[]⟩]
/-- A row's last element is written, cell by cell. -/
theorem own_last {w : World} {base g n cap : Nat} {V : List NV} (hn : V.length = n) (h : w.ownsRow base 25 5 (.slice (some ⟨g, 0, none⟩) (n + 1) cap) (n + 1) (cellsN V ++ zeroC)) (y : NV) :
    (((((w.setCell ⟨g, n * 5, none⟩ y.a).setCell ⟨g, n * 5 + 1, none⟩ y.b).setCell ⟨g, n * 5 + 2, none⟩ y.c).setCell ⟨g, n * 5 + 3, none⟩ y.d).setCell ⟨g, n * 5 + 4, none⟩ y.e).ownsRow base 25 5 (.slice (some ⟨g, 0, none⟩) (n + 1) cap) (n + 1) (cellsN (V ++ [y])) := by
  have h5 := own_set (own_set (own_set (own_set (own_set h (n * 5) y.a) (n * 5 + 1) y.b) (n * 5 + 2) y.c) (n * 5 + 3) y.d) (n * 5 + 4) y.e
  have hl : (cellsN V).length = n * 5 := by rw [cellsN_len, hn]
  have e : ((((((cellsN V ++ zeroC).set (n * 5) y.a).set (n * 5 + 1) y.b).set (n * 5 + 2) y.c).set (n * 5 + 3) y.d).set (n * 5 + 4) y.e) = cellsN (V ++ [y]) := by
    rw [cellsN_app]
    rw [List.set_append_right _ _ (by omega), List.set_append_right _ _ (by omega), List.set_append_right _ _ (by omega), List.set_append_right _ _ (by omega), List.set_append_right _ _ (by omega)]
    rw [hl, show n * 5 - n * 5 = 0 by omega, show n * 5 + 1 - n * 5 = 1 by omega, show n * 5 + 2 - n * 5 = 2 by omega, show n * 5 + 3 - n * 5 = 3 by omega, show n * 5 + 4 - n * 5 = 4 by omega]
    rfl
  rw [e] at h5
  exact h5
abbrev st5at (w : World) (g o : Nat) (y : NV) : World := ((((w.setCell ⟨g, o, none⟩ y.a).setCell ⟨g, o + 1, none⟩ y.b).setCell ⟨g, o + 2, none⟩ y.c).setCell ⟨g, o + 3, none⟩ y.d).setCell ⟨g, o + 4, none⟩ y.e
theorem st5at_only (w : World) (g o : Nat) (y : NV) : Only g w (st5at w g o y) :=
  ((((Only.set g o w y.a).trans (Only.set g (o + 1) _ y.b)).trans (Only.set g (o + 2) _ y.c)).trans (Only.set g (o + 3) _ y.d)).trans (Only.set g (o + 4) _ y.e)
/-- Behind the append: the row is a longer one, the element stands in it. -/
theorem FiC.kid {B dd b q : Nat} {s : ByteArray} {S : List Fr} {F : Fr} {L' : List Tell} {σ0 : St} {c0 X Q : Nat} {va vo : Value} {o : Pc} {w : World} {σr : St} {K : List Nd} {V : List NV} {vk : Value} {tx : List UInt8} {c' : Nat} {w6 wA w7 : World}
    (h : FiC B dd b q s S F L' σ0 c0 X Q va vo o w σr K V vk tx c' w6) (hfew : K.length < c') (hw : w.heap.size = Q) (hXQ : X < Q) (hBX : B ≤ X)
    {y : NV} {x : Nd} {lo : Nat} (hy : NodeV (NB lo none w6) w6 y.val x) (hlo : ∀ r, vk.ownBlock = some r → r < lo) (hQlo : Q ≤ lo)
    (hA : Below w6.heap.size w6 wA) {g n cap : Nat} (hn : V.length = n) (hown : w7.ownsRow Q 25 5 (.slice (some ⟨g, 0, none⟩) (n + 1) cap) (n + 1) (cellsN V ++ zeroC))
    (hg : wA.grownBy w7 vk.ownBlock) (hat : vk.ownBlock = some g ∨ g = wA.heap.size) :
    FiC B dd b q s S F L' σ0 c0 X Q va vo o w σr (K ++ [x]) (V ++ [y]) (.slice (some ⟨g, 0, none⟩) (n + 1) cap) tx c' ((st5at w7 g (n * 5) y).setCell ⟨X, 3, none⟩ (.slice (some ⟨g, 0, none⟩) (n + 1) cap)) ∧
      Kept [25] wA ((st5at w7 g (n * 5) y).setCell ⟨X, 3, none⟩ (.slice (some ⟨g, 0, none⟩) (n + 1) cap)) := by
  have hA6 := h.step hA
  have hrow : ∀ r, vk.ownBlock = some r → Q ≤ r ∧ ∃ cs, wA.heap[r]? = some (.cells cs 25 (0, 0)) := fun r hr => by
    rcases hA6.row.2.1.2 with ⟨hv, _⟩ | ⟨g', cap', cur, hv, hb', hg', _⟩
    · rw [hv] at hr; cases hr
    · rw [hv] at hr; cases hr; exact ⟨hb', cur, hg'⟩
  obtain ⟨cur7, hg7, hQg⟩ := own_cell hown
  have ho5 := st5at_only w7 g (n * 5) y
  have hgX : g ≠ X := by omega
  have hoX := Only.set X 3 (st5at w7 g (n * 5) y) (.slice (some ⟨g, 0, none⟩) (n + 1) cap)
  have heq : ∀ j, j < wA.heap.size → vk.ownBlock ≠ some j → j ≠ g → j ≠ X → ((st5at w7 g (n * 5) y).setCell ⟨X, 3, none⟩ (.slice (some ⟨g, 0, none⟩) (n + 1) cap)).heap[j]? = wA.heap[j]? := fun j hj hne hjg hjX =>
    (hoX.block j (Nat.lt_of_lt_of_le hj (Nat.le_trans hg.size ho5.size)) hjX).trans ((ho5.block j (Nat.lt_of_lt_of_le hj hg.size) hjg).trans (hg.block j hj (fun e => hne e.symm)))
  have hsz : wA.heap.size ≤ ((st5at w7 g (n * 5) y).setCell ⟨X, 3, none⟩ (.slice (some ⟨g, 0, none⟩) (n + 1) cap)).heap.size := Nat.le_trans hg.size (Nat.le_trans ho5.size hoX.size)
  have hjg : ∀ j, j < wA.heap.size → vk.ownBlock ≠ some j → j ≠ g := fun j hj hne e => by
    rcases hat with h2 | h2
    · exact hne (by rw [h2, e])
    · omega
  have hk : Kept [25] wA ((st5at w7 g (n * 5) y).setCell ⟨X, 3, none⟩ (.slice (some ⟨g, 0, none⟩) (n + 1) cap)) := ⟨hsz, fun j hj hn' => by
    have h1 : vk.ownBlock ≠ some j := fun e => by obtain ⟨_, cs', hc⟩ := hrow j e; exact hn' _ _ _ hc (by decide)
    exact heq j hj h1 (hjg j hj h1) (fun e => by rw [e] at hn'; exact hn' _ _ _ hA6.hX (by decide))⟩
  have hB9 : Below B wA ((st5at w7 g (n * 5) y).setCell ⟨X, 3, none⟩ (.slice (some ⟨g, 0, none⟩) (n + 1) cap)) := by
    have h1 : Below B wA w7 := (Below.refl B wA).grown hg hA6.ds.le (fun r hr => by have := (hrow r hr).1; omega)
    have h2 := h1.trans (ho5.below (by omega) (Nat.le_trans hA6.ds.le hg.size))
    exact h2.trans (hoX.below hBX (Nat.le_trans hA6.ds.le (Nat.le_trans hg.size ho5.size)))
  have hX7 : (st5at w7 g (n * 5) y).heap[X]? = some (.cells #[.string F.sp, .string F.nm, va, vk, .string ⟨#[]⟩] 25 (0, 0)) := by
    have hXl := (Array.getElem?_eq_some_iff.1 hA6.hX).1
    have hne : vk.ownBlock ≠ some X := fun e => by have := (hrow X e).1; omega
    exact (ho5.block X (Nat.lt_of_lt_of_le hXl hg.size) (fun e => hgX e.symm)).trans ((hg.block X hXl (fun e => hne e.symm)).trans hA6.hX)
  refine ⟨⟨hA6.ds.kept hk hB9 (by decide), hA6.below.trans hB9, ((hA6.kept.grownNew hg (fun r hr => by have := (hrow r hr).1; omega)).new ho5 (by omega)).only hoX, hk.heap hA6.hO (by decide), hA6.bl.kept hk (by decide) (by decide), ?_, ?_, ?_, hA6.txl, hA6.pos, hA6.cnt⟩, hk⟩
  · rw [heap_put _ hX7]; rfl
  · refine ⟨by rw [List.length_append, List.length_append, hA6.row.1]; rfl, ?_, fun j hj hj' => ?_⟩
    · have h9 := ownsRow_setCell_other (own_last hn hown y) (a := ⟨X, 3, none⟩) (by intro e; exact hgX (by cases e; rfl)) (.slice (some ⟨g, 0, none⟩) (n + 1) cap)
      have hl : (V ++ [y]).length = n + 1 := by rw [List.length_append, hn]; rfl
      rw [hl]
      exact h9
    · have hto : ∀ (v : Value) (z : Nd) (lo' : Nat) (row : Option Nat), NodeV (NB lo' row wA) wA v z → Q ≤ lo' → (∀ r, vk.ownBlock = some r → r < lo' ∨ row = some r) →
          NodeV (NB Q (Value.ownBlock (.slice (some ⟨g, 0, none⟩) (n + 1) cap)) ((st5at w7 g (n * 5) y).setCell ⟨X, 3, none⟩ (.slice (some ⟨g, 0, none⟩) (n + 1) cap))) ((st5at w7 g (n * 5) y).setCell ⟨X, 3, none⟩ (.slice (some ⟨g, 0, none⟩) (n + 1) cap)) v z := fun v z lo' row hv hl' hr => by
        refine hv.to hsz fun g' hp hg' => ?_
        obtain ⟨p1, p2, cs, t, zz, p3, p4⟩ := hp
        have hne : vk.ownBlock ≠ some g' := fun e => by
          rcases hr g' e with h1 | h1
          · omega
          · exact p2 h1
        have hgg := hjg g' hg' hne
        have he := heq g' hg' hne hgg (by omega)
        exact ⟨⟨by omega, fun e => hgg (by cases e; rfl), cs, t, zz, he.trans p3, p4⟩, he⟩
      by_cases hjn : j < V.length
      · rw [List.getElem_append_left hjn, List.getElem_append_left (by rw [← hA6.row.1]; exact hjn)]
        exact hto _ _ Q _ (hA6.row.2.2 j hjn (by rw [← hA6.row.1]; exact hjn)) (Nat.le_refl _) (fun r hr => .inr hr)
      · have hjV : j = V.length := by rw [List.length_append] at hj; have : [y].length = 1 := rfl; omega
        subst hjV
        rw [List.getElem_append_right (Nat.le_refl _), List.getElem_append_right (by rw [hA6.row.1]; exact Nat.le_refl _)]
        simp only [List.getElem_singleton]
        exact hto _ _ lo none (hy.kept (Kept.of [] hA) (by simp) (by simp)) hQlo (fun r hr => .inl (hlo r hr))
  · rw [List.length_append]; show K.length + 1 ≤ c'; omega

/-! ### two stores into two blocks -/
theorem setCell_comm (w : World) {p q : Addr} (h : p.block ≠ q.block) (u v : Value) : (w.setCell p u).setCell q v = (w.setCell q v).setCell p u := by
  unfold World.setCell
  simp only [World.mk.injEq, and_true]
  apply Array.ext_getElem?
  intro i
  simp only [Array.getElem?_modify]
  by_cases h1 : p.block = i
  · by_cases h2 : q.block = i
    · exact absurd (h1.trans h2.symm) h
    · simp [h1, h2]
  · by_cases h2 : q.block = i
    · simp [h1, h2]
    · simp [h1, h2]
theorem st5at_comm (w : World) {X g : Nat} (h : g ≠ X) (o k : Nat) (y : NV) (u : Value) : (st5at w g o y).setCell ⟨X, k, none⟩ u = st5at (w.setCell ⟨X, k, none⟩ u) g o y := by
  show (((((w.setCell ⟨g, o, none⟩ y.a).setCell ⟨g, o + 1, none⟩ y.b).setCell ⟨g, o + 2, none⟩ y.c).setCell ⟨g, o + 3, none⟩ y.d).setCell ⟨g, o + 4, none⟩ y.e).setCell ⟨X, k, none⟩ u = _
  rw [setCell_comm _ (p := ⟨g, o + 4, none⟩) (q := ⟨X, k, none⟩) h, setCell_comm _ (p := ⟨g, o + 3, none⟩) (q := ⟨X, k, none⟩) h, setCell_comm _ (p := ⟨g, o + 2, none⟩) (q := ⟨X, k, none⟩) h, setCell_comm _ (p := ⟨g, o + 1, none⟩) (q := ⟨X, k, none⟩) h, setCell_comm _ (p := ⟨g, o, none⟩) (q := ⟨X, k, none⟩) h]

end Go.Proofs.YtekmenkebokdoaaGreatDoor
