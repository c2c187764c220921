/-
  The walks of slices.ContainsFunc at attributes, and of (*Scanner).attr.
-/
import Derived.Test.YtekmenkebokdoaaGreatDoorScanQuoted
namespace Go.Proofs.YtekmenkebokdoaaGreatDoor
open Go.RowKit
set_option maxRecDepth 100000

/-- A slice of attributes, as it reads. -/
def Rows (w : World) (v : Value) (A : List (List UInt8 × List UInt8)) : Prop :=
  (A = [] ∧ v = .slice none 0 0) ∨ ∃ g cap, v = .slice (some ⟨g, 0, none⟩) A.length cap ∧ g < w.heap.size ∧
    ∀ j (h : j < A.length), w.cell? ⟨g, j * 2, none⟩ = some (.string (str (A[j]'h).1)) ∧ w.cell? ⟨g, j * 2 + 1, none⟩ = some (.string (str (A[j]'h).2))
theorem Rows.below {w w' : World} {v : Value} {A : List (List UInt8 × List UInt8)} (h : Rows w v A) (hb : Below w.heap.size w w') : Rows w' v A := by
  rcases h with h | ⟨g, cap, hv, hg, h⟩
  · exact .inl h
  · exact .inr ⟨g, cap, hv, Nat.lt_of_lt_of_le hg hb.size, fun j hj => ⟨(hb.cell (p := ⟨g, j * 2, none⟩) hg).trans (h j hj).1, (hb.cell (p := ⟨g, j * 2 + 1, none⟩) hg).trans (h j hj).2⟩⟩
theorem toList_str (l : List UInt8) : (str l).toList = l := by rw [Lib.toList_data]; exact str_bl l

set_option maxHeartbeats 2000000 in
theorem tells_attr (Q : Nat) (M N V : ByteArray) (w : World) (hq : w.cell? ⟨Q, 0, none⟩ = some (.string M)) :
    Calls Tryz.prog 118 #[.agg #[.string N, .string V], .pointer (some ⟨Q, 0, none⟩)] w fun e w' => e = .returned (.bool (N.toList == M.toList)) ∧ Below w.heap.size w w' := by
  have hlt := World.block_lt_of_cell? _ _ hq
  have hq' := ((Below.refl w.heap.size w).alloc (Nat.le_refl _) (.cells #[.string N, .string V] 50)).cell (p := ⟨Q, 0, none⟩) hlt
  rw [hq] at hq'
  go_enter Tryz.func118, Tryz.ntmps118
  go_wp2
  go_ret
  exact ⟨rfl, (Below.refl _ _).alloc (Nat.le_refl _) _⟩
theorem enters_attr : ∀ (args : Array Value) (w : World), (callFunc 118 args).run Tryz.prog w = .ok (.enter 118 args) w := enters_of Tryz.func118 (by kernel_rfl) rfl
/-- The first attribute of a name. -/
def idxA (m : List UInt8) (A : List (List UInt8 × List UInt8)) : Int := if A.any (fun a => a.1 == m) = true then ((A.takeWhile fun a => !(a.1 == m)).length : Int) else -1
theorem idxA_hit (m : List UInt8) : ∀ (A : List (List UInt8 × List UInt8)) (k : Nat) (h : k < A.length), (∀ j (hj : j < A.length), j < k → ((A[j]'hj).1 == m) = false) → ((A[k]'h).1 == m) = true → idxA m A = k
  | [], k, h, _, _ => absurd h (Nat.not_lt_zero k)
  | a :: A, 0, h, _, hk => by
    have hk' : (a.1 == m) = true := hk
    unfold idxA
    rw [if_pos (by simp [hk'])]
    simp [hk']
  | a :: A, k + 1, h, hj, hk => by
    have h0 : (a.1 == m) = false := hj 0 (Nat.zero_lt_succ _) (Nat.zero_lt_succ _)
    have hk' : ((A[k]'(by simpa using h)).1 == m) = true := hk
    have ih := idxA_hit m A k (by simpa using h) (fun j hj' hjk => hj (j + 1) (by simpa using hj') (by omega)) hk'
    unfold idxA at ih ⊢
    have ha : A.any (fun a => a.1 == m) = true := by
      rw [List.any_eq_true]; exact ⟨_, List.getElem_mem _, hk'⟩
    rw [if_pos ha] at ih
    rw [if_pos (by rw [List.any_cons, ha, Bool.or_true]), List.takeWhile_cons, h0]
    simp only [Bool.not_false, if_true, List.length_cons]
    omega
theorem idxA_none (m : List UInt8) (A : List (List UInt8 × List UInt8)) (h : ∀ j (hj : j < A.length), ((A[j]'hj).1 == m) = false) : idxA m A = -1 := by
  unfold idxA
  rw [if_neg]
  rw [List.any_eq_true]
  rintro ⟨a, ha, h2⟩
  obtain ⟨j, hj, rfl⟩ := List.mem_iff_getElem.1 ha
  rw [h j hj] at h2
  exact absurd h2 (by decide)
theorem idxA_sign (m : List UInt8) (A : List (List UInt8 × List UInt8)) : (0 ≤ idxA m A) ↔ A.any (fun a => a.1 == m) = true := by
  unfold idxA
  split <;> simp_all <;> omega
set_option maxHeartbeats 4000000 in
theorem sindex (Q : Nat) (m : List UInt8) (A : List (List UInt8 × List UInt8)) (v : Value) (w : World) (hA : A.length ≤ 1000) (hR : Rows w v A) (hq : w.cell? ⟨Q, 0, none⟩ = some (.string (str m))) :
    Calls Tryz.prog 128 #[v, .func (.func 118) #[] #[.pointer (some ⟨Q, 0, none⟩)]] w fun e w' => e = .returned (.int .i64 (idxA m A)) ∧ Below w.heap.size w w' := by
  have hlt := World.block_lt_of_cell? _ _ hq
  have he := enters_attr
  rcases hR with ⟨rfl, rfl⟩ | ⟨g, cap, rfl, hg, hR⟩
  · clear hq
    go_enter Tryz.func128, Tryz.ntmps128
    go_wp2
    go_loopg [8] 0 (fun gg i wr => i = .int .i64 0 ∧ gg = 0 ∧ wr = w)
    case atStart => exact ⟨rfl, rfl, rfl⟩
    case round =>
      obtain ⟨rfl, hgg, rfl⟩ := hrel
      go_wp2
      go_ret
      exact ⟨rfl, Below.refl _ _⟩
  · have HR := Lib.hid hR
    have Hq := Lib.hid hq
    clear hR hq
    obtain ⟨R, hRd⟩ : ∃ R, idxA m A = R := ⟨_, rfl⟩
    have HI := Lib.hid hRd
    rw [hRd]
    clear hRd
    obtain ⟨n, hn⟩ : ∃ n, A.length = n := ⟨_, rfl⟩
    rw [hn] at hA ⊢
    have Hn := Lib.hid hn
    clear hn
    go_enter Tryz.func128, Tryz.ntmps128
    go_wp2
    go_loopg [8] n (fun gg i wr => ∃ k : Nat, gg + k = n ∧ i = .int .i64 k ∧ Hid (∀ j (hj : j < A.length), j < k → ((A[j]'hj).1 == m) = false) ∧ Below w.heap.size w wr)
    case atStart => exact ⟨0, rfl, rfl, Lib.hid (fun j _ h => absurd h (Nat.not_lt_zero j)), Below.refl _ _⟩
    case round =>
      obtain ⟨k, hgk, rfl, HJ, hb⟩ := hrel
      by_cases hk : k < n
      · have hk' : (k : Int) < (n : Int) := by omega
        have hkA : k < A.length := by rw [Hn.out]; exact hk
        obtain ⟨x, hx⟩ : ∃ x, A[k]'hkA = x := ⟨_, rfl⟩
        have r1 := (hb.cell (p := ⟨g, k * 2, none⟩) hg).trans (HR.out k hkA).1
        have r2 := (hb.cell (p := ⟨g, k * 2 + 1, none⟩) hg).trans (HR.out k hkA).2
        rw [hx] at r1 r2
        have C := Lib.hid (tells_attr Q (str m) (str x.1) (str x.2) wr ((hb.cell (p := ⟨Q, 0, none⟩) hlt).trans Hq.out))
        rw [toList_str, toList_str] at C
        cases hm : (x.1 == m) with
        | true =>
          have hI := idxA_hit m A k hkA HJ.out (by rw [hx]; exact hm)
          rw [HI.out] at hI
          subst hI
          rw [hm] at C
          clear hm hx
          go_wp2_with fail
          refine C.out.mono ?_
          rintro e w1 ⟨rfl, hb1⟩
          go_wp2
          go_ret
          exact ⟨rfl, hb.trans (hb1.mono hb.size)⟩
        | false =>
          have HJ2 := Lib.hid (show ∀ j (hj : j < A.length), j < k + 1 → ((A[j]'hj).1 == m) = false from fun j hj hjk => by
            by_cases e : j = k
            · subst e; rw [hx]; exact hm
            · exact HJ.out j hj (by omega))
          rw [hm] at C
          clear hm hx
          go_wp2_with fail
          refine C.out.mono ?_
          rintro e w1 ⟨rfl, hb1⟩
          have hb2 := hb.trans (hb1.mono hb.size)
          clear r1 r2 hb hb1
          go_wp2
          go_roundg (n - (k + 1))
          case measure => omega
          case rel => exact ⟨k + 1, by omega, by go_num, HJ2, hb2⟩
      · have hI := idxA_none m A (fun j hj => HJ.out j hj (by have := Hn.out; omega))
        rw [HI.out] at hI
        subst hI
        go_wp2
        go_ret
        exact ⟨rfl, hb⟩
set_option maxHeartbeats 1000000 in
theorem scontains (Q : Nat) (m : List UInt8) (A : List (List UInt8 × List UInt8)) (v : Value) (w : World) (hA : A.length ≤ 1000) (hR : Rows w v A) (hq : w.cell? ⟨Q, 0, none⟩ = some (.string (str m))) (e0 : Bool) (he : A.any (fun a => a.1 == m) = e0) :
    Calls Tryz.prog 117 #[v, .func (.func 118) #[] #[.pointer (some ⟨Q, 0, none⟩)]] w fun e w' => e = .returned (.bool e0) ∧ Below w.heap.size w w' := by
  have C := Lib.hid (sindex Q m A v w hA hR hq)
  have hi := idxA_sign m A
  rw [he] at hi
  generalize idxA m A = I at C hi
  clear hR hq he
  cases e0 with
  | true =>
    have h0 : 0 ≤ I := hi.2 rfl
    clear hi
    go_enter Tryz.func117, Tryz.ntmps117
    go_wp2_with fail
    refine C.out.mono ?_
    rintro e w1 ⟨rfl, hb1⟩
    go_wp2
    go_ret
    exact ⟨rfl, hb1⟩
  | false =>
    have h0 : decide (0 ≤ I) = false := by
      apply decide_eq_false; intro h; exact absurd (hi.1 h) (by decide)
    clear hi
    go_enter Tryz.func117, Tryz.ntmps117
    go_wp2_with fail
    refine C.out.mono ?_
    rintro e w1 ⟨rfl, hb1⟩
    go_wp2
    go_ret
    exact ⟨rfl, hb1⟩

/-! ### attr -/
theorem Only.setNew {b : Nat} {w w' : World} (h : Only b w w') {p : Addr} (hp : w.heap.size ≤ p.block) (v : Value) : Only b w (w'.setCell p v) :=
  ⟨h.os, h.tape, h.output, by simpa [World.setCell] using h.size, fun k hk hb => (Below.heap_setCell _ _ _ _ (by omega)).trans (h.block k hk hb)⟩
theorem Sc.setOther {B b : Nat} {s : ByteArray} {σ : St} {w : World} (h : Sc B b s σ w) {p : Addr} (hp : p.block ≠ b) (hB : B ≤ p.block) (v : Value) : Sc B b s σ (w.setCell p v) :=
  ⟨h.base, h.len, h.pos, h.glob.step ((Below.refl _ _).setCell hB v), (Below.heap_setCell _ _ _ _ (fun e => hp e.symm)).trans h.heap⟩
theorem Only.heap {b : Nat} {w w' : World} (h : Only b w w') {k : Nat} {o : Obj} (hk : w.heap[k]? = some o) (hb : k ≠ b) : w'.heap[k]? = some o := by
  rw [h.block k (Array.getElem?_eq_some_iff.1 hk).1 hb]; exact hk
/-- .. in another block than b. -/
def RowsB (b : Nat) (w : World) (v : Value) (A : List (List UInt8 × List UInt8)) : Prop := Rows w v A ∧ ∀ g o n c, v = .slice (some ⟨g, o, none⟩) n c → g ≠ b ∧ ∃ cs z, w.heap[g]? = some (.cells cs 50 z)
theorem RowsB.only {b : Nat} {w w' : World} {v : Value} {A : List (List UInt8 × List UInt8)} (h : RowsB b w v A) (ho : Only b w w') : RowsB b w' v A := by
  obtain ⟨h, hne⟩ := h
  refine ⟨?_, fun g o n c hv => ?_⟩
  · rcases h with h | ⟨g, cap, hv, hg, h⟩
    · exact .inl h
    · have hb := ho.block g hg (hne _ _ _ _ hv).1
      exact .inr ⟨g, cap, hv, Nat.lt_of_lt_of_le hg ho.size, fun j hj => ⟨(World.cell?_of_block (w := w) hb).trans (h j hj).1, (World.cell?_of_block (w := w) hb).trans (h j hj).2⟩⟩
  · obtain ⟨h1, cs, z, h2⟩ := hne g o n c hv
    exact ⟨h1, cs, z, ho.heap h2 h1⟩
set_option maxHeartbeats 4000000 in
theorem sattr0 (B b : Nat) (s : ByteArray) (σ σ1 σ2 σ3 σ4 σ5 : St) (w : World) (v : Value) (A : List (List UInt8 × List UInt8)) (m : List UInt8) (N V : ByteArray) (hS : Sc B b s σ w) (hR : Hid (RowsB b w v A)) (hA : A.length ≤ 1000) (e0 : Bool) (he : Hid (A.any (fun a => a.1 == m) = e0)) (hm : Hid (str m = N))
    (C1 : Hid (∀ w, Sc B b s σ w → Calls Tryz.prog 98 #[.pointer (some ⟨b, 0, none⟩)] w fun r w' => r = .returned (.string N) ∧ Sc B b s σ1 w' ∧ Only b w w'))
    (C2 : Hid (∀ w, Sc B b s σ1 w → Calls Tryz.prog 99 #[.pointer (some ⟨b, 0, none⟩), .func (.func 100) #[] #[]] w fun r w' => (∃ T, r = .returned (.string T)) ∧ Sc B b s σ2 w' ∧ Only b w w'))
    (C3 : Hid (∀ w, Sc B b s σ2 w → Calls Tryz.prog 101 #[.pointer (some ⟨b, 0, none⟩), .string ⟨#[61]⟩] w fun r w' => r = .returned (.tuple #[]) ∧ Sc B b s σ3 w' ∧ Only b w w'))
    (C4 : Hid (∀ w, Sc B b s σ3 w → Calls Tryz.prog 99 #[.pointer (some ⟨b, 0, none⟩), .func (.func 100) #[] #[]] w fun r w' => (∃ T, r = .returned (.string T)) ∧ Sc B b s σ4 w' ∧ Only b w w'))
    (C5 : Hid (∀ w, Sc B b s σ4 w → Calls Tryz.prog 116 #[.pointer (some ⟨b, 0, none⟩)] w fun r w' => r = .returned (.string V) ∧ Sc B b s σ5 w' ∧ Only b w w')) :
    Calls Tryz.prog 102 #[.pointer (some ⟨b, 0, none⟩), v] w fun r w' => r = .returned (.agg #[.string N, .string V]) ∧ Sc B b s (if e0 = true then wrongS 7 σ.pos σ5 else σ5) w' ∧ Only b w w' := by
  have hmf : ∀ (fn : Fn) (first cap : Array Value) (w : World), (Instr.makeFunc fn first cap).run Tryz.prog w = .ok (.func fn first cap) w := fun _ _ _ _ => rfl
  have HS := Lib.hid (hS.step ((Below.refl _ _).alloc (Nat.le_refl _) (.cells #[.string ⟨#[]⟩, .string ⟨#[]⟩] 50)))
  have HR1 := Lib.hid (hR.out.only (Only.alloc b w (.cells #[.string ⟨#[]⟩, .string ⟨#[]⟩] 50)))
  have HO := Lib.hid (Only.alloc b w (.cells #[.string ⟨#[]⟩, .string ⟨#[]⟩] 50))
  have hcell := Lib.hid (heap_alloc_new w (.cells #[.string ⟨#[]⟩, .string ⟨#[]⟩] 50))
  have c1 := HS.out.c1
  have hbR : b < w.heap.size := hS.lt
  have hBb := hS.base
  clear hS hR
  go_enter Tryz.func102, Tryz.ntmps102
  go_wp2_with fail
  clear c1
  obtain ⟨R, hRe⟩ : ∃ R, w.heap.size = R := ⟨_, rfl⟩
  rw [hRe] at hcell hbR ⊢
  have HRe := Lib.hid hRe
  clear hRe
  generalize w.alloc (.cells #[.string ⟨#[]⟩, .string ⟨#[]⟩] 50) = w0 at HS HR1 HO hcell ⊢
  refine (C1.out w0 HS.out).mono ?_
  rintro r w1 ⟨rfl, h1, o1⟩
  have hc1 := Lib.hid (((Only.refl b w1).heap (o1.heap hcell.out (by omega)) (by omega)))
  have HR2 := Lib.hid ((HR1.out.only o1).only (Only.alloc b w1 (.cells #[.string N] 9)))
  have HO2 := Lib.hid ((HO.out.trans o1).trans (Only.alloc b w1 (.cells #[.string N] 9)))
  have HS2 := Lib.hid (h1.step ((Below.refl _ _).alloc (Nat.le_refl _) (.cells #[.string N] 9)))
  have HQ := Lib.hid (heap_alloc_new w1 (.cells #[.string N] 9))
  have hbQ : b < w1.heap.size := h1.lt
  have hc2 := Lib.hid ((Only.alloc b w1 (.cells #[.string N] 9)).heap hc1.out (by omega))
  clear h1 o1 HS HR1 HO hcell hc1 C1
  go_wp2_with fail
  obtain ⟨Q, hQe⟩ : ∃ Q, w1.heap.size = Q := ⟨_, rfl⟩
  rw [hQe] at HQ hbQ ⊢
  clear hQe
  generalize w1.alloc (.cells #[.string N] 9) = w2 at HS2 HR2 HO2 HQ hc2 ⊢
  refine (C2.out w2 HS2.out).mono ?_
  rintro r w3 ⟨⟨T3, rfl⟩, h3, o3⟩
  have HS3 := Lib.hid h3
  have HO3 := Lib.hid o3
  clear h3 o3 C2 HS2
  go_wp2_with fail
  refine (C3.out w3 HS3.out).mono ?_
  rintro r w4 ⟨rfl, h4, o4⟩
  have HS4 := Lib.hid h4
  have HO4 := Lib.hid (HO3.out.trans o4)
  clear h4 o4 C3 HS3 HO3
  go_wp2_with fail
  refine (C4.out w4 HS4.out).mono ?_
  rintro r w5 ⟨⟨T5, rfl⟩, h5, o5⟩
  have HS5 := Lib.hid h5
  have HO5 := Lib.hid (HO4.out.trans o5)
  clear h5 o5 C4 HS4 HO4
  go_wp2_with fail
  refine (C5.out w5 HS5.out).mono ?_
  rintro r w6 ⟨rfl, h6, o6⟩
  have HS6 := Lib.hid h6
  have HO6 := Lib.hid (HO5.out.trans o6)
  clear h6 o6 C5 HS5 HO5
  have hQ6 := HO6.out.heap HQ.out (by omega)
  have hR6 := Lib.hid (HO6.out.heap hc2.out (by omega))
  have cQ : w6.cell? ⟨Q, 0, none⟩ = some (.string N) := by rw [Lib.cell_of_heap hQ6]; rfl
  have CC := scontains Q m A v w6 hA (HR2.out.only HO6.out).1 (by rw [hm.out]; exact cQ) e0 he.out
  have CC := Lib.hid CC
  have hQ6 := Lib.hid hQ6
  clear cQ
  go_wp2_with fail
  refine CC.out.mono ?_
  rintro r w7 ⟨rfl, hb7⟩
  have HS7 := Lib.hid (HS6.out.step hb7)
  have HO7 := Lib.hid (HO6.out.trans (Only.of hb7))
  have HQ7 := (Only.of (b := b) hb7).heap hQ6.out (by omega)
  have HR7 := (Only.of (b := b) hb7).heap hR6.out (by omega)
  clear hb7 CC HS6 HO6 hR6
  cases e0 with
  | true =>
    have HQ7 := Lib.hid HQ7
    have HR7 := Lib.hid HR7
    have CW := Lib.hid (swrong B b s σ5 w7 HS7.out 7 σ.pos (by decide))
    go_wp2_with fail
    refine CW.out.mono ?_
    rintro r w8 ⟨rfl, h8, o8⟩
    have HQ8 := o8.heap HQ7.out (by omega)
    have HR8 := o8.heap HR7.out (by omega)
    have cQ : w8.cell? ⟨Q, 0, none⟩ = some (.string N) := by rw [Lib.cell_of_heap HQ8]; rfl
    have r0 : w8.cell? ⟨R, 0, none⟩ = some (.string ⟨#[]⟩) := by rw [Lib.cell_of_heap HR8]; rfl
    have r1 : w8.cell? ⟨R, 1, none⟩ = some (.string ⟨#[]⟩) := by rw [Lib.cell_of_heap HR8]; rfl
    have f0 := Lib.frozen_of_heap HR8 0
    have f1 := Lib.frozen_of_heap HR8 1
    have HS8 := Lib.hid h8
    have HO8 := Lib.hid (HO2.out.trans (HO7.out.trans o8))
    have HR8 := Lib.hid HR8
    clear h8 o8 HQ8 HQ7 HR7 hQ6 HQ HS7 HO7 hc2
    go_wp2
    have e0 : (w8.setCell ⟨R, 0, none⟩ (.string N)).cell? ⟨R, 0, none⟩ = some (.string N) := by rw [Lib.cell_of_heap (heap_set _ HR8.out)]; rfl
    have e1 : ((w8.setCell ⟨R, 0, none⟩ (.string N)).setCell ⟨R, 1, none⟩ (.string V)).cell? ⟨R, 1, none⟩ = some (.string V) := by rw [Lib.cell_of_heap (heap_set _ (heap_set _ HR8.out))]; rfl
    refine bodyPost_ret (v := .agg #[.string N, .string V]) (by simp [results, Tryz.results102, go_sem, e0, e1]) rfl ⟨rfl, ?_, ?_⟩
    · exact (HS8.out.setOther (p := ⟨R, 0, none⟩) (by show R ≠ b; omega) (by show B ≤ R; omega) _).setOther (p := ⟨R, 1, none⟩) (by show R ≠ b; omega) (by show B ≤ R; omega) _
    · exact (HO8.out.setNew (p := ⟨R, 0, none⟩) (by show _ ≤ R; have := HRe.out; omega) _).setNew (p := ⟨R, 1, none⟩) (by show _ ≤ R; have := HRe.out; omega) _
  | false =>
    have cQ : w7.cell? ⟨Q, 0, none⟩ = some (.string N) := by rw [Lib.cell_of_heap HQ7]; rfl
    have r0 : w7.cell? ⟨R, 0, none⟩ = some (.string ⟨#[]⟩) := by rw [Lib.cell_of_heap HR7]; rfl
    have r1 : w7.cell? ⟨R, 1, none⟩ = some (.string ⟨#[]⟩) := by rw [Lib.cell_of_heap HR7]; rfl
    have f0 := Lib.frozen_of_heap HR7 0
    have f1 := Lib.frozen_of_heap HR7 1
    have HO8 := Lib.hid (HO2.out.trans HO7.out)
    have HR8 := Lib.hid HR7
    clear HQ7 HR7 hQ6 HQ HO7 hc2
    go_wp2
    have e0 : (w7.setCell ⟨R, 0, none⟩ (.string N)).cell? ⟨R, 0, none⟩ = some (.string N) := by rw [Lib.cell_of_heap (heap_set _ HR8.out)]; rfl
    have e1 : ((w7.setCell ⟨R, 0, none⟩ (.string N)).setCell ⟨R, 1, none⟩ (.string V)).cell? ⟨R, 1, none⟩ = some (.string V) := by rw [Lib.cell_of_heap (heap_set _ (heap_set _ HR8.out))]; rfl
    refine bodyPost_ret (v := .agg #[.string N, .string V]) (by simp [results, Tryz.results102, go_sem, e0, e1]) rfl ⟨rfl, ?_, ?_⟩
    · exact (HS7.out.setOther (p := ⟨R, 0, none⟩) (by show R ≠ b; omega) (by show B ≤ R; omega) _).setOther (p := ⟨R, 1, none⟩) (by show R ≠ b; omega) (by show B ≤ R; omega) _
    · exact (HO8.out.setNew (p := ⟨R, 0, none⟩) (by show _ ≤ R; have := HRe.out; omega) _).setNew (p := ⟨R, 1, none⟩) (by show _ ≤ R; have := HRe.out; omega) _
theorem smust_l (B b : Nat) (s p : ByteArray) (l : List UInt8) (hl : bl p = l) (hp0 : l ≠ []) (σ : St) (w : World) (h : Sc B b s σ w) :
    Calls Tryz.prog 101 #[.pointer (some ⟨b, 0, none⟩), .string p] w fun r w' => r = .returned (.tuple #[]) ∧ Sc B b s (mustS l (bl s) σ) w' ∧ Only b w w' := by
  subst hl; exact smust B b s p σ w h hp0
theorem sskip_l (B b : Nat) (s p : ByteArray) (l : List UInt8) (hl : bl p = l) (hp0 : l ≠ []) (σ : St) (w : World) (h : Sc B b s σ w) (A : Bool) (hA : standsS l (bl s) σ = A) :
    Calls Tryz.prog 78 #[.pointer (some ⟨b, 0, none⟩), .string p] w fun r w' => r = .returned (.bool A) ∧ Sc B b s (skipS l (bl s) σ) w' ∧ Only b w w' := by
  subst hl; subst hA; exact sskip B b s p σ w h hp0
theorem sblanks_t (B b : Nat) (s : ByteArray) (σ : St) (w : World) (hS : Sc B b s σ w) :
    Calls Tryz.prog 99 #[.pointer (some ⟨b, 0, none⟩), .func (.func 100) #[] #[]] w fun r w' => (∃ T, r = .returned (.string T)) ∧ Sc B b s (whileS bb (bl s) σ) w' ∧ Only b w w' :=
  (sblanks B b s σ w hS).mono fun _ _ ⟨h1, h2⟩ => ⟨⟨_, h1⟩, h2⟩
/-- **(*Scanner).attr.** -/
theorem sattr (B b : Nat) (s : ByteArray) (σ : St) (w : World) (v : Value) (A : List (List UInt8 × List UInt8)) (hS : Sc B b s σ w) (hR : RowsB b w v A) (hA : A.length ≤ 1000) :
    Calls Tryz.prog 102 #[.pointer (some ⟨b, 0, none⟩), v] w fun r w' => r = .returned (.agg #[.string (str (attrV (bl s) σ).1), .string (str (attrV (bl s) σ).2)]) ∧ Sc B b s (attrS (bl s) A σ) w' ∧ Only b w w' := by
  have C1 := Lib.hid fun w h => sname B b s σ w h
  have C2 := Lib.hid fun w h => sblanks_t B b s (nameS (bl s) σ) w h
  have C3 := Lib.hid fun w h => smust_l B b s ⟨#[61]⟩ [61] rfl (by decide) (whileS bb (bl s) (nameS (bl s) σ)) w h
  have C4 := Lib.hid fun w h => sblanks_t B b s (mustS [61] (bl s) (whileS bb (bl s) (nameS (bl s) σ))) w h
  have C5 := Lib.hid fun w h => squoted B b s (attrP (bl s) σ) w h
  unfold attrV attrS
  have e4 : attrP (bl s) σ = whileS bb (bl s) (mustS [61] (bl s) (whileS bb (bl s) (nameS (bl s) σ))) := rfl
  rw [← e4] at C4
  obtain ⟨e0, he⟩ : ∃ e0, A.any (fun a => a.1 == runW nb (bl s) σ) = e0 := ⟨_, rfl⟩
  rw [he]
  generalize attrP (bl s) σ = σ4 at C4 C5 ⊢
  generalize mustS [61] (bl s) (whileS bb (bl s) (nameS (bl s) σ)) = σ3 at C3 C4
  generalize whileS bb (bl s) (nameS (bl s) σ) = σ2 at C2 C3
  generalize nameS (bl s) σ = σ1 at C1 C2
  generalize quotedS (bl s) σ4 = σ5 at C5 ⊢
  generalize quotedV (bl s) σ4 = V at C5 ⊢
  exact sattr0 B b s σ σ1 σ2 σ3 σ4 σ5 w v A (runW nb (bl s) σ) (str (runW nb (bl s) σ)) (str V) hS (Lib.hid hR) hA e0 (Lib.hid he) (Lib.hid rfl) C1 C2 C3 C4 C5

end Go.Proofs.YtekmenkebokdoaaGreatDoor
