/-
  Which elements may be: write's letters, attributes, alone, may, May.
  Operations of a region that asks the tape, where what is known of the world hangs on which of them have come up already.
-/
import Derived.Test.YtnlkpdodacphkaaGreatDoorA7
import Derived.Test.YtnlkpdodacphkaaGreatDoorA13
import Derived.Test.YtnlkpdodacphkaaGreatDoorA4
import Derived.Deep.LoopGhost
import Derived.Deep.RegionHeld3
import Derived.BigQuiet
import Derived.Deep.QuietTactic
import Derived.IntWalk
import Derived.OrdersHeld
import Derived.Deep.RegionHeld
namespace Go.Proofs.YtnlkpdodacphkaaGreatDoor
open Go Go.RowKit Go.Lib
set_option maxRecDepth 100000

def lettersB (s : ByteArray) : Bool := decide (textL (bl s) < 0)
/-- Attributes, each by what is known of those ahead. -/
def attB (R : List Att) (a : Att) : Bool := !(R.any fun b => decide (b.1 = a.1)) && (!(decide (a.1 = bXmlns)) && (nameL (bl a.1) && lettersB a.2))
def attsF : List Att → List Att → Bool
  | _, [] => true
  | R, a :: A => attB R a && attsF (R ++ [a]) A
def attsB (A : List Att) : Bool := decide (A.length ≤ 15) && attsF [] A
def aloneB (s n t : ByteArray) (A : List Att) (k : Nat) : Bool := nameL (bl n) && (lettersB s && (attsB A && (lettersB t && (decide (trimmed t = t) && (decide (t.size = 0) || decide (k = 0))))))
/-- Texts that are not too long for a machine. -/
def SmA (A : List Att) : Prop := ∀ a ∈ A, a.1.size ≤ 1000000 ∧ a.2.size ≤ 1000000
theorem wletters (s : ByteArray) (w : World) (hs : s.size ≤ 9223372036854775807) (hT : Tabs w) :
    Calls Tryz.prog 79 #[.string s] w fun e w' => e = .returned (.bool (lettersB s)) ∧ Below w.heap.size w w' := by
  have C := Lib.hid (ctext s w hs hT)
  unfold lettersB
  generalize textL (bl s) = A at C ⊢
  clear hT
  go_enter Tryz.func79, Tryz.ntmps79
  go_wp2_with fail
  refine C.out.mono ?_
  rintro e w1 ⟨rfl, hb⟩
  have HB := Lib.hid hb
  clear hb C
  go_wp2_with fail
  go_ret
  exact ⟨rfl, HB.out⟩
/-- The function that attributes hands on. -/
theorem acl (q : Nat) (an n v : ByteArray) (w : World) (hq : q < w.heap.size) (cq : w.cell? ⟨q, 0, none⟩ = some (.string an)) :
    Calls Tryz.prog 115 #[.agg #[.string n, .string v], .pointer (some ⟨q, 0, none⟩)] w fun r w' => r = .returned (.bool (decide (n = an))) ∧ Below w.heap.size w w' := by
  have hB1 := (Below.refl w.heap.size w).alloc (Nat.le_refl _) (.cells #[.string n, .string v] 56)
  have cq1 := (hB1.cell (p := ⟨q, 0, none⟩) hq).trans cq
  have H := Lib.hid hB1
  have HE := Lib.hid (tl_beq n an)
  clear cq hB1
  go_enter Tryz.func115, Tryz.ntmps115
  go_wp2
  go_ret
  exact ⟨by rw [← HE.out]; rfl, H.out⟩
set_option maxHeartbeats 2000000 in
/-- slices.IndexFunc: the first attribute of that name. -/
theorem aidx (q g o cap : Nat) (an : ByteArray) (A : List Att) (m : Nat) (x : Int) (w : World) (hx : x = if m = A.length then -1 else (m : Int)) (hq : q < w.heap.size) (hg : g < w.heap.size) (hlen : A.length ≤ 1000) (hm : m ≤ A.length)
    (cq : w.cell? ⟨q, 0, none⟩ = some (.string an))
    (hc : ∀ j (h : j < A.length), w.cell? ⟨g, o + j * 2, none⟩ = some (.string (A[j]'h).1) ∧ w.cell? ⟨g, o + j * 2 + 1, none⟩ = some (.string (A[j]'h).2))
    (h1 : ∀ j (h : j < A.length), j < m → ¬ (A[j]'h).1 = an) (h2 : ∀ j (h : j < A.length), j = m → (A[j]'h).1 = an) :
    Calls Tryz.prog 138 #[.slice (some ⟨g, o, none⟩) A.length cap, .func (.func 115) #[] #[.pointer (some ⟨q, 0, none⟩)]] w fun r w' => r = .returned (.int .i64 x) ∧ Below w.heap.size w w' := by
  have HX := Lib.hid hx
  clear hx
  have HC := Lib.hid hc
  have H1 := Lib.hid h1
  have H2 := Lib.hid h2
  have HQ := Lib.hid cq
  clear hc h1 h2 cq
  go_enter Tryz.func138, Tryz.ntmps138
  go_wp2
  go_loopg [8] (m + 1) (fun g i wr => ∃ j : Nat, g + j = m + 1 ∧ j ≤ m ∧ i = .int .i64 j ∧ Below w.heap.size w wr)
  case atStart => exact ⟨0, rfl, Nat.zero_le _, rfl, Below.refl _ _⟩
  case round =>
    obtain ⟨j, hgm, hj, rfl, hBw⟩ := hrel
    by_cases hlt : j < A.length
    · obtain ⟨b0, b1⟩ := HC.out j hlt
      have c0 := (hBw.cell (p := ⟨g, o + j * 2, none⟩) hg).trans b0
      have c1 := (hBw.cell (p := ⟨g, o + j * 2 + 1, none⟩) hg).trans b1
      clear b0 b1
      have C := fun n v => acl q an n v wr (Nat.lt_of_lt_of_le hq hBw.size) ((hBw.cell (p := ⟨q, 0, none⟩) hq).trans HQ.out)
      have hltz : (j : Int) < (A.length : Int) := by omega
      have HW := Lib.hid hBw
      clear hBw
      by_cases hjm : j < m
      · have hd := H1.out j hlt hjm
        obtain ⟨⟨tn, tv⟩, ht⟩ : ∃ t, A[j]'hlt = t := ⟨_, rfl⟩
        rw [ht] at c0 c1 hd
        have C := C tn tv
        rw [decide_eq_false hd] at C
        have C := Lib.hid C
        have hf := Lib.hid (show (m + 1 - (j + 1)) + (j + 1) = m + 1 by omega)
        have hjm := Lib.hid hjm
        clear ht hd hlt hj
        go_wp2_with fail
        refine C.out.mono ?_
        rintro r w2 ⟨rfl, hB2⟩
        have HW2 := Lib.hid (HW.out.trans (hB2.mono HW.out.size))
        clear hB2 C
        go_wp2
        go_roundg (m + 1 - (j + 1))
        case measure => have := hjm.out; omega
        case rel => exact ⟨j + 1, hf.out, hjm.out, by simp, HW2.out⟩
      · have hd := H2.out j hlt (by omega)
        obtain ⟨⟨tn, tv⟩, ht⟩ : ∃ t, A[j]'hlt = t := ⟨_, rfl⟩
        rw [ht] at c0 c1 hd
        have C := C tn tv
        rw [decide_eq_true hd] at C
        have C := Lib.hid C
        obtain rfl : j = m := by omega
        have hR := Lib.hid (show x = j by rw [HX.out, if_neg (by omega)])
        clear ht hd hlt hj hjm
        go_wp2_with fail
        refine C.out.mono ?_
        rintro r w2 ⟨rfl, hB2⟩
        have HW2 := Lib.hid (HW.out.trans (hB2.mono HW.out.size))
        clear hB2 C
        go_wp2
        go_ret
        exact ⟨by rw [hR.out]; rfl, HW2.out⟩
    · obtain rfl : j = A.length := by omega
      have hR := Lib.hid (show x = -1 by rw [HX.out, if_pos (by omega)])
      have HW := Lib.hid hBw
      clear hBw hj hgm
      go_wp2
      go_ret
      exact ⟨by rw [hR.out]; rfl, HW.out⟩
/-- slices.ContainsFunc: whether there is one of that name. -/
theorem acont (q g o cap : Nat) (an : ByteArray) (A : List Att) (w : World) (hq : q < w.heap.size) (hg : g < w.heap.size) (hlen : A.length ≤ 1000)
    (cq : w.cell? ⟨q, 0, none⟩ = some (.string an))
    (hc : ∀ j (h : j < A.length), w.cell? ⟨g, o + j * 2, none⟩ = some (.string (A[j]'h).1) ∧ w.cell? ⟨g, o + j * 2 + 1, none⟩ = some (.string (A[j]'h).2)) :
    Calls Tryz.prog 114 #[.slice (some ⟨g, o, none⟩) A.length cap, .func (.func 115) #[] #[.pointer (some ⟨q, 0, none⟩)]] w fun r w' => r = .returned (.bool (A.any fun b => decide (b.1 = an))) ∧ Below w.heap.size w w' := by
  obtain ⟨m, hm1, hm2, hm3⟩ := first_non (fun j => decide (¬ (A.getD j (⟨#[]⟩, ⟨#[]⟩)).1 = an)) A.length
  have hget : ∀ j (h : j < A.length), A.getD j (⟨#[]⟩, ⟨#[]⟩) = A[j]'h := fun j h => by simp [List.getD, h]
  have C := Lib.hid (aidx q g o cap an A m _ w rfl hq hg hlen hm1 cq hc (fun j h hj => by have := hm2 j hj; rw [hget j h] at this; exact of_decide_eq_true this) (fun j h e => by
    have := hm3 (by omega)
    rw [← e, hget j h] at this
    exact Decidable.not_not.1 (of_decide_eq_false this)))
  have hany : (A.any fun b => decide (b.1 = an)) = decide ((0 : Int) ≤ if m = A.length then -1 else (m : Int)) := by
    by_cases hml : m = A.length
    · rw [if_pos hml, decide_eq_false (by decide), List.any_eq_false]
      intro b hb
      obtain ⟨j, hj, rfl⟩ := List.mem_iff_getElem.1 hb
      have := hm2 j (by omega)
      rw [hget j hj] at this
      simpa using this
    · rw [if_neg hml, decide_eq_true (by omega), List.any_eq_true]
      have hml' : m < A.length := by omega
      have := hm3 hml'
      rw [hget m hml'] at this
      exact ⟨_, List.getElem_mem hml', by simpa using this⟩
  rw [hany]
  generalize (if m = A.length then -1 else (m : Int)) = x at C ⊢
  clear hany hget hm1 hm2 hm3 hc cq
  go_enter Tryz.func114, Tryz.ntmps114
  go_wp2_with fail
  refine C.out.mono ?_
  rintro e w1 ⟨rfl, hb⟩
  have HB := Lib.hid hb
  clear hb C
  go_wp2_with fail
  go_ret
  exact ⟨rfl, HB.out⟩

theorem xmlns_list : bXmlns.toList = [120, 109, 108, 110, 115] := by rw [Lib.toList_data]; rfl
theorem attsF_at (A : List Att) (k : Nat) (h : k < A.length) : attsF (A.take k) (A.drop k) = (attB (A.take k) (A[k]'h) && attsF (A.take (k + 1)) (A.drop (k + 1))) := by
  rw [List.drop_eq_getElem_cons h, attsF, List.take_succ_eq_append_getElem h]
set_option maxHeartbeats 8000000 in
theorem wattrs (P : Nat → Prop) (va : Value) (A : List Att) (w : World) (hA : AttV P w va A) (hs : SmA A) (hT : Tabs w) :
    Calls Tryz.prog 80 #[va] w fun e w' => e = .returned (.bool (attsB A)) ∧ Below w.heap.size w w' := by
  obtain ⟨ao, cap, rfl, hc, hcp⟩ := hA
  by_cases h15 : A.length ≤ 15
  · have h15' : decide ((15 : Int) < (A.length : Int)) = false := decide_eq_false (by omega)
    have hB : attsB A = attsF (A.take 0) (A.drop 0) := by unfold attsB; rw [decide_eq_true h15]; rfl
    have HB0 := Lib.hid hB
    have HC := Lib.hid hc
    have HS := Lib.hid hs
    have HT := Lib.hid hT
    clear hc hs hT hB
    go_enter Tryz.func80, Tryz.ntmps80
    go_wp2
    go_loopg [3, 4, 5, 11] A.length (fun g i bx ag ix wr => ∃ k : Nat, g + k = A.length ∧ ix = .int .i64 k ∧ Hid (attsB A = attsF (A.take k) (A.drop k)) ∧ Below w.heap.size w wr)
    case atStart => exact ⟨0, rfl, rfl, HB0, Below.refl _ _⟩
    case round =>
      obtain ⟨k, hg, rfl, HF, hbr⟩ := hrel
      by_cases hk : k < A.length
      · have hk' : (k : Int) < (A.length : Int) := by omega
        obtain ⟨g0, o0, rfl, _, hg0, hcell⟩ := HC.out (by omega)
        obtain ⟨⟨an, av⟩, hav⟩ : ∃ y, A[k]'hk = y := ⟨_, rfl⟩
        have hsz := HS.out (an, av) (by rw [← hav]; exact List.getElem_mem hk)
        have hF := attsF_at A k hk
        rw [hav, ← HF.out] at hF
        have a0 := (hbr.cell (p := ⟨g0, o0 + k * 2, none⟩) hg0).trans (hcell k hk).1
        have a1 := (hbr.cell (p := ⟨g0, o0 + k * 2 + 1, none⟩) hg0).trans (hcell k hk).2
        rw [hav] at a0 a1
        have hbx := heap_alloc_new wr (.cells #[.string an, .string av] 56)
        have hA1 := hbr.alloc hbr.size (.cells #[.string an, .string av] 56)
        obtain ⟨w1, hw1⟩ : ∃ w1, wr.alloc (.cells #[.string an, .string av] 56) = w1 := ⟨_, rfl⟩
        have hlt : wr.heap.size < w1.heap.size := by rw [← hw1]; simp
        obtain ⟨q, hq⟩ : ∃ q, wr.heap.size = q := ⟨_, rfl⟩
        rw [hw1] at hbx hA1
        rw [hq] at hbx hlt
        have b0 := Lib.cell_of_heap hbx 0
        simp only [List.getElem?_toArray, List.getElem?_cons_zero] at b0
        have htk : (A.take k).length = k := by rw [List.length_take]; omega
        have CF := acont q g0 o0 cap an (A.take k) w1 hlt (Nat.lt_of_lt_of_le hg0 hA1.size) (by omega) b0 (fun j hj => by
          have hj' : j < A.length := by omega
          have e : (A.take k)[j]'hj = A[j]'hj' := by simp
          rw [e]
          exact ⟨(hA1.cell (p := ⟨g0, o0 + j * 2, none⟩) hg0).trans (hcell j hj').1, (hA1.cell (p := ⟨g0, o0 + j * 2 + 1, none⟩) hg0).trans (hcell j hj').2⟩)
        rw [htk] at CF
        have CF := Lib.hid CF
        have HBX := Lib.hid hbx
        have HA1 := Lib.hid hA1
        have HLT := Lib.hid hlt
        have HFE := Lib.hid hF
        have HSZ := Lib.hid hsz
        have hkc : (k : Int) ≤ (cap : Int) := by omega
        have hk15 : (k : Int) < 15 := by omega
        clear hF hav hsz htk hbr hcell hbx hA1 hlt b0
        go_wp2_with fail
        refine CF.out.mono ?_
        rintro e w2 ⟨rfl, hb2⟩
        have hX2 := (hb2.block q HLT.out).trans HBX.out
        have HA2 := Lib.hid (HA1.out.trans (hb2.mono HA1.out.size))
        have hT2 := HT.out.below HA2.out
        have HLT2 := Lib.hid (Nat.lt_of_lt_of_le HLT.out hb2.size)
        have d0 := Lib.cell_of_heap hX2 0
        have d1 := Lib.cell_of_heap hX2 1
        simp only [List.getElem?_toArray, List.getElem?_cons_zero, List.getElem?_cons_succ] at d0 d1
        have CN := cname an w2 (by have := HSZ.out.1; omega) hT2
        have HT2 := Lib.hid hT2
        have HX2 := Lib.hid hX2
        clear hb2 CF hX2 hT2 a0 a1
        cases hany : (A.take k).any fun b => decide (b.1 = an) with
        | true =>
          have HR := Lib.hid (show attsB A = false by rw [HFE.out]; unfold attB; rw [hany]; rfl)
          clear hany CN
          go_wp2_with fail
          go_ret
          exact ⟨by rw [HR.out]; rfl, HA2.out⟩
        | false =>
          by_cases hx : an = bXmlns
          · have HR := Lib.hid (show attsB A = false by rw [HFE.out]; unfold attB; rw [decide_eq_true hx]; simp)
            have q1 : (an.toList == bXmlns.toList) = true := by rw [hx]; simp
            rw [xmlns_list] at q1
            clear hany CN hx
            go_wp2_with fail
            go_ret
            exact ⟨by rw [HR.out]; rfl, HA2.out⟩
          · have q1 : (an.toList == bXmlns.toList) = false := beq_eq_false_iff_ne.2 fun e => hx (tl_inj e)
            rw [xmlns_list] at q1
            cases hn : nameL (bl an) with
            | false =>
              rw [hn] at CN
              have HR := Lib.hid (show attsB A = false by rw [HFE.out]; unfold attB; rw [hn]; simp)
              have CN := Lib.hid CN
              clear hany hn hx
              go_wp2_with fail
              refine CN.out.mono ?_
              rintro e w3 ⟨rfl, hb3⟩
              have HA3 := Lib.hid (HA2.out.trans (hb3.mono HA2.out.size))
              clear hb3 CN
              go_wp2_with fail
              go_ret
              exact ⟨by rw [HR.out]; rfl, HA3.out⟩
            | true =>
              rw [hn] at CN
              have CN := Lib.hid CN
              have HAT := Lib.hid (show attB (A.take k) (an, av) = lettersB av by unfold attB; rw [hany, decide_eq_false hx, hn]; rfl)
              clear hany hn hx
              go_wp2_with fail
              refine CN.out.mono ?_
              rintro e w3 ⟨rfl, hb3⟩
              have HA3 := Lib.hid (HA2.out.trans (hb3.mono HA2.out.size))
              have hX3 := (hb3.block q HLT2.out).trans HX2.out
              have e1 := Lib.cell_of_heap hX3 1
              simp only [List.getElem?_toArray, List.getElem?_cons_zero, List.getElem?_cons_succ] at e1
              have CL := wletters av w3 (by have := HSZ.out.2; omega) (HT2.out.below hb3)
              clear hb3 CN d0 d1 hX3
              cases hl : lettersB av with
              | false =>
                rw [hl] at CL
                have CL := Lib.hid CL
                have HR := Lib.hid (show attsB A = false by rw [HFE.out, HAT.out, hl]; rfl)
                clear hl
                go_wp2_with fail
                refine CL.out.mono ?_
                rintro e w4 ⟨rfl, hb4⟩
                have HA4 := Lib.hid (HA3.out.trans (hb4.mono HA3.out.size))
                clear hb4 CL e1
                go_wp2_with fail
                go_ret
                exact ⟨by rw [HR.out]; rfl, HA4.out⟩
              | true =>
                rw [hl] at CL
                have CL := Lib.hid CL
                have HR := Lib.hid (show attsB A = attsF (A.take (k + 1)) (A.drop (k + 1)) by rw [HFE.out, HAT.out, hl]; rfl)
                clear hl
                go_wp2_with fail
                refine CL.out.mono ?_
                rintro e w4 ⟨rfl, hb4⟩
                have HA4 := Lib.hid (HA3.out.trans (hb4.mono HA3.out.size))
                clear hb4 CL e1
                go_wp2_with fail
                go_roundg (A.length - (k + 1))
                case measure => omega
                case rel => exact ⟨k + 1, by omega, by go_num, HR, HA4.out⟩
      · have hk' : ¬ (k : Int) < (A.length : Int) := by omega
        have HR := Lib.hid (show attsB A = true by rw [HF.out, List.drop_of_length_le (by omega)]; cases A.take k <;> rfl)
        have HBR := Lib.hid hbr
        clear hbr
        go_wp2_with fail
        go_ret
        exact ⟨by rw [HR.out]; rfl, HBR.out⟩
  · have h15' : (15 : Int) < (A.length : Int) := by omega
    have HR := Lib.hid (show attsB A = false by unfold attsB; rw [decide_eq_false h15]; rfl)
    clear hc hs hT
    go_enter Tryz.func80, Tryz.ntmps80
    go_wp2_with fail
    go_ret
    exact ⟨by rw [HR.out]; rfl, Below.refl _ _⟩


end Go.Proofs.YtnlkpdodacphkaaGreatDoor
namespace Go.Proofs.YtnlkpdodacphkaaGreatDoor
open Go

section
variable {P : Program} {ops : Array Oper} {Q : Exit → Act → World → Prop} {md : Region.Mode} {S : Array Bool → World → Prop}
/-- All orders from here on; S holds, behind each operation, of those that have come up and of the world. -/
def AnyG (P : Program) (md : Region.Mode) (ops : Array Oper) (Q : Exit → Act → World → Prop) (S : Array Bool → World → Prop) : Nat → Array Bool → Act → World → Prop
  | 0, L, a, w => Region.ready md ops L = [] ∧ Q .normal a w
  | f + 1, L, a, w => (Region.ready md ops L = [] → Q .normal a w) ∧ ∀ i ∈ Region.ready md ops L, wpOp P ops Q i (fun a' w' => S (L.setIfInBounds i true) w' ∧ AnyG P md ops Q S f (L.setIfInBounds i true) a' w') a w
theorem AnyG.any {f : Nat} : ∀ {L : Array Bool} {a : Act} {w : World}, AnyG P md ops Q S f L a w → wpAny P md ops Q f L a w := by
  induction f with
  | zero => exact id
  | succ f ih => exact fun h => ⟨h.1, fun i hi => wpOp_mono (fun _ _ k => ih k.2) (h.2 i hi)⟩
/-- Nobody who may come ahead of number i touches what it reads or leaves. -/
def FreeG (md : Region.Mode) (ops : Array Oper) (i : Nat) (oi : Oper) (L : Array Bool) : Prop :=
  ∀ j oj, ops[j]? = some oj → j ≠ i → L.getD j true = false → (∀ e ∈ oj.after, Region.binds md e = true → e.on ≠ i) → oi.apart ops oj = true
theorem FreeG.next {i j : Nat} {oi : Oper} {L : Array Bool} (h : FreeG md ops i oi L) (hj : L.getD j true = false) : FreeG md ops i oi (L.setIfInBounds j true) := fun k ok hk hki hun =>
  h k ok hk hki (if e : j = k then e ▸ hj else (getD_set_ne true e).symm.trans hun)
theorem unlisted_getD {L : Array Bool} {i : Nat} (h : L.getD i true = false) : L.getD i false = false := by
  by_cases hl : i < L.size
  · simpa [hl] using h
  · simp [hl]
/-- Two that may come up do not wait for one another. -/
theorem ready_apart {L : Array Bool} {i j : Nat} {oj : Oper} (hi : i ∈ Region.ready md ops L) (hj : j ∈ Region.ready md ops L) (ho : ops[j]? = some oj) : ∀ e ∈ oj.after, Region.binds md e = true → e.on ≠ i := by
  rintro e he hb rfl
  obtain ⟨_, o, ho', hall⟩ := mem_ready.1 hj
  obtain rfl : oj = o := by rw [ho] at ho'; exact Option.some.inj ho'
  have h := hall e he hb
  rw [unlisted_getD (mem_ready.1 hi).1] at h
  cases h
/-- What is asked of an operation that is taken first: R is what is known of those that have come up while it has not. -/
structure TakeG (P : Program) (md : Region.Mode) (ops : Array Oper) (Q : Exit → Act → World → Prop) (S : Array Bool → World → Prop) (R : Array Bool → Prop) (i : Nat) (oi : Oper) (v : Value) : Prop where
  at_ : ops[i]? = some oi
  sel : ∀ (j : Nat) (o : Oper) cs b, ops[j]? = some o → o.op ≠ .select cs b
  panic : ∀ c a w, Q (.panic c) (a.put oi.dst v) w → Q (.panic c) a w
  keeps : ∀ L j, R L → i ∈ Region.ready md ops L → j ∈ Region.ready md ops L → j ≠ i → R (L.setIfInBounds j true)
  less : ∀ L w, S (L.setIfInBounds i true) w → S L w
theorem TakeG.first {R : Array Bool → Prop} {i : Nat} {oi : Oper} {v : Value} (T : TakeG P md ops Q S R i oi v) : ∀ (f : Nat) (L : Array Bool) (a : Act) (w : World), FreeG md ops i oi L → i ∈ Region.ready md ops L → R L →
    YieldsIf P ops (fun w => ∃ L, R L ∧ S L w) oi v a → S (L.setIfInBounds i true) w → AnyG P md ops Q S f (L.setIfInBounds i true) (a.put oi.dst v) w → AnyG P md ops Q S (f + 1) L a w := by
  intro f
  induction f with
  | zero =>
    refine fun L a w _ hr hR hy hS H => ⟨fun e => absurd hr (by rw [e]; exact List.not_mem_nil), fun j hj => ?_⟩
    rcases Decidable.em (j = i) with rfl | hne
    · exact hy.wpOp T.at_ ⟨L, hR, T.less _ _ hS⟩ ⟨hS, H⟩
    · exact absurd (ready_mono hj hne) (by rw [H.1]; exact List.not_mem_nil)
  | succ f ih =>
    refine fun L a w hf hr hR hy hS H => ⟨fun e => absurd hr (by rw [e]; exact List.not_mem_nil), fun j hj => ?_⟩
    rcases Decidable.em (j = i) with rfl | hne
    · exact hy.wpOp T.at_ ⟨L, hR, T.less _ _ hS⟩ ⟨hS, H⟩
    obtain ⟨hun, oj, hoj, _⟩ := mem_ready.1 hj
    have hcomm : (L.setIfInBounds i true).setIfInBounds j true = (L.setIfInBounds j true).setIfInBounds i true := (Array.setIfInBounds_comm _ _ hne).symm
    have hstep := wpOp_putIf hoj (hf j oj hoj hne hun (ready_apart hr hj hoj)) (fun cs b => T.sel i oi cs b T.at_) (fun cs b => T.sel j oj cs b hoj) T.panic hy (H.2 j (ready_mono hj hne))
    refine wpOp_mono (fun a' w' k => ?_) hstep
    obtain ⟨ky, kS, kH⟩ := k
    rw [hcomm] at kS kH
    exact ⟨T.less _ _ kS, ih _ a' w' (hf.next hun) (ready_mono hr fun e => hne e.symm) (T.keeps L j hR hr hj hne) ky kS kH⟩

/-! ### cells that are loaded (C), and one that is stored behind operation s (T) -/
def SG (C T : World → Prop) (s : Nat) : Array Bool → World → Prop := fun L w => C w ∧ (L.getD s false = false → T w)
theorem SG.set {C T : World → Prop} {s i : Nat} {L : Array Bool} {w : World} (h : i ≠ s) : SG C T s (L.setIfInBounds i true) w ↔ SG C T s L w := by
  unfold SG; rw [getD_set_ne false h]
theorem SG.take {C T : World → Prop} {s i : Nat} {oi : Oper} {v : Value} {f : Nat} {L : Array Bool} {a : Act} {w : World} (hi : ops[i]? = some oi) (hs : Region.noSelect ops = true) (hf : Region.free md ops L i = true) (hr : (Region.ready md ops L).contains i = true)
    (hQ : ∀ c a w, Q (.panic c) (a.put oi.dst v) w → Q (.panic c) a w) (his : i ≠ s) (hw : Region.wanted oi (yielded ops a.tmps) = true) (hy : ∀ w, C w → (execOp a.eval oi).run P w = .ok (.value v) w) (hS : SG C T s L w)
    (h : AnyG P md ops Q (SG C T s) f (L.setIfInBounds i true) (a.put oi.dst v) w) : AnyG P md ops Q (SG C T s) (f + 1) L a w :=
  TakeG.first (R := fun _ => True) ⟨hi, Region.noSelect_spec hs, hQ, fun _ _ _ _ _ _ => trivial, fun L' w' k => (SG.set (C := C) (T := T) (L := L') (w := w') his).1 k⟩ f L a w (fun j oj => Region.free_spec hi hf j oj) (by simpa using hr) trivial
    (.inl ⟨hw, fun w hw => hy w (by obtain ⟨_, _, k, _⟩ := hw; exact k)⟩) ((SG.set his).2 hS) h
theorem SG.takeT {C T : World → Prop} {s i : Nat} {oi os : Oper} {v : Value} {f : Nat} {L : Array Bool} {a : Act} {w : World} (hi : ops[i]? = some oi) (hs : Region.noSelect ops = true) (hf : Region.free md ops L i = true) (hr : (Region.ready md ops L).contains i = true)
    (hQ : ∀ c a w, Q (.panic c) (a.put oi.dst v) w → Q (.panic c) a w) (his : i ≠ s) (hw : Region.wanted oi (yielded ops a.tmps) = true) (hos : ops[s]? = some os) (hwait : (os.after.any fun e => Region.binds md e && e.on == i) = true) (hL : L.getD s false = false)
    (hy : ∀ w, C w → T w → (execOp a.eval oi).run P w = .ok (.value v) w) (hS : SG C T s L w)
    (h : AnyG P md ops Q (SG C T s) f (L.setIfInBounds i true) (a.put oi.dst v) w) : AnyG P md ops Q (SG C T s) (f + 1) L a w :=
  TakeG.first (R := fun L => L.getD s false = false) ⟨hi, Region.noSelect_spec hs, hQ, fun L j hR hri hrj hne => by
      have hjs : j ≠ s := by
        rintro rfl
        rw [Array.any_eq_true'] at hwait
        obtain ⟨e, he, hb⟩ := hwait
        rw [Bool.and_eq_true, beq_iff_eq] at hb
        exact ready_apart hri hrj hos e he hb.1 hb.2
      rw [getD_set_ne false hjs]; exact hR, fun L' w' k => (SG.set (C := C) (T := T) (L := L') (w := w') his).1 k⟩ f L a w (fun j oj => Region.free_spec hi hf j oj) (by simpa using hr) hL
    (.inl ⟨hw, fun w hw => by obtain ⟨L', hR, hC, hT⟩ := hw; exact hy w hC (hT hR)⟩) ((SG.set his).2 hS) h
theorem no_listed {L : Array Bool} {s : Nat} (h : L.getD s false = true) (k : L.getD s false = false) : False := by rw [h] at k; cases k
/-- Each of those that may come up comes up next. -/
def AllG (P : Program) (md : Region.Mode) (ops : Array Oper) (Q : Exit → Act → World → Prop) (S : Array Bool → World → Prop) (f : Nat) (L : Array Bool) (a : Act) (w : World) (rs : List Nat) : Prop :=
  ∀ i ∈ rs, wpOp P ops Q i (fun a' w' => S (L.setIfInBounds i true) w' ∧ AnyG P md ops Q S f (L.setIfInBounds i true) a' w') a w
theorem AllG.nil {f : Nat} {L : Array Bool} {a : Act} {w : World} : AllG P md ops Q S f L a w [] := fun _ h => (by cases h)
theorem AllG.cons {f : Nat} {L : Array Bool} {a : Act} {w : World} {i : Nat} {o : Oper} {rs : List Nat} (ho : ops[i]? = some o)
    (h : ∀ K' : Act → World → Prop, Shut (∀ a w, S (L.setIfInBounds i true) w → (S (L.setIfInBounds i true) w → AnyG P md ops Q S f (L.setIfInBounds i true) a w) → K' a w) → if Region.wanted o (yielded ops a.tmps) = true then Oper.wp P o a w K' Q else K' (a.put o.dst undef) w)
    (hs : AllG P md ops Q S f L a w rs) : AllG P md ops Q S f L a w (i :: rs) := fun j hj => by
  rcases List.mem_cons.1 hj with rfl | hj
  · exact wpOp_step ho (fun K' hK => h K' (fun a w hS hW => hK a w ⟨hS, hW hS⟩))
  · exact hs j hj
theorem AllG.ready {rs : List Nat} {f : Nat} {L : Array Bool} {a : Act} {w : World} (hr : Region.ready md ops L = rs) (hne : rs ≠ []) (h : AllG P md ops Q S f L a w rs) : AnyG P md ops Q S (f + 1) L a w :=
  ⟨fun e => absurd (hr.symm.trans e) hne, fun i hi => h i (hr ▸ hi)⟩
theorem AnyG.done {L : Array Bool} {a : Act} {w : World} (hr : Region.ready md ops L = []) (h : Q .normal a w) : ∀ f, AnyG P md ops Q S f L a w
  | 0 => ⟨hr, h⟩
  | _ + 1 => ⟨fun _ => h, fun i hi => absurd hi (by rw [hr]; exact List.not_mem_nil)⟩
theorem AnyG.begin {id : Nat} {a : Act} {w : World} (hm : P.follows .mixedOrders = true) (hS : S (Array.replicate ops.size false) w.drew) (h : S (Array.replicate ops.size false) w.drew → AnyG P .any ops Q S ops.size (Array.replicate ops.size false) a w.drew) : (Code.region id ops true).wp P Q a w :=
  wp_region_any hm (h hS).any
end

end Go.Proofs.YtnlkpdodacphkaaGreatDoor
