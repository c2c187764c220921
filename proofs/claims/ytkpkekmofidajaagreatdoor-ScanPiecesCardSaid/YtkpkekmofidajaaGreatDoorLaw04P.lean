/-
  The walk of the law ScanPieces.
-/
import Derived.Test.YtkpkekmofidajaaGreatDoorLaw04R
import Derived.Test.YtkpkekmofidajaaGreatDoorSliceArgs
import Derived.Test.YtkpkekmofidajaaGreatDoorLaw04O
import Derived.Test.YtkpkekmofidajaaGreatDoorLaw04W
namespace Go.Proofs.YtkpkekmofidajaaGreatDoor
open Go Go.RowKit
set_option maxRecDepth 100000

theorem flat_snoc (its : List It) (i : It) : flatI (its ++ [i]) = flatI its ++ i.1 := by unfold flatI; simp
theorem Rows.form {w : World} {v : Value} {A : List (List UInt8 × List UInt8)} (h : Rows w v A) : ∃ ao m cap, v = .slice ao m cap := by
  rcases h with ⟨_, h⟩ | ⟨g, cap, h, _⟩
  · exact ⟨_, _, _, h⟩
  · exact ⟨_, _, _, h⟩
/-- A piece, by picks, and its text. -/
theorem litem (k : Nat) (hk : k < 65536) (s t : ByteArray) (w : World) : Calls Tryz.prog 6 #[.int .i64 k, .string s, .string t] w (GivesI w) := by
  have h7 : bits .and .i64 (k : Int) 7 = ((k % 8 : Nat) : Int) := by
    have := mask_of k hk 3 (by decide) 7 (by decide)
    simpa using this
  obtain ⟨d, hd⟩ : ∃ d, k % 8 = d := ⟨_, rfl⟩
  have hd8 : d < 8 := by omega
  rw [hd] at h7
  clear hd
  obtain ⟨m, hm1, hm2, _, Hm3, _⟩ := min8 t.size 9
  obtain ⟨T, hT'⟩ : ∃ T, t.extract 0 m = T := ⟨_, rfl⟩
  have hTs : T.size ≤ 9 := by rw [← bl_size, ← hT', cut_bl, List.length_take, bl_size]; omega
  by_cases h0 : d = 0
  · subst h0; exact litem_close k hk (Lib.hid h7) s t w
  by_cases h4 : d ≤ 4
  · exact litem_open k hk d (Lib.hid h7) (by omega) h4 s t T m w hm1 Hm3.out (Lib.hid hT') hTs
  by_cases h5 : d = 5
  · subst h5; exact litem_com k hk (Lib.hid h7) s t w
  · exact litem_text k hk d (Lib.hid h7) (by omega) (by omega) s t T m w hm1 Hm3.out (Lib.hid hT') hTs
def LcR (w : World) (n g : Nat) (u7 u8 u9 : Value) (wr : World) : Prop := ∃ (i : Nat) (its : List It) (PV : List Pv) (v : Value), i + g = 10 ∧ i ≤ n ∧ its.length ≤ i ∧ u9 = .int .i64 i ∧ u7 = .string (str (flatI its)) ∧ u8 = v ∧ DcR w its PV v wr
def Skips (PV : List Pv) (kd : Int) : Bool := decide (kd = 4) && PV.getLast?.any (fun q => decide (q.1.kind = 4))
/-- What the law's second loop keeps. -/
def L2R (B b : Nat) (Dc : ByteArray) (D : List UInt8) (WL : List Pc) (PL g : Nat) (w0 : World) (u15 : Value) (wr : World) : Prop := ∃ (k p : Nat) (its : List It), k + g = PL ∧ u15 = .int .i64 k ∧ Sc B b Dc (P_ p) wr ∧ Below w0.heap.size w0 wr ∧ wantsI its p = WL.drop k ∧ AdjI its ∧ OkI its ∧ D.drop p = flatI its ∧ p ≤ D.length
set_option maxHeartbeats 10000000 in
theorem pieces04 (ao bo co : Option Addr) (n ns nt ca cb cc : Nat) (w : World) (hI : IntsIn w ao n) (hS : StrsIn w bo ns) (hT : StrsIn w co nt) (hE : EntV w) (hTb : Tabs w) :
    Calls Tryz.prog 3 #[.slice ao n ca, .slice bo ns cb, .slice co nt cc] w fun e w' => e = .returned (.bool true) ∧ Below w.heap.size w w' := by
  obtain ⟨i0, hi, hz0, hz1, hz2⟩ := info_parts piece_info
  have HI := Lib.hid hi
  have HI0 := Lib.hid hz0
  have HI1 := Lib.hid hz1
  have HI2 := Lib.hid hz2
  clear hi hz0 hz1 hz2
  have HInts := Lib.hid hI
  have HS := Lib.hid hS
  have HT := Lib.hid hT
  have HE := Lib.hid hE
  have HTb := Lib.hid hTb
  have hstart := Lib.hid (show LcR w n 10 (.string ⟨#[]⟩) (.slice (some ⟨w.heap.size, 0, none⟩) 0 0) (.int .i64 (0 : Nat)) (w.alloc (.cells #[] 27)) from
    ⟨0, [], [], _, rfl, Nat.zero_le _, Nat.le_refl _, rfl, rfl, rfl, fun _ h => (by cases h), trivial, fun _ h => (by cases h), rfl, (Below.refl _ _).alloc (Nat.le_refl _) _, World.ownsRow_made w #[] 0 (Nat.le_refl _) (Nat.zero_le _) rfl, fun _ h => (by cases h)⟩)
  clear hI hS hT hE hTb
  go_enter Tryz.func3, Tryz.ntmps3
  go_wp2
  go_loopg [7, 8, 9] 10 (fun g u7 u8 u9 wr => LcR w n g u7 u8 u9 wr)
  case atStart => exact hstart.out
  case round =>
    obtain ⟨i, its, PV, v, hig, hin, hlen, rfl, rfl, hv, hrel⟩ := hrel
    subst hv
    obtain ⟨ao', cap', rfl⟩ : ∃ ao' cap', u8 = .slice ao' PV.length cap' := by
      rcases hrel.own.2 with ⟨hv, h0⟩ | ⟨g, cap, cur, hv, _⟩
      · exact ⟨none, 0, by rw [hv, h0]⟩
      · exact ⟨_, _, hv⟩
    have H := Lib.hid hrel
    have hHs := hrel.below.size
    have hPVl : PV.length ≤ 10 := by
      have h1 := congrArg List.length hrel.pcs
      rw [List.length_map] at h1
      have h2 := wants_len its 0
      omega
    clear hrel
    obtain ⟨E, hE'⟩ : ∃ E : Bool, decide (i < n ∧ i < 10) = E := ⟨_, rfl⟩
    obtain ⟨PL, hPL⟩ : ∃ PL, PV.length = PL := ⟨_, rfl⟩
    rw [hPL] at hPVl H ⊢
    have HE' := Lib.hid hE'
    have HPL := Lib.hid hPL
    clear hE' hPL
    go_upto_region 3 with (fail)
    go_cut [25] (fun u wx => u = .bool E ∧ wx = wr)
    case first =>
      by_cases h1 : i < n
      · have h1' : (i : Int) < (n : Int) := by omega
        by_cases h2 : i < 10
        · have h2' : (i : Int) < 10 := by omega
          go_wp2
          go_meet
          exact ⟨by rw [← HE'.out]; simp [h1, h2], rfl⟩
        · have h2' : decide ((i : Int) < 10) = false := decide_eq_false (by omega)
          go_wp2
          go_meet
          exact ⟨by rw [← HE'.out]; simp [h2], rfl⟩
      · have h1' : decide ((i : Int) < (n : Int)) = false := decide_eq_false (by omega)
        go_wp2
        go_meet
        exact ⟨by rw [← HE'.out]; simp [h1], rfl⟩
    case rest =>
      obtain ⟨rfl, rfl⟩ := hcut
      cases hEE : E with
      | true =>
        subst hEE
        obtain ⟨h1, h2⟩ : i < n ∧ i < 10 := by have := HE'.out; simpa using this
        clear HE'
        go_upto_if 31 with (fail)
        go_cut [10] (fun u wx => (∃ a, u = .string a) ∧ wx = wc)
        case first =>
          by_cases hs : i < ns
          · have hs' : (i : Int) < (ns : Int) := by omega
            obtain ⟨b, off, z, rfl, hc⟩ := HS.out.at_ hs H.out.below
            go_wp2
            go_meet
            exact ⟨⟨_, rfl⟩, rfl⟩
          · have hs' : decide ((i : Int) < (ns : Int)) = false := decide_eq_false (by omega)
            go_wp2
            go_meet
            exact ⟨⟨_, rfl⟩, rfl⟩
        case rest =>
          obtain ⟨⟨a, rfl⟩, rfl⟩ := hcut
          go_upto_if 39 with (fail)
          go_cut [11] (fun u wx => (∃ a, u = .string a) ∧ wx = wc)
          case first =>
            by_cases hs : i < nt
            · have hs' : (i : Int) < (nt : Int) := by omega
              obtain ⟨b, off, z, rfl, hc⟩ := HT.out.at_ hs H.out.below
              go_wp2
              go_meet
              exact ⟨⟨_, rfl⟩, rfl⟩
            · have hs' : decide ((i : Int) < (nt : Int)) = false := decide_eq_false (by omega)
              go_wp2
              go_meet
              exact ⟨⟨_, rfl⟩, rfl⟩
          case rest =>
            obtain ⟨⟨b', rfl⟩, rfl⟩ := hcut
            obtain ⟨kb, ko, z, rfl, hc⟩ := HInts.out.at_ h1 H.out.below
            obtain ⟨K, hK, hKe⟩ := mask_i64 z 16 (by decide) 65535 (by decide)
            have C := Lib.hid (litem K hK a b' wc)
            have h1' : (i : Int) < (n : Int) := by omega
            go_wp2_with fail
            refine C.out.mono ?_
            rintro r w4 ⟨x, ⟨kd, nm, A, tt, A0⟩, tx, va, rfl, hI, htx, hat, hal, hrw, hfr, hb4⟩
            have HIt := Lib.hid (show Item x (if kd = 0 then none else some ⟨kd, nm, A, tt, A0⟩) tx from hI)
            have Htx := Lib.hid (show tx = true ↔ kd = 4 from htx)
            obtain rfl : A0 = 0 := hat
            have hal3 : A.length ≤ 3 := hal
            obtain ⟨aa, m, ac, rfl⟩ := hrw.form
            have H4 := Lib.hid (H.out.step hb4)
            have HRw := Lib.hid (show Rows w4 (.slice aa m ac) A from hrw)
            have HFr := Lib.hid hfr
            have hw4 := hb4.size
            have hQ := Lib.hid (heap_alloc_new w4 (.cells #[.int .i64 kd, .string (str nm), .slice aa m ac, .string (str tt), .int .i64 0] 27))
            have hB4 := Lib.hid ((Below.refl w4.heap.size w4).alloc (Nat.le_refl _) (.cells #[.int .i64 kd, .string (str nm), .slice aa m ac, .string (str tt), .int .i64 0] 27))
            clear hI htx hal hrw hfr hb4 hc C hKe
            simp only
            go_upto_region 11 with (fail)
            obtain ⟨Q, hQe⟩ : ∃ Q, w4.heap.size = Q := ⟨_, rfl⟩
            rw [hQe] at hQ hw4 ⊢
            have HQe := Lib.hid hQe
            clear hQe
            generalize w4.alloc (.cells #[.int .i64 kd, .string (str nm), .slice aa m ac, .string (str tt), .int .i64 0] 27) = w5 at hQ hB4 ⊢
            obtain ⟨p0, p1, p2, p3, p4⟩ := pcs_of hQ.out
            have pf := Lib.frozen_of_heap hQ.out 4
            obtain ⟨D, hD⟩ : ∃ D : Bool, Skips PV kd = D := ⟨_, rfl⟩
            have HD := Lib.hid hD
            clear hD
            go_cut [72] (fun u wx => u = .bool D ∧ wx = w5)
            case first =>
              by_cases hp : PV = []
              · subst hp
                obtain rfl : PL = 0 := HPL.out.symm
                obtain rfl : D = false := by rw [← HD.out]; simp [Skips]
                go_wp2
                go_meet
                exact ⟨rfl, rfl⟩
              · have hpos : 0 < PL := by have := HPL.out; have := List.length_pos_iff.2 hp; omega
                obtain ⟨g, rfl⟩ : ∃ g, ao' = some ⟨g, 0, none⟩ := by
                  obtain ⟨g, cap, hv, _⟩ := World.ownsRow.form (n := PL) (by have h := H4.out.own; rw [HPL.out] at h; exact h) hpos
                  injection hv with e1
                  exact ⟨g, e1⟩
                obtain ⟨q, hq⟩ : ∃ q, PV.getLast? = some q := by cases h : PV.getLast? with
                  | none => exact absurd (List.getLast?_eq_none_iff.1 h) hp
                  | some q => exact ⟨q, rfl⟩
                have hDD : D = (decide (kd = 4) && decide (q.1.kind = 4)) := by rw [← HD.out]; unfold Skips; rw [hq]; rfl
                have hcq : w5.cell? ⟨g, (PL - 1) * 5, none⟩ = some (.int .i64 q.1.kind) := by
                  rw [hB4.out.cell (p := ⟨g, (PL - 1) * 5, none⟩) (H4.out.own.lt g rfl).2]
                  have h := H4.out.own
                  rw [HPL.out] at h
                  rw [h.cellAt ((PL - 1) * 5) (by omega)]
                  have h2 := pvC_get PV (PL - 1) (by rw [HPL.out]; omega) 0 (by decide)
                  rw [Nat.add_zero] at h2
                  rw [h2]
                  have h3 : PV[PL - 1]'(by rw [HPL.out]; omega) = q := by
                    rw [List.getLast?_eq_getElem?, HPL.out] at hq
                    exact (List.getElem?_eq_some_iff.1 hq).2
                  rw [h3]; rfl
                obtain ⟨qk, hqk⟩ : ∃ qk, q.1.kind = qk := ⟨_, rfl⟩
                rw [hqk] at hDD hcq
                have HDD := Lib.hid hDD
                clear hDD hqk hq
                by_cases hk4 : kd = 4
                · subst hk4
                  go_wp2
                  go_meet
                  exact ⟨by rw [HDD.out]; by_cases h : qk = 4 <;> simp [h], rfl⟩
                · have hk4' : (kd == 4) = false := by simp [hk4]
                  go_wp2
                  go_meet
                  exact ⟨by rw [HDD.out]; simp [hk4], rfl⟩
            case rest =>
              obtain ⟨rfl, rfl⟩ := hcut
              have H5 := Lib.hid (H4.out.step (by have h := hB4.out; exact h))
              cases hDe : D with
              | true =>
                subst hDe
                clear HD p0 p1 p2 p3 p4 pf
                go_wp2
                go_roundg (gk - 1)
                case measure => omega
                case rel => exact ⟨i + 1, its, PV, _, by omega, by omega, by omega, by go_num, rfl, rfl, H5.out⟩
              | false =>
                subst hDe
                have hFl := flat_len its H4.out.ok
                have hxl := HIt.out.len
                obtain ⟨Dc, hDc⟩ : ∃ Dc, str (flatI its) = Dc := ⟨_, rfl⟩
                obtain ⟨X, hX⟩ : ∃ X, str x = X := ⟨_, rfl⟩
                have hDcs : Dc.size = (flatI its).length := by rw [← hDc, str_size]
                have hXs : X.size = x.length := by rw [← hX, str_size]
                have hDcl : Dc.size ≤ 100000 := by omega
                have hXl : X.size ≤ 10000 := by omega
                have HDcs := Lib.hid hDcs
                have HDc := Lib.hid hDc
                have HX := Lib.hid hX
                rw [hDc, hX]
                clear hDcs hXs hFl hxl hDc hX
                go_upto_region 14 with (fail)
                have hQl : Q < wc.heap.size := (Array.getElem?_eq_some_iff.1 hQ.out).1
                have hQ2 := Lib.hid (show (wc.setCell ⟨Q, 4, none⟩ (.int .i64 Dc.size)).heap[Q]? = some (.cells #[.int .i64 kd, .string (str nm), .slice aa m ac, .string (str tt), .int .i64 Dc.size] 27 (0, 0)) from by rw [heap_set _ hQ.out]; rfl)
                have hB6 := Lib.hid (hB4.out.setCell (p := ⟨Q, 4, none⟩) (show w4.heap.size ≤ Q by rw [HQe.out]; exact Nat.le_refl _) (.int .i64 Dc.size))
                clear p0 p1 p2 p3 p4 pf
                generalize wc.setCell ⟨Q, 4, none⟩ (.int .i64 Dc.size) = w6 at hQ2 hB6 ⊢
                have H6 := Lib.hid (H4.out.step hB6.out)
                have HRw6 := Lib.hid (HRw.out.below hB6.out)
                obtain ⟨p0, p1, p2, p3, p4⟩ := pcs_of hQ2.out
                have hPL6 : its.length ≤ i := hlen
                by_cases hk0 : kd = 0
                · subst hk0
                  obtain rfl : tx = false := by
                    cases htt : tx with
                    | false => rfl
                    | true => exact absurd (Htx.out.1 htt) (by decide)
                  have hgo := Lib.hid (H6.out.keep (x := x) HIt.out)
                  clear HIt Htx
                  go_wp2
                  go_roundg (gk - 1)
                  case measure => omega
                  case rel => exact ⟨i + 1, _, PV, _, by omega, by omega, by rw [List.length_append, List.length_singleton]; omega, by go_num, by rw [← HDc.out, ← HX.out, str_append, flat_snoc], rfl, hgo.out⟩
                · have hkb : (kd == 0) = false := by simp [hk0]
                  have hkn : (kd != 0) = true := by simp [hk0]
                  have hI2 := HIt.out
                  rw [if_neg hk0] at hI2
                  have HIt2 := Lib.hid hI2
                  have hadj : kd = 4 → ∀ P V, PV.getLast? = some (P, V) → P.kind ≠ 4 := fun h4 P V hl hP => by
                    have h := HD.out
                    unfold Skips at h
                    rw [hl, h4] at h
                    simp [hP] at h
                  have HAdj := Lib.hid hadj
                  have hown : w6.ownsRow w.heap.size 27 5 (.slice ao' PL cap') PL (pvC PV) := by have h := H6.out.own; rw [HPL.out] at h; exact h
                  have HOwn := Lib.hid hown
                  have hHs6 := H6.out.below.size
                  clear hI2 hadj hown HIt
                  go_wp2_with (
                    at_builtin
                    refine wpList_append_lies _ (by rfl) _ _ _ (by rfl) w.heap.size 27 i0 _ 5 72 Tryz.underlying24 HI.out HI0.out HI1.out HI2.out rfl (by omega) (.slice ao' PL cap') PL (pvC PV) (by rfl) (HOwn.out.alloc _)
                      ⟨w6.heap.size, 0, none⟩ 1 1 [.int .i64 kd, .string (str nm), .slice aa m ac, .string (str tt), .int .i64 Dc.size] (by rfl) (by rfl) (World.news_of_block (cs := #[.int .i64 kd, .string (str nm), .slice aa m ac, .string (str tt), .int .i64 Dc.size]) (t := 27) (fr := (0, 0)) (heap_alloc_new w6 _)) (by simp [Value.oneCell'])
                      (by omega) (by unfold maxLen; omega) (by omega) (by simp; omega) (w6.heap.size + 1) (by simp) ?_
                    intro gg cap2 w7 hown7 hgrow hat hlt
                    have H7 := Lib.hid (H6.out.more (x := .slice (some ⟨gg, 0, none⟩) (PL + 1) cap2) HIt2.out (fun h => Htx.out.1 h) HAdj.out hal3 HRw6.out (fun g o n c hv e => by have h1 := HFr.out g o n c hv; have h2 := (H.out.own.lt g e).2; omega) gg cap2 PL HPL.out rfl hat hgrow (by have h := hown7; rw [HDcs.out] at h; exact h))
                    clear hown7 hgrow hat hlt)
                  go_roundg (gk - 1)
                  case measure => omega
                  case rel => exact ⟨i + 1, _, _, _, by omega, by omega, by rw [List.length_append, List.length_singleton]; omega, by go_num, by rw [← HDc.out, ← HX.out, str_append, flat_snoc], rfl, H7.out⟩
      | false =>
        subst hEE
        have hFl := flat_len its H.out.ok
        have hx : ¬ (i < n ∧ i < 10) := by have := HE'.out; simpa using this
        have hi10 : i ≤ 10 := by omega
        clear HE' hx
        obtain ⟨D, hD⟩ : ∃ D, flatI its = D := ⟨_, rfl⟩
        obtain ⟨Dc, hDc⟩ : ∃ Dc, str D = Dc := ⟨_, rfl⟩
        have hbl : bl Dc = D := by rw [← hDc, str_bl]
        have hDs : Dc.size = D.length := by rw [← hDc, str_size]
        have hDl : Dc.size ≤ 100000 := by rw [hD] at hFl; omega
        have hnew : newS (bl Dc) = P_ 0 := by rw [hbl, ← hD]; exact new_items its H.out.ok (by omega)
        have C1 := snew Dc wc (HE.out.below H.out.below) (HTb.out.below H.out.below) (by omega)
        have C1 := Lib.hid C1
        have HDs := Lib.hid hDs
        have HDl := Lib.hid hDl
        have Hbl := Lib.hid hbl
        have Hnew := Lib.hid hnew
        have HD := Lib.hid hD
        rw [hD, hDc]
        clear hFl hD hDc hbl hDs hDl hnew
        go_wp2_with fail
        refine C1.out.mono ?_
        rintro r w1 ⟨b, hb, rfl, hS, hB⟩
        rw [Hnew.out] at hS
        have HS1 := Lib.hid hS
        have HB1 := Lib.hid hB
        have Hb := Lib.hid hb
        have hPLw : PL = (wantsI its 0).length := by have h := congrArg List.length H.out.pcs; rw [List.length_map, HPL.out] at h; exact h
        have HPLw := Lib.hid hPLw
        have hst := Lib.hid (show L2R wc.heap.size b Dc D (wantsI its 0) PL PL wc (.int .i64 (0 : Nat)) w1 from ⟨0, 0, its, Nat.zero_add _, rfl, hS, hB, rfl, H.out.adj, H.out.ok, HD.out.symm, Nat.zero_le _⟩)
        clear hS hB hb hPLw C1
        go_wp2
        go_loopg [15] PL (fun g u15 wr => L2R wc.heap.size b Dc D (wantsI its 0) PL g wc u15 wr)
        case atStart => exact hst.out
        case round =>
          obtain ⟨k, p, its2, hkg, rfl, hSc, hBw, hwt, hadj, hok, hdrop, hpD⟩ := hrel
          have hWI := walk_items D its2 p hadj hok hdrop hpD
          by_cases hk : k < PL
          · have hk' : (k : Int) < (PL : Int) := by omega
            obtain ⟨g, rfl⟩ : ∃ g, ao' = some ⟨g, 0, none⟩ := by
              obtain ⟨g, cap, hv, _⟩ := World.ownsRow.form (n := PL) (by have h := H.out.own; rw [HPL.out] at h; exact h) (by omega)
              injection hv with e1
              exact ⟨g, e1⟩
            have hkPV : k < PV.length := by rw [HPL.out]; exact hk
            obtain ⟨q, hq⟩ : ∃ q, PV[k]'hkPV = q := ⟨_, rfl⟩
            have hrk := H.out.rows q (by rw [← hq]; exact List.getElem_mem _)
            have hcs : ∀ o, o < 5 → wc.cell? ⟨g, k * 5 + o, none⟩ = (pvCells q)[o]? := fun o ho => by
              have h := H.out.own
              rw [HPL.out] at h
              rw [h.cellAt (k * 5 + o) (by omega), pvC_get PV k hkPV o ho, hq]
            have hdropk : (wantsI its 0).drop k = q.1 :: (wantsI its 0).drop (k + 1) := by
              have h1 : k < (wantsI its 0).length := by rw [← HPLw.out]; exact hk
              rw [List.drop_eq_getElem_cons h1]
              congr 1
              have h2 : (wantsI its 0)[k]? = some q.1 := by rw [← H.out.pcs, List.getElem?_map, List.getElem?_eq_getElem hkPV, hq]; rfl
              exact (List.getElem?_eq_some_iff.1 h2).2
            obtain ⟨hn1, its3, p3, hn2, hw3, hadj3, hok3, hd3, hp3⟩ := hWI.2 _ _ (hwt.trans hdropk)
            have C := snext _ b _ _ wr hSc
            rw [Hbl.out, hn1, hn2] at C
            obtain ⟨⟨kd, nm, A, tt, A0⟩, vk⟩ := q
            have hal3 : A.length ≤ 3 := hrk.1
            have hrw : Rows wc vk A := hrk.2.1
            obtain ⟨ak, mk, ck, rfl⟩ := hrw.form
            have C := Lib.hid C
            have HRw := Lib.hid hrw
            have HSc := Lib.hid hSc.base
            have HBw := Lib.hid hBw
            have HG := Lib.hid (show ∀ wz, Sc wc.heap.size b Dc (P_ p3) wz → Below wc.heap.size wc wz → L2R wc.heap.size b Dc D (wantsI its 0) PL (gk - 1) wc (.int .i64 ((k : Int) + 1)) wz from fun wz h1 h2 =>
              ⟨k + 1, p3, its3, by omega, by go_num, h1, h2, hw3, hadj3, hok3, hd3, hp3⟩)
            have HCs := Lib.hid hcs
            have hgl := (H.out.own.lt g rfl).2
            clear hWI hkPV hq hrk hcs hdropk hn1 hn2 hw3 hadj3 hok3 hd3 hp3 hSc hBw hwt hadj hok hdrop hpD hrw
            go_wp2_with fail
            refine C.out.mono ?_
            rintro r w2 ⟨x, rfl, ⟨v, rfl, hrows, hfresh⟩, h3, o3⟩
            have hrows2 : RowsB b w2 v A := hrows
            obtain ⟨av, mv, cv, rfl⟩ := rows_form hrows2
            have hB2 := o3.belowOf HSc.out HBw.out rfl
            have HS3 := Lib.hid (h3.step ((Below.refl _ _).alloc (Nat.le_refl _) (.cells #[.int .i64 kd, .string (str nm), .slice av mv cv, .string (str tt), .int .i64 A0] 27)))
            have HB3 := Lib.hid (hB2.alloc hB2.size (.cells #[.int .i64 kd, .string (str nm), .slice av mv cv, .string (str tt), .int .i64 A0] 27))
            have HR3 := Lib.hid (hrows2.1.below ((Below.refl _ _).alloc (Nat.le_refl _) (.cells #[.int .i64 kd, .string (str nm), .slice av mv cv, .string (str tt), .int .i64 A0] 27)))
            have HT3 := Lib.hid (heap_alloc_new w2 (.cells #[.int .i64 kd, .string (str nm), .slice av mv cv, .string (str tt), .int .i64 A0] 27))
            clear hrows hrows2 hfresh h3 o3 hB2 C
            simp only
            go_upto_region 21 with (fail)
            obtain ⟨T, hTe⟩ : ∃ T, w2.heap.size = T := ⟨_, rfl⟩
            rw [hTe] at HT3 ⊢
            clear hTe
            generalize w2.alloc (.cells #[.int .i64 kd, .string (str nm), .slice av mv cv, .string (str tt), .int .i64 A0] 27) = w3 at HS3 HB3 HR3 HT3 ⊢
            obtain ⟨t0, t1, t2, t3, t4⟩ := pcs_of HT3.out
            have k0 : w3.cell? ⟨g, k * 5, none⟩ = some (.int .i64 kd) := (HB3.out.cell (p := ⟨g, k * 5, none⟩) hgl).trans (HCs.out 0 (by decide))
            have k1 : w3.cell? ⟨g, k * 5 + 1, none⟩ = some (.string (str nm)) := (HB3.out.cell (p := ⟨g, k * 5 + 1, none⟩) hgl).trans (HCs.out 1 (by decide))
            have k2 : w3.cell? ⟨g, k * 5 + 2, none⟩ = some (.slice ak mk ck) := (HB3.out.cell (p := ⟨g, k * 5 + 2, none⟩) hgl).trans (HCs.out 2 (by decide))
            have k3 : w3.cell? ⟨g, k * 5 + 3, none⟩ = some (.string (str tt)) := (HB3.out.cell (p := ⟨g, k * 5 + 3, none⟩) hgl).trans (HCs.out 3 (by decide))
            have k4 : w3.cell? ⟨g, k * 5 + 4, none⟩ = some (.int .i64 A0) := (HB3.out.cell (p := ⟨g, k * 5 + 4, none⟩) hgl).trans (HCs.out 4 (by decide))
            have CS := Lib.hid (fun (wx : World) (hx : Below w3.heap.size w3 wx) => (lsame ⟨kd, nm, A, tt, A0⟩ (.slice av mv cv) (.slice ak mk ck) wx (show A.length ≤ 1000 by omega) (HR3.out.below hx) ((HRw.out.below HB3.out).below hx)).mono (fun e w' (h : _ ∧ _) => (show e = .returned (.bool true) ∧ Below w3.heap.size w3 w' from ⟨h.1, hx.trans (h.2.mono hx.size)⟩)))
            have CE := Lib.hid (fun (wx : World) (hx : Below w3.heap.size w3 wx) => (serr _ b Dc (P_ p3) wx (HS3.out.step hx)).mono (fun e w' (h : _ ∧ _) => (show e = .returned (.int .i64 0) ∧ wx = w' from h)))
            go_cut [107] (fun u wx => u = .bool false ∧ Below w3.heap.size w3 wx)
            case first =>
              go_region_with (first
                | (go_at_call 9; refine (CS.out _ (by first | exact Below.refl _ _ | exact (Below.refl _ _).drew)).mono ?_; rintro e wy ⟨rfl, HBy⟩; have HZ := Lib.hid HBy; clear HBy)
                | (go_at_call 10; refine (CE.out _ HZ.out).mono ?_; rintro e wz ⟨rfl, rfl⟩))
              all_goals
                go_wp2_with fail
                go_meet
                exact ⟨rfl, HZ.out⟩
            case rest =>
              obtain ⟨rfl, hB4⟩ := hcut
              clear t0 t1 t2 t3 t4 k0 k1 k2 k3 k4 CS CE
              have hend := HG.out _ (HS3.out.step hB4) (HB3.out.trans (hB4.mono HB3.out.size))
              clear hB4
              go_wp2
              go_roundg (gk - 1)
              case measure => omega
              case rel => exact hend
          · obtain rfl : PL = k := by omega
            have hnil : wantsI its2 p = [] := by rw [hwt, HPLw.out]; exact List.drop_length
            obtain ⟨hn1, hn2⟩ := hWI.1 hnil
            have hwr : Below w.heap.size w wr := H.out.below.trans (hBw.mono H.out.below.size)
            have CA := Lib.hid (awake04 wr (HE.out.below hwr) (HTb.out.below hwr))
            have Hwr := Lib.hid hwr
            have HBw := Lib.hid hBw
            have HSc := Lib.hid hSc
            have hwz := H.out.below.size
            have C0 : ∀ w2, Below wr.heap.size wr w2 → Calls Tryz.prog 8 #[.pointer (some ⟨b, 0, none⟩)] w2 fun r w' => ∃ av mv cv, r = .returned (.agg #[.int .i64 0, .string ⟨#[]⟩, .slice av mv cv, .string ⟨#[]⟩, .int .i64 0]) ∧ Rows w' (.slice av mv cv) [] ∧ Sc wc.heap.size b Dc (P_ D.length) w' ∧ Only b w2 w' := fun w2 h2 => by
              have C := snext _ b _ _ w2 (HSc.out.step h2)
              rw [Hbl.out, hn1, hn2] at C
              refine C.mono ?_
              rintro r w' ⟨x, rfl, ⟨v, rfl, hrows, hfresh⟩, h3, o3⟩
              obtain ⟨av, mv, cv, rfl⟩ := rows_form hrows
              exact ⟨av, mv, cv, rfl, hrows.1, h3, o3⟩
            have C0 := Lib.hid C0
            have CS0 := Lib.hid (fun (w3 : World) (av : Option Addr) (mv cv : Nat) (h : Rows w3 (.slice av mv cv) []) => (show Calls Tryz.prog 9 #[.agg #[.int .i64 0, .string ⟨#[]⟩, .slice av mv cv, .string ⟨#[]⟩, .int .i64 0], .agg #[.int .i64 0, .string ⟨#[]⟩, .slice none 0 0, .string ⟨#[]⟩, .int .i64 0]] w3 fun e w' => e = .returned (.bool true) ∧ Below w3.heap.size w3 w' from
              lsame pc0 (.slice av mv cv) (.slice none 0 0) w3 (Nat.zero_le _) h (.inl ⟨rfl, rfl⟩)))
            have CE0 := Lib.hid (fun (w4 : World) (h : Sc wc.heap.size b Dc (P_ D.length) w4) => (serr _ b Dc (P_ D.length) w4 h).mono (fun e w' (h : _ ∧ _) => (show e = .returned (.int .i64 0) ∧ w4 = w' from h)))
            have CT0 := Lib.hid (fun (w4 : World) (h : Sc wc.heap.size b Dc (P_ D.length) w4) => (sat _ b Dc (P_ D.length) w4 h).mono (fun e w' (h : _ ∧ _) => (show e = .returned (.int .i64 Dc.size) ∧ w4 = w' from ⟨by rw [h.1, atS_ok rfl, HDs.out]; rfl, h.2⟩)))
            clear hWI hnil hn1 hn2 hwr hBw hSc hwt hadj hok hdrop hpD
            go_wp2_with fail
            refine CA.out.mono ?_
            rintro r w2 ⟨rfl, hb2⟩
            have HB2 := Lib.hid hb2
            clear hb2 CA
            go_wp2_with fail
            refine (C0.out w2 HB2.out).mono ?_
            rintro r w3 ⟨av, mv, cv, rfl, hr3, hs3, o3⟩
            have HR3 := Lib.hid hr3
            have HS3 := Lib.hid hs3
            have HB3 := Lib.hid (o3.belowOf hs3.base (HBw.out.trans (HB2.out.mono HBw.out.size)) rfl)
            clear hr3 hs3 o3
            go_wp2_with fail
            refine (CS0.out w3 av mv cv HR3.out).mono ?_
            rintro r w4 ⟨rfl, hb4⟩
            have HS4 := Lib.hid (HS3.out.step hb4)
            have HB4 := Lib.hid (HB3.out.trans (hb4.mono HB3.out.size))
            clear hb4
            go_wp2_with fail
            refine (CE0.out w4 HS4.out).mono ?_
            rintro r w5 ⟨rfl, rfl⟩
            go_wp2_with fail
            refine (CT0.out w4 HS4.out).mono ?_
            rintro r w5 ⟨rfl, rfl⟩
            go_wp2
            go_ret
            exact ⟨rfl, H.out.below.trans (HB4.out.mono hwz)⟩

/-- **The law ScanPieces.** -/
theorem pieces_any (ao : Option Addr) (n ca : Nat) (bo : Option Addr) (ns cb : Nat) (co : Option Addr) (nt cc : Nat) (w : World) (hE : EntV w) (hTb : Tabs w) (h0 : n ≤ maxLen ∧ IntsIn w ao n) (h1 : ns ≤ maxLen ∧ StrsIn w bo ns) (h2 : nt ≤ maxLen ∧ StrsIn w co nt) :
    Calls Tryz.prog 3 #[.slice ao n ca, .slice bo ns cb, .slice co nt cc] w fun e w' => e = .returned (.bool true) ∧ Below w.heap.size w w' :=
  pieces04 ao bo co n ns nt ca cb cc w h0.2 h1.2 h2.2 hE hTb

end Go.Proofs.YtkpkekmofidajaaGreatDoor
