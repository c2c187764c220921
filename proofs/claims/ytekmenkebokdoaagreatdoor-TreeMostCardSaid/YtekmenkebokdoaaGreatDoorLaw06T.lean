/-
  Documents of many elements, and of deep ones, in plain mathematics. The walk of layer 6's law TreeMost.
-/
import Derived.Test.YtekmenkebokdoaaGreatDoorTreeKids
import Derived.Test.YtekmenkebokdoaaGreatDoorScanMathD
import Derived.Test.YtekmenkebokdoaaGreatDoorLaw06M
import Derived.Test.YtekmenkebokdoaaGreatDoorTreeKids
namespace Go.Proofs.YtekmenkebokdoaaGreatDoor
open Go Go.RowKit Go.Lib
set_option maxRecDepth 100000

theorem P_scn {D : List UInt8} {p : Nat} (h : p ≤ D.length) : Scn D.length (P_ p) := .inl ⟨h, .inl rfl, Int.le_refl _, by show (0 : Int) ≤ _; omega⟩
theorem drop_le {D x r : List UInt8} {p : Nat} (h : D.drop p = x ++ r) (hx : x ≠ []) : p + x.length ≤ D.length := by
  have := congrArg List.length h
  rw [List.length_drop, List.length_append] at this
  have h0 : x.length ≠ 0 := fun e => hx (List.eq_nil_of_length_eq_zero e)
  omega
/-- A piece that stands at a place, and what is behind it. -/
theorem run_piece {D : List UInt8} {p q : Nat} {Q : Pc} (hp : p ≤ D.length) (h : nextP D (P_ p) = Q ∧ nextS D (P_ p) = P_ q) (hk : Q.kind ≠ 0) (m : Mach) : runAt D (P_ p) m = (step Q m).on fun m' => runAt D (P_ q) m' := by
  rw [runAt_pc (P_scn hp) (by rw [h.2]; rfl) (by rw [h.1]; exact hk), h.1, h.2]
theorem run_end {D : List UInt8} {p : Nat} (hp : p ≤ D.length) (hd : D.drop p = []) (x : Nd) (L : List Tell) (c : Nat) : runAt D (P_ p) (.behind x, L, c) = .ok x := by
  have h := next_end hd hp
  unfold runAt
  rw [toks_fin (by rw [h.2]; rfl) (by rw [h.1]; rfl)]
  rfl
theorem nm_a : Nm [97] := ok_nm (by decide) (by decide) (by decide)
theorem nm_r : Nm [114] := ok_nm (by decide) (by decide) (by decide)
theorem open_a {D r : List UInt8} {p : Nat} (hd : D.drop p = [60, 97, 47, 62] ++ r) : nextP D (P_ p) = ⟨3, [97], [], [], p⟩ ∧ nextS D (P_ p) = P_ (p + 4) :=
  open_on (b := [32]) (eb := []) (e := [47, 62]) (A := []) (r := r) nm_a ⟨97, [], rfl, by decide, by decide, by decide⟩ (by decide) (by decide) (by decide) (fun _ h => by cases h) (fun _ h => by cases h) (.inr ⟨rfl, rfl⟩) (fun _ h => by cases h) .nil (by decide) hd
theorem open_r {D r : List UInt8} {p : Nat} (hd : D.drop p = [60, 114, 62] ++ r) : nextP D (P_ p) = ⟨1, [114], [], [], p⟩ ∧ nextS D (P_ p) = P_ (p + 3) :=
  open_on (b := [32]) (eb := []) (e := [62]) (A := []) (r := r) nm_r ⟨114, [], rfl, by decide, by decide, by decide⟩ (by decide) (by decide) (by decide) (fun _ h => by cases h) (fun _ h => by cases h) (.inl ⟨rfl, rfl⟩) (fun _ h => by cases h) .nil (by decide) hd
theorem close_r {D r : List UInt8} {p : Nat} (hd : D.drop p = [60, 47, 114, 62] ++ r) : nextP D (P_ p) = ⟨2, [114], [], [], p⟩ ∧ nextS D (P_ p) = P_ (p + 4) :=
  close_on (n := [114]) (eb := []) (r := r) nm_r (fun _ h => by cases h) (fun _ h => by cases h) hd
def leafA : Nd := .mk ⟨#[]⟩ ⟨#[97]⟩ [] [] (str [])
theorem enter_a (p : Nat) (n : List UInt8) (kd : Int) (d c : Nat) (nm : ByteArray) (hn : nameSp tells0 (str n) = (⟨#[]⟩, nm, true)) (hd : d < 32) (hc : c < 2000) : enterR ⟨kd, n, [], [], p⟩ d tells0 c = .ok (⟨n, p, ⟨#[]⟩, nm, [], [], [], tells0⟩, tells0) := by
  unfold enterR
  rw [if_pos hc, if_pos hd]
  have e : enterL (d + 1) (toAtt (Pc.mk kd n [] [] p).attrs) [] tells0 = ([], 0, tells0) := rfl
  rw [e]
  show enterC _ _ (nameSp tells0 (str n)) _ = _
  rw [hn]
  rfl
theorem name_a : nameSp tells0 (str [97]) = (⟨#[]⟩, ⟨#[97]⟩, true) := by kernel_rfl
theorem name_r : nameSp tells0 (str [114]) = (⟨#[]⟩, ⟨#[114]⟩, true) := by kernel_rfl
theorem step_a (p : Nat) (F : Fr) (S : List Fr) (c : Nat) (hd : (F :: S).length < 32) (hc : c < 2000) : step ⟨3, [97], [], [], p⟩ (.inside F S, tells0, c) = .ok (.inside { F with K := F.K ++ [leafA] } S, tells0, c + 1) := by
  rw [step_in, if_neg (show ¬ (3 : Int) = 2 by decide), if_pos (show opens _ from .inr rfl)]
  unfold opn
  rw [enter_a p [97] 3 _ c _ name_a hd hc]
  rfl
def repL (m : Nat) (x : List UInt8) : List UInt8 := (List.replicate m x).flatten
theorem repL_succ (m : Nat) (x : List UInt8) : repL (m + 1) x = x ++ repL m x := by unfold repL; rw [List.replicate_succ, List.flatten_cons]
theorem repL_len (m : Nat) (x : List UInt8) : (repL m x).length = m * x.length := by
  induction m with
  | zero => simp [repL]
  | succ m ih => rw [repL_succ, List.length_append, ih, Nat.succ_mul]; omega
theorem many_run (D tail : List UInt8) (F : Fr) : ∀ (j p c : Nat) (K : List Nd), D.drop p = repL j [60, 97, 47, 62] ++ tail → p ≤ D.length → c + j ≤ 2000 →
    runAt D (P_ p) (.inside { F with K := K } [], tells0, c) = runAt D (P_ (p + 4 * j)) (.inside { F with K := K ++ List.replicate j leafA } [], tells0, c + j)
  | 0, p, c, K, _, _, _ => by simp
  | j + 1, p, c, K, hd, hp, hc => by
    rw [repL_succ, List.append_assoc] at hd
    have h := open_a hd
    rw [run_piece hp h (show (3 : Int) ≠ 0 by decide), step_a p { F with K := K } [] c (by show 1 < 32; decide) (by omega)]
    have hd2 := drop_on hd
    show runAt D (P_ (p + 4)) (.inside { F with K := K ++ [leafA] } [], tells0, c + 1) = _
    rw [many_run D tail F j (p + 4) (c + 1) (K ++ [leafA]) hd2 (drop_le hd (by decide)) (by omega), show p + 4 + 4 * j = p + 4 * (j + 1) by omega, show c + 1 + j = c + (j + 1) by omega, List.append_assoc, List.replicate_succ]
    rfl
theorem many_big (D r : List UInt8) (F : Fr) (p : Nat) (hd : D.drop p = [60, 97, 47, 62] ++ r) (hp : p ≤ D.length) : runAt D (P_ p) (.inside F [], tells0, 2000) = .bad 5 p := by
  rw [run_piece hp (open_a hd) (show (3 : Int) ≠ 0 by decide), step_in, if_neg (show ¬ (3 : Int) = 2 by decide), if_pos (show opens _ from .inr rfl)]
  rfl
def manyD (m : Nat) : List UInt8 := [60, 114, 62] ++ (repL m [60, 97, 47, 62] ++ [60, 47, 114, 62])
theorem many_asc (m : Nat) : ∀ c ∈ manyD m, 32 ≤ c.toNat ∧ c.toNat < 128 := by
  intro c hc
  unfold manyD repL at hc
  rcases List.mem_append.1 hc with h | h
  · have : ∀ x ∈ ([60, 114, 62] : List UInt8), 32 ≤ x.toNat ∧ x.toNat < 128 := by decide
    exact this c h
  rcases List.mem_append.1 h with h | h
  · obtain ⟨l, hl, hcl⟩ := List.mem_flatten.1 h
    rw [(List.mem_replicate.1 hl).2] at hcl
    have : ∀ x ∈ ([60, 97, 47, 62] : List UInt8), 32 ≤ x.toNat ∧ x.toNat < 128 := by decide
    exact this c hcl
  · have : ∀ x ∈ ([60, 47, 114, 62] : List UInt8), 32 ≤ x.toNat ∧ x.toNat < 128 := by decide
    exact this c h
theorem new_P0 {D : List UInt8} (hl : D.length ≤ 200000) (hL : Lets D) : newS D = P_ 0 := by
  unfold newS
  rw [if_neg (by omega), if_neg (by rw [hL.ok]; decide)]
  rfl
def rootR (m : Nat) : Nd := .mk ⟨#[]⟩ ⟨#[114]⟩ [] (List.replicate m leafA) (str [])
theorem many_first (m : Nat) (hm : m ≤ 2000) : parseL (manyD m) = runAt (manyD m) (P_ 3) (.inside ⟨[114], 0, ⟨#[]⟩, ⟨#[114]⟩, [], [], [], tells0⟩ [], tells0, 1) := by
  have hlen : (manyD m).length = 3 + (m * 4 + 4) := by unfold manyD; rw [List.length_append, List.length_append, repL_len]; rfl
  have hn := new_P0 (D := manyD m) (by omega) (asc_lets _ (many_asc m))
  show runAt (manyD m) (newS (manyD m)) _ = _
  rw [hn, run_piece (D := manyD m) (p := 0) (Nat.zero_le _) (open_r (D := manyD m) (p := 0) (r := repL m [60, 97, 47, 62] ++ [60, 47, 114, 62]) rfl) (show (1 : Int) ≠ 0 by decide)]
  have e : step ⟨1, [114], [], [], (0 : Nat)⟩ (.before, tells0, 0) = opn ⟨1, [114], [], [], (0 : Nat)⟩ [] tells0 0 := rfl
  rw [e]
  unfold opn
  rw [show ([] : List Fr).length = 0 from rfl, enter_a 0 [114] 1 0 0 _ name_r (by decide) (by decide)]
  rfl
theorem many_ok (m : Nat) (hm : m + 1 ≤ 2000) : parseL (manyD m) = .ok (rootR m) := by
  rw [many_first m (by omega)]
  have hlen : (manyD m).length = 3 + (m * 4 + 4) := by unfold manyD; rw [List.length_append, List.length_append, repL_len]; rfl
  have hd : (manyD m).drop 3 = repL m [60, 97, 47, 62] ++ [60, 47, 114, 62] := rfl
  have h1 := many_run (manyD m) [60, 47, 114, 62] ⟨[114], 0, ⟨#[]⟩, ⟨#[114]⟩, [], [], [], tells0⟩ m 3 1 [] hd (by omega) (by omega)
  have hd2 : (manyD m).drop (3 + 4 * m) = [60, 47, 114, 62] ++ [] := by
    have := drop_on hd
    rw [repL_len] at this
    rw [show 3 + 4 * m = 3 + m * ([60, 97, 47, 62] : List UInt8).length by show 3 + 4 * m = 3 + m * 4; omega, this]; rfl
  have hcl := close_r hd2
  show runAt (manyD m) (P_ 3) (.inside { (⟨[114], 0, ⟨#[]⟩, ⟨#[114]⟩, [], [], [], tells0⟩ : Fr) with K := [] } [], tells0, 1) = _
  rw [h1, run_piece (by omega) hcl (show (2 : Int) ≠ 0 by decide), step_in, if_pos rfl, if_pos rfl]
  show (Res.on (shut _) _).on _ = _
  unfold shut
  rw [if_pos (.inl (by kernel_rfl))]
  show runAt (manyD m) (P_ (3 + 4 * m + 4)) (.behind _, tells0, 1 + m) = _
  rw [run_end (by omega) (by have := drop_on hd2; exact this)]
  have ht : str (trimL ([] : List UInt8)) = str [] := by kernel_rfl
  show Res.ok (Nd.mk _ _ _ ([] ++ List.replicate m leafA) (str (trimL []))) = _
  rw [ht]
  rfl
theorem many_bad : parseL (manyD 2000) = .bad 5 7999 := by
  rw [many_first 2000 (by decide)]
  have hlen : (manyD 2000).length = 3 + (2000 * 4 + 4) := by unfold manyD; rw [List.length_append, List.length_append, repL_len]; rfl
  have hs : repL 2000 [60, 97, 47, 62] = repL 1999 [60, 97, 47, 62] ++ [60, 97, 47, 62] := by
    unfold repL
    rw [show (2000 : Nat) = 1999 + 1 from rfl, List.replicate_succ', List.flatten_append]
    simp
  have hd : (manyD 2000).drop 3 = repL 1999 [60, 97, 47, 62] ++ ([60, 97, 47, 62] ++ [60, 47, 114, 62]) := by
    show repL 2000 [60, 97, 47, 62] ++ [60, 47, 114, 62] = _
    rw [hs, List.append_assoc]
  have h1 := many_run (manyD 2000) _ ⟨[114], 0, ⟨#[]⟩, ⟨#[114]⟩, [], [], [], tells0⟩ 1999 3 1 [] hd (by omega) (by decide)
  have hd2 : (manyD 2000).drop 7999 = [60, 97, 47, 62] ++ [60, 47, 114, 62] := by
    have := drop_on hd
    rw [repL_len] at this
    exact this
  show runAt (manyD 2000) (P_ 3) (.inside { (⟨[114], 0, ⟨#[]⟩, ⟨#[114]⟩, [], [], [], tells0⟩ : Fr) with K := [] } [], tells0, 1) = _
  rw [h1]
  exact many_big (manyD 2000) _ _ 7999 hd2 (by omega)
theorem countK_rep : ∀ m, countK (List.replicate m leafA) = m
  | 0 => rfl
  | m + 1 => by rw [List.replicate_succ, countK, countK_rep m]; show 1 + countK [] + m = _; simp [countK]; omega
theorem root_count (m : Nat) : (rootR m).count = m + 1 := by
  show 1 + countK (List.replicate m leafA) = _
  rw [countK_rep]; omega

/-! ### deep ones -/
def deepD (k : Nat) : List UInt8 := repL k [60, 97, 62] ++ repL k [60, 47, 97, 62]
def okDeep (r : Res Nd) (d : Nat) : Bool := match r with
  | .ok x => x.depth == d && x.count == d
  | .bad _ _ => false
def badAt (r : Res Nd) (e a : Int) : Bool := match r with
  | .ok _ => false
  | .bad e' a' => e' == e && a' == a
theorem deep30 : okDeep (parseL (deepD 30)) 30 = true := by kernel_rfl
theorem deep31 : okDeep (parseL (deepD 31)) 31 = true := by kernel_rfl
theorem deep32 : okDeep (parseL (deepD 32)) 32 = true := by kernel_rfl
theorem deep33 : badAt (parseL (deepD 33)) 4 96 = true := by kernel_rfl
theorem deep_ok {r : Res Nd} {d : Nat} (h : okDeep r d = true) : ∃ x, r = .ok x ∧ x.depth = d ∧ x.count = d := by
  cases r with
  | ok x => unfold okDeep at h; simp at h; exact ⟨x, rfl, h.1, h.2⟩
  | bad e a => cases h
theorem deep_bad {r : Res Nd} {e a : Int} (h : badAt r e a = true) : r = .bad e a := by
  cases r with
  | ok x => cases h
  | bad e' a' => unfold badAt at h; simp at h; rw [h.1, h.2]

end Go.Proofs.YtekmenkebokdoaaGreatDoor

namespace Go.Proofs.YtekmenkebokdoaaGreatDoor
open Go Go.RowKit
set_option maxRecDepth 100000

theorem repL_snoc (m : Nat) (x : List UInt8) : repL (m + 1) x = repL m x ++ x := by
  unfold repL
  rw [List.replicate_succ', List.flatten_append]
  simp
theorem deep_any (k : Nat) (h1 : 30 ≤ k) (h2 : k ≤ 32) : ∃ x, parseL (deepD k) = .ok x ∧ x.depth = k ∧ x.count = k := by
  have h : k = 30 ∨ k = 31 ∨ k = 32 := by omega
  rcases h with rfl | rfl | rfl
  · exact deep_ok deep30
  · exact deep_ok deep31
  · exact deep_ok deep32
set_option maxHeartbeats 8000000 in
theorem most06_any (n : Int) (w : World) (hE : EntV w) (hT : Tabs w) :
    Calls Tryz.prog 5 #[.int .i64 n] w fun e w' => e = .returned (.bool true) ∧ Below w.heap.size w w' := by
  obtain ⟨a, ha, hna⟩ := mask_i64 n 2 (by decide) 3 (by decide)
  obtain ⟨b, hb, hnb⟩ := mask_i64 (n / 4) 2 (by decide) 3 (by decide)
  obtain ⟨k, hk⟩ : ∃ k, 30 + a = k := ⟨_, rfl⟩
  obtain ⟨m, hm⟩ : ∃ m, 1997 + b = m := ⟨_, rfl⟩
  have hki : (30 : Int) + (a : Int) = (k : Int) := by omega
  have hmi : (1997 : Int) + (b : Int) = (m : Int) := by omega
  have hk1 : 30 ≤ k ∧ k ≤ 33 := by omega
  have hm1 : 1997 ≤ m ∧ m ≤ 2000 := by omega
  have ha3 : (a : Int) ≤ 3 := by omega
  have hb3 : (b : Int) ≤ 3 := by omega
  have HE := Lib.hid hE
  have HT := Lib.hid hT
  clear hE hT hk hm ha hb
  go_enter Tryz.func5, Tryz.ntmps5
  go_wp2
  go_loopg [5, 6, 8] k (fun g d e i wr => ∃ (j : Nat) (A E : ByteArray), g + j = k ∧ d = .string A ∧ e = .string E ∧ i = .int .i64 (j : Nat) ∧ Hid (bl A = repL j [60, 97, 62]) ∧ Hid (bl E = repL j [60, 47, 97, 62]) ∧ wr = w)
  case atStart => exact ⟨0, ⟨#[]⟩, ⟨#[]⟩, rfl, rfl, rfl, rfl, Lib.hid rfl, Lib.hid rfl, rfl⟩
  case round =>
    obtain ⟨j, A, E, hg, rfl, rfl, rfl, HA, HB, hw⟩ := hrel
    obtain rfl := hw.symm
    have hAs : A.size = j * 3 := by rw [← bl_size, HA.out, repL_len]; rfl
    have hEs : E.size = j * 4 := by rw [← bl_size, HB.out, repL_len]; rfl
    by_cases hj : j < k
    · have hji : (j : Int) < (k : Int) := by omega
      have hA2 := Lib.hid (show bl (A ++ ⟨#[60, 97, 62]⟩) = repL (j + 1) [60, 97, 62] by rw [bl_append, HA.out, repL_snoc]; rfl)
      have hE2 := Lib.hid (show bl (E ++ ⟨#[60, 47, 97, 62]⟩) = repL (j + 1) [60, 47, 97, 62] by rw [bl_append, HB.out, repL_snoc]; rfl)
      have hs1 : A.size ≤ 200 := by omega
      have hs2 : E.size ≤ 200 := by omega
      clear hAs hEs
      go_wp2
      go_roundg (k - (j + 1))
      case measure => omega
      case rel => exact ⟨j + 1, _, _, by omega, rfl, rfl, by go_num, hA2, hE2, rfl⟩
    · have hjk : j = k := by omega
      subst hjk
      have hAE := Lib.hid (show bl (A ++ E) = deepD j by rw [bl_append, HA.out, HB.out]; rfl)
      have HAEs := Lib.hid (show (A ++ E).size ≤ 4000000000 by rw [← bl_size, bl_append, List.length_append, bl_size, bl_size]; omega)
      have hs1 : A.size ≤ 200 := by omega
      have hs2 : E.size ≤ 200 := by omega
      have hji : ¬ (j : Int) < (j : Int) := by omega
      clear hAs hEs HA HB hj hg
      go_wp2
      clear hji
      go_loopg [7, 9] m (fun g d i wr => ∃ (l : Nat) (M : ByteArray), g + l = m ∧ d = .string M ∧ i = .int .i64 (l : Nat) ∧ Hid (bl M = [60, 114, 62] ++ repL l [60, 97, 47, 62]) ∧ wr = w)
      case atStart => exact ⟨0, ⟨#[60, 114, 62]⟩, rfl, rfl, rfl, Lib.hid rfl, rfl⟩
      case round =>
        obtain ⟨l, M, hg, rfl, rfl, HM, hw⟩ := hrel
        obtain rfl := hw.symm
        have hMs : M.size = 3 + l * 4 := by rw [← bl_size, HM.out, List.length_append, repL_len]; rfl
        by_cases hl : l < m
        · have hli : (l : Int) < (m : Int) := by omega
          have hM2 := Lib.hid (show bl (M ++ ⟨#[60, 97, 47, 62]⟩) = [60, 114, 62] ++ repL (l + 1) [60, 97, 47, 62] by rw [bl_append, HM.out, repL_snoc, List.append_assoc]; rfl)
          have hs3 : M.size ≤ 20000 := by omega
          clear hMs
          go_wp2
          go_roundg (m - (l + 1))
          case measure => omega
          case rel => exact ⟨l + 1, _, by omega, rfl, by go_num, hM2, rfl⟩
        · have hlm : l = m := by omega
          subst hlm
          have hME := Lib.hid (show bl (M ++ ⟨#[60, 47, 114, 62]⟩) = manyD l by rw [bl_append, HM.out, List.append_assoc]; rfl)
          have hMEs := Lib.hid (show (M ++ ⟨#[60, 47, 114, 62]⟩).size ≤ 4000000000 by rw [← bl_size, bl_append, List.length_append, bl_size]; show M.size + 4 ≤ _; omega)
          have hs3 : M.size ≤ 20000 := by omega
          have hli : ¬ (l : Int) < (l : Int) := by omega
          clear hMs HM hl hg
          have CP := Lib.hid (fun (e a : Int) (h : parseL (deepD j) = .bad e a) => dparse_bad (A ++ E) e a (by rw [hAE.out]; exact h) w HE.out HT.out HAEs.out)
          have CO := Lib.hid (fun (x : Nd) (h : parseL (deepD j) = .ok x) => dparse_ok (A ++ E) x (by rw [hAE.out]; exact h) w HE.out HT.out HAEs.out)
          by_cases hk32 : j ≤ 32
          · obtain ⟨x, hx, hdx, hcx⟩ := deep_any j hk1.1 hk32
            go_wp2_with fail
            refine (CO.out x hx).mono ?_
            rintro r w1 ⟨v, rfl, hv, hb1⟩
            obtain ⟨sp, nm, t, a1, n1, c1, a2, n2, c2, rfl⟩ := hv.form
            have qk : decide ((j : Int) ≤ 32) = true := decide_eq_true (by omega)
            have hA1 := hb1.alloc hb1.size (.cells #[.string sp, .string nm, .slice a1 n1 c1, .slice a2 n2 c2, .string t] 25)
            have HX1 := Lib.hid (heap_alloc_new w1 (.cells #[.string sp, .string nm, .slice a1 n1 c1, .slice a2 n2 c2, .string t] 25))
            have HXl1 := Lib.hid (show w1.heap.size < (w1.alloc (.cells #[.string sp, .string nm, .slice a1 n1 c1, .slice a2 n2 c2, .string t] 25)).heap.size by simp)
            have HV1 := Lib.hid (hv.any ((Below.refl _ _).alloc (Nat.le_refl _) (.cells #[.string sp, .string nm, .slice a1 n1 c1, .slice a2 n2 c2, .string t] 25)))
            have HA1 := Lib.hid hA1
            clear hA1 hb1 hv
            by_cases hl2 : l + 1 ≤ 2000
            · have CQ := Lib.hid (dparse_ok (M ++ ⟨#[60, 47, 114, 62]⟩) (rootR l) (by rw [hME.out]; exact many_ok l hl2) _ (HE.out.below HA1.out) (HT.out.below HA1.out) hMEs.out)
              have ql : decide ((l : Int) + 1 ≤ 2000) = true := decide_eq_true (by omega)
              go_wp2_with fail
              refine CQ.out.mono ?_
              rintro r w2 ⟨v2, rfl, hv2, hb2⟩
              obtain ⟨sp2, nm2, t2, a3, n3, c3, a4, n4, c4, rfl⟩ := hv2.form
              have hA2 := hb2.alloc hb2.size (.cells #[.string sp2, .string nm2, .slice a3 n3 c3, .slice a4 n4 c4, .string t2] 25)
              have HX2 := Lib.hid (heap_alloc_new w2 (.cells #[.string sp2, .string nm2, .slice a3 n3 c3, .slice a4 n4 c4, .string t2] 25))
              have HXl2 := Lib.hid (show w2.heap.size < (w2.alloc (.cells #[.string sp2, .string nm2, .slice a3 n3 c3, .slice a4 n4 c4, .string t2] 25)).heap.size by simp)
              have HV2 := Lib.hid (hv2.any ((Below.refl _ _).alloc (Nat.le_refl _) (.cells #[.string sp2, .string nm2, .slice a3 n3 c3, .slice a4 n4 c4, .string t2] 25)))
              have HA2 := Lib.hid hA2
              have HB2 := Lib.hid (HA1.out.trans (hA2.mono HA1.out.size))
              have CA := Lib.hid (awake06 _ (HE.out.below HB2.out) (HT.out.below HB2.out))
              clear hA2 hb2 CQ hv2
              go_wp2_with fail
              refine CA.out.mono ?_
              rintro r w3 ⟨rfl, hb3⟩
              have HB3 := Lib.hid (HB2.out.trans (hb3.mono HB2.out.size))
              have x0 := (hb3.cell (p := ⟨w1.heap.size, 0, none⟩) (Nat.lt_of_lt_of_le HXl1.out HA2.out.size)).trans ((HA2.out.cell (p := ⟨w1.heap.size, 0, none⟩) HXl1.out).trans (Lib.cell_of_heap HX1.out 0))
              have x1 := (hb3.cell (p := ⟨w1.heap.size, 1, none⟩) (Nat.lt_of_lt_of_le HXl1.out HA2.out.size)).trans ((HA2.out.cell (p := ⟨w1.heap.size, 1, none⟩) HXl1.out).trans (Lib.cell_of_heap HX1.out 1))
              have x2 := (hb3.cell (p := ⟨w1.heap.size, 2, none⟩) (Nat.lt_of_lt_of_le HXl1.out HA2.out.size)).trans ((HA2.out.cell (p := ⟨w1.heap.size, 2, none⟩) HXl1.out).trans (Lib.cell_of_heap HX1.out 2))
              have x3 := (hb3.cell (p := ⟨w1.heap.size, 3, none⟩) (Nat.lt_of_lt_of_le HXl1.out HA2.out.size)).trans ((HA2.out.cell (p := ⟨w1.heap.size, 3, none⟩) HXl1.out).trans (Lib.cell_of_heap HX1.out 3))
              have x4 := (hb3.cell (p := ⟨w1.heap.size, 4, none⟩) (Nat.lt_of_lt_of_le HXl1.out HA2.out.size)).trans ((HA2.out.cell (p := ⟨w1.heap.size, 4, none⟩) HXl1.out).trans (Lib.cell_of_heap HX1.out 4))
              have HV3 := Lib.hid ((HV1.out.any HA2.out).any hb3)
              have y0 := (hb3.cell (p := ⟨w2.heap.size, 0, none⟩) HXl2.out).trans (Lib.cell_of_heap HX2.out 0)
              have y1 := (hb3.cell (p := ⟨w2.heap.size, 1, none⟩) HXl2.out).trans (Lib.cell_of_heap HX2.out 1)
              have y2 := (hb3.cell (p := ⟨w2.heap.size, 2, none⟩) HXl2.out).trans (Lib.cell_of_heap HX2.out 2)
              have y3 := (hb3.cell (p := ⟨w2.heap.size, 3, none⟩) HXl2.out).trans (Lib.cell_of_heap HX2.out 3)
              have y4 := (hb3.cell (p := ⟨w2.heap.size, 4, none⟩) HXl2.out).trans (Lib.cell_of_heap HX2.out 4)
              have HW3 := Lib.hid (HV2.out.any hb3)
              simp only [List.getElem?_toArray, List.getElem?_cons_zero, List.getElem?_cons_succ] at x0 x1 x2 x3 x4 y0 y1 y2 y3 y4
              have CD := pdepthT _ x anyB w3 HV3.out (by omega)
              rw [hdx] at CD
              have CD := Lib.hid CD
              clear hb3 CA
              go_wp2_with fail
              refine CD.out.mono ?_
              rintro r w4 ⟨rfl, hb4⟩
              have HB4 := Lib.hid (HB3.out.trans (hb4.mono HB3.out.size))
              have z0 := (hb4.cell (p := ⟨w2.heap.size, 0, none⟩) (World.block_lt_of_cell? _ _ y0)).trans y0
              have z1 := (hb4.cell (p := ⟨w2.heap.size, 1, none⟩) (World.block_lt_of_cell? _ _ y1)).trans y1
              have z2 := (hb4.cell (p := ⟨w2.heap.size, 2, none⟩) (World.block_lt_of_cell? _ _ y2)).trans y2
              have z3 := (hb4.cell (p := ⟨w2.heap.size, 3, none⟩) (World.block_lt_of_cell? _ _ y3)).trans y3
              have z4 := (hb4.cell (p := ⟨w2.heap.size, 4, none⟩) (World.block_lt_of_cell? _ _ y4)).trans y4
              have HW4 := Lib.hid (HW3.out.any hb4)
              clear y0 y1 y2 y3 y4
              clear hb4 x0 x1 x2 x3 x4 CD
              have CC := pcount _ (rootR l) anyB w4 HW4.out (by rw [root_count]; omega)
              rw [root_count, show ((l + 1 : Nat) : Int) = (l : Int) + 1 by omega] at CC
              have CC := Lib.hid CC
              go_wp2_with fail
              refine CC.out.mono ?_
              rintro r w5 ⟨rfl, hb5⟩
              have HB5 := Lib.hid (HB4.out.trans (hb5.mono HB4.out.size))
              clear hb5 CC
              go_wp2
              go_ret
              exact ⟨rfl, HB5.out⟩
            · have hl0 : l = 2000 := by omega
              subst hl0
              have CQ := Lib.hid (dparse_bad (M ++ ⟨#[60, 47, 114, 62]⟩) 5 7999 (by rw [hME.out]; exact many_bad) _ (HE.out.below HA1.out) (HT.out.below HA1.out) hMEs.out)
              go_wp2_with fail
              refine CQ.out.mono ?_
              rintro r w2 ⟨rfl, hb2⟩
              have hA2 := hb2.alloc hb2.size (.cells #[.string ⟨#[]⟩, .string ⟨#[]⟩, .slice none 0 0, .slice none 0 0, .string ⟨#[]⟩] 25)
              have HX2 := Lib.hid (heap_alloc_new w2 (.cells #[.string ⟨#[]⟩, .string ⟨#[]⟩, .slice none 0 0, .slice none 0 0, .string ⟨#[]⟩] 25))
              have HXl2 := Lib.hid (show w2.heap.size < (w2.alloc (.cells #[.string ⟨#[]⟩, .string ⟨#[]⟩, .slice none 0 0, .slice none 0 0, .string ⟨#[]⟩] 25)).heap.size by simp)
              have HA2 := Lib.hid hA2
              have HB2 := Lib.hid (HA1.out.trans (hA2.mono HA1.out.size))
              have CA := Lib.hid (awake06 _ (HE.out.below HB2.out) (HT.out.below HB2.out))
              clear hA2 hb2 CQ
              go_wp2_with fail
              refine CA.out.mono ?_
              rintro r w3 ⟨rfl, hb3⟩
              have HB3 := Lib.hid (HB2.out.trans (hb3.mono HB2.out.size))
              have x0 := (hb3.cell (p := ⟨w1.heap.size, 0, none⟩) (Nat.lt_of_lt_of_le HXl1.out HA2.out.size)).trans ((HA2.out.cell (p := ⟨w1.heap.size, 0, none⟩) HXl1.out).trans (Lib.cell_of_heap HX1.out 0))
              have x1 := (hb3.cell (p := ⟨w1.heap.size, 1, none⟩) (Nat.lt_of_lt_of_le HXl1.out HA2.out.size)).trans ((HA2.out.cell (p := ⟨w1.heap.size, 1, none⟩) HXl1.out).trans (Lib.cell_of_heap HX1.out 1))
              have x2 := (hb3.cell (p := ⟨w1.heap.size, 2, none⟩) (Nat.lt_of_lt_of_le HXl1.out HA2.out.size)).trans ((HA2.out.cell (p := ⟨w1.heap.size, 2, none⟩) HXl1.out).trans (Lib.cell_of_heap HX1.out 2))
              have x3 := (hb3.cell (p := ⟨w1.heap.size, 3, none⟩) (Nat.lt_of_lt_of_le HXl1.out HA2.out.size)).trans ((HA2.out.cell (p := ⟨w1.heap.size, 3, none⟩) HXl1.out).trans (Lib.cell_of_heap HX1.out 3))
              have x4 := (hb3.cell (p := ⟨w1.heap.size, 4, none⟩) (Nat.lt_of_lt_of_le HXl1.out HA2.out.size)).trans ((HA2.out.cell (p := ⟨w1.heap.size, 4, none⟩) HXl1.out).trans (Lib.cell_of_heap HX1.out 4))
              have HV3 := Lib.hid ((HV1.out.any HA2.out).any hb3)
              simp only [List.getElem?_toArray, List.getElem?_cons_zero, List.getElem?_cons_succ] at x0 x1 x2 x3 x4
              have CD := pdepthT _ x anyB w3 HV3.out (by omega)
              rw [hdx] at CD
              have CD := Lib.hid CD
              clear hb3 CA
              go_wp2_with fail
              refine CD.out.mono ?_
              rintro r w4 ⟨rfl, hb4⟩
              have HB4 := Lib.hid (HB3.out.trans (hb4.mono HB3.out.size))
              clear hb4 x0 x1 x2 x3 x4 CD
              go_wp2
              go_ret
              exact ⟨rfl, HB4.out⟩
          · have hj33 : j = 33 := by omega
            subst hj33
            go_wp2_with fail
            refine (CP.out 4 96 (deep_bad deep33)).mono ?_
            rintro r w1 ⟨rfl, hb1⟩
            have hA1 := hb1.alloc hb1.size (.cells #[.string ⟨#[]⟩, .string ⟨#[]⟩, .slice none 0 0, .slice none 0 0, .string ⟨#[]⟩] 25)
            have HX1 := Lib.hid (heap_alloc_new w1 (.cells #[.string ⟨#[]⟩, .string ⟨#[]⟩, .slice none 0 0, .slice none 0 0, .string ⟨#[]⟩] 25))
            have HXl1 := Lib.hid (show w1.heap.size < (w1.alloc (.cells #[.string ⟨#[]⟩, .string ⟨#[]⟩, .slice none 0 0, .slice none 0 0, .string ⟨#[]⟩] 25)).heap.size by simp)
            have HA1 := Lib.hid hA1
            clear hA1 hb1
            by_cases hl2 : l + 1 ≤ 2000
            · have CQ := Lib.hid (dparse_ok (M ++ ⟨#[60, 47, 114, 62]⟩) (rootR l) (by rw [hME.out]; exact many_ok l hl2) _ (HE.out.below HA1.out) (HT.out.below HA1.out) hMEs.out)
              have ql : decide ((l : Int) + 1 ≤ 2000) = true := decide_eq_true (by omega)
              go_wp2_with fail
              refine CQ.out.mono ?_
              rintro r w2 ⟨v2, rfl, hv2, hb2⟩
              obtain ⟨sp2, nm2, t2, a3, n3, c3, a4, n4, c4, rfl⟩ := hv2.form
              have hA2 := hb2.alloc hb2.size (.cells #[.string sp2, .string nm2, .slice a3 n3 c3, .slice a4 n4 c4, .string t2] 25)
              have HX2 := Lib.hid (heap_alloc_new w2 (.cells #[.string sp2, .string nm2, .slice a3 n3 c3, .slice a4 n4 c4, .string t2] 25))
              have HXl2 := Lib.hid (show w2.heap.size < (w2.alloc (.cells #[.string sp2, .string nm2, .slice a3 n3 c3, .slice a4 n4 c4, .string t2] 25)).heap.size by simp)
              have HV2 := Lib.hid (hv2.any ((Below.refl _ _).alloc (Nat.le_refl _) (.cells #[.string sp2, .string nm2, .slice a3 n3 c3, .slice a4 n4 c4, .string t2] 25)))
              have HA2 := Lib.hid hA2
              have HB2 := Lib.hid (HA1.out.trans (hA2.mono HA1.out.size))
              have CA := Lib.hid (awake06 _ (HE.out.below HB2.out) (HT.out.below HB2.out))
              clear hA2 hb2 CQ hv2
              go_wp2_with fail
              refine CA.out.mono ?_
              rintro r w3 ⟨rfl, hb3⟩
              have HB3 := Lib.hid (HB2.out.trans (hb3.mono HB2.out.size))
              have y0 := (hb3.cell (p := ⟨w2.heap.size, 0, none⟩) HXl2.out).trans (Lib.cell_of_heap HX2.out 0)
              have y1 := (hb3.cell (p := ⟨w2.heap.size, 1, none⟩) HXl2.out).trans (Lib.cell_of_heap HX2.out 1)
              have y2 := (hb3.cell (p := ⟨w2.heap.size, 2, none⟩) HXl2.out).trans (Lib.cell_of_heap HX2.out 2)
              have y3 := (hb3.cell (p := ⟨w2.heap.size, 3, none⟩) HXl2.out).trans (Lib.cell_of_heap HX2.out 3)
              have y4 := (hb3.cell (p := ⟨w2.heap.size, 4, none⟩) HXl2.out).trans (Lib.cell_of_heap HX2.out 4)
              have HW3 := Lib.hid (HV2.out.any hb3)
              simp only [List.getElem?_toArray, List.getElem?_cons_zero, List.getElem?_cons_succ] at y0 y1 y2 y3 y4
              clear hb3 CA
              have CC := pcount _ (rootR l) anyB w3 HW3.out (by rw [root_count]; omega)
              rw [root_count, show ((l + 1 : Nat) : Int) = (l : Int) + 1 by omega] at CC
              have CC := Lib.hid CC
              go_wp2_with fail
              refine CC.out.mono ?_
              rintro r w5 ⟨rfl, hb5⟩
              have HB5 := Lib.hid (HB3.out.trans (hb5.mono HB3.out.size))
              clear hb5 CC
              go_wp2
              go_ret
              exact ⟨rfl, HB5.out⟩
            · have hl0 : l = 2000 := by omega
              subst hl0
              have CQ := Lib.hid (dparse_bad (M ++ ⟨#[60, 47, 114, 62]⟩) 5 7999 (by rw [hME.out]; exact many_bad) _ (HE.out.below HA1.out) (HT.out.below HA1.out) hMEs.out)
              go_wp2_with fail
              refine CQ.out.mono ?_
              rintro r w2 ⟨rfl, hb2⟩
              have hA2 := hb2.alloc hb2.size (.cells #[.string ⟨#[]⟩, .string ⟨#[]⟩, .slice none 0 0, .slice none 0 0, .string ⟨#[]⟩] 25)
              have HX2 := Lib.hid (heap_alloc_new w2 (.cells #[.string ⟨#[]⟩, .string ⟨#[]⟩, .slice none 0 0, .slice none 0 0, .string ⟨#[]⟩] 25))
              have HXl2 := Lib.hid (show w2.heap.size < (w2.alloc (.cells #[.string ⟨#[]⟩, .string ⟨#[]⟩, .slice none 0 0, .slice none 0 0, .string ⟨#[]⟩] 25)).heap.size by simp)
              have HA2 := Lib.hid hA2
              have HB2 := Lib.hid (HA1.out.trans (hA2.mono HA1.out.size))
              have CA := Lib.hid (awake06 _ (HE.out.below HB2.out) (HT.out.below HB2.out))
              clear hA2 hb2 CQ
              go_wp2_with fail
              refine CA.out.mono ?_
              rintro r w3 ⟨rfl, hb3⟩
              have HB3 := Lib.hid (HB2.out.trans (hb3.mono HB2.out.size))
              clear hb3 CA
              go_wp2
              go_ret
              exact ⟨rfl, HB3.out⟩

end Go.Proofs.YtekmenkebokdoaaGreatDoor
