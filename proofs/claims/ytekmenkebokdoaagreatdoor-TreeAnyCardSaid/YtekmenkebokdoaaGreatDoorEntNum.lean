/-
  The walks of strconv.ParseUint at eight digits at most, base 10 and base 16, and of entity.numbered.
-/
import Derived.Test.YtekmenkebokdoaaGreatDoorChars
import Derived.Test.YtekmenkebokdoaaGreatDoorBaseMath
import Derived.Lib.ConvBytes
import Derived.Lib.ParseIntBMem
import Derived.Laws.Strings3
import Derived.Laws.Closers25
import Derived.Laws.Closers25b
import Derived.BigCall
import Derived.BigGuard
import Derived.Lib.IfaceEq
namespace Go.Proofs.YtekmenkebokdoaaGreatDoor
open Go.RowKit
set_option maxRecDepth 100000

/-! ### ten's digits: what the shelf's contract says, at eight digits at most -/
theorem pow_le {b a c : Nat} (h : a ≤ c) (hb : 0 < b) : b ^ a ≤ b ^ c := Nat.pow_le_pow_right hb h
theorem digV_ten (c : Nat) : digV c < 10 ↔ 48 ≤ c ∧ c ≤ 57 := by
  unfold digV
  by_cases h1 : 48 ≤ c ∧ c ≤ 57
  · rw [if_pos h1]; exact ⟨fun _ => h1, fun _ => by omega⟩
  · rw [if_neg h1]
    refine ⟨fun h => ?_, fun h => absurd h h1⟩
    by_cases h2 : 65 ≤ c ∧ c ≤ 90
    · rw [if_pos h2] at h; omega
    · rw [if_neg h2] at h
      by_cases h3 : 97 ≤ c ∧ c ≤ 122
      · rw [if_pos h3] at h; omega
      · rw [if_neg h3] at h; omega
def endOf : Option Nat → Lib.NumEnd Nat
  | some n => .ok n
  | none => Lib.parseUintB 32 []
theorem parseM_ten : ∀ (l : List UInt8) (acc k : Nat), l.length + k ≤ 8 → acc < 10 ^ k → Lib.parseUintM 4294967295 acc l = endOf (parseD 10 acc l)
  | [], acc, k, _, _ => rfl
  | c :: r, acc, k, hk, ha => by
    simp only [List.length_cons] at hk
    have hp : 10 ^ k ≤ 10 ^ 7 := pow_le (by omega) (by omega)
    unfold Lib.parseUintM parseD
    by_cases h : 48 ≤ c.toNat ∧ c.toNat ≤ 57
    · have hd : digV c.toNat = c.toNat - 48 := by unfold digV; rw [if_pos h]
      have e7 : (10 : Nat) ^ 7 = 10000000 := by decide
      rw [if_pos h, if_pos ((digV_ten _).2 h), hd, if_neg (by omega), if_neg (by omega)]
      exact parseM_ten r _ (k + 1) (by omega) (by rw [Nat.pow_succ]; omega)
    · rw [if_neg h, if_neg (fun h' => h ((digV_ten _).1 h'))]; rfl
theorem parseB_ten (l : List UInt8) (h : l.length ≤ 8) : Lib.parseUintB 32 l = endOf (spellL 10 l) := by
  unfold Lib.parseUintB spellL
  by_cases h0 : l = []
  · rw [if_pos h0, if_pos h0]; rfl
  · rw [if_neg h0, if_neg h0]
    have eM : (2 : Nat) ^ 32 - 1 = 4294967295 := by decide
    rw [eM]; exact parseM_ten l 0 0 (by omega) (by decide)

/-! ### sixteen's digits -/
/-- What internal/strconv.ParseUint hands back. -/
def uintV : Option Nat → Value
  | some n => .tuple #[.int .u64 n, .nilIface]
  | none => .tuple #[.int .u64 0, .iface 159 (.int .i64 2)]
/-- A byte with the bit 32 set. -/
def lowV (c : Int) : Int := if 65 ≤ c ∧ c ≤ 90 then c + 32 else if 97 ≤ c ∧ c ≤ 122 then c else 0
theorem low_fact (c : UInt8) (h : ¬ (48 ≤ c.toNat ∧ c.toNat ≤ 57)) : ∃ v : Int, bits .or .u8 (c.toNat : Int) 32 = v ∧ 0 ≤ v ∧ v < 256 ∧ (c.toNat = 95 → v = 127) ∧
    ((97 ≤ v ∧ v ≤ 102 ∧ (digV c.toNat : Int) = v - 87) ∨ (103 ≤ v ∧ v ≤ 122 ∧ 16 ≤ digV c.toNat) ∨ (v < 97 ∧ 16 ≤ digV c.toNat) ∨ (122 < v ∧ 16 ≤ digV c.toNat)) := by
  refine ⟨_, rfl, ?_⟩
  have key : ∀ n : Fin 256, ¬ (48 ≤ n.val ∧ n.val ≤ 57) → 0 ≤ bits .or .u8 (n.val : Int) 32 ∧ bits .or .u8 (n.val : Int) 32 < 256 ∧ (n.val = 95 → bits .or .u8 (n.val : Int) 32 = 127) ∧
    ((97 ≤ bits .or .u8 (n.val : Int) 32 ∧ bits .or .u8 (n.val : Int) 32 ≤ 102 ∧ (digV n.val : Int) = bits .or .u8 (n.val : Int) 32 - 87) ∨ (103 ≤ bits .or .u8 (n.val : Int) 32 ∧ bits .or .u8 (n.val : Int) 32 ≤ 122 ∧ 16 ≤ digV n.val) ∨ (bits .or .u8 (n.val : Int) 32 < 97 ∧ 16 ≤ digV n.val) ∨ (122 < bits .or .u8 (n.val : Int) 32 ∧ 16 ≤ digV n.val)) := by decide +kernel
  exact key ⟨c.toNat, c.toNat_lt⟩ h
/-- k digits are behind the loop: they spell acc. -/
def Spelt (l : List UInt8) (k acc : Nat) : Prop := acc < 16 ^ k ∧ parseD 16 0 l = parseD 16 acc (l.drop k)
theorem Spelt.start (l : List UInt8) : Spelt l 0 0 := ⟨by decide, by rw [List.drop_zero]⟩
theorem Spelt.step {l : List UInt8} {k acc : Nat} (h : Spelt l k acc) (c : UInt8) (r : List UInt8) (hd : l.drop k = c :: r) (hc : digV c.toNat < 16) : Spelt l (k + 1) (acc * 16 + digV c.toNat) := by
  obtain ⟨h1, h2⟩ := h
  have hr : l.drop (k + 1) = r := by rw [← List.drop_drop, hd]; rfl
  refine ⟨by rw [Nat.pow_succ]; omega, ?_⟩
  rw [h2, hd, hr]
  conv => lhs; unfold parseD
  rw [if_pos hc]
theorem Spelt.bad {l : List UInt8} {k acc : Nat} (h : Spelt l k acc) (c : UInt8) (r : List UInt8) (hd : l.drop k = c :: r) (hc : 16 ≤ digV c.toNat) : parseD 16 0 l = none := by
  rw [h.2, hd]; unfold parseD; rw [if_neg (by omega)]
theorem Spelt.done {l : List UInt8} {k acc : Nat} (h : Spelt l k acc) (hk : l.length ≤ k) : parseD 16 0 l = some acc := by
  rw [h.2, List.drop_eq_nil_of_le hk]; rfl

set_option maxHeartbeats 32000000 in
set_option maxRecDepth 100000 in
/-- internal/strconv.ParseUint(s, 16, 32) at one to eight bytes. -/
theorem pu16 (t : ByteArray) (hne : t.size ≠ 0) (h8 : t.size ≤ 8) (w : World) (A : Option Nat) (HA : Hid (A = parseD 16 0 (bl t))) :
    Calls Tryz.prog 140 #[.string t, .int .i64 16, .int .i64 32] w fun e w' => e = .returned (uintV A) ∧ w' = Lib.bytesWorld w 5 t := by
  have hemp : t.toList.isEmpty = false := bl_more t hne
  have hcv := Lib.run_convert_string_bytes (P := Tryz.prog) w 9 28 5 t (u := .string) Tryz.underlying9 Tryz.underlying28 Tryz.underlying5
  have HB := Lib.hid (fun j (hj : j < t.size) => Lib.bytesWorld_cell w 5 t j hj)
  obtain ⟨W1, hW1⟩ : ∃ W1, W1 = Lib.bytesWorld w 5 t := ⟨_, rfl⟩
  rw [← hW1] at hcv HB ⊢
  clear hW1
  have HL := Lib.hid (bl_size t)
  have hmv : IntKind.u64.wrap (IntKind.u64.wrap 4294967296 - 1) = 4294967295 := by
    rw [IntKind.wrap_u64, IntKind.wrap_u64]
    decide
  go_enter Tryz.func140, Tryz.ntmps140
  go_wp2
  go_loop [12, 13, 101] (fun vu vn vi => ∃ (k acc : Nat) (a : Int), vu = .bool false ∧ vn = .int .u64 a ∧ vi = .int .i64 k ∧ k ≤ t.size ∧ Hid (a = (acc : Int) ∧ Spelt (bl t) k acc))
    (fun _ _ vi => t.size - (intOf vi).toNat)
  case atStart => exact ⟨0, 0, 0, rfl, rfl, rfl, by omega, rfl, Spelt.start _⟩
  case round =>
    obtain ⟨k, acc, a, rfl, rfl, rfl, hk, hh⟩ := hrel
    obtain ⟨ha, hsp⟩ := hh.out
    clear hh
    have HK := Lib.hid hsp
    clear hsp
    by_cases hkn : k < t.size
    · have hc := HB.out k hkn
      have hacc : acc ≤ 268435455 := by
        have h1 := HK.out.1
        have h2 : 16 ^ k ≤ 16 ^ 7 := pow_le (by omega) (by omega)
        have e7 : (16 : Nat) ^ 7 = 268435456 := by decide
        omega
      have hdrop : (bl t).drop k = (bl t)[k]'(by rw [HL.out]; exact hkn) :: (bl t).drop (k + 1) := List.drop_eq_getElem_cons (by rw [HL.out]; exact hkn)
      have hget : t.data.toList.getD k 0 = (bl t)[k]'(by rw [HL.out]; exact hkn) := by unfold bl; simp [List.getD, List.getElem?_eq_getElem (show k < t.data.toList.length by have := HL.out; unfold bl at this; omega)]
      rw [hget] at hc
      generalize (bl t)[k]'(by rw [HL.out]; exact hkn) = c at hc hdrop
      have hstep := fun h => HK.out.step c _ hdrop h
      have hbad := fun h => HA.out.trans (HK.out.bad c _ hdrop h)
      have hc256 : c.toNat < 256 := c.toNat_lt
      have a0 : 0 ≤ a := by omega
      have a1 : a ≤ 268435455 := by omega
      clear hget hdrop HB hacc
      by_cases hdig : 48 ≤ c.toNat ∧ c.toNat ≤ 57
      · have hd : digV c.toNat = c.toNat - 48 := by unfold digV; rw [if_pos hdig]
        have hn := hstep (by omega)
        rw [hd] at hn
        have HN : Hid (a * 16 + ((c.toNat : Int) - 48) = ((acc * 16 + (c.toNat - 48) : Nat) : Int) ∧ Spelt (bl t) (k + 1) (acc * 16 + (c.toNat - 48))) := Lib.hid ⟨by omega, hn⟩
        clear hstep hbad hd hn ha
        obtain ⟨hd0, hd1⟩ := hdig
        go_wp2
        refine ⟨⟨k + 1, acc * 16 + (c.toNat - 48), a * 16 + ((c.toNat : Int) - 48), rfl, (by first | rfl | (congr 1; omega)), (by first | rfl | (congr 1; omega)), by omega, HN⟩, by simp [intOf]; omega⟩
      · obtain ⟨v, hv, hv0, hv1, h95, hcase⟩ := low_fact c hdig
        have CL : Hid (∀ w, Calls Tryz.prog 142 #[.int .u8 (c.toNat : Int)] w fun e w' => e = .returned (.int .u8 v) ∧ w = w') := Lib.hid (fun w => by
          have h := Tryz.internal_strconv_lower (c.toNat : Int) w
          rw [hv] at h
          exact h.mono fun e w' h => ⟨h.1, h.2.symm⟩)
        have q1 : (c.toNat : Int) < 48 ∨ 57 < (c.toNat : Int) := by omega
        clear hv hdig
        rcases hcase with ⟨v1, v2, v3⟩ | ⟨v1, v2, v3⟩ | ⟨v1, v3⟩ | ⟨v1, v3⟩
        · have hn := hstep (by omega)
          have HN : Hid (a * 16 + (v - 97 + 10) = ((acc * 16 + digV c.toNat : Nat) : Int) ∧ Spelt (bl t) (k + 1) (acc * 16 + digV c.toNat)) := Lib.hid ⟨by omega, hn⟩
          have e95 : ((c.toNat : Int) == 95) = false := by simp; omega
          clear hstep hbad hn v3 ha h95
          go_wp2_with (go_at_call 142; refine (CL.out _).mono ?_; rintro e w' ⟨rfl, rfl⟩)
          all_goals
            refine ⟨⟨k + 1, acc * 16 + digV c.toNat, a * 16 + (v - 97 + 10), rfl, (by first | rfl | (congr 1; omega)), (by first | rfl | (congr 1; omega)), by omega, HN⟩, by simp [intOf]; omega⟩
        · have hA := hbad v3
          subst hA
          have e95 : ((c.toNat : Int) == 95) = false := by simp; omega
          clear hstep hbad ha h95
          go_wp2_with (go_at_call 142; refine (CL.out _).mono ?_; rintro e w' ⟨rfl, rfl⟩)
          all_goals go_ret2
          all_goals exact ⟨rfl, rfl⟩
        · have hA := hbad v3
          subst hA
          have e95 : ((c.toNat : Int) == 95) = false := by simp; omega
          clear hstep hbad ha h95
          have p1 : decide (97 ≤ v) = false := decide_eq_false (by omega)
          go_wp2_with (go_at_call 142; refine (CL.out _).mono ?_; rintro e w' ⟨rfl, rfl⟩)
          all_goals go_ret2
          all_goals exact ⟨rfl, rfl⟩
        · have hA := hbad v3
          subst hA
          have p1 : decide (v ≤ 122) = false := decide_eq_false (by omega)
          clear hstep hbad ha
          by_cases c95 : c.toNat = 95
          · obtain rfl := h95 c95
            obtain rfl : c = 95 := UInt8.toNat_inj.1 c95
            clear h95
            go_wp2_with (go_at_call 142; refine (CL.out _).mono ?_; rintro e w' ⟨rfl, rfl⟩)
            all_goals go_ret2
            all_goals exact ⟨rfl, rfl⟩
          · have e95 : ((c.toNat : Int) == 95) = false := by simp; omega
            clear h95
            go_wp2_with (go_at_call 142; refine (CL.out _).mono ?_; rintro e w' ⟨rfl, rfl⟩)
            all_goals go_ret2
            all_goals exact ⟨rfl, rfl⟩
    · obtain rfl : k = t.size := by omega
      have hA : A = some acc := HA.out.trans (HK.out.done (by rw [HL.out]; exact Nat.le_refl _))
      subst hA
      subst ha
      clear HB
      go_wp2
      go_ret2
      exact ⟨rfl, rfl⟩

/-! ### what the package-level variables hold -/
def nameCells : Array Value := #[.string ⟨#[97, 109, 112]⟩, .int .u8 38, .bool true, .string ⟨#[108, 116]⟩, .int .u8 60, .bool true, .string ⟨#[103, 116]⟩, .int .u8 62, .bool true, .string ⟨#[113, 117, 111, 116]⟩, .int .u8 34, .bool true, .string ⟨#[97, 112, 111, 115]⟩, .int .u8 39, .bool false]
structure EntV (w : World) : Prop where
  names : ∃ t fr, w.heap[3]? = some (.cells nameCells t fr)
  base0 : w.cell? ⟨4, 0, none⟩ = some (.int .i64 10)
  base1 : w.cell? ⟨4, 1, none⟩ = some (.int .i64 16)
  syn : ∃ te pe, w.cell? ⟨5, 0, none⟩ = some (.iface te pe)
  maxl : MaxL w
theorem cell_below {w w' : World} {b o : Nat} {v : Value} (h : w.cell? ⟨b, o, none⟩ = some v) (hb : Below w.heap.size w w') : w'.cell? ⟨b, o, none⟩ = some v :=
  (hb.cell (World.block_lt_of_cell? _ _ h)).trans h
theorem EntV.below {w w' : World} (h : EntV w) (hb : Below w.heap.size w w') : EntV w' := by
  obtain ⟨⟨t, fr, h1⟩, h2, h3, ⟨te, pe, h4⟩, h5⟩ := h
  refine ⟨⟨t, fr, ?_⟩, cell_below h2 hb, cell_below h3 hb, ⟨te, pe, cell_below h4 hb⟩, h5.below hb⟩
  rw [hb.block _ (Array.getElem?_eq_some_iff.1 h1).1]; exact h1

/-! ### strconv.ParseUint -/
def uintPub (N : Nat) : Option Nat → Value
  | some n => .tuple #[.int .u64 n, .nilIface]
  | none => .tuple #[.int .u64 0, .iface 161 (.pointer (some ⟨N, 0, none⟩))]
set_option maxHeartbeats 4000000 in
set_option maxRecDepth 100000 in
theorem pub_some (base : Int) (s : ByteArray) (n : Nat) (w : World)
    (C : Hid (Calls Tryz.prog 140 #[.string s, .int .i64 base, .int .i64 32] w fun e w' => e = .returned (.tuple #[.int .u64 n, .nilIface]) ∧ Below w.heap.size w w')) :
    Calls Tryz.prog 138 #[.string s, .int .i64 base, .int .i64 32] w fun e w' => e = .returned (.tuple #[.int .u64 n, .nilIface]) ∧ Below w.heap.size w w' := by
  go_enter Tryz.func138, Tryz.ntmps138
  go_wp2_with (go_at_call 140; refine C.out.mono ?_; rintro e w1 ⟨rfl, hb⟩)
  go_ret2
  exact ⟨rfl, hb⟩
set_option maxHeartbeats 4000000 in
set_option maxRecDepth 100000 in
theorem pub_none (base : Int) (s : ByteArray) (hs : s.size ≤ 8) (w : World) (HE : Hid (EntV w))
    (C : Hid (Calls Tryz.prog 140 #[.string s, .int .i64 base, .int .i64 32] w fun e w' => e = .returned (.tuple #[.int .u64 0, .iface 159 (.int .i64 2)]) ∧ Below w.heap.size w w')) :
    Calls Tryz.prog 138 #[.string s, .int .i64 base, .int .i64 32] w fun e w' => ∃ N : Nat, e = .returned (.tuple #[.int .u64 0, .iface 161 (.pointer (some ⟨N, 0, none⟩))]) ∧ Below w.heap.size w w' := by
  obtain ⟨te, pe, hv⟩ := HE.out.syn
  have HT : Hid (∀ w1, Below w.heap.size w w1 → Calls Tryz.prog 141 #[.string ⟨#[80, 97, 114, 115, 101, 85, 105, 110, 116]⟩, .string s, .int .i64 base, .int .i64 32, .iface 159 (.int .i64 2)] w1 fun e w' => ∃ N : Nat, e = .returned (.iface 161 (.pointer (some ⟨N, 0, none⟩))) ∧ Below w1.heap.size w1 w') := by
    have h := fun w1 (hb : Below w.heap.size w w1) => AnyPu.strconv_toError_syntax (P := Tryz.prog) (ρ := Tryz.laysPu14_ren) { Tryz.laysPu14 with } ⟨#[80, 97, 114, 115, 101, 85, 105, 110, 116]⟩ s base 32 (.iface te pe) w1 (by omega) (cell_below hv hb) (Or.inr ⟨te, pe, rfl⟩)
    exact Lib.hid fun w1 hb => (h w1 hb).mono fun e w' ⟨N, he, _, _, h4⟩ => ⟨N, he, h4⟩
  clear hv
  go_enter Tryz.func138, Tryz.ntmps138
  go_wp2_with (go_at_call 140; refine C.out.mono ?_; rintro e w1 ⟨rfl, hb⟩)
  refine (HT.out _ hb).mono ?_
  rintro e w2 ⟨N, rfl, hb2⟩
  have hb2' := hb.trans (hb2.mono hb.size)
  clear hb hb2
  go_wp2_with fail
  go_ret2
  exact ⟨N, rfl, hb2'⟩
/-- The two bases. -/
theorem internal_both (base : Nat) (hbase : base = 10 ∨ base = 16) (s : ByteArray) (hs : s.size ≤ 8) (w : World) :
    Calls Tryz.prog 140 #[.string s, .int .i64 base, .int .i64 32] w fun e w' => e = .returned (uintV (spellL base (bl s))) ∧ Below w.heap.size w w' := by
  rcases hbase with rfl | rfl
  · have h := Tryz.internal_strconv_ParseUint_10_at32 s (by omega) w
    have e : Lib.parseUintB 32 s.data.toList = endOf (spellL 10 (bl s)) := parseB_ten (bl s) (by rw [bl_size]; exact hs)
    rw [e] at h
    refine h.mono fun e w' ⟨he, hw⟩ => ⟨?_, ?_⟩
    · rw [he]; cases spellL 10 (bl s) <;> rfl
    · rcases hw with rfl | rfl
      · exact Below.refl _ _
      · exact Lib.bytesWorld_below _ _ _
  · by_cases h0 : s.size = 0
    · have hs0 : s = ⟨#[]⟩ := ByteArray.ext (Array.eq_empty_of_size_eq_zero h0)
      subst hs0
      refine (Tryz.internal_strconv_ParseUint_empty 16 32 w).mono fun e w' ⟨he, hw⟩ => ⟨?_, by subst hw; exact Below.refl _ _⟩
      rw [he]; rfl
    · have hne : bl s ≠ [] := fun h => h0 (by rw [← bl_size, h]; rfl)
      refine (pu16 s h0 hs w _ (Lib.hid rfl)).mono fun e w' ⟨he, hw⟩ => ⟨?_, by subst hw; exact Lib.bytesWorld_below _ _ _⟩
      rw [he]; unfold spellL; rw [if_neg hne]

set_option maxHeartbeats 4000000 in
set_option maxRecDepth 100000 in
/-- **entity.numbered, ten and sixteen.** -/
theorem enum0 (k base : Nat) (hk : (k = 0 ∧ base = 10) ∨ (k = 1 ∧ base = 16)) (s : ByteArray) (w : World) (HE : Hid (EntV w)) (A : Int) (HA : Hid (A = numL base (bl s))) :
    Calls Tryz.prog 136 #[.string s, .int .i64 k] w fun e w' => e = .returned (.int .i64 A) ∧ Below w.heap.size w w' := by
  by_cases h8 : 8 < s.size
  · have hA : A = 0 := by rw [HA.out]; unfold numL; rw [if_pos (by rw [bl_size]; exact h8)]
    subst hA
    have h8' : (8 : Int) < (s.size : Int) := by omega
    clear h8
    go_enter Tryz.func136, Tryz.ntmps136
    go_wp2
    go_ret
    exact ⟨rfl, Below.refl _ _⟩
  have hc : w.cell? ⟨4, k, none⟩ = some (.int .i64 base) := by
    rcases hk with ⟨rfl, rfl⟩ | ⟨rfl, rfl⟩
    · exact HE.out.base0
    · exact HE.out.base1
  have hk2 : (k : Int) < 2 := by omega
  have hA : A = match spellL base (bl s) with | some n => (if letB n = true then (n : Int) else 0) | none => 0 := by rw [HA.out]; unfold numL; rw [if_neg (by rw [bl_size]; exact h8)]; rfl
  have h8' : decide ((8 : Int) < (s.size : Int)) = false := decide_eq_false (by omega)
  have hI := internal_both base (by omega) s (by omega) w
  have hlt : ∀ n, spellL base (bl s) = some n → n ≤ 4294967295 := fun n h => spell_le base _ n (by omega) (by rw [bl_size]; omega) h
  cases hsp : spellL base (bl s) with
  | none =>
    rw [hsp] at hI hA
    simp only at hA
    subst hA
    have C := Lib.hid (pub_none base s (by omega) w HE (Lib.hid hI))
    clear hI hsp hlt h8 hk
    go_enter Tryz.func136, Tryz.ntmps136
    go_wp2_with (go_at_call 138; refine C.out.mono ?_; rintro e w1 ⟨N, rfl, hb⟩)
    go_ret
    exact ⟨rfl, hb⟩
  | some n =>
    rw [hsp] at hI hA
    simp only at hA
    have hn := hlt n hsp
    have C := Lib.hid (pub_some base s n w (Lib.hid hI))
    have CL := Lib.hid (fun w => cletter (n : Int) w)
    have hn' : (n : Int) ≤ 4294967295 := by omega
    clear hI hsp hlt h8 hk hn
    cases hl : letB (n : Int) with
    | true =>
      rw [hl] at CL hA
      rw [if_pos rfl] at hA
      subst hA
      clear hl
      go_enter Tryz.func136, Tryz.ntmps136
      go_wp2_with (first | (go_at_call 138; refine C.out.mono ?_; rintro e w1 ⟨rfl, hb⟩) | (go_at_call 126; refine (CL.out _).mono ?_; rintro e w2 ⟨rfl, rfl⟩))
      go_ret
      exact ⟨rfl, hb⟩
    | false =>
      rw [hl] at CL hA
      rw [if_neg (by decide)] at hA
      subst hA
      clear hl
      go_enter Tryz.func136, Tryz.ntmps136
      go_wp2_with (first | (go_at_call 138; refine C.out.mono ?_; rintro e w1 ⟨rfl, hb⟩) | (go_at_call 126; refine (CL.out _).mono ?_; rintro e w2 ⟨rfl, rfl⟩))
      go_ret
      exact ⟨rfl, hb⟩

end Go.Proofs.YtekmenkebokdoaaGreatDoor
