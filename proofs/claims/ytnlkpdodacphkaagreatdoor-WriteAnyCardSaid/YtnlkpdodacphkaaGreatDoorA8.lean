/-
  The walks of strconv.ParseUint at eight digits at most, base 10 and base 16, and of entity.numbered.
  The walk of entity.One.
  strings.Builder in a program whose text of copyCheck ends at what the translation refuses (a builder copied by value): the walks of copyCheck, WriteByte, WriteString, WriteRune, over what the library says of a builder that a call has made itself.
-/
import Derived.Test.YtnlkpdodacphkaaGreatDoorA7
import Derived.Test.YtnlkpdodacphkaaGreatDoorA1
import Derived.Lib.ConvBytes
import Derived.Lib.ParseIntBMem
import Derived.Laws.Strings3
import Derived.Laws.Closers25
import Derived.Laws.Closers25b
import Derived.BigCall
import Derived.BigGuard
import Derived.Lib.IfaceEq
import Derived.Deep.LoopGhost
import Derived.Laws.Rows
import Derived.Test.YtnlkpdodacphkaaGreatDoorA6
import Derived.WalkKit
import Derived.Lib.FrozenHead2
import Derived.Lib.Hide
import GoSem.Claims
namespace Go.Proofs.YtnlkpdodacphkaaGreatDoor
open Go.RowKit
set_option maxRecDepth 100000

/-! ### ten's digits: what the shelf's contract says, at eight digits at most -/
theorem pow_le {b a c : Nat} (h : a ≤ c) (hb : 0 < b) : b ^ a ≤ b ^ c := Nat.pow_le_pow_right hb h
theorem digV_ten (c : Nat) : digV c < 10 ↔ 48 ≤ c ∧ c ≤ 57 := by
  unfold digV
  by_cases h1 : 48 ≤ c ∧ c ≤ 57
  · rw [if_pos h1]; exact ⟨fun _ => h1, fun _ => by omega⟩
  · rw [if_neg h1]
    refine ⟨fun h => ?_, fun h => absurd h h1⟩
    by_cases h2 : 65 ≤ c ∧ c ≤ 90
    · rw [if_pos h2] at h; omega
    · rw [if_neg h2] at h
      by_cases h3 : 97 ≤ c ∧ c ≤ 122
      · rw [if_pos h3] at h; omega
      · rw [if_neg h3] at h; omega
def endOf : Option Nat → Lib.NumEnd Nat
  | some n => .ok n
  | none => Lib.parseUintB 32 []
theorem parseM_ten : ∀ (l : List UInt8) (acc k : Nat), l.length + k ≤ 8 → acc < 10 ^ k → Lib.parseUintM 4294967295 acc l = endOf (parseD 10 acc l)
  | [], acc, k, _, _ => rfl
  | c :: r, acc, k, hk, ha => by
    simp only [List.length_cons] at hk
    have hp : 10 ^ k ≤ 10 ^ 7 := pow_le (by omega) (by omega)
    unfold Lib.parseUintM parseD
    by_cases h : 48 ≤ c.toNat ∧ c.toNat ≤ 57
    · have hd : digV c.toNat = c.toNat - 48 := by unfold digV; rw [if_pos h]
      have e7 : (10 : Nat) ^ 7 = 10000000 := by decide
      rw [if_pos h, if_pos ((digV_ten _).2 h), hd, if_neg (by omega), if_neg (by omega)]
      exact parseM_ten r _ (k + 1) (by omega) (by rw [Nat.pow_succ]; omega)
    · rw [if_neg h, if_neg (fun h' => h ((digV_ten _).1 h'))]; rfl
theorem parseB_ten (l : List UInt8) (h : l.length ≤ 8) : Lib.parseUintB 32 l = endOf (spellL 10 l) := by
  unfold Lib.parseUintB spellL
  by_cases h0 : l = []
  · rw [if_pos h0, if_pos h0]; rfl
  · rw [if_neg h0, if_neg h0]
    have eM : (2 : Nat) ^ 32 - 1 = 4294967295 := by decide
    rw [eM]; exact parseM_ten l 0 0 (by omega) (by decide)

/-! ### sixteen's digits -/
/-- What internal/strconv.ParseUint hands back. -/
def uintV : Option Nat → Value
  | some n => .tuple #[.int .u64 n, .nilIface]
  | none => .tuple #[.int .u64 0, .iface 281 (.int .i64 2)]
theorem low_fact (c : UInt8) (h : ¬ (48 ≤ c.toNat ∧ c.toNat ≤ 57)) : ∃ v : Int, bits .or .u8 (c.toNat : Int) 32 = v ∧ 0 ≤ v ∧ v < 256 ∧ (c.toNat = 95 → v = 127) ∧
    ((97 ≤ v ∧ v ≤ 102 ∧ (digV c.toNat : Int) = v - 87) ∨ (103 ≤ v ∧ v ≤ 122 ∧ 16 ≤ digV c.toNat) ∨ (v < 97 ∧ 16 ≤ digV c.toNat) ∨ (122 < v ∧ 16 ≤ digV c.toNat)) := by
  refine ⟨_, rfl, ?_⟩
  have key : ∀ n : Fin 256, ¬ (48 ≤ n.val ∧ n.val ≤ 57) → 0 ≤ bits .or .u8 (n.val : Int) 32 ∧ bits .or .u8 (n.val : Int) 32 < 256 ∧ (n.val = 95 → bits .or .u8 (n.val : Int) 32 = 127) ∧
    ((97 ≤ bits .or .u8 (n.val : Int) 32 ∧ bits .or .u8 (n.val : Int) 32 ≤ 102 ∧ (digV n.val : Int) = bits .or .u8 (n.val : Int) 32 - 87) ∨ (103 ≤ bits .or .u8 (n.val : Int) 32 ∧ bits .or .u8 (n.val : Int) 32 ≤ 122 ∧ 16 ≤ digV n.val) ∨ (bits .or .u8 (n.val : Int) 32 < 97 ∧ 16 ≤ digV n.val) ∨ (122 < bits .or .u8 (n.val : Int) 32 ∧ 16 ≤ digV n.val)) := by decide +kernel
  exact key ⟨c.toNat, c.toNat_lt⟩ h
/-- k digits are behind the loop: they spell acc. -/
def Spelt (l : List UInt8) (k acc : Nat) : Prop := acc < 16 ^ k ∧ parseD 16 0 l = parseD 16 acc (l.drop k)
theorem Spelt.start (l : List UInt8) : Spelt l 0 0 := ⟨by decide, by rw [List.drop_zero]⟩
theorem Spelt.step {l : List UInt8} {k acc : Nat} (h : Spelt l k acc) (c : UInt8) (r : List UInt8) (hd : l.drop k = c :: r) (hc : digV c.toNat < 16) : Spelt l (k + 1) (acc * 16 + digV c.toNat) := by
  obtain ⟨h1, h2⟩ := h
  have hr : l.drop (k + 1) = r := by rw [← List.drop_drop, hd]; rfl
  refine ⟨by rw [Nat.pow_succ]; omega, ?_⟩
  rw [h2, hd, hr]
  conv => lhs; unfold parseD
  rw [if_pos hc]
theorem Spelt.bad {l : List UInt8} {k acc : Nat} (h : Spelt l k acc) (c : UInt8) (r : List UInt8) (hd : l.drop k = c :: r) (hc : 16 ≤ digV c.toNat) : parseD 16 0 l = none := by
  rw [h.2, hd]; unfold parseD; rw [if_neg (by omega)]
theorem Spelt.done {l : List UInt8} {k acc : Nat} (h : Spelt l k acc) (hk : l.length ≤ k) : parseD 16 0 l = some acc := by
  rw [h.2, List.drop_eq_nil_of_le hk]; rfl

set_option maxHeartbeats 32000000 in
set_option maxRecDepth 100000 in
/-- internal/strconv.ParseUint(s, 16, 32) at one to eight bytes. -/
theorem pu16 (t : ByteArray) (hne : t.size ≠ 0) (h8 : t.size ≤ 8) (w : World) (A : Option Nat) (HA : Hid (A = parseD 16 0 (bl t))) :
    Calls Tryz.prog 223 #[.string t, .int .i64 16, .int .i64 32] w fun e w' => e = .returned (uintV A) ∧ w' = Lib.bytesWorld w 5 t := by
  have hemp : t.toList.isEmpty = false := bl_more t hne
  have hcv := Lib.run_convert_string_bytes (P := Tryz.prog) w 9 58 5 t (u := .string) Tryz.underlying9 Tryz.underlying58 Tryz.underlying5
  have HB := Lib.hid (fun j (hj : j < t.size) => Lib.bytesWorld_cell w 5 t j hj)
  obtain ⟨W1, hW1⟩ : ∃ W1, W1 = Lib.bytesWorld w 5 t := ⟨_, rfl⟩
  rw [← hW1] at hcv HB ⊢
  clear hW1
  have HL := Lib.hid (bl_size t)
  have hmv : IntKind.u64.wrap (IntKind.u64.wrap 4294967296 - 1) = 4294967295 := by
    rw [IntKind.wrap_u64, IntKind.wrap_u64]
    decide
  go_enter Tryz.func223, Tryz.ntmps223
  go_wp2
  go_loop [12, 13, 101] (fun vu vn vi => ∃ (k acc : Nat) (a : Int), vu = .bool false ∧ vn = .int .u64 a ∧ vi = .int .i64 k ∧ k ≤ t.size ∧ Hid (a = (acc : Int) ∧ Spelt (bl t) k acc))
    (fun _ _ vi => t.size - (intOf vi).toNat)
  case atStart => exact ⟨0, 0, 0, rfl, rfl, rfl, by omega, rfl, Spelt.start _⟩
  case round =>
    obtain ⟨k, acc, a, rfl, rfl, rfl, hk, hh⟩ := hrel
    obtain ⟨ha, hsp⟩ := hh.out
    clear hh
    have HK := Lib.hid hsp
    clear hsp
    by_cases hkn : k < t.size
    · have hc := HB.out k hkn
      have hacc : acc ≤ 268435455 := by
        have h1 := HK.out.1
        have h2 : 16 ^ k ≤ 16 ^ 7 := pow_le (by omega) (by omega)
        have e7 : (16 : Nat) ^ 7 = 268435456 := by decide
        omega
      have hdrop : (bl t).drop k = (bl t)[k]'(by rw [HL.out]; exact hkn) :: (bl t).drop (k + 1) := List.drop_eq_getElem_cons (by rw [HL.out]; exact hkn)
      have hget : t.data.toList.getD k 0 = (bl t)[k]'(by rw [HL.out]; exact hkn) := by unfold bl; simp [List.getD, List.getElem?_eq_getElem (show k < t.data.toList.length by have := HL.out; unfold bl at this; omega)]
      rw [hget] at hc
      generalize (bl t)[k]'(by rw [HL.out]; exact hkn) = c at hc hdrop
      have hstep := fun h => HK.out.step c _ hdrop h
      have hbad := fun h => HA.out.trans (HK.out.bad c _ hdrop h)
      have hc256 : c.toNat < 256 := c.toNat_lt
      have a0 : 0 ≤ a := by omega
      have a1 : a ≤ 268435455 := by omega
      clear hget hdrop HB hacc
      by_cases hdig : 48 ≤ c.toNat ∧ c.toNat ≤ 57
      · have hd : digV c.toNat = c.toNat - 48 := by unfold digV; rw [if_pos hdig]
        have hn := hstep (by omega)
        rw [hd] at hn
        have HN : Hid (a * 16 + ((c.toNat : Int) - 48) = ((acc * 16 + (c.toNat - 48) : Nat) : Int) ∧ Spelt (bl t) (k + 1) (acc * 16 + (c.toNat - 48))) := Lib.hid ⟨by omega, hn⟩
        clear hstep hbad hd hn ha
        obtain ⟨hd0, hd1⟩ := hdig
        go_wp2
        refine ⟨⟨k + 1, acc * 16 + (c.toNat - 48), a * 16 + ((c.toNat : Int) - 48), rfl, (by first | rfl | (congr 1; omega)), (by first | rfl | (congr 1; omega)), by omega, HN⟩, by simp [intOf]; omega⟩
      · obtain ⟨v, hv, hv0, hv1, h95, hcase⟩ := low_fact c hdig
        have CL : Hid (∀ w, Calls Tryz.prog 225 #[.int .u8 (c.toNat : Int)] w fun e w' => e = .returned (.int .u8 v) ∧ w = w') := Lib.hid (fun w => by
          have h := Tryz.internal_strconv_lower (c.toNat : Int) w
          rw [hv] at h
          exact h.mono fun e w' h => ⟨h.1, h.2.symm⟩)
        have q1 : (c.toNat : Int) < 48 ∨ 57 < (c.toNat : Int) := by omega
        clear hv hdig
        rcases hcase with ⟨v1, v2, v3⟩ | ⟨v1, v2, v3⟩ | ⟨v1, v3⟩ | ⟨v1, v3⟩
        · have hn := hstep (by omega)
          have HN : Hid (a * 16 + (v - 97 + 10) = ((acc * 16 + digV c.toNat : Nat) : Int) ∧ Spelt (bl t) (k + 1) (acc * 16 + digV c.toNat)) := Lib.hid ⟨by omega, hn⟩
          have e95 : ((c.toNat : Int) == 95) = false := by simp; omega
          clear hstep hbad hn v3 ha h95
          go_wp2_with (go_at_call 225; refine (CL.out _).mono ?_; rintro e w' ⟨rfl, rfl⟩)
          all_goals
            refine ⟨⟨k + 1, acc * 16 + digV c.toNat, a * 16 + (v - 97 + 10), rfl, (by first | rfl | (congr 1; omega)), (by first | rfl | (congr 1; omega)), by omega, HN⟩, by simp [intOf]; omega⟩
        · have hA := hbad v3
          subst hA
          have e95 : ((c.toNat : Int) == 95) = false := by simp; omega
          clear hstep hbad ha h95
          go_wp2_with (go_at_call 225; refine (CL.out _).mono ?_; rintro e w' ⟨rfl, rfl⟩)
          all_goals go_ret2
          all_goals exact ⟨rfl, rfl⟩
        · have hA := hbad v3
          subst hA
          have e95 : ((c.toNat : Int) == 95) = false := by simp; omega
          clear hstep hbad ha h95
          have p1 : decide (97 ≤ v) = false := decide_eq_false (by omega)
          go_wp2_with (go_at_call 225; refine (CL.out _).mono ?_; rintro e w' ⟨rfl, rfl⟩)
          all_goals go_ret2
          all_goals exact ⟨rfl, rfl⟩
        · have hA := hbad v3
          subst hA
          have p1 : decide (v ≤ 122) = false := decide_eq_false (by omega)
          clear hstep hbad ha
          by_cases c95 : c.toNat = 95
          · obtain rfl := h95 c95
            obtain rfl : c = 95 := UInt8.toNat_inj.1 c95
            clear h95
            go_wp2_with (go_at_call 225; refine (CL.out _).mono ?_; rintro e w' ⟨rfl, rfl⟩)
            all_goals go_ret2
            all_goals exact ⟨rfl, rfl⟩
          · have e95 : ((c.toNat : Int) == 95) = false := by simp; omega
            clear h95
            go_wp2_with (go_at_call 225; refine (CL.out _).mono ?_; rintro e w' ⟨rfl, rfl⟩)
            all_goals go_ret2
            all_goals exact ⟨rfl, rfl⟩
    · obtain rfl : k = t.size := by omega
      have hA : A = some acc := HA.out.trans (HK.out.done (by rw [HL.out]; exact Nat.le_refl _))
      subst hA
      subst ha
      clear HB
      go_wp2
      go_ret2
      exact ⟨rfl, rfl⟩

/-! ### what the package-level variables hold -/
def nameCells : Array Value := #[.string ⟨#[97, 109, 112]⟩, .int .u8 38, .bool true, .string ⟨#[108, 116]⟩, .int .u8 60, .bool true, .string ⟨#[103, 116]⟩, .int .u8 62, .bool true, .string ⟨#[113, 117, 111, 116]⟩, .int .u8 34, .bool true, .string ⟨#[97, 112, 111, 115]⟩, .int .u8 39, .bool false]
structure EntV (w : World) : Prop where
  names : ∃ t fr, w.heap[0]? = some (.cells nameCells t fr)
  base0 : w.cell? ⟨6, 0, none⟩ = some (.int .i64 10)
  base1 : w.cell? ⟨6, 1, none⟩ = some (.int .i64 16)
  syn : ∃ te pe, w.cell? ⟨9, 0, none⟩ = some (.iface te pe)
  maxl : MaxL w
theorem cell_below {w w' : World} {b o : Nat} {v : Value} (h : w.cell? ⟨b, o, none⟩ = some v) (hb : Below w.heap.size w w') : w'.cell? ⟨b, o, none⟩ = some v :=
  (hb.cell (World.block_lt_of_cell? _ _ h)).trans h
theorem EntV.below {w w' : World} (h : EntV w) (hb : Below w.heap.size w w') : EntV w' := by
  obtain ⟨⟨t, fr, h1⟩, h2, h3, ⟨te, pe, h4⟩, h5⟩ := h
  refine ⟨⟨t, fr, ?_⟩, cell_below h2 hb, cell_below h3 hb, ⟨te, pe, cell_below h4 hb⟩, h5.below hb⟩
  rw [hb.block _ (Array.getElem?_eq_some_iff.1 h1).1]; exact h1
/-! ### strconv.ParseUint -/
set_option maxHeartbeats 4000000 in
set_option maxRecDepth 100000 in
theorem pub_some (base : Int) (s : ByteArray) (n : Nat) (w : World)
    (C : Hid (Calls Tryz.prog 223 #[.string s, .int .i64 base, .int .i64 32] w fun e w' => e = .returned (.tuple #[.int .u64 n, .nilIface]) ∧ Below w.heap.size w w')) :
    Calls Tryz.prog 221 #[.string s, .int .i64 base, .int .i64 32] w fun e w' => e = .returned (.tuple #[.int .u64 n, .nilIface]) ∧ Below w.heap.size w w' := by
  go_enter Tryz.func221, Tryz.ntmps221
  go_wp2_with (go_at_call 223; refine C.out.mono ?_; rintro e w1 ⟨rfl, hb⟩)
  go_ret2
  exact ⟨rfl, hb⟩
set_option maxHeartbeats 4000000 in
set_option maxRecDepth 100000 in
theorem pub_none (base : Int) (s : ByteArray) (hs : s.size ≤ 8) (w : World) (HE : Hid (EntV w))
    (C : Hid (Calls Tryz.prog 223 #[.string s, .int .i64 base, .int .i64 32] w fun e w' => e = .returned (.tuple #[.int .u64 0, .iface 281 (.int .i64 2)]) ∧ Below w.heap.size w w')) :
    Calls Tryz.prog 221 #[.string s, .int .i64 base, .int .i64 32] w fun e w' => ∃ N : Nat, e = .returned (.tuple #[.int .u64 0, .iface 283 (.pointer (some ⟨N, 0, none⟩))]) ∧ Below w.heap.size w w' := by
  obtain ⟨te, pe, hv⟩ := HE.out.syn
  have HT : Hid (∀ w1, Below w.heap.size w w1 → Calls Tryz.prog 224 #[.string ⟨#[80, 97, 114, 115, 101, 85, 105, 110, 116]⟩, .string s, .int .i64 base, .int .i64 32, .iface 281 (.int .i64 2)] w1 fun e w' => ∃ N : Nat, e = .returned (.iface 283 (.pointer (some ⟨N, 0, none⟩))) ∧ Below w1.heap.size w1 w') := by
    have h := fun w1 (hb : Below w.heap.size w w1) => AnyPu.strconv_toError_syntax (P := Tryz.prog) (ρ := Tryz.laysPu14_ren) { Tryz.laysPu14 with } ⟨#[80, 97, 114, 115, 101, 85, 105, 110, 116]⟩ s base 32 (.iface te pe) w1 (by omega) (cell_below hv hb) (Or.inr ⟨te, pe, rfl⟩)
    exact Lib.hid fun w1 hb => (h w1 hb).mono fun e w' ⟨N, he, _, _, h4⟩ => ⟨N, he, h4⟩
  clear hv
  go_enter Tryz.func221, Tryz.ntmps221
  go_wp2_with (go_at_call 223; refine C.out.mono ?_; rintro e w1 ⟨rfl, hb⟩)
  refine (HT.out _ hb).mono ?_
  rintro e w2 ⟨N, rfl, hb2⟩
  have hb2' := hb.trans (hb2.mono hb.size)
  clear hb hb2
  go_wp2_with fail
  go_ret2
  exact ⟨N, rfl, hb2'⟩
/-- The two bases. -/
theorem internal_both (base : Nat) (hbase : base = 10 ∨ base = 16) (s : ByteArray) (hs : s.size ≤ 8) (w : World) :
    Calls Tryz.prog 223 #[.string s, .int .i64 base, .int .i64 32] w fun e w' => e = .returned (uintV (spellL base (bl s))) ∧ Below w.heap.size w w' := by
  rcases hbase with rfl | rfl
  · have h := Tryz.internal_strconv_ParseUint_10_at32 s (by omega) w
    have e : Lib.parseUintB 32 s.data.toList = endOf (spellL 10 (bl s)) := parseB_ten (bl s) (by rw [bl_size]; exact hs)
    rw [e] at h
    refine h.mono fun e w' ⟨he, hw⟩ => ⟨?_, ?_⟩
    · rw [he]; cases spellL 10 (bl s) <;> rfl
    · rcases hw with rfl | rfl
      · exact Below.refl _ _
      · exact Lib.bytesWorld_below _ _ _
  · by_cases h0 : s.size = 0
    · have hs0 : s = ⟨#[]⟩ := ByteArray.ext (Array.eq_empty_of_size_eq_zero h0)
      subst hs0
      refine (Tryz.internal_strconv_ParseUint_empty 16 32 w).mono fun e w' ⟨he, hw⟩ => ⟨?_, by subst hw; exact Below.refl _ _⟩
      rw [he]; rfl
    · have hne : bl s ≠ [] := fun h => h0 (by rw [← bl_size, h]; rfl)
      refine (pu16 s h0 hs w _ (Lib.hid rfl)).mono fun e w' ⟨he, hw⟩ => ⟨?_, by subst hw; exact Lib.bytesWorld_below _ _ _⟩
      rw [he]; unfold spellL; rw [if_neg hne]

set_option maxHeartbeats 4000000 in
set_option maxRecDepth 100000 in
/-- **entity.numbered, ten and sixteen.** -/
theorem enum0 (k base : Nat) (hk : (k = 0 ∧ base = 10) ∨ (k = 1 ∧ base = 16)) (s : ByteArray) (w : World) (HE : Hid (EntV w)) (A : Int) (HA : Hid (A = numL base (bl s))) :
    Calls Tryz.prog 217 #[.string s, .int .i64 k] w fun e w' => e = .returned (.int .i64 A) ∧ Below w.heap.size w w' := by
  by_cases h8 : 8 < s.size
  · have hA : A = 0 := by rw [HA.out]; unfold numL; rw [if_pos (by rw [bl_size]; exact h8)]
    subst hA
    have h8' : (8 : Int) < (s.size : Int) := by omega
    clear h8
    go_enter Tryz.func217, Tryz.ntmps217
    go_wp2
    go_ret
    exact ⟨rfl, Below.refl _ _⟩
  have hc : w.cell? ⟨6, k, none⟩ = some (.int .i64 base) := by
    rcases hk with ⟨rfl, rfl⟩ | ⟨rfl, rfl⟩
    · exact HE.out.base0
    · exact HE.out.base1
  have hk2 : (k : Int) < 2 := by omega
  have hA : A = match spellL base (bl s) with | some n => (if letB n = true then (n : Int) else 0) | none => 0 := by rw [HA.out]; unfold numL; rw [if_neg (by rw [bl_size]; exact h8)]; rfl
  have h8' : decide ((8 : Int) < (s.size : Int)) = false := decide_eq_false (by omega)
  have hI := internal_both base (by omega) s (by omega) w
  have hlt : ∀ n, spellL base (bl s) = some n → n ≤ 4294967295 := fun n h => spell_le base _ n (by omega) (by rw [bl_size]; omega) h
  cases hsp : spellL base (bl s) with
  | none =>
    rw [hsp] at hI hA
    simp only at hA
    subst hA
    have C := Lib.hid (pub_none base s (by omega) w HE (Lib.hid hI))
    clear hI hsp hlt h8 hk
    go_enter Tryz.func217, Tryz.ntmps217
    go_wp2_with (go_at_call 221; refine C.out.mono ?_; rintro e w1 ⟨N, rfl, hb⟩)
    go_ret
    exact ⟨rfl, hb⟩
  | some n =>
    rw [hsp] at hI hA
    simp only at hA
    have hn := hlt n hsp
    have C := Lib.hid (pub_some base s n w (Lib.hid hI))
    have CL := Lib.hid (fun w => cletter (n : Int) w)
    have hn' : (n : Int) ≤ 4294967295 := by omega
    clear hI hsp hlt h8 hk hn
    cases hl : letB (n : Int) with
    | true =>
      rw [hl] at CL hA
      rw [if_pos rfl] at hA
      subst hA
      clear hl
      go_enter Tryz.func217, Tryz.ntmps217
      go_wp2_with (first | (go_at_call 221; refine C.out.mono ?_; rintro e w1 ⟨rfl, hb⟩) | (go_at_call 137; refine (CL.out _).mono ?_; rintro e w2 ⟨rfl, rfl⟩))
      go_ret
      exact ⟨rfl, hb⟩
    | false =>
      rw [hl] at CL hA
      rw [if_neg (by decide)] at hA
      subst hA
      clear hl
      go_enter Tryz.func217, Tryz.ntmps217
      go_wp2_with (first | (go_at_call 221; refine C.out.mono ?_; rintro e w1 ⟨rfl, hb⟩) | (go_at_call 137; refine (CL.out _).mono ?_; rintro e w2 ⟨rfl, rfl⟩))
      go_ret
      exact ⟨rfl, hb⟩

end Go.Proofs.YtnlkpdodacphkaaGreatDoor
namespace Go.Proofs.YtnlkpdodacphkaaGreatDoor
open Go.RowKit
set_option maxRecDepth 100000

theorem enum10 (s : ByteArray) (w : World) (HE : Hid (EntV w)) :
    Calls Tryz.prog 217 #[.string s, .int .i64 0] w fun e w' => e = .returned (.int .i64 (numL 10 (bl s))) ∧ Below w.heap.size w w' :=
  enum0 0 10 (.inl ⟨rfl, rfl⟩) s w HE _ (Lib.hid rfl)
theorem enum16 (s : ByteArray) (w : World) (HE : Hid (EntV w)) :
    Calls Tryz.prog 217 #[.string s, .int .i64 1] w fun e w' => e = .returned (.int .i64 (numL 16 (bl s))) ∧ Below w.heap.size w w' :=
  enum0 1 16 (.inr ⟨rfl, rfl⟩) s w HE _ (Lib.hid rfl)
theorem prefix_two (l : List UInt8) (h : Lib.hasPrefix l [35, 120] = true) : ∃ r, l = 35 :: 120 :: r := by
  match l, h with
  | [], h => simp [Lib.hasPrefix, List.isPrefixOf] at h
  | [c], h => simp [Lib.hasPrefix, List.isPrefixOf] at h
  | c :: d :: r, h =>
    simp [Lib.hasPrefix, List.isPrefixOf] at h
    exact ⟨r, by rw [← h.1, ← h.2]⟩
theorem prefix_hash (l : List UInt8) (h : Lib.hasPrefix l [35] = true) : ∃ r, l = 35 :: r := by
  match l, h with
  | [], h => simp [Lib.hasPrefix, List.isPrefixOf] at h
  | c :: r, h =>
    simp [Lib.hasPrefix, List.isPrefixOf] at h
    exact ⟨r, by rw [← h]⟩
theorem tl_eq (k : Nat) (s : ByteArray) (h : bl s = nm k) : s.toList = nm k := by rw [Lib.toList_data]; exact h

theorem tl_ne (k : Nat) (s : ByteArray) (h : ¬ bl s = nm k) : (nm k == s.toList) = false := by
  rw [Lib.toList_data]
  exact beq_eq_false_iff_ne.2 fun e => h e.symm

set_option maxRecDepth 100000 in
set_option maxHeartbeats 4000000 in
/-- **entity.One at every string.** -/
theorem eone0 (s : ByteArray) (w : World) (HE : Hid (EntV w)) (A : Int) (HA : Hid (A = oneL (bl s))) :
    Calls Tryz.prog 208 #[.string s] w fun e w' => e = .returned (.int .i64 A) ∧ Below w.heap.size w w' := by
  have c1 := Tryz.strings_CutPrefix s ⟨#[35, 120]⟩ w
  have c2 := Tryz.strings_CutPrefix s ⟨#[35]⟩ w
  change Calls _ _ _ _ (fun e w' => e = .returned (.tuple #[.string ⟨(Lib.trimPrefix (bl s) [35, 120]).toArray⟩, .bool (Lib.hasPrefix (bl s) [35, 120])]) ∧ w' = w) at c1
  change Calls _ _ _ _ (fun e w' => e = .returned (.tuple #[.string ⟨(Lib.trimPrefix (bl s) [35]).toArray⟩, .bool (Lib.hasPrefix (bl s) [35])]) ∧ w' = w) at c2
  cases h1 : Lib.hasPrefix (bl s) [35, 120] with
  | true =>
    obtain ⟨r, hr⟩ := prefix_two _ h1
    have ht : Lib.trimPrefix (bl s) [35, 120] = r := by unfold Lib.trimPrefix; rw [if_pos h1, hr]; rfl
    rw [h1, ht] at c1
    have hA : A = numL 16 r := by rw [HA.out, hr]; rfl
    subst hA
    have C1 := Lib.hid c1
    have C2 := enum16 ⟨r.toArray⟩ w HE
    rw [show bl (⟨r.toArray⟩ : ByteArray) = r by simp [bl]] at C2
    have C2 := Lib.hid C2
    clear c1 c2 h1 hr ht HA
    generalize numL 16 r = A at C2
    go_enter Tryz.func208, Tryz.ntmps208
    go_wp2_with (first | (go_at_call 161; refine C1.out.mono ?_; rintro e w' ⟨rfl, rfl⟩) | (go_at_call 217; refine C2.out.mono ?_; rintro e w' ⟨rfl, hb⟩))
    go_ret
    exact ⟨rfl, hb⟩
  | false =>
    have ht : Lib.trimPrefix (bl s) [35, 120] = bl s := by unfold Lib.trimPrefix; rw [h1]; rfl
    rw [h1, ht] at c1
    cases h2 : Lib.hasPrefix (bl s) [35] with
    | true =>
      obtain ⟨r, hr⟩ := prefix_hash _ h2
      have ht2 : Lib.trimPrefix (bl s) [35] = r := by unfold Lib.trimPrefix; rw [if_pos h2, hr]; rfl
      rw [h2, ht2] at c2
      have hA : A = numL 10 r := by rw [HA.out, hr]; exact one_ten r (by rw [hr] at h1; exact h1)
      subst hA
      have C1 := Lib.hid c1
      have C2 := Lib.hid c2
      have C3 := enum10 ⟨r.toArray⟩ w HE
      rw [show bl (⟨r.toArray⟩ : ByteArray) = r by simp [bl]] at C3
      have C3 := Lib.hid C3
      clear c1 c2 h1 h2 hr ht ht2 HA
      generalize numL 10 r = A at C3
      go_enter Tryz.func208, Tryz.ntmps208
      go_wp2_with fail
      refine C1.out.mono ?_
      rintro e w' ⟨rfl, hw⟩
      obtain rfl := hw.symm
      clear hw
      go_wp2_with fail
      refine C2.out.mono ?_
      rintro e w' ⟨rfl, hw⟩
      obtain rfl := hw.symm
      clear hw
      go_wp2_with fail
      refine C3.out.mono ?_
      rintro e w1 ⟨rfl, hb⟩
      go_wp2_with fail
      go_ret
      exact ⟨rfl, hb⟩
    | false =>
      have ht2 : Lib.trimPrefix (bl s) [35] = bl s := by unfold Lib.trimPrefix; rw [h2]; rfl
      rw [h2, ht2] at c2
      have hA := HA.out
      rw [one_name (bl s) h2] at hA
      have HA := Lib.hid hA
      have C1 := Lib.hid c1
      have C2 := Lib.hid c2
      obtain ⟨tt, fr, hg⟩ := HE.out.names
      clear c1 c2 h1 h2 ht ht2 hA
      have i0 : ∀ w, (Instr.index 216 (.agg nameCells) (.int .i64 0)).run Tryz.prog w = .ok (.agg #[.string ⟨#[97, 109, 112]⟩, .int .u8 38, .bool true]) w := fun _ => by kernel_rfl
      have i1 : ∀ w, (Instr.index 216 (.agg nameCells) (.int .i64 1)).run Tryz.prog w = .ok (.agg #[.string ⟨#[108, 116]⟩, .int .u8 60, .bool true]) w := fun _ => by kernel_rfl
      have i2 : ∀ w, (Instr.index 216 (.agg nameCells) (.int .i64 2)).run Tryz.prog w = .ok (.agg #[.string ⟨#[103, 116]⟩, .int .u8 62, .bool true]) w := fun _ => by kernel_rfl
      have i3 : ∀ w, (Instr.index 216 (.agg nameCells) (.int .i64 3)).run Tryz.prog w = .ok (.agg #[.string ⟨#[113, 117, 111, 116]⟩, .int .u8 34, .bool true]) w := fun _ => by kernel_rfl
      have i4 : ∀ w, (Instr.index 216 (.agg nameCells) (.int .i64 4)).run Tryz.prog w = .ok (.agg #[.string ⟨#[97, 112, 111, 115]⟩, .int .u8 39, .bool false]) w := fun _ => by kernel_rfl
      go_enter Tryz.func208, Tryz.ntmps208
      go_wp2_with fail
      refine C1.out.mono ?_
      rintro e w' ⟨rfl, hw⟩
      obtain rfl := hw.symm
      clear hw
      go_wp2_with fail
      refine C2.out.mono ?_
      rintro e w' ⟨rfl, hw⟩
      obtain rfl := hw.symm
      clear hw
      go_wp2_with (refine wpList_load_row rfl 216 _ rfl 0 rfl tt _ fr _ hg Tryz.underlying216 rfl (by kernel_rfl) ?_)
      clear hg
      go_loopg [26] 5 (fun g i wr => ∃ k : Nat, g + k = 5 ∧ i = .int .i64 k ∧ Below w.heap.size w wr ∧ Hid (Misses (bl s) k))
      case atStart => exact ⟨0, rfl, rfl, Below.refl _ _, Lib.hid (Misses.start _)⟩
      case round =>
        obtain ⟨k, hg, rfl, hb, HK⟩ := hrel
        have hk : k = 0 ∨ k = 1 ∨ k = 2 ∨ k = 3 ∨ k = 4 ∨ k = 5 := by omega
        rcases hk with rfl | rfl | rfl | rfl | rfl | rfl
        · by_cases hn : bl s = nm 0
          · have hA := HA.out
            rw [hn, nameV_hit 0 (by omega)] at hA
            replace hA : A = 38 := hA
            subst hA
            have e1 : s.toList = [97, 109, 112] := tl_eq 0 s hn
            clear hn HA hg
            go_wp2
            go_ret
            exact ⟨rfl, hb.alloc hb.size _⟩
          · have HN := Lib.hid (HK.out.step hn)
            have e1 : ([97, 109, 112] == s.toList) = false := tl_ne 0 s hn
            clear hn
            go_wp2
            go_roundg 4
            case measure => omega
            case rel => exact ⟨1, by omega, by go_num, hb.alloc hb.size _, HN⟩
        · by_cases hn : bl s = nm 1
          · have hA := HA.out
            rw [hn, nameV_hit 1 (by omega)] at hA
            replace hA : A = 60 := hA
            subst hA
            have e1 : s.toList = [108, 116] := tl_eq 1 s hn
            clear hn HA hg
            go_wp2
            go_ret
            exact ⟨rfl, hb.alloc hb.size _⟩
          · have HN := Lib.hid (HK.out.step hn)
            have e1 : ([108, 116] == s.toList) = false := tl_ne 1 s hn
            clear hn
            go_wp2
            go_roundg 3
            case measure => omega
            case rel => exact ⟨2, by omega, by go_num, hb.alloc hb.size _, HN⟩
        · by_cases hn : bl s = nm 2
          · have hA := HA.out
            rw [hn, nameV_hit 2 (by omega)] at hA
            replace hA : A = 62 := hA
            subst hA
            have e1 : s.toList = [103, 116] := tl_eq 2 s hn
            clear hn HA hg
            go_wp2
            go_ret
            exact ⟨rfl, hb.alloc hb.size _⟩
          · have HN := Lib.hid (HK.out.step hn)
            have e1 : ([103, 116] == s.toList) = false := tl_ne 2 s hn
            clear hn
            go_wp2
            go_roundg 2
            case measure => omega
            case rel => exact ⟨3, by omega, by go_num, hb.alloc hb.size _, HN⟩
        · by_cases hn : bl s = nm 3
          · have hA := HA.out
            rw [hn, nameV_hit 3 (by omega)] at hA
            replace hA : A = 34 := hA
            subst hA
            have e1 : s.toList = [113, 117, 111, 116] := tl_eq 3 s hn
            clear hn HA hg
            go_wp2
            go_ret
            exact ⟨rfl, hb.alloc hb.size _⟩
          · have HN := Lib.hid (HK.out.step hn)
            have e1 : ([113, 117, 111, 116] == s.toList) = false := tl_ne 3 s hn
            clear hn
            go_wp2
            go_roundg 1
            case measure => omega
            case rel => exact ⟨4, by omega, by go_num, hb.alloc hb.size _, HN⟩
        · by_cases hn : bl s = nm 4
          · have hA := HA.out
            rw [hn, nameV_hit 4 (by omega)] at hA
            replace hA : A = 39 := hA
            subst hA
            have e1 : s.toList = [97, 112, 111, 115] := tl_eq 4 s hn
            clear hn HA hg
            go_wp2
            go_ret
            exact ⟨rfl, hb.alloc hb.size _⟩
          · have HN := Lib.hid (HK.out.step hn)
            have e1 : ([97, 112, 111, 115] == s.toList) = false := tl_ne 4 s hn
            clear hn
            go_wp2
            go_roundg 0
            case measure => omega
            case rel => exact ⟨5, by omega, by go_num, hb.alloc hb.size _, HN⟩
        · have hA : A = 0 := HA.out.trans HK.out.none
          subst hA
          clear HA hg
          go_wp2
          go_ret
          exact ⟨rfl, hb⟩
/-- **entity.One.** -/
theorem eone (s : ByteArray) (w : World) (HE : Hid (EntV w)) :
    Calls Tryz.prog 208 #[.string s] w fun e w' => e = .returned (.int .i64 (oneL (bl s))) ∧ Below w.heap.size w w' :=
  eone0 s w HE _ (Lib.hid rfl)

end Go.Proofs.YtnlkpdodacphkaaGreatDoor
namespace Go.Proofs.YtnlkpdodacphkaaGreatDoor
open Go.RowKit
set_option maxRecDepth 100000

/-- A builder that the call has made: what it holds. -/
def Bld (B b : Nat) (bs : List Value) (w : World) : Prop := Lib.IsBuilderF 70 5 B b bs w
theorem bld_below {B b : Nat} {bs : List Value} {w w' : World} (h : Bld B b bs w) (hb : Below w.heap.size w w') : Bld B b bs w' := by
  have key : ∀ p, Lib.BuilderAtF 70 5 B b p bs w → Lib.BuilderAtF 70 5 B b p bs w' := by
    rintro p ⟨hB, v, hbk, hown, hne⟩
    have old : ∀ (k : Nat) (o : Obj), w.heap[k]? = some o → w'.heap[k]? = some o := by
      intro k o h
      have hk : k < w.heap.size := (Array.getElem?_eq_some_iff.1 h).1
      rw [hb.block k hk]; exact h
    refine ⟨hB, v, old _ _ hbk, ⟨hown.1, ?_⟩, hne⟩
    rcases hown.2 with hn | ⟨g, cap, cur, fz, hv, hbg, hg, rest⟩
    · exact .inl hn
    · exact .inr ⟨g, cap, cur, fz, hv, hbg, old _ _ hg, rest⟩
  rcases h with h | h
  · exact .inl (key _ h)
  · exact .inr (key _ h)
theorem bld_new (w : World) (B : Nat) (hB : B ≤ w.heap.size) : Bld B w.heap.size [] (w.alloc (.cells #[.pointer none, .slice none 0 0] 70)) :=
  .inl ⟨hB, .slice none 0 0, heap_alloc_new w _, World.ownsRowF_nil _ _ _ _, by simp [Value.ownBlock]⟩
theorem bld_size : (Tryz.prog.info? 70).map (·.size) = some 2 := by kernel_rfl
theorem bld_lies : liesAt Tryz.prog Tryz.prog.depth 70 (2 / Tryz.prog.cellsOf 70) 0 70 1 = true := by kernel_rfl
theorem byte_info : (Tryz.prog.info? 5).map (fun i => (i.zero, i.size, i.bytes)) = some (some (.int .u8 0), 1, 1) := by kernel_rfl

set_option maxHeartbeats 1000000 in
set_option maxRecDepth 100000 in
theorem bcheck_used (b : Nat) (w : World) (h0 : w.cell? ⟨b, 0, none⟩ = some (.pointer (some ⟨b, 0, none⟩))) :
    Calls Tryz.prog 107 #[.pointer (some ⟨b, 0, none⟩)] w fun e w' => e = .returned (.tuple #[]) ∧ w' = w := by
  obtain ⟨j, hj, _⟩ := Option.map_eq_some_iff.1 bld_size
  go_enter Tryz.func107, Tryz.ntmps107
  go_wp2
  rw [Lib.run_neq_ptr_same w _ Tryz.underlying68 hj]
  go_wp2
  go_end0
  exact ⟨rfl, rfl⟩
set_option maxHeartbeats 1000000 in
set_option maxRecDepth 100000 in
theorem bcheck_fresh (b : Nat) (w : World) (h0 : w.cell? ⟨b, 0, none⟩ = some (.pointer none)) (hsh : w.shape? b = some (70, 2)) (hfz : w.frozen? ⟨b, 0, none⟩ = false) :
    Calls Tryz.prog 107 #[.pointer (some ⟨b, 0, none⟩)] w fun e w' => e = .returned (.tuple #[]) ∧ w' = w.setCell ⟨b, 0, none⟩ (.pointer (some ⟨b, 0, none⟩)) := by
  obtain ⟨j, hj, hjs⟩ := Option.map_eq_some_iff.1 bld_size
  go_enter Tryz.func107, Tryz.ntmps107
  go_wp2
  rw [Lib.run_to_unsafe w ⟨b, 0, none⟩ Tryz.underlying68 Tryz.underlying211 hj (by rw [hjs]; decide) hsh (Nat.zero_lt_succ 1)]
  simp only [Result.andThen]
  rw [Oper.upon_value]
  go_wp2
  rw [run_callFunc_extern Tryz.func134 (by kernel_rfl) (by kernel_rfl) (by kernel_rfl) (e := Extern.AbiNoEscape.same) (by kernel_rfl)]
  rw [Lib.run_noEscape]
  simp only [Result.andThen]
  rw [Oper.upon_value]
  go_wp2
  rw [Lib.run_from_unsafe w ⟨b, 0, none⟩ Tryz.underlying211 Tryz.underlying68 hj hsh bld_lies]
  simp only [Result.andThen]
  rw [Oper.upon_value]
  go_wp2
  go_end0
  exact ⟨rfl, rfl⟩
theorem bcheck (B b : Nat) (bs : List Value) (w : World) (h : Bld B b bs w) :
    Calls Tryz.prog 107 #[.pointer (some ⟨b, 0, none⟩)] w fun e w' => e = .returned (.tuple #[]) ∧ (Lib.BuilderAtF 70 5 B b (.pointer (some ⟨b, 0, none⟩)) bs w' ∧ Below B w w') := by
  rcases h with h | h
  · refine (bcheck_fresh b w h.cell0 h.shape h.frozen0).mono ?_
    rintro e w' ⟨rfl, rfl⟩
    exact ⟨rfl, h.used _, (Below.refl B w).setCell (p := ⟨b, 0, none⟩) h.1 _⟩
  · refine (bcheck_used b w h.cell0).mono ?_
    rintro e w' ⟨rfl, rfl⟩
    exact ⟨rfl, h, Below.refl B _⟩
theorem bld_lt {w : World} {b : Nat} {cs : Array Value} {t : TypeId} {z : Nat × Nat} (h : w.heap[b]? = some (.cells cs t z)) : b < w.heap.size := (Array.getElem?_eq_some_iff.1 h).1

set_option maxHeartbeats 2000000 in
set_option maxRecDepth 100000 in
/-- (*strings.Builder).WriteByte. -/
theorem bbyte (B b : Nat) (bs : List Value) (c : Int) (w : World) (h : Bld B b bs w) (hlen : bs.length + 1 ≤ 140737488355328) (hBw : B ≤ w.heap.size) :
    Calls Tryz.prog 110 #[.pointer (some ⟨b, 0, none⟩), .int .u8 c] w fun e w' => e = .returned .nilIface ∧ Bld B b (bs ++ [.int .u8 c]) w' ∧ Below B w w' := by
  obtain ⟨i0, hi, hz0, hz1, hz2⟩ := info_parts byte_info
  go_enter Tryz.func110, Tryz.ntmps110
  go_wp2_with (go_at_call 107; refine (bcheck B b bs _ h).mono ?_)
  rintro e w1 ⟨rfl, h1, hb1⟩
  obtain ⟨hB, v, hbk, hown, hne⟩ := h1
  have c0 : w1.cell? ⟨b, 0, none⟩ = some (.pointer (some ⟨b, 0, none⟩)) := by rw [Lib.cell_of_heap hbk]; rfl
  have c1 : w1.cell? ⟨b, 1, none⟩ = some v := by rw [Lib.cell_of_heap hbk]; rfl
  go_wp2_with (at_builtin; refine wpList_append_ownF _ rfl _ _ 58 rfl B 5 i0 (.int .u8 0) 1 1 Tryz.underlying58 hi hz0 hz1 hz2 rfl (by decide) _ _ _ rfl (hown.alloc _) ⟨w1.heap.size, 0, none⟩ 1 1 [.int .u8 c] rfl rfl ?c1 ?c2 ?c3 ?c4 ?c5 ?_)
  case c1 =>
    intro j u hj
    match j, hj with
    | 0, hj => simp at hj; subst hj; simp [Addr.add]
  case c2 => intro u hu; simp at hu; subst hu; rfl
  case c3 => unfold maxLen; omega
  case c4 => omega
  case c5 => have := hb1.size; simp; omega
  intro v' w2 hown' hgrow _
  have hlt := bld_lt hbk
  have hb2 : w2.heap[b]? = some (.cells #[.pointer (some ⟨b, 0, none⟩), v] 70 (0, 0)) := by
    rw [hgrow.block b (by simp; omega) (fun e => hne e.symm), Lib.alloc_old w1 _ b hlt]
    exact hbk
  have d0 : w2.cell? ⟨b, 0, none⟩ = some (.pointer (some ⟨b, 0, none⟩)) := by rw [Lib.cell_of_heap hb2]; rfl
  have d1 : w2.cell? ⟨b, 1, none⟩ = some v := by rw [Lib.cell_of_heap hb2]; rfl
  have f1 : w2.frozen? ⟨b, 1, none⟩ = false := Lib.frozen_of_heap hb2 1
  obtain ⟨g, cap, rfl⟩ : ∃ g cap, v' = .slice (some ⟨g, 0, none⟩) (bs.length + 1) cap := by
    rcases hown'.2 with ⟨_, h0⟩ | ⟨g, cap, cur, fz, hv, _⟩
    · omega
    · exact ⟨g, cap, hv⟩
  go_wp2
  go_ret
  refine ⟨rfl, .inr ?_, ?_⟩
  · exact Lib.BuilderAtF.put (T := 70) (e := 5) hB hb2 (bs' := bs ++ [.int .u8 c]) (by simpa using hown') (by decide)
  · exact ((hb1.alloc (by have := hb1.size; omega) _).grown hgrow (by have := hb1.size; simp; omega) (fun k hk => (hown.lt k hk).1)).setCell (p := ⟨b, 1, none⟩) hB _

set_option maxHeartbeats 2000000 in
set_option maxRecDepth 100000 in
/-- (*strings.Builder).WriteString. -/
theorem bstring (B b : Nat) (bs : List Value) (s : ByteArray) (w : World) (h : Bld B b bs w) (hlen : bs.length + s.size ≤ 140737488355328) (hBw : B ≤ w.heap.size) :
    Calls Tryz.prog 75 #[.pointer (some ⟨b, 0, none⟩), .string s] w fun e w' => e = .returned (.tuple #[.int .i64 s.size, .nilIface]) ∧ Bld B b (bs ++ Lib.strCells s) w' ∧ Below B w w' := by
  obtain ⟨i0, hi, hz0, hz1, hz2⟩ := info_parts byte_info
  go_enter Tryz.func75, Tryz.ntmps75
  go_wp2_with (go_at_call 107; refine (bcheck B b bs _ h).mono ?_)
  rintro e w1 ⟨rfl, h1, hb1⟩
  obtain ⟨hB, v, hbk, hown, hne⟩ := h1
  have c0 : w1.cell? ⟨b, 0, none⟩ = some (.pointer (some ⟨b, 0, none⟩)) := by rw [Lib.cell_of_heap hbk]; rfl
  have c1 : w1.cell? ⟨b, 1, none⟩ = some v := by rw [Lib.cell_of_heap hbk]; rfl
  go_wp2_with (at_builtin; refine Lib.wpList_append_own_stringF _ rfl _ _ 58 9 rfl B 5 i0 Tryz.underlying58 Tryz.underlying9 hi hz0 hz1 hz2 _ _ _ rfl hown s rfl ?c3 ?c4 ?c5 ?_)
  case c3 => unfold maxLen; omega
  case c4 => omega
  case c5 => have := hb1.size; omega
  intro v' w2 hown' hgrow _
  have hlt := bld_lt hbk
  have hb2 : w2.heap[b]? = some (.cells #[.pointer (some ⟨b, 0, none⟩), v] 70 (0, 0)) := by
    rw [hgrow.block b hlt (fun e => hne e.symm)]
    exact hbk
  have d0 : w2.cell? ⟨b, 0, none⟩ = some (.pointer (some ⟨b, 0, none⟩)) := by rw [Lib.cell_of_heap hb2]; rfl
  have d1 : w2.cell? ⟨b, 1, none⟩ = some v := by rw [Lib.cell_of_heap hb2]; rfl
  have f1 : w2.frozen? ⟨b, 1, none⟩ = false := Lib.frozen_of_heap hb2 1
  obtain ⟨ao, n', cap, rfl⟩ : ∃ ao n' cap, v' = .slice ao n' cap := by
    rcases hown'.2 with ⟨hv, _⟩ | ⟨g, cap, cur, fz, hv, _⟩
    · exact ⟨_, _, _, hv⟩
    · exact ⟨_, _, _, hv⟩
  go_wp2
  go_ret2
  refine ⟨rfl, .inr ?_, ?_⟩
  · exact Lib.BuilderAtF.put (T := 70) (e := 5) hB hb2 (bs' := bs ++ Lib.strCells s) (by simpa [Lib.strCells_length] using hown') (by decide)
  · exact (hb1.grown hgrow (by have := hb1.size; omega) (fun k hk => (hown.lt k hk).1)).setCell (p := ⟨b, 1, none⟩) hB _

set_option maxHeartbeats 4000000 in
set_option maxRecDepth 100000 in
/-- (*strings.Builder).WriteRune. -/
theorem brune (B b : Nat) (bs : List Value) (r : Int) (hr0 : -2147483648 ≤ r) (hr1 : r ≤ 2147483647) (w : World) (h : Bld B b bs w) (hlen : bs.length + 4 ≤ 140737488355328) (hBw : B ≤ w.heap.size) :
    Calls Tryz.prog 209 #[.pointer (some ⟨b, 0, none⟩), .int .i32 r] w fun e w' => e = .returned (.tuple #[.int .i64 (Lib.runeCells r).length, .nilIface]) ∧ Bld B b (bs ++ Lib.runeCells r) w' ∧ Below B w w' := by
  have hk4 := Lib.runeCells_le r
  have HR := Lib.hid (fun (v : Value) (w1 : World) (ho : w1.ownsRowF B 5 1 v bs.length bs) (hB1 : B ≤ w1.heap.size) => Tryz.utf8_AppendRune_row B v bs.length bs r hr0 hr1 w1 ho hlen hB1)
  go_enter Tryz.func209, Tryz.ntmps209
  go_wp2_with (go_at_call 107; refine (bcheck B b bs _ h).mono ?_)
  rintro e w1 ⟨rfl, h1, hb1⟩
  obtain ⟨hB, v, hbk, hown, hne⟩ := h1
  obtain ⟨ao, cap, rfl⟩ : ∃ ao cap, v = .slice ao bs.length cap := by
    rcases hown.2 with ⟨hv, h0⟩ | ⟨g, cap, cur, fz, hv, _⟩
    · exact ⟨none, 0, by rw [hv, h0]⟩
    · exact ⟨_, _, hv⟩
  have c0 : w1.cell? ⟨b, 0, none⟩ = some (.pointer (some ⟨b, 0, none⟩)) := by rw [Lib.cell_of_heap hbk]; rfl
  have c1 : w1.cell? ⟨b, 1, none⟩ = some (.slice ao bs.length cap) := by rw [Lib.cell_of_heap hbk]; rfl
  go_wp2_with (go_at_call 218; refine (HR.out _ _ hown (by have := hb1.size; omega)).mono ?_)
  rintro e w2 ⟨v', rfl, hown', o, hgrow⟩
  have hlt := bld_lt hbk
  have hb2 : w2.heap[b]? = some (.cells #[.pointer (some ⟨b, 0, none⟩), .slice ao bs.length cap] 70 (0, 0)) := by
    rw [hgrow.block b (by simp; omega) (fun e => hne e.symm), Lib.alloc_old w1 _ b hlt]
    exact hbk
  have d0 : w2.cell? ⟨b, 0, none⟩ = some (.pointer (some ⟨b, 0, none⟩)) := by rw [Lib.cell_of_heap hb2]; rfl
  have d1 : w2.cell? ⟨b, 1, none⟩ = some (.slice ao bs.length cap) := by rw [Lib.cell_of_heap hb2]; rfl
  have f1 : w2.frozen? ⟨b, 1, none⟩ = false := Lib.frozen_of_heap hb2 1
  obtain ⟨g, cap', rfl⟩ : ∃ g cap', v' = .slice (some ⟨g, 0, none⟩) (bs.length + (Lib.runeCells r).length) cap' := by
    rcases hown'.2 with ⟨_, h0⟩ | ⟨g, cap', cur, fz, hv, _⟩
    · omega
    · exact ⟨g, cap', hv⟩
  go_wp2
  go_ret2
  refine ⟨?_, .inr ?_, ?_⟩
  · have e : ((bs.length : Int) + ((Lib.runeCells r).length : Int) - (bs.length : Int)) = ((Lib.runeCells r).length : Int) := by omega
    simp [e]
  · exact Lib.BuilderAtF.put (T := 70) (e := 5) hB hb2 (bs' := bs ++ Lib.runeCells r) (by simpa using hown') (by decide)
  · exact ((hb1.alloc (by have := hb1.size; omega) _).grown hgrow (by have := hb1.size; simp; omega) (fun k hk => (hown.lt k hk).1)).setCell (p := ⟨b, 1, none⟩) hB _

/-! ### what a builder holds, as bytes -/
def Bl (B b : Nat) (l : List UInt8) (w : World) : Prop := Bld B b (Lib.byteCells l) w
theorem Bl.below {B b : Nat} {l : List UInt8} {w w' : World} (h : Bl B b l w) (hb : Below w.heap.size w w') : Bl B b l w' := bld_below h hb
theorem Bl.lt {B b : Nat} {l : List UInt8} {w : World} (h : Bl B b l w) : B ≤ w.heap.size := by
  have key : ∀ p, Lib.BuilderAtF 70 5 B b p (Lib.byteCells l) w → B ≤ w.heap.size := by
    rintro p ⟨hB, v, hbk, _⟩
    have := (Array.getElem?_eq_some_iff.1 hbk).1
    omega
  rcases h with h | h
  · exact key _ h
  · exact key _ h
theorem bl_new (w : World) : Bl w.heap.size w.heap.size [] (w.alloc (.cells #[.pointer none, .slice none 0 0] 70)) := bld_new w _ (Nat.le_refl _)
theorem cells_snoc (l : List UInt8) (c : UInt8) : Lib.byteCells (l ++ [c]) = Lib.byteCells l ++ [.int .u8 (c.toNat : Int)] := by unfold Lib.byteCells; simp
theorem cells_str (l : List UInt8) (s : ByteArray) : Lib.byteCells (l ++ s.data.toList) = Lib.byteCells l ++ Lib.strCells s := by unfold Lib.byteCells Lib.strCells; simp
theorem cells_len (l : List UInt8) : (Lib.byteCells l).length = l.length := by unfold Lib.byteCells; simp
theorem lbyte (B b : Nat) (l : List UInt8) (c : UInt8) (w : World) (h : Bl B b l w) (hlen : l.length + 1 ≤ 140737488355328) :
    Calls Tryz.prog 110 #[.pointer (some ⟨b, 0, none⟩), .int .u8 (c.toNat : Int)] w fun e w' => e = .returned .nilIface ∧ Bl B b (l ++ [c]) w' ∧ Below B w w' := by
  refine (bbyte B b _ (c.toNat : Int) w h (by rw [cells_len]; exact hlen) h.lt).mono fun e w' ⟨h1, h2, h3⟩ => ⟨h1, ?_, h3⟩
  unfold Bl; rw [cells_snoc]; exact h2
theorem lstring (B b : Nat) (l : List UInt8) (s : ByteArray) (w : World) (h : Bl B b l w) (hlen : l.length + s.size ≤ 140737488355328) :
    Calls Tryz.prog 75 #[.pointer (some ⟨b, 0, none⟩), .string s] w fun e w' => e = .returned (.tuple #[.int .i64 s.size, .nilIface]) ∧ Bl B b (l ++ s.data.toList) w' ∧ Below B w w' := by
  refine (bstring B b _ s w h (by rw [cells_len]; exact hlen) h.lt).mono fun e w' ⟨h1, h2, h3⟩ => ⟨h1, ?_, h3⟩
  unfold Bl; rw [cells_str]; exact h2
theorem one_cell {n : Nat} {x : Int} (hn : n < 256) (h : x = n) : Value.int .u8 x = Value.int .u8 ((UInt8.ofNat n).toNat : Int) := by rw [toNat_byte hn, h]
theorem rune_put (r : Int) (h : mayB r = true) : Lib.runeCells r = Lib.byteCells (put r) := by
  have h' := (mayB_iff r).1 h
  unfold Lib.runeCells Lib.byteCells
  by_cases h1 : r < 128
  · rw [Lib.encodeRuneZ_one (by omega) (by omega), put_f1 r (by omega)]
    simp only [List.map_cons, List.map_nil]
    rw [one_cell (n := r.toNat) (x := r) (by omega) (by omega)]
  by_cases h2 : r < 2048
  · rw [Lib.encodeRuneZ_two (by omega) (by omega), put_f2 r (by omega)]
    simp only [List.map_cons, List.map_nil]
    rw [one_cell (n := 192 + r.toNat / 64) (x := 192 + r / 64) (by omega) (by omega), one_cell (n := 128 + r.toNat % 64) (x := 128 + r % 64) (by omega) (by omega)]
  by_cases h3 : r < 65536
  · rw [Lib.encodeRuneZ_three (by omega), put_f3 r (by omega) (by omega)]
    simp only [List.map_cons, List.map_nil]
    rw [one_cell (n := 224 + r.toNat / 4096) (x := 224 + r / 4096) (by omega) (by omega), one_cell (n := 128 + r.toNat / 64 % 64) (x := 128 + r / 64 % 64) (by omega) (by omega), one_cell (n := 128 + r.toNat % 64) (x := 128 + r % 64) (by omega) (by omega)]
  · rw [Lib.encodeRuneZ_four (by omega) (by omega), put_f4 r (by omega)]
    simp only [List.map_cons, List.map_nil]
    rw [one_cell (n := 240 + r.toNat / 262144) (x := 240 + r / 262144) (by omega) (by omega), one_cell (n := 128 + r.toNat / 4096 % 64) (x := 128 + r / 4096 % 64) (by omega) (by omega), one_cell (n := 128 + r.toNat / 64 % 64) (x := 128 + r / 64 % 64) (by omega) (by omega), one_cell (n := 128 + r.toNat % 64) (x := 128 + r % 64) (by omega) (by omega)]
theorem lrune (B b : Nat) (l : List UInt8) (r : Int) (hr : mayB r = true) (w : World) (h : Bl B b l w) (hlen : l.length + 4 ≤ 140737488355328) :
    Calls Tryz.prog 209 #[.pointer (some ⟨b, 0, none⟩), .int .i32 r] w fun e w' => e = .returned (.tuple #[.int .i64 (put r).length, .nilIface]) ∧ Bl B b (l ++ put r) w' ∧ Below B w w' := by
  have hm := (mayB_iff r).1 hr
  refine (brune B b _ r (by omega) (by omega) w h (by rw [cells_len]; exact hlen) h.lt).mono fun e w' ⟨h1, h2, h3⟩ => ⟨?_, ?_, h3⟩
  · rw [h1, rune_put r hr, cells_len]
  · unfold Bl
    rw [rune_put r hr] at h2
    have e : Lib.byteCells (l ++ put r) = Lib.byteCells l ++ Lib.byteCells (put r) := by unfold Lib.byteCells; simp
    rw [e]; exact h2
theorem lout (B b : Nat) (l : List UInt8) (w : World) (h : Bl B b l w) :
    Calls Tryz.prog 31 #[.pointer (some ⟨b, 0, none⟩)] w fun e w' => e = .returned (.string ⟨l.toArray⟩) ∧ Below B w w' :=
  (Tryz.Builder_String_any_f B b l w h h.lt).mono fun _ _ ⟨h1, _, h3⟩ => ⟨h1, h3⟩

end Go.Proofs.YtnlkpdodacphkaaGreatDoor
