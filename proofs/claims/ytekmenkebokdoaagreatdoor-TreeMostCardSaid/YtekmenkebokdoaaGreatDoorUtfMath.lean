/-
  Letters as bytes, in plain mathematics: what the decoder says, what the document's way says, and that they agree. No program in this text.
-/
import Derived.Shelf.Unicode.DecodeSlow
namespace Go.Proofs.YtekmenkebokdoaaGreatDoor
open Go.Lib

/-- May a number be a letter's? -/
def mayB (r : Int) : Bool := decide ((0 ≤ r ∧ r < 55296) ∨ (57343 < r ∧ r ≤ 1114111))
/-- A letter's bytes, as numbers. -/
def putN (r : Int) : List Nat :=
  if r < 0 ∨ 1114111 < r ∨ (55296 ≤ r ∧ r ≤ 57343) then []
  else if r < 128 then [r.toNat]
  else if r < 2048 then [192 + r.toNat / 64, 128 + r.toNat % 64]
  else if r < 65536 then [224 + r.toNat / 4096, 128 + r.toNat / 64 % 64, 128 + r.toNat % 64]
  else [240 + r.toNat / 262144, 128 + r.toNat / 4096 % 64, 128 + r.toNat / 64 % 64, 128 + r.toNat % 64]
/-- A letter's bytes. -/
def put (r : Int) : List UInt8 := (putN r).map UInt8.ofNat

def cand1 (b0 : Nat) : Int := b0
def cand2 (b0 b1 : Nat) : Int := ((b0 : Int) - 192) * 64 + b1 - 128
def cand3 (b0 b1 b2 : Nat) : Int := ((b0 : Int) - 224) * 4096 + ((b1 : Int) - 128) * 64 + b2 - 128
def cand4 (b0 b1 b2 b3 : Nat) : Int := ((b0 : Int) - 240) * 262144 + ((b1 : Int) - 128) * 4096 + ((b2 : Int) - 128) * 64 + b3 - 128

theorem put1 (b0 : Nat) (h0 : b0 < 256) : putN (cand1 b0) = [b0] ↔ b0 < 128 := by
  unfold putN cand1
  repeat' split
  all_goals simp
  all_goals omega
theorem put2 (b0 b1 : Nat) (h0 : b0 < 256) (h1 : b1 < 256) : putN (cand2 b0 b1) = [b0, b1] ↔ (194 ≤ b0 ∧ b0 < 224) ∧ (128 ≤ b1 ∧ b1 < 192) := by
  unfold putN cand2
  repeat' split
  all_goals simp
  all_goals omega
set_option maxHeartbeats 2000000 in
theorem put3 (b0 b1 b2 : Nat) (h0 : b0 < 256) (h1 : b1 < 256) (h2 : b2 < 256) : putN (cand3 b0 b1 b2) = [b0, b1, b2] ↔
    (224 ≤ b0 ∧ b0 < 240) ∧ (128 ≤ b1 ∧ b1 < 192) ∧ (128 ≤ b2 ∧ b2 < 192) ∧ 2048 ≤ cand3 b0 b1 b2 ∧ (cand3 b0 b1 b2 < 55296 ∨ 57343 < cand3 b0 b1 b2) := by
  unfold putN
  generalize hc : cand3 b0 b1 b2 = c
  unfold cand3 at hc
  repeat' split
  all_goals simp
  all_goals omega
set_option maxHeartbeats 2000000 in
theorem put4 (b0 b1 b2 b3 : Nat) (h0 : b0 < 256) (h1 : b1 < 256) (h2 : b2 < 256) (h3 : b3 < 256) : putN (cand4 b0 b1 b2 b3) = [b0, b1, b2, b3] ↔
    (240 ≤ b0 ∧ b0 < 248) ∧ (128 ≤ b1 ∧ b1 < 192) ∧ (128 ≤ b2 ∧ b2 < 192) ∧ (128 ≤ b3 ∧ b3 < 192) ∧ 65536 ≤ cand4 b0 b1 b2 b3 ∧ cand4 b0 b1 b2 b3 ≤ 1114111 := by
  unfold putN
  generalize hc : cand4 b0 b1 b2 b3 = c
  unfold cand4 at hc
  repeat' split
  all_goals simp
  all_goals omega

/-- What is read: the document's way. -/
def refN (n b0 b1 b2 b3 : Nat) : Int × Int :=
  if 1 ≤ n ∧ putN (cand1 b0) = [b0] then (cand1 b0, 1)
  else if 2 ≤ n ∧ putN (cand2 b0 b1) = [b0, b1] then (cand2 b0 b1, 2)
  else if 3 ≤ n ∧ putN (cand3 b0 b1 b2) = [b0, b1, b2] then (cand3 b0 b1 b2, 3)
  else if 4 ≤ n ∧ putN (cand4 b0 b1 b2 b3) = [b0, b1, b2, b3] then (cand4 b0 b1 b2 b3, 4)
  else (0, 0)

/-- What the program makes of what the decoder says. -/
def okP (d : Nat × Nat) : Int × Int := if d.1 = 65533 ∧ d.2 = 1 then (0, 0) else ((d.1 : Int), (d.2 : Int))

set_option maxHeartbeats 8000000 in
theorem ref_eq (n b0 b1 b2 b3 : Nat) (hn : 1 ≤ n) (h0 : b0 < 256) (h1 : b1 < 256) (h2 : b2 < 256) (h3 : b3 < 256) :
    refN n b0 b1 b2 b3 = okP (decodeN n b0 b1 b2 b3) := by
  unfold refN
  simp only [put1 b0 h0, put2 b0 b1 h0 h1, put3 b0 b1 b2 h0 h1 h2, put4 b0 b1 b2 b3 h0 h1 h2 h3]
  have e1 : cand1 b0 = b0 := rfl
  have e2 : cand2 b0 b1 = ((b0 : Int) - 192) * 64 + b1 - 128 := rfl
  have e3 : cand3 b0 b1 b2 = ((b0 : Int) - 224) * 4096 + ((b1 : Int) - 128) * 64 + b2 - 128 := rfl
  have e4 : cand4 b0 b1 b2 b3 = ((b0 : Int) - 240) * 262144 + ((b1 : Int) - 128) * 4096 + ((b2 : Int) - 128) * 64 + b3 - 128 := rfl
  generalize cand1 b0 = c1 at *
  generalize cand2 b0 b1 = c2 at *
  generalize cand3 b0 b1 b2 = c3 at *
  generalize cand4 b0 b1 b2 b3 = c4 at *
  by_cases a1 : b0 < 128
  · rw [if_pos ⟨hn, a1⟩]
    have hd : decodeN n b0 b1 b2 b3 = (b0, 1) := by unfold decodeN; rw [if_pos a1]
    rw [hd]; unfold okP; rw [if_neg (by simp; omega)]; simp; omega
  rw [if_neg (by omega)]
  by_cases a2 : 2 ≤ n ∧ (194 ≤ b0 ∧ b0 < 224) ∧ (128 ≤ b1 ∧ b1 < 192)
  · rw [if_pos a2]
    have hd : decodeN n b0 b1 b2 b3 = (c2.toNat, 2) := by
      unfold decodeN
      rw [if_neg (by omega), if_pos (by omega), if_pos (by omega)]
      apply Prod.ext <;> simp only; omega
    rw [hd]; unfold okP; rw [if_neg (by simp)]; simp; omega
  rw [if_neg a2]
  by_cases a3 : 3 ≤ n ∧ (224 ≤ b0 ∧ b0 < 240) ∧ (128 ≤ b1 ∧ b1 < 192) ∧ (128 ≤ b2 ∧ b2 < 192) ∧ 2048 ≤ c3 ∧ (c3 < 55296 ∨ 57343 < c3)
  · rw [if_pos a3]
    have hd : decodeN n b0 b1 b2 b3 = (c3.toNat, 3) := by
      unfold decodeN
      rw [if_neg (by omega), if_neg (by omega), if_pos (by omega), if_pos (by omega)]
      apply Prod.ext <;> simp only; omega
    rw [hd]; unfold okP; rw [if_neg (by simp)]; simp; omega
  rw [if_neg a3]
  by_cases a4 : 4 ≤ n ∧ (240 ≤ b0 ∧ b0 < 248) ∧ (128 ≤ b1 ∧ b1 < 192) ∧ (128 ≤ b2 ∧ b2 < 192) ∧ (128 ≤ b3 ∧ b3 < 192) ∧ 65536 ≤ c4 ∧ c4 ≤ 1114111
  · rw [if_pos a4]
    have hd : decodeN n b0 b1 b2 b3 = (c4.toNat, 4) := by
      unfold decodeN
      rw [if_neg (by omega), if_neg (by omega), if_neg (by omega), if_pos (by omega), if_pos (by omega)]
      apply Prod.ext <;> simp only; omega
    rw [hd]; unfold okP; rw [if_neg (by simp)]; simp; omega
  rw [if_neg a4]
  have : decodeN n b0 b1 b2 b3 = (65533, 1) := by
    unfold decodeN
    repeat' split
    all_goals first | rfl | (exfalso; omega)
  rw [this]; simp [okP]

/-! ### over lists of bytes -/
def nth (l : List UInt8) (i : Nat) : Nat := (l.getD i 0).toNat
theorem nth_lt (l : List UInt8) (i : Nat) : nth l i < 256 := UInt8.toNat_lt _
/-- The letter that bytes begin with, and how many bytes it has. -/
def gl (l : List UInt8) : Int × Int := if l = [] then (0, 0) else okP (decodeN l.length (nth l 0) (nth l 1) (nth l 2) (nth l 3))
theorem gl_nil : gl [] = (0, 0) := by unfold gl; rw [if_pos rfl]
theorem gl_ref (l : List UInt8) (h : l ≠ []) : gl l = refN l.length (nth l 0) (nth l 1) (nth l 2) (nth l 3) := by
  unfold gl
  rw [if_neg h, ref_eq _ _ _ _ _ (by cases l <;> simp_all) (nth_lt _ _) (nth_lt _ _) (nth_lt _ _) (nth_lt _ _)]
theorem gl_pos (l : List UInt8) : 0 ≤ (gl l).2 ∧ (gl l).2 ≤ l.length ∧ (gl l).2 ≤ 4 ∧ ((gl l).2 = 0 → gl l = (0, 0)) := by
  by_cases h : l = []
  · subst h; rw [gl_nil]; simp
  · rw [gl_ref l h]
    unfold refN
    repeat' split
    all_goals simp
    all_goals omega
theorem get!_list (s : ByteArray) (i : Nat) : s.get! i = s.data.toList.getD i 0 := by
  cases s with
  | mk d =>
    show d[i]! = _
    by_cases h : i < d.size
    · rw [getElem!_pos d i h]; simp [List.getD, h]
    · rw [getElem!_neg d i h]; simp [List.getD, h]; rfl
theorem decodeGo_list (s : ByteArray) (h : s.data.toList ≠ []) :
    Lib.decodeGo s = decodeN s.data.toList.length (nth s.data.toList 0) (nth s.data.toList 1) (nth s.data.toList 2) (nth s.data.toList 3) := by
  have hs : s.size = s.data.toList.length := by show s.data.size = _; simp
  have h0 : s.size ≠ 0 := by rw [hs]; exact fun h' => h (List.eq_nil_of_length_eq_zero h')
  unfold Lib.decodeGo
  rw [if_neg h0, decode_at, get!_list, get!_list, get!_list, get!_list, hs]
  rfl
/-- What the decoder says, and what the program makes of it. -/
theorem gl_decodeGo (s : ByteArray) (h : s.data.toList ≠ []) : gl s.data.toList = okP (Lib.decodeGo s) := by
  unfold gl; rw [if_neg h, decodeGo_list s h]

/-! ### a letter's bytes are read as it -/
theorem put_len (r : Int) : (put r).length ≤ 4 := by
  unfold put putN
  repeat' split
  all_goals simp
theorem mayB_iff (r : Int) : mayB r = true ↔ (0 ≤ r ∧ r < 55296) ∨ (57343 < r ∧ r ≤ 1114111) := by unfold mayB; simp
theorem put_nil (r : Int) (h : mayB r = false) : put r = [] := by
  unfold mayB at h
  have h' := of_decide_eq_false h
  unfold put putN
  rw [if_pos (by omega)]; rfl
theorem put_pos (r : Int) (h : mayB r = true) : 1 ≤ (put r).length := by
  have h' := (mayB_iff r).1 h
  unfold put putN
  rw [if_neg (by omega)]
  repeat' split
  all_goals simp
theorem toNat_byte {n : Nat} (h : n < 256) : (UInt8.ofNat n).toNat = n := by
  simp [UInt8.toNat_ofNat']; omega
theorem gl_put (r : Int) (h : mayB r = true) (rest : List UInt8) : gl (put r ++ rest) = (r, ((put r).length : Int)) := by
  have h' := (mayB_iff r).1 h
  have hp := put_pos r h
  have hne : put r ++ rest ≠ [] := by
    intro hh
    rw [(List.append_eq_nil_iff.1 hh).1] at hp; simp at hp
  unfold gl
  rw [if_neg hne]
  clear hne hp
  unfold put putN
  rw [if_neg (by omega)]
  by_cases a1 : r < 128
  · rw [if_pos a1]
    simp only [List.map_cons, List.map_nil, List.cons_append, List.nil_append, nth, List.getD_cons_zero, List.length_cons, List.length_nil]
    rw [toNat_byte (by omega)]
    have hd : ∀ n b1 b2 b3 : Nat, decodeN n r.toNat b1 b2 b3 = (r.toNat, 1) := by
      intro n b1 b2 b3
      unfold decodeN
      rw [if_pos (by omega)]
    rw [hd]; unfold okP; rw [if_neg (by simp; omega)]; simp; omega
  rw [if_neg a1]
  by_cases a2 : r < 2048
  · rw [if_pos a2]
    simp only [List.map_cons, List.map_nil, List.cons_append, List.nil_append, nth, List.getD_cons_zero, List.getD_cons_succ, List.length_cons, List.length_nil]
    rw [toNat_byte (by omega), toNat_byte (by omega)]
    have hd : ∀ n b2 b3 : Nat, decodeN (n + 1 + 1) (192 + r.toNat / 64) (128 + r.toNat % 64) b2 b3 = (r.toNat, 2) := by
      intro n b2 b3
      unfold decodeN
      rw [if_neg (by omega), if_pos (by omega), if_pos (by omega)]
      apply Prod.ext <;> simp only; omega
    rw [hd]; unfold okP; rw [if_neg (by simp)]; simp; omega
  rw [if_neg a2]
  by_cases a3 : r < 65536
  · rw [if_pos a3]
    simp only [List.map_cons, List.map_nil, List.cons_append, List.nil_append, nth, List.getD_cons_zero, List.getD_cons_succ, List.length_cons, List.length_nil]
    rw [toNat_byte (by omega), toNat_byte (by omega), toNat_byte (by omega)]
    have hd : ∀ n b3 : Nat, decodeN (n + 1 + 1 + 1) (224 + r.toNat / 4096) (128 + r.toNat / 64 % 64) (128 + r.toNat % 64) b3 = (r.toNat, 3) := by
      intro n b3
      unfold decodeN
      rw [if_neg (by omega), if_neg (by omega), if_pos (by omega), if_pos (by omega)]
      apply Prod.ext <;> simp only; omega
    rw [hd]; unfold okP; rw [if_neg (by simp)]; simp; omega
  rw [if_neg a3]
  simp only [List.map_cons, List.map_nil, List.cons_append, List.nil_append, nth, List.getD_cons_zero, List.getD_cons_succ, List.length_cons, List.length_nil]
  rw [toNat_byte (by omega), toNat_byte (by omega), toNat_byte (by omega), toNat_byte (by omega)]
  have hd : ∀ n : Nat, decodeN (n + 1 + 1 + 1 + 1) (240 + r.toNat / 262144) (128 + r.toNat / 4096 % 64) (128 + r.toNat / 64 % 64) (128 + r.toNat % 64) = (r.toNat, 4) := by
    intro n
    unfold decodeN
    rw [if_neg (by omega), if_neg (by omega), if_neg (by omega), if_pos (by omega), if_pos (by omega)]
    apply Prod.ext <;> simp only; omega
  rw [hd]; unfold okP; rw [if_neg (by simp)]; simp; omega

/-! ### the model's own bytes of a letter -/
theorem put_f1 (r : Int) (h : 0 ≤ r ∧ r < 128) : put r = [UInt8.ofNat r.toNat] := by
  unfold put putN; rw [if_neg (by omega), if_pos (by omega)]; rfl
theorem put_f2 (r : Int) (h : 128 ≤ r ∧ r < 2048) : put r = [UInt8.ofNat (192 + r.toNat / 64), UInt8.ofNat (128 + r.toNat % 64)] := by
  unfold put putN; rw [if_neg (by omega), if_neg (by omega), if_pos (by omega)]; rfl
theorem put_f3 (r : Int) (h : 2048 ≤ r ∧ r < 65536) (h' : r < 55296 ∨ 57343 < r) : put r = [UInt8.ofNat (224 + r.toNat / 4096), UInt8.ofNat (128 + r.toNat / 64 % 64), UInt8.ofNat (128 + r.toNat % 64)] := by
  unfold put putN; rw [if_neg (by omega), if_neg (by omega), if_neg (by omega), if_pos (by omega)]; rfl
theorem put_f4 (r : Int) (h : 65536 ≤ r ∧ r ≤ 1114111) : put r = [UInt8.ofNat (240 + r.toNat / 262144), UInt8.ofNat (128 + r.toNat / 4096 % 64), UInt8.ofNat (128 + r.toNat / 64 % 64), UInt8.ofNat (128 + r.toNat % 64)] := by
  unfold put putN; rw [if_neg (by omega), if_neg (by omega), if_neg (by omega), if_neg (by omega)]; rfl
theorem encode_put (r : Int) (h : mayB r = true) : Utf8.encode r = ⟨(put r).toArray⟩ := by
  have h' := (mayB_iff r).1 h
  have hv : Utf8.valid r = true := by
    unfold Utf8.valid
    rcases h' with h' | h' <;> simp <;> omega
  by_cases a1 : r < 128
  · rw [put_f1 r (by omega)]; unfold Utf8.encode; simp only [hv, if_true]; rw [if_pos (by omega)]
  by_cases a2 : r < 2048
  · rw [put_f2 r (by omega)]; unfold Utf8.encode; simp only [hv, if_true]; rw [if_neg (by omega), if_pos (by omega)]
  by_cases a3 : r < 65536
  · rw [put_f3 r (by omega) (by omega)]; unfold Utf8.encode; simp only [hv, if_true]; rw [if_neg (by omega), if_neg (by omega), if_pos (by omega)]
  · rw [put_f4 r (by omega)]; unfold Utf8.encode; simp only [hv, if_true]; rw [if_neg (by omega), if_neg (by omega), if_neg (by omega)]

/-! ### try by try -/
theorem putN_lt (r : Int) : ∀ n ∈ putN r, n < 256 := by
  unfold putN
  repeat' split
  all_goals simp
  all_goals omega
theorem map_back : ∀ (l : List Nat), (∀ n ∈ l, n < 256) → (l.map UInt8.ofNat).map UInt8.toNat = l
  | [], _ => rfl
  | n :: r, h => by
    have ih := map_back r (fun m hm => h m (List.mem_cons_of_mem _ hm))
    simp only [List.map_cons, toNat_byte (h n List.mem_cons_self), ih]
theorem map_forth : ∀ (l : List UInt8), (l.map UInt8.toNat).map UInt8.ofNat = l
  | [] => rfl
  | c :: r => by simp only [List.map_cons, map_forth r, UInt8.ofNat_toNat]
theorem put_iff (r : Int) (l : List UInt8) : put r = l ↔ putN r = l.map UInt8.toNat := by
  constructor
  · intro h; rw [← h]; unfold put; rw [map_back _ (putN_lt r)]
  · intro h; unfold put; rw [h, map_forth]
theorem take1 (l : List UInt8) (h : 1 ≤ l.length) : (l.take 1).map UInt8.toNat = [nth l 0] := by
  match l, h with
  | a :: _, _ => rfl
theorem take2 (l : List UInt8) (h : 2 ≤ l.length) : (l.take 2).map UInt8.toNat = [nth l 0, nth l 1] := by
  match l, h with
  | a :: b :: _, _ => rfl
theorem take3 (l : List UInt8) (h : 3 ≤ l.length) : (l.take 3).map UInt8.toNat = [nth l 0, nth l 1, nth l 2] := by
  match l, h with
  | a :: b :: c :: _, _ => rfl
theorem take4 (l : List UInt8) (h : 4 ≤ l.length) : (l.take 4).map UInt8.toNat = [nth l 0, nth l 1, nth l 2, nth l 3] := by
  match l, h with
  | a :: b :: c :: d :: _, _ => rfl
/-- What the n-th try reads. -/
def candN (n : Nat) (l : List UInt8) : Int :=
  match n with
  | 1 => cand1 (nth l 0)
  | 2 => cand2 (nth l 0) (nth l 1)
  | 3 => cand3 (nth l 0) (nth l 1) (nth l 2)
  | _ => cand4 (nth l 0) (nth l 1) (nth l 2) (nth l 3)
/-- What is read from the n-th try on: f tries are left. -/
def refFrom : Nat → Nat → List UInt8 → Int × Int
  | 0, _, _ => (0, 0)
  | f + 1, n, l => if n ≤ l.length then (if put (candN n l) = l.take n then (candN n l, (n : Int)) else refFrom f (n + 1) l) else (0, 0)
theorem refFrom_out (f n : Nat) (l : List UInt8) (h : ¬ n ≤ l.length) : refFrom f n l = (0, 0) := by
  cases f with
  | zero => rfl
  | succ f => unfold refFrom; rw [if_neg h]
theorem refFrom_hit (f n : Nat) (l : List UInt8) (h : n ≤ l.length) (hh : put (candN n l) = l.take n) : refFrom (f + 1) n l = (candN n l, (n : Int)) := by
  unfold refFrom; rw [if_pos h, if_pos hh]
theorem refFrom_miss (f n : Nat) (l : List UInt8) (h : n ≤ l.length) (hh : ¬ put (candN n l) = l.take n) : refFrom (f + 1) n l = refFrom f (n + 1) l := by
  conv => lhs; unfold refFrom
  rw [if_pos h, if_neg hh]
theorem gl_from (l : List UInt8) : gl l = refFrom 4 1 l := by
  by_cases h : l = []
  · subst h; rw [gl_nil, refFrom_out _ _ _ (by simp)]
  have h1 : 1 ≤ l.length := by cases l <;> simp_all
  rw [gl_ref l h]
  unfold refN
  by_cases a1 : putN (cand1 (nth l 0)) = [nth l 0]
  · rw [if_pos ⟨h1, a1⟩, refFrom_hit _ _ _ h1 ((put_iff _ _).2 (by rw [take1 l h1]; exact a1))]; rfl
  rw [if_neg (fun h => a1 h.2), refFrom_miss _ _ _ h1 (fun hh => a1 (by rw [← take1 l h1]; exact (put_iff _ _).1 hh))]
  by_cases h2 : 2 ≤ l.length
  · by_cases a2 : putN (cand2 (nth l 0) (nth l 1)) = [nth l 0, nth l 1]
    · rw [if_pos ⟨h2, a2⟩, refFrom_hit _ _ _ h2 ((put_iff _ _).2 (by rw [take2 l h2]; exact a2))]; rfl
    rw [if_neg (fun h => a2 h.2), refFrom_miss _ _ _ h2 (fun hh => a2 (by rw [← take2 l h2]; exact (put_iff _ _).1 hh))]
    by_cases h3 : 3 ≤ l.length
    · by_cases a3 : putN (cand3 (nth l 0) (nth l 1) (nth l 2)) = [nth l 0, nth l 1, nth l 2]
      · rw [if_pos ⟨h3, a3⟩, refFrom_hit _ _ _ h3 ((put_iff _ _).2 (by rw [take3 l h3]; exact a3))]; rfl
      rw [if_neg (fun h => a3 h.2), refFrom_miss _ _ _ h3 (fun hh => a3 (by rw [← take3 l h3]; exact (put_iff _ _).1 hh))]
      by_cases h4 : 4 ≤ l.length
      · by_cases a4 : putN (cand4 (nth l 0) (nth l 1) (nth l 2) (nth l 3)) = [nth l 0, nth l 1, nth l 2, nth l 3]
        · rw [if_pos ⟨h4, a4⟩, refFrom_hit _ _ _ h4 ((put_iff _ _).2 (by rw [take4 l h4]; exact a4))]; rfl
        rw [if_neg (fun h => a4 h.2), refFrom_miss _ _ _ h4 (fun hh => a4 (by rw [← take4 l h4]; exact (put_iff _ _).1 hh))]; rfl
      · rw [if_neg (fun h => h4 h.1), refFrom_out _ _ _ h4]
    · rw [if_neg (fun h => h3 h.1), if_neg (fun h => h3 (by omega)), refFrom_out _ _ _ h3]
  · rw [if_neg (fun h => h2 h.1), if_neg (fun h => h2 (by omega)), if_neg (fun h => h2 (by omega)), refFrom_out _ _ _ h2]

/-! ### letter by letter -/
/-- How many letters bytes begin with, and where the last of them ends: with fuel. -/
def runF : Nat → List UInt8 → Nat × Nat
  | 0, _ => (0, 0)
  | f + 1, l => if (gl l).2 = 0 then (0, 0) else ((runF f (l.drop (gl l).2.toNat)).1 + 1, (runF f (l.drop (gl l).2.toNat)).2 + (gl l).2.toNat)
def runL (l : List UInt8) : Nat × Nat := runF l.length l
theorem runF_more : ∀ (f k : Nat) (l : List UInt8), l.length ≤ f → l.length ≤ k → runF f l = runF k l
  | 0, 0, _, _, _ => rfl
  | 0, k + 1, l, h, _ => by
    obtain rfl : l = [] := List.eq_nil_of_length_eq_zero (by omega)
    simp [runF, gl_nil]
  | f + 1, 0, l, _, h => by
    obtain rfl : l = [] := List.eq_nil_of_length_eq_zero (by omega)
    simp [runF, gl_nil]
  | f + 1, k + 1, l, h1, h2 => by
    have hp := gl_pos l
    unfold runF
    by_cases h0 : (gl l).2 = 0
    · rw [if_pos h0, if_pos h0]
    · have hd : (l.drop (gl l).2.toNat).length = l.length - (gl l).2.toNat := List.length_drop
      rw [if_neg h0, if_neg h0, runF_more f k _ (by omega) (by omega)]
theorem runL_stop (l : List UInt8) (h : (gl l).2 = 0) : runL l = (0, 0) := by
  unfold runL
  cases l with
  | nil => rfl
  | cons c t => show runF (t.length + 1) _ = _; unfold runF; rw [if_pos h]
theorem runL_step (l : List UInt8) (h : (gl l).2 ≠ 0) : runL l = ((runL (l.drop (gl l).2.toNat)).1 + 1, (runL (l.drop (gl l).2.toNat)).2 + (gl l).2.toNat) := by
  have hp := gl_pos l
  cases l with
  | nil => rw [gl_nil] at h; exact absurd rfl h
  | cons c t =>
    unfold runL
    show runF (t.length + 1) _ = _
    have hd : ((c :: t).drop (gl (c :: t)).2.toNat).length = (c :: t).length - (gl (c :: t)).2.toNat := List.length_drop
    have hl : (c :: t).length = t.length + 1 := rfl
    conv => lhs; unfold runF
    rw [if_neg h, runF_more t.length _ _ (by omega) (Nat.le_refl _)]
theorem runF_le : ∀ (f : Nat) (l : List UInt8), l.length ≤ f → (runF f l).1 ≤ (runF f l).2 ∧ (runF f l).2 ≤ l.length
  | 0, _, _ => by simp [runF]
  | f + 1, l, h => by
    have hp := gl_pos l
    unfold runF
    by_cases h0 : (gl l).2 = 0
    · rw [if_pos h0]; simp
    · have hd : (l.drop (gl l).2.toNat).length = l.length - (gl l).2.toNat := List.length_drop
      have := runF_le f (l.drop (gl l).2.toNat) (by omega)
      rw [if_neg h0]; simp only; omega
theorem runL_le (l : List UInt8) : (runL l).1 ≤ (runL l).2 ∧ (runL l).2 ≤ l.length := runF_le _ _ (Nat.le_refl _)
/-- One round of a loop that goes letter by letter: c letters, e bytes are behind it. -/
def Gone (l : List UInt8) (c e : Nat) : Prop := e ≤ l.length ∧ c ≤ e ∧ runL l = (c + (runL (l.drop e)).1, e + (runL (l.drop e)).2)
theorem Gone.start (l : List UInt8) : Gone l 0 0 := ⟨Nat.zero_le _, Nat.le_refl _, by simp⟩
theorem Gone.step {l : List UInt8} {c e : Nat} (h : Gone l c e) (hn : (gl (l.drop e)).2 ≠ 0) : Gone l (c + 1) (e + (gl (l.drop e)).2.toNat) := by
  obtain ⟨h1, h2, h3⟩ := h
  have hp := gl_pos (l.drop e)
  have hd : (l.drop e).length = l.length - e := List.length_drop
  refine ⟨by omega, by omega, ?_⟩
  rw [h3, runL_step _ hn, List.drop_drop]
  apply Prod.ext <;> simp only <;> omega
theorem Gone.stop {l : List UInt8} {c e : Nat} (h : Gone l c e) (hn : (gl (l.drop e)).2 = 0) : runL l = (c, e) := by
  rw [h.2.2, runL_stop _ hn]; rfl
theorem Gone.whole {l : List UInt8} {c e : Nat} (h : Gone l c e) (hn : l.length ≤ e) : runL l = (c, e) := by
  refine h.stop ?_
  rw [List.drop_eq_nil_of_le hn, gl_nil]
/-- The first place at which no letter begins. -/
def badL (l : List UInt8) : Int := if (runL l).2 < l.length then ((runL l).2 : Int) else -1

end Go.Proofs.YtekmenkebokdoaaGreatDoor
