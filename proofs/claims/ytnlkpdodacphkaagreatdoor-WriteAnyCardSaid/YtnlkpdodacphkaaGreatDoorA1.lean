/-
  Letters as bytes, in plain mathematics: what the decoder says, what the document's way says, and that they agree. No program in this text.
  What letters are, in plain mathematics: which may stand in a text, names, blanks, and parting by a colon. No program in this text.
  Letters that are written as names, in plain mathematics: which letter a name or a number stands for, texts that are opened and closed. No program in this text.
-/
import Derived.Shelf.Unicode.DecodeSlow
import Derived.Lib.SlTrimSet
import Derived.Lib.IndexMore
namespace Go.Proofs.YtnlkpdodacphkaaGreatDoor
open Go.Lib

/-- May a number be a letter's? -/
def mayB (r : Int) : Bool := decide ((0 ≤ r ∧ r < 55296) ∨ (57343 < r ∧ r ≤ 1114111))
/-- A letter's bytes, as numbers. -/
def putN (r : Int) : List Nat :=
  if r < 0 ∨ 1114111 < r ∨ (55296 ≤ r ∧ r ≤ 57343) then []
  else if r < 128 then [r.toNat]
  else if r < 2048 then [192 + r.toNat / 64, 128 + r.toNat % 64]
  else if r < 65536 then [224 + r.toNat / 4096, 128 + r.toNat / 64 % 64, 128 + r.toNat % 64]
  else [240 + r.toNat / 262144, 128 + r.toNat / 4096 % 64, 128 + r.toNat / 64 % 64, 128 + r.toNat % 64]
/-- A letter's bytes. -/
def put (r : Int) : List UInt8 := (putN r).map UInt8.ofNat

def cand1 (b0 : Nat) : Int := b0
def cand2 (b0 b1 : Nat) : Int := ((b0 : Int) - 192) * 64 + b1 - 128
def cand3 (b0 b1 b2 : Nat) : Int := ((b0 : Int) - 224) * 4096 + ((b1 : Int) - 128) * 64 + b2 - 128
def cand4 (b0 b1 b2 b3 : Nat) : Int := ((b0 : Int) - 240) * 262144 + ((b1 : Int) - 128) * 4096 + ((b2 : Int) - 128) * 64 + b3 - 128

theorem put1 (b0 : Nat) (h0 : b0 < 256) : putN (cand1 b0) = [b0] ↔ b0 < 128 := by
  unfold putN cand1
  repeat' split
  all_goals simp
  all_goals omega
theorem put2 (b0 b1 : Nat) (h0 : b0 < 256) (h1 : b1 < 256) : putN (cand2 b0 b1) = [b0, b1] ↔ (194 ≤ b0 ∧ b0 < 224) ∧ (128 ≤ b1 ∧ b1 < 192) := by
  unfold putN cand2
  repeat' split
  all_goals simp
  all_goals omega
set_option maxHeartbeats 2000000 in
theorem put3 (b0 b1 b2 : Nat) (h0 : b0 < 256) (h1 : b1 < 256) (h2 : b2 < 256) : putN (cand3 b0 b1 b2) = [b0, b1, b2] ↔
    (224 ≤ b0 ∧ b0 < 240) ∧ (128 ≤ b1 ∧ b1 < 192) ∧ (128 ≤ b2 ∧ b2 < 192) ∧ 2048 ≤ cand3 b0 b1 b2 ∧ (cand3 b0 b1 b2 < 55296 ∨ 57343 < cand3 b0 b1 b2) := by
  unfold putN
  generalize hc : cand3 b0 b1 b2 = c
  unfold cand3 at hc
  repeat' split
  all_goals simp
  all_goals omega
set_option maxHeartbeats 2000000 in
theorem put4 (b0 b1 b2 b3 : Nat) (h0 : b0 < 256) (h1 : b1 < 256) (h2 : b2 < 256) (h3 : b3 < 256) : putN (cand4 b0 b1 b2 b3) = [b0, b1, b2, b3] ↔
    (240 ≤ b0 ∧ b0 < 248) ∧ (128 ≤ b1 ∧ b1 < 192) ∧ (128 ≤ b2 ∧ b2 < 192) ∧ (128 ≤ b3 ∧ b3 < 192) ∧ 65536 ≤ cand4 b0 b1 b2 b3 ∧ cand4 b0 b1 b2 b3 ≤ 1114111 := by
  unfold putN
  generalize hc : cand4 b0 b1 b2 b3 = c
  unfold cand4 at hc
  repeat' split
  all_goals simp
  all_goals omega

/-- What is read: the document's way. -/
def refN (n b0 b1 b2 b3 : Nat) : Int × Int :=
  if 1 ≤ n ∧ putN (cand1 b0) = [b0] then (cand1 b0, 1)
  else if 2 ≤ n ∧ putN (cand2 b0 b1) = [b0, b1] then (cand2 b0 b1, 2)
  else if 3 ≤ n ∧ putN (cand3 b0 b1 b2) = [b0, b1, b2] then (cand3 b0 b1 b2, 3)
  else if 4 ≤ n ∧ putN (cand4 b0 b1 b2 b3) = [b0, b1, b2, b3] then (cand4 b0 b1 b2 b3, 4)
  else (0, 0)

/-- What the program makes of what the decoder says. -/
def okP (d : Nat × Nat) : Int × Int := if d.1 = 65533 ∧ d.2 = 1 then (0, 0) else ((d.1 : Int), (d.2 : Int))

set_option maxHeartbeats 8000000 in
theorem ref_eq (n b0 b1 b2 b3 : Nat) (hn : 1 ≤ n) (h0 : b0 < 256) (h1 : b1 < 256) (h2 : b2 < 256) (h3 : b3 < 256) :
    refN n b0 b1 b2 b3 = okP (decodeN n b0 b1 b2 b3) := by
  unfold refN
  simp only [put1 b0 h0, put2 b0 b1 h0 h1, put3 b0 b1 b2 h0 h1 h2, put4 b0 b1 b2 b3 h0 h1 h2 h3]
  have e1 : cand1 b0 = b0 := rfl
  have e2 : cand2 b0 b1 = ((b0 : Int) - 192) * 64 + b1 - 128 := rfl
  have e3 : cand3 b0 b1 b2 = ((b0 : Int) - 224) * 4096 + ((b1 : Int) - 128) * 64 + b2 - 128 := rfl
  have e4 : cand4 b0 b1 b2 b3 = ((b0 : Int) - 240) * 262144 + ((b1 : Int) - 128) * 4096 + ((b2 : Int) - 128) * 64 + b3 - 128 := rfl
  generalize cand1 b0 = c1 at *
  generalize cand2 b0 b1 = c2 at *
  generalize cand3 b0 b1 b2 = c3 at *
  generalize cand4 b0 b1 b2 b3 = c4 at *
  by_cases a1 : b0 < 128
  · rw [if_pos ⟨hn, a1⟩]
    have hd : decodeN n b0 b1 b2 b3 = (b0, 1) := by unfold decodeN; rw [if_pos a1]
    rw [hd]; unfold okP; rw [if_neg (by simp; omega)]; simp; omega
  rw [if_neg (by omega)]
  by_cases a2 : 2 ≤ n ∧ (194 ≤ b0 ∧ b0 < 224) ∧ (128 ≤ b1 ∧ b1 < 192)
  · rw [if_pos a2]
    have hd : decodeN n b0 b1 b2 b3 = (c2.toNat, 2) := by
      unfold decodeN
      rw [if_neg (by omega), if_pos (by omega), if_pos (by omega)]
      apply Prod.ext <;> simp only; omega
    rw [hd]; unfold okP; rw [if_neg (by simp)]; simp; omega
  rw [if_neg a2]
  by_cases a3 : 3 ≤ n ∧ (224 ≤ b0 ∧ b0 < 240) ∧ (128 ≤ b1 ∧ b1 < 192) ∧ (128 ≤ b2 ∧ b2 < 192) ∧ 2048 ≤ c3 ∧ (c3 < 55296 ∨ 57343 < c3)
  · rw [if_pos a3]
    have hd : decodeN n b0 b1 b2 b3 = (c3.toNat, 3) := by
      unfold decodeN
      rw [if_neg (by omega), if_neg (by omega), if_pos (by omega), if_pos (by omega)]
      apply Prod.ext <;> simp only; omega
    rw [hd]; unfold okP; rw [if_neg (by simp)]; simp; omega
  rw [if_neg a3]
  by_cases a4 : 4 ≤ n ∧ (240 ≤ b0 ∧ b0 < 248) ∧ (128 ≤ b1 ∧ b1 < 192) ∧ (128 ≤ b2 ∧ b2 < 192) ∧ (128 ≤ b3 ∧ b3 < 192) ∧ 65536 ≤ c4 ∧ c4 ≤ 1114111
  · rw [if_pos a4]
    have hd : decodeN n b0 b1 b2 b3 = (c4.toNat, 4) := by
      unfold decodeN
      rw [if_neg (by omega), if_neg (by omega), if_neg (by omega), if_pos (by omega), if_pos (by omega)]
      apply Prod.ext <;> simp only; omega
    rw [hd]; unfold okP; rw [if_neg (by simp)]; simp; omega
  rw [if_neg a4]
  have : decodeN n b0 b1 b2 b3 = (65533, 1) := by
    unfold decodeN
    repeat' split
    all_goals first | rfl | (exfalso; omega)
  rw [this]; simp [okP]

/-! ### over lists of bytes -/
def nth (l : List UInt8) (i : Nat) : Nat := (l.getD i 0).toNat
theorem nth_lt (l : List UInt8) (i : Nat) : nth l i < 256 := UInt8.toNat_lt _
/-- The letter that bytes begin with, and how many bytes it has. -/
def gl (l : List UInt8) : Int × Int := if l = [] then (0, 0) else okP (decodeN l.length (nth l 0) (nth l 1) (nth l 2) (nth l 3))
theorem gl_nil : gl [] = (0, 0) := by unfold gl; rw [if_pos rfl]
theorem gl_ref (l : List UInt8) (h : l ≠ []) : gl l = refN l.length (nth l 0) (nth l 1) (nth l 2) (nth l 3) := by
  unfold gl
  rw [if_neg h, ref_eq _ _ _ _ _ (by cases l <;> simp_all) (nth_lt _ _) (nth_lt _ _) (nth_lt _ _) (nth_lt _ _)]
theorem gl_pos (l : List UInt8) : 0 ≤ (gl l).2 ∧ (gl l).2 ≤ l.length ∧ (gl l).2 ≤ 4 ∧ ((gl l).2 = 0 → gl l = (0, 0)) := by
  by_cases h : l = []
  · subst h; rw [gl_nil]; simp
  · rw [gl_ref l h]
    unfold refN
    repeat' split
    all_goals simp
    all_goals omega
theorem get!_list (s : ByteArray) (i : Nat) : s.get! i = s.data.toList.getD i 0 := by
  cases s with
  | mk d =>
    show d[i]! = _
    by_cases h : i < d.size
    · rw [getElem!_pos d i h]; simp [List.getD, h]
    · rw [getElem!_neg d i h]; simp [List.getD, h]; rfl
theorem decodeGo_list (s : ByteArray) (h : s.data.toList ≠ []) :
    Lib.decodeGo s = decodeN s.data.toList.length (nth s.data.toList 0) (nth s.data.toList 1) (nth s.data.toList 2) (nth s.data.toList 3) := by
  have hs : s.size = s.data.toList.length := by show s.data.size = _; simp
  have h0 : s.size ≠ 0 := by rw [hs]; exact fun h' => h (List.eq_nil_of_length_eq_zero h')
  unfold Lib.decodeGo
  rw [if_neg h0, decode_at, get!_list, get!_list, get!_list, get!_list, hs]
  rfl
/-- What the decoder says, and what the program makes of it. -/
theorem gl_decodeGo (s : ByteArray) (h : s.data.toList ≠ []) : gl s.data.toList = okP (Lib.decodeGo s) := by
  unfold gl; rw [if_neg h, decodeGo_list s h]

/-! ### a letter's bytes are read as it -/
theorem put_len (r : Int) : (put r).length ≤ 4 := by
  unfold put putN
  repeat' split
  all_goals simp
theorem mayB_iff (r : Int) : mayB r = true ↔ (0 ≤ r ∧ r < 55296) ∨ (57343 < r ∧ r ≤ 1114111) := by unfold mayB; simp
theorem put_nil (r : Int) (h : mayB r = false) : put r = [] := by
  unfold mayB at h
  have h' := of_decide_eq_false h
  unfold put putN
  rw [if_pos (by omega)]; rfl
theorem put_pos (r : Int) (h : mayB r = true) : 1 ≤ (put r).length := by
  have h' := (mayB_iff r).1 h
  unfold put putN
  rw [if_neg (by omega)]
  repeat' split
  all_goals simp
theorem toNat_byte {n : Nat} (h : n < 256) : (UInt8.ofNat n).toNat = n := by
  simp [UInt8.toNat_ofNat']; omega
theorem gl_put (r : Int) (h : mayB r = true) (rest : List UInt8) : gl (put r ++ rest) = (r, ((put r).length : Int)) := by
  have h' := (mayB_iff r).1 h
  have hp := put_pos r h
  have hne : put r ++ rest ≠ [] := by
    intro hh
    rw [(List.append_eq_nil_iff.1 hh).1] at hp; simp at hp
  unfold gl
  rw [if_neg hne]
  clear hne hp
  unfold put putN
  rw [if_neg (by omega)]
  by_cases a1 : r < 128
  · rw [if_pos a1]
    simp only [List.map_cons, List.map_nil, List.cons_append, List.nil_append, nth, List.getD_cons_zero, List.length_cons, List.length_nil]
    rw [toNat_byte (by omega)]
    have hd : ∀ n b1 b2 b3 : Nat, decodeN n r.toNat b1 b2 b3 = (r.toNat, 1) := by
      intro n b1 b2 b3
      unfold decodeN
      rw [if_pos (by omega)]
    rw [hd]; unfold okP; rw [if_neg (by simp; omega)]; simp; omega
  rw [if_neg a1]
  by_cases a2 : r < 2048
  · rw [if_pos a2]
    simp only [List.map_cons, List.map_nil, List.cons_append, List.nil_append, nth, List.getD_cons_zero, List.getD_cons_succ, List.length_cons, List.length_nil]
    rw [toNat_byte (by omega), toNat_byte (by omega)]
    have hd : ∀ n b2 b3 : Nat, decodeN (n + 1 + 1) (192 + r.toNat / 64) (128 + r.toNat % 64) b2 b3 = (r.toNat, 2) := by
      intro n b2 b3
      unfold decodeN
      rw [if_neg (by omega), if_pos (by omega), if_pos (by omega)]
      apply Prod.ext <;> simp only; omega
    rw [hd]; unfold okP; rw [if_neg (by simp)]; simp; omega
  rw [if_neg a2]
  by_cases a3 : r < 65536
  · rw [if_pos a3]
    simp only [List.map_cons, List.map_nil, List.cons_append, List.nil_append, nth, List.getD_cons_zero, List.getD_cons_succ, List.length_cons, List.length_nil]
    rw [toNat_byte (by omega), toNat_byte (by omega), toNat_byte (by omega)]
    have hd : ∀ n b3 : Nat, decodeN (n + 1 + 1 + 1) (224 + r.toNat / 4096) (128 + r.toNat / 64 % 64) (128 + r.toNat % 64) b3 = (r.toNat, 3) := by
      intro n b3
      unfold decodeN
      rw [if_neg (by omega), if_neg (by omega), if_pos (by omega), if_pos (by omega)]
      apply Prod.ext <;> simp only; omega
    rw [hd]; unfold okP; rw [if_neg (by simp)]; simp; omega
  rw [if_neg a3]
  simp only [List.map_cons, List.map_nil, List.cons_append, List.nil_append, nth, List.getD_cons_zero, List.getD_cons_succ, List.length_cons, List.length_nil]
  rw [toNat_byte (by omega), toNat_byte (by omega), toNat_byte (by omega), toNat_byte (by omega)]
  have hd : ∀ n : Nat, decodeN (n + 1 + 1 + 1 + 1) (240 + r.toNat / 262144) (128 + r.toNat / 4096 % 64) (128 + r.toNat / 64 % 64) (128 + r.toNat % 64) = (r.toNat, 4) := by
    intro n
    unfold decodeN
    rw [if_neg (by omega), if_neg (by omega), if_neg (by omega), if_pos (by omega), if_pos (by omega)]
    apply Prod.ext <;> simp only; omega
  rw [hd]; unfold okP; rw [if_neg (by simp)]; simp; omega

/-! ### the model's own bytes of a letter -/
theorem put_f1 (r : Int) (h : 0 ≤ r ∧ r < 128) : put r = [UInt8.ofNat r.toNat] := by
  unfold put putN; rw [if_neg (by omega), if_pos (by omega)]; rfl
theorem put_f2 (r : Int) (h : 128 ≤ r ∧ r < 2048) : put r = [UInt8.ofNat (192 + r.toNat / 64), UInt8.ofNat (128 + r.toNat % 64)] := by
  unfold put putN; rw [if_neg (by omega), if_neg (by omega), if_pos (by omega)]; rfl
theorem put_f3 (r : Int) (h : 2048 ≤ r ∧ r < 65536) (h' : r < 55296 ∨ 57343 < r) : put r = [UInt8.ofNat (224 + r.toNat / 4096), UInt8.ofNat (128 + r.toNat / 64 % 64), UInt8.ofNat (128 + r.toNat % 64)] := by
  unfold put putN; rw [if_neg (by omega), if_neg (by omega), if_neg (by omega), if_pos (by omega)]; rfl
theorem put_f4 (r : Int) (h : 65536 ≤ r ∧ r ≤ 1114111) : put r = [UInt8.ofNat (240 + r.toNat / 262144), UInt8.ofNat (128 + r.toNat / 4096 % 64), UInt8.ofNat (128 + r.toNat / 64 % 64), UInt8.ofNat (128 + r.toNat % 64)] := by
  unfold put putN; rw [if_neg (by omega), if_neg (by omega), if_neg (by omega), if_neg (by omega)]; rfl
/-! ### try by try -/
theorem putN_lt (r : Int) : ∀ n ∈ putN r, n < 256 := by
  unfold putN
  repeat' split
  all_goals simp
  all_goals omega
theorem map_back : ∀ (l : List Nat), (∀ n ∈ l, n < 256) → (l.map UInt8.ofNat).map UInt8.toNat = l
  | [], _ => rfl
  | n :: r, h => by
    have ih := map_back r (fun m hm => h m (List.mem_cons_of_mem _ hm))
    simp only [List.map_cons, toNat_byte (h n List.mem_cons_self), ih]
theorem map_forth : ∀ (l : List UInt8), (l.map UInt8.toNat).map UInt8.ofNat = l
  | [] => rfl
  | c :: r => by simp only [List.map_cons, map_forth r, UInt8.ofNat_toNat]
theorem put_iff (r : Int) (l : List UInt8) : put r = l ↔ putN r = l.map UInt8.toNat := by
  constructor
  · intro h; rw [← h]; unfold put; rw [map_back _ (putN_lt r)]
  · intro h; unfold put; rw [h, map_forth]
theorem take1 (l : List UInt8) (h : 1 ≤ l.length) : (l.take 1).map UInt8.toNat = [nth l 0] := by
  match l, h with
  | a :: _, _ => rfl
theorem take2 (l : List UInt8) (h : 2 ≤ l.length) : (l.take 2).map UInt8.toNat = [nth l 0, nth l 1] := by
  match l, h with
  | a :: b :: _, _ => rfl
theorem take3 (l : List UInt8) (h : 3 ≤ l.length) : (l.take 3).map UInt8.toNat = [nth l 0, nth l 1, nth l 2] := by
  match l, h with
  | a :: b :: c :: _, _ => rfl
theorem take4 (l : List UInt8) (h : 4 ≤ l.length) : (l.take 4).map UInt8.toNat = [nth l 0, nth l 1, nth l 2, nth l 3] := by
  match l, h with
  | a :: b :: c :: d :: _, _ => rfl
/-- What the n-th try reads. -/
def candN (n : Nat) (l : List UInt8) : Int :=
  match n with
  | 1 => cand1 (nth l 0)
  | 2 => cand2 (nth l 0) (nth l 1)
  | 3 => cand3 (nth l 0) (nth l 1) (nth l 2)
  | _ => cand4 (nth l 0) (nth l 1) (nth l 2) (nth l 3)
/-- What is read from the n-th try on: f tries are left. -/
def refFrom : Nat → Nat → List UInt8 → Int × Int
  | 0, _, _ => (0, 0)
  | f + 1, n, l => if n ≤ l.length then (if put (candN n l) = l.take n then (candN n l, (n : Int)) else refFrom f (n + 1) l) else (0, 0)
theorem refFrom_out (f n : Nat) (l : List UInt8) (h : ¬ n ≤ l.length) : refFrom f n l = (0, 0) := by
  cases f with
  | zero => rfl
  | succ f => unfold refFrom; rw [if_neg h]
theorem refFrom_hit (f n : Nat) (l : List UInt8) (h : n ≤ l.length) (hh : put (candN n l) = l.take n) : refFrom (f + 1) n l = (candN n l, (n : Int)) := by
  unfold refFrom; rw [if_pos h, if_pos hh]
theorem refFrom_miss (f n : Nat) (l : List UInt8) (h : n ≤ l.length) (hh : ¬ put (candN n l) = l.take n) : refFrom (f + 1) n l = refFrom f (n + 1) l := by
  conv => lhs; unfold refFrom
  rw [if_pos h, if_neg hh]
theorem gl_from (l : List UInt8) : gl l = refFrom 4 1 l := by
  by_cases h : l = []
  · subst h; rw [gl_nil, refFrom_out _ _ _ (by simp)]
  have h1 : 1 ≤ l.length := by cases l <;> simp_all
  rw [gl_ref l h]
  unfold refN
  by_cases a1 : putN (cand1 (nth l 0)) = [nth l 0]
  · rw [if_pos ⟨h1, a1⟩, refFrom_hit _ _ _ h1 ((put_iff _ _).2 (by rw [take1 l h1]; exact a1))]; rfl
  rw [if_neg (fun h => a1 h.2), refFrom_miss _ _ _ h1 (fun hh => a1 (by rw [← take1 l h1]; exact (put_iff _ _).1 hh))]
  by_cases h2 : 2 ≤ l.length
  · by_cases a2 : putN (cand2 (nth l 0) (nth l 1)) = [nth l 0, nth l 1]
    · rw [if_pos ⟨h2, a2⟩, refFrom_hit _ _ _ h2 ((put_iff _ _).2 (by rw [take2 l h2]; exact a2))]; rfl
    rw [if_neg (fun h => a2 h.2), refFrom_miss _ _ _ h2 (fun hh => a2 (by rw [← take2 l h2]; exact (put_iff _ _).1 hh))]
    by_cases h3 : 3 ≤ l.length
    · by_cases a3 : putN (cand3 (nth l 0) (nth l 1) (nth l 2)) = [nth l 0, nth l 1, nth l 2]
      · rw [if_pos ⟨h3, a3⟩, refFrom_hit _ _ _ h3 ((put_iff _ _).2 (by rw [take3 l h3]; exact a3))]; rfl
      rw [if_neg (fun h => a3 h.2), refFrom_miss _ _ _ h3 (fun hh => a3 (by rw [← take3 l h3]; exact (put_iff _ _).1 hh))]
      by_cases h4 : 4 ≤ l.length
      · by_cases a4 : putN (cand4 (nth l 0) (nth l 1) (nth l 2) (nth l 3)) = [nth l 0, nth l 1, nth l 2, nth l 3]
        · rw [if_pos ⟨h4, a4⟩, refFrom_hit _ _ _ h4 ((put_iff _ _).2 (by rw [take4 l h4]; exact a4))]; rfl
        rw [if_neg (fun h => a4 h.2), refFrom_miss _ _ _ h4 (fun hh => a4 (by rw [← take4 l h4]; exact (put_iff _ _).1 hh))]; rfl
      · rw [if_neg (fun h => h4 h.1), refFrom_out _ _ _ h4]
    · rw [if_neg (fun h => h3 h.1), if_neg (fun h => h3 (by omega)), refFrom_out _ _ _ h3]
  · rw [if_neg (fun h => h2 h.1), if_neg (fun h => h2 (by omega)), if_neg (fun h => h2 (by omega)), refFrom_out _ _ _ h2]

/-! ### letter by letter -/
/-- How many letters bytes begin with, and where the last of them ends: with fuel. -/
def runF : Nat → List UInt8 → Nat × Nat
  | 0, _ => (0, 0)
  | f + 1, l => if (gl l).2 = 0 then (0, 0) else ((runF f (l.drop (gl l).2.toNat)).1 + 1, (runF f (l.drop (gl l).2.toNat)).2 + (gl l).2.toNat)
def runL (l : List UInt8) : Nat × Nat := runF l.length l
theorem runF_more : ∀ (f k : Nat) (l : List UInt8), l.length ≤ f → l.length ≤ k → runF f l = runF k l
  | 0, 0, _, _, _ => rfl
  | 0, k + 1, l, h, _ => by
    obtain rfl : l = [] := List.eq_nil_of_length_eq_zero (by omega)
    simp [runF, gl_nil]
  | f + 1, 0, l, _, h => by
    obtain rfl : l = [] := List.eq_nil_of_length_eq_zero (by omega)
    simp [runF, gl_nil]
  | f + 1, k + 1, l, h1, h2 => by
    have hp := gl_pos l
    unfold runF
    by_cases h0 : (gl l).2 = 0
    · rw [if_pos h0, if_pos h0]
    · have hd : (l.drop (gl l).2.toNat).length = l.length - (gl l).2.toNat := List.length_drop
      rw [if_neg h0, if_neg h0, runF_more f k _ (by omega) (by omega)]
theorem runL_stop (l : List UInt8) (h : (gl l).2 = 0) : runL l = (0, 0) := by
  unfold runL
  cases l with
  | nil => rfl
  | cons c t => show runF (t.length + 1) _ = _; unfold runF; rw [if_pos h]
theorem runL_step (l : List UInt8) (h : (gl l).2 ≠ 0) : runL l = ((runL (l.drop (gl l).2.toNat)).1 + 1, (runL (l.drop (gl l).2.toNat)).2 + (gl l).2.toNat) := by
  have hp := gl_pos l
  cases l with
  | nil => rw [gl_nil] at h; exact absurd rfl h
  | cons c t =>
    unfold runL
    show runF (t.length + 1) _ = _
    have hd : ((c :: t).drop (gl (c :: t)).2.toNat).length = (c :: t).length - (gl (c :: t)).2.toNat := List.length_drop
    have hl : (c :: t).length = t.length + 1 := rfl
    conv => lhs; unfold runF
    rw [if_neg h, runF_more t.length _ _ (by omega) (Nat.le_refl _)]
theorem runF_le : ∀ (f : Nat) (l : List UInt8), l.length ≤ f → (runF f l).1 ≤ (runF f l).2 ∧ (runF f l).2 ≤ l.length
  | 0, _, _ => by simp [runF]
  | f + 1, l, h => by
    have hp := gl_pos l
    unfold runF
    by_cases h0 : (gl l).2 = 0
    · rw [if_pos h0]; simp
    · have hd : (l.drop (gl l).2.toNat).length = l.length - (gl l).2.toNat := List.length_drop
      have := runF_le f (l.drop (gl l).2.toNat) (by omega)
      rw [if_neg h0]; simp only; omega
theorem runL_le (l : List UInt8) : (runL l).1 ≤ (runL l).2 ∧ (runL l).2 ≤ l.length := runF_le _ _ (Nat.le_refl _)
/-- One round of a loop that goes letter by letter: c letters, e bytes are behind it. -/
def Gone (l : List UInt8) (c e : Nat) : Prop := e ≤ l.length ∧ c ≤ e ∧ runL l = (c + (runL (l.drop e)).1, e + (runL (l.drop e)).2)
theorem Gone.start (l : List UInt8) : Gone l 0 0 := ⟨Nat.zero_le _, Nat.le_refl _, by simp⟩
theorem Gone.step {l : List UInt8} {c e : Nat} (h : Gone l c e) (hn : (gl (l.drop e)).2 ≠ 0) : Gone l (c + 1) (e + (gl (l.drop e)).2.toNat) := by
  obtain ⟨h1, h2, h3⟩ := h
  have hp := gl_pos (l.drop e)
  have hd : (l.drop e).length = l.length - e := List.length_drop
  refine ⟨by omega, by omega, ?_⟩
  rw [h3, runL_step _ hn, List.drop_drop]
  apply Prod.ext <;> simp only <;> omega
theorem Gone.stop {l : List UInt8} {c e : Nat} (h : Gone l c e) (hn : (gl (l.drop e)).2 = 0) : runL l = (c, e) := by
  rw [h.2.2, runL_stop _ hn]; rfl
theorem Gone.whole {l : List UInt8} {c e : Nat} (h : Gone l c e) (hn : l.length ≤ e) : runL l = (c, e) := by
  refine h.stop ?_
  rw [List.drop_eq_nil_of_le hn, gl_nil]
/-- The first place at which no letter begins. -/
def badL (l : List UInt8) : Int := if (runL l).2 < l.length then ((runL l).2 : Int) else -1

end Go.Proofs.YtnlkpdodacphkaaGreatDoor

namespace Go.Proofs.YtnlkpdodacphkaaGreatDoor
open Go.Lib

/-- May a letter stand in a text? -/
def letB (r : Int) : Bool := decide (r = 9 ∨ r = 10 ∨ r = 13 ∨ (32 ≤ r ∧ r ≠ 65534 ∧ r ≠ 65535 ∧ (r < 55296 ∨ (57343 < r ∧ r ≤ 1114111))))
theorem letB_iff (r : Int) : letB r = true ↔ (r = 9 ∨ r = 10 ∨ r = 13 ∨ (32 ≤ r ∧ r ≠ 65534 ∧ r ≠ 65535 ∧ (r < 55296 ∨ (57343 < r ∧ r ≤ 1114111)))) := by unfold letB; exact decide_eq_true_iff
theorem letB_not (r : Int) : letB r = false ↔ ¬ (r = 9 ∨ r = 10 ∨ r = 13 ∨ (32 ≤ r ∧ r ≠ 65534 ∧ r ≠ 65535 ∧ (r < 55296 ∨ (57343 < r ∧ r ≤ 1114111)))) := by unfold letB; exact decide_eq_false_iff_not
/-- May a name begin so? May it go on so? -/
def startB (c : Int) : Bool := decide ((97 ≤ c ∧ c ≤ 122) ∨ (65 ≤ c ∧ c ≤ 90) ∨ c = 95 ∨ 128 ≤ c)
def partB (c : Int) : Bool := decide ((97 ≤ c ∧ c ≤ 122) ∨ (65 ≤ c ∧ c ≤ 90) ∨ c = 95 ∨ 128 ≤ c ∨ (48 ≤ c ∧ c ≤ 57) ∨ c = 45 ∨ c = 46)
def blankB (c : Int) : Bool := decide (c = 32 ∨ c = 9 ∨ c = 10 ∨ c = 13)
theorem start_part {c : Int} (h : startB c = true) : partB c = true := by
  unfold startB at h; unfold partB; have := of_decide_eq_true h; exact decide_eq_true (by omega)
/-- The letter that is read may be one. -/
theorem gl_may (l : List UInt8) (h : (gl l).2 ≠ 0) : mayB (gl l).1 = true := by
  have hl : l ≠ [] := by intro e; subst e; rw [gl_nil] at h; exact h rfl
  have key : ∀ c : Int, ∀ x : Nat, ∀ r : List Nat, putN c = x :: r → mayB c = true := by
    intro c x r hc
    unfold putN at hc
    unfold mayB
    apply decide_eq_true
    by_cases h0 : c < 0 ∨ 1114111 < c ∨ (55296 ≤ c ∧ c ≤ 57343)
    · rw [if_pos h0] at hc; cases hc
    · omega
  rw [gl_ref l hl] at h ⊢
  unfold refN at h ⊢
  by_cases a1 : 1 ≤ l.length ∧ putN (cand1 (nth l 0)) = [nth l 0]
  · rw [if_pos a1]; exact key _ _ _ a1.2
  rw [if_neg a1] at h ⊢
  by_cases a2 : 2 ≤ l.length ∧ putN (cand2 (nth l 0) (nth l 1)) = [nth l 0, nth l 1]
  · rw [if_pos a2]; exact key _ _ _ a2.2
  rw [if_neg a2] at h ⊢
  by_cases a3 : 3 ≤ l.length ∧ putN (cand3 (nth l 0) (nth l 1) (nth l 2)) = [nth l 0, nth l 1, nth l 2]
  · rw [if_pos a3]; exact key _ _ _ a3.2
  rw [if_neg a3] at h ⊢
  by_cases a4 : 4 ≤ l.length ∧ putN (cand4 (nth l 0) (nth l 1) (nth l 2) (nth l 3)) = [nth l 0, nth l 1, nth l 2, nth l 3]
  · rw [if_pos a4]; exact key _ _ _ a4.2
  rw [if_neg a4] at h
  exact absurd rfl h
theorem let_pos (l : List UInt8) (h : letB (gl l).1 = true) : 1 ≤ (gl l).2 := by
  have hp := gl_pos l
  by_cases h0 : (gl l).2 = 0
  · rw [hp.2.2.2 h0] at h; exact absurd h (by decide)
  · omega

/-! ### the first place of a letter that may not stand in a text -/
def stopF : Nat → List UInt8 → Nat
  | 0, _ => 0
  | f + 1, l => if letB (gl l).1 = true then stopF f (l.drop (gl l).2.toNat) + (gl l).2.toNat else 0
def stopL (l : List UInt8) : Nat := stopF l.length l
def textL (l : List UInt8) : Int := if stopL l < l.length then (stopL l : Int) else -1
theorem stopF_more : ∀ (f k : Nat) (l : List UInt8), l.length ≤ f → l.length ≤ k → stopF f l = stopF k l
  | 0, 0, _, _, _ => rfl
  | 0, k + 1, l, h, _ => by
    obtain rfl : l = [] := List.eq_nil_of_length_eq_zero (by omega)
    rfl
  | f + 1, 0, l, _, h => by
    obtain rfl : l = [] := List.eq_nil_of_length_eq_zero (by omega)
    rfl
  | f + 1, k + 1, l, h1, h2 => by
    unfold stopF
    by_cases h0 : letB (gl l).1 = true
    · have hp := let_pos l h0
      have hp' := gl_pos l
      have hd : (l.drop (gl l).2.toNat).length = l.length - (gl l).2.toNat := List.length_drop
      rw [if_pos h0, if_pos h0, stopF_more f k _ (by omega) (by omega)]
    · rw [if_neg h0, if_neg h0]
theorem stopL_stop (l : List UInt8) (h : letB (gl l).1 = false) : stopL l = 0 := by
  unfold stopL
  cases l with
  | nil => rfl
  | cons c t => show stopF (t.length + 1) _ = _; unfold stopF; rw [if_neg (by rw [h]; decide)]
theorem stopL_step (l : List UInt8) (h : letB (gl l).1 = true) : stopL l = stopL (l.drop (gl l).2.toNat) + (gl l).2.toNat := by
  have hp := let_pos l h
  have hp' := gl_pos l
  cases l with
  | nil => rw [gl_nil] at hp; exact absurd hp (by decide)
  | cons c t =>
    unfold stopL
    show stopF (t.length + 1) _ = _
    have hd : ((c :: t).drop (gl (c :: t)).2.toNat).length = (c :: t).length - (gl (c :: t)).2.toNat := List.length_drop
    have hl : (c :: t).length = t.length + 1 := rfl
    conv => lhs; unfold stopF
    rw [if_pos h, stopF_more t.length _ _ (by omega) (Nat.le_refl _)]
/-- e bytes are behind the loop: they are letters that may stand there. -/
def Went (l : List UInt8) (e : Nat) : Prop := e ≤ l.length ∧ stopL l = e + stopL (l.drop e)
theorem Went.start (l : List UInt8) : Went l 0 := ⟨Nat.zero_le _, by simp⟩
theorem Went.step {l : List UInt8} {e : Nat} (h : Went l e) (hn : letB (gl (l.drop e)).1 = true) : Went l (e + (gl (l.drop e)).2.toNat) := by
  obtain ⟨h1, h3⟩ := h
  have hp := gl_pos (l.drop e)
  have hd : (l.drop e).length = l.length - e := List.length_drop
  refine ⟨by omega, ?_⟩
  rw [h3, stopL_step _ hn, List.drop_drop]
  omega
theorem Went.stop {l : List UInt8} {e : Nat} (h : Went l e) (hn : letB (gl (l.drop e)).1 = false) (he : e < l.length) : textL l = e := by
  unfold textL
  have : stopL l = e := by rw [h.2, stopL_stop _ hn]; rfl
  rw [this, if_pos he]
theorem Went.whole {l : List UInt8} {e : Nat} (h : Went l e) (hn : l.length ≤ e) : textL l = -1 := by
  unfold textL
  rw [if_neg (by rw [h.2]; omega)]
theorem textL_put (r : Int) (h : mayB r = true) : textL (put r) < 0 ↔ letB r = true := by
  have hg : gl (put r) = (r, ((put r).length : Int)) := by have := gl_put r h []; rw [List.append_nil] at this; exact this
  have hp := put_pos r h
  cases hl : letB r with
  | true =>
    have hw : Went (put r) (0 + (gl ((put r).drop 0)).2.toNat) := (Went.start _).step (by rw [List.drop_zero, hg]; exact hl)
    rw [hw.whole (by rw [List.drop_zero, hg]; simp)]
    simp
  | false =>
    rw [(Went.start (put r)).stop (by rw [List.drop_zero, hg]; exact hl) (by omega)]
    simp

/-! ### names -/
def nameL (l : List UInt8) : Bool := decide (l ≠ [] ∧ l.length ≤ 60 ∧ startB (nth l 0) = true ∧ (∀ c ∈ l, partB (c.toNat : Int) = true) ∧ badL l < 0)
/-- The bytes ahead of place k are parts. -/
def Parts (l : List UInt8) (k : Nat) : Prop := ∀ j, j < k → j < l.length → partB (nth l j : Int) = true
theorem Parts.start (l : List UInt8) : Parts l 0 := fun j h => by omega
theorem Parts.step {l : List UInt8} {k : Nat} (h : Parts l k) (hc : partB (nth l k : Int) = true) : Parts l (k + 1) := by
  intro j hj hl
  by_cases e : j = k
  · subst e; exact hc
  · exact h j (by omega) hl
theorem nth_mem (l : List UInt8) (k : Nat) (h : k < l.length) : ∃ c ∈ l, c.toNat = nth l k := by
  refine ⟨l[k], List.getElem_mem h, ?_⟩
  unfold nth; simp [List.getD, h]
theorem Parts.all {l : List UInt8} (h : Parts l l.length) : ∀ c ∈ l, partB (c.toNat : Int) = true := by
  intro c hc
  obtain ⟨k, hk, rfl⟩ := List.mem_iff_getElem.1 hc
  have := h k hk hk
  unfold nth at this
  simpa [List.getD, hk] using this
theorem name_none (l : List UInt8) (h : l.length = 0 ∨ 60 < l.length ∨ startB (nth l 0) = false ∨ 0 ≤ badL l) : nameL l = false := by
  unfold nameL
  apply decide_eq_false
  rintro ⟨h1, h2, h3, _, h5⟩
  rcases h with h | h | h | h
  · exact h1 (List.eq_nil_of_length_eq_zero h)
  · omega
  · rw [h] at h3; cases h3
  · omega
theorem name_bad (l : List UInt8) (k : Nat) (hk : k < l.length) (h : partB (nth l k : Int) = false) : nameL l = false := by
  unfold nameL
  apply decide_eq_false
  rintro ⟨_, _, _, h4, _⟩
  obtain ⟨c, hc, he⟩ := nth_mem l k hk
  have := h4 c hc
  rw [he, h] at this; cases this
theorem name_yes (l : List UInt8) (h0 : l.length ≠ 0) (h1 : l.length ≤ 60) (h2 : startB (nth l 0) = true) (h3 : Parts l l.length) : nameL l = decide (badL l < 0) := by
  unfold nameL
  have h0' : l ≠ [] := fun e => h0 (by rw [e]; rfl)
  by_cases hb : badL l < 0
  · rw [decide_eq_true hb]; exact decide_eq_true ⟨h0', h1, h2, h3.all, hb⟩
  · rw [decide_eq_false hb]; exact decide_eq_false fun h => hb h.2.2.2.2

/-! ### blanks -/
def blanks : List UInt8 := [32, 9, 10, 13]
def trimL (l : List UInt8) : List UInt8 := trimS l blanks
theorem blank_byte (c : UInt8) : blanks.contains c = blankB (c.toNat : Int) := by
  have : ∀ n : Fin 256, blanks.contains (UInt8.ofNat n.val) = blankB ((UInt8.ofNat n.val).toNat : Int) := by decide +kernel
  have h := this ⟨c.toNat, UInt8.toNat_lt c⟩
  simpa using h
theorem blank_at (l : List UInt8) (k : Nat) (b : UInt8) (h : l[k]? = some b) : blanks.contains b = blankB (nth l k : Int) := by
  rw [blank_byte]; unfold nth; simp [List.getD, h]
theorem trim_cut (l : List UInt8) (a b : Nat) (hab : a ≤ b) (hb : b ≤ l.length) (h1 : ∀ j, j < a → blankB (nth l j : Int) = true) (h2 : a < l.length → blankB (nth l a : Int) = false)
    (h3 : ∀ j, b ≤ j → j < l.length → blankB (nth l j : Int) = true) (h4 : a < b → blankB (nth l (b - 1) : Int) = false) : trimL l = (l.take b).drop a := by
  unfold trimL trimS
  have some_lt : ∀ (j : Nat) c, l[j]? = some c → j < l.length := fun j c h => by
    rcases Nat.lt_or_ge j l.length with h' | h'
    · exact h'
    · rw [List.getElem?_eq_none h'] at h; cases h
  by_cases ha : a < l.length
  · have hab' : a < b := by
      rcases Nat.lt_or_ge a b with h | h
      · exact h
      · have := h3 a h ha
        rw [h2 ha] at this; cases this
    rw [trimRightS_take l blanks b hb (fun j c hj hc => by rw [blank_at l j c hc]; exact h3 j hj (some_lt j c hc)) (fun c _ hc => by rw [blank_at l (b - 1) c hc]; exact h4 hab')]
    have tk : ∀ j c, (l.take b)[j]? = some c → l[j]? = some c := fun j c h => by
      rw [List.getElem?_take] at h; split at h
      · exact h
      · cases h
    exact trimLeftS_drop (l.take b) blanks a (by rw [List.length_take]; omega) (fun j c hj hc => by rw [blank_at l j c (tk j c hc)]; exact h1 j hj) (fun c hc => by rw [blank_at l a c (tk a c hc)]; exact h2 ha)
  · obtain rfl : a = b := by omega
    obtain rfl : a = l.length := by omega
    rw [trimRightS_take l blanks 0 (by omega) (fun j c _ hc => by rw [blank_at l j c hc]; exact h1 j (some_lt j c hc)) (fun c h => absurd h (by omega))]
    simp [trimLeftS]
theorem trimL_len (l : List UInt8) : (trimL l).length ≤ l.length := by
  unfold trimL trimS trimLeftS trimRightS
  have h1 : ∀ (m : List UInt8), (m.dropWhile (blanks.contains ·)).length ≤ m.length := fun m => (List.dropWhile_suffix _).length_le
  have h2 := h1 (l.reverse.dropWhile (blanks.contains ·)).reverse
  have h3 := h1 l.reverse
  simp at h2 h3 ⊢; omega
theorem indexByte_blank (c : UInt8) : 0 ≤ indexByte blanks c ↔ blankB (c.toNat : Int) = true := by
  have : ∀ n : Fin 256, decide (0 ≤ indexByte blanks (UInt8.ofNat n.val)) = blankB ((UInt8.ofNat n.val).toNat : Int) := by decide +kernel
  have h := this ⟨c.toNat, UInt8.toNat_lt c⟩
  simp only [UInt8.ofNat_toNat] at h
  rw [← h]; simp

/-! ### a colon -/
/-- How many bytes are ahead of the first colon. -/
def colonAt (l : List UInt8) : Nat := (l.takeWhile (· != 58)).length
theorem colonAt_hit (l : List UInt8) : colonAt (58 :: l) = 0 := by unfold colonAt; simp
theorem colonAt_miss (c : UInt8) (l : List UInt8) (h : c ≠ 58) : colonAt (c :: l) = colonAt l + 1 := by unfold colonAt; simp [h]
theorem prefix_one (c : UInt8) (l : List UInt8) : List.isPrefixOf [58] (c :: l) = (58 == c) := by
  simp [List.isPrefixOf]
theorem index_none : ∀ (a : List UInt8), colonAt a = a.length → index a [58] = -1
  | [], _ => rfl
  | c :: a, h => by
    have hc : c ≠ 58 := by rintro rfl; rw [colonAt_hit] at h; simp at h
    rw [colonAt_miss c a hc] at h
    unfold index
    rw [prefix_one, index_none a (by simpa using h), if_neg (by simp; exact fun e => hc e.symm)]; rfl
/-- A name's prefix and the rest. -/
def splitL (l : List UInt8) : List UInt8 × List UInt8 × Bool :=
  if (cut l [58]).2.2 = true then ((cut l [58]).1, (cut l [58]).2.1, nameL (cut l [58]).1 && nameL (cut l [58]).2.1) else ([], l, nameL l)
theorem split_none (a : List UInt8) (h : colonAt a = a.length) : splitL a = ([], a, nameL a) := by
  have hc : cut a [58] = (a, [], false) := by
    unfold cut
    rw [index_none a h, if_neg (by decide)]
  unfold splitL
  rw [hc, if_neg (by simp)]
end Go.Proofs.YtnlkpdodacphkaaGreatDoor

namespace Go.Proofs.YtnlkpdodacphkaaGreatDoor
open Go.Lib

/-- What a name stands for. -/
def nameV (l : List UInt8) : Int :=
  if l = [97, 109, 112] then 38 else if l = [108, 116] then 60 else if l = [103, 116] then 62 else if l = [113, 117, 111, 116] then 34 else if l = [97, 112, 111, 115] then 39 else 0
/-- A byte's worth as a digit (99: none). -/
def digV (c : Nat) : Nat := if 48 ≤ c ∧ c ≤ 57 then c - 48 else if 65 ≤ c ∧ c ≤ 90 then c - 55 else if 97 ≤ c ∧ c ≤ 122 then c - 87 else 99
def parseD (base : Nat) : Nat → List UInt8 → Option Nat
  | acc, [] => some acc
  | acc, c :: r => if digV c.toNat < base then parseD base (acc * base + digV c.toNat) r else none
/-- What digits spell: none, or a number. -/
def spellL (base : Nat) (l : List UInt8) : Option Nat := if l = [] then none else parseD base 0 l
/-- The letter of a number's digits. -/
def numL (base : Nat) (l : List UInt8) : Int :=
  if 8 < l.length then 0 else match spellL base l with
    | some n => if letB n = true then (n : Int) else 0
    | none => 0
/-- The letter that a name between & and ; stands for. -/
def oneL (l : List UInt8) : Int :=
  match l with
  | 35 :: 120 :: r => numL 16 r
  | 35 :: r => numL 10 r
  | _ => nameV l

/-- How many bytes stand ahead of the first semicolon. -/
def semi (l : List UInt8) : Nat := (l.takeWhile (· != 59)).length
theorem semi_hit (l : List UInt8) : semi (59 :: l) = 0 := by unfold semi; simp
theorem semi_miss (c : UInt8) (l : List UInt8) (h : c ≠ 59) : semi (c :: l) = semi l + 1 := by unfold semi; simp [h]
theorem semi_le (l : List UInt8) : semi l ≤ l.length := by unfold semi; exact List.IsPrefix.length_le (List.takeWhile_prefix _)

/-- A text in which each name is its letter: what stands ahead is done. -/
def openF : Nat → List UInt8 → List UInt8 → Nat → List UInt8 × Int
  | 0, _, done, _ => (done, -1)
  | _ + 1, [], done, _ => (done, -1)
  | f + 1, c :: r, done, at' =>
    if c ≠ 38 then openF f r (done ++ [c]) (at' + 1)
    else if semi r < r.length ∧ oneL (r.take (semi r)) ≠ 0 then openF f (r.drop (semi r + 1)) (done ++ put (oneL (r.take (semi r)))) (at' + semi r + 2)
    else ([], (at' : Int))
def openL (l : List UInt8) : List UInt8 × Int := openF l.length l [] 0
theorem openF_more : ∀ (f k : Nat) (l done : List UInt8) (a : Nat), l.length ≤ f → l.length ≤ k → openF f l done a = openF k l done a
  | 0, 0, _, _, _, _, _ => rfl
  | 0, k + 1, l, done, a, h, _ => by
    obtain rfl : l = [] := List.eq_nil_of_length_eq_zero (by omega)
    rfl
  | f + 1, 0, l, done, a, _, h => by
    obtain rfl : l = [] := List.eq_nil_of_length_eq_zero (by omega)
    rfl
  | f + 1, k + 1, [], done, a, _, _ => rfl
  | f + 1, k + 1, c :: r, done, a, h1, h2 => by
    simp only [List.length_cons] at h1 h2
    unfold openF
    by_cases hc : c ≠ 38
    · rw [if_pos hc, if_pos hc]; exact openF_more f k r _ _ (by omega) (by omega)
    · rw [if_neg hc, if_neg hc]
      by_cases hs : semi r < r.length ∧ oneL (r.take (semi r)) ≠ 0
      · rw [if_pos hs, if_pos hs]
        have hd : (r.drop (semi r + 1)).length = r.length - (semi r + 1) := List.length_drop
        exact openF_more f k _ _ _ (by omega) (by omega)
      · rw [if_neg hs, if_neg hs]

/-- The loop of Open: 'done' is what has been written, k bytes are behind it. -/
def Opens (l done : List UInt8) (k : Nat) : Prop := k ≤ l.length ∧ done.length ≤ 2 * k ∧ openL l = openF (l.drop k).length (l.drop k) done k
theorem Opens.start (l : List UInt8) : Opens l [] 0 := ⟨Nat.zero_le _, by simp, by unfold openL; simp⟩
theorem Opens.whole {l done : List UInt8} {k : Nat} (h : Opens l done k) (hk : l.length ≤ k) : openL l = (done, -1) := by
  rw [h.2.2, List.drop_eq_nil_of_le hk]; rfl
theorem drop_nth (l : List UInt8) (k : Nat) (hk : k < l.length) : ∃ c, c.toNat = nth l k ∧ l.drop k = c :: l.drop (k + 1) := by
  refine ⟨l[k], ?_, List.drop_eq_getElem_cons hk⟩
  unfold nth; simp [List.getD, hk]
theorem Opens.plain {l done : List UInt8} {k : Nat} (h : Opens l done k) (hk : k < l.length) (c : UInt8) (hc : c.toNat = nth l k) (hn : c.toNat ≠ 38) : Opens l (done ++ [c]) (k + 1) := by
  obtain ⟨h1, h2, h3⟩ := h
  obtain ⟨d, hd, hdr⟩ := drop_nth l k hk
  obtain rfl : c = d := UInt8.toNat_inj.1 (hc.trans hd.symm)
  refine ⟨by omega, by rw [List.length_append]; simp; omega, ?_⟩
  have hl : (l.drop k).length = (l.drop (k + 1)).length + 1 := by rw [hdr]; rfl
  rw [h3, hl, hdr]
  conv => lhs; unfold openF
  rw [if_pos (by intro e; subst e; exact hn rfl)]
/-- What stands between & and the next semicolon. -/
def within (l : List UInt8) (k : Nat) : List UInt8 := (l.drop (k + 1)).take (semi (l.drop (k + 1)))
theorem Opens.step {l done : List UInt8} {k : Nat} (h : Opens l done k) (hk : k < l.length) (hc : nth l k = 38) (hs : k + 1 + semi (l.drop (k + 1)) < l.length) (hne : oneL (within l k) ≠ 0) :
    Opens l (done ++ put (oneL (within l k))) (k + semi (l.drop (k + 1)) + 2) := by
  obtain ⟨h1, h2, h3⟩ := h
  obtain ⟨d, hd, hdr⟩ := drop_nth l k hk
  obtain rfl : d = 38 := UInt8.toNat_inj.1 (hd.trans hc)
  have hdl : (l.drop (k + 1)).length = l.length - (k + 1) := List.length_drop
  have hpl := put_len (oneL (within l k))
  refine ⟨by omega, by rw [List.length_append]; omega, ?_⟩
  have hl : (l.drop k).length = (l.drop (k + 1)).length + 1 := by rw [hdr]; rfl
  rw [h3, hl, hdr]
  conv => lhs; unfold openF
  have he : l.drop (k + semi (l.drop (k + 1)) + 2) = (l.drop (k + 1)).drop (semi (l.drop (k + 1)) + 1) := by rw [List.drop_drop]; congr 1; omega
  rw [if_neg (by simp), if_pos ⟨by omega, hne⟩, he]
  exact openF_more _ _ _ _ _ (by rw [List.length_drop]; omega) (Nat.le_refl _)
theorem Opens.none {l done : List UInt8} {k : Nat} (h : Opens l done k) (hk : k < l.length) (hc : nth l k = 38) (hs : ¬ (k + 1 + semi (l.drop (k + 1)) < l.length ∧ oneL (within l k) ≠ 0)) : openL l = ([], (k : Int)) := by
  obtain ⟨h1, h2, h3⟩ := h
  obtain ⟨d, hd, hdr⟩ := drop_nth l k hk
  obtain rfl : d = 38 := UInt8.toNat_inj.1 (hd.trans hc)
  have hdl : (l.drop (k + 1)).length = l.length - (k + 1) := List.length_drop
  have hl : (l.drop k).length = (l.drop (k + 1)).length + 1 := by rw [hdr]; rfl
  rw [h3, hl, hdr]
  unfold openF
  rw [if_neg (by simp), if_neg]
  rintro ⟨h4, h5⟩
  exact hs ⟨by omega, h5⟩

/-! ### what a name stands for may be a letter -/
theorem oneL_let (l : List UInt8) (h : oneL l ≠ 0) : letB (oneL l) = true := by
  have hn : ∀ base l, numL base l ≠ 0 → letB (numL base l) = true := by
    intro base l h
    unfold numL at h ⊢
    by_cases h8 : 8 < l.length
    · rw [if_pos h8] at h; exact absurd rfl h
    · rw [if_neg h8] at h ⊢
      cases hs : spellL base l with
      | none => rw [hs] at h; exact absurd rfl h
      | some n =>
        rw [hs] at h
        simp only at h ⊢
        by_cases hl : letB (n : Int) = true
        · rw [if_pos hl]; exact hl
        · rw [if_neg hl] at h; exact absurd rfl h
  have hm : ∀ l, nameV l ≠ 0 → letB (nameV l) = true := by
    intro l h
    unfold nameV at h ⊢
    repeat' split
    all_goals first | decide | skip
    rename_i h1 h2 h3 h4 h5
    rw [if_neg h1, if_neg h2, if_neg h3, if_neg h4, if_neg h5] at h
    exact absurd rfl h
  unfold oneL at h ⊢
  split at h <;> first | exact hn _ _ h | exact hm _ h
theorem let_may (r : Int) (h : letB r = true) : mayB r = true := by
  rw [letB_iff] at h; rw [mayB_iff]; omega
theorem oneL_range (l : List UInt8) : 0 ≤ oneL l ∧ oneL l ≤ 1114111 := by
  by_cases h : oneL l = 0
  · omega
  · have := (letB_iff _).1 (oneL_let l h); omega

/-! ### texts that are closed -/
def closeB (c : UInt8) : List UInt8 :=
  if c = 38 then [38, 97, 109, 112, 59] else if c = 60 then [38, 108, 116, 59] else if c = 62 then [38, 103, 116, 59] else if c = 34 then [38, 113, 117, 111, 116, 59]
  else if c = 9 then [38, 35, 57, 59] else if c = 10 then [38, 35, 49, 48, 59] else if c = 13 then [38, 35, 49, 51, 59] else [c]
def closeL (l : List UInt8) : List UInt8 := l.flatMap closeB
theorem closeB_plain (c : UInt8) (h : c.toNat ≠ 38) (h1 : c.toNat ≠ 60) (h2 : c.toNat ≠ 62) (h3 : c.toNat ≠ 34) (h4 : c.toNat ≠ 9) (h5 : c.toNat ≠ 10) (h6 : c.toNat ≠ 13) : closeB c = [c] := by
  unfold closeB
  rw [if_neg (by rintro rfl; exact h rfl), if_neg (by rintro rfl; exact h1 rfl), if_neg (by rintro rfl; exact h2 rfl), if_neg (by rintro rfl; exact h3 rfl), if_neg (by rintro rfl; exact h4 rfl), if_neg (by rintro rfl; exact h5 rfl), if_neg (by rintro rfl; exact h6 rfl)]
theorem closeB_len (c : UInt8) : (closeB c).length ≤ 6 ∧ 1 ≤ (closeB c).length := by
  unfold closeB
  repeat' split
  all_goals simp
theorem closeL_nil : closeL [] = [] := rfl
theorem closeL_cons (c : UInt8) (l : List UInt8) : closeL (c :: l) = closeB c ++ closeL l := by unfold closeL; simp
theorem closeL_append (a b : List UInt8) : closeL (a ++ b) = closeL a ++ closeL b := by unfold closeL; simp
theorem closeL_one (c : UInt8) : closeL [c] = closeB c := by unfold closeL; simp
theorem closeL_len (l : List UInt8) : (closeL l).length ≤ 6 * l.length := by
  induction l with
  | nil => simp [closeL_nil]
  | cons c l ih => rw [closeL_cons, List.length_append, List.length_cons]; have := closeB_len c; omega
theorem open_close : ∀ (l done : List UInt8) (a f : Nat), (closeL l).length ≤ f → openF f (closeL l) done a = (done ++ l, -1)
  | [], done, a, f, _ => by rw [closeL_nil]; cases f <;> simp [openF]
  | c :: l, done, a, f, hf => by
    rw [closeL_cons] at hf ⊢
    rw [List.length_append] at hf
    have hcl := (closeB_len c).2
    obtain ⟨g, rfl⟩ : ∃ g, f = g + 1 := ⟨f - 1, by omega⟩
    have key : ∀ (m : List UInt8) (v : UInt8), (∀ x ∈ m, x ≠ 59) → oneL m = v.toNat → v.toNat ≠ 0 → put v.toNat = [v] → m.length + 2 + (closeL l).length ≤ g + 1 →
        openF (g + 1) (38 :: m ++ 59 :: closeL l) done a = (done ++ v :: l, -1) := by
      intro m v hm hv h0 hp hg
      have hs : semi (m ++ 59 :: closeL l) = m.length := by
        clear hv hg
        induction m with
        | nil => rw [List.nil_append, semi_hit]; rfl
        | cons x m ih =>
          rw [List.cons_append, semi_miss x _ (hm x (by simp)), ih (fun y hy => hm y (by simp [hy]))]; rfl
      rw [List.cons_append]
      unfold openF
      have ht : (m ++ 59 :: closeL l).take m.length = m := by simp
      have hd : (m ++ 59 :: closeL l).drop (m.length + 1) = closeL l := by
        rw [← List.drop_drop]; simp
      rw [if_neg (by simp), hs, ht, hd, if_pos ⟨by simp, by rw [hv]; omega⟩, hv, hp, open_close l _ _ g (by omega)]
      simp
    by_cases c1 : c.toNat = 38
    · obtain rfl : c = 38 := UInt8.toNat_inj.1 c1
      exact key [97, 109, 112] 38 (by decide) (by decide) (by decide) (by decide) (by simp [closeB] at hf ⊢; omega)
    by_cases c2 : c.toNat = 60
    · obtain rfl : c = 60 := UInt8.toNat_inj.1 c2
      exact key [108, 116] 60 (by decide) (by decide) (by decide) (by decide) (by simp [closeB] at hf ⊢; omega)
    by_cases c3 : c.toNat = 62
    · obtain rfl : c = 62 := UInt8.toNat_inj.1 c3
      exact key [103, 116] 62 (by decide) (by decide) (by decide) (by decide) (by simp [closeB] at hf ⊢; omega)
    by_cases c4 : c.toNat = 34
    · obtain rfl : c = 34 := UInt8.toNat_inj.1 c4
      exact key [113, 117, 111, 116] 34 (by decide) (by decide) (by decide) (by decide) (by simp [closeB] at hf ⊢; omega)
    by_cases c5 : c.toNat = 9
    · obtain rfl : c = 9 := UInt8.toNat_inj.1 c5
      exact key [35, 57] 9 (by decide) (by decide) (by decide) (by decide) (by simp [closeB] at hf ⊢; omega)
    by_cases c6 : c.toNat = 10
    · obtain rfl : c = 10 := UInt8.toNat_inj.1 c6
      exact key [35, 49, 48] 10 (by decide) (by decide) (by decide) (by decide) (by simp [closeB] at hf ⊢; omega)
    by_cases c7 : c.toNat = 13
    · obtain rfl : c = 13 := UInt8.toNat_inj.1 c7
      exact key [35, 49, 51] 13 (by decide) (by decide) (by decide) (by decide) (by simp [closeB] at hf ⊢; omega)
    have hcb := closeB_plain c c1 c2 c3 c4 c5 c6 c7
    rw [hcb] at hf ⊢
    rw [List.cons_append, List.nil_append]
    unfold openF
    rw [if_pos (by rintro rfl; exact c1 rfl), open_close l _ _ g (by simp at hf; omega)]
    simp
theorem openL_closeL (l : List UInt8) : openL (closeL l) = (l, -1) := by
  unfold openL; rw [open_close l [] 0 _ (Nat.le_refl _)]; simp

/-! ### digits -/
/-! ### how great a number digits spell -/
theorem parseD_lt (base : Nat) : ∀ (l : List UInt8) (acc k n : Nat), acc < base ^ k → parseD base acc l = some n → n < base ^ (k + l.length)
  | [], acc, k, n, ha, h => by
    simp only [parseD, Option.some.injEq] at h
    subst h; simpa using ha
  | c :: r, acc, k, n, ha, h => by
    unfold parseD at h
    by_cases hd : digV c.toNat < base
    · rw [if_pos hd] at h
      have h1 : acc * base + digV c.toNat < base ^ (k + 1) := by
        have h2 : acc * base + base ≤ base ^ k * base := by
          have := Nat.mul_le_mul_right base (show acc + 1 ≤ base ^ k from ha)
          rw [Nat.add_mul, Nat.one_mul] at this; exact this
        rw [Nat.pow_succ]; omega
      have := parseD_lt base r _ (k + 1) n h1 h
      rw [List.length_cons, show k + (r.length + 1) = k + 1 + r.length by omega]; exact this
    · rw [if_neg hd] at h; cases h
theorem spell_le (base : Nat) (l : List UInt8) (n : Nat) (hb : base = 10 ∨ base = 16) (hl : l.length ≤ 8) (h : spellL base l = some n) : n ≤ 4294967295 := by
  unfold spellL at h
  by_cases h0 : l = []
  · rw [if_pos h0] at h; cases h
  · rw [if_neg h0] at h
    have h1 : 0 < base ^ 0 := by rw [Nat.pow_zero]; omega
    have h2 := parseD_lt base l 0 0 n h1 h
    rw [Nat.zero_add] at h2
    have h3 : base ^ l.length ≤ 4294967296 := by
      rcases hb with rfl | rfl
      · exact Nat.le_trans (Nat.pow_le_pow_right (by omega) hl) (by decide)
      · exact Nat.le_trans (Nat.pow_le_pow_right (by omega) hl) (by decide)
    omega

/-! ### names -/
def nm (k : Nat) : List UInt8 := match k with
  | 0 => [97, 109, 112] | 1 => [108, 116] | 2 => [103, 116] | 3 => [113, 117, 111, 116] | _ => [97, 112, 111, 115]
/-- None of the first k names. -/
def Misses (l : List UInt8) (k : Nat) : Prop := ∀ j, j < k → l ≠ nm j
theorem Misses.start (l : List UInt8) : Misses l 0 := fun j h => absurd h (Nat.not_lt_zero j)
theorem Misses.step {l : List UInt8} {k : Nat} (h : Misses l k) (hn : l ≠ nm k) : Misses l (k + 1) := by
  intro j hj
  rcases Nat.lt_succ_iff_lt_or_eq.1 hj with h1 | rfl
  · exact h j h1
  · exact hn
def nmV (k : Nat) : Int := match k with
  | 0 => 38 | 1 => 60 | 2 => 62 | 3 => 34 | _ => 39
theorem nameV_hit (k : Nat) (h : k < 5) : nameV (nm k) = nmV k := by
  match k, h with
  | 0, _ | 1, _ | 2, _ | 3, _ | 4, _ => decide
theorem Misses.none {l : List UInt8} (h : Misses l 5) : nameV l = 0 := by
  unfold nameV
  rw [if_neg (show ¬ l = [97, 109, 112] from h 0 (by omega)), if_neg (show ¬ l = [108, 116] from h 1 (by omega)), if_neg (show ¬ l = [103, 116] from h 2 (by omega)), if_neg (show ¬ l = [113, 117, 111, 116] from h 3 (by omega)), if_neg (show ¬ l = [97, 112, 111, 115] from h 4 (by omega))]
theorem one_name (l : List UInt8) (h1 : List.isPrefixOf [35] l = false) : oneL l = nameV l := by
  unfold oneL
  split
  · exact absurd h1 (by simp [List.isPrefixOf])
  · exact absurd h1 (by simp [List.isPrefixOf])
  · rfl
theorem one_ten (r : List UInt8) (h : List.isPrefixOf [35, 120] (35 :: r) = false) : oneL (35 :: r) = numL 10 r := by
  cases r with
  | nil => rfl
  | cons c r =>
    have hc : c ≠ 120 := by rintro rfl; exact absurd h (by simp [List.isPrefixOf])
    unfold oneL
    split
    · rename_i heq; injection heq with _ heq; injection heq with heq _; exact absurd heq hc
    · rename_i heq; injection heq with _ heq; subst heq; rfl
    · rename_i h3; exact absurd rfl (h3 _)

end Go.Proofs.YtnlkpdodacphkaaGreatDoor

namespace Go.Proofs.YtnlkpdodacphkaaGreatDoor
/-! ### bytes as lists -/
def bl (s : ByteArray) : List UInt8 := s.data.toList
theorem bl_size (s : ByteArray) : (bl s).length = s.size := by unfold bl; show _ = s.data.size; simp
theorem bl_append (s t : ByteArray) : bl (s ++ t) = bl s ++ bl t := by unfold bl; simp
def str (l : List UInt8) : ByteArray := ⟨l.toArray⟩
theorem str_bl (l : List UInt8) : bl (str l) = l := by simp [bl, str]
theorem bl_str (s : ByteArray) : str (bl s) = s := by cases s; rfl
theorem str_size (l : List UInt8) : (str l).size = l.length := by rw [← bl_size, str_bl]
theorem str_append (a b : List UInt8) : str a ++ str b = str (a ++ b) := by
  rw [← bl_str (str a ++ str b), bl_append, str_bl, str_bl]
def trimmed (s : ByteArray) : ByteArray := ⟨(trimL (bl s)).toArray⟩
theorem trimmed_bl (s : ByteArray) : bl (trimmed s) = trimL (bl s) := by simp [bl, trimmed]

end Go.Proofs.YtnlkpdodacphkaaGreatDoor
