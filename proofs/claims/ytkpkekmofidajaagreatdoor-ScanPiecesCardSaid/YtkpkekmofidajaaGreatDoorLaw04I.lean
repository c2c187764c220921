/-
  The walk of galliardlaw04.piece.
-/
import Derived.Test.YtkpkekmofidajaaGreatDoorLaw04N
import Derived.Deep.RegionWith
import Derived.Deep.DrawnRows
namespace Go.Proofs.YtkpkekmofidajaaGreatDoor
open Go Go.RowKit
set_option maxRecDepth 100000

/-- A piece and its text. -/
def GivesI (w : World) (r : Ending) (w' : World) : Prop := ∃ x p tx v, r = .returned (.tuple #[.agg #[.int .i64 p.kind, .string (str p.name), v, .string (str p.text), .int .i64 p.at_], .string (str x)]) ∧
  Item x (if p.kind = 0 then none else some p) tx ∧ (tx = true ↔ p.kind = 4) ∧ p.at_ = 0 ∧ p.attrs.length ≤ 3 ∧ Rows w' v p.attrs ∧ (∀ g o n c, v = .slice (some ⟨g, o, none⟩) n c → w.heap.size ≤ g) ∧ Below w.heap.size w w'
theorem res_item (fn : Func) (hr : fn.results = #[.cell 6 27, .tmp 7]) (tmps : Array Value) (R : Nat) (ht : tmps.getD 6 undef = .pointer (some ⟨R, 0, none⟩)) (x0 x1 x2 x3 x4 y : Value) (hy : tmps.getD 7 undef = y) (W : World) (t : TypeId) (z : Nat × Nat) (h : W.heap[R]? = some (.cells #[x0, x1, x2, x3, x4] t z)) :
    (results fn tmps).run Tryz.prog W = .ok (.tuple #[.agg #[x0, x1, x2, x3, x4], y]) W := by
  have e0 : W.cell? ⟨R, 0, none⟩ = some x0 := by rw [Lib.cell_of_heap h]; rfl
  have e1 : W.cell? ⟨R, 1, none⟩ = some x1 := by rw [Lib.cell_of_heap h]; rfl
  have e2 : W.cell? ⟨R, 2, none⟩ = some x2 := by rw [Lib.cell_of_heap h]; rfl
  have e3 : W.cell? ⟨R, 3, none⟩ = some x3 := by rw [Lib.cell_of_heap h]; rfl
  have e4 : W.cell? ⟨R, 4, none⟩ = some x4 := by rw [Lib.cell_of_heap h]; rfl
  rw [Array.getD_eq_getD_getElem?] at ht hy
  simp [results, hr, ht, hy, go_sem, e0, e1, e2, e3, e4]
def blk (j : Nat) : List UInt8 := match j with | 0 => [32] | 1 => [10] | 2 => [32, 32] | _ => [9]
theorem blk_t (j : Nat) (hj : j < 4) : (#[.string ⟨#[32]⟩, .string ⟨#[10]⟩, .string ⟨#[32, 32]⟩, .string ⟨#[9]⟩] : Array Value)[j]? = some (.string (str (blk j))) := by
  match j, hj with
  | 0, _ => rfl
  | 1, _ => rfl
  | 2, _ => rfl
  | 3, _ => rfl
  | j + 4, h => exact absurd h (by omega)
theorem mask_of (x : Nat) (hx : x < 65536) (i : Nat) (hi : i ≤ 16) (m : Int) (hm : m = 2 ^ i - 1) : bits .and .i64 (x : Int) m = ((x % 2 ^ i : Nat) : Int) := by
  subst hm
  have h := bits_mask .i64 62 (by decide) (fun n h0 h1 => by rw [IntKind.wrap_i64]; omega) i (by omega) (x : Int) (by omega) (by omega)
  rw [h]; simp
/-- What the walk knows of the picks. -/
structure Picks (k j e5 : Nat) : Prop where
  lt : j < 4
  b3 : bits .and .i64 ((k : Int) / 8) 3 = (j : Int)
  b5 : e5 = k / 32 % 2
theorem b3_of (k : Nat) (hk : k < 65536) : bits .and .i64 ((k : Int) / 8) 3 = ((k / 8 % 4 : Nat) : Int) := by
  have := mask_of (k / 8) (by omega) 2 (by decide) 3 (by decide)
  simpa using this
/-- The block of the piece is still as it was made. -/
structure KI (w : World) (R : Nat) (wx : World) : Prop where
  below : Below w.heap.size w wx
  heap : wx.heap[R]? = some (.cells #[.int .i64 0, .string ⟨#[]⟩, .slice none 0 0, .string ⟨#[]⟩, .int .i64 0] 27)
/-- .. cell by cell. -/
structure KC (R : Nat) (wx : World) : Prop where
  r0 : wx.cell? ⟨R, 0, none⟩ = some (.int .i64 0)
  r1 : wx.cell? ⟨R, 1, none⟩ = some (.string ⟨#[]⟩)
  r2 : wx.cell? ⟨R, 2, none⟩ = some (.slice none 0 0)
  r3 : wx.cell? ⟨R, 3, none⟩ = some (.string ⟨#[]⟩)
  r4 : wx.cell? ⟨R, 4, none⟩ = some (.int .i64 0)
  f0 : wx.frozen? ⟨R, 0, none⟩ = false
  f1 : wx.frozen? ⟨R, 1, none⟩ = false
  f2 : wx.frozen? ⟨R, 2, none⟩ = false
  f3 : wx.frozen? ⟨R, 3, none⟩ = false
  f4 : wx.frozen? ⟨R, 4, none⟩ = false
theorem KI.cells {w : World} {R : Nat} {wx : World} (h : KI w R wx) : KC R wx :=
  ⟨by rw [Lib.cell_of_heap h.heap]; rfl, by rw [Lib.cell_of_heap h.heap]; rfl, by rw [Lib.cell_of_heap h.heap]; rfl, by rw [Lib.cell_of_heap h.heap]; rfl, by rw [Lib.cell_of_heap h.heap]; rfl,
    Lib.frozen_of_heap h.heap 0, Lib.frozen_of_heap h.heap 1, Lib.frozen_of_heap h.heap 2, Lib.frozen_of_heap h.heap 3, Lib.frozen_of_heap h.heap 4⟩
theorem KI.step {w : World} {R : Nat} {wx wy : World} (h : KI w R wx) (hb : Below wx.heap.size wx wy) : KI w R wy :=
  ⟨h.below.trans (hb.mono h.below.size), (hb.block R (Array.getElem?_eq_some_iff.1 h.heap).1).trans h.heap⟩
theorem KI.put {w : World} {R : Nat} {wx : World} (h : KI w R wx) (hR : w.heap.size = R) (x0 x1 x2 x3 x4 : Value) : Below w.heap.size w (st5 wx R x0 x1 x2 x3 x4) :=
  (((((h.below.setCell (p := ⟨R, 0, none⟩) (by show _ ≤ R; omega) x0).setCell (p := ⟨R, 1, none⟩) (by show _ ≤ R; omega) x1).setCell (p := ⟨R, 2, none⟩) (by show _ ≤ R; omega) x2).setCell (p := ⟨R, 3, none⟩) (by show _ ≤ R; omega) x3).setCell (p := ⟨R, 4, none⟩) (by show _ ≤ R; omega) x4)
theorem com_str (n : List UInt8) : ((((⟨#[60, 33, 45, 45, 32, 60]⟩ : ByteArray) ++ ⟨#[110]⟩) ++ ⟨#[62, 32, 45, 45, 62, 60, 63]⟩) ++ str n) ++ ⟨#[63, 62]⟩ = str (comT n) := by
  have h : (((⟨#[60, 33, 45, 45, 32, 60]⟩ : ByteArray) ++ ⟨#[110]⟩) ++ ⟨#[62, 32, 45, 45, 62, 60, 63]⟩) = str [60, 33, 45, 45, 32, 60, 110, 62, 32, 45, 45, 62, 60, 63] := by
    rw [show (⟨#[60, 33, 45, 45, 32, 60]⟩ : ByteArray) = str [60, 33, 45, 45, 32, 60] from rfl, show (⟨#[110]⟩ : ByteArray) = str [110] from rfl, show (⟨#[62, 32, 45, 45, 62, 60, 63]⟩ : ByteArray) = str [62, 32, 45, 45, 62, 60, 63] from rfl, str_append, str_append]; rfl
  rw [h, show (⟨#[63, 62]⟩ : ByteArray) = str [63, 62] from rfl, str_append, str_append]
  unfold comT; simp
theorem name_one (s : List UInt8) : (str (nameG s)).extract 0 1 = ⟨#[110]⟩ := by
  rw [← bl_str ((str (nameG s)).extract 0 1), cut_bl, str_bl]; rfl
set_option maxHeartbeats 2000000 in
/-- A text's piece. -/
theorem litem_text (k : Nat) (hk : k < 65536) (d : Nat) (hd : Hid (bits .and .i64 (k : Int) 7 = (d : Int))) (hd6 : 6 ≤ d) (hd7 : d ≤ 7) (s t T : ByteArray) (m : Nat) (w : World) (hm1 : m ≤ t.size) (hm3 : min (t.size : Int) 9 = (m : Int)) (HTm : Hid (t.extract 0 m = T)) (hTs : T.size ≤ 9) :
    Calls Tryz.prog 6 #[.int .i64 k, .string s, .string t] w (GivesI w) := by
  have hb3 := b3_of k hk
  obtain ⟨j, hj⟩ : ∃ j, k / 8 % 4 = j := ⟨_, rfl⟩
  have hj4 : j < 4 := by omega
  rw [hj] at hb3
  have hjI : (j : Int) < 4 := by omega
  have hR0 := (Below.heap_alloc (w.alloc (.cells #[.int .i64 0, .string ⟨#[]⟩, .slice none 0 0, .string ⟨#[]⟩, .int .i64 0] 27)) (.cells #[.string ⟨#[32]⟩, .string ⟨#[10]⟩, .string ⟨#[32, 32]⟩, .string ⟨#[9]⟩] 9) w.heap.size (by simp)).trans (heap_alloc_new w (.cells #[.int .i64 0, .string ⟨#[]⟩, .slice none 0 0, .string ⟨#[]⟩, .int .i64 0] 27))
  have hL := heap_alloc_new (w.alloc (.cells #[.int .i64 0, .string ⟨#[]⟩, .slice none 0 0, .string ⟨#[]⟩, .int .i64 0] 27)) (.cells #[.string ⟨#[32]⟩, .string ⟨#[10]⟩, .string ⟨#[32, 32]⟩, .string ⟨#[9]⟩] 9)
  rw [show (w.alloc (.cells #[.int .i64 0, .string ⟨#[]⟩, .slice none 0 0, .string ⟨#[]⟩, .int .i64 0] 27)).heap.size = w.heap.size + 1 by simp] at hL
  have cB : ((w.alloc (.cells #[.int .i64 0, .string ⟨#[]⟩, .slice none 0 0, .string ⟨#[]⟩, .int .i64 0] 27)).alloc (.cells #[.string ⟨#[32]⟩, .string ⟨#[10]⟩, .string ⟨#[32, 32]⟩, .string ⟨#[9]⟩] 9)).cell? ⟨w.heap.size + 1, j, none⟩ = some (.string (str (blk j))) := by rw [Lib.cell_of_heap hL]; exact blk_t j hj4
  have HB0 := Lib.hid (((Below.refl w.heap.size w).alloc (Nat.le_refl _) (.cells #[.int .i64 0, .string ⟨#[]⟩, .slice none 0 0, .string ⟨#[]⟩, .int .i64 0] 27)).alloc (by simp) (.cells #[.string ⟨#[32]⟩, .string ⟨#[10]⟩, .string ⟨#[32, 32]⟩, .string ⟨#[9]⟩] 9))
  have HR0 := Lib.hid hR0
  have hd' := hd.out
  clear hR0 hL hj
  go_enter Tryz.func6, Tryz.ntmps6
  go_upto_region 2 with (fail)
  generalize ((w.alloc (.cells #[.int .i64 0, .string ⟨#[]⟩, .slice none 0 0, .string ⟨#[]⟩, .int .i64 0] 27)).alloc (.cells #[.string ⟨#[32]⟩, .string ⟨#[10]⟩, .string ⟨#[32, 32]⟩, .string ⟨#[9]⟩] 9)) = w1 at cB HB0 HR0 ⊢
  obtain ⟨R, hRe⟩ : ∃ R, w.heap.size = R := ⟨_, rfl⟩
  rw [hRe] at HR0 cB ⊢
  have HRe := Lib.hid hRe
  clear hRe cB hd
  have CP := Lib.hid (rplain T w1 (by omega))
  obtain rfl | rfl : d = 6 ∨ d = 7 := by omega
  all_goals
    go_wp2_with fail
    rw [HTm.out]
    clear hm1 hm3 hd' hd6 hd7
    refine CP.out.mono ?_
    rintro r w2 ⟨P, rfl, hP, hPl, hb2⟩
    have hPs : (str P).size ≤ 9 := by rw [str_size]; omega
    have HB2 := Lib.hid (HB0.out.trans (hb2.mono HB0.out.size))
    have hRl := (Array.getElem?_eq_some_iff.1 HR0.out).1
    have HR2 := Lib.hid ((hb2.block R hRl).trans HR0.out)
    have HP := Lib.hid hP
    have HPl := Lib.hid hPl
    clear hP hPl hb2 CP HR0 HB0
    have hplen : P.length ≤ 9 := by have := HPl.out; omega
    have hcat : (⟨#[113]⟩ : ByteArray) ++ str P = str (113 :: P) := str_append [113] P
    have CC := rclose (str (113 :: P)) w2 (by rw [str_size]; simp; omega)
    rw [str_bl] at CC
    have CC := Lib.hid CC
    have r0 := Lib.cell_of_heap HR2.out 0
    have r1 := Lib.cell_of_heap HR2.out 1
    have r2 := Lib.cell_of_heap HR2.out 2
    have r3 := Lib.cell_of_heap HR2.out 3
    have r4 := Lib.cell_of_heap HR2.out 4
    have f0 := Lib.frozen_of_heap HR2.out 0
    have f1 := Lib.frozen_of_heap HR2.out 1
    have f2 := Lib.frozen_of_heap HR2.out 2
    have f3 := Lib.frozen_of_heap HR2.out 3
    have f4 := Lib.frozen_of_heap HR2.out 4
    simp only [List.getElem?_toArray, List.getElem?_cons_zero, List.getElem?_cons_succ] at r0 r1 r2 r3 r4
    go_wp2_with fail
    refine CC.out.mono ?_
    rintro r w3 ⟨rfl, rfl⟩
    go_wp2
    refine bodyPost_ret (v := .tuple #[.agg #[.int .i64 4, .string ⟨#[]⟩, .slice none 0 0, .string (str (113 :: P)), .int .i64 0], .string (str (closeL (113 :: P)))]) (res_item _ rfl _ R rfl _ _ _ _ _ _ rfl _ 27 (0, 0) (st5_heap HR2.out _ _ _ _ _)) rfl ⟨closeL (113 :: P), ⟨4, [], [], 113 :: P, 0⟩, true, .slice none 0 0, rfl, ?_, ⟨fun _ => rfl, fun _ => rfl⟩, rfl, Nat.zero_le _, .inl ⟨rfl, rfl⟩, fresh_nil _, ?_⟩
    · exact item_text (lets_cons (by decide) HP.out) (by simp) (by have := HPl.out; simp; omega)
    · exact (((((HB2.out.setCell (p := ⟨R, 0, none⟩) (by show _ ≤ R; rw [HRe.out]; exact Nat.le_refl _) _).setCell (p := ⟨R, 1, none⟩) (by show _ ≤ R; rw [HRe.out]; exact Nat.le_refl _) _).setCell (p := ⟨R, 2, none⟩) (by show _ ≤ R; rw [HRe.out]; exact Nat.le_refl _) _).setCell (p := ⟨R, 3, none⟩) (by show _ ≤ R; rw [HRe.out]; exact Nat.le_refl _) _).setCell (p := ⟨R, 4, none⟩) (by show _ ≤ R; rw [HRe.out]; exact Nat.le_refl _) _)
set_option maxHeartbeats 4000000 in
/-- A comment with a hint. -/
theorem litem_com (k : Nat) (hk : k < 65536) (hd : Hid (bits .and .i64 (k : Int) 7 = 5)) (s t : ByteArray) (w : World) :
    Calls Tryz.prog 6 #[.int .i64 k, .string s, .string t] w (GivesI w) := by
  have hb3 := b3_of k hk
  obtain ⟨j, hj⟩ : ∃ j, k / 8 % 4 = j := ⟨_, rfl⟩
  have hj4 : j < 4 := by omega
  rw [hj] at hb3
  have hjI : (j : Int) < 4 := by omega
  have hR0 := (Below.heap_alloc (w.alloc (.cells #[.int .i64 0, .string ⟨#[]⟩, .slice none 0 0, .string ⟨#[]⟩, .int .i64 0] 27)) (.cells #[.string ⟨#[32]⟩, .string ⟨#[10]⟩, .string ⟨#[32, 32]⟩, .string ⟨#[9]⟩] 9) w.heap.size (by simp)).trans (heap_alloc_new w (.cells #[.int .i64 0, .string ⟨#[]⟩, .slice none 0 0, .string ⟨#[]⟩, .int .i64 0] 27))
  have hL := heap_alloc_new (w.alloc (.cells #[.int .i64 0, .string ⟨#[]⟩, .slice none 0 0, .string ⟨#[]⟩, .int .i64 0] 27)) (.cells #[.string ⟨#[32]⟩, .string ⟨#[10]⟩, .string ⟨#[32, 32]⟩, .string ⟨#[9]⟩] 9)
  rw [show (w.alloc (.cells #[.int .i64 0, .string ⟨#[]⟩, .slice none 0 0, .string ⟨#[]⟩, .int .i64 0] 27)).heap.size = w.heap.size + 1 by simp] at hL
  have cB : ((w.alloc (.cells #[.int .i64 0, .string ⟨#[]⟩, .slice none 0 0, .string ⟨#[]⟩, .int .i64 0] 27)).alloc (.cells #[.string ⟨#[32]⟩, .string ⟨#[10]⟩, .string ⟨#[32, 32]⟩, .string ⟨#[9]⟩] 9)).cell? ⟨w.heap.size + 1, j, none⟩ = some (.string (str (blk j))) := by rw [Lib.cell_of_heap hL]; exact blk_t j hj4
  have HB0 := Lib.hid (((Below.refl w.heap.size w).alloc (Nat.le_refl _) (.cells #[.int .i64 0, .string ⟨#[]⟩, .slice none 0 0, .string ⟨#[]⟩, .int .i64 0] 27)).alloc (by simp) (.cells #[.string ⟨#[32]⟩, .string ⟨#[10]⟩, .string ⟨#[32, 32]⟩, .string ⟨#[9]⟩] 9))
  have HR0 := Lib.hid hR0
  have hd' := hd.out
  clear hR0 hL hj
  go_enter Tryz.func6, Tryz.ntmps6
  go_upto_region 2 with (fail)
  generalize ((w.alloc (.cells #[.int .i64 0, .string ⟨#[]⟩, .slice none 0 0, .string ⟨#[]⟩, .int .i64 0] 27)).alloc (.cells #[.string ⟨#[32]⟩, .string ⟨#[10]⟩, .string ⟨#[32, 32]⟩, .string ⟨#[9]⟩] 9)) = w1 at cB HB0 HR0 ⊢
  obtain ⟨R, hRe⟩ : ∃ R, w.heap.size = R := ⟨_, rfl⟩
  rw [hRe] at HR0 cB ⊢
  have HRe := Lib.hid hRe
  clear hRe cB hd
  have CN : ∀ (X : ByteArray) (wx : World), Hid (KI w R wx) → Calls Tryz.prog 15 #[.string X] wx fun e w' => e = .returned (.string (str (nameG (bl X)))) ∧ w'.cell? ⟨R, 0, none⟩ = some (.int .i64 0) ∧ w'.cell? ⟨R, 1, none⟩ = some (.string ⟨#[]⟩) ∧ w'.cell? ⟨R, 2, none⟩ = some (.slice none 0 0) ∧ w'.cell? ⟨R, 3, none⟩ = some (.string ⟨#[]⟩) ∧ w'.cell? ⟨R, 4, none⟩ = some (.int .i64 0) ∧
      w'.frozen? ⟨R, 0, none⟩ = false ∧ w'.frozen? ⟨R, 1, none⟩ = false ∧ w'.frozen? ⟨R, 2, none⟩ = false ∧ w'.frozen? ⟨R, 3, none⟩ = false ∧ w'.frozen? ⟨R, 4, none⟩ = false ∧ Hid (KI w R w') := fun X wx h => by
    refine (lname X wx).mono ?_
    rintro e w' ⟨rfl, hb⟩
    have hk := h.out.step hb
    have c := hk.cells
    exact ⟨rfl, c.r0, c.r1, c.r2, c.r3, c.r4, c.f0, c.f1, c.f2, c.f3, c.f4, Lib.hid hk⟩
  have K0 : Hid (KI w R w1.drew) := Lib.hid ((KI.mk HB0.out HR0.out).step (Below.refl _ _).drew)
  have CN := Lib.hid CN
  have e1 := name_one (bl s)
  have s1 : (str (nameG (bl s))).size ≤ 7 := by rw [str_size]; exact (nameG_len _).2
  have s2 : (str (nameG (bl t))).size ≤ 7 := by rw [str_size]; exact (nameG_len _).2
  have s3 : (1 : Int) ≤ ((str (nameG (bl s))).size : Int) := by rw [str_size]; have := (nameG_len (bl s)).1; omega
  clear HR0 HB0
  go_wp2_with fail
  clear hd'
  go_region_with (go_at_call 15; refine (CN.out _ _ (by assumption)).mono ?_; rintro e wy ⟨rfl, r0, r1, r2, r3, r4, f0, f1, f2, f3, f4, KY⟩)
  all_goals
    go_wp2
    refine bodyPost_ret (res_item _ rfl _ R rfl _ _ _ _ _ _ rfl _ 27 (0, 0) (st5_heap KY.out.heap _ _ _ _ _)) rfl ⟨comT (nameG (bl t)), pc0, false, .slice none 0 0, ?_, ?_, ⟨fun h => (by cases h), fun h => absurd h (show ¬ (0 : Int) = 4 by decide)⟩, rfl, Nat.zero_le _, .inl ⟨rfl, rfl⟩, fresh_nil _, KY.out.put HRe.out _ _ _ _ _⟩
    · show Ending.returned (.tuple #[.agg #[.int .i64 0, .string ⟨#[]⟩, .slice none 0 0, .string ⟨#[]⟩, .int .i64 0], .string (((((⟨#[60, 33, 45, 45, 32, 60]⟩ : ByteArray) ++ ⟨#[110]⟩) ++ ⟨#[62, 32, 45, 45, 62, 60, 63]⟩) ++ str (nameG (bl t))) ++ ⟨#[63, 62]⟩)]) = _
      rw [com_str]; rfl
    · exact item_com (nameG_ok _) (by have := (nameG_len (bl t)).2; omega)
theorem blk_ok (j : Nat) : (∀ c ∈ blk j, bb c = true) ∧ (∀ c ∈ blk j, nb c = false) ∧ blk j ≠ [] ∧ Lets (blk j) ∧ (blk j).length ≤ 2 := by
  unfold blk
  have h9 : Lets [9] := by
    have := Lets.nil.snoc 9 (by decide)
    rw [List.nil_append, show put 9 = [9] by kernel_rfl] at this; exact this
  have h10 : Lets [10] := by
    have := Lets.nil.snoc 10 (by decide)
    rw [List.nil_append, show put 10 = [10] by kernel_rfl] at this; exact this
  split
  · exact ⟨by decide, by decide, by decide, lets_one 32 (by decide), by decide⟩
  · exact ⟨by decide, by decide, by decide, h10, by decide⟩
  · exact ⟨by decide, by decide, by decide, lets_cons (by decide) (lets_one 32 (by decide)), by decide⟩
  · exact ⟨by decide, by decide, by decide, h9, by decide⟩
theorem close_str (n eb : List UInt8) : (((⟨#[60, 47]⟩ : ByteArray) ++ str n) ++ str eb) ++ ⟨#[62]⟩ = str (60 :: 47 :: (n ++ (eb ++ [62]))) := by
  rw [show (⟨#[60, 47]⟩ : ByteArray) = str [60, 47] from rfl, show (⟨#[62]⟩ : ByteArray) = str [62] from rfl, str_append, str_append, str_append]
  simp
/-- Cells of a piece in a block. -/
structure PCs (P : Nat) (x0 x1 x2 x3 x4 : Value) (wx : World) : Prop where
  c0 : wx.cell? ⟨P, 0, none⟩ = some x0
  c1 : wx.cell? ⟨P, 1, none⟩ = some x1
  c2 : wx.cell? ⟨P, 2, none⟩ = some x2
  c3 : wx.cell? ⟨P, 3, none⟩ = some x3
  c4 : wx.cell? ⟨P, 4, none⟩ = some x4
theorem pcs_of {P : Nat} {x0 x1 x2 x3 x4 : Value} {wx : World} {t : TypeId} {z : Nat × Nat} (h : wx.heap[P]? = some (.cells #[x0, x1, x2, x3, x4] t z)) : PCs P x0 x1 x2 x3 x4 wx :=
  ⟨by rw [Lib.cell_of_heap h]; rfl, by rw [Lib.cell_of_heap h]; rfl, by rw [Lib.cell_of_heap h]; rfl, by rw [Lib.cell_of_heap h]; rfl, by rw [Lib.cell_of_heap h]; rfl⟩
set_option maxHeartbeats 4000000 in
/-- An end. -/
theorem litem_close (k : Nat) (hk : k < 65536) (hd : Hid (bits .and .i64 (k : Int) 7 = 0)) (s t : ByteArray) (w : World) :
    Calls Tryz.prog 6 #[.int .i64 k, .string s, .string t] w (GivesI w) := by
  have hb5 : bits .and .i64 ((k : Int) / 32) 1 = ((k / 32 % 2 : Nat) : Int) := by
    have := mask_of (k / 32) (by omega) 1 (by decide) 1 (by decide)
    simpa using this
  obtain ⟨e5, he5⟩ : ∃ e5, k / 32 % 2 = e5 := ⟨_, rfl⟩
  have he52 : e5 < 2 := by omega
  rw [he5] at hb5
  clear he5
  have hb3 := b3_of k hk
  obtain ⟨j, hj⟩ : ∃ j, k / 8 % 4 = j := ⟨_, rfl⟩
  have hj4 : j < 4 := by omega
  rw [hj] at hb3
  have hjI : (j : Int) < 4 := by omega
  have hR0 := (Below.heap_alloc (w.alloc (.cells #[.int .i64 0, .string ⟨#[]⟩, .slice none 0 0, .string ⟨#[]⟩, .int .i64 0] 27)) (.cells #[.string ⟨#[32]⟩, .string ⟨#[10]⟩, .string ⟨#[32, 32]⟩, .string ⟨#[9]⟩] 9) w.heap.size (by simp)).trans (heap_alloc_new w (.cells #[.int .i64 0, .string ⟨#[]⟩, .slice none 0 0, .string ⟨#[]⟩, .int .i64 0] 27))
  have hL := heap_alloc_new (w.alloc (.cells #[.int .i64 0, .string ⟨#[]⟩, .slice none 0 0, .string ⟨#[]⟩, .int .i64 0] 27)) (.cells #[.string ⟨#[32]⟩, .string ⟨#[10]⟩, .string ⟨#[32, 32]⟩, .string ⟨#[9]⟩] 9)
  rw [show (w.alloc (.cells #[.int .i64 0, .string ⟨#[]⟩, .slice none 0 0, .string ⟨#[]⟩, .int .i64 0] 27)).heap.size = w.heap.size + 1 by simp] at hL
  have cB : ((w.alloc (.cells #[.int .i64 0, .string ⟨#[]⟩, .slice none 0 0, .string ⟨#[]⟩, .int .i64 0] 27)).alloc (.cells #[.string ⟨#[32]⟩, .string ⟨#[10]⟩, .string ⟨#[32, 32]⟩, .string ⟨#[9]⟩] 9)).cell? ⟨w.heap.size + 1, j, none⟩ = some (.string (str (blk j))) := by rw [Lib.cell_of_heap hL]; exact blk_t j hj4
  have HB0 := Lib.hid (((Below.refl w.heap.size w).alloc (Nat.le_refl _) (.cells #[.int .i64 0, .string ⟨#[]⟩, .slice none 0 0, .string ⟨#[]⟩, .int .i64 0] 27)).alloc (by simp) (.cells #[.string ⟨#[32]⟩, .string ⟨#[10]⟩, .string ⟨#[32, 32]⟩, .string ⟨#[9]⟩] 9))
  have HR0 := Lib.hid hR0
  have hd' := hd.out
  clear hR0 hL hj
  go_enter Tryz.func6, Tryz.ntmps6
  go_upto_region 2 with (fail)
  generalize ((w.alloc (.cells #[.int .i64 0, .string ⟨#[]⟩, .slice none 0 0, .string ⟨#[]⟩, .int .i64 0] 27)).alloc (.cells #[.string ⟨#[32]⟩, .string ⟨#[10]⟩, .string ⟨#[32, 32]⟩, .string ⟨#[9]⟩] 9)) = w1 at cB HB0 HR0 ⊢
  obtain ⟨R, hRe⟩ : ∃ R, w.heap.size = R := ⟨_, rfl⟩
  rw [hRe] at HR0 cB ⊢
  have HRe := Lib.hid hRe
  clear hRe cB hd
  have K1 := Lib.hid (KI.mk HB0.out HR0.out)
  have CN := Lib.hid (lname s w1)
  clear HR0 HB0
  go_wp2_with fail
  refine CN.out.mono ?_
  rintro r w2 ⟨rfl, hb2⟩
  have K2 := Lib.hid (K1.out.step hb2)
  have hRP : R < w2.heap.size := (Array.getElem?_eq_some_iff.1 K2.out.heap).1
  clear hb2 CN K1
  go_upto_region 5 with (fail)
  have K3 := Lib.hid (K2.out.step ((Below.refl _ _).alloc (Nat.le_refl _) (.cells #[.int .i64 2, .string (str (nameG (bl s))), .slice none 0 0, .string ⟨#[]⟩, .int .i64 0] 27)))
  have hP := Lib.hid (heap_alloc_new w2 (.cells #[.int .i64 2, .string (str (nameG (bl s))), .slice none 0 0, .string ⟨#[]⟩, .int .i64 0] 27))
  clear K2
  obtain ⟨P, hPe⟩ : ∃ P, w2.heap.size = P := ⟨_, rfl⟩
  rw [hPe] at hP hRP ⊢
  clear hPe
  generalize w2.alloc (.cells #[.int .i64 2, .string (str (nameG (bl s))), .slice none 0 0, .string ⟨#[]⟩, .int .i64 0] 27) = w3 at K3 hP ⊢
  have s1 : (str (nameG (bl s))).size ≤ 7 := by rw [str_size]; exact (nameG_len _).2
  have s2 : (str (blk j)).size ≤ 2 := by rw [str_size]; exact (blk_ok j).2.2.2.2
  have K4 := Lib.hid (K3.out.step ((Below.refl _ _).alloc (Nat.le_refl _) (.cells #[.string ⟨#[]⟩, .string (str (blk j))] 9)))
  obtain ⟨r0, r1, r2, r3, r4, f0, f1, f2, f3, f4⟩ := K3.out.cells
  obtain ⟨q0, q1, q2, q3, q4, g0, g1, g2, g3, g4⟩ := K4.out.cells
  obtain ⟨p0, p1, p2, p3, p4⟩ := pcs_of hP.out
  obtain ⟨u0, u1, u2, u3, u4⟩ := pcs_of ((Below.heap_alloc w3 (.cells #[.string ⟨#[]⟩, .string (str (blk j))] 9) P (Array.getElem?_eq_some_iff.1 hP.out).1).trans hP.out)
  have hR3 : R < w3.heap.size := (Array.getElem?_eq_some_iff.1 K3.out.heap).1
  have hP3 : P < w3.heap.size := (Array.getElem?_eq_some_iff.1 hP.out).1
  have hn1 : ¬ w3.heap.size = R := by omega
  have hn2 : ¬ R = w3.heap.size := by omega
  have z0 : (w3.alloc (.cells #[.string ⟨#[]⟩, .string (str (blk j))] 9)).cell? ⟨w3.heap.size, 0, none⟩ = some (.string ⟨#[]⟩) := by rw [Lib.cell_of_heap (heap_alloc_new w3 _)]; rfl
  have z1 : (w3.alloc (.cells #[.string ⟨#[]⟩, .string (str (blk j))] 9)).cell? ⟨w3.heap.size, 1, none⟩ = some (.string (str (blk j))) := by rw [Lib.cell_of_heap (heap_alloc_new w3 _)]; rfl
  clear hd'
  have hfin : ∀ (eb : List UInt8) (E : ByteArray) (W : World), E = str eb → (eb = [] ∨ eb = blk j) → W.heap[R]? = some (.cells #[.int .i64 2, .string (str (nameG (bl s))), .slice none 0 0, .string ⟨#[]⟩, .int .i64 0] 27 (0, 0)) → Below w.heap.size w W →
      GivesI w (.returned (.tuple #[.agg #[.int .i64 2, .string (str (nameG (bl s))), .slice none 0 0, .string ⟨#[]⟩, .int .i64 0], .string ((((⟨#[60, 47]⟩ : ByteArray) ++ str (nameG (bl s))) ++ E) ++ ⟨#[62]⟩)])) W := fun eb E W hE heb _ hb => by
    subst hE
    have hbk := blk_ok j
    have hl := nameG_len (bl s)
    refine ⟨60 :: 47 :: (nameG (bl s) ++ (eb ++ [62])), ⟨2, nameG (bl s), [], [], 0⟩, false, .slice none 0 0, by rw [close_str]; rfl, ?_, ⟨fun h => (by cases h), fun h => absurd h (show ¬ (2 : Int) = 4 by decide)⟩, rfl, Nat.zero_le _, .inl ⟨rfl, rfl⟩, fresh_nil _, hb⟩
    rcases heb with rfl | rfl
    · exact item_close (nameG_nm _) (ok_lets (nameG_ok _)) (by omega) (fun _ h => by cases h) (fun _ h => by cases h) Lets.nil (by decide)
    · exact item_close (nameG_nm _) (ok_lets (nameG_ok _)) (by omega) hbk.1 hbk.2.1 hbk.2.2.2.1 (by omega)
  have hfin := Lib.hid hfin
  have hW := Lib.hid (show ((st5 w3 R (.int .i64 2) (.string (str (nameG (bl s)))) (.slice none 0 0) (.string ⟨#[]⟩) (.int .i64 0)).alloc (.cells #[.string ⟨#[]⟩, .string (str (blk j))] 9)).drew.heap[R]? = some (.cells #[.int .i64 2, .string (str (nameG (bl s))), .slice none 0 0, .string ⟨#[]⟩, .int .i64 0] 27 (0, 0)) from (Below.heap_alloc _ _ R (by rw [st5_size]; exact hR3)).trans (st5_heap K3.out.heap (.int .i64 2) (.string (str (nameG (bl s)))) (.slice none 0 0) (.string ⟨#[]⟩) (.int .i64 0)))
  have hB := Lib.hid (((K3.out.put HRe.out (.int .i64 2) (.string (str (nameG (bl s)))) (.slice none 0 0) (.string ⟨#[]⟩) (.int .i64 0)).alloc (by rw [st5_size]; exact K3.out.below.size) (.cells #[.string ⟨#[]⟩, .string (str (blk j))] 9)).drew)
  obtain rfl | rfl : e5 = 0 ∨ e5 = 1 := by omega
  · go_region
    go_wp2
    refine bodyPost_ret (res_item _ rfl _ R rfl _ _ _ _ _ _ rfl _ 27 (0, 0) hW.out) rfl ?_
    exact hfin.out [] ⟨#[]⟩ _ rfl (.inl rfl) hW.out hB.out
  · go_region
    go_wp2
    refine bodyPost_ret (res_item _ rfl _ R rfl _ _ _ _ _ _ rfl _ 27 (0, 0) hW.out) rfl ?_
    exact hfin.out (blk j) (str (blk j)) _ rfl (.inr rfl) hW.out hB.out

end Go.Proofs.YtkpkekmofidajaaGreatDoor
