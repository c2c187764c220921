/-
  The walk of (*Scanner).while over whatever tells of each byte whether it goes on; and of name.
-/
import Derived.Test.YtekmenkebokdoaaGreatDoorScanOne
import Derived.Test.YtekmenkebokdoaaGreatDoorEntRef
namespace Go.Proofs.YtekmenkebokdoaaGreatDoor
open Go.RowKit
set_option maxRecDepth 100000

/-- A function value tells of each byte what h does, and leaves memory alone. -/
def Tells (n : Nat) (caps : Array Value) (h : UInt8 → Bool) (w : World) : Prop :=
  ∀ c : UInt8, Calls Tryz.prog n (#[.int .u8 (c.toNat : Int)] ++ caps) w fun e w' => e = .returned (.bool (h c)) ∧ w' = w

theorem tw_at (h : UInt8 → Bool) : ∀ (l : List UInt8) (k : Nat) (c : UInt8), l[k]? = some c → k ≤ (l.takeWhile h).length → (h c = true ↔ k < (l.takeWhile h).length)
  | [], k, c, hc, _ => by simp at hc
  | x :: l, 0, c, hc, _ => by
    simp at hc; subst hc
    rw [List.takeWhile_cons]
    by_cases hx : h x = true
    · simp [hx]
    · simp [hx]
  | x :: l, k + 1, c, hc, hk => by
    rw [List.takeWhile_cons] at hk ⊢
    by_cases hx : h x = true
    · rw [if_pos hx] at hk ⊢
      simp at hc hk ⊢
      exact tw_at h l k c (by simpa using hc) hk
    · rw [if_neg hx] at hk
      simp at hk
theorem run_at (h : UInt8 → Bool) (s : ByteArray) (σ : St) (k P : Nat) (hP : σ.pos + k = P) (hin : P < s.size) (hk : k ≤ (runW h (bl s) σ).length) : h (s[P]'hin) = true ↔ k < (runW h (bl s) σ).length := by
  refine tw_at h _ k _ ?_ hk
  subst hP
  rw [List.getElem?_drop]
  have hl : σ.pos + k < (bl s).length := by rw [bl_size]; exact hin
  rw [List.getElem?_eq_getElem hl]
  rfl
set_option maxHeartbeats 4000000 in
theorem swhile0 (B b : Nat) (s : ByteArray) (σ : St) (w : World) (hS : Sc B b s σ w) (n : Nat) (caps : Array Value) (h : UInt8 → Bool)
    (hn : ∀ (args : Array Value) (w : World), (callFunc n args).run Tryz.prog w = .ok (.enter n args) w)
    (HT : Hid (∀ w', Only b w w' → Tells n caps h w')) (L : Nat) (hL : Hid ((runW h (bl s) σ).length = L)) (T : ByteArray) (hT : Hid (s.extract σ.pos (σ.pos + L) = T)) :
    Calls Tryz.prog 99 #[.pointer (some ⟨b, 0, none⟩), .func (.func n) #[] caps] w fun r w' => r = .returned (.string T) ∧ Sc B b s (go_ σ (σ.pos + L)) w' ∧ Only b w w' := by
  have c1 := hS.c1
  have H := Lib.hid hS
  have hln := hS.len
  have hps := hS.pos
  clear hS
  go_enter Tryz.func99, Tryz.ntmps99
  go_wp2
  clear c1
  go_loopg [] (s.size - σ.pos) (fun g wr => ∃ (k P : Nat), P ≤ s.size ∧ g + P = s.size ∧ k ≤ L ∧ Hid (σ.pos + k = P) ∧ Hid (Sc B b s (go_ σ P) wr) ∧ Hid (Only b w wr))
  case atStart => exact ⟨0, σ.pos, by omega, by omega, Nat.zero_le _, Lib.hid rfl, Lib.hid H.out, Lib.hid (Only.refl _ _)⟩
  case round =>
    obtain ⟨k, P, hk, hg, hkL, HP, HS, HO⟩ := hrel
    have c0 := HS.out.c0
    have c1 : wr.cell? ⟨b, 1, none⟩ = some (.int .i64 (P : Int)) := HS.out.c1
    have f1 := HS.out.fz 1
    by_cases hin : P < s.size
    · have hin' : (P : Int) < (s.size : Int) := by omega
      obtain ⟨c, hc⟩ : ∃ c, s[P]'hin = c := ⟨_, rfl⟩
      have C := fun n => HT.out (wr.drewN n) (HO.out.trans (Only.drewN b wr n)) c
      cases hh : h c with
      | true =>
        simp only [hh] at C
        have hk1 : k + 1 ≤ L := by
          have := (run_at h s σ k P HP.out hin (by rw [hL.out]; exact hkL)).1 (by rw [hc]; exact hh)
          rw [hL.out] at this; exact this
        have C := Lib.hid C
        go_wp2
        go_quiet (exact Calls.quiet_of_same (C.out _))
        go_wp2
        go_roundg (s.size - (P + 1))
        case measure => omega
        case rel => exact ⟨k + 1, P + 1, by omega, by omega, hk1, Lib.hid (by have := HP.out; omega), Lib.hid (((HS.out.step (below_drewN wr _)).go (P + 1) (by omega))), Lib.hid ((HO.out.trans (Only.drewN b wr _)).trans (Only.set b 1 _ _))⟩
      | false =>
        simp only [hh] at C
        have C := Lib.hid C
        go_wp2
        go_quiet (exact Calls.quiet_of_same (C.out _))
        go_wp2
        have hkL' : k = L := by
          have := (run_at h s σ k P HP.out hin (by rw [hL.out]; exact hkL))
          rw [hc, hh, hL.out] at this
          have h2 : ¬ k < L := fun x => absurd (this.2 x) (by decide)
          omega
        have e1 : (σ.pos : Int) ≤ (P : Int) := by have := HP.out; omega
        have e2 : (P : Int) ≤ (s.size : Int) := by omega
        go_quiet (fail)
        go_wp2
        go_ret
        have hT' := hT.out
        have hP' := HP.out
        have e : σ.pos + L = P := by omega
        rw [e] at hT' ⊢
        subst hT'
        exact ⟨rfl, (HS.out.step (below_drewN wr _)).step (below_drewN _ _), (HO.out.trans (Only.drewN b wr _)).trans (Only.drewN b _ _)⟩
    · have hin' : decide ((P : Int) < (s.size : Int)) = false := decide_eq_false (by omega)
      go_wp2
      go_quiet (fail)
      go_wp2
      have hkL' : k = L := by
        have := run_len h (bl s) σ
        rw [hL.out, bl_size] at this
        have := HP.out
        omega
      have e1 : (σ.pos : Int) ≤ (P : Int) := by have := HP.out; omega
      have e2 : (P : Int) ≤ (s.size : Int) := by omega
      go_quiet (fail)
      go_wp2
      go_ret
      have hT' := hT.out
      have hP' := HP.out
      have e : σ.pos + L = P := by omega
      rw [e] at hT' ⊢
      subst hT'
      exact ⟨rfl, (HS.out.step (below_drewN wr _)).step (below_drewN _ _), (HO.out.trans (Only.drewN b wr _)).trans (Only.drewN b _ _)⟩
/-- **(*Scanner).while.** -/
theorem swhile (B b : Nat) (s : ByteArray) (σ : St) (w : World) (hS : Sc B b s σ w) (n : Nat) (caps : Array Value) (h : UInt8 → Bool)
    (hn : ∀ (args : Array Value) (w : World), (callFunc n args).run Tryz.prog w = .ok (.enter n args) w) (HT : ∀ w', Only b w w' → Tells n caps h w') :
    Calls Tryz.prog 99 #[.pointer (some ⟨b, 0, none⟩), .func (.func n) #[] caps] w fun r w' => r = .returned (.string (str (runW h (bl s) σ))) ∧ Sc B b s (whileS h (bl s) σ) w' ∧ Only b w w' := by
  refine swhile0 B b s σ w hS n caps h hn (Lib.hid HT) _ (Lib.hid rfl) _ (Lib.hid ?_)
  rw [← bl_str (s.extract σ.pos _), bl_sub]
  congr 1
  rw [List.drop_take]
  unfold runW
  have h1 := List.takeWhile_prefix (p := h) (l := (bl s).drop σ.pos)
  rw [Nat.add_sub_cancel_left]
  exact (List.prefix_iff_eq_take.1 h1).symm
/-- Blanks; the letters of names; all but <. -/
theorem tells_blank (w : World) : Tells 100 #[] bb w := fun c => (cblank c w).mono fun _ _ ⟨h1, h2⟩ => ⟨h1, h2.symm⟩
set_option maxHeartbeats 1000000 in
theorem tells_text (w : World) : Tells 103 #[] tb w := by
  intro c
  show Calls Tryz.prog 103 #[.int .u8 (c.toNat : Int)] w _
  unfold tb
  cases h : (c != 60) with
  | true =>
    have h' : c.toNat ≠ 60 := by intro e; rw [show c = 60 from UInt8.toNat_inj.1 e] at h; exact absurd h (by decide)
    have q : ((c.toNat : Int) != 60) = true := by simp; omega
    clear h
    go_enter Tryz.func103, Tryz.ntmps103
    go_wp2
    go_ret
    exact ⟨rfl, rfl⟩
  | false =>
    have h' : c = 60 := by simpa using h
    subst h'
    clear h
    go_enter Tryz.func103, Tryz.ntmps103
    go_wp2
    go_ret
    exact ⟨rfl, rfl⟩
set_option maxHeartbeats 1000000 in
theorem tells_name (w : World) : Tells 114 #[] nb w := by
  intro c
  show Calls Tryz.prog 114 #[.int .u8 (c.toNat : Int)] w _
  have C := cpart (c.toNat : Int) w (by omega) (by have := UInt8.toNat_lt c; omega)
  unfold nb
  cases h : partB (c.toNat : Int) with
  | true =>
    rw [h] at C
    have C := Lib.hid C
    clear h
    go_enter Tryz.func114, Tryz.ntmps114
    go_wp2_with fail
    refine C.out.mono ?_
    rintro e w1 ⟨rfl, rfl⟩
    go_wp2
    go_ret
    exact ⟨rfl, rfl⟩
  | false =>
    rw [h] at C
    have C := Lib.hid C
    cases h2 : (c == 58) with
    | true =>
      have h' : c = 58 := by simpa using h2
      subst h'
      clear h h2
      go_enter Tryz.func114, Tryz.ntmps114
      go_wp2_with fail
      refine C.out.mono ?_
      rintro e w1 ⟨rfl, rfl⟩
      go_wp2
      go_ret
      exact ⟨rfl, rfl⟩
    | false =>
      have h' : c.toNat ≠ 58 := by intro e; rw [show c = 58 from UInt8.toNat_inj.1 e] at h2; exact absurd h2 (by decide)
      have q : ((c.toNat : Int) == 58) = false := by simp; omega
      clear h h2
      go_enter Tryz.func114, Tryz.ntmps114
      go_wp2_with fail
      refine C.out.mono ?_
      rintro e w1 ⟨rfl, rfl⟩
      go_wp2
      go_ret
      exact ⟨rfl, rfl⟩
theorem enters_blank : ∀ (args : Array Value) (w : World), (callFunc 100 args).run Tryz.prog w = .ok (.enter 100 args) w := enters_of Tryz.func100 (by kernel_rfl) rfl
theorem enters_text : ∀ (args : Array Value) (w : World), (callFunc 103 args).run Tryz.prog w = .ok (.enter 103 args) w := enters_of Tryz.func103 (by kernel_rfl) rfl
theorem enters_name : ∀ (args : Array Value) (w : World), (callFunc 114 args).run Tryz.prog w = .ok (.enter 114 args) w := enters_of Tryz.func114 (by kernel_rfl) rfl
theorem sblanks (B b : Nat) (s : ByteArray) (σ : St) (w : World) (hS : Sc B b s σ w) :
    Calls Tryz.prog 99 #[.pointer (some ⟨b, 0, none⟩), .func (.func 100) #[] #[]] w fun r w' => r = .returned (.string (str (runW bb (bl s) σ))) ∧ Sc B b s (whileS bb (bl s) σ) w' ∧ Only b w w' :=
  swhile B b s σ w hS _ _ bb enters_blank (fun w' _ => tells_blank w')

/-! ### name -/
set_option maxHeartbeats 2000000 in
theorem sname0 (B b : Nat) (s T X Y : ByteArray) (σ σ1 : St) (w : World) (hS : Sc B b s σ w) (A : Bool)
    (C : Hid (Calls Tryz.prog 99 #[.pointer (some ⟨b, 0, none⟩), .func (.func 114) #[] #[]] w fun r w' => r = .returned (.string T) ∧ Sc B b s σ1 w' ∧ Only b w w'))
    (CS : Hid (∀ w, EntV w → Tabs w → Calls Tryz.prog 65 #[.string T] w fun e w' => e = .returned (.tuple #[.string X, .string Y, .bool A]) ∧ Below w.heap.size w w')) :
    Calls Tryz.prog 98 #[.pointer (some ⟨b, 0, none⟩)] w fun r w' => r = .returned (.string T) ∧ Sc B b s (if A = true then σ1 else wrongS 3 σ.pos σ1) w' ∧ Only b w w' := by
  have c1 := hS.c1
  clear hS
  go_enter Tryz.func98, Tryz.ntmps98
  go_wp2_with fail
  refine C.out.mono ?_
  rintro e w1 ⟨rfl, h1, h2⟩
  clear c1
  have H1 := Lib.hid h1
  have H2 := Lib.hid h2
  have CS := Lib.hid (CS.out w1 h1.glob.ent h1.glob.tabs)
  clear h1 h2
  go_wp2_with fail
  refine CS.out.mono ?_
  rintro e w2 ⟨rfl, hb⟩
  cases A with
  | true =>
    go_wp2
    go_ret
    exact ⟨rfl, H1.out.step hb, H2.out.trans (Only.of hb)⟩
  | false =>
    have CW := Lib.hid (swrong B b s σ1 w2 (H1.out.step hb) 3 σ.pos (by decide))
    go_wp2_with fail
    refine CW.out.mono ?_
    rintro e w3 ⟨rfl, h3, h4⟩
    go_wp2
    go_ret
    exact ⟨rfl, h3, (H2.out.trans (Only.of hb)).trans h4⟩
/-- **(*Scanner).name.** -/
theorem sname (B b : Nat) (s : ByteArray) (σ : St) (w : World) (hS : Sc B b s σ w) :
    Calls Tryz.prog 98 #[.pointer (some ⟨b, 0, none⟩)] w fun r w' => r = .returned (.string (str (runW nb (bl s) σ))) ∧ Sc B b s (nameS (bl s) σ) w' ∧ Only b w w' := by
  have hl := run_len nb (bl s) σ
  have hs := hS.len
  rw [bl_size] at hl
  refine sname0 B b s _ (str (splitL (runW nb (bl s) σ)).1) (str (splitL (runW nb (bl s) σ)).2.1) σ _ w hS (splitL (runW nb (bl s) σ)).2.2 (Lib.hid (swhile B b s σ w hS _ _ nb enters_name (fun w' _ => tells_name w'))) (Lib.hid fun w hE hT => ?_)
  have c := csplit (str (runW nb (bl s) σ)) w (by rw [str_size]; omega) hT hE.maxl
  rw [str_bl] at c
  exact c

end Go.Proofs.YtekmenkebokdoaaGreatDoor
