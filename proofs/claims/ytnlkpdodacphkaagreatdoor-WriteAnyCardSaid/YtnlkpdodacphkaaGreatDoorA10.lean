/-
  The walk of (*Scanner).while over whatever tells of each byte whether it goes on; and of name.
  The walk of (*Scanner).quoted.
  The walks of slices.ContainsFunc at attributes, and of (*Scanner).attr.
-/
import Derived.Test.YtnlkpdodacphkaaGreatDoorA9
import Derived.RegionTactic
namespace Go.Proofs.YtnlkpdodacphkaaGreatDoor
open Go.RowKit
set_option maxRecDepth 100000

/-- A function value tells of each byte what h does, and leaves memory alone. -/
def Tells (n : Nat) (caps : Array Value) (h : UInt8 → Bool) (w : World) : Prop :=
  ∀ c : UInt8, Calls Tryz.prog n (#[.int .u8 (c.toNat : Int)] ++ caps) w fun e w' => e = .returned (.bool (h c)) ∧ w' = w

theorem tw_at (h : UInt8 → Bool) : ∀ (l : List UInt8) (k : Nat) (c : UInt8), l[k]? = some c → k ≤ (l.takeWhile h).length → (h c = true ↔ k < (l.takeWhile h).length)
  | [], k, c, hc, _ => by simp at hc
  | x :: l, 0, c, hc, _ => by
    simp at hc; subst hc
    rw [List.takeWhile_cons]
    by_cases hx : h x = true
    · simp [hx]
    · simp [hx]
  | x :: l, k + 1, c, hc, hk => by
    rw [List.takeWhile_cons] at hk ⊢
    by_cases hx : h x = true
    · rw [if_pos hx] at hk ⊢
      simp at hc hk ⊢
      exact tw_at h l k c (by simpa using hc) hk
    · rw [if_neg hx] at hk
      simp at hk
theorem run_at (h : UInt8 → Bool) (s : ByteArray) (σ : St) (k P : Nat) (hP : σ.pos + k = P) (hin : P < s.size) (hk : k ≤ (runW h (bl s) σ).length) : h (s[P]'hin) = true ↔ k < (runW h (bl s) σ).length := by
  refine tw_at h _ k _ ?_ hk
  subst hP
  rw [List.getElem?_drop]
  have hl : σ.pos + k < (bl s).length := by rw [bl_size]; exact hin
  rw [List.getElem?_eq_getElem hl]
  rfl
set_option maxHeartbeats 4000000 in
theorem swhile0 (B b : Nat) (s : ByteArray) (σ : St) (w : World) (hS : Sc B b s σ w) (n : Nat) (caps : Array Value) (h : UInt8 → Bool)
    (hn : ∀ (args : Array Value) (w : World), (callFunc n args).run Tryz.prog w = .ok (.enter n args) w)
    (HT : Hid (∀ w', Only b w w' → Tells n caps h w')) (L : Nat) (hL : Hid ((runW h (bl s) σ).length = L)) (T : ByteArray) (hT : Hid (s.extract σ.pos (σ.pos + L) = T)) :
    Calls Tryz.prog 174 #[.pointer (some ⟨b, 0, none⟩), .func (.func n) #[] caps] w fun r w' => r = .returned (.string T) ∧ Sc B b s (go_ σ (σ.pos + L)) w' ∧ Only b w w' := by
  have c1 := hS.c1
  have H := Lib.hid hS
  have hln := hS.len
  have hps := hS.pos
  clear hS
  go_enter Tryz.func174, Tryz.ntmps174
  go_wp2
  clear c1
  go_loopg [] (s.size - σ.pos) (fun g wr => ∃ (k P : Nat), P ≤ s.size ∧ g + P = s.size ∧ k ≤ L ∧ Hid (σ.pos + k = P) ∧ Hid (Sc B b s (go_ σ P) wr) ∧ Hid (Only b w wr))
  case atStart => exact ⟨0, σ.pos, by omega, by omega, Nat.zero_le _, Lib.hid rfl, Lib.hid H.out, Lib.hid (Only.refl _ _)⟩
  case round =>
    obtain ⟨k, P, hk, hg, hkL, HP, HS, HO⟩ := hrel
    have c0 := HS.out.c0
    have c1 : wr.cell? ⟨b, 1, none⟩ = some (.int .i64 (P : Int)) := HS.out.c1
    have f1 := HS.out.fz 1
    by_cases hin : P < s.size
    · have hin' : (P : Int) < (s.size : Int) := by omega
      obtain ⟨c, hc⟩ : ∃ c, s[P]'hin = c := ⟨_, rfl⟩
      have C := fun n => HT.out (wr.drewN n) (HO.out.trans (Only.drewN b wr n)) c
      cases hh : h c with
      | true =>
        simp only [hh] at C
        have hk1 : k + 1 ≤ L := by
          have := (run_at h s σ k P HP.out hin (by rw [hL.out]; exact hkL)).1 (by rw [hc]; exact hh)
          rw [hL.out] at this; exact this
        have C := Lib.hid C
        go_wp2
        go_quiet (exact Calls.quiet_of_same (C.out _))
        go_wp2
        go_roundg (s.size - (P + 1))
        case measure => omega
        case rel => exact ⟨k + 1, P + 1, by omega, by omega, hk1, Lib.hid (by have := HP.out; omega), Lib.hid (((HS.out.step (below_drewN wr _)).go (P + 1) (by omega))), Lib.hid ((HO.out.trans (Only.drewN b wr _)).trans (Only.set b 1 _ _))⟩
      | false =>
        simp only [hh] at C
        have C := Lib.hid C
        go_wp2
        go_quiet (exact Calls.quiet_of_same (C.out _))
        go_wp2
        have hkL' : k = L := by
          have := (run_at h s σ k P HP.out hin (by rw [hL.out]; exact hkL))
          rw [hc, hh, hL.out] at this
          have h2 : ¬ k < L := fun x => absurd (this.2 x) (by decide)
          omega
        have e1 : (σ.pos : Int) ≤ (P : Int) := by have := HP.out; omega
        have e2 : (P : Int) ≤ (s.size : Int) := by omega
        go_quiet (fail)
        go_wp2
        go_ret
        have hT' := hT.out
        have hP' := HP.out
        have e : σ.pos + L = P := by omega
        rw [e] at hT' ⊢
        subst hT'
        exact ⟨rfl, (HS.out.step (below_drewN wr _)).step (below_drewN _ _), (HO.out.trans (Only.drewN b wr _)).trans (Only.drewN b _ _)⟩
    · have hin' : decide ((P : Int) < (s.size : Int)) = false := decide_eq_false (by omega)
      go_wp2
      go_quiet (fail)
      go_wp2
      have hkL' : k = L := by
        have := run_len h (bl s) σ
        rw [hL.out, bl_size] at this
        have := HP.out
        omega
      have e1 : (σ.pos : Int) ≤ (P : Int) := by have := HP.out; omega
      have e2 : (P : Int) ≤ (s.size : Int) := by omega
      go_quiet (fail)
      go_wp2
      go_ret
      have hT' := hT.out
      have hP' := HP.out
      have e : σ.pos + L = P := by omega
      rw [e] at hT' ⊢
      subst hT'
      exact ⟨rfl, (HS.out.step (below_drewN wr _)).step (below_drewN _ _), (HO.out.trans (Only.drewN b wr _)).trans (Only.drewN b _ _)⟩
/-- **(*Scanner).while.** -/
theorem swhile (B b : Nat) (s : ByteArray) (σ : St) (w : World) (hS : Sc B b s σ w) (n : Nat) (caps : Array Value) (h : UInt8 → Bool)
    (hn : ∀ (args : Array Value) (w : World), (callFunc n args).run Tryz.prog w = .ok (.enter n args) w) (HT : ∀ w', Only b w w' → Tells n caps h w') :
    Calls Tryz.prog 174 #[.pointer (some ⟨b, 0, none⟩), .func (.func n) #[] caps] w fun r w' => r = .returned (.string (str (runW h (bl s) σ))) ∧ Sc B b s (whileS h (bl s) σ) w' ∧ Only b w w' := by
  refine swhile0 B b s σ w hS n caps h hn (Lib.hid HT) _ (Lib.hid rfl) _ (Lib.hid ?_)
  rw [← bl_str (s.extract σ.pos _), bl_sub]
  congr 1
  rw [List.drop_take]
  unfold runW
  have h1 := List.takeWhile_prefix (p := h) (l := (bl s).drop σ.pos)
  rw [Nat.add_sub_cancel_left]
  exact (List.prefix_iff_eq_take.1 h1).symm
/-- Blanks; the letters of names; all but <. -/
theorem tells_blank (w : World) : Tells 175 #[] bb w := fun c => (cblank c w).mono fun _ _ ⟨h1, h2⟩ => ⟨h1, h2.symm⟩
set_option maxHeartbeats 1000000 in
theorem tells_text (w : World) : Tells 178 #[] tb w := by
  intro c
  show Calls Tryz.prog 178 #[.int .u8 (c.toNat : Int)] w _
  unfold tb
  cases h : (c != 60) with
  | true =>
    have h' : c.toNat ≠ 60 := by intro e; rw [show c = 60 from UInt8.toNat_inj.1 e] at h; exact absurd h (by decide)
    have q : ((c.toNat : Int) != 60) = true := by simp; omega
    clear h
    go_enter Tryz.func178, Tryz.ntmps178
    go_wp2
    go_ret
    exact ⟨rfl, rfl⟩
  | false =>
    have h' : c = 60 := by simpa using h
    subst h'
    clear h
    go_enter Tryz.func178, Tryz.ntmps178
    go_wp2
    go_ret
    exact ⟨rfl, rfl⟩
set_option maxHeartbeats 1000000 in
theorem tells_name (w : World) : Tells 190 #[] nb w := by
  intro c
  show Calls Tryz.prog 190 #[.int .u8 (c.toNat : Int)] w _
  have C := cpart (c.toNat : Int) w (by omega) (by have := UInt8.toNat_lt c; omega)
  unfold nb
  cases h : partB (c.toNat : Int) with
  | true =>
    rw [h] at C
    have C := Lib.hid C
    clear h
    go_enter Tryz.func190, Tryz.ntmps190
    go_wp2_with fail
    refine C.out.mono ?_
    rintro e w1 ⟨rfl, rfl⟩
    go_wp2
    go_ret
    exact ⟨rfl, rfl⟩
  | false =>
    rw [h] at C
    have C := Lib.hid C
    cases h2 : (c == 58) with
    | true =>
      have h' : c = 58 := by simpa using h2
      subst h'
      clear h h2
      go_enter Tryz.func190, Tryz.ntmps190
      go_wp2_with fail
      refine C.out.mono ?_
      rintro e w1 ⟨rfl, rfl⟩
      go_wp2
      go_ret
      exact ⟨rfl, rfl⟩
    | false =>
      have h' : c.toNat ≠ 58 := by intro e; rw [show c = 58 from UInt8.toNat_inj.1 e] at h2; exact absurd h2 (by decide)
      have q : ((c.toNat : Int) == 58) = false := by simp; omega
      clear h h2
      go_enter Tryz.func190, Tryz.ntmps190
      go_wp2_with fail
      refine C.out.mono ?_
      rintro e w1 ⟨rfl, rfl⟩
      go_wp2
      go_ret
      exact ⟨rfl, rfl⟩
theorem enters_blank : ∀ (args : Array Value) (w : World), (callFunc 175 args).run Tryz.prog w = .ok (.enter 175 args) w := enters_of Tryz.func175 (by kernel_rfl) rfl
theorem enters_text : ∀ (args : Array Value) (w : World), (callFunc 178 args).run Tryz.prog w = .ok (.enter 178 args) w := enters_of Tryz.func178 (by kernel_rfl) rfl
theorem enters_name : ∀ (args : Array Value) (w : World), (callFunc 190 args).run Tryz.prog w = .ok (.enter 190 args) w := enters_of Tryz.func190 (by kernel_rfl) rfl
theorem sblanks (B b : Nat) (s : ByteArray) (σ : St) (w : World) (hS : Sc B b s σ w) :
    Calls Tryz.prog 174 #[.pointer (some ⟨b, 0, none⟩), .func (.func 175) #[] #[]] w fun r w' => r = .returned (.string (str (runW bb (bl s) σ))) ∧ Sc B b s (whileS bb (bl s) σ) w' ∧ Only b w w' :=
  swhile B b s σ w hS _ _ bb enters_blank (fun w' _ => tells_blank w')

/-! ### name -/
set_option maxHeartbeats 2000000 in
theorem sname0 (B b : Nat) (s T X Y : ByteArray) (σ σ1 : St) (w : World) (hS : Sc B b s σ w) (A : Bool)
    (C : Hid (Calls Tryz.prog 174 #[.pointer (some ⟨b, 0, none⟩), .func (.func 190) #[] #[]] w fun r w' => r = .returned (.string T) ∧ Sc B b s σ1 w' ∧ Only b w w'))
    (CS : Hid (∀ w, EntV w → Tabs w → Calls Tryz.prog 131 #[.string T] w fun e w' => e = .returned (.tuple #[.string X, .string Y, .bool A]) ∧ Below w.heap.size w w')) :
    Calls Tryz.prog 173 #[.pointer (some ⟨b, 0, none⟩)] w fun r w' => r = .returned (.string T) ∧ Sc B b s (if A = true then σ1 else wrongS 3 σ.pos σ1) w' ∧ Only b w w' := by
  have c1 := hS.c1
  clear hS
  go_enter Tryz.func173, Tryz.ntmps173
  go_wp2_with fail
  refine C.out.mono ?_
  rintro e w1 ⟨rfl, h1, h2⟩
  clear c1
  have H1 := Lib.hid h1
  have H2 := Lib.hid h2
  have CS := Lib.hid (CS.out w1 h1.glob.ent h1.glob.tabs)
  clear h1 h2
  go_wp2_with fail
  refine CS.out.mono ?_
  rintro e w2 ⟨rfl, hb⟩
  cases A with
  | true =>
    go_wp2
    go_ret
    exact ⟨rfl, H1.out.step hb, H2.out.trans (Only.of hb)⟩
  | false =>
    have CW := Lib.hid (swrong B b s σ1 w2 (H1.out.step hb) 3 σ.pos (by decide))
    go_wp2_with fail
    refine CW.out.mono ?_
    rintro e w3 ⟨rfl, h3, h4⟩
    go_wp2
    go_ret
    exact ⟨rfl, h3, (H2.out.trans (Only.of hb)).trans h4⟩
/-- **(*Scanner).name.** -/
theorem sname (B b : Nat) (s : ByteArray) (σ : St) (w : World) (hS : Sc B b s σ w) :
    Calls Tryz.prog 173 #[.pointer (some ⟨b, 0, none⟩)] w fun r w' => r = .returned (.string (str (runW nb (bl s) σ))) ∧ Sc B b s (nameS (bl s) σ) w' ∧ Only b w w' := by
  have hl := run_len nb (bl s) σ
  have hs := hS.len
  rw [bl_size] at hl
  refine sname0 B b s _ (str (splitL (runW nb (bl s) σ)).1) (str (splitL (runW nb (bl s) σ)).2.1) σ _ w hS (splitL (runW nb (bl s) σ)).2.2 (Lib.hid (swhile B b s σ w hS _ _ nb enters_name (fun w' _ => tells_name w'))) (Lib.hid fun w hE hT => ?_)
  have c := csplit (str (runW nb (bl s) σ)) w (by rw [str_size]; omega) hT hE.maxl
  rw [str_bl] at c
  exact c

end Go.Proofs.YtnlkpdodacphkaaGreatDoor
namespace Go.Proofs.YtnlkpdodacphkaaGreatDoor
open Go.RowKit
set_option maxRecDepth 100000

set_option maxHeartbeats 1000000 in
theorem tells_quote (Q : Nat) (q : UInt8) (w : World) (hq : w.cell? ⟨Q, 0, none⟩ = some (.int .u8 (q.toNat : Int))) : Tells 207 #[.pointer (some ⟨Q, 0, none⟩)] (qb q) w := by
  intro c
  show Calls Tryz.prog 207 #[.int .u8 (c.toNat : Int), .pointer (some ⟨Q, 0, none⟩)] w _
  unfold qb
  cases h : (c != q) with
  | true =>
    have h' : c.toNat ≠ q.toNat := by intro e; rw [show c = q from UInt8.toNat_inj.1 e] at h; simp at h
    have q1 : ((c.toNat : Int) != (q.toNat : Int)) = true := by simp; omega
    have q1' : q.toNat = 60 → c.toNat ≠ 60 := fun e => by omega
    clear h
    cases h : (c != 60) with
    | true =>
      have h' : c.toNat ≠ 60 := by intro e; rw [show c = 60 from UInt8.toNat_inj.1 e] at h; exact absurd h (by decide)
      have q2 : ((c.toNat : Int) != 60) = true := by simp; omega
      clear h q1'
      go_enter Tryz.func207, Tryz.ntmps207
      go_wp2
      go_ret
      exact ⟨rfl, rfl⟩
    | false =>
      have h' : c = 60 := by simpa using h
      subst h'
      have q2 : ((60 : Int) != (q.toNat : Int)) = true := by
        have : q.toNat ≠ 60 := fun e => q1' e (by decide)
        simp; omega
      clear h q1'
      go_enter Tryz.func207, Tryz.ntmps207
      go_wp2
      go_ret
      exact ⟨rfl, rfl⟩
  | false =>
    have h' : c = q := by simpa using h
    subst h'
    have q1 : ((c.toNat : Int) != (c.toNat : Int)) = false := by simp
    clear h
    go_enter Tryz.func207, Tryz.ntmps207
    go_wp2
    go_ret
    exact ⟨rfl, rfl⟩
theorem enters_quote : ∀ (args : Array Value) (w : World), (callFunc 207 args).run Tryz.prog w = .ok (.enter 207 args) w := enters_of Tryz.func207 (by kernel_rfl) rfl
theorem stands_one (c : UInt8) (s : ByteArray) (σ : St) : standsS [c] (bl s) σ = true → ∃ h : σ.pos < s.size, s[σ.pos]'h = c := by
  intro h
  have hl := stands_len h (by simp)
  rw [bl_size] at hl
  simp at hl
  refine ⟨by omega, ?_⟩
  unfold standsS at h
  have hl' : σ.pos < (bl s).length := by rw [bl_size]; omega
  rw [List.drop_eq_getElem_cons hl'] at h
  have : c = (bl s)[σ.pos] := by simpa [List.isPrefixOf] using h
  rw [this]; rfl
theorem byteAt_get (s : ByteArray) (k : Nat) (h : k < s.size) : byteAt (bl s) k = s[k]'h := by
  unfold byteAt
  have hl' : k < (bl s).length := by rw [bl_size]; omega
  simp [List.getD, hl']; rfl
set_option maxHeartbeats 4000000 in
theorem squoted_no (B b : Nat) (s : ByteArray) (σ : St) (w : World) (hS : Sc B b s σ w) (h1 : standsS [34] (bl s) σ = false) (h2 : standsS [39] (bl s) σ = false) :
    Calls Tryz.prog 192 #[.pointer (some ⟨b, 0, none⟩)] w fun r w' => r = .returned (.string ⟨#[]⟩) ∧ Sc B b s (wrongS 3 σ.pos σ) w' ∧ Only b w w' := by
  have C1 := Lib.hid (sstands_at B b s ⟨#[34]⟩ σ w hS _ h1)
  have C2 := Lib.hid (fun w1 (h : Sc B b s σ w1) => sstands_at B b s ⟨#[39]⟩ σ w1 h _ h2)
  clear hS h1 h2
  go_enter Tryz.func192, Tryz.ntmps192
  go_wp2_with fail
  refine C1.out.mono ?_
  rintro e w1 ⟨rfl, h1, hb1⟩
  have H1 := Lib.hid h1
  have O1 := Lib.hid (Only.of (b := b) hb1)
  clear h1 hb1
  go_wp2_with fail
  refine (C2.out w1 H1.out).mono ?_
  rintro e w2 ⟨rfl, h2, hb2⟩
  have H2 := Lib.hid h2
  have O2 := Lib.hid (O1.out.trans (Only.of (b := b) hb2))
  clear h2 hb2
  have c1 := H2.out.c1
  have CW := Lib.hid (swrong B b s σ _ H2.out 3 σ.pos (by decide))
  go_wp2_with fail
  refine CW.out.mono ?_
  rintro e w3 ⟨rfl, h3, h4⟩
  go_wp2
  go_ret
  exact ⟨rfl, h3, O2.out.trans h4⟩
set_option maxHeartbeats 4000000 in
theorem squoted_yes (B b : Nat) (s : ByteArray) (σ : St) (w : World) (hS : Sc B b s σ w) (hp : σ.pos < s.size) (q : UInt8) (hq : Hid (s[σ.pos]'hp = q)) (T : ByteArray) (L : Nat)
    (h1 : standsS [34] (bl s) σ = true ∨ (standsS [34] (bl s) σ = false ∧ standsS [39] (bl s) σ = true)) (HL : Hid ((whileS (qb q) (bl s) (go_ σ (σ.pos + 1))).pos = L)) (HR : Hid (str (runW (qb q) (bl s) (go_ σ (σ.pos + 1))) = T)) (e : Bool)
    (HE : Hid ((∃ h : L < s.size, s[L]'h = q) ↔ e = true)) :
    Calls Tryz.prog 192 #[.pointer (some ⟨b, 0, none⟩)] w fun r w' => (r = .returned (.string (if e = true then str (openL (bl T)).1 else ⟨#[]⟩)) ∧ Sc B b s (if e = true then openedS (bl T) (σ.pos + 1) (go_ (go_ σ L) (L + 1)) else wrongS 3 (σ.pos + 1) (go_ σ L)) w' ∧ Only b w w') := by
  have hmf : ∀ (fn : Fn) (first cap : Array Value) (w : World), (Instr.makeFunc fn first cap).run Tryz.prog w = .ok (.func fn first cap) w := fun _ _ _ _ => rfl
  have hp' : (σ.pos : Int) < (s.size : Int) := by omega
  have hln := hS.len
  rcases h1 with h1 | ⟨h1, h2⟩
  · have C1 := Lib.hid (sstands_at B b s ⟨#[34]⟩ σ w hS _ h1)
    clear h1 hS
    go_enter Tryz.func192, Tryz.ntmps192
    go_wp2_with fail
    refine C1.out.mono ?_
    rintro e w1 ⟨rfl, h1, hb1⟩
    have H2 := Lib.hid h1
    have O2 := Lib.hid (Only.of (b := b) hb1)
    clear h1 hb1
    have c0 := H2.out.c0
    have c1 := H2.out.c1
    have H3 := (H2.out.step ((Below.refl _ _).alloc (Nat.le_refl _) (.cells #[.int .u8 0] 5)))
    have d0 := H3.c0
    have d1 := H3.c1
    clear H3
    go_wp2
    go_region
    rw [hq.out]
    have HQ := H2.out.step (((Below.refl _ _).alloc (Nat.le_refl _) (.cells #[.int .u8 (q.toNat : Int)] 5)).drew)
    have HC : ((w1.alloc (.cells #[.int .u8 (q.toNat : Int)] 5)).drew).cell? ⟨w1.heap.size, 0, none⟩ = some (.int .u8 (q.toNat : Int)) := by simp
    have HO := O2.out.trans ((Only.alloc b w1 (.cells #[.int .u8 (q.toNat : Int)] 5)).trans (Only.of ((Below.refl _ _).drew)))
    have HZ : b < w1.heap.size := H2.out.lt
    have HZ2 : w1.heap.size < (w1.alloc (.cells #[.int .u8 (q.toNat : Int)] 5)).drew.heap.size := by simp
    clear c0 c1 d0 d1 H2 O2
    generalize (w1.alloc (.cells #[.int .u8 (q.toNat : Int)] 5)).drew = w2 at HQ HC HO HZ2 ⊢
    generalize w1.heap.size = Q at HC HZ HZ2 ⊢
    have c1 := HQ.c1
    have f1 := HQ.fz 1
    have H4 := HQ.go (σ.pos + 1) (by omega)
    have C4 : (w2.setCell ⟨b, 1, none⟩ (.int .i64 ((σ.pos + 1 : Nat) : Int))).cell? ⟨Q, 0, none⟩ = some (.int .u8 (q.toNat : Int)) := by
      rw [World.cell?_of_block (w := w2) (Below.heap_setCell _ _ _ _ (by show Q ≠ b; omega))]; exact HC
    have HO := HO.trans (Only.set b 1 w2 (.int .i64 ((σ.pos + 1 : Nat) : Int)))
    have HZ3 : Q < (w2.setCell ⟨b, 1, none⟩ (.int .i64 ((σ.pos + 1 : Nat) : Int))).heap.size := by simp [World.setCell]; exact HZ2
    obtain ⟨P1, hP1⟩ : ∃ P1, σ.pos + 1 = P1 := ⟨_, rfl⟩
    have hP1' : (σ.pos : Int) + 1 = (P1 : Int) := by omega
    rw [hP1] at H4 C4 HO HZ3
    rw [hP1] at HL HR
    have HP1 := Lib.hid hP1
    have H4 := Lib.hid H4
    have C4 := Lib.hid C4
    have HO := Lib.hid HO
    clear HQ HC HZ2 hP1
    go_wp2_with fail
    clear c1 f1 hP1'
    generalize w2.setCell ⟨b, 1, none⟩ (.int .i64 (P1 : Int)) = w3 at H4 C4 HO HZ3 ⊢
    have C5 := swhile B b s (go_ σ P1) w3 H4.out 207 #[.pointer (some ⟨Q, 0, none⟩)] (qb q) enters_quote (fun w' h => tells_quote Q q w' (by rw [World.cell?_of_block (w := w3) (h.block Q HZ3 (by omega))]; exact C4.out))
    have hgo : whileS (qb q) (bl s) (go_ σ P1) = go_ σ L := by rw [← HL.out]; rfl
    rw [HR.out, hgo] at C5
    have C5 := Lib.hid C5
    have hLs : L ≤ s.size := by
      have := run_len (qb q) (bl s) (go_ σ P1)
      have h2 : (whileS (qb q) (bl s) (go_ σ P1)).pos = P1 + (runW (qb q) (bl s) (go_ σ P1)).length := rfl
      rw [bl_size] at this
      have h3 := HP1.out
      have h4 : (go_ σ P1).pos = P1 := rfl
      rw [h4] at this
      rw [HL.out] at h2
      omega
    have hTs : T.size ≤ s.size := by
      rw [← HR.out, str_size]
      have := run_len (qb q) (bl s) (go_ σ P1)
      rw [bl_size] at this
      omega
    have hPs : P1 ≤ s.size := by have := HP1.out; omega
    have C4' := Lib.hid (fun w' (h : Only b w3 w') => show w'.cell? ⟨Q, 0, none⟩ = some (.int .u8 (q.toNat : Int)) by rw [World.cell?_of_block (w := w3) (h.block Q HZ3 (by omega))]; exact C4.out)
    clear hgo
    refine C5.out.mono ?_
    rintro r w4 ⟨rfl, h4, o4⟩
    have c0 := h4.c0
    have c1 : w4.cell? ⟨b, 1, none⟩ = some (.int .i64 (L : Int)) := h4.c1
    have cQ := C4'.out w4 o4
    have h4 := Lib.hid h4
    have o4 := Lib.hid (HO.out.trans o4)
    have HP1' := Lib.hid (show P1 = σ.pos + 1 from HP1.out.symm)
    clear C4' C4 C5 H4 HO HZ3 HZ HP1 hp hp' hq
    by_cases hL1 : L < s.size
    · have hL1' : (L : Int) < (s.size : Int) := by omega
      have qL : ((L : Int) == (s.size : Int)) = false := by simp; omega
      obtain ⟨c, hc⟩ : ∃ c, s[L]'hL1 = c := ⟨_, rfl⟩
      by_cases hcq : c = q
      · have he := HE.out.1 ⟨hL1, hc.trans hcq⟩
        subst he
        subst hcq
        clear HE
        go_wp2
        go_quiet (fail)
        have h5 := h4.out.step (below_drewN w4 nq)
        have d1 : (w4.drewN nq).cell? ⟨b, 1, none⟩ = some (.int .i64 (L : Int)) := h5.c1
        have g1 := h5.fz 1
        have o5 := o4.out.trans (Only.drewN b w4 nq)
        clear h4 o4 c0 c1 cQ
        generalize w4.drewN nq = w5 at h5 d1 g1 o5 ⊢
        have h6 := Lib.hid (h5.go (L + 1) (by omega))
        have o6 := Lib.hid (o5.trans (Only.set b 1 w5 (.int .i64 ((L + 1 : Nat) : Int))))
        clear h5 o5 hc
        go_wp2_with fail
        rw [show (L : Int) + 1 = ((L + 1 : Nat) : Int) from rfl]
        clear d1 g1
        have C6 := Lib.hid (sopened B b s T _ _ P1 (by omega) (by omega) h6.out)
        refine C6.out.mono ?_
        rintro r w7 ⟨rfl, h7, o7⟩
        rw [HP1'.out] at h7
        go_wp2
        go_ret
        exact ⟨rfl, h7, o6.out.trans o7⟩
      · have he : e = false := by
          cases e with
          | false => rfl
          | true => obtain ⟨h, h'⟩ := HE.out.2 rfl; exact absurd (hc.symm.trans h') hcq
        subst he
        have qc : ((c.toNat : Int) != (q.toNat : Int)) = true := by
          have : c.toNat ≠ q.toNat := fun e => hcq (UInt8.toNat_inj.1 e)
          simp; omega
        clear HE hcq
        go_wp2
        go_quiet (fail)
        have C6 := Lib.hid (swrong B b s _ _ (h4.out.step (below_drewN w4 nq)) 3 P1 (by decide))
        go_wp2_with fail
        refine C6.out.mono ?_
        rintro r w7 ⟨rfl, h7, o7⟩
        rw [HP1'.out] at h7
        go_wp2
        go_ret
        exact ⟨rfl, h7, (o4.out.trans (Only.drewN b w4 nq)).trans o7⟩
    · have he : e = false := by
        cases e with
        | false => rfl
        | true => obtain ⟨h, _⟩ := HE.out.2 rfl; exact absurd h hL1
      subst he
      have qL : ((L : Int) == (s.size : Int)) = true := by simp; omega
      clear HE
      go_wp2
      go_quiet (fail)
      have C6 := Lib.hid (swrong B b s _ _ (h4.out.step (below_drewN w4 nq)) 3 P1 (by decide))
      go_wp2_with fail
      refine C6.out.mono ?_
      rintro r w7 ⟨rfl, h7, o7⟩
      rw [HP1'.out] at h7
      go_wp2
      go_ret
      exact ⟨rfl, h7, (o4.out.trans (Only.drewN b w4 nq)).trans o7⟩
  · have C1 := Lib.hid (sstands_at B b s ⟨#[34]⟩ σ w hS _ h1)
    have C2 := Lib.hid (fun w1 (h : Sc B b s σ w1) => sstands_at B b s ⟨#[39]⟩ σ w1 h _ h2)
    clear h1 h2 hS
    go_enter Tryz.func192, Tryz.ntmps192
    go_wp2_with fail
    refine C1.out.mono ?_
    rintro e0 w0 ⟨rfl, h0, hb0⟩
    have H1 := Lib.hid h0
    have O1 := Lib.hid (Only.of (b := b) hb0)
    clear h0 hb0
    go_wp2_with fail
    refine (C2.out w0 H1.out).mono ?_
    rintro e0 w1 ⟨rfl, h0, hb0⟩
    have H2 := Lib.hid h0
    have O2 := Lib.hid (O1.out.trans (Only.of (b := b) hb0))
    clear h0 hb0 H1 O1 C1 C2
    have c0 := H2.out.c0
    have c1 := H2.out.c1
    have H3 := (H2.out.step ((Below.refl _ _).alloc (Nat.le_refl _) (.cells #[.int .u8 0] 5)))
    have d0 := H3.c0
    have d1 := H3.c1
    clear H3
    go_wp2
    go_region
    rw [hq.out]
    have HQ := H2.out.step (((Below.refl _ _).alloc (Nat.le_refl _) (.cells #[.int .u8 (q.toNat : Int)] 5)).drew)
    have HC : ((w1.alloc (.cells #[.int .u8 (q.toNat : Int)] 5)).drew).cell? ⟨w1.heap.size, 0, none⟩ = some (.int .u8 (q.toNat : Int)) := by simp
    have HO := O2.out.trans ((Only.alloc b w1 (.cells #[.int .u8 (q.toNat : Int)] 5)).trans (Only.of ((Below.refl _ _).drew)))
    have HZ : b < w1.heap.size := H2.out.lt
    have HZ2 : w1.heap.size < (w1.alloc (.cells #[.int .u8 (q.toNat : Int)] 5)).drew.heap.size := by simp
    clear c0 c1 d0 d1 H2 O2
    generalize (w1.alloc (.cells #[.int .u8 (q.toNat : Int)] 5)).drew = w2 at HQ HC HO HZ2 ⊢
    generalize w1.heap.size = Q at HC HZ HZ2 ⊢
    have c1 := HQ.c1
    have f1 := HQ.fz 1
    have H4 := HQ.go (σ.pos + 1) (by omega)
    have C4 : (w2.setCell ⟨b, 1, none⟩ (.int .i64 ((σ.pos + 1 : Nat) : Int))).cell? ⟨Q, 0, none⟩ = some (.int .u8 (q.toNat : Int)) := by
      rw [World.cell?_of_block (w := w2) (Below.heap_setCell _ _ _ _ (by show Q ≠ b; omega))]; exact HC
    have HO := HO.trans (Only.set b 1 w2 (.int .i64 ((σ.pos + 1 : Nat) : Int)))
    have HZ3 : Q < (w2.setCell ⟨b, 1, none⟩ (.int .i64 ((σ.pos + 1 : Nat) : Int))).heap.size := by simp [World.setCell]; exact HZ2
    obtain ⟨P1, hP1⟩ : ∃ P1, σ.pos + 1 = P1 := ⟨_, rfl⟩
    have hP1' : (σ.pos : Int) + 1 = (P1 : Int) := by omega
    rw [hP1] at H4 C4 HO HZ3
    rw [hP1] at HL HR
    have HP1 := Lib.hid hP1
    have H4 := Lib.hid H4
    have C4 := Lib.hid C4
    have HO := Lib.hid HO
    clear HQ HC HZ2 hP1
    go_wp2_with fail
    clear c1 f1 hP1'
    generalize w2.setCell ⟨b, 1, none⟩ (.int .i64 (P1 : Int)) = w3 at H4 C4 HO HZ3 ⊢
    have C5 := swhile B b s (go_ σ P1) w3 H4.out 207 #[.pointer (some ⟨Q, 0, none⟩)] (qb q) enters_quote (fun w' h => tells_quote Q q w' (by rw [World.cell?_of_block (w := w3) (h.block Q HZ3 (by omega))]; exact C4.out))
    have hgo : whileS (qb q) (bl s) (go_ σ P1) = go_ σ L := by rw [← HL.out]; rfl
    rw [HR.out, hgo] at C5
    have C5 := Lib.hid C5
    have hLs : L ≤ s.size := by
      have := run_len (qb q) (bl s) (go_ σ P1)
      have h2 : (whileS (qb q) (bl s) (go_ σ P1)).pos = P1 + (runW (qb q) (bl s) (go_ σ P1)).length := rfl
      rw [bl_size] at this
      have h3 := HP1.out
      have h4 : (go_ σ P1).pos = P1 := rfl
      rw [h4] at this
      rw [HL.out] at h2
      omega
    have hTs : T.size ≤ s.size := by
      rw [← HR.out, str_size]
      have := run_len (qb q) (bl s) (go_ σ P1)
      rw [bl_size] at this
      omega
    have hPs : P1 ≤ s.size := by have := HP1.out; omega
    have C4' := Lib.hid (fun w' (h : Only b w3 w') => show w'.cell? ⟨Q, 0, none⟩ = some (.int .u8 (q.toNat : Int)) by rw [World.cell?_of_block (w := w3) (h.block Q HZ3 (by omega))]; exact C4.out)
    clear hgo
    refine C5.out.mono ?_
    rintro r w4 ⟨rfl, h4, o4⟩
    have c0 := h4.c0
    have c1 : w4.cell? ⟨b, 1, none⟩ = some (.int .i64 (L : Int)) := h4.c1
    have cQ := C4'.out w4 o4
    have h4 := Lib.hid h4
    have o4 := Lib.hid (HO.out.trans o4)
    have HP1' := Lib.hid (show P1 = σ.pos + 1 from HP1.out.symm)
    clear C4' C4 C5 H4 HO HZ3 HZ HP1 hp hp' hq
    by_cases hL1 : L < s.size
    · have hL1' : (L : Int) < (s.size : Int) := by omega
      have qL : ((L : Int) == (s.size : Int)) = false := by simp; omega
      obtain ⟨c, hc⟩ : ∃ c, s[L]'hL1 = c := ⟨_, rfl⟩
      by_cases hcq : c = q
      · have he := HE.out.1 ⟨hL1, hc.trans hcq⟩
        subst he
        subst hcq
        clear HE
        go_wp2
        go_quiet (fail)
        have h5 := h4.out.step (below_drewN w4 nq)
        have d1 : (w4.drewN nq).cell? ⟨b, 1, none⟩ = some (.int .i64 (L : Int)) := h5.c1
        have g1 := h5.fz 1
        have o5 := o4.out.trans (Only.drewN b w4 nq)
        clear h4 o4 c0 c1 cQ
        generalize w4.drewN nq = w5 at h5 d1 g1 o5 ⊢
        have h6 := Lib.hid (h5.go (L + 1) (by omega))
        have o6 := Lib.hid (o5.trans (Only.set b 1 w5 (.int .i64 ((L + 1 : Nat) : Int))))
        clear h5 o5 hc
        go_wp2_with fail
        rw [show (L : Int) + 1 = ((L + 1 : Nat) : Int) from rfl]
        clear d1 g1
        have C6 := Lib.hid (sopened B b s T _ _ P1 (by omega) (by omega) h6.out)
        refine C6.out.mono ?_
        rintro r w7 ⟨rfl, h7, o7⟩
        rw [HP1'.out] at h7
        go_wp2
        go_ret
        exact ⟨rfl, h7, o6.out.trans o7⟩
      · have he : e = false := by
          cases e with
          | false => rfl
          | true => obtain ⟨h, h'⟩ := HE.out.2 rfl; exact absurd (hc.symm.trans h') hcq
        subst he
        have qc : ((c.toNat : Int) != (q.toNat : Int)) = true := by
          have : c.toNat ≠ q.toNat := fun e => hcq (UInt8.toNat_inj.1 e)
          simp; omega
        clear HE hcq
        go_wp2
        go_quiet (fail)
        have C6 := Lib.hid (swrong B b s _ _ (h4.out.step (below_drewN w4 nq)) 3 P1 (by decide))
        go_wp2_with fail
        refine C6.out.mono ?_
        rintro r w7 ⟨rfl, h7, o7⟩
        rw [HP1'.out] at h7
        go_wp2
        go_ret
        exact ⟨rfl, h7, (o4.out.trans (Only.drewN b w4 nq)).trans o7⟩
    · have he : e = false := by
        cases e with
        | false => rfl
        | true => obtain ⟨h, _⟩ := HE.out.2 rfl; exact absurd h hL1
      subst he
      have qL : ((L : Int) == (s.size : Int)) = true := by simp; omega
      clear HE
      go_wp2
      go_quiet (fail)
      have C6 := Lib.hid (swrong B b s _ _ (h4.out.step (below_drewN w4 nq)) 3 P1 (by decide))
      go_wp2_with fail
      refine C6.out.mono ?_
      rintro r w7 ⟨rfl, h7, o7⟩
      rw [HP1'.out] at h7
      go_wp2
      go_ret
      exact ⟨rfl, h7, (o4.out.trans (Only.drewN b w4 nq)).trans o7⟩
/-- **(*Scanner).quoted.** -/
theorem squoted (B b : Nat) (s : ByteArray) (σ : St) (w : World) (hS : Sc B b s σ w) :
    Calls Tryz.prog 192 #[.pointer (some ⟨b, 0, none⟩)] w fun r w' => r = .returned (.string (str (quotedV (bl s) σ))) ∧ Sc B b s (quotedS (bl s) σ) w' ∧ Only b w w' := by
  unfold quotedV quotedS
  by_cases h : standsS [34] (bl s) σ = true ∨ standsS [39] (bl s) σ = true
  · rw [if_pos h, if_pos h]
    have hp : ∃ h : σ.pos < s.size, True := by
      rcases h with h | h
      · obtain ⟨h1, _⟩ := stands_one 34 s σ h; exact ⟨h1, trivial⟩
      · obtain ⟨h1, _⟩ := stands_one 39 s σ h; exact ⟨h1, trivial⟩
    obtain ⟨hp, _⟩ := hp
    have hq := byteAt_get s σ.pos hp
    have hst : standsS [34] (bl s) σ = true ∨ (standsS [34] (bl s) σ = false ∧ standsS [39] (bl s) σ = true) := by
      cases h1 : standsS [34] (bl s) σ with
      | true => exact .inl rfl
      | false => rw [h1] at h; exact .inr ⟨rfl, by simpa using h⟩
    have hfine : Fine (bl s).length ⟨σ.pos, 0, 0⟩ := ⟨by show σ.pos ≤ _; rw [bl_size]; omega, .inl rfl, Int.le_refl _, by show (0 : Int) ≤ _; omega⟩
    have hL : (quoteS (bl s) σ).pos ≤ s.size := by
      have h1 := (quote_fine hfine (by rw [bl_size]; exact hp)).pos
      rw [bl_size] at h1
      exact h1
    have HE : (∃ h : (quoteS (bl s) σ).pos < s.size, s[(quoteS (bl s) σ).pos]'h = byteAt (bl s) σ.pos) ↔ endsB (bl s) σ = true := by
      unfold endsB
      rw [Bool.and_eq_true, decide_eq_true_iff, beq_iff_eq, bl_size]
      constructor
      · rintro ⟨h1, h2⟩; exact ⟨h1, by rw [byteAt_get s _ h1]; exact h2⟩
      · rintro ⟨h1, h2⟩; exact ⟨h1, by rw [← byteAt_get s _ h1]; exact h2⟩
    refine (squoted_yes B b s σ w hS hp (byteAt (bl s) σ.pos) (Lib.hid hq.symm) _ _ hst (Lib.hid rfl) (Lib.hid rfl) (endsB (bl s) σ) (Lib.hid HE)).mono ?_
    rintro r w' ⟨rfl, h1, h2⟩
    rw [str_bl] at h1
    refine ⟨?_, h1, h2⟩
    rw [str_bl]
    split <;> rfl
  · rw [if_neg h, if_neg h]
    exact squoted_no B b s σ w hS (by cases h1 : standsS [34] (bl s) σ with | false => rfl | true => exact absurd (.inl h1) h) (by cases h1 : standsS [39] (bl s) σ with | false => rfl | true => exact absurd (.inr h1) h)

end Go.Proofs.YtnlkpdodacphkaaGreatDoor
namespace Go.Proofs.YtnlkpdodacphkaaGreatDoor
open Go.RowKit
set_option maxRecDepth 100000

/-- A slice of attributes, as it reads. -/
def Rows (w : World) (v : Value) (A : List (List UInt8 × List UInt8)) : Prop :=
  (A = [] ∧ v = .slice none 0 0) ∨ ∃ g cap, v = .slice (some ⟨g, 0, none⟩) A.length cap ∧ g < w.heap.size ∧
    ∀ j (h : j < A.length), w.cell? ⟨g, j * 2, none⟩ = some (.string (str (A[j]'h).1)) ∧ w.cell? ⟨g, j * 2 + 1, none⟩ = some (.string (str (A[j]'h).2))
theorem Rows.below {w w' : World} {v : Value} {A : List (List UInt8 × List UInt8)} (h : Rows w v A) (hb : Below w.heap.size w w') : Rows w' v A := by
  rcases h with h | ⟨g, cap, hv, hg, h⟩
  · exact .inl h
  · exact .inr ⟨g, cap, hv, Nat.lt_of_lt_of_le hg hb.size, fun j hj => ⟨(hb.cell (p := ⟨g, j * 2, none⟩) hg).trans (h j hj).1, (hb.cell (p := ⟨g, j * 2 + 1, none⟩) hg).trans (h j hj).2⟩⟩
theorem toList_str (l : List UInt8) : (str l).toList = l := by rw [Lib.toList_data]; exact str_bl l

set_option maxHeartbeats 2000000 in
theorem tells_attr (Q : Nat) (M N V : ByteArray) (w : World) (hq : w.cell? ⟨Q, 0, none⟩ = some (.string M)) :
    Calls Tryz.prog 193 #[.agg #[.string N, .string V], .pointer (some ⟨Q, 0, none⟩)] w fun e w' => e = .returned (.bool (N.toList == M.toList)) ∧ Below w.heap.size w w' := by
  have hlt := World.block_lt_of_cell? _ _ hq
  have hq' := ((Below.refl w.heap.size w).alloc (Nat.le_refl _) (.cells #[.string N, .string V] 56)).cell (p := ⟨Q, 0, none⟩) hlt
  rw [hq] at hq'
  go_enter Tryz.func193, Tryz.ntmps193
  go_wp2
  go_ret
  exact ⟨rfl, (Below.refl _ _).alloc (Nat.le_refl _) _⟩
theorem enters_attr : ∀ (args : Array Value) (w : World), (callFunc 193 args).run Tryz.prog w = .ok (.enter 193 args) w := enters_of Tryz.func193 (by kernel_rfl) rfl
/-- The first attribute of a name. -/
def idxA (m : List UInt8) (A : List (List UInt8 × List UInt8)) : Int := if A.any (fun a => a.1 == m) = true then ((A.takeWhile fun a => !(a.1 == m)).length : Int) else -1
theorem idxA_hit (m : List UInt8) : ∀ (A : List (List UInt8 × List UInt8)) (k : Nat) (h : k < A.length), (∀ j (hj : j < A.length), j < k → ((A[j]'hj).1 == m) = false) → ((A[k]'h).1 == m) = true → idxA m A = k
  | [], k, h, _, _ => absurd h (Nat.not_lt_zero k)
  | a :: A, 0, h, _, hk => by
    have hk' : (a.1 == m) = true := hk
    unfold idxA
    rw [if_pos (by simp [hk'])]
    simp [hk']
  | a :: A, k + 1, h, hj, hk => by
    have h0 : (a.1 == m) = false := hj 0 (Nat.zero_lt_succ _) (Nat.zero_lt_succ _)
    have hk' : ((A[k]'(by simpa using h)).1 == m) = true := hk
    have ih := idxA_hit m A k (by simpa using h) (fun j hj' hjk => hj (j + 1) (by simpa using hj') (by omega)) hk'
    unfold idxA at ih ⊢
    have ha : A.any (fun a => a.1 == m) = true := by
      rw [List.any_eq_true]; exact ⟨_, List.getElem_mem _, hk'⟩
    rw [if_pos ha] at ih
    rw [if_pos (by rw [List.any_cons, ha, Bool.or_true]), List.takeWhile_cons, h0]
    simp only [Bool.not_false, if_true, List.length_cons]
    omega
theorem idxA_none (m : List UInt8) (A : List (List UInt8 × List UInt8)) (h : ∀ j (hj : j < A.length), ((A[j]'hj).1 == m) = false) : idxA m A = -1 := by
  unfold idxA
  rw [if_neg]
  rw [List.any_eq_true]
  rintro ⟨a, ha, h2⟩
  obtain ⟨j, hj, rfl⟩ := List.mem_iff_getElem.1 ha
  rw [h j hj] at h2
  exact absurd h2 (by decide)
theorem idxA_sign (m : List UInt8) (A : List (List UInt8 × List UInt8)) : (0 ≤ idxA m A) ↔ A.any (fun a => a.1 == m) = true := by
  unfold idxA
  split <;> simp_all <;> omega
set_option maxHeartbeats 4000000 in
theorem sindex (Q : Nat) (m : List UInt8) (A : List (List UInt8 × List UInt8)) (v : Value) (w : World) (hA : A.length ≤ 1000) (hR : Rows w v A) (hq : w.cell? ⟨Q, 0, none⟩ = some (.string (str m))) :
    Calls Tryz.prog 138 #[v, .func (.func 193) #[] #[.pointer (some ⟨Q, 0, none⟩)]] w fun e w' => e = .returned (.int .i64 (idxA m A)) ∧ Below w.heap.size w w' := by
  have hlt := World.block_lt_of_cell? _ _ hq
  have he := enters_attr
  rcases hR with ⟨rfl, rfl⟩ | ⟨g, cap, rfl, hg, hR⟩
  · clear hq
    go_enter Tryz.func138, Tryz.ntmps138
    go_wp2
    go_loopg [8] 0 (fun gg i wr => i = .int .i64 0 ∧ gg = 0 ∧ wr = w)
    case atStart => exact ⟨rfl, rfl, rfl⟩
    case round =>
      obtain ⟨rfl, hgg, rfl⟩ := hrel
      go_wp2
      go_ret
      exact ⟨rfl, Below.refl _ _⟩
  · have HR := Lib.hid hR
    have Hq := Lib.hid hq
    clear hR hq
    obtain ⟨R, hRd⟩ : ∃ R, idxA m A = R := ⟨_, rfl⟩
    have HI := Lib.hid hRd
    rw [hRd]
    clear hRd
    obtain ⟨n, hn⟩ : ∃ n, A.length = n := ⟨_, rfl⟩
    rw [hn] at hA ⊢
    have Hn := Lib.hid hn
    clear hn
    go_enter Tryz.func138, Tryz.ntmps138
    go_wp2
    go_loopg [8] n (fun gg i wr => ∃ k : Nat, gg + k = n ∧ i = .int .i64 k ∧ Hid (∀ j (hj : j < A.length), j < k → ((A[j]'hj).1 == m) = false) ∧ Below w.heap.size w wr)
    case atStart => exact ⟨0, rfl, rfl, Lib.hid (fun j _ h => absurd h (Nat.not_lt_zero j)), Below.refl _ _⟩
    case round =>
      obtain ⟨k, hgk, rfl, HJ, hb⟩ := hrel
      by_cases hk : k < n
      · have hk' : (k : Int) < (n : Int) := by omega
        have hkA : k < A.length := by rw [Hn.out]; exact hk
        obtain ⟨x, hx⟩ : ∃ x, A[k]'hkA = x := ⟨_, rfl⟩
        have r1 := (hb.cell (p := ⟨g, k * 2, none⟩) hg).trans (HR.out k hkA).1
        have r2 := (hb.cell (p := ⟨g, k * 2 + 1, none⟩) hg).trans (HR.out k hkA).2
        rw [hx] at r1 r2
        have C := Lib.hid (tells_attr Q (str m) (str x.1) (str x.2) wr ((hb.cell (p := ⟨Q, 0, none⟩) hlt).trans Hq.out))
        rw [toList_str, toList_str] at C
        cases hm : (x.1 == m) with
        | true =>
          have hI := idxA_hit m A k hkA HJ.out (by rw [hx]; exact hm)
          rw [HI.out] at hI
          subst hI
          rw [hm] at C
          clear hm hx
          go_wp2_with fail
          refine C.out.mono ?_
          rintro e w1 ⟨rfl, hb1⟩
          go_wp2
          go_ret
          exact ⟨rfl, hb.trans (hb1.mono hb.size)⟩
        | false =>
          have HJ2 := Lib.hid (show ∀ j (hj : j < A.length), j < k + 1 → ((A[j]'hj).1 == m) = false from fun j hj hjk => by
            by_cases e : j = k
            · subst e; rw [hx]; exact hm
            · exact HJ.out j hj (by omega))
          rw [hm] at C
          clear hm hx
          go_wp2_with fail
          refine C.out.mono ?_
          rintro e w1 ⟨rfl, hb1⟩
          have hb2 := hb.trans (hb1.mono hb.size)
          clear r1 r2 hb hb1
          go_wp2
          go_roundg (n - (k + 1))
          case measure => omega
          case rel => exact ⟨k + 1, by omega, by go_num, HJ2, hb2⟩
      · have hI := idxA_none m A (fun j hj => HJ.out j hj (by have := Hn.out; omega))
        rw [HI.out] at hI
        subst hI
        go_wp2
        go_ret
        exact ⟨rfl, hb⟩
set_option maxHeartbeats 1000000 in
theorem scontains (Q : Nat) (m : List UInt8) (A : List (List UInt8 × List UInt8)) (v : Value) (w : World) (hA : A.length ≤ 1000) (hR : Rows w v A) (hq : w.cell? ⟨Q, 0, none⟩ = some (.string (str m))) (e0 : Bool) (he : A.any (fun a => a.1 == m) = e0) :
    Calls Tryz.prog 114 #[v, .func (.func 193) #[] #[.pointer (some ⟨Q, 0, none⟩)]] w fun e w' => e = .returned (.bool e0) ∧ Below w.heap.size w w' := by
  have C := Lib.hid (sindex Q m A v w hA hR hq)
  have hi := idxA_sign m A
  rw [he] at hi
  generalize idxA m A = I at C hi
  clear hR hq he
  cases e0 with
  | true =>
    have h0 : 0 ≤ I := hi.2 rfl
    clear hi
    go_enter Tryz.func114, Tryz.ntmps114
    go_wp2_with fail
    refine C.out.mono ?_
    rintro e w1 ⟨rfl, hb1⟩
    go_wp2
    go_ret
    exact ⟨rfl, hb1⟩
  | false =>
    have h0 : decide (0 ≤ I) = false := by
      apply decide_eq_false; intro h; exact absurd (hi.1 h) (by decide)
    clear hi
    go_enter Tryz.func114, Tryz.ntmps114
    go_wp2_with fail
    refine C.out.mono ?_
    rintro e w1 ⟨rfl, hb1⟩
    go_wp2
    go_ret
    exact ⟨rfl, hb1⟩

/-! ### attr -/
theorem Only.setNew {b : Nat} {w w' : World} (h : Only b w w') {p : Addr} (hp : w.heap.size ≤ p.block) (v : Value) : Only b w (w'.setCell p v) :=
  ⟨h.os, h.tape, h.output, by simpa [World.setCell] using h.size, fun k hk hb => (Below.heap_setCell _ _ _ _ (by omega)).trans (h.block k hk hb)⟩
theorem Sc.setOther {B b : Nat} {s : ByteArray} {σ : St} {w : World} (h : Sc B b s σ w) {p : Addr} (hp : p.block ≠ b) (hB : B ≤ p.block) (v : Value) : Sc B b s σ (w.setCell p v) :=
  ⟨h.base, h.len, h.pos, h.glob.step ((Below.refl _ _).setCell hB v), (Below.heap_setCell _ _ _ _ (fun e => hp e.symm)).trans h.heap⟩
theorem Only.heap {b : Nat} {w w' : World} (h : Only b w w') {k : Nat} {o : Obj} (hk : w.heap[k]? = some o) (hb : k ≠ b) : w'.heap[k]? = some o := by
  rw [h.block k (Array.getElem?_eq_some_iff.1 hk).1 hb]; exact hk
/-- .. in another block than b. -/
def RowsB (b : Nat) (w : World) (v : Value) (A : List (List UInt8 × List UInt8)) : Prop := Rows w v A ∧ ∀ g o n c, v = .slice (some ⟨g, o, none⟩) n c → g ≠ b ∧ ∃ cs z, w.heap[g]? = some (.cells cs 56 z)
theorem RowsB.only {b : Nat} {w w' : World} {v : Value} {A : List (List UInt8 × List UInt8)} (h : RowsB b w v A) (ho : Only b w w') : RowsB b w' v A := by
  obtain ⟨h, hne⟩ := h
  refine ⟨?_, fun g o n c hv => ?_⟩
  · rcases h with h | ⟨g, cap, hv, hg, h⟩
    · exact .inl h
    · have hb := ho.block g hg (hne _ _ _ _ hv).1
      exact .inr ⟨g, cap, hv, Nat.lt_of_lt_of_le hg ho.size, fun j hj => ⟨(World.cell?_of_block (w := w) hb).trans (h j hj).1, (World.cell?_of_block (w := w) hb).trans (h j hj).2⟩⟩
  · obtain ⟨h1, cs, z, h2⟩ := hne g o n c hv
    exact ⟨h1, cs, z, ho.heap h2 h1⟩
set_option maxHeartbeats 4000000 in
theorem sattr0 (B b : Nat) (s : ByteArray) (σ σ1 σ2 σ3 σ4 σ5 : St) (w : World) (v : Value) (A : List (List UInt8 × List UInt8)) (m : List UInt8) (N V : ByteArray) (hS : Sc B b s σ w) (hR : Hid (RowsB b w v A)) (hA : A.length ≤ 1000) (e0 : Bool) (he : Hid (A.any (fun a => a.1 == m) = e0)) (hm : Hid (str m = N))
    (C1 : Hid (∀ w, Sc B b s σ w → Calls Tryz.prog 173 #[.pointer (some ⟨b, 0, none⟩)] w fun r w' => r = .returned (.string N) ∧ Sc B b s σ1 w' ∧ Only b w w'))
    (C2 : Hid (∀ w, Sc B b s σ1 w → Calls Tryz.prog 174 #[.pointer (some ⟨b, 0, none⟩), .func (.func 175) #[] #[]] w fun r w' => (∃ T, r = .returned (.string T)) ∧ Sc B b s σ2 w' ∧ Only b w w'))
    (C3 : Hid (∀ w, Sc B b s σ2 w → Calls Tryz.prog 176 #[.pointer (some ⟨b, 0, none⟩), .string ⟨#[61]⟩] w fun r w' => r = .returned (.tuple #[]) ∧ Sc B b s σ3 w' ∧ Only b w w'))
    (C4 : Hid (∀ w, Sc B b s σ3 w → Calls Tryz.prog 174 #[.pointer (some ⟨b, 0, none⟩), .func (.func 175) #[] #[]] w fun r w' => (∃ T, r = .returned (.string T)) ∧ Sc B b s σ4 w' ∧ Only b w w'))
    (C5 : Hid (∀ w, Sc B b s σ4 w → Calls Tryz.prog 192 #[.pointer (some ⟨b, 0, none⟩)] w fun r w' => r = .returned (.string V) ∧ Sc B b s σ5 w' ∧ Only b w w')) :
    Calls Tryz.prog 177 #[.pointer (some ⟨b, 0, none⟩), v] w fun r w' => r = .returned (.agg #[.string N, .string V]) ∧ Sc B b s (if e0 = true then wrongS 7 σ.pos σ5 else σ5) w' ∧ Only b w w' := by
  have hmf : ∀ (fn : Fn) (first cap : Array Value) (w : World), (Instr.makeFunc fn first cap).run Tryz.prog w = .ok (.func fn first cap) w := fun _ _ _ _ => rfl
  have HS := Lib.hid (hS.step ((Below.refl _ _).alloc (Nat.le_refl _) (.cells #[.string ⟨#[]⟩, .string ⟨#[]⟩] 56)))
  have HR1 := Lib.hid (hR.out.only (Only.alloc b w (.cells #[.string ⟨#[]⟩, .string ⟨#[]⟩] 56)))
  have HO := Lib.hid (Only.alloc b w (.cells #[.string ⟨#[]⟩, .string ⟨#[]⟩] 56))
  have hcell := Lib.hid (heap_alloc_new w (.cells #[.string ⟨#[]⟩, .string ⟨#[]⟩] 56))
  have c1 := HS.out.c1
  have hbR : b < w.heap.size := hS.lt
  have hBb := hS.base
  clear hS hR
  go_enter Tryz.func177, Tryz.ntmps177
  go_wp2_with fail
  clear c1
  obtain ⟨R, hRe⟩ : ∃ R, w.heap.size = R := ⟨_, rfl⟩
  rw [hRe] at hcell hbR ⊢
  have HRe := Lib.hid hRe
  clear hRe
  generalize w.alloc (.cells #[.string ⟨#[]⟩, .string ⟨#[]⟩] 56) = w0 at HS HR1 HO hcell ⊢
  refine (C1.out w0 HS.out).mono ?_
  rintro r w1 ⟨rfl, h1, o1⟩
  have hc1 := Lib.hid (((Only.refl b w1).heap (o1.heap hcell.out (by omega)) (by omega)))
  have HR2 := Lib.hid ((HR1.out.only o1).only (Only.alloc b w1 (.cells #[.string N] 9)))
  have HO2 := Lib.hid ((HO.out.trans o1).trans (Only.alloc b w1 (.cells #[.string N] 9)))
  have HS2 := Lib.hid (h1.step ((Below.refl _ _).alloc (Nat.le_refl _) (.cells #[.string N] 9)))
  have HQ := Lib.hid (heap_alloc_new w1 (.cells #[.string N] 9))
  have hbQ : b < w1.heap.size := h1.lt
  have hc2 := Lib.hid ((Only.alloc b w1 (.cells #[.string N] 9)).heap hc1.out (by omega))
  clear h1 o1 HS HR1 HO hcell hc1 C1
  go_wp2_with fail
  obtain ⟨Q, hQe⟩ : ∃ Q, w1.heap.size = Q := ⟨_, rfl⟩
  rw [hQe] at HQ hbQ ⊢
  clear hQe
  generalize w1.alloc (.cells #[.string N] 9) = w2 at HS2 HR2 HO2 HQ hc2 ⊢
  refine (C2.out w2 HS2.out).mono ?_
  rintro r w3 ⟨⟨T3, rfl⟩, h3, o3⟩
  have HS3 := Lib.hid h3
  have HO3 := Lib.hid o3
  clear h3 o3 C2 HS2
  go_wp2_with fail
  refine (C3.out w3 HS3.out).mono ?_
  rintro r w4 ⟨rfl, h4, o4⟩
  have HS4 := Lib.hid h4
  have HO4 := Lib.hid (HO3.out.trans o4)
  clear h4 o4 C3 HS3 HO3
  go_wp2_with fail
  refine (C4.out w4 HS4.out).mono ?_
  rintro r w5 ⟨⟨T5, rfl⟩, h5, o5⟩
  have HS5 := Lib.hid h5
  have HO5 := Lib.hid (HO4.out.trans o5)
  clear h5 o5 C4 HS4 HO4
  go_wp2_with fail
  refine (C5.out w5 HS5.out).mono ?_
  rintro r w6 ⟨rfl, h6, o6⟩
  have HS6 := Lib.hid h6
  have HO6 := Lib.hid (HO5.out.trans o6)
  clear h6 o6 C5 HS5 HO5
  have hQ6 := HO6.out.heap HQ.out (by omega)
  have hR6 := Lib.hid (HO6.out.heap hc2.out (by omega))
  have cQ : w6.cell? ⟨Q, 0, none⟩ = some (.string N) := by rw [Lib.cell_of_heap hQ6]; rfl
  have CC := scontains Q m A v w6 hA (HR2.out.only HO6.out).1 (by rw [hm.out]; exact cQ) e0 he.out
  have CC := Lib.hid CC
  have hQ6 := Lib.hid hQ6
  clear cQ
  go_wp2_with fail
  refine CC.out.mono ?_
  rintro r w7 ⟨rfl, hb7⟩
  have HS7 := Lib.hid (HS6.out.step hb7)
  have HO7 := Lib.hid (HO6.out.trans (Only.of hb7))
  have HQ7 := (Only.of (b := b) hb7).heap hQ6.out (by omega)
  have HR7 := (Only.of (b := b) hb7).heap hR6.out (by omega)
  clear hb7 CC HS6 HO6 hR6
  cases e0 with
  | true =>
    have HQ7 := Lib.hid HQ7
    have HR7 := Lib.hid HR7
    have CW := Lib.hid (swrong B b s σ5 w7 HS7.out 7 σ.pos (by decide))
    go_wp2_with fail
    refine CW.out.mono ?_
    rintro r w8 ⟨rfl, h8, o8⟩
    have HQ8 := o8.heap HQ7.out (by omega)
    have HR8 := o8.heap HR7.out (by omega)
    have cQ : w8.cell? ⟨Q, 0, none⟩ = some (.string N) := by rw [Lib.cell_of_heap HQ8]; rfl
    have r0 : w8.cell? ⟨R, 0, none⟩ = some (.string ⟨#[]⟩) := by rw [Lib.cell_of_heap HR8]; rfl
    have r1 : w8.cell? ⟨R, 1, none⟩ = some (.string ⟨#[]⟩) := by rw [Lib.cell_of_heap HR8]; rfl
    have f0 := Lib.frozen_of_heap HR8 0
    have f1 := Lib.frozen_of_heap HR8 1
    have HS8 := Lib.hid h8
    have HO8 := Lib.hid (HO2.out.trans (HO7.out.trans o8))
    have HR8 := Lib.hid HR8
    clear h8 o8 HQ8 HQ7 HR7 hQ6 HQ HS7 HO7 hc2
    go_wp2
    have e0 : (w8.setCell ⟨R, 0, none⟩ (.string N)).cell? ⟨R, 0, none⟩ = some (.string N) := by rw [Lib.cell_of_heap (heap_set _ HR8.out)]; rfl
    have e1 : ((w8.setCell ⟨R, 0, none⟩ (.string N)).setCell ⟨R, 1, none⟩ (.string V)).cell? ⟨R, 1, none⟩ = some (.string V) := by rw [Lib.cell_of_heap (heap_set _ (heap_set _ HR8.out))]; rfl
    refine bodyPost_ret (v := .agg #[.string N, .string V]) (by simp [results, Tryz.results177, go_sem, e0, e1]) rfl ⟨rfl, ?_, ?_⟩
    · exact (HS8.out.setOther (p := ⟨R, 0, none⟩) (by show R ≠ b; omega) (by show B ≤ R; omega) _).setOther (p := ⟨R, 1, none⟩) (by show R ≠ b; omega) (by show B ≤ R; omega) _
    · exact (HO8.out.setNew (p := ⟨R, 0, none⟩) (by show _ ≤ R; have := HRe.out; omega) _).setNew (p := ⟨R, 1, none⟩) (by show _ ≤ R; have := HRe.out; omega) _
  | false =>
    have cQ : w7.cell? ⟨Q, 0, none⟩ = some (.string N) := by rw [Lib.cell_of_heap HQ7]; rfl
    have r0 : w7.cell? ⟨R, 0, none⟩ = some (.string ⟨#[]⟩) := by rw [Lib.cell_of_heap HR7]; rfl
    have r1 : w7.cell? ⟨R, 1, none⟩ = some (.string ⟨#[]⟩) := by rw [Lib.cell_of_heap HR7]; rfl
    have f0 := Lib.frozen_of_heap HR7 0
    have f1 := Lib.frozen_of_heap HR7 1
    have HO8 := Lib.hid (HO2.out.trans HO7.out)
    have HR8 := Lib.hid HR7
    clear HQ7 HR7 hQ6 HQ HO7 hc2
    go_wp2
    have e0 : (w7.setCell ⟨R, 0, none⟩ (.string N)).cell? ⟨R, 0, none⟩ = some (.string N) := by rw [Lib.cell_of_heap (heap_set _ HR8.out)]; rfl
    have e1 : ((w7.setCell ⟨R, 0, none⟩ (.string N)).setCell ⟨R, 1, none⟩ (.string V)).cell? ⟨R, 1, none⟩ = some (.string V) := by rw [Lib.cell_of_heap (heap_set _ (heap_set _ HR8.out))]; rfl
    refine bodyPost_ret (v := .agg #[.string N, .string V]) (by simp [results, Tryz.results177, go_sem, e0, e1]) rfl ⟨rfl, ?_, ?_⟩
    · exact (HS7.out.setOther (p := ⟨R, 0, none⟩) (by show R ≠ b; omega) (by show B ≤ R; omega) _).setOther (p := ⟨R, 1, none⟩) (by show R ≠ b; omega) (by show B ≤ R; omega) _
    · exact (HO8.out.setNew (p := ⟨R, 0, none⟩) (by show _ ≤ R; have := HRe.out; omega) _).setNew (p := ⟨R, 1, none⟩) (by show _ ≤ R; have := HRe.out; omega) _
theorem smust_l (B b : Nat) (s p : ByteArray) (l : List UInt8) (hl : bl p = l) (hp0 : l ≠ []) (σ : St) (w : World) (h : Sc B b s σ w) :
    Calls Tryz.prog 176 #[.pointer (some ⟨b, 0, none⟩), .string p] w fun r w' => r = .returned (.tuple #[]) ∧ Sc B b s (mustS l (bl s) σ) w' ∧ Only b w w' := by
  subst hl; exact smust B b s p σ w h hp0
theorem sskip_l (B b : Nat) (s p : ByteArray) (l : List UInt8) (hl : bl p = l) (hp0 : l ≠ []) (σ : St) (w : World) (h : Sc B b s σ w) (A : Bool) (hA : standsS l (bl s) σ = A) :
    Calls Tryz.prog 156 #[.pointer (some ⟨b, 0, none⟩), .string p] w fun r w' => r = .returned (.bool A) ∧ Sc B b s (skipS l (bl s) σ) w' ∧ Only b w w' := by
  subst hl; subst hA; exact sskip B b s p σ w h hp0
theorem sblanks_t (B b : Nat) (s : ByteArray) (σ : St) (w : World) (hS : Sc B b s σ w) :
    Calls Tryz.prog 174 #[.pointer (some ⟨b, 0, none⟩), .func (.func 175) #[] #[]] w fun r w' => (∃ T, r = .returned (.string T)) ∧ Sc B b s (whileS bb (bl s) σ) w' ∧ Only b w w' :=
  (sblanks B b s σ w hS).mono fun _ _ ⟨h1, h2⟩ => ⟨⟨_, h1⟩, h2⟩
/-- **(*Scanner).attr.** -/
theorem sattr (B b : Nat) (s : ByteArray) (σ : St) (w : World) (v : Value) (A : List (List UInt8 × List UInt8)) (hS : Sc B b s σ w) (hR : RowsB b w v A) (hA : A.length ≤ 1000) :
    Calls Tryz.prog 177 #[.pointer (some ⟨b, 0, none⟩), v] w fun r w' => r = .returned (.agg #[.string (str (attrV (bl s) σ).1), .string (str (attrV (bl s) σ).2)]) ∧ Sc B b s (attrS (bl s) A σ) w' ∧ Only b w w' := by
  have C1 := Lib.hid fun w h => sname B b s σ w h
  have C2 := Lib.hid fun w h => sblanks_t B b s (nameS (bl s) σ) w h
  have C3 := Lib.hid fun w h => smust_l B b s ⟨#[61]⟩ [61] rfl (by decide) (whileS bb (bl s) (nameS (bl s) σ)) w h
  have C4 := Lib.hid fun w h => sblanks_t B b s (mustS [61] (bl s) (whileS bb (bl s) (nameS (bl s) σ))) w h
  have C5 := Lib.hid fun w h => squoted B b s (attrP (bl s) σ) w h
  unfold attrV attrS
  have e4 : attrP (bl s) σ = whileS bb (bl s) (mustS [61] (bl s) (whileS bb (bl s) (nameS (bl s) σ))) := rfl
  rw [← e4] at C4
  obtain ⟨e0, he⟩ : ∃ e0, A.any (fun a => a.1 == runW nb (bl s) σ) = e0 := ⟨_, rfl⟩
  rw [he]
  generalize attrP (bl s) σ = σ4 at C4 C5 ⊢
  generalize mustS [61] (bl s) (whileS bb (bl s) (nameS (bl s) σ)) = σ3 at C3 C4
  generalize whileS bb (bl s) (nameS (bl s) σ) = σ2 at C2 C3
  generalize nameS (bl s) σ = σ1 at C1 C2
  generalize quotedS (bl s) σ4 = σ5 at C5 ⊢
  generalize quotedV (bl s) σ4 = V at C5 ⊢
  exact sattr0 B b s σ σ1 σ2 σ3 σ4 σ5 w v A (runW nb (bl s) σ) (str (runW nb (bl s) σ)) (str V) hS (Lib.hid hR) hA e0 (Lib.hid he) (Lib.hid rfl) C1 C2 C3 C4 C5

end Go.Proofs.YtnlkpdodacphkaaGreatDoor
