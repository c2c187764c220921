/-
  The walk of (*Scanner).quoted.
-/
import Derived.Test.YtekmenkebokdoaaGreatDoorScanWhile
import Derived.RegionTactic
namespace Go.Proofs.YtekmenkebokdoaaGreatDoor
open Go.RowKit
set_option maxRecDepth 100000

set_option maxHeartbeats 1000000 in
theorem tells_quote (Q : Nat) (q : UInt8) (w : World) (hq : w.cell? ⟨Q, 0, none⟩ = some (.int .u8 (q.toNat : Int))) : Tells 127 #[.pointer (some ⟨Q, 0, none⟩)] (qb q) w := by
  intro c
  show Calls Tryz.prog 127 #[.int .u8 (c.toNat : Int), .pointer (some ⟨Q, 0, none⟩)] w _
  unfold qb
  cases h : (c != q) with
  | true =>
    have h' : c.toNat ≠ q.toNat := by intro e; rw [show c = q from UInt8.toNat_inj.1 e] at h; simp at h
    have q1 : ((c.toNat : Int) != (q.toNat : Int)) = true := by simp; omega
    have q1' : q.toNat = 60 → c.toNat ≠ 60 := fun e => by omega
    clear h
    cases h : (c != 60) with
    | true =>
      have h' : c.toNat ≠ 60 := by intro e; rw [show c = 60 from UInt8.toNat_inj.1 e] at h; exact absurd h (by decide)
      have q2 : ((c.toNat : Int) != 60) = true := by simp; omega
      clear h q1'
      go_enter Tryz.func127, Tryz.ntmps127
      go_wp2
      go_ret
      exact ⟨rfl, rfl⟩
    | false =>
      have h' : c = 60 := by simpa using h
      subst h'
      have q2 : ((60 : Int) != (q.toNat : Int)) = true := by
        have : q.toNat ≠ 60 := fun e => q1' e (by decide)
        simp; omega
      clear h q1'
      go_enter Tryz.func127, Tryz.ntmps127
      go_wp2
      go_ret
      exact ⟨rfl, rfl⟩
  | false =>
    have h' : c = q := by simpa using h
    subst h'
    have q1 : ((c.toNat : Int) != (c.toNat : Int)) = false := by simp
    clear h
    go_enter Tryz.func127, Tryz.ntmps127
    go_wp2
    go_ret
    exact ⟨rfl, rfl⟩
theorem enters_quote : ∀ (args : Array Value) (w : World), (callFunc 127 args).run Tryz.prog w = .ok (.enter 127 args) w := enters_of Tryz.func127 (by kernel_rfl) rfl
theorem stands_one (c : UInt8) (s : ByteArray) (σ : St) : standsS [c] (bl s) σ = true → ∃ h : σ.pos < s.size, s[σ.pos]'h = c := by
  intro h
  have hl := stands_len h (by simp)
  rw [bl_size] at hl
  simp at hl
  refine ⟨by omega, ?_⟩
  unfold standsS at h
  have hl' : σ.pos < (bl s).length := by rw [bl_size]; omega
  rw [List.drop_eq_getElem_cons hl'] at h
  have : c = (bl s)[σ.pos] := by simpa [List.isPrefixOf] using h
  rw [this]; rfl
theorem byteAt_get (s : ByteArray) (k : Nat) (h : k < s.size) : byteAt (bl s) k = s[k]'h := by
  unfold byteAt
  have hl' : k < (bl s).length := by rw [bl_size]; omega
  simp [List.getD, hl']; rfl
set_option maxHeartbeats 4000000 in
theorem squoted_no (B b : Nat) (s : ByteArray) (σ : St) (w : World) (hS : Sc B b s σ w) (h1 : standsS [34] (bl s) σ = false) (h2 : standsS [39] (bl s) σ = false) :
    Calls Tryz.prog 116 #[.pointer (some ⟨b, 0, none⟩)] w fun r w' => r = .returned (.string ⟨#[]⟩) ∧ Sc B b s (wrongS 3 σ.pos σ) w' ∧ Only b w w' := by
  have C1 := Lib.hid (sstands_at B b s ⟨#[34]⟩ σ w hS _ h1)
  have C2 := Lib.hid (fun w1 (h : Sc B b s σ w1) => sstands_at B b s ⟨#[39]⟩ σ w1 h _ h2)
  clear hS h1 h2
  go_enter Tryz.func116, Tryz.ntmps116
  go_wp2_with fail
  refine C1.out.mono ?_
  rintro e w1 ⟨rfl, h1, hb1⟩
  have H1 := Lib.hid h1
  have O1 := Lib.hid (Only.of (b := b) hb1)
  clear h1 hb1
  go_wp2_with fail
  refine (C2.out w1 H1.out).mono ?_
  rintro e w2 ⟨rfl, h2, hb2⟩
  have H2 := Lib.hid h2
  have O2 := Lib.hid (O1.out.trans (Only.of (b := b) hb2))
  clear h2 hb2
  have c1 := H2.out.c1
  have CW := Lib.hid (swrong B b s σ _ H2.out 3 σ.pos (by decide))
  go_wp2_with fail
  refine CW.out.mono ?_
  rintro e w3 ⟨rfl, h3, h4⟩
  go_wp2
  go_ret
  exact ⟨rfl, h3, O2.out.trans h4⟩
set_option maxHeartbeats 4000000 in
theorem squoted_yes (B b : Nat) (s : ByteArray) (σ : St) (w : World) (hS : Sc B b s σ w) (hp : σ.pos < s.size) (q : UInt8) (hq : Hid (s[σ.pos]'hp = q)) (T : ByteArray) (L : Nat)
    (h1 : standsS [34] (bl s) σ = true ∨ (standsS [34] (bl s) σ = false ∧ standsS [39] (bl s) σ = true)) (HL : Hid ((whileS (qb q) (bl s) (go_ σ (σ.pos + 1))).pos = L)) (HR : Hid (str (runW (qb q) (bl s) (go_ σ (σ.pos + 1))) = T)) (e : Bool)
    (HE : Hid ((∃ h : L < s.size, s[L]'h = q) ↔ e = true)) :
    Calls Tryz.prog 116 #[.pointer (some ⟨b, 0, none⟩)] w fun r w' => (r = .returned (.string (if e = true then str (openL (bl T)).1 else ⟨#[]⟩)) ∧ Sc B b s (if e = true then openedS (bl T) (σ.pos + 1) (go_ (go_ σ L) (L + 1)) else wrongS 3 (σ.pos + 1) (go_ σ L)) w' ∧ Only b w w') := by
  have hmf : ∀ (fn : Fn) (first cap : Array Value) (w : World), (Instr.makeFunc fn first cap).run Tryz.prog w = .ok (.func fn first cap) w := fun _ _ _ _ => rfl
  have hp' : (σ.pos : Int) < (s.size : Int) := by omega
  have hln := hS.len
  rcases h1 with h1 | ⟨h1, h2⟩
  · have C1 := Lib.hid (sstands_at B b s ⟨#[34]⟩ σ w hS _ h1)
    clear h1 hS
    go_enter Tryz.func116, Tryz.ntmps116
    go_wp2_with fail
    refine C1.out.mono ?_
    rintro e w1 ⟨rfl, h1, hb1⟩
    have H2 := Lib.hid h1
    have O2 := Lib.hid (Only.of (b := b) hb1)
    clear h1 hb1
    have c0 := H2.out.c0
    have c1 := H2.out.c1
    have H3 := (H2.out.step ((Below.refl _ _).alloc (Nat.le_refl _) (.cells #[.int .u8 0] 5)))
    have d0 := H3.c0
    have d1 := H3.c1
    clear H3
    go_wp2
    go_region
    rw [hq.out]
    have HQ := H2.out.step (((Below.refl _ _).alloc (Nat.le_refl _) (.cells #[.int .u8 (q.toNat : Int)] 5)).drew)
    have HC : ((w1.alloc (.cells #[.int .u8 (q.toNat : Int)] 5)).drew).cell? ⟨w1.heap.size, 0, none⟩ = some (.int .u8 (q.toNat : Int)) := by simp
    have HO := O2.out.trans ((Only.alloc b w1 (.cells #[.int .u8 (q.toNat : Int)] 5)).trans (Only.of ((Below.refl _ _).drew)))
    have HZ : b < w1.heap.size := H2.out.lt
    have HZ2 : w1.heap.size < (w1.alloc (.cells #[.int .u8 (q.toNat : Int)] 5)).drew.heap.size := by simp
    clear c0 c1 d0 d1 H2 O2
    generalize (w1.alloc (.cells #[.int .u8 (q.toNat : Int)] 5)).drew = w2 at HQ HC HO HZ2 ⊢
    generalize w1.heap.size = Q at HC HZ HZ2 ⊢
    have c1 := HQ.c1
    have f1 := HQ.fz 1
    have H4 := HQ.go (σ.pos + 1) (by omega)
    have C4 : (w2.setCell ⟨b, 1, none⟩ (.int .i64 ((σ.pos + 1 : Nat) : Int))).cell? ⟨Q, 0, none⟩ = some (.int .u8 (q.toNat : Int)) := by
      rw [World.cell?_of_block (w := w2) (Below.heap_setCell _ _ _ _ (by show Q ≠ b; omega))]; exact HC
    have HO := HO.trans (Only.set b 1 w2 (.int .i64 ((σ.pos + 1 : Nat) : Int)))
    have HZ3 : Q < (w2.setCell ⟨b, 1, none⟩ (.int .i64 ((σ.pos + 1 : Nat) : Int))).heap.size := by simp [World.setCell]; exact HZ2
    obtain ⟨P1, hP1⟩ : ∃ P1, σ.pos + 1 = P1 := ⟨_, rfl⟩
    have hP1' : (σ.pos : Int) + 1 = (P1 : Int) := by omega
    rw [hP1] at H4 C4 HO HZ3
    rw [hP1] at HL HR
    have HP1 := Lib.hid hP1
    have H4 := Lib.hid H4
    have C4 := Lib.hid C4
    have HO := Lib.hid HO
    clear HQ HC HZ2 hP1
    go_wp2_with fail
    clear c1 f1 hP1'
    generalize w2.setCell ⟨b, 1, none⟩ (.int .i64 (P1 : Int)) = w3 at H4 C4 HO HZ3 ⊢
    have C5 := swhile B b s (go_ σ P1) w3 H4.out 127 #[.pointer (some ⟨Q, 0, none⟩)] (qb q) enters_quote (fun w' h => tells_quote Q q w' (by rw [World.cell?_of_block (w := w3) (h.block Q HZ3 (by omega))]; exact C4.out))
    have hgo : whileS (qb q) (bl s) (go_ σ P1) = go_ σ L := by rw [← HL.out]; rfl
    rw [HR.out, hgo] at C5
    have C5 := Lib.hid C5
    have hLs : L ≤ s.size := by
      have := run_len (qb q) (bl s) (go_ σ P1)
      have h2 : (whileS (qb q) (bl s) (go_ σ P1)).pos = P1 + (runW (qb q) (bl s) (go_ σ P1)).length := rfl
      rw [bl_size] at this
      have h3 := HP1.out
      have h4 : (go_ σ P1).pos = P1 := rfl
      rw [h4] at this
      rw [HL.out] at h2
      omega
    have hTs : T.size ≤ s.size := by
      rw [← HR.out, str_size]
      have := run_len (qb q) (bl s) (go_ σ P1)
      rw [bl_size] at this
      omega
    have hPs : P1 ≤ s.size := by have := HP1.out; omega
    have C4' := Lib.hid (fun w' (h : Only b w3 w') => show w'.cell? ⟨Q, 0, none⟩ = some (.int .u8 (q.toNat : Int)) by rw [World.cell?_of_block (w := w3) (h.block Q HZ3 (by omega))]; exact C4.out)
    clear hgo
    refine C5.out.mono ?_
    rintro r w4 ⟨rfl, h4, o4⟩
    have c0 := h4.c0
    have c1 : w4.cell? ⟨b, 1, none⟩ = some (.int .i64 (L : Int)) := h4.c1
    have cQ := C4'.out w4 o4
    have h4 := Lib.hid h4
    have o4 := Lib.hid (HO.out.trans o4)
    have HP1' := Lib.hid (show P1 = σ.pos + 1 from HP1.out.symm)
    clear C4' C4 C5 H4 HO HZ3 HZ HP1 hp hp' hq
    by_cases hL1 : L < s.size
    · have hL1' : (L : Int) < (s.size : Int) := by omega
      have qL : ((L : Int) == (s.size : Int)) = false := by simp; omega
      obtain ⟨c, hc⟩ : ∃ c, s[L]'hL1 = c := ⟨_, rfl⟩
      by_cases hcq : c = q
      · have he := HE.out.1 ⟨hL1, hc.trans hcq⟩
        subst he
        subst hcq
        clear HE
        go_wp2
        go_quiet (fail)
        have h5 := h4.out.step (below_drewN w4 nq)
        have d1 : (w4.drewN nq).cell? ⟨b, 1, none⟩ = some (.int .i64 (L : Int)) := h5.c1
        have g1 := h5.fz 1
        have o5 := o4.out.trans (Only.drewN b w4 nq)
        clear h4 o4 c0 c1 cQ
        generalize w4.drewN nq = w5 at h5 d1 g1 o5 ⊢
        have h6 := Lib.hid (h5.go (L + 1) (by omega))
        have o6 := Lib.hid (o5.trans (Only.set b 1 w5 (.int .i64 ((L + 1 : Nat) : Int))))
        clear h5 o5 hc
        go_wp2_with fail
        rw [show (L : Int) + 1 = ((L + 1 : Nat) : Int) from rfl]
        clear d1 g1
        have C6 := Lib.hid (sopened B b s T _ _ P1 (by omega) (by omega) h6.out)
        refine C6.out.mono ?_
        rintro r w7 ⟨rfl, h7, o7⟩
        rw [HP1'.out] at h7
        go_wp2
        go_ret
        exact ⟨rfl, h7, o6.out.trans o7⟩
      · have he : e = false := by
          cases e with
          | false => rfl
          | true => obtain ⟨h, h'⟩ := HE.out.2 rfl; exact absurd (hc.symm.trans h') hcq
        subst he
        have qc : ((c.toNat : Int) != (q.toNat : Int)) = true := by
          have : c.toNat ≠ q.toNat := fun e => hcq (UInt8.toNat_inj.1 e)
          simp; omega
        clear HE hcq
        go_wp2
        go_quiet (fail)
        have C6 := Lib.hid (swrong B b s _ _ (h4.out.step (below_drewN w4 nq)) 3 P1 (by decide))
        go_wp2_with fail
        refine C6.out.mono ?_
        rintro r w7 ⟨rfl, h7, o7⟩
        rw [HP1'.out] at h7
        go_wp2
        go_ret
        exact ⟨rfl, h7, (o4.out.trans (Only.drewN b w4 nq)).trans o7⟩
    · have he : e = false := by
        cases e with
        | false => rfl
        | true => obtain ⟨h, _⟩ := HE.out.2 rfl; exact absurd h hL1
      subst he
      have qL : ((L : Int) == (s.size : Int)) = true := by simp; omega
      clear HE
      go_wp2
      go_quiet (fail)
      have C6 := Lib.hid (swrong B b s _ _ (h4.out.step (below_drewN w4 nq)) 3 P1 (by decide))
      go_wp2_with fail
      refine C6.out.mono ?_
      rintro r w7 ⟨rfl, h7, o7⟩
      rw [HP1'.out] at h7
      go_wp2
      go_ret
      exact ⟨rfl, h7, (o4.out.trans (Only.drewN b w4 nq)).trans o7⟩
  · have C1 := Lib.hid (sstands_at B b s ⟨#[34]⟩ σ w hS _ h1)
    have C2 := Lib.hid (fun w1 (h : Sc B b s σ w1) => sstands_at B b s ⟨#[39]⟩ σ w1 h _ h2)
    clear h1 h2 hS
    go_enter Tryz.func116, Tryz.ntmps116
    go_wp2_with fail
    refine C1.out.mono ?_
    rintro e0 w0 ⟨rfl, h0, hb0⟩
    have H1 := Lib.hid h0
    have O1 := Lib.hid (Only.of (b := b) hb0)
    clear h0 hb0
    go_wp2_with fail
    refine (C2.out w0 H1.out).mono ?_
    rintro e0 w1 ⟨rfl, h0, hb0⟩
    have H2 := Lib.hid h0
    have O2 := Lib.hid (O1.out.trans (Only.of (b := b) hb0))
    clear h0 hb0 H1 O1 C1 C2
    have c0 := H2.out.c0
    have c1 := H2.out.c1
    have H3 := (H2.out.step ((Below.refl _ _).alloc (Nat.le_refl _) (.cells #[.int .u8 0] 5)))
    have d0 := H3.c0
    have d1 := H3.c1
    clear H3
    go_wp2
    go_region
    rw [hq.out]
    have HQ := H2.out.step (((Below.refl _ _).alloc (Nat.le_refl _) (.cells #[.int .u8 (q.toNat : Int)] 5)).drew)
    have HC : ((w1.alloc (.cells #[.int .u8 (q.toNat : Int)] 5)).drew).cell? ⟨w1.heap.size, 0, none⟩ = some (.int .u8 (q.toNat : Int)) := by simp
    have HO := O2.out.trans ((Only.alloc b w1 (.cells #[.int .u8 (q.toNat : Int)] 5)).trans (Only.of ((Below.refl _ _).drew)))
    have HZ : b < w1.heap.size := H2.out.lt
    have HZ2 : w1.heap.size < (w1.alloc (.cells #[.int .u8 (q.toNat : Int)] 5)).drew.heap.size := by simp
    clear c0 c1 d0 d1 H2 O2
    generalize (w1.alloc (.cells #[.int .u8 (q.toNat : Int)] 5)).drew = w2 at HQ HC HO HZ2 ⊢
    generalize w1.heap.size = Q at HC HZ HZ2 ⊢
    have c1 := HQ.c1
    have f1 := HQ.fz 1
    have H4 := HQ.go (σ.pos + 1) (by omega)
    have C4 : (w2.setCell ⟨b, 1, none⟩ (.int .i64 ((σ.pos + 1 : Nat) : Int))).cell? ⟨Q, 0, none⟩ = some (.int .u8 (q.toNat : Int)) := by
      rw [World.cell?_of_block (w := w2) (Below.heap_setCell _ _ _ _ (by show Q ≠ b; omega))]; exact HC
    have HO := HO.trans (Only.set b 1 w2 (.int .i64 ((σ.pos + 1 : Nat) : Int)))
    have HZ3 : Q < (w2.setCell ⟨b, 1, none⟩ (.int .i64 ((σ.pos + 1 : Nat) : Int))).heap.size := by simp [World.setCell]; exact HZ2
    obtain ⟨P1, hP1⟩ : ∃ P1, σ.pos + 1 = P1 := ⟨_, rfl⟩
    have hP1' : (σ.pos : Int) + 1 = (P1 : Int) := by omega
    rw [hP1] at H4 C4 HO HZ3
    rw [hP1] at HL HR
    have HP1 := Lib.hid hP1
    have H4 := Lib.hid H4
    have C4 := Lib.hid C4
    have HO := Lib.hid HO
    clear HQ HC HZ2 hP1
    go_wp2_with fail
    clear c1 f1 hP1'
    generalize w2.setCell ⟨b, 1, none⟩ (.int .i64 (P1 : Int)) = w3 at H4 C4 HO HZ3 ⊢
    have C5 := swhile B b s (go_ σ P1) w3 H4.out 127 #[.pointer (some ⟨Q, 0, none⟩)] (qb q) enters_quote (fun w' h => tells_quote Q q w' (by rw [World.cell?_of_block (w := w3) (h.block Q HZ3 (by omega))]; exact C4.out))
    have hgo : whileS (qb q) (bl s) (go_ σ P1) = go_ σ L := by rw [← HL.out]; rfl
    rw [HR.out, hgo] at C5
    have C5 := Lib.hid C5
    have hLs : L ≤ s.size := by
      have := run_len (qb q) (bl s) (go_ σ P1)
      have h2 : (whileS (qb q) (bl s) (go_ σ P1)).pos = P1 + (runW (qb q) (bl s) (go_ σ P1)).length := rfl
      rw [bl_size] at this
      have h3 := HP1.out
      have h4 : (go_ σ P1).pos = P1 := rfl
      rw [h4] at this
      rw [HL.out] at h2
      omega
    have hTs : T.size ≤ s.size := by
      rw [← HR.out, str_size]
      have := run_len (qb q) (bl s) (go_ σ P1)
      rw [bl_size] at this
      omega
    have hPs : P1 ≤ s.size := by have := HP1.out; omega
    have C4' := Lib.hid (fun w' (h : Only b w3 w') => show w'.cell? ⟨Q, 0, none⟩ = some (.int .u8 (q.toNat : Int)) by rw [World.cell?_of_block (w := w3) (h.block Q HZ3 (by omega))]; exact C4.out)
    clear hgo
    refine C5.out.mono ?_
    rintro r w4 ⟨rfl, h4, o4⟩
    have c0 := h4.c0
    have c1 : w4.cell? ⟨b, 1, none⟩ = some (.int .i64 (L : Int)) := h4.c1
    have cQ := C4'.out w4 o4
    have h4 := Lib.hid h4
    have o4 := Lib.hid (HO.out.trans o4)
    have HP1' := Lib.hid (show P1 = σ.pos + 1 from HP1.out.symm)
    clear C4' C4 C5 H4 HO HZ3 HZ HP1 hp hp' hq
    by_cases hL1 : L < s.size
    · have hL1' : (L : Int) < (s.size : Int) := by omega
      have qL : ((L : Int) == (s.size : Int)) = false := by simp; omega
      obtain ⟨c, hc⟩ : ∃ c, s[L]'hL1 = c := ⟨_, rfl⟩
      by_cases hcq : c = q
      · have he := HE.out.1 ⟨hL1, hc.trans hcq⟩
        subst he
        subst hcq
        clear HE
        go_wp2
        go_quiet (fail)
        have h5 := h4.out.step (below_drewN w4 nq)
        have d1 : (w4.drewN nq).cell? ⟨b, 1, none⟩ = some (.int .i64 (L : Int)) := h5.c1
        have g1 := h5.fz 1
        have o5 := o4.out.trans (Only.drewN b w4 nq)
        clear h4 o4 c0 c1 cQ
        generalize w4.drewN nq = w5 at h5 d1 g1 o5 ⊢
        have h6 := Lib.hid (h5.go (L + 1) (by omega))
        have o6 := Lib.hid (o5.trans (Only.set b 1 w5 (.int .i64 ((L + 1 : Nat) : Int))))
        clear h5 o5 hc
        go_wp2_with fail
        rw [show (L : Int) + 1 = ((L + 1 : Nat) : Int) from rfl]
        clear d1 g1
        have C6 := Lib.hid (sopened B b s T _ _ P1 (by omega) (by omega) h6.out)
        refine C6.out.mono ?_
        rintro r w7 ⟨rfl, h7, o7⟩
        rw [HP1'.out] at h7
        go_wp2
        go_ret
        exact ⟨rfl, h7, o6.out.trans o7⟩
      · have he : e = false := by
          cases e with
          | false => rfl
          | true => obtain ⟨h, h'⟩ := HE.out.2 rfl; exact absurd (hc.symm.trans h') hcq
        subst he
        have qc : ((c.toNat : Int) != (q.toNat : Int)) = true := by
          have : c.toNat ≠ q.toNat := fun e => hcq (UInt8.toNat_inj.1 e)
          simp; omega
        clear HE hcq
        go_wp2
        go_quiet (fail)
        have C6 := Lib.hid (swrong B b s _ _ (h4.out.step (below_drewN w4 nq)) 3 P1 (by decide))
        go_wp2_with fail
        refine C6.out.mono ?_
        rintro r w7 ⟨rfl, h7, o7⟩
        rw [HP1'.out] at h7
        go_wp2
        go_ret
        exact ⟨rfl, h7, (o4.out.trans (Only.drewN b w4 nq)).trans o7⟩
    · have he : e = false := by
        cases e with
        | false => rfl
        | true => obtain ⟨h, _⟩ := HE.out.2 rfl; exact absurd h hL1
      subst he
      have qL : ((L : Int) == (s.size : Int)) = true := by simp; omega
      clear HE
      go_wp2
      go_quiet (fail)
      have C6 := Lib.hid (swrong B b s _ _ (h4.out.step (below_drewN w4 nq)) 3 P1 (by decide))
      go_wp2_with fail
      refine C6.out.mono ?_
      rintro r w7 ⟨rfl, h7, o7⟩
      rw [HP1'.out] at h7
      go_wp2
      go_ret
      exact ⟨rfl, h7, (o4.out.trans (Only.drewN b w4 nq)).trans o7⟩
/-- **(*Scanner).quoted.** -/
theorem squoted (B b : Nat) (s : ByteArray) (σ : St) (w : World) (hS : Sc B b s σ w) :
    Calls Tryz.prog 116 #[.pointer (some ⟨b, 0, none⟩)] w fun r w' => r = .returned (.string (str (quotedV (bl s) σ))) ∧ Sc B b s (quotedS (bl s) σ) w' ∧ Only b w w' := by
  unfold quotedV quotedS
  by_cases h : standsS [34] (bl s) σ = true ∨ standsS [39] (bl s) σ = true
  · rw [if_pos h, if_pos h]
    have hp : ∃ h : σ.pos < s.size, True := by
      rcases h with h | h
      · obtain ⟨h1, _⟩ := stands_one 34 s σ h; exact ⟨h1, trivial⟩
      · obtain ⟨h1, _⟩ := stands_one 39 s σ h; exact ⟨h1, trivial⟩
    obtain ⟨hp, _⟩ := hp
    have hq := byteAt_get s σ.pos hp
    have hst : standsS [34] (bl s) σ = true ∨ (standsS [34] (bl s) σ = false ∧ standsS [39] (bl s) σ = true) := by
      cases h1 : standsS [34] (bl s) σ with
      | true => exact .inl rfl
      | false => rw [h1] at h; exact .inr ⟨rfl, by simpa using h⟩
    have hfine : Fine (bl s).length ⟨σ.pos, 0, 0⟩ := ⟨by show σ.pos ≤ _; rw [bl_size]; omega, .inl rfl, Int.le_refl _, by show (0 : Int) ≤ _; omega⟩
    have hL : (quoteS (bl s) σ).pos ≤ s.size := by
      have h1 := (quote_fine hfine (by rw [bl_size]; exact hp)).pos
      rw [bl_size] at h1
      exact h1
    have HE : (∃ h : (quoteS (bl s) σ).pos < s.size, s[(quoteS (bl s) σ).pos]'h = byteAt (bl s) σ.pos) ↔ endsB (bl s) σ = true := by
      unfold endsB
      rw [Bool.and_eq_true, decide_eq_true_iff, beq_iff_eq, bl_size]
      constructor
      · rintro ⟨h1, h2⟩; exact ⟨h1, by rw [byteAt_get s _ h1]; exact h2⟩
      · rintro ⟨h1, h2⟩; exact ⟨h1, by rw [← byteAt_get s _ h1]; exact h2⟩
    refine (squoted_yes B b s σ w hS hp (byteAt (bl s) σ.pos) (Lib.hid hq.symm) _ _ hst (Lib.hid rfl) (Lib.hid rfl) (endsB (bl s) σ) (Lib.hid HE)).mono ?_
    rintro r w' ⟨rfl, h1, h2⟩
    rw [str_bl] at h1
    refine ⟨?_, h1, h2⟩
    rw [str_bl]
    split <;> rfl
  · rw [if_neg h, if_neg h]
    exact squoted_no B b s σ w hS (by cases h1 : standsS [34] (bl s) σ with | false => rfl | true => exact absurd (.inl h1) h) (by cases h1 : standsS [39] (bl s) σ with | false => rfl | true => exact absurd (.inr h1) h)

end Go.Proofs.YtekmenkebokdoaaGreatDoor
