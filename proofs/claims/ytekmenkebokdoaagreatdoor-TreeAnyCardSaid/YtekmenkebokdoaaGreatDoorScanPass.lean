/-
  The walks of (*Scanner).pass and passAll.
-/
import Derived.Test.YtekmenkebokdoaaGreatDoorScanParts
namespace Go.Proofs.YtekmenkebokdoaaGreatDoor
open Go.RowKit
set_option maxRecDepth 100000

set_option maxHeartbeats 4000000 in
theorem spass0 (B b : Nat) (s p e : ByteArray) (σ σ' : St) (w : World) (hS : Sc B b s σ w) (hp : σ.pos + p.size ≤ s.size) (n : Nat) (X : List UInt8) (Y : ByteArray) (A M : Bool) (hY : Y.size ≤ s.size)
    (hn : ∀ (args : Array Value) (w : World), (callFunc n args).run Tryz.prog w = .ok (.enter n args) w)
    (C1 : Hid (∀ w, Glob B w → Calls Tryz.prog 91 #[.string (s.extract (σ.pos + p.size) s.size), .string e] w fun r w' => r = .returned (.tuple #[.string (str X), .string Y, .bool A]) ∧ ∃ n, w' = w.drewN n))
    (CM : Hid (∀ w, Glob B w → Calls Tryz.prog n #[.string (str X)] w fun r w' => r = .returned (.bool M) ∧ w = w'))
    (h' : Hid (σ' = if A = true ∧ M = true then go_ σ (s.size - Y.size) else wrongS 3 σ.pos σ)) :
    Calls Tryz.prog 73 #[.pointer (some ⟨b, 0, none⟩), .string p, .string e, .func (.func n) #[] #[]] w fun r w' => r = .returned (.tuple #[]) ∧ Sc B b s σ' w' ∧ Only b w w' := by
  have hp' : (σ.pos : Int) + (p.size : Int) ≤ (s.size : Int) := by omega
  have hY' : (Y.size : Int) ≤ (s.size : Int) := by omega
  have hln := hS.len
  have c0 := hS.c0
  have c1 := hS.c1
  have H := Lib.hid hS
  have C1 := Lib.hid fun n => C1.out (w.drewN n) (hS.glob.step ((below_drewN w n).mono hS.glob.le))
  have e1 : IntKind.i64.wrap ((σ.pos : Int) + (p.size : Int)) = (σ.pos : Int) + (p.size : Int) := IntWalk.i64_in _ (by omega)
  have e2 : (0 : Int) ≤ (σ.pos : Int) + (p.size : Int) := by omega
  have e3 : ((σ.pos : Int) + (p.size : Int)).toNat = σ.pos + p.size := by omega
  clear hS
  go_enter Tryz.func73, Tryz.ntmps73
  go_wp2
  go_quiet ((go_at_call 91; exact Calls.quiet_of (C1.out _)))
  clear e1 e2 e3 c0 c1 C1
  have H1 := Lib.hid (H.out.step (below_drewN w nq))
  have O1 := Lib.hid (Only.drewN b w nq)
  clear H
  generalize w.drewN nq = w1 at H1 O1 ⊢
  have CM := Lib.hid (CM.out w1 H1.out.glob)
  have c0 := H1.out.c0
  have c1 := H1.out.c1
  have f1 := H1.out.fz 1
  cases A with
  | true =>
    cases M with
    | true =>
      have h2 := Lib.hid (h'.out.trans (by rw [if_pos ⟨rfl, rfl⟩]))
      have h3 := Lib.hid (H1.out.go (s.size - Y.size) (by omega))
      have hsub : (s.size : Int) - (Y.size : Int) = ((s.size - Y.size : Nat) : Int) := by omega
      clear h'
      go_wp2_with fail
      refine CM.out.mono ?_
      rintro r w2 ⟨rfl, rfl⟩
      go_wp2
      go_end0
      exact ⟨rfl, by rw [h2.out]; exact h3.out, O1.out.trans (Only.set b 1 _ _)⟩
    | false =>
      have h2 := Lib.hid (h'.out.trans (by rw [if_neg (by rintro ⟨_, h⟩; exact absurd h (by decide))]))
      have CW := Lib.hid (swrong B b s σ w1 H1.out 3 σ.pos (by decide))
      clear h'
      go_wp2_with fail
      refine CM.out.mono ?_
      rintro r w2 ⟨rfl, rfl⟩
      go_wp2_with fail
      refine CW.out.mono ?_
      rintro r w3 ⟨rfl, h3, o3⟩
      go_wp2
      (try simp only [Exit.inBlock, Exit.then])
      refine bodyPost_ret (results_none rfl _ _ _) rfl ?_
      exact ⟨rfl, by rw [h2.out]; exact h3, O1.out.trans o3⟩
  | false =>
    have h2 := Lib.hid (h'.out.trans (by rw [if_neg (by rintro ⟨h, _⟩; exact absurd h (by decide))]))
    have CW := Lib.hid (swrong B b s σ w1 H1.out 3 σ.pos (by decide))
    clear h' CM
    go_wp2_with fail
    refine CW.out.mono ?_
    rintro r w3 ⟨rfl, h3, o3⟩
    go_wp2
    (try simp only [Exit.inBlock, Exit.then])
    refine bodyPost_ret (results_none rfl _ _ _) rfl ?_
    exact ⟨rfl, by rw [h2.out]; exact h3, O1.out.trans o3⟩

/-! ### what may stand where nothing is said -/
set_option maxHeartbeats 1000000 in
theorem may_hint (X : ByteArray) (w : World) : Calls Tryz.prog 77 #[.string X] w fun r w' => r = .returned (.bool true) ∧ w = w' := by
  go_enter Tryz.func77, Tryz.ntmps77
  go_wp2
  go_ret
  exact ⟨rfl, rfl⟩
set_option maxHeartbeats 1000000 in
theorem may_com (X : List UInt8) (hX : X.length ≤ 4000000000) (w : World) (hM : MaxL w) : Calls Tryz.prog 74 #[.string (str X)] w fun r w' => r = .returned (.bool (mayC X)) ∧ w = w' := by
  obtain ⟨m, hm⟩ := hM
  have C1 := Tryz.strings_Contains (str X) ⟨#[45, 45]⟩ m w (by rw [str_size]; omega) hm
  have C2 := Tryz.strings_HasSuffix (str X) ⟨#[45]⟩ w (by rw [str_size]; omega)
  have e : (str X).data.toList = X := str_bl X
  rw [e] at C1 C2
  change Calls _ _ _ _ (fun e w' => e = .returned (.bool (Lib.contains X [45, 45])) ∧ w' = w) at C1
  change Calls _ _ _ _ (fun e w' => e = .returned (.bool (Lib.hasSuffix X [45])) ∧ w' = w) at C2
  unfold mayC
  generalize Lib.contains X [45, 45] = A at C1 ⊢
  generalize Lib.hasSuffix X [45] = A2 at C2 ⊢
  have C1 := Lib.hid C1
  have C2 := Lib.hid C2
  clear hm e
  cases A with
  | true =>
    go_enter Tryz.func74, Tryz.ntmps74
    go_wp2_with fail
    refine C1.out.mono ?_
    rintro r w1 ⟨rfl, hw⟩
    obtain rfl := hw.symm
    go_wp2
    go_ret
    exact ⟨rfl, rfl⟩
  | false =>
    cases A2 with
    | true =>
      go_enter Tryz.func74, Tryz.ntmps74
      go_wp2_with fail
      refine C1.out.mono ?_
      rintro r w1 ⟨rfl, hw⟩
      obtain rfl := hw.symm
      go_wp2_with fail
      refine C2.out.mono ?_
      rintro r w1 ⟨rfl, hw⟩
      obtain rfl := hw.symm
      go_wp2
      go_ret
      exact ⟨rfl, rfl⟩
    | false =>
      go_enter Tryz.func74, Tryz.ntmps74
      go_wp2_with fail
      refine C1.out.mono ?_
      rintro r w1 ⟨rfl, hw⟩
      obtain rfl := hw.symm
      go_wp2_with fail
      refine C2.out.mono ?_
      rintro r w1 ⟨rfl, hw⟩
      obtain rfl := hw.symm
      go_wp2
      go_ret
      exact ⟨rfl, rfl⟩
theorem enters_com : ∀ (args : Array Value) (w : World), (callFunc 74 args).run Tryz.prog w = .ok (.enter 74 args) w := enters_of Tryz.func74 (by kernel_rfl) rfl
theorem enters_hint : ∀ (args : Array Value) (w : World), (callFunc 77 args).run Tryz.prog w = .ok (.enter 77 args) w := enters_of Tryz.func77 (by kernel_rfl) rfl
/-- **(*Scanner).pass.** -/
theorem spass (B b : Nat) (s p e : ByteArray) (lp le : List UInt8) (hlp : bl p = lp) (hle : bl e = le) (σ : St) (w : World) (hS : Sc B b s σ w) (hst : standsS lp (bl s) σ = true) (hp0 : lp ≠ []) (n : Nat) (may : List UInt8 → Bool)
    (hn : ∀ (args : Array Value) (w : World), (callFunc n args).run Tryz.prog w = .ok (.enter n args) w)
    (hM : ∀ (X : List UInt8) (w : World), X.length ≤ 4000000000 → Glob B w → Calls Tryz.prog n #[.string (str X)] w fun r w' => r = .returned (.bool (may X)) ∧ w = w') :
    Calls Tryz.prog 73 #[.pointer (some ⟨b, 0, none⟩), .string p, .string e, .func (.func n) #[] #[]] w fun r w' => r = .returned (.tuple #[]) ∧ Sc B b s (passS lp le may (bl s) σ) w' ∧ Only b w w' := by
  have hl := hS.len
  have hst' := stands_len hst hp0
  rw [bl_size, ← hlp, bl_size] at hst'
  have hlen := cut_len ((bl s).drop (σ.pos + lp.length)) le
  rw [List.length_drop, bl_size] at hlen
  have hX : (passC lp le (bl s) σ).1.length ≤ s.size - (σ.pos + lp.length) := hlen.1
  have hY : (passC lp le (bl s) σ).2.1.length ≤ s.size - (σ.pos + lp.length) := hlen.2
  have hc : ∀ w, Glob B w → Calls Tryz.prog 91 #[.string (s.extract (σ.pos + p.size) s.size), .string e] w fun r w' => r = .returned (.tuple #[.string (str (passC lp le (bl s) σ).1), .string (str (passC lp le (bl s) σ).2.1), .bool (passC lp le (bl s) σ).2.2]) ∧ ∃ n, w' = w.drewN n := by
    intro w hg
    obtain ⟨m, hm⟩ := hg.ent.maxl
    have c := Tryz.strings_Cut (s.extract (σ.pos + p.size) s.size) e m w (by have := size_from s (σ.pos + p.size); omega) hm
    have e1 : (s.extract (σ.pos + p.size) s.size).data.toList = (bl s).drop (σ.pos + lp.length) := by rw [← hlp, bl_size]; exact bl_from s _
    have e2 : e.data.toList = le := hle
    rw [e1, e2] at c
    exact c
  unfold passS
  rw [bl_size]
  obtain ⟨C, hC⟩ : ∃ C, passC lp le (bl s) σ = C := ⟨_, rfl⟩
  rw [hC] at hc hX hY ⊢
  have hs : C.2.1.length = (str C.2.1).size := (str_size _).symm
  rw [hs] at hY ⊢
  exact spass0 B b s p e σ _ w hS hst' n C.1 (str C.2.1) C.2.2 (may C.1) (by omega) hn (Lib.hid hc) (Lib.hid fun w hg => hM C.1 w (by omega) hg) (Lib.hid rfl)

end Go.Proofs.YtekmenkebokdoaaGreatDoor
