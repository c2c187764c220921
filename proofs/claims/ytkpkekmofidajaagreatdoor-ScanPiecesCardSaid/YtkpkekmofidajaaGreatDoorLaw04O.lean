/-
  The walk of galliardlaw04.piece where it begins an element.
-/
import Derived.Test.YtkpkekmofidajaaGreatDoorLaw04Q
import Derived.Deep.RegionWith
import Derived.BigQuiet
import Derived.Deep.QuietTactic
namespace Go.Proofs.YtkpkekmofidajaaGreatDoor
open Go Go.RowKit
set_option maxRecDepth 100000

theorem heap_alloc_newA {w : World} {o : Obj} {A : Nat} (h : w.heap.size = A) : (w.alloc o).heap[A]? = some o := by subst h; exact heap_alloc_new w o

set_option maxHeartbeats 10000000 in
/-- A beginning. -/
theorem litem_open (k : Nat) (hk : k < 65536) (d : Nat) (hd : Hid (bits .and .i64 (k : Int) 7 = (d : Int))) (hd1 : 1 ≤ d) (hd4 : d ≤ 4) (s t T : ByteArray) (m : Nat) (w : World) (hm1 : m ≤ t.size) (hm3 : min (t.size : Int) 9 = (m : Int)) (HTm : Hid (t.extract 0 m = T)) (hTs : T.size ≤ 9) :
    Calls Tryz.prog 6 #[.int .i64 k, .string s, .string t] w (GivesI w) := by
  obtain ⟨i0, hi, hz0, hz1, hz2⟩ := info_parts attr_info
  have HI := Lib.hid hi
  have HI0 := Lib.hid hz0
  have HI1 := Lib.hid hz1
  have HI2 := Lib.hid hz2
  clear hi hz0 hz1 hz2
  have hb3 := b3_of k hk
  obtain ⟨j, hj⟩ : ∃ j, k / 8 % 4 = j := ⟨_, rfl⟩
  have hj4 : j < 4 := by omega
  rw [hj] at hb3
  have hjI : (j : Int) < 4 := by omega
  have hR0 := (Below.heap_alloc (w.alloc (.cells #[.int .i64 0, .string ⟨#[]⟩, .slice none 0 0, .string ⟨#[]⟩, .int .i64 0] 27)) (.cells #[.string ⟨#[32]⟩, .string ⟨#[10]⟩, .string ⟨#[32, 32]⟩, .string ⟨#[9]⟩] 9) w.heap.size (by simp)).trans (heap_alloc_new w (.cells #[.int .i64 0, .string ⟨#[]⟩, .slice none 0 0, .string ⟨#[]⟩, .int .i64 0] 27))
  have hL := heap_alloc_new (w.alloc (.cells #[.int .i64 0, .string ⟨#[]⟩, .slice none 0 0, .string ⟨#[]⟩, .int .i64 0] 27)) (.cells #[.string ⟨#[32]⟩, .string ⟨#[10]⟩, .string ⟨#[32, 32]⟩, .string ⟨#[9]⟩] 9)
  rw [show (w.alloc (.cells #[.int .i64 0, .string ⟨#[]⟩, .slice none 0 0, .string ⟨#[]⟩, .int .i64 0] 27)).heap.size = w.heap.size + 1 by simp] at hL
  have cB : ((w.alloc (.cells #[.int .i64 0, .string ⟨#[]⟩, .slice none 0 0, .string ⟨#[]⟩, .int .i64 0] 27)).alloc (.cells #[.string ⟨#[32]⟩, .string ⟨#[10]⟩, .string ⟨#[32, 32]⟩, .string ⟨#[9]⟩] 9)).cell? ⟨w.heap.size + 1, j, none⟩ = some (.string (str (blk j))) := by rw [Lib.cell_of_heap hL]; exact blk_t j hj4
  have HB0 := Lib.hid (((Below.refl w.heap.size w).alloc (Nat.le_refl _) (.cells #[.int .i64 0, .string ⟨#[]⟩, .slice none 0 0, .string ⟨#[]⟩, .int .i64 0] 27)).alloc (by simp) (.cells #[.string ⟨#[32]⟩, .string ⟨#[10]⟩, .string ⟨#[32, 32]⟩, .string ⟨#[9]⟩] 9))
  have HR0 := Lib.hid hR0
  have hd' := hd.out
  clear hR0 hL hj
  go_enter Tryz.func6, Tryz.ntmps6
  go_upto_region 2 with (fail)
  generalize ((w.alloc (.cells #[.int .i64 0, .string ⟨#[]⟩, .slice none 0 0, .string ⟨#[]⟩, .int .i64 0] 27)).alloc (.cells #[.string ⟨#[32]⟩, .string ⟨#[10]⟩, .string ⟨#[32, 32]⟩, .string ⟨#[9]⟩] 9)) = w1 at cB HB0 HR0 ⊢
  obtain ⟨R, hRe⟩ : ∃ R, w.heap.size = R := ⟨_, rfl⟩
  rw [hRe] at HR0 cB ⊢
  have HRe := Lib.hid hRe
  clear hRe cB hd
  have K1 := Lib.hid (KI.mk HB0.out HR0.out)
  have CN := Lib.hid (lname s w1)
  clear HR0 HB0
  have q0 : ((d : Int) == 0) = false := by simp; omega
  go_upto_if 42 with (fail)
  go_cut [42] (fun u wx => u = .bool true ∧ wx = w1)
  case first =>
    clear CN K1
    obtain rfl | rfl | rfl | rfl : d = 1 ∨ d = 2 ∨ d = 3 ∨ d = 4 := by omega
    all_goals
      go_wp2
      go_meet
      exact ⟨rfl, rfl⟩
  case rest =>
    obtain ⟨rfl, rfl⟩ := hcut
    go_wp2_with fail
    refine CN.out.mono ?_
    rintro r w2 ⟨rfl, hb2⟩
    have K2 := Lib.hid (K1.out.step hb2)
    have hRP : R < w2.heap.size := (Array.getElem?_eq_some_iff.1 K2.out.heap).1
    clear hb2 CN K1
    go_upto_region 11 with (fail)
    have K3 := Lib.hid (K2.out.step ((Below.refl _ _).alloc (Nat.le_refl _) (.cells #[.int .i64 1, .string (str (nameG (bl s))), .slice none 0 0, .string ⟨#[]⟩, .int .i64 0] 27)))
    have hP := Lib.hid (heap_alloc_new w2 (.cells #[.int .i64 1, .string (str (nameG (bl s))), .slice none 0 0, .string ⟨#[]⟩, .int .i64 0] 27))
    have hwP := Lib.hid K2.out.below.size
    clear K2
    obtain ⟨P, hPe⟩ : ∃ P, w2.heap.size = P := ⟨_, rfl⟩
    rw [hPe] at hP hRP hwP ⊢
    clear hPe
    generalize w2.alloc (.cells #[.int .i64 1, .string (str (nameG (bl s))), .slice none 0 0, .string ⟨#[]⟩, .int .i64 0] 27) = w3 at K3 hP ⊢
    obtain ⟨p0, p1, p2, p3, p4⟩ := pcs_of hP.out
    have pf := Lib.frozen_of_heap hP.out 1
    have s1 : (str (nameG (bl s))).size ≤ 7 := by rw [str_size]; exact (nameG_len _).2
    have hk1 : bits .and .i64 (k : Int) 1 = ((k % 2 : Nat) : Int) := by
      have := mask_of k hk 1 (by decide) 1 (by decide)
      simpa using this
    obtain ⟨o, ho⟩ : ∃ o, k % 2 = o := ⟨_, rfl⟩
    have ho2 : o < 2 := by omega
    rw [ho] at hk1
    clear ho
    go_upto_if 55 with (fail)
    go_cut [11] (fun u wx => OpN w R P u wx)
    case first =>
      obtain rfl | rfl : o = 0 ∨ o = 1 := by omega
      · go_wp2
        go_meet
        exact ⟨nameG (bl s), by rw [lt_str], nameOk_g _, K3.out, hP.out⟩
      · have hcat : (⟨#[112, 58]⟩ : ByteArray) ++ str (nameG (bl s)) = str (112 :: 58 :: nameG (bl s)) := str_append [112, 58] _
        have s3 : (str (112 :: 58 :: nameG (bl s))).size ≤ 9 := by rw [str_size]; have := (nameG_len (bl s)).2; simp; omega
        have hne : ¬ P = R := by omega
        go_wp2
        go_meet
        refine ⟨112 :: 58 :: nameG (bl s), by rw [lt_str], nameOk_p _, ?_, ?_⟩
        · exact ⟨K3.out.below.setCell (p := ⟨P, 1, none⟩) hwP.out _, (Below.heap_setCell _ _ _ _ (by show R ≠ P; omega)).trans K3.out.heap⟩
        · rw [heap_set _ hP.out]; rfl
    case rest =>
      obtain ⟨NM, rfl, hNM, K4, hP4⟩ := hcut
      have CP := fun wx => Lib.hid (rplain T wx (by omega))
      go_wp2_with fail
      rw [HTm.out]
      refine (CP _).out.mono ?_
      rintro r w4 ⟨V, rfl, hV, hVl, hb4⟩
      have hVs : (str V).size ≤ 9 := by rw [str_size]; omega
      have K5 := Lib.hid (K4.step hb4)
      have hP5 := Lib.hid ((hb4.block P (Array.getElem?_eq_some_iff.1 hP4).1).trans hP4)
      have HV := Lib.hid hV
      clear hb4 CP K4 hP4 hV
      have hk3 : bits .and .i64 ((k : Int) / 32) 3 = ((k / 32 % 4 : Nat) : Int) := by
        have := mask_of (k / 32) (by omega) 2 (by decide) 3 (by decide)
        simpa using this
      obtain ⟨n, hn⟩ : ∃ n, k / 32 % 4 = n := ⟨_, rfl⟩
      have hn4 : n < 4 := by omega
      rw [hn] at hk3
      clear hn
      go_wp2
      go_loopg [11, 13] n (fun g x i wr => LpR w R P NM (blk j) (nameG (bl t)) V n g x i wr)
      case atStart => exact ⟨0, .slice none 0 0, by omega, rfl, by simp [atL, atsT], K5.out, hP5.out, World.ownsRow_nil _ _ _ _⟩
      case round =>
        obtain ⟨i, v, hig, rfl, rfl, hrel⟩ := hrel
        obtain ⟨ao, cap, rfl⟩ : ∃ ao cap, v = .slice ao i cap := by
          rcases hrel.own.2 with ⟨hv, h0⟩ | ⟨g, cap, cur, hv, _⟩
          · exact ⟨none, 0, by rw [hv, show i = 0 by rw [atL_len] at h0; exact h0]⟩
          · exact ⟨_, _, by rw [hv, atL_len]⟩
        have H := Lib.hid hrel
        clear hrel
        by_cases hin : i < n
        · have CN := Lib.hid (fun (wx : World) (h : Below wr.heap.size wr wx) => (lname t wx).mono (fun e w' (he : e = _ ∧ Below wx.heap.size wx w') => (show e = .returned (.string (str (nameG (bl t)))) ∧ Below wr.heap.size wr w' ∧ Below wx.heap.size wx w' from ⟨he.1, h.trans (he.2.mono h.size), he.2⟩)))
          have s4 : (str (nameG (bl t))).size ≤ 7 := by rw [str_size]; exact (nameG_len _).2
          have hi3 : i < 3 := by omega
          obtain ⟨x, hx⟩ : ∃ x : Int, 65 + (i : Int) = x := ⟨_, rfl⟩
          have hx2 : x < 256 := by omega
          have hx0 : 0 ≤ x := by omega
          have hxu : IntKind.u8.wrap x = x := IntWalk.u8_in _ (by omega)
          have hxi : IntKind.i64.wrap x = x := IntWalk.i64_in _ (by omega)
          have hub : ub x = UInt8.ofNat (65 + i) := by subst hx; unfold ub; congr 1
          obtain ⟨X, hX⟩ : ∃ X, str (nameG (bl t)) = X := ⟨_, rfl⟩
          have hcv : ∀ (w' : World) (q : Nat), w'.cell? ⟨q, 0, none⟩ = some (.int .u8 x) → (convert 41 9 (.slice (some ⟨q, 0, none⟩) 1 1)).run Tryz.prog w' = .ok (.string ⟨#[ub x]⟩) w' := fun w' q h => convC w' q x ⟨hx0, hx2⟩ h
          rw [hX] at CN s4
          have HX := Lib.hid hX
          have HU := Lib.hid hub
          clear hX hub
          have hn1 : wr.heap.size < wr.heap.size + 1 + 1 := by omega
          have hn2 : wr.heap.size < wr.heap.size + 2 := by omega
          go_wp2_with fail
          go_cut [14] (fun u wx => AtR wr (X ++ ⟨#[ub x]⟩) (str V) u wx)
          case first =>
            go_region_with (go_at_call 15; refine (CN.out _ (by first | exact Below.refl _ _ | exact (Below.refl _ _).drew | exact ((Below.refl _ _).drew).alloc (Nat.le_refl _) _ | exact (((Below.refl _ _).drew).alloc (Nat.le_refl _) _).alloc (by simp) _)).mono ?_; rintro e wy ⟨rfl, HBy, HBx⟩; have HZ := Lib.hid HBy; have HZx := Lib.hid HBx; obtain ⟨hcB, hfB⟩ := bcell HBx; (try have hlt1 : wr.heap.size < wy.heap.size := by have hz := HBx.size; simp at hz; omega); (try have hlt2 : wr.heap.size + 1 < wy.heap.size := by have hz := HBx.size; simp at hz; omega); clear HBy HBx)
            all_goals
              clear hcB hfB
              (try go_wp2_with fail)
              go_meet
              first
              | (refine atR_fin ?_ ?_ ?_
                 · first
                    | exact HZ.out
                    | exact HZ.out.alloc HZ.out.size _
                    | exact (HZ.out.alloc HZ.out.size _).alloc (by simp; have := HZ.out.size; omega) _
                    | exact HZ.out.drew
                    | exact (HZ.out.alloc HZ.out.size _).drew
                    | exact ((HZ.out.alloc HZ.out.size _).alloc (by simp; have := HZ.out.size; omega) _).drew
                 · first | exact Nat.le_refl _ | exact HZ.out.size | (have := HZ.out.size; omega)
                 · first
                    | exact heap_alloc_newA (by simp)
                    | exact (Below.heap_alloc _ _ _ (by first | omega | (simp <;> omega))).trans (heap_alloc_newA (by first | omega | (simp <;> omega)))
                    | exact (HZx.out.block _ (by first | omega | (simp <;> omega))).trans (heap_alloc_newA (by first | omega | (simp <;> omega)))
                    | exact (HZx.out.block _ (by first | omega | (simp <;> omega))).trans ((Below.heap_alloc _ _ _ (by first | omega | (simp <;> omega))).trans (heap_alloc_newA (by first | omega | (simp <;> omega))))
                    | exact (Below.heap_alloc _ _ _ (by first | omega | (simp; omega))).trans ((HZx.out.block _ (by first | omega | (simp <;> omega))).trans (heap_alloc_newA (by first | omega | (simp <;> omega)))))
              | (refine AtR.alloc (atR_fin ?_ ?_ ?_) _
                 · first
                    | exact HZ.out
                    | exact HZ.out.alloc HZ.out.size _
                    | exact (HZ.out.alloc HZ.out.size _).alloc (by simp; have := HZ.out.size; omega) _
                    | exact HZ.out.drew
                    | exact (HZ.out.alloc HZ.out.size _).drew
                    | exact ((HZ.out.alloc HZ.out.size _).alloc (by simp; have := HZ.out.size; omega) _).drew
                 · first | exact Nat.le_refl _ | exact HZ.out.size | (have := HZ.out.size; omega)
                 · first
                    | exact heap_alloc_newA (by simp)
                    | exact (Below.heap_alloc _ _ _ (by first | omega | (simp <;> omega))).trans (heap_alloc_newA (by first | omega | (simp <;> omega)))
                    | exact (HZx.out.block _ (by first | omega | (simp <;> omega))).trans (heap_alloc_newA (by first | omega | (simp <;> omega)))
                    | exact (HZx.out.block _ (by first | omega | (simp <;> omega))).trans ((Below.heap_alloc _ _ _ (by first | omega | (simp <;> omega))).trans (heap_alloc_newA (by first | omega | (simp <;> omega))))
                    | exact (Below.heap_alloc _ _ _ (by first | omega | (simp; omega))).trans ((HZx.out.block _ (by first | omega | (simp <;> omega))).trans (heap_alloc_newA (by first | omega | (simp <;> omega)))))
              | (refine ⟨_, rfl, ?_, ?_, ?_⟩
                 · first | exact Nat.le_refl _ | exact HZ.out.size | (have := HZ.out.size; omega)
                 · first
                    | exact heap_alloc_newA (by simp)
                    | exact (Below.heap_alloc _ _ _ (by first | omega | (simp <;> omega))).trans (heap_alloc_newA (by first | omega | (simp <;> omega)))
                    | exact (HZx.out.block _ (by first | omega | (simp <;> omega))).trans (heap_alloc_newA (by first | omega | (simp <;> omega)))
                    | exact (HZx.out.block _ (by first | omega | (simp <;> omega))).trans ((Below.heap_alloc _ _ _ (by first | omega | (simp <;> omega))).trans (heap_alloc_newA (by first | omega | (simp <;> omega))))
                    | exact (Below.heap_alloc _ _ _ (by first | omega | (simp; omega))).trans ((HZx.out.block _ (by first | omega | (simp <;> omega))).trans (heap_alloc_newA (by first | omega | (simp <;> omega))))
                 · first
                    | exact HZ.out
                    | exact HZ.out.alloc HZ.out.size _
                    | exact (HZ.out.alloc HZ.out.size _).alloc (by simp; have := HZ.out.size; omega) _
                    | exact HZ.out.drew
                    | exact (HZ.out.alloc HZ.out.size _).drew
                    | exact ((HZ.out.alloc HZ.out.size _).alloc (by simp; have := HZ.out.size; omega) _).drew)
              | skip
          case rest =>
            obtain ⟨B, rfl, hB0, hBh, hBb⟩ := hcut
            clear p0 p1 p2 p3 p4 pf hcv hn1 hn2 hxu hxi CN
            have H6 := Lib.hid (H.out.step hBb)
            have hPr : P < wr.heap.size := (Array.getElem?_eq_some_iff.1 H.out.hP).1
            have hB6 := (Array.getElem?_eq_some_iff.1 hBh).1
            have hBne : Hid (∀ g, (Value.slice ao i cap).ownBlock = some g → g < wr.heap.size ∧ P < g) := Lib.hid (fun g hg => by have := H.out.own.lt g hg; omega)
            have p2 := Lib.cell_of_heap H6.out.hP 2
            have pf := Lib.frozen_of_heap H6.out.hP 2
            have b0 := Lib.cell_of_heap hBh 0
            have b1 := Lib.cell_of_heap hBh 1
            simp only [List.getElem?_toArray, List.getElem?_cons_zero, List.getElem?_cons_succ] at p2 b0 b1
            have HBh := Lib.hid hBh
            have HBb := Lib.hid hBb
            clear hBh hBb
            have hSs : (X ++ ⟨#[ub x]⟩).size ≤ 8 := by rw [ByteArray.size_append]; show X.size + 1 ≤ 8; omega
            have hSx : Hid (X ++ ⟨#[ub x]⟩ = str (nameG (bl t) ++ [UInt8.ofNat (65 + i)])) := Lib.hid (by rw [← HX.out, str_snoc, HU.out])
            obtain ⟨S, hS⟩ : ∃ S, X ++ ⟨#[ub x]⟩ = S := ⟨_, rfl⟩
            rw [hS] at HBh b0 hSs hSx
            obtain ⟨VV, hVV⟩ : ∃ VV, str V = VV := ⟨_, rfl⟩
            have HVV := Lib.hid hVV
            rw [hVV] at hVs HBh b1 ⊢
            clear hS hVV
            have hown : wc.ownsRow (P + 1) 47 2 (.slice ao i cap) i (atC (atL (nameG (bl t)) V i)) := by have h := H6.out.own; rw [atL_len] at h; exact h
            have HOwn := Lib.hid hown
            clear hown
            go_wp2_with (
              at_builtin
              refine wpList_append_lies _ (by rfl) _ _ _ (by rfl) (P + 1) 47 i0 _ 2 32 Tryz.underlying25 HI.out HI0.out HI1.out HI2.out rfl (by omega) (.slice ao i cap) i (atC (atL (nameG (bl t)) V i)) (by rfl) (HOwn.out.alloc _)
                ⟨wc.heap.size, 0, none⟩ 1 1 [.string S, .string VV] (by rfl) (by rfl) (World.news_of_block (cs := #[.string S, .string VV]) (t := 47) (fr := (0, 0)) (heap_alloc_new wc _)) (by simp [Value.oneCell'])
                (by omega) (by unfold maxLen; omega) (by omega) (by simp; omega) (wc.heap.size + 1) (by simp) ?_
              intro gg cap' w7 hown7 hgrow hat hlt
              have hgb : ∀ k, k < wc.heap.size → (k ≤ P ∨ k = B) → w7.heap[k]? = wc.heap[k]? := fun k hk hkk => (hgrow.block k (by simp; omega) (fun e => by have := hBne.out k e.symm; omega)).trans (Below.heap_alloc wc _ k hk)
              have k7 : w7.cell? ⟨P, 2, none⟩ = some (.slice ao i cap) := (World.cell?_of_block (w := wc) (hgb P (by omega) (.inl (Nat.le_refl _)))).trans p2
              have g7 : w7.frozen? ⟨P, 2, none⟩ = false := (World.frozen?_of_block (w := wc) (hgb P (by omega) (.inl (Nat.le_refl _)))).trans pf
              have HB7 := Lib.hid ((Below.heap_setCell w7 ⟨P, 2, none⟩ (.slice (some ⟨gg, 0, none⟩) (i + 1) cap') B (by show B ≠ P; omega)).trans ((hgb B hB6 (.inr rfl)).trans HBh.out))
              have H7 := Lib.hid (H6.out.append hRP HRe.out (nameG (bl t) ++ [UInt8.ofNat (65 + i)], V) (atL_len _ _ i) hgrow (by rw [hSx.out, ← HVV.out] at hown7; exact hown7))
              clear hgb hown7 hgrow hat hlt)
            rw [← atL_succ] at H7
            clear k7 g7 p2 pf b0 b1 H6 HOwn HBh
            have b2 := Lib.cell_of_heap HB7.out 0
            simp only [List.getElem?_toArray, List.getElem?_cons_zero] at b2
            generalize w7.setCell ⟨P, 2, none⟩ (.slice (some ⟨gg, 0, none⟩) (i + 1) cap') = w8 at HB7 H7 b2 ⊢
            have CC : Hid (∀ nn, Calls Tryz.prog 16 #[.string VV] (w8.drewN nn) fun e w' => e = .returned (.string (str (closeL V))) ∧ w8.drewN nn = w') := Lib.hid (fun nn => by
              have h := rclose VV (w8.drewN nn) (by omega)
              rw [← HVV.out, str_bl] at h
              rw [← HVV.out]
              exact h)
            have hYl : (str (60 :: (NM ++ atsT (blk j) (atL (nameG (bl t)) V i)))).size ≤ 500 := by
              rw [str_size, List.length_cons, List.length_append]
              have h1 := atsT_len (blk j) (nameG (bl t)) V (blk_ok j).2.2.2.2 (nameG_len (bl t)).2 (by omega) i
              have h2 := hNM.len
              omega
            have hBl : (str (blk j)).size ≤ 2 := by rw [str_size]; exact (blk_ok j).2.2.2.2
            have hCl : (str (closeL V)).size ≤ 60 := by rw [str_size]; have := closeL_len V; omega
            have hsum : Hid (str (60 :: (NM ++ atsT (blk j) (atL (nameG (bl t)) V i))) ++ (((((str (blk j) ++ S) ++ ⟨#[61]⟩) ++ ⟨#[34]⟩) ++ str (closeL V)) ++ ⟨#[34]⟩) = str (60 :: (NM ++ atsT (blk j) (atL (nameG (bl t)) V (i + 1))))) :=
              Lib.hid (by rw [hSx.out, at_str, at_next])
            have hR21 := Lib.hid (fun nn => H7.step ((below_drewN w8 nn)))
            clear H7 hSx
            obtain ⟨Y, hY⟩ : ∃ Y, str (60 :: (NM ++ atsT (blk j) (atL (nameG (bl t)) V i))) = Y := ⟨_, rfl⟩
            obtain ⟨BJ, hBJ⟩ : ∃ BJ, str (blk j) = BJ := ⟨_, rfl⟩
            obtain ⟨CL, hCL⟩ : ∃ CL, str (closeL V) = CL := ⟨_, rfl⟩
            rw [hY] at hYl hsum ⊢
            rw [hBJ] at hBl hsum ⊢
            rw [hCL] at hCl hsum CC
            have HBJ := Lib.hid hBJ
            clear hY hBJ hCL
            obtain ⟨A1, e1⟩ : ∃ A1, BJ ++ S = A1 := ⟨_, rfl⟩
            obtain ⟨A2, e2⟩ : ∃ A2, A1 ++ ⟨#[61]⟩ = A2 := ⟨_, rfl⟩
            obtain ⟨A3, e3⟩ : ∃ A3, A2 ++ ⟨#[34]⟩ = A3 := ⟨_, rfl⟩
            obtain ⟨A4, e4⟩ : ∃ A4, A3 ++ CL = A4 := ⟨_, rfl⟩
            obtain ⟨A5, e5⟩ : ∃ A5, A4 ++ ⟨#[34]⟩ = A5 := ⟨_, rfl⟩
            obtain ⟨A6, e6⟩ : ∃ A6, Y ++ A5 = A6 := ⟨_, rfl⟩
            rw [e1, e2, e3, e4, e5, e6] at hsum
            have z1 : A1.size ≤ 10 := by rw [← e1, ByteArray.size_append]; omega
            have z2 : A2.size ≤ 11 := by rw [← e2, ByteArray.size_append]; show A1.size + 1 ≤ 11; omega
            have z3 : A3.size ≤ 12 := by rw [← e3, ByteArray.size_append]; show A2.size + 1 ≤ 12; omega
            have z4 : A4.size ≤ 72 := by rw [← e4, ByteArray.size_append]; omega
            have z5 : A5.size ≤ 73 := by rw [← e5, ByteArray.size_append]; show A4.size + 1 ≤ 73; omega
            have f1 : ¬ 9223372036854775807 < BJ.size + S.size := by omega
            have f2 : ¬ 9223372036854775807 < A1.size + 1 := by omega
            have f3 : ¬ 9223372036854775807 < A2.size + 1 := by omega
            have f4 : ¬ 9223372036854775807 < A3.size + CL.size := by omega
            have f5 : ¬ 9223372036854775807 < A4.size + 1 := by omega
            have f6 : ¬ 9223372036854775807 < Y.size + A5.size := by omega
            clear hBl hSs hCl hYl z1 z2 z3 z4 z5
            go_quiet ((go_at_call 16; exact Calls.quiet_of_same ((CC.out _).mono (fun _ _ h => ⟨h.1, h.2.symm⟩))))
            clear b2
            rw [hsum.out]
            obtain rfl := HVV.out
            obtain rfl := HBJ.out
            clear e1 e2 e3 e4 e5 e6 f1 f2 f3 f4 f5 f6 hsum CC H
            go_wp2
            go_roundg (n - (i + 1))
            case measure => omega
            case rel => exact ⟨i + 1, _, by omega, by go_num, rfl, hR21.out nq⟩
        · obtain rfl : n = i := by omega
          clear hin hig
          have hk7 : bits .and .i64 ((k : Int) / 128) 1 = ((k / 128 % 2 : Nat) : Int) := by
            have := mask_of (k / 128) (by omega) 1 (by decide) 1 (by decide)
            simpa using this
          have hk8 : bits .and .i64 ((k : Int) / 256) 1 = ((k / 256 % 2 : Nat) : Int) := by
            have := mask_of (k / 256) (by omega) 1 (by decide) 1 (by decide)
            simpa using this
          obtain ⟨q7, hq7⟩ : ∃ q7, k / 128 % 2 = q7 := ⟨_, rfl⟩
          obtain ⟨e8, he8⟩ : ∃ e8, k / 256 % 2 = e8 := ⟨_, rfl⟩
          have hq72 : q7 < 2 := by omega
          have he82 : e8 < 2 := by omega
          rw [hq7] at hk7
          rw [he8] at hk8
          clear hq7 he8 p0 p1 p2 p3 p4 pf
          obtain ⟨p0, p1, p2, p3, p4⟩ := pcs_of H.out.hP
          have pf := Lib.frozen_of_heap H.out.hP 0
          obtain ⟨r0, r1, r2, r3, r4, f0, f1, f2, f3, f4⟩ := H.out.ki.cells
          have hne := Lib.hid (owns_ne H.out.own)
          have hRw := Lib.hid (owns_rows (b := R) H.out.own (by omega))
          have hYl : (str (60 :: (NM ++ atsT (blk j) (atL (nameG (bl t)) V n)))).size ≤ 500 := by
            rw [str_size, List.length_cons, List.length_append]
            have h1 := atsT_len (blk j) (nameG (bl t)) V (blk_ok j).2.2.2.2 (nameG_len (bl t)).2 (by omega) n
            have h2 := hNM.len
            omega
          have hPr : P < wr.heap.size := (Array.getElem?_eq_some_iff.1 H.out.hP).1
          have hpr : ¬ P = R := by omega
          obtain rfl | rfl : q7 = 1 ∨ q7 = 0 := by omega
          · have hend := fun (W : World) (hr : Rows W (.slice ao n cap) (atL (nameG (bl t)) V n)) (hb : Below w.heap.size w W) => open_done (w := w) (s := bl t) (j := j) (eb := []) (e := [47, 62]) hNM HV.out (by omega) hn4 (.inr ⟨rfl, rfl⟩) (.inr rfl) (.inl rfl) (str (60 :: (NM ++ atsT (blk j) (atL (nameG (bl t)) V n))) ++ ⟨#[47, 62]⟩) (by rw [show (⟨#[47, 62]⟩ : ByteArray) = str [47, 62] from rfl, str_append]; simp) hr (fun g o n c hv => by have := hne.out g o n c hv; have := hwP.out; omega) hb
            have hend := Lib.hid hend
            go_wp2
            refine bodyPost_ret (res_item _ rfl _ R rfl _ _ _ _ _ _ rfl _ 27 (0, 0) (st5_heap ((Below.heap_setCell _ _ _ _ (by show R ≠ P; omega)).trans H.out.ki.heap) _ _ _ _ _)) rfl ?_
            refine hend.out _ ?_ ?_
            · exact (hRw.out.heap (by simp [World.setCell]) (fun g o n c hv => by have h2 := hne.out g o n c hv; exact (st5_other (by omega) _ _ _ _ _).trans (Below.heap_setCell _ _ _ _ (by show g ≠ P; omega)))).1
            · exact KI.put ⟨H.out.ki.below.setCell (p := ⟨P, 0, none⟩) hwP.out _, (Below.heap_setCell _ _ _ _ (by show R ≠ P; omega)).trans H.out.ki.heap⟩ HRe.out _ _ _ _ _
          · have hend := fun (W : World) (eb : List UInt8) (heb : eb = [] ∨ eb = blk j) (hr : Rows W (.slice ao n cap) (atL (nameG (bl t)) V n)) (hb : Below w.heap.size w W) => open_done (w := w) (s := bl t) (j := j) (eb := eb) (e := [62]) hNM HV.out (by omega) hn4 (.inl ⟨rfl, rfl⟩) (.inl rfl) heb ((str (60 :: (NM ++ atsT (blk j) (atL (nameG (bl t)) V n))) ++ str eb) ++ ⟨#[62]⟩) (by rw [show (⟨#[62]⟩ : ByteArray) = str [62] from rfl, str_append, str_append]; simp) hr (fun g o n c hv => by have := hne.out g o n c hv; have := hwP.out; omega) hb
            have hend := Lib.hid hend
            have s2 : (str (blk j)).size ≤ 2 := by rw [str_size]; exact (blk_ok j).2.2.2.2
            have K4 := Lib.hid (H.out.ki.step ((Below.refl _ _).alloc (Nat.le_refl _) (.cells #[.string ⟨#[]⟩, .string (str (blk j))] 9)))
            obtain ⟨q0, q1, q2, q3, q4, g0, g1, g2, g3, g4⟩ := K4.out.cells
            obtain ⟨u0, u1, u2, u3, u4⟩ := pcs_of ((Below.heap_alloc wr (.cells #[.string ⟨#[]⟩, .string (str (blk j))] 9) P hPr).trans H.out.hP)
            have hn1 : ¬ wr.heap.size = R := by omega
            have hn2 : ¬ R = wr.heap.size := by omega
            have z0 : (wr.alloc (.cells #[.string ⟨#[]⟩, .string (str (blk j))] 9)).cell? ⟨wr.heap.size, 0, none⟩ = some (.string ⟨#[]⟩) := by rw [Lib.cell_of_heap (heap_alloc_new wr _)]; rfl
            have z1 : (wr.alloc (.cells #[.string ⟨#[]⟩, .string (str (blk j))] 9)).cell? ⟨wr.heap.size, 1, none⟩ = some (.string (str (blk j))) := by rw [Lib.cell_of_heap (heap_alloc_new wr _)]; rfl
            have hW := Lib.hid (show ((st5 wr R (.int .i64 1) (.string (str NM)) (.slice ao n cap) (.string ⟨#[]⟩) (.int .i64 0)).alloc (.cells #[.string ⟨#[]⟩, .string (str (blk j))] 9)).drew.heap[R]? = some (.cells #[.int .i64 1, .string (str NM), .slice ao n cap, .string ⟨#[]⟩, .int .i64 0] 27 (0, 0)) from (Below.heap_alloc _ _ R (by rw [st5_size]; omega)).trans (st5_heap H.out.ki.heap (.int .i64 1) (.string (str NM)) (.slice ao n cap) (.string ⟨#[]⟩) (.int .i64 0)))
            have hB := Lib.hid (((H.out.ki.put HRe.out (.int .i64 1) (.string (str NM)) (.slice ao n cap) (.string ⟨#[]⟩) (.int .i64 0)).alloc (by rw [st5_size]; exact H.out.ki.below.size) (.cells #[.string ⟨#[]⟩, .string (str (blk j))] 9)).drew)
            have hRs := Lib.hid (show Rows ((st5 wr R (.int .i64 1) (.string (str NM)) (.slice ao n cap) (.string ⟨#[]⟩) (.int .i64 0)).alloc (.cells #[.string ⟨#[]⟩, .string (str (blk j))] 9)).drew (.slice ao n cap) (atL (nameG (bl t)) V n) from ((hRw.out.heap (w' := st5 wr R (.int .i64 1) (.string (str NM)) (.slice ao n cap) (.string ⟨#[]⟩) (.int .i64 0)) (by simp [st5, World.setCell]) (fun g o n c hv => by have h2 := hne.out g o n c hv; exact st5_other (by omega) _ _ _ _ _)).1.below (((Below.refl _ _).alloc (Nat.le_refl _) _).drew)))
            have hW2 := Lib.hid (show (st5 (wr.alloc (.cells #[.string ⟨#[]⟩, .string (str (blk j))] 9)) R (.int .i64 1) (.string (str NM)) (.slice ao n cap) (.string ⟨#[]⟩) (.int .i64 0)).drew.heap[R]? = some (.cells #[.int .i64 1, .string (str NM), .slice ao n cap, .string ⟨#[]⟩, .int .i64 0] 27 (0, 0)) from st5_heap K4.out.heap (.int .i64 1) (.string (str NM)) (.slice ao n cap) (.string ⟨#[]⟩) (.int .i64 0))
            have hB2 := Lib.hid (show Below w.heap.size w (st5 (wr.alloc (.cells #[.string ⟨#[]⟩, .string (str (blk j))] 9)) R (.int .i64 1) (.string (str NM)) (.slice ao n cap) (.string ⟨#[]⟩) (.int .i64 0)).drew from (K4.out.put HRe.out (.int .i64 1) (.string (str NM)) (.slice ao n cap) (.string ⟨#[]⟩) (.int .i64 0)).drew)
            have hRs2 := Lib.hid (show Rows (st5 (wr.alloc (.cells #[.string ⟨#[]⟩, .string (str (blk j))] 9)) R (.int .i64 1) (.string (str NM)) (.slice ao n cap) (.string ⟨#[]⟩) (.int .i64 0)).drew (.slice ao n cap) (atL (nameG (bl t)) V n) from (hRw.out.heap (w' := (st5 (wr.alloc (.cells #[.string ⟨#[]⟩, .string (str (blk j))] 9)) R (.int .i64 1) (.string (str NM)) (.slice ao n cap) (.string ⟨#[]⟩) (.int .i64 0)).drew) (by simp [st5, World.setCell]) (fun g o n' c hv => by have h2 := hne.out g o n' c hv; have h3 : g < wr.heap.size := (H.out.own.lt g (by rw [hv]; rfl)).2; exact (st5_other (by omega) _ _ _ _ _).trans (Below.heap_alloc wr _ g h3))).1)
            obtain rfl | rfl : e8 = 0 ∨ e8 = 1 := by omega
            · go_wp2_with fail
              go_region
              · (try go_wp2)
                refine bodyPost_ret (res_item _ rfl _ R rfl _ _ _ _ _ _ rfl _ 27 (0, 0) hW.out) rfl ?_
                exact hend.out _ [] (.inl rfl) hRs.out hB.out
              · (try go_wp2)
                refine bodyPost_ret (res_item _ rfl _ R rfl _ _ _ _ _ _ rfl _ 27 (0, 0) hW2.out) rfl ?_
                exact hend.out _ [] (.inl rfl) hRs2.out hB2.out
            · go_wp2_with fail
              go_region
              · (try go_wp2)
                refine bodyPost_ret (res_item _ rfl _ R rfl _ _ _ _ _ _ rfl _ 27 (0, 0) hW.out) rfl ?_
                exact hend.out _ (blk j) (.inr rfl) hRs.out hB.out
              · (try go_wp2)
                refine bodyPost_ret (res_item _ rfl _ R rfl _ _ _ _ _ _ rfl _ 27 (0, 0) hW2.out) rfl ?_
                exact hend.out _ (blk j) (.inr rfl) hRs2.out hB2.out

end Go.Proofs.YtkpkekmofidajaaGreatDoor
