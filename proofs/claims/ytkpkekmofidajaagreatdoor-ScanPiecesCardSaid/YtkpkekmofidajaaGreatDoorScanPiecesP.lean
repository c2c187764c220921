/-
  THE LAW ScanPieces, FOR EVERY INPUT: true, and each argument reads as it did. Its row, and its tied card: what the listed variables hold is tied to the text by the given tie.
-/
import Derived.Test.YtkpkekmofidajaaGreatDoorLaw04P
import Derived.Test.YtkpkekmofidajaaGreatDoorRowAnd
import Derived.Test.YtkpkekmofidajaaGreatDoorEntLaid
import Derived.Test.YtkpkekmofidajaaGreatDoorSliceArgs
import Derived.Test.YtkpkekmofidajaaGreatDoorCards
import Derived.Test.YtkpkekmofidajaaGreatDoorTie
import Derived.ProofKit
import Derived.OpenShut
import Derived.LaidMore
import Derived.Lay
import Derived.SevenTiedAt
import Derived.Stop.Joined
import Derived.Lib.LaidU8
namespace Go.Proofs.YtkpkekmofidajaaGreatDoor
open Go.ChangeShapes Go.WideShapes Go.ChangeAt Go.RowKit
open Go.ChangeMaps (open_string shut_string)

theorem scanPieces_own : ownKnob Tryz.prog.godebug = none := by kernel_rfl
theorem scanPieces_first : Go.Pinned.utf8First = Lib.firstData := by kernel_rfl
theorem scanPieces_accept : (Rows.laid_unicode_utf8_acceptRanges : DataW Unit) = Lib.acceptData := by kernel_rfl
theorem scanPieces_tabs {W : World} (h : laidMetH Tryz.prog Rows.scanPiecesRow.laid W) : Tabs W := by
  rw [MakeChecks.laidMetH_plain _ _ _ (by kernel_rfl)] at h
  have h3 : Lib.VarReads Tryz.prog W "unicode/utf8.first" Lib.firstData := by rw [← scanPieces_first]; exact Lib.laidMet.reads h (.tail _ (.tail _ (.tail _ (.tail _ (.tail _ (.tail _ (.tail _ (.tail _ (.head _)))))))))
  have h4 : Lib.VarReads Tryz.prog W "unicode/utf8.acceptRanges" Lib.acceptData := by rw [← scanPieces_accept]; exact Lib.laidMet.reads h (.tail _ (.tail _ (.tail _ (.head _))))
  exact Go.Proofs.utf8Tabs_of_reads Tryz.lays260 ⟨by kernel_rfl, by kernel_rfl, by kernel_rfl, by kernel_rfl, by kernel_rfl, by kernel_rfl, by kernel_rfl⟩ h3 h4
theorem scanPieces_ent {W : World} (h : laidMetH Tryz.prog Rows.scanPiecesRow.laid W) (hsh : W.ShapedOpen Tryz.prog) : EntV W := by
  rw [MakeChecks.laidMetH_plain _ _ _ (by kernel_rfl)] at h
  have e0 : (Rows.laid_galliard_entity_names : DataW Unit) = namesData := by kernel_rfl
  have r0 : Lib.VarReads Tryz.prog W "galliard/entity.names" namesData := by rw [← e0]; exact Lib.laidMet.reads h (.tail _ (.tail _ (.tail _ (.tail _ (.tail _ (.tail _ (.tail _ (.head _))))))))
  have e1 : (Rows.laid_galliard_entity_bases : DataW Unit) = basesData := by kernel_rfl
  have r1 : Lib.VarReads Tryz.prog W "galliard/entity.bases" basesData := by rw [← e1]; exact Lib.laidMet.reads h (.tail _ (.tail _ (.tail _ (.tail _ (.tail _ (.tail _ (.head _)))))))
  have e2 : (Rows.laid_strconv_ErrSyntax : DataW Unit) = synData := by kernel_rfl
  have r2 : Lib.VarReads Tryz.prog W "strconv.ErrSyntax" synData := by rw [← e2]; exact Lib.laidMet.reads h (.tail _ (.tail _ (.tail _ (.tail _ (.tail _ (.head _))))))
  exact entV_of hsh r0 r1 r2

set_option maxRecDepth 100000 in
theorem scanPieces_lifted (os : Os) (started : os.Started) (H : Type) (enc : TypeId × Value → H) :
    ReturnsInHanded {} Tryz.checked os 3 .any (fun w args => (Rows.scanPiecesSpec.pre enc Tryz.prog Tryz.f3 Rows.scanPiecesRow.domain false w args ∧ laidMetH Tryz.prog Rows.scanPiecesRow.laid w) ∧ sizedMet enc Tryz.prog Tryz.f3 (OpenSpec.ofChange Rows.scanPiecesSpec) false w args)
      (Rows.scanPiecesSpec.post enc Tryz.prog Tryz.f3 false true false false) := by
  refine lift_both (C := Tryz.checked) (X := fun w _ => laidMetH Tryz.prog Rows.scanPiecesRow.laid w) (fun _ _ _ hh h => h.of_heap hh) scanPieces_own started (by kernel_rfl) Tryz.func3
    (ChangeSpec.witness_shaped (enc := enc) (C := Tryz.checked) (os := os) (X := fun w _ => laidMetH Tryz.prog Rows.scanPiecesRow.laid w) false (World.laidAll Tryz.prog os Rows.scanPiecesRow.laid) #[.slice none 0 0, .slice none 0 0, .slice none 0 0] 8 (World.laidAll_os _ _ _)
      (World.shaped_of_ZipB (by kernel_rfl) (by kernel_rfl)) (by kernel_rfl) (by kernel_rfl) (by kernel_rfl)
      (by rw [MakeChecks.laidMetH_plain _ _ _ (by kernel_rfl)]; exact laidMet_laidAll _ (by kernel_rfl) (by kernel_rfl))) ?_
  intro W base args ds gs before hval0 hW _ _ hL hsh _
  have hval : ∀ (j : Nat) t v, Tryz.f3.params[j]? = some t → args[j]? = some v → Value.okWide Tryz.prog W .any base t v := hval0
  have hW' := hW
  obtain ⟨p, q, hA0, hV, rfl, _, _⟩ := hW
  have hA : DataW.TrodAll enc Tryz.prog W 0 (fun _ => true) true Tryz.f3.params.toList args.toList ds p := hA0
  rw [Tryz.params3] at hA hval
  obtain ⟨v0, v1, v2, d0, d1, d2, p0, p1, p2, rfl, rfl, rfl, h0, h1, h2⟩ := trodAll_three hA
  obtain ⟨rfl, rfl⟩ := trodVars_none hV
  obtain ⟨x0, l0, c0, rfl⟩ := okWide_slice Tryz.underlying22 (hval 0 22 v0 rfl rfl)
  have o0 := ints_open Tryz.underlying22 Tryz.underlying3 (by kernel_rfl) h0
  obtain ⟨x1, l1, c1, rfl⟩ := okWide_slice Tryz.underlying23 (hval 1 23 v1 rfl rfl)
  have o1 := strs_open Tryz.underlying23 Tryz.underlying9 (by kernel_rfl) h1
  obtain ⟨x2, l2, c2, rfl⟩ := okWide_slice Tryz.underlying23 (hval 2 23 v2 rfl rfl)
  have o2 := strs_open Tryz.underlying23 Tryz.underlying9 (by kernel_rfl) h2
  clear hA0 hval0
  simp only [List.append_nil] at hW'
  have hlt : ∀ x ∈ p0 ++ p1 ++ p2, x.block < W.heap.size := fun x hx => by simpa using hW'.lt x hx
  have hlo : laidOutB Tryz.prog = true := by kernel_rfl
  refine (pieces_any x0 l0 c0 x1 l1 c1 x2 l2 c2 W (scanPieces_ent hL hsh) (scanPieces_tabs hL) o0 o1 o2).mono fun e W' ⟨he, hb⟩ => ?_
  subst he
  refine ⟨_, rfl, _, _, _, [], p0 ++ (p1 ++ (p2)), [], hW', ?_, ?_, ?_, hb.frame _, fun h => by cases h⟩
  · exact trodAll_mk1 (shut_bool Tryz.underlying4 _)
  · exact trodAll_mk3 (RowKit.Below.trod hlo (by kernel_rfl) (of_decide_eq_true (by kernel_rfl)) h0 hb (fun x hx => hlt x (by simp [hx]))) (RowKit.Below.trod hlo (by kernel_rfl) (of_decide_eq_true (by kernel_rfl)) h1 hb (fun x hx => hlt x (by simp [hx]))) (RowKit.Below.trod hlo (by kernel_rfl) (of_decide_eq_true (by kernel_rfl)) h2 hb (fun x hx => hlt x (by simp [hx])))
  · rfl

theorem scanPieces_holds : Rows.ScanPiecesSaid :=
  OpenClaim.holds_of_wide 3 Tryz.f3 rfl rfl rfl rfl rfl rfl rfl ⟨rfl, rfl, rfl, rfl, rfl⟩ rfl rfl rfl rfl rfl (by kernel_rfl) Tryz.func3 (by kernel_rfl)
    (of_decide_eq_true (by kernel_rfl)) (by unfold Func.isWrapper; rw [if_neg (of_decide_eq_false (by kernel_rfl))]; exact ⟨rfl, rfl⟩)
    (fun os started H enc _ => scanPieces_lifted os started H enc)

theorem scanPieces_card : Rows.ScanPiecesCardSaid :=
  Claim7.holds_tied_plain_at .later [] [.data, .data, .data, .data, .sentinel, .sentinel, .data, .data, .pinned] true (true, "78af2f5a8dff26fa3608e40d52548c12f3af44905d53b09d224228a9de88773b") true scanPieces_holds (fun _ h => by cases h) (by kernel_rfl) (fun _ h => by cases h) scanPieces_row_tie rfl ⟨rfl, rfl⟩ (by kernel_rfl) rfl
    (fun f fn hf hfn => by
      obtain rfl : f = 3 := Option.some.inj ((show Tryz.prog.funcNamed "galliard/galliardlaw04.ScanPieces" = some 3 by kernel_rfl).symm.trans hf) |>.symm
      obtain rfl : fn = Tryz.f3 := (Option.some.inj (Tryz.func3.symm.trans hfn)).symm
      exact ⟨by kernel_rfl, fun j t ht => by
        rw [Tryz.params3] at ht
        have hm : t ∈ [22, 23, 23] := by simpa using Array.mem_of_getElem? ht
        have hall : ([22, 23, 23].all fun u => !Tryz.prog.wantsStandIn u) = true := by kernel_rfl
        exact (show Tryz.prog.wantsStandIn t = false by simpa using List.all_eq_true.1 hall t hm)⟩)
    (by kernel_rfl)
#print axioms scanPieces_card
end Go.Proofs.YtkpkekmofidajaaGreatDoor
