/-
  THE LAW TreeMost, FOR EVERY INPUT: true, and each argument reads as it did. Its row, and its tied card: what the listed variables hold is tied to the text by the given tie.
-/
import Derived.Test.YtekmenkebokdoaaGreatDoorLaw06T
import Derived.Test.YtekmenkebokdoaaGreatDoorRowAnd
import Derived.Test.YtekmenkebokdoaaGreatDoorEntLaid
import Derived.Test.YtekmenkebokdoaaGreatDoorCards
import Derived.Test.YtekmenkebokdoaaGreatDoorTie
import Derived.ProofKit
import Derived.OpenShut
import Derived.LaidMore
import Derived.Lay
import Derived.SevenTiedAt
import Derived.Stop.Joined
import Derived.Lib.LaidU8
namespace Go.Proofs.YtekmenkebokdoaaGreatDoor
open Go.ChangeShapes Go.WideShapes Go.ChangeAt Go.RowKit
open Go.ChangeMaps (open_string shut_string)

theorem treeMost_own : ownKnob Tryz.prog.godebug = none := by kernel_rfl
theorem treeMost_first : Go.Pinned.utf8First = Lib.firstData := by kernel_rfl
theorem treeMost_accept : (Rows.laid_unicode_utf8_acceptRanges : DataW Unit) = Lib.acceptData := by kernel_rfl
theorem treeMost_tabs {W : World} (h : laidMetH Tryz.prog Rows.treeMostRow.laid W) : Tabs W := by
  rw [MakeChecks.laidMetH_plain _ _ _ (by kernel_rfl)] at h
  have h3 : Lib.VarReads Tryz.prog W "unicode/utf8.first" Lib.firstData := by rw [← treeMost_first]; exact Lib.laidMet.reads h (.tail _ (.tail _ (.tail _ (.tail _ (.tail _ (.tail _ (.tail _ (.tail _ (.head _)))))))))
  have h4 : Lib.VarReads Tryz.prog W "unicode/utf8.acceptRanges" Lib.acceptData := by rw [← treeMost_accept]; exact Lib.laidMet.reads h (.tail _ (.tail _ (.tail _ (.head _))))
  exact Go.Proofs.utf8Tabs_of_reads Tryz.lays260 ⟨by kernel_rfl, by kernel_rfl, by kernel_rfl, by kernel_rfl, by kernel_rfl, by kernel_rfl, by kernel_rfl⟩ h3 h4
theorem treeMost_ent {W : World} (h : laidMetH Tryz.prog Rows.treeMostRow.laid W) (hsh : W.ShapedOpen Tryz.prog) : EntV W := by
  rw [MakeChecks.laidMetH_plain _ _ _ (by kernel_rfl)] at h
  have e0 : (Rows.laid_galliard_entity_names : DataW Unit) = namesData := by kernel_rfl
  have r0 : Lib.VarReads Tryz.prog W "galliard/entity.names" namesData := by rw [← e0]; exact Lib.laidMet.reads h (.tail _ (.tail _ (.tail _ (.tail _ (.tail _ (.tail _ (.tail _ (.head _))))))))
  have e1 : (Rows.laid_galliard_entity_bases : DataW Unit) = basesData := by kernel_rfl
  have r1 : Lib.VarReads Tryz.prog W "galliard/entity.bases" basesData := by rw [← e1]; exact Lib.laidMet.reads h (.tail _ (.tail _ (.tail _ (.tail _ (.tail _ (.tail _ (.head _)))))))
  have e2 : (Rows.laid_strconv_ErrSyntax : DataW Unit) = synData := by kernel_rfl
  have r2 : Lib.VarReads Tryz.prog W "strconv.ErrSyntax" synData := by rw [← e2]; exact Lib.laidMet.reads h (.tail _ (.tail _ (.tail _ (.tail _ (.tail _ (.head _))))))
  exact entV_of hsh r0 r1 r2

set_option maxRecDepth 100000 in
theorem treeMost_lifted (os : Os) (started : os.Started) (H : Type) (enc : TypeId × Value → H) :
    ReturnsInHanded {} Tryz.checked os 5 .any (fun w args => (Rows.treeMostSpec.pre enc Tryz.prog Tryz.f5 Rows.treeMostRow.domain false w args ∧ laidMetH Tryz.prog Rows.treeMostRow.laid w) ∧ sizedMet enc Tryz.prog Tryz.f5 (OpenSpec.ofChange Rows.treeMostSpec) false w args)
      (Rows.treeMostSpec.post enc Tryz.prog Tryz.f5 false true false false) := by
  refine lift_both (C := Tryz.checked) (X := fun w _ => laidMetH Tryz.prog Rows.treeMostRow.laid w) (fun _ _ _ hh h => h.of_heap hh) treeMost_own started (by kernel_rfl) Tryz.func5
    (ChangeSpec.witness_shaped (enc := enc) (C := Tryz.checked) (os := os) (X := fun w _ => laidMetH Tryz.prog Rows.treeMostRow.laid w) false (World.laidAll Tryz.prog os Rows.treeMostRow.laid) #[.int .i64 0] 8 (World.laidAll_os _ _ _)
      (World.shaped_of_ZipB (by kernel_rfl) (by kernel_rfl)) (by kernel_rfl) (by kernel_rfl) (by kernel_rfl)
      (by rw [MakeChecks.laidMetH_plain _ _ _ (by kernel_rfl)]; exact laidMet_laidAll _ (by kernel_rfl) (by kernel_rfl))) ?_
  intro W base args ds gs before hval0 hW _ _ hL hsh _
  have hval : ∀ (j : Nat) t v, Tryz.f5.params[j]? = some t → args[j]? = some v → Value.okWide Tryz.prog W .any base t v := hval0
  have hW' := hW
  obtain ⟨p, q, hA0, hV, rfl, _, _⟩ := hW
  have hA : DataW.TrodAll enc Tryz.prog W 0 (fun _ => true) true Tryz.f5.params.toList args.toList ds p := hA0
  rw [Tryz.params5] at hA hval
  obtain ⟨v0, d0, rfl, rfl, h0⟩ := trodAll_one hA
  obtain ⟨rfl, rfl⟩ := trodVars_none hV
  obtain ⟨x0, rfl, rfl, rfl, wx0⟩ := open_int Tryz.underlying3 (hval 0 3 v0 rfl rfl) h0
  clear hA0 hval0
  simp only [List.append_nil] at hW'
  refine (most06_any x0 W (treeMost_ent hL hsh) (treeMost_tabs hL)).mono fun e W' ⟨he, hb⟩ => ?_
  subst he
  refine ⟨_, rfl, _, _, _, [], [], [], hW', ?_, ?_, ?_, hb.frame _, fun h => by cases h⟩
  · exact trodAll_mk1 (shut_bool Tryz.underlying4 _)
  · exact trodAll_mk1 (shut_int Tryz.underlying3 wx0)
  · rfl

theorem treeMost_holds : Rows.TreeMostSaid :=
  OpenClaim.holds_of_wide 5 Tryz.f5 rfl rfl rfl rfl rfl rfl rfl ⟨rfl, rfl, rfl, rfl, rfl⟩ rfl rfl rfl rfl rfl (by kernel_rfl) Tryz.func5 (by kernel_rfl)
    (of_decide_eq_true (by kernel_rfl)) (by unfold Func.isWrapper; rw [if_neg (of_decide_eq_false (by kernel_rfl))]; exact ⟨rfl, rfl⟩)
    (fun os started H enc _ => treeMost_lifted os started H enc)

theorem treeMost_card : Rows.TreeMostCardSaid :=
  Claim7.holds_tied_plain_at .later [] [.data, .data, .data, .data, .sentinel, .sentinel, .data, .data, .pinned] true (true, "904a9246549197d2af834347606f8b1e618913fe5dc5bb5dd9b1246806727a5d") true treeMost_holds (fun _ h => by cases h) (by kernel_rfl) (fun _ h => by cases h) treeMost_row_tie rfl ⟨rfl, rfl⟩ (by kernel_rfl) rfl
    (fun f fn hf hfn => by
      obtain rfl : f = 5 := Option.some.inj ((show Tryz.prog.funcNamed "galliard/galliardlaw06.TreeMost" = some 5 by kernel_rfl).symm.trans hf) |>.symm
      obtain rfl : fn = Tryz.f5 := (Option.some.inj (Tryz.func5.symm.trans hfn)).symm
      exact ⟨by kernel_rfl, fun j t ht => by
        rw [Tryz.params5] at ht
        have hm : t ∈ [3] := by simpa using Array.mem_of_getElem? ht
        have hall : ([3].all fun u => !Tryz.prog.wantsStandIn u) = true := by kernel_rfl
        exact (show Tryz.prog.wantsStandIn t = false by simpa using List.all_eq_true.1 hall t hm)⟩)
    (by kernel_rfl)
#print axioms treeMost_card
end Go.Proofs.YtekmenkebokdoaaGreatDoor
