/-
  THE LAW TreeAny, FOR EVERY INPUT: true, and each argument reads as it did. Its row, and its tied card: what the listed variables hold is tied to the text by the given tie.
-/
import Derived.Test.YtekmenkebokdoaaGreatDoorLaw06A
import Derived.Test.YtekmenkebokdoaaGreatDoorRowAnd
import Derived.Test.YtekmenkebokdoaaGreatDoorEntLaid
import Derived.Test.YtekmenkebokdoaaGreatDoorNodeArg
import Derived.Test.YtekmenkebokdoaaGreatDoorCards
import Derived.Test.YtekmenkebokdoaaGreatDoorTie
import Derived.ProofKit
import Derived.OpenShut
import Derived.LaidMore
import Derived.Lay
import Derived.SevenTiedAt
import Derived.Stop.Joined
import Derived.Lib.LaidU8
namespace Go.Proofs.YtekmenkebokdoaaGreatDoor
open Go.ChangeShapes Go.WideShapes Go.ChangeAt Go.RowKit
open Go.ChangeMaps (open_string shut_string)

theorem treeAny_own : ownKnob Tryz.prog.godebug = none := by kernel_rfl
theorem treeAny_first : Go.Pinned.utf8First = Lib.firstData := by kernel_rfl
theorem treeAny_accept : (Rows.laid_unicode_utf8_acceptRanges : DataW Unit) = Lib.acceptData := by kernel_rfl
theorem treeAny_tabs {W : World} (h : laidMetH Tryz.prog Rows.treeAnyRow.laid W) : Tabs W := by
  rw [MakeChecks.laidMetH_plain _ _ _ (by kernel_rfl)] at h
  have h3 : Lib.VarReads Tryz.prog W "unicode/utf8.first" Lib.firstData := by rw [← treeAny_first]; exact Lib.laidMet.reads h (.tail _ (.tail _ (.tail _ (.tail _ (.tail _ (.tail _ (.tail _ (.tail _ (.head _)))))))))
  have h4 : Lib.VarReads Tryz.prog W "unicode/utf8.acceptRanges" Lib.acceptData := by rw [← treeAny_accept]; exact Lib.laidMet.reads h (.tail _ (.tail _ (.tail _ (.head _))))
  exact Go.Proofs.utf8Tabs_of_reads Tryz.lays260 ⟨by kernel_rfl, by kernel_rfl, by kernel_rfl, by kernel_rfl, by kernel_rfl, by kernel_rfl, by kernel_rfl⟩ h3 h4
theorem treeAny_ent {W : World} (h : laidMetH Tryz.prog Rows.treeAnyRow.laid W) (hsh : W.ShapedOpen Tryz.prog) : EntV W := by
  rw [MakeChecks.laidMetH_plain _ _ _ (by kernel_rfl)] at h
  have e0 : (Rows.laid_galliard_entity_names : DataW Unit) = namesData := by kernel_rfl
  have r0 : Lib.VarReads Tryz.prog W "galliard/entity.names" namesData := by rw [← e0]; exact Lib.laidMet.reads h (.tail _ (.tail _ (.tail _ (.tail _ (.tail _ (.tail _ (.tail _ (.head _))))))))
  have e1 : (Rows.laid_galliard_entity_bases : DataW Unit) = basesData := by kernel_rfl
  have r1 : Lib.VarReads Tryz.prog W "galliard/entity.bases" basesData := by rw [← e1]; exact Lib.laidMet.reads h (.tail _ (.tail _ (.tail _ (.tail _ (.tail _ (.tail _ (.head _)))))))
  have e2 : (Rows.laid_strconv_ErrSyntax : DataW Unit) = synData := by kernel_rfl
  have r2 : Lib.VarReads Tryz.prog W "strconv.ErrSyntax" synData := by rw [← e2]; exact Lib.laidMet.reads h (.tail _ (.tail _ (.tail _ (.tail _ (.tail _ (.head _))))))
  exact entV_of hsh r0 r1 r2

set_option maxRecDepth 100000 in
theorem treeAny_lifted (os : Os) (started : os.Started) (H : Type) (enc : TypeId × Value → H) :
    ReturnsInHanded {} Tryz.checked os 6 .any (fun w args => (Rows.treeAnySpec.pre enc Tryz.prog Tryz.f6 Rows.treeAnyRow.domain false w args ∧ laidMetH Tryz.prog Rows.treeAnyRow.laid w) ∧ sizedMet enc Tryz.prog Tryz.f6 (OpenSpec.ofChange Rows.treeAnySpec) false w args)
      (Rows.treeAnySpec.post enc Tryz.prog Tryz.f6 false true false false) := by
  refine lift_both (C := Tryz.checked) (X := fun w _ => laidMetH Tryz.prog Rows.treeAnyRow.laid w) (fun _ _ _ hh h => h.of_heap hh) treeAny_own started (by kernel_rfl) Tryz.func6
    (ChangeSpec.witness_shaped (enc := enc) (C := Tryz.checked) (os := os) (X := fun w _ => laidMetH Tryz.prog Rows.treeAnyRow.laid w) false (World.laidAll Tryz.prog os Rows.treeAnyRow.laid) #[.agg #[.string ⟨#[]⟩, .string ⟨#[]⟩, .slice none 0 0, .slice none 0 0, .string ⟨#[]⟩], .agg #[.int .i64 0, .int .i64 0], .string ⟨#[]⟩] 8 (World.laidAll_os _ _ _)
      (World.shaped_of_ZipB (by kernel_rfl) (by kernel_rfl)) (by kernel_rfl) (by kernel_rfl) (by kernel_rfl)
      (by rw [MakeChecks.laidMetH_plain _ _ _ (by kernel_rfl)]; exact laidMet_laidAll _ (by kernel_rfl) (by kernel_rfl))) ?_
  intro W base args ds gs before hval0 hW _ _ hL hsh _
  have hval : ∀ (j : Nat) t v, Tryz.f6.params[j]? = some t → args[j]? = some v → Value.okWide Tryz.prog W .any base t v := hval0
  have hW' := hW
  obtain ⟨p, q, hA0, hV, rfl, _, _⟩ := hW
  have hA : DataW.TrodAll enc Tryz.prog W 0 (fun _ => true) true Tryz.f6.params.toList args.toList ds p := hA0
  rw [Tryz.params6] at hA hval
  obtain ⟨v0, v1, v2, d0, d1, d2, p0, p1, p2, rfl, rfl, rfl, h0, h1, h2⟩ := trodAll_three hA
  obtain ⟨rfl, rfl⟩ := trodVars_none hV
  obtain ⟨x0, rfl, _⟩ := okWide_struct Tryz.underlying25 (hval 0 25 v0 rfl rfl)
  have o0 := node_open h0
  obtain ⟨x1, rfl⟩ := okWide_arr Tryz.underlying45 (hval 1 45 v1 rfl rfl)
  have o1 := two_open h1
  obtain ⟨x2, rfl, rfl, rfl, wx2⟩ := open_string Tryz.underlying9 (hval 2 9 v2 rfl rfl) h2
  clear hA0 hval0
  simp only [List.append_nil] at hW'
  have hlt : ∀ x ∈ p0 ++ p1, x.block < W.heap.size := fun x hx => by simpa using hW'.lt x (by simpa using hx)
  have hlo : laidOutB Tryz.prog = true := by kernel_rfl
  refine (any06_any (.agg x0) (.agg x1) x2 W (treeAny_ent hL hsh) (treeAny_tabs hL) o0 o1).mono fun e W' ⟨he, hb⟩ => ?_
  subst he
  refine ⟨_, rfl, _, _, _, [], p0 ++ (p1 ++ ([])), [], hW', ?_, ?_, ?_, hb.frame _, fun h => by cases h⟩
  · exact trodAll_mk1 (shut_bool Tryz.underlying4 _)
  · exact trodAll_mk3 (RowKit.Below.trod hlo (by kernel_rfl) (of_decide_eq_true (by kernel_rfl)) h0 hb (fun x hx => hlt x (by simp [hx]))) (RowKit.Below.trod hlo (by kernel_rfl) (of_decide_eq_true (by kernel_rfl)) h1 hb (fun x hx => hlt x (by simp [hx]))) (shut_string Tryz.underlying9 wx2)
  · rfl

theorem treeAny_holds : Rows.TreeAnySaid :=
  OpenClaim.holds_of_wide 6 Tryz.f6 rfl rfl rfl rfl rfl rfl rfl ⟨rfl, rfl, rfl, rfl, rfl⟩ rfl rfl rfl rfl rfl (by kernel_rfl) Tryz.func6 (by kernel_rfl)
    (of_decide_eq_true (by kernel_rfl)) (by unfold Func.isWrapper; rw [if_neg (of_decide_eq_false (by kernel_rfl))]; exact ⟨rfl, rfl⟩)
    (fun os started H enc _ => treeAny_lifted os started H enc)

theorem treeAny_card : Rows.TreeAnyCardSaid :=
  Claim7.holds_tied_plain_at .later [] [.data, .data, .data, .data, .sentinel, .sentinel, .data, .data, .pinned] true (true, "904a9246549197d2af834347606f8b1e618913fe5dc5bb5dd9b1246806727a5d") true treeAny_holds (fun _ h => by cases h) (by kernel_rfl) (fun _ h => by cases h) treeAny_row_tie rfl ⟨rfl, rfl⟩ (by kernel_rfl) rfl
    (fun f fn hf hfn => by
      obtain rfl : f = 6 := Option.some.inj ((show Tryz.prog.funcNamed "galliard/galliardlaw06.TreeAny" = some 6 by kernel_rfl).symm.trans hf) |>.symm
      obtain rfl : fn = Tryz.f6 := (Option.some.inj (Tryz.func6.symm.trans hfn)).symm
      exact ⟨by kernel_rfl, fun j t ht => by
        rw [Tryz.params6] at ht
        have hm : t ∈ [25, 45, 9] := by simpa using Array.mem_of_getElem? ht
        have hall : ([25, 45, 9].all fun u => !Tryz.prog.wantsStandIn u) = true := by kernel_rfl
        exact (show Tryz.prog.wantsStandIn t = false by simpa using List.all_eq_true.1 hall t hm)⟩)
    (by kernel_rfl)
#print axioms treeAny_card
end Go.Proofs.YtekmenkebokdoaaGreatDoor
