/-
  Proved here: for every string the call SeqbinGets returns true: what its bytes are as a sequence, or what is wrong with them, is as the document says, and what is got is put in the same bytes (of more than 300 bytes: the chapter's example).
-/
import Derived.Test.YtbfolfacppbalaaDoorRows
import Derived.Test.YtbfolfacppbalaaDoorTie
import Derived.Test.YtbfolfacppbalaaDoorCards
import Derived.Test.YtbfolfacppbalaaDoorSbLawG
import Derived.Test.YtbfolfacppbalaaDoorEliasTab
import Derived.WalkKit
import Derived.ProofKit
import Derived.OpenShut
import Derived.ShutString
import Derived.LaidMore
import Derived.Lib.LaidTab
import Derived.Stop.Joined
import Derived.SevenTiedAt
namespace Go.Proofs.YtbfolfacppbalaaDoor.seqbinGets
open Go.ChangeShapes Go.WideShapes Go.ChangeAt Go.RowKit
open Go.ChangeMaps (open_string shut_string)

theorem laid_eq : Rows.seqbinGetsRow.laid = [("math/bits.deBruijn64tab", Lib.tabData .u8 tabZ)] := rfl

set_option maxRecDepth 100000 in
theorem lifted (os : Os) (started : os.Started) (H : Type) (enc : TypeId × Value → H) :
    ReturnsInHanded {} Tryd.checked os 6 .any (fun w args => (Rows.seqbinGetsSpec.pre enc Tryd.prog Tryd.f6 [] false w args ∧ laidMetH Tryd.prog Rows.seqbinGetsRow.laid w) ∧ sizedMet enc Tryd.prog Tryd.f6 (OpenSpec.ofChange Rows.seqbinGetsSpec) false w args)
      (Rows.seqbinGetsSpec.post enc Tryd.prog Tryd.f6 false true false false) := by
  refine returnsInHanded_of_change_and (C := Tryd.checked) (X := fun w _ => laidMetH Tryd.prog Rows.seqbinGetsRow.laid w) (fun _ _ _ hh h => h.of_heap hh) own started (by kernel_rfl) Tryd.func6
    (ChangeSpec.witness_shaped (enc := enc) (C := Tryd.checked) (os := os) (X := fun w _ => laidMetH Tryd.prog Rows.seqbinGetsRow.laid w) false (World.doorLaid Tryd.prog 400 os) #[.string ⟨#[]⟩] 8 rfl (World.shaped_of_RefB (by kernel_rfl) (by kernel_rfl)) (by kernel_rfl) (by kernel_rfl) (by kernel_rfl) (door_met os _)) ?_
  intro W base args ds gs before hval0 hW _ _ hL _
  have hval : ∀ (j : Nat) t v, Tryd.f6.params[j]? = some t → args[j]? = some v → Value.okWide Tryd.prog W .any base t v := hval0
  have hW' := hW
  obtain ⟨p, q, hA0, hV, rfl, hfz, hnd⟩ := hW
  have hA : DataW.TrodAll enc Tryd.prog W 0 (fun _ => true) true Tryd.f6.params.toList args.toList ds p := hA0
  rw [Tryd.params6] at hA hval
  obtain ⟨v0, d0, rfl, rfl, h0⟩ := trodAll_one hA
  obtain ⟨rfl, rfl⟩ := trodVars_none hV
  obtain ⟨z0, rfl, rfl, rfl, hz0⟩ := open_string Tryd.underlying9 (hval 0 9 v0 rfl rfl) h0
  have sz0 := hz0
  obtain ⟨b0, hb0⟩ := bs_of z0
  subst hb0
  rw [bs_size] at sz0
  unfold maxLen at sz0
  clear hA0 hval0
  simp only [List.append_nil] at hW'
  clear hval
  rw [laid_eq] at hL
  refine (Go.Proofs.YtbfolfacppbalaaDoor.seqbinGets b0 W (tab_of_laid hL)).mono fun e W' ⟨he, hg⟩ => ?_
  subst he
  exact ⟨_, rfl, _, _, _, [], _, [], hW', trodAll_mk1 (shut_bool Tryd.underlying4 _), trodAll_mk1 (shut_string Tryd.underlying9 hz0), rfl, hg.frame _, fun h => by cases h⟩

theorem over : Rows.SeqbinGetsSaid :=
  OpenClaim.holds_of_wide 6 Tryd.f6 rfl rfl rfl rfl rfl rfl rfl ⟨rfl, rfl, rfl, rfl, rfl⟩ rfl rfl rfl rfl rfl (by kernel_rfl) Tryd.func6 (by kernel_rfl)
    (of_decide_eq_true (by kernel_rfl)) (by unfold Func.isWrapper; first | (rw [if_pos (by decide +kernel)]; kernel_rfl) | (rw [if_neg (by decide +kernel)]; exact ⟨rfl, rfl⟩))
    (fun os started H enc _ => lifted os started H enc)

theorem card : Rows.SeqbinGetsCardSaid :=
  Claim7.holds_tied_plain_at .later [] [.data] true (true, "88b664d3e50cc717b2e21fe61998972307d2e6f6c49ecfbe9267c88d1d6ab587") false
    over (fun _ h => by cases h) (by kernel_rfl) (fun _ h => by cases h) seqbinGets_row_tie rfl ⟨rfl, rfl⟩ (by kernel_rfl) rfl
    (fun f fn hf hfn => by
      obtain rfl : f = 6 := Option.some.inj ((show Tryd.prog.funcNamed "locution/locutionlaw11.SeqbinGets" = some 6 by kernel_rfl).symm.trans hf) |>.symm
      obtain rfl : fn = Tryd.f6 := (Option.some.inj (Tryd.func6.symm.trans hfn)).symm
      exact ⟨by kernel_rfl, fun j t ht => by
        rw [Tryd.params6] at ht
        have hm : t ∈ [9] := by simpa using Array.mem_of_getElem? ht
        have hall : ([9].all fun u => !Tryd.prog.wantsStandIn u) = true := by kernel_rfl
        exact (show Tryd.prog.wantsStandIn t = false by simpa using List.all_eq_true.1 hall t hm)⟩)
    (by kernel_rfl)
end Go.Proofs.YtbfolfacppbalaaDoor.seqbinGets
namespace Go.Proofs.YtbfolfacppbalaaDoor
theorem seqbinGets_holds : Rows.SeqbinGetsCardSaid := seqbinGets.card
#print axioms seqbinGets_holds
end Go.Proofs.YtbfolfacppbalaaDoor
