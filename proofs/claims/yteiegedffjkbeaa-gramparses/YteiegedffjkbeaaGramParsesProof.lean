/-
  Proved here: GramParses of locutionlaw18 at this commit
  The frame behind the walk is the guide's own way at this function's number and types.
-/
import Derived.Test.YteiegedffjkbeaaRows
import Derived.Test.YteiegedffjkbeaaGraFrame
import Derived.WalkKit
import Derived.ProofKit
import Derived.OpenShut
import Derived.ShutString
import Derived.ChangeOld
import Derived.Below
namespace Go.Proofs.Yteiegedffjkbeaa.gramParses
open Go.ChangeShapes Go.WideShapes Go.ChangeAt Go.RowKit
open Go.ChangeMaps (open_string shut_string)

set_option maxRecDepth 100000 in
theorem lifted (os : Os) (started : os.Started) (H : Type) (enc : TypeId × Value → H) :
    ReturnsInHanded {} Try.checked os 5 .any (Rows.gramParsesSpec.pre6 enc Try.prog Try.f5 Rows.gramParsesRow.domain false) (Rows.gramParsesSpec.post enc Try.prog Try.f5 false true false false) := by
  refine returnsInHanded_of_change_sized (C := Try.checked) own started (by kernel_rfl) Try.func5
    (ChangeSpec.witness6 (enc := enc) (C := Try.checked) false ⟨#[], #[.string ⟨#[]⟩], []⟩ 8 (by kernel_rfl) (by kernel_rfl) (by kernel_rfl) (by kernel_rfl)) ?_
  intro W base args ds gs before hval0 hW _ hzr _
  have hval : ∀ (j : Nat) t v, Try.f5.params[j]? = some t → args[j]? = some v → Value.okWide Try.prog W .any base t v := hval0
  have hW' := hW
  obtain ⟨p, q, hA0, hV, rfl, hfz, hnd⟩ := hW
  have hA : DataW.TrodAll enc Try.prog W 0 (fun _ => true) true Try.f5.params.toList args.toList ds p := hA0
  rw [Try.params5] at hA hval
  obtain ⟨v0, vs0, d0, ds0, p0, q0, hargs, rfl, rfl, h0, r0⟩ := trodAll_cons hA
  obtain ⟨rfl, rfl, rfl⟩ := trodAll_nil r0
  obtain rfl : args = #[v0] := by cases args; simp_all
  obtain ⟨rfl, rfl⟩ := trodVars_none hV
  obtain ⟨z0, rfl, rfl, rfl, hz0⟩ := open_string Try.underlying9 (hval 0 9 v0 rfl rfl) h0
  have ws0 := sized_string hzr (j := 0) (t := 9) rfl rfl
  have sz0 := hz0
  obtain ⟨b0, hb0⟩ := bs_of z0
  subst hb0
  rw [bs_size] at sz0
  unfold maxLen at sz0
  clear hA0 hval0
  refine (Go.Proofs.Yteiegedffjkbeaa.law_parses b0 W).mono fun e W' ⟨he, bel⟩ => ?_
  subst he
  exact ⟨_, rfl, _, _, _, [], _, [], hW', trodAll_mk1 (shut_bool Try.underlying4 _), (trodAll_cons_mk (shut_string Try.underlying9 hz0) trodAll_mk0), rfl, bel.frame _, fun h => by cases h⟩

theorem over : Rows.gramParsesRow.holds Try.pinned (OpenSpec.ofChange Rows.gramParsesSpec) :=
  OpenClaim.holds_of_wide 5 Try.f5 rfl rfl rfl rfl rfl rfl rfl ⟨rfl, rfl, rfl, rfl, rfl⟩ rfl rfl rfl rfl rfl (by kernel_rfl) Try.func5 (by kernel_rfl)
    (of_decide_eq_true (by kernel_rfl)) (by unfold Func.isWrapper; first | (rw [if_pos (by decide +kernel)]; kernel_rfl) | (rw [if_neg (by decide +kernel)]; exact ⟨rfl, rfl⟩))
    (fun os started H enc _ => lifted os started H enc)
end Go.Proofs.Yteiegedffjkbeaa.gramParses
namespace Go.Proofs.Yteiegedffjkbeaa
theorem gramParses_holds : Rows.GramParsesSaid := gramParses.over
#print axioms gramParses_holds
end Go.Proofs.Yteiegedffjkbeaa
