/-
  The document's Same: are two lists of texts the same?
-/
import Derived.Test.YteaakfkpbejnoaaTokB
namespace Go.Proofs.Yteaakfkpbejnoaa
open Go.RowKit

/-- A list of texts as read: one of the call's own, or an argument. -/
def ARd (w : World) (v : Value) (ts : List (List UInt8)) : Prop :=
  (ts = [] ∧ ∃ ao cap, v = .slice ao 0 cap) ∨ ∃ g o cap, v = .slice (some ⟨g, o, none⟩) ts.length cap ∧ ∀ k, k < ts.length → w.cell? ⟨g, o + k, none⟩ = some (.string (bs (ts.getD k [])))
theorem SRd.ard {w : World} {v : Value} {ts : List (List UInt8)} (h : SRd w v ts) : ARd w v ts := by
  rcases h.form with ⟨h1, h2⟩ | ⟨g, cap, h1, _, h2⟩
  · exact .inl ⟨h1, none, 0, h2⟩
  · exact .inr ⟨g, 0, cap, h1, fun k hk => by rw [Nat.zero_add]; exact h2 k hk⟩
theorem ARd.shape {w : World} {v : Value} {ts : List (List UInt8)} (h : ARd w v ts) : ∃ ao cap, v = .slice ao ts.length cap := by
  rcases h with ⟨h1, ao, cap, h2⟩ | ⟨g, o, cap, h1, _⟩
  · exact ⟨ao, cap, by rw [h1]; exact h2⟩
  · exact ⟨_, _, h1⟩
theorem ARd.more {w w' : World} {v : Value} {ts : List (List UInt8)} (h : ARd w v ts) (k : More w w') : ARd w' v ts := by
  rcases h with h | ⟨g, o, cap, h1, h2⟩
  · exact .inl h
  · exact .inr ⟨g, o, cap, h1, fun j hj => (k.cell (World.block_lt_of_cell? _ _ (h2 j hj))).trans (h2 j hj)⟩
theorem drewN_two (w : World) (m k : Nat) : (w.drewN m).drewN k = w.drewN (m + k) := by simp [World.drewN, Nat.add_assoc]
theorem bs_neq (a b : List UInt8) : ((bs a).toList == (bs b).toList) = decide (a = b) := by rw [bs_list, bs_list]; exact beq_decide a b
theorem lists_same {ts us : List (List UInt8)} (hl : ts.length = us.length) (h : ∀ j, j < ts.length → ts.getD j [] = us.getD j []) : ts = us := by
  apply List.ext_getElem hl
  intro j h1 h2
  have := h j h1
  simpa [List.getD, List.getElem?_eq_getElem h1, List.getElem?_eq_getElem h2] using this

end Go.Proofs.Yteaakfkpbejnoaa
