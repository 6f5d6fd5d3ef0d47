/-
  token: Blank, Mark, word; the document's Blank, Mark.
-/
import Derived.Test.YteaakfkpbejnoaaTokMem
namespace Go.Proofs.Yteaakfkpbejnoaa
open Go.RowKit

theorem bs_list (p : List UInt8) : (bs p).toList = p := by rw [Lib.toList_data]; simp [bs]
theorem beq_decide (a b : List UInt8) : (a == b) = decide (a = b) := by
  by_cases h : a = b
  · rw [decide_eq_true h]; exact beq_iff_eq.2 h
  · rw [decide_eq_false h]; exact beq_eq_false_iff_ne.2 h
theorem int_eq (c k : Nat) : ((c : Int) == (k : Int)) = decide (c = k) := by
  by_cases h : c = k
  · subst h; simp
  · rw [decide_eq_false h]; simp; omega

/-- Where the first line ends, if it does. -/
def nl (l : List UInt8) : Int := Lib.indexByte l 10
theorem nl_none {l : List UInt8} (h : nl l = -1) : ∀ c ∈ l, c.toNat ≠ 10 := fun c hc e => by
  obtain ⟨k, hk⟩ := List.getElem?_of_mem hc
  exact Lib.indexByte_none h k (by rw [hk]; congr 1; exact UInt8.toNat_inj.1 e)
theorem nl_some {l : List UInt8} {k : Nat} (h : nl l = k) : k < l.length ∧ (∀ c ∈ l.take k, c.toNat ≠ 10) ∧ l = l.take k ++ 10 :: l.drop (k + 1) := by
  obtain ⟨h1, h2⟩ := Lib.indexByte_some h
  obtain ⟨hk, he⟩ := List.getElem?_eq_some_iff.1 h1
  refine ⟨hk, fun c hc e => ?_, ?_⟩
  · obtain ⟨j, hj⟩ := List.getElem?_of_mem hc
    rw [List.getElem?_take] at hj
    split at hj
    · next hlt => exact h2 j hlt (by rw [hj]; congr 1; exact UInt8.toNat_inj.1 e)
    · cases hj
  · rw [← he, ← List.drop_eq_getElem_cons hk, List.take_append_drop]
theorem nl_ge (l : List UInt8) : -1 ≤ nl l := Lib.indexByte_ge l 10
theorem bs_data (l : List UInt8) : (bs l).data.toList = l := by simp [bs]

end Go.Proofs.Yteaakfkpbejnoaa
