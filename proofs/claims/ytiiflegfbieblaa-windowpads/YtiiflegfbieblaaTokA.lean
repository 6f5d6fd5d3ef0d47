/-
  token: Blank, Mark, word; the document's Blank, Mark.
-/
import Derived.Test.YtiiflegfbieblaaTokMem
namespace Go.Proofs.Ytiiflegfbieblaa
open Go.RowKit

theorem bs_list (p : List UInt8) : (bs p).toList = p := by rw [Lib.toList_data]; simp [bs]
theorem beq_decide (a b : List UInt8) : (a == b) = decide (a = b) := by
  by_cases h : a = b
  · rw [decide_eq_true h]; exact beq_iff_eq.2 h
  · rw [decide_eq_false h]; exact beq_eq_false_iff_ne.2 h
theorem int_eq (c k : Nat) : ((c : Int) == (k : Int)) = decide (c = k) := by
  by_cases h : c = k
  · subst h; simp
  · rw [decide_eq_false h]; simp; omega

set_option maxRecDepth 1000000 in
theorem tk_blank (c : Nat) (w : World) :
    Calls Try.prog 66 #[.int .u8 c] w fun e w' => e = .returned (.bool (blkN c)) ∧ w' = w := by
  have e9 : ((c : Int) == 9) = decide (c = 9) := int_eq c 9
  have e11 : ((c : Int) == 11) = decide (c = 11) := int_eq c 11
  have e12 : ((c : Int) == 12) = decide (c = 12) := int_eq c 12
  have e13 : ((c : Int) == 13) = decide (c = 13) := int_eq c 13
  have e32 : ((c : Int) == 32) = decide (c = 32) := int_eq c 32
  have hb : Hid (blkN c = (decide (c = 9) || (decide (c = 11) || (decide (c = 12) || (decide (c = 13) || decide (c = 32)))))) := Hid.mk rfl
  generalize blkN c = B at *
  generalize decide (c = 9) = b9 at *
  generalize decide (c = 11) = b11 at *
  generalize decide (c = 12) = b12 at *
  generalize decide (c = 13) = b13 at *
  generalize decide (c = 32) = b32 at *
  go_enter Try.func66, Try.ntmps66
  cases b9 <;> cases b11 <;> cases b12 <;> cases b13 <;> cases b32 <;> go_wp2 <;> go_ret <;> exact ⟨by rw [hb.out]; rfl, rfl⟩

set_option maxRecDepth 1000000 in
theorem rf_blank (c : Nat) (w : World) :
    Calls Try.prog 44 #[.int .u8 c] w fun e w' => e = .returned (.bool (blkN c)) ∧ w' = w := by
  have e9 : ((c : Int) == 9) = decide (c = 9) := int_eq c 9
  have e11 : ((c : Int) == 11) = decide (c = 11) := int_eq c 11
  have e12 : ((c : Int) == 12) = decide (c = 12) := int_eq c 12
  have e13 : ((c : Int) == 13) = decide (c = 13) := int_eq c 13
  have e32 : ((c : Int) == 32) = decide (c = 32) := int_eq c 32
  have hb : Hid (blkN c = (decide (c = 9) || (decide (c = 11) || (decide (c = 12) || (decide (c = 13) || decide (c = 32)))))) := Hid.mk rfl
  generalize blkN c = B at *
  generalize decide (c = 9) = b9 at *
  generalize decide (c = 11) = b11 at *
  generalize decide (c = 12) = b12 at *
  generalize decide (c = 13) = b13 at *
  generalize decide (c = 32) = b32 at *
  go_enter Try.func44, Try.ntmps44
  cases b9 <;> cases b11 <;> cases b12 <;> cases b13 <;> cases b32 <;> go_wp2 <;> go_ret <;> exact ⟨by rw [hb.out]; rfl, rfl⟩

set_option maxRecDepth 1000000 in
theorem tk_mark (p : List UInt8) (w : World) :
    Calls Try.prog 49 #[.string (bs p)] w fun e w' => e = .returned (.bool (isMark p)) ∧ w' = w := by
  go_enter Try.func49, Try.ntmps49
  go_wp2
  · rename_i h
    rw [bs_list] at h
    go_ret
    exact ⟨ret_bool (by unfold isMark; rw [decide_eq_true (show p = mkB from h)]; rfl), rfl⟩
  · rename_i h
    rw [bs_list] at h
    go_ret
    refine ⟨ret_bool ?_, rfl⟩
    rw [bs_list]
    unfold isMark
    rw [decide_eq_false (show ¬ p = mkB from h), beq_eq_false_iff_ne.2 h, Bool.false_or, Bool.false_or]
    exact beq_decide _ _

set_option maxRecDepth 1000000 in
theorem tk_word (p : List UInt8) (w : World) :
    Calls Try.prog 73 #[.string (bs p)] w fun e w' => e = .returned (.string (bs (wd1 p))) ∧ w' = w := by
  have hs : (bs p).size = p.length := bs_size p
  by_cases h : 255 < p.length
  · have h' : (255 : Int) < (p.length : Int) := by omega
    have hw : Hid (wd1 p = unkW) := Hid.mk (by unfold wd1; rw [if_pos h])
    generalize wd1 p = v at *
    generalize p.length = n at *
    go_enter Try.func73, Try.ntmps73
    go_wp2
    go_ret
    exact ⟨by rw [hw.out]; rfl, rfl⟩
  · have h' : ¬ (255 : Int) < (p.length : Int) := by omega
    have hw : Hid (wd1 p = p) := Hid.mk (by unfold wd1; rw [if_neg h])
    generalize wd1 p = v at *
    generalize p.length = n at *
    go_enter Try.func73, Try.ntmps73
    go_wp2
    go_ret
    exact ⟨by rw [hw.out]; rfl, rfl⟩
set_option maxRecDepth 1000000 in
theorem rf_mark (p : List UInt8) (w : World) :
    Calls Try.prog 45 #[.string (bs p)] w fun e w' => e = .returned (.bool (isMark p)) ∧ w' = w := by
  go_enter Try.func45, Try.ntmps45
  go_wp2
  · rename_i h
    rw [bs_list] at h
    go_ret
    exact ⟨ret_bool (by unfold isMark; rw [decide_eq_true (show p = mkB from h)]; rfl), rfl⟩
  · rename_i h
    rw [bs_list] at h
    go_ret
    refine ⟨ret_bool ?_, rfl⟩
    rw [bs_list]
    unfold isMark
    rw [decide_eq_false (show ¬ p = mkB from h), beq_eq_false_iff_ne.2 h, Bool.false_or, Bool.false_or]
    exact beq_decide _ _

/-- Where the first line ends, if it does. -/
def nl (l : List UInt8) : Int := Lib.indexByte l 10
theorem nl_none {l : List UInt8} (h : nl l = -1) : ∀ c ∈ l, c.toNat ≠ 10 := fun c hc e => by
  obtain ⟨k, hk⟩ := List.getElem?_of_mem hc
  exact Lib.indexByte_none h k (by rw [hk]; congr 1; exact UInt8.toNat_inj.1 e)
theorem nl_some {l : List UInt8} {k : Nat} (h : nl l = k) : k < l.length ∧ (∀ c ∈ l.take k, c.toNat ≠ 10) ∧ l = l.take k ++ 10 :: l.drop (k + 1) := by
  obtain ⟨h1, h2⟩ := Lib.indexByte_some h
  obtain ⟨hk, he⟩ := List.getElem?_eq_some_iff.1 h1
  refine ⟨hk, fun c hc e => ?_, ?_⟩
  · obtain ⟨j, hj⟩ := List.getElem?_of_mem hc
    rw [List.getElem?_take] at hj
    split at hj
    · next hlt => exact h2 j hlt (by rw [hj]; congr 1; exact UInt8.toNat_inj.1 e)
    · cases hj
  · rw [← he, ← List.drop_eq_getElem_cons hk, List.take_append_drop]
theorem nl_ge (l : List UInt8) : -1 ≤ nl l := Lib.indexByte_ge l 10
theorem bs_data (l : List UInt8) : (bs l).data.toList = l := by simp [bs]

set_option maxRecDepth 1000000 in
theorem ix_byte (l : List UInt8) (w : World) :
    Calls Try.prog 78 #[.string (bs l), .int .u8 10] w fun e w' => e = .returned (.int .i64 (nl l)) ∧ w' = w := by
  go_enter Try.func78, Try.ntmps78
  go_wp2
  rw [run_callFunc_extern Try.func82 (by kernel_rfl) (by kernel_rfl) (by kernel_rfl) (e := Extern.BytealgIndexByte.indexByte) (by kernel_rfl), Lib.run_indexByteString]
  simp only [Result.andThen]
  rw [Oper.upon_value]
  go_wp2
  go_ret
  exact ⟨ret_i64 (by rw [bs_data]; rfl), rfl⟩

set_option maxRecDepth 1000000 in
set_option maxHeartbeats 2000000 in
theorem ix_index (l : List UInt8) (w : World) :
    Calls Try.prog 77 #[.string (bs l), .string (bs [10])] w fun e w' => e = .returned (.int .i64 (nl l)) ∧ w' = w := by
  have hi := fun w => ix_byte l w
  have hz : (bs [10]).size = 1 := rfl
  go_enter Try.func77, Try.ntmps77
  go_wp2_with (go_at_call 78; refine (hi _).mono ?_; rintro e w' ⟨rfl, hw'⟩; subst w')
  · have h : ((bs [10]).toList == (bs l).toList) = true := by assumption
    rw [bs_list, bs_list] at h
    obtain rfl : [10] = l := beq_iff_eq.1 h
    go_ret
    exact ⟨rfl, rfl⟩
  · go_ret
    exact ⟨rfl, rfl⟩
end Go.Proofs.Ytiiflegfbieblaa
