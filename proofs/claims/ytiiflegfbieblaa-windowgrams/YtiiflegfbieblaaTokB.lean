/-
  strings.Cut at a line's end; the document's Right; Same.
-/
import Derived.Test.YtiiflegfbieblaaTokA
namespace Go.Proofs.Ytiiflegfbieblaa
open Go.RowKit

theorem tslice_from (l : List UInt8) (t : Nat) (z : Int) (hz : z = t) (ht : t ≤ l.length) (w : World) : (Instr.slice 9 (.string (bs l)) (some (.int .i64 z)) none none).run Try.prog w = .ok (.string (bs (l.drop t))) w := by
  subst hz
  rw [run_slice_string_from_if w 9 (bs l) .i64 _ Try.underlying9, if_pos (by rw [bs_size]; omega)]
  rw [Int.toNat_natCast, bs_cut, bs_size, List.take_length]
theorem tslice_to (l : List UInt8) (t : Nat) (z : Int) (hz : z = t) (ht : t ≤ l.length) (w : World) : (Instr.slice 9 (.string (bs l)) none (some (.int .i64 z)) none).run Try.prog w = .ok (.string (bs (l.take t))) w := by
  subst hz
  rw [run_slice_string_to_if w 9 (bs l) .i64 _ Try.underlying9, if_pos (by rw [bs_size]; omega)]
  rw [Int.toNat_natCast, bs_cut, List.drop_zero]
theorem tslice_mid (l : List UInt8) (a b : Nat) (z y : Int) (hz : z = a) (hy : y = b) (hab : a ≤ b) (ht : b ≤ l.length) (w : World) : (Instr.slice 9 (.string (bs l)) (some (.int .i64 z)) (some (.int .i64 y)) none).run Try.prog w = .ok (.string (bs (cutL l a b))) w := by
  subst hz hy
  rw [run_slice_string w 9 (bs l) .i64 .i64 _ _ Try.underlying9 (by omega) (by omega) (by rw [bs_size]; omega)]
  rw [Int.toNat_natCast, Int.toNat_natCast, bs_cut]
  rfl

set_option maxRecDepth 1000000 in
set_option maxHeartbeats 1600000 in
theorem cut_none (l : List UInt8) (h : nl l = -1) (w : World) :
    Calls Try.prog 75 #[.string (bs l), .string (bs [10])] w fun e w' => e = .returned (.tuple #[.string (bs l), .string (bs []), .bool false]) ∧ w' = w := by
  have hi := fun w => ix_index l w
  rw [h] at hi
  go_enter Try.func75, Try.ntmps75
  go_wp2_with (go_at_call 77; refine (hi _).mono ?_; rintro e w' ⟨rfl, hw'⟩; subst w')
  go_ret3
  exact ⟨rfl, rfl⟩

set_option maxRecDepth 1000000 in
set_option maxHeartbeats 1600000 in
theorem cut_some (l : List UInt8) (k : Nat) (h : nl l = k) (hl : l.length ≤ 1000000000) (w : World) :
    Calls Try.prog 75 #[.string (bs l), .string (bs [10])] w fun e w' => e = .returned (.tuple #[.string (bs (l.take k)), .string (bs (l.drop (k + 1))), .bool true]) ∧ ∃ m, w' = w.drewN m := by
  have hi := fun w => ix_index l w
  have hk := (nl_some h).1
  have hz : (bs [10]).size = 1 := rfl
  have hto := tslice_to l k k rfl (by omega)
  have hfr := tslice_from l (k + 1) ((k : Int) + 1) (by omega) (by omega)
  rw [h] at hi
  clear h
  generalize List.take k l = x at *
  generalize List.drop (k + 1) l = y at *
  generalize l.length = n at *
  have hk0 : ¬ ((k : Int) < 0) := by omega
  have hw1 : IntKind.i64.wrap ((k : Int) + 1) = (k : Int) + 1 := by rw [IntKind.wrap_i64]; omega
  generalize bs [10] = sep at *
  go_enter Try.func75, Try.ntmps75
  go_wp2_with (go_at_call 77; refine (hi _).mono ?_; rintro e w' ⟨rfl, hw'⟩; subst w')
  go_quiet (fail)
  go_wp2
  go_ret3
  exact ⟨rfl, _, rfl⟩

set_option maxRecDepth 1000000 in
theorem scut_none (l : List UInt8) (h : nl l = -1) (w : World) :
    Calls Try.prog 71 #[.string (bs l), .string (bs [10])] w fun e w' => e = .returned (.tuple #[.string (bs l), .string (bs []), .bool false]) ∧ ∃ m, w' = w.drewN m := by
  have hi := fun w => cut_none l h w
  go_enter Try.func71, Try.ntmps71
  go_wp2_with (go_at_call 75; refine (hi _).mono ?_; rintro e w' ⟨rfl, hw'⟩; subst w')
  go_ret3
  exact ⟨rfl, 0, rfl⟩
set_option maxRecDepth 1000000 in
theorem scut_some (l : List UInt8) (k : Nat) (h : nl l = k) (hl : l.length ≤ 1000000000) (w : World) :
    Calls Try.prog 71 #[.string (bs l), .string (bs [10])] w fun e w' => e = .returned (.tuple #[.string (bs (l.take k)), .string (bs (l.drop (k + 1))), .bool true]) ∧ ∃ m, w' = w.drewN m := by
  have hi := fun w => cut_some l k h hl w
  generalize List.take k l = x at *
  generalize List.drop (k + 1) l = y at *
  go_enter Try.func71, Try.ntmps71
  go_wp2_with (go_at_call 75; refine (hi _).mono ?_; rintro e w' ⟨rfl, m, hw'⟩; subst w')
  go_ret3
  exact ⟨rfl, _, rfl⟩

/-- How far the bytes of a text may be a word's. -/
def okTo (p : List UInt8) (r : Nat) : Bool := (p.take r).all fun c => !blk c && decide (c.toNat ≠ 10)
theorem okTo_succ {p : List UInt8} {r : Nat} (h : r < p.length) : okTo p (r + 1) = (okTo p r && (!blkN (bt p r) && decide (bt p r ≠ 10))) := by
  unfold okTo
  rw [List.take_succ_eq_append_getElem h, List.all_append, bt_get p h]
  simp [blk]
theorem okTo_not {p : List UInt8} {r : Nat} (hf : okTo p r = false) : rightW p = false := by
  unfold rightW okTo at *
  cases ha : p.all fun c => !blk c && decide (c.toNat ≠ 10) with
  | false => rfl
  | true =>
    have : (p.take r).all (fun c => !blk c && decide (c.toNat ≠ 10)) = true := by
      rw [List.all_eq_true] at ha ⊢
      exact fun c hc => ha c (List.mem_of_mem_take hc)
    rw [hf] at this; cases this
theorem okTo_all (p : List UInt8) : rightW p = (okTo p p.length && (decide (p ≠ []) && (decide (p.length ≤ 255) && !isMark p))) := by
  unfold rightW okTo
  rw [List.take_length]

set_option maxRecDepth 1000000 in
set_option maxHeartbeats 3200000 in
theorem rf_right (p : List UInt8) (hp : p.length ≤ 9223372036854775807) (w : World) :
    Calls Try.prog 26 #[.string (bs p)] w fun e w' => e = .returned (.bool (rightW p)) ∧ w' = w := by
  have hsz : (bs p).size = p.length := bs_size p
  have HP := Hid.mk (And.intro (@okTo_succ p) (And.intro (@okTo_not p) (okTo_all p)))
  have hmk := fun w => rf_mark p w
  generalize rightW p = R at *
  generalize isMark p = M at *
  go_enter Try.func26, Try.ntmps26
  go_wp2
  go_loop [3] (fun k => ∃ r : Nat, r ≤ p.length ∧ k = .int .i64 r ∧ okTo p r = true) (fun k => p.length - (intOf k).toNat)
  case atStart => exact ⟨0, by omega, rfl, rfl⟩
  case round =>
    obtain ⟨r, hr, rfl, hok⟩ := hrel
    by_cases hlt : r < p.length
    · have hlt' : r < (bs p).size := by omega
      have hS := HP.out.1 hlt
      obtain ⟨B, hB⟩ : ∃ B, bt p r = B := ⟨_, rfl⟩
      have hbt : ((bs p)[r]'hlt').toNat = B := by rw [bt_bs, hB]
      rw [hB, hok, Bool.true_and] at hS
      clear hB
      have hbl := fun w => rf_blank B w
      have e10 : ((B : Int) == 10) = decide (B = 10) := int_eq B 10
      have HS := Hid.mk hS
      have HN := Hid.mk (HP.out.2.1 (r := r + 1))
      clear hS
      cases hb : blkN B <;> cases h10 : decide (B = 10)
      all_goals
        rw [hb] at hbl
        rw [h10] at e10
        go_wp2_with (go_at_call 44; refine (hbl _).mono ?_; rintro e w' ⟨rfl, hw'⟩; subst w')
      · refine ⟨⟨r + 1, by omega, by go_num, ?_⟩, by simp [intOf]; omega⟩
        rw [HS.out, hb]
        simpa using h10
      all_goals
        go_ret
        refine ⟨ret_bool (HN.out ?_).symm, rfl⟩
        rw [HS.out, hb]
        first | rfl | (simpa using h10)
    · obtain rfl : r = p.length := by omega
      have HA0 := HP.out.2.2
      rw [hok, Bool.true_and] at HA0
      have HA := Hid.mk HA0
      clear hok HP HA0
      obtain ⟨n, hn⟩ : ∃ n, p.length = n := ⟨_, rfl⟩
      rw [hn] at hlt hsz
      by_cases h0 : p = []
      · have hR : R = false := by rw [HA.out, decide_eq_false (by simpa using h0)]; rfl
        have h1 : ((bs p).toList == []) = true := by rw [bs_list]; exact beq_iff_eq.2 h0
        have h2 : (bs p).toList = [] := by rw [bs_list]; exact h0
        have HR := Hid.mk hR
        rw [hn]
        clear HA h0 hn hR
        go_wp2
        go_ret
        exact ⟨ret_bool HR.out.symm, rfl⟩
      · have h1 : ((bs p).toList == []) = false := by rw [bs_list]; exact beq_eq_false_iff_ne.2 h0
        have h2 : ¬ (bs p).toList = [] := by rw [bs_list]; exact h0
        rw [decide_eq_true h0, Bool.true_and] at HA
        rw [hn] at HA ⊢
        clear hn h0
        by_cases hb : n ≤ 255
        · rw [decide_eq_true hb, Bool.true_and] at HA
          have hb' : (n : Int) ≤ 255 := by omega
          go_wp2_with (go_at_call 45; refine (hmk _).mono ?_; rintro e w' ⟨rfl, hw'⟩; subst w')
          go_ret
          exact ⟨ret_bool HA.out.symm, rfl⟩
        · rw [decide_eq_false hb, Bool.false_and] at HA
          have hb' : ¬ (n : Int) ≤ 255 := by omega
          go_wp2
          go_ret
          exact ⟨ret_bool HA.out.symm, rfl⟩
end Go.Proofs.Ytiiflegfbieblaa
