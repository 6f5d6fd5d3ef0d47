/-
  strings.Cut at a line's end; the document's Right; Same.
-/
import Derived.Test.YteaakfkpbejnoaaTokA
namespace Go.Proofs.Yteaakfkpbejnoaa
open Go.RowKit

theorem tslice_from (l : List UInt8) (t : Nat) (z : Int) (hz : z = t) (ht : t ≤ l.length) (w : World) : (Instr.slice 9 (.string (bs l)) (some (.int .i64 z)) none none).run Try.prog w = .ok (.string (bs (l.drop t))) w := by
  subst hz
  rw [run_slice_string_from_if w 9 (bs l) .i64 _ Try.underlying9, if_pos (by rw [bs_size]; omega)]
  rw [Int.toNat_natCast, bs_cut, bs_size, List.take_length]
theorem tslice_to (l : List UInt8) (t : Nat) (z : Int) (hz : z = t) (ht : t ≤ l.length) (w : World) : (Instr.slice 9 (.string (bs l)) none (some (.int .i64 z)) none).run Try.prog w = .ok (.string (bs (l.take t))) w := by
  subst hz
  rw [run_slice_string_to_if w 9 (bs l) .i64 _ Try.underlying9, if_pos (by rw [bs_size]; omega)]
  rw [Int.toNat_natCast, bs_cut, List.drop_zero]
theorem tslice_mid (l : List UInt8) (a b : Nat) (z y : Int) (hz : z = a) (hy : y = b) (hab : a ≤ b) (ht : b ≤ l.length) (w : World) : (Instr.slice 9 (.string (bs l)) (some (.int .i64 z)) (some (.int .i64 y)) none).run Try.prog w = .ok (.string (bs (cutL l a b))) w := by
  subst hz hy
  rw [run_slice_string w 9 (bs l) .i64 .i64 _ _ Try.underlying9 (by omega) (by omega) (by rw [bs_size]; omega)]
  rw [Int.toNat_natCast, Int.toNat_natCast, bs_cut]
  rfl

/-- How far the bytes of a text may be a word's. -/
def okTo (p : List UInt8) (r : Nat) : Bool := (p.take r).all fun c => !blk c && decide (c.toNat ≠ 10)
theorem okTo_succ {p : List UInt8} {r : Nat} (h : r < p.length) : okTo p (r + 1) = (okTo p r && (!blkN (bt p r) && decide (bt p r ≠ 10))) := by
  unfold okTo
  rw [List.take_succ_eq_append_getElem h, List.all_append, bt_get p h]
  simp [blk]
theorem okTo_not {p : List UInt8} {r : Nat} (hf : okTo p r = false) : rightW p = false := by
  unfold rightW okTo at *
  cases ha : p.all fun c => !blk c && decide (c.toNat ≠ 10) with
  | false => rfl
  | true =>
    have : (p.take r).all (fun c => !blk c && decide (c.toNat ≠ 10)) = true := by
      rw [List.all_eq_true] at ha ⊢
      exact fun c hc => ha c (List.mem_of_mem_take hc)
    rw [hf] at this; cases this
theorem okTo_all (p : List UInt8) : rightW p = (okTo p p.length && (decide (p ≠ []) && (decide (p.length ≤ 255) && !isMark p))) := by
  unfold rightW okTo
  rw [List.take_length]

end Go.Proofs.Yteaakfkpbejnoaa
