/-
  The law's Small, Row and Bits.
-/
import Derived.Test.YtgcaenpflndibaaDoorDirRows
namespace Go.Proofs.YtgcaenpflndibaaDoor
open Go.RowKit

/-- A case, as it came in. -/
abbrev caseV (s : Value) (T x N : Nat) : Value := .agg #[s, .int .u8 T, .int .u64 x, .int .u8 N]

theorem wrapS (n : Nat) (h : n ≤ 1000000) : IntKind.i64.wrap (n : Int) = n := by
  rw [IntKind.wrap_i64]; omega

theorem addErr_fit (x d : Nat) (hd : d ≤ 64) (h : x < 2 ^ d) : addErr x d = 0 := by
  have hb : Lib.bitLen x ≤ d := Lib.bitLen_le x d hd h
  unfold addErr
  rw [if_neg (by omega), if_neg (by simp; omega)]

theorem row_fit (base b V n x N : Nat) (w : World) (h : RowAt w base b V n) (hsz : base ≤ w.heap.size) (hN : N ≤ 64) (hx : x < 2 ^ N) (hn : n + 64 ≤ 1099511627776) :
    Calls Tryd.prog 39 #[.pointer (some ⟨b, 0, none⟩), .int .u64 x, .int .i64 N] w fun e w' => e = .returned (.int .i64 0) ∧ RowAt w' base b (cat V n x) (n + N) ∧ KeepsO base (RowBlk w b) w w' := by
  have := row_add_o base b V n x N w h hsz (Nat.lt_of_lt_of_le hx (Nat.pow_le_pow_right (by decide) hN)) hn
  have e0 := addErr_fit x N hN hx
  rwa [addV, addN, if_pos e0, if_pos e0, e0, Int.toNat_natCast] at this

end Go.Proofs.YtgcaenpflndibaaDoor
