/-
  bitrow's Same: have two rows the same bits?
-/
import Derived.Test.YtgcaenpflndibaaDoorRead
import Derived.Deep.RegionWith
namespace Go.Proofs.YtgcaenpflndibaaDoor
open Go.RowKit

/-- What a row's pointer tells of its length; nil has none. -/
def PtrLen (w : World) (p : Value) (n : Nat) : Prop := (p = .pointer none ∧ n = 0) ∨ ∃ b, p = .pointer (some ⟨b, 0, none⟩) ∧ w.cell? ⟨b, 1, none⟩ = some (.int .i64 n)

theorem len_any (p : Value) (n : Nat) (w : World) (h : PtrLen w p n) : Calls Tryd.prog 37 #[p] w fun e w' => e = .returned (.int .i64 n) ∧ w' = w := by
  rcases h with ⟨rfl, rfl⟩ | ⟨b, rfl, c⟩
  · exact nil_len w
  · exact row_len b n w c

theorem PtrLen.row {w : World} {b V n : Nat} (h : RowRd w b V n) : PtrLen w (.pointer (some ⟨b, 0, none⟩)) n := .inr ⟨b, rfl, h.c1⟩
theorem PtrLen.none (w : World) : PtrLen w (.pointer none) 0 := .inl ⟨rfl, rfl⟩

end Go.Proofs.YtgcaenpflndibaaDoor
