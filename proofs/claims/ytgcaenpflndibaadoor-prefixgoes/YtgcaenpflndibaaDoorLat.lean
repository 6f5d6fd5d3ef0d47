/-
  Regions that draw their order, with calls that make new blocks: one walk of the lexical order, in the class of the worlds that are 'w and new blocks'.
-/
import Derived.Test.YtgcaenpflndibaaDoorRefA
import Derived.BigQuiet
namespace Go.Proofs.YtgcaenpflndibaaDoor
open Go.RowKit

/-- The worlds that w can become by new blocks alone. -/
structure Lat (w : World) where
  val : World
  more : More w val
theorem Lat.any (w : World) : Nonempty (Lat w) := ⟨⟨w, Below.refl _ _⟩⟩

/-- One walk of the lexical order serves every order, also where a call makes new blocks. -/
theorem wp_region_lat {P : Program} {id : Nat} {Q : Exit → Act → World → Prop} {a : Act} {w : World} {l : List Oper} (hm : P.follows .mixedOrders = true) (hB : Region.lexB .any l.toArray = true)
    (h : wpQuiet P l.toArray (fun w' => ∃ u : Lat w, w' = u.val) (fun a' => ∀ w', (∃ u : Lat w, w' = u.val) → Q .normal a' w') l a) : (Code.region id l.toArray true).wp P Q a w :=
  wp_region_quiet (C := fun w' => ∃ u : Lat w, w' = u.val) hm hB ⟨⟨_, More.drewN w 1⟩, rfl⟩ (by simpa using h)

theorem Lat.drawn {w : World} (u : Lat w) (m : Nat) : ∃ u' : Lat w, u.val.drewN m = u'.val := ⟨⟨_, More.trans u.more (More.drewN _ _)⟩, rfl⟩
theorem Lat.grown {w w' : World} (u : Lat w) (h : More u.val w') : ∃ u' : Lat w, w' = u'.val := ⟨⟨w', More.trans u.more h⟩, rfl⟩

end Go.Proofs.YtgcaenpflndibaaDoor
