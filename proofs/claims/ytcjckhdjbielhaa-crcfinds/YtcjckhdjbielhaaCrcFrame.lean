/-
  What the frames of the statements of this seat ask of the program.
-/
import Derived.Test.YtcjckhdjbielhaaCrcA
import Derived.WalkKit
import Derived.ProofKit
import Derived.OpenShut
import Derived.LaidMore
import Derived.Carry
namespace Go.Proofs.Ytcjckhdjbielhaa
open Go.ChangeShapes Go.WideShapes Go.ChangeAt Go.RowKit

theorem own : ownKnob Try.prog.godebug = none := by kernel_rfl
theorem laidOut : laidOutB Try.prog = true := by kernel_rfl

end Go.Proofs.Ytcjckhdjbielhaa
