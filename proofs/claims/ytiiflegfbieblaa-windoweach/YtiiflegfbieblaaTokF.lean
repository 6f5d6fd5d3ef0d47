/-
  The document's Join, All.
-/
import Derived.Test.YtiiflegfbieblaaTokE
namespace Go.Proofs.Ytiiflegfbieblaa
open Go.RowKit

theorem list_of (ts : List (List UInt8)) : (List.range ts.length).map (fun j => ts.getD j []) = ts := by
  apply List.ext_getElem (by simp)
  intro j h1 h2
  simp [List.getD, List.getElem?_eq_getElem h2]

end Go.Proofs.Ytiiflegfbieblaa
