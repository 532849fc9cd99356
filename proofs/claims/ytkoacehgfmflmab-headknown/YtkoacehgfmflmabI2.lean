/- The document's own May, of layer 10 (written by mkmay10.py). -/
import Derived.Test.YtkoacehgfmflmabI1
import Derived.Test.YtkoacehgfmflmabJ3
import Derived.Deep.CutRange
namespace Go.Proofs.Ytkoacehgfmflmab
open Go.RowKit Go.Deep
set_option linter.unusedVariables false
set_option linter.unusedSimpArgs false

attribute [local go_sem] List.getElem?_cons_zero Option.getD_some
end Go.Proofs.Ytkoacehgfmflmab
