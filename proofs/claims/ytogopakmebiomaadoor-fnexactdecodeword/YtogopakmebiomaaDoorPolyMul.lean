/-
  Multiples added place by place, noughts taken off the end, products of polynomials: the program's functions and its model's, call by call. Each contract says what it asks.
-/
import Derived.Test.YtogopakmebiomaaDoorEval
import Derived.Test.YtogopakmebiomaaDoorAdd
namespace Go.Proofs.YtogopakmebiomaaDoor
open Go.RowKit
namespace Gf

end Gf
end Go.Proofs.YtogopakmebiomaaDoor
