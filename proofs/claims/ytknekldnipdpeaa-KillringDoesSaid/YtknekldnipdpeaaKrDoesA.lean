/-
  Whatever is killed, yanked and rotated: the law at any script.
-/
import Derived.Test.YtknekldnipdpeaaKrDoesW
namespace Go.Proofs.Ytknekldnipdpeaa
open Go.RowKit Go.Shelf Go.Lib
end Go.Proofs.Ytknekldnipdpeaa
