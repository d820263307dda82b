/-
  Nothing: this seat has no slices.Equal of runes.
-/
import Derived.Test.YtjoiagaadofndaaDoorMem
import Derived.Deep.QuietTactic
import Derived.BigQuiet
