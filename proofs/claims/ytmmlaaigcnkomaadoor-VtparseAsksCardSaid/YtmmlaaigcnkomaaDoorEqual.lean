/-
  Nothing: this seat has no slices.Equal of runes.
-/
import Derived.Test.YtmmlaaigcnkomaaDoorMem
import Derived.Deep.QuietTactic
import Derived.BigQuiet
