/-
  The contracts of the program's chapter 10.
-/
import Derived.Test.YtmnmbelmcdfcjaaImpl10b
import Derived.Test.YtmnmbelmcdfcjaaImpl10c
import Derived.Test.YtmnmbelmcdfcjaaImpl10d
