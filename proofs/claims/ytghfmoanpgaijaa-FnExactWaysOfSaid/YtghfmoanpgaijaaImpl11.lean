/-
  The program's chapter 11: all contracts.
-/
import Derived.Test.YtghfmoanpgaijaaImpl11a
import Derived.Test.YtghfmoanpgaijaaTold11
