/-
  The program's chapter 11: all contracts.
-/
import Derived.Test.YtghfmoanpgaijaaDoorImpl11a
import Derived.Test.YtghfmoanpgaijaaDoorTold11
import Derived.Test.YtghfmoanpgaijaaDoorPlace11
import Derived.Test.YtghfmoanpgaijaaDoorFront11
