/-
  The program's chapter 9, whole.
-/
import Derived.Test.YtlkcdcmmcjkedaaImpl9a
import Derived.Test.YtlkcdcmmcjkedaaImpl9b
import Derived.Test.YtlkcdcmmcjkedaaImpl9c
import Derived.Test.YtlkcdcmmcjkedaaSpec9b
import Derived.Test.YtlkcdcmmcjkedaaSpec9c
import Derived.Test.YtlkcdcmmcjkedaaFits
import Derived.Test.YtlkcdcmmcjkedaaLawKit4
