/-
  The program's chapter 9, whole.
-/
import Derived.Test.YtlkcdcmmcjkedabImpl9a
import Derived.Test.YtlkcdcmmcjkedabImpl9b
import Derived.Test.YtlkcdcmmcjkedabImpl9c
import Derived.Test.YtlkcdcmmcjkedabSpec9b
import Derived.Test.YtlkcdcmmcjkedabSpec9c
import Derived.Test.YtlkcdcmmcjkedabFits
import Derived.Test.YtlkcdcmmcjkedabLawKit4
