/-
  What is called of txn, by its contracts.
-/
import Derived.Test.YtjpdhijhmpdbnaaTxMay
import Derived.Test.YtjpdhijhmpdbnaaTxSame
import Derived.Test.YtjpdhijhmpdbnaaTxReads
import Derived.Test.YtjpdhijhmpdbnaaTxTouch
import Derived.Test.YtjpdhijhmpdbnaaTxPut
import Derived.Test.YtjpdhijhmpdbnaaTxTake
