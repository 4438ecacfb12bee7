/-
  What is called of txn, by its contracts.
-/
import Derived.Test.YtjpdhijhmpdbnaaGreatTxMay
import Derived.Test.YtjpdhijhmpdbnaaGreatTxSame
import Derived.Test.YtjpdhijhmpdbnaaGreatTxReads
import Derived.Test.YtjpdhijhmpdbnaaGreatTxTouch
import Derived.Test.YtjpdhijhmpdbnaaGreatTxPut
import Derived.Test.YtjpdhijhmpdbnaaGreatTxTake
