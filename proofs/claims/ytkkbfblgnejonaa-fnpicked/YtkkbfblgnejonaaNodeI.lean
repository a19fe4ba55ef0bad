/- The program's chapter 11: all its contracts. -/
import Derived.Test.YtkkbfblgnejonaaNodeI3
import Derived.Test.YtkkbfblgnejonaaNodeI6
