/- The program's plans: what the laws of chapter 10 call. -/
import Derived.Test.YtcmpenlgkccgkaaPlnI
import Derived.Test.YtcmpenlgkccgkaaLefI
import Derived.Test.YtcmpenlgkccgkaaPlanOkS
import Derived.Test.YtcmpenlgkccgkaaPlanL
import Derived.Test.YtcmpenlgkccgkaaPlanMk

