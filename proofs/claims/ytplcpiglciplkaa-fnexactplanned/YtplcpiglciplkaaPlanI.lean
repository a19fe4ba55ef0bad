/- The program's plans: what the laws of chapter 10 call. -/
import Derived.Test.YtplcpiglciplkaaPlnI
import Derived.Test.YtplcpiglciplkaaLefI
import Derived.Test.YtplcpiglciplkaaPlanOkS
import Derived.Test.YtplcpiglciplkaaPlanL
import Derived.Test.YtplcpiglciplkaaPlanMk

