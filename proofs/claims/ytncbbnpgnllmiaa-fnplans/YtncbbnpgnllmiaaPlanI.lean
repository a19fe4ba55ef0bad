/- The program's plans: what the laws of chapter 10 call. -/
import Derived.Test.YtncbbnpgnllmiaaPlnI
import Derived.Test.YtncbbnpgnllmiaaLefI
import Derived.Test.YtncbbnpgnllmiaaPlanOkS
import Derived.Test.YtncbbnpgnllmiaaPlanL
import Derived.Test.YtncbbnpgnllmiaaPlanMk

