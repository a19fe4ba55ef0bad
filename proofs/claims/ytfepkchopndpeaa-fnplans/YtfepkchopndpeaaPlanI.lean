/- The program's plans: what the laws of chapter 10 call. -/
import Derived.Test.YtfepkchopndpeaaPlnI
import Derived.Test.YtfepkchopndpeaaLefI
import Derived.Test.YtfepkchopndpeaaPlanOkS
import Derived.Test.YtfepkchopndpeaaPlanL
import Derived.Test.YtfepkchopndpeaaPlanMk

