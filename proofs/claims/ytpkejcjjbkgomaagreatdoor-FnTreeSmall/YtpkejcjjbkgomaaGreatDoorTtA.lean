/- The text of a tree: its numbers (NumA), what else TtB and TtC need. -/
import Derived.Test.YtpkejcjjbkgomaaGreatDoorNumA
import Derived.Test.YtpkejcjjbkgomaaGreatDoorBldF
import Derived.Test.YtpkejcjjbkgomaaGreatDoorTokA
import Derived.Test.YtpkejcjjbkgomaaGreatDoorTokV
