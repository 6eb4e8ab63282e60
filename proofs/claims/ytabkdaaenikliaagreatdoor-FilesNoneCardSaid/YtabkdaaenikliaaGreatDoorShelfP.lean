/- The shelf. -/
import Derived.Test.YtabkdaaenikliaaGreatDoorShelf
