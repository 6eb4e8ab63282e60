/- The shelf, handed on. -/
import Derived.Test.YtiocbkkfndbkhaaGreatDoorShelf
