/- The shelf of addresses. -/
import Derived.Test.YtdfapebggghfdaaGreatDoorShelf
