/- The program's labels (layer 10): contracts of all five functions. -/
import Derived.Test.YtoamgmbpainpjaaLbDecP
