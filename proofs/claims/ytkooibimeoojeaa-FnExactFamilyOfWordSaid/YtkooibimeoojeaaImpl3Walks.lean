/- All contracts of impl's chapter 3 together. No condition. -/
import Derived.Test.YtkooibimeoojeaaImpl3I
import Derived.Test.YtkooibimeoojeaaImpl3J
import Derived.Test.YtkooibimeoojeaaImpl3K
