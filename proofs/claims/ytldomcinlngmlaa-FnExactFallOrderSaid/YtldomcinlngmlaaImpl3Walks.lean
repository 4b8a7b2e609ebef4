/- All contracts of impl's chapter 3 together. No condition. -/
import Derived.Test.YtldomcinlngmlaaImpl3I
import Derived.Test.YtldomcinlngmlaaImpl3J
import Derived.Test.YtldomcinlngmlaaImpl3K
