/-
  Slices of bytes, slices.Grow of nothing, slices.Concat: what Bytes and Concat say (this text only brings them together with the numbers' groups).
-/
import Derived.Test.YtlbhgebjmekclaaDoorBytes
import Derived.Test.YtlbhgebjmekclaaDoorConcat
import Derived.Test.YtlbhgebjmekclaaDoorVintMath
