/-
  Slices of bytes, slices.Grow of nothing, slices.Concat: what Bytes and Concat say (this text only brings them together with the numbers' groups).
-/
import Derived.Test.YtdkdnfcmlnfkcaaBytes
import Derived.Test.YtdkdnfcmlnfkcaaConcat
import Derived.Test.YtdkdnfcmlnfkcaaVintMath
