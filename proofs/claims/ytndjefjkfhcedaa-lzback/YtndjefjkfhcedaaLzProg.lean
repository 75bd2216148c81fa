/-
  Lz: the program's calls together.
-/
import Derived.Test.YtndjefjkfhcedaaLpPack
import Derived.Test.YtndjefjkfhcedaaLpUnp
import Derived.Test.YtndjefjkfhcedaaLpEnc
import Derived.Test.YtndjefjkfhcedaaLpSq2
namespace Go.Proofs.Ytndjefjkfhcedaa
theorem pckF : PackF pkB := pkF
theorem pckP : PackP pkB := pkP
end Go.Proofs.Ytndjefjkfhcedaa
