/- Tapes: the arguments of a tape, checked by the program. -/
import Derived.Test.YtggojffmfjeikaaTsr
import Derived.Test.YtggojffmfjeikaaTcn
import Derived.Test.YtggojffmfjeikaaAre
namespace Go.Proofs.Ytggojffmfjeikaa
end Go.Proofs.Ytggojffmfjeikaa
