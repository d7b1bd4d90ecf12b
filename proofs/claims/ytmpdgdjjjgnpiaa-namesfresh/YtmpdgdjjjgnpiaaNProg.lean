/- The contracts of the program's own layer 6: NPb (Ident), NPc (Full), NPd (Keyword), NPe (Join, Parent, Places), NPf (Json, Entry), NPg (Synthetic). -/
import Derived.Test.YtmpdgdjjjgnpiaaNPc
import Derived.Test.YtmpdgdjjjgnpiaaNPd
import Derived.Test.YtmpdgdjjjgnpiaaNPe
import Derived.Test.YtmpdgdjjjgnpiaaNPf
import Derived.Test.YtmpdgdjjjgnpiaaNPg
namespace Go.Proofs.Ytmpdgdjjjgnpiaa

theorem NTab.all (w : World) : NTab w := trivial

end Go.Proofs.Ytmpdgdjjjgnpiaa
