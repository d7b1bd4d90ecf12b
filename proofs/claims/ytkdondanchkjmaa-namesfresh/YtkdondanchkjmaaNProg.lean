/- The contracts of the program's own layer 6: NPb (Ident), NPc (Full), NPd (Keyword), NPe (Join, Parent, Places), NPf (Json, Entry), NPg (Synthetic). -/
import Derived.Test.YtkdondanchkjmaaNPc
import Derived.Test.YtkdondanchkjmaaNPd
import Derived.Test.YtkdondanchkjmaaNPe
import Derived.Test.YtkdondanchkjmaaNPf
import Derived.Test.YtkdondanchkjmaaNPg
namespace Go.Proofs.Ytkdondanchkjmaa

theorem NTab.all (w : World) : NTab w := trivial

end Go.Proofs.Ytkdondanchkjmaa
