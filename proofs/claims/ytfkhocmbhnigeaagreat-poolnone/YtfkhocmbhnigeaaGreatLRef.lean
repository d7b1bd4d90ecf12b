/- The contracts of the reference's own small functions of layer 5: which signs are blanks, letters, digits, signs; where a line begins; comments of their own; places within comments. -/
import Derived.Test.YtfkhocmbhnigeaaGreatLMath
import Derived.Test.YtfkhocmbhnigeaaGreatQTak
namespace Go.Proofs.YtfkhocmbhnigeaaGreat
open Go.RowKit
set_option linter.unusedVariables false
set_option linter.unusedSimpArgs false

theorem lblank_t {c : Int} (h : c = 32 ∨ (9 ≤ c ∧ c ≤ 13)) : lblank c = true := decide_eq_true h

theorem lblank_f {c : Int} (h : ¬ (c = 32 ∨ (9 ≤ c ∧ c ≤ 13))) : lblank c = false := decide_eq_false h

end Go.Proofs.YtfkhocmbhnigeaaGreat
