/- The contract of the text builder's WriteRune at this program, for every rune, on a builder that the call owns. -/
import Derived.Test.YtkflpkcggjpbfaaCopied
import Derived.Test.YtkflpkcggjpbfaaShelf
import Derived.Test.YtkflpkcggjpbfaaRows
import Derived.WalkKit
import Derived.BigCall
import Derived.Outline
set_option linter.unusedVariables false
namespace Go.Proofs.Ytkflpkcggjpbfaa
open Go.RowKit

end Go.Proofs.Ytkflpkcggjpbfaa
