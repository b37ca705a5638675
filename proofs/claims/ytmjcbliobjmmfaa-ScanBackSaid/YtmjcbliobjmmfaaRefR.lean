/- creelref02.Read. -/
import Derived.Test.YtmjcbliobjmmfaaSpec
namespace Go.Proofs.Ytmjcbliobjmmfaa
open Go.RowKit
set_option linter.unusedVariables false

end Go.Proofs.Ytmjcbliobjmmfaa

