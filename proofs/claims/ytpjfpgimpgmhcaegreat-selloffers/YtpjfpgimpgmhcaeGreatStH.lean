/- The reference: CheckSailing, whatever the sailing. -/
import Derived.Test.YtpjfpgimpgmhcaeGreatStG
namespace Go.Proofs.YtpjfpgimpgmhcaeGreat.St
open Go.RowKit Bk
set_option linter.unusedSimpArgs false
set_option linter.unusedVariables false
set_option maxRecDepth 10000

end Go.Proofs.YtpjfpgimpgmhcaeGreat.St
