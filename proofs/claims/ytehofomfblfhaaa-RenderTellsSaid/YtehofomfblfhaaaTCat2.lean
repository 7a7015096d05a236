/- doc.Cat of any documents, its walk. -/
import Derived.Test.YtehofomfblfhaaaTCat
import Derived.Test.YtehofomfblfhaaaTDoc5
namespace Go.Proofs.Ytehofomfblfhaaa
open Go.RowKit
set_option linter.unusedVariables false
set_option linter.unusedSimpArgs false

end Go.Proofs.Ytehofomfblfhaaa
