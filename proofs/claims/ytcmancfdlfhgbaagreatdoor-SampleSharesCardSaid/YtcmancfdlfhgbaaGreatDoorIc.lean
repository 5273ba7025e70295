/- The contract of the document's Judge; the law SampleJudges: its walk, where the layer's self-test returns true. -/
import Derived.Test.YtcmancfdlfhgbaaGreatDoorIb
namespace Go.Proofs.YtcmancfdlfhgbaaGreatDoor
open Go Go.RowKit

end Go.Proofs.YtcmancfdlfhgbaaGreatDoor
