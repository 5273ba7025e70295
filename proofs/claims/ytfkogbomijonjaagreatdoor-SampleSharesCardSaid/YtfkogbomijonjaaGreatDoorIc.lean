/- The contract of the document's Judge; the law SampleJudges: its walk, where the layer's self-test returns true. -/
import Derived.Test.YtfkogbomijonjaaGreatDoorIb
namespace Go.Proofs.YtfkogbomijonjaaGreatDoor
open Go Go.RowKit

end Go.Proofs.YtfkogbomijonjaaGreatDoor
