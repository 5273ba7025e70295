/- The contract of the document's Judge; the law SampleJudges: its walk, where the layer's self-test returns true. -/
import Derived.Test.YteieedfigoihpaaGreatDoorIb
namespace Go.Proofs.YteieedfigoihpaaGreatDoor
open Go Go.RowKit

end Go.Proofs.YteieedfigoihpaaGreatDoor
