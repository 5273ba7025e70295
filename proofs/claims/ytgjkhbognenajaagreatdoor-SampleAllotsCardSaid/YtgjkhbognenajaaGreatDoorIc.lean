/- The contract of the document's Judge; the law SampleJudges: its walk, where the layer's self-test returns true. -/
import Derived.Test.YtgjkhbognenajaaGreatDoorIb
namespace Go.Proofs.YtgjkhbognenajaaGreatDoor
open Go Go.RowKit

end Go.Proofs.YtgjkhbognenajaaGreatDoor
