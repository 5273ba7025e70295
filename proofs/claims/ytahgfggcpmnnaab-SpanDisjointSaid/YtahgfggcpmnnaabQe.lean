/- The contract of the document's Swap, of the pieces with a tag. -/
import Derived.Test.YtahgfggcpmnnaabQd
namespace Go.Proofs.Ytahgfggcpmnnaab
open Go Go.RowKit Gs

end Go.Proofs.Ytahgfggcpmnnaab
