/- A slice of 16-bit digits that a law is given, out of its datum. -/
import Derived.Test.YtcmancfdlfhgbaaDoorEn
import Derived.Test.YtcmancfdlfhgbaaDoorRh
import Derived.Carry
namespace Go.Proofs.YtcmancfdlfhgbaaDoor
open Go Go.ChangeShapes Go.WideShapes Go.ChangeAt Go.RowKit Gu

theorem laidOut' : laidOutB Tryd.prog = true := by kernel_rfl
theorem u16_of_wf {n : Int} (h : (Lit.int .u16 n).wf = true) : 0 ≤ n ∧ n ≤ 65535 := by
  simpa [Lit.wf, IntKind.min, IntKind.max, IntKind.signed, IntKind.bits] using h
end Go.Proofs.YtcmancfdlfhgbaaDoor
