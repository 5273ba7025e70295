/- The table that the library reads to write numbers, out of a row's listed variables; what every law's proof shares. -/
import Derived.Test.YtcmancfdlfhgbaaDoorWr
import Derived.Test.YtcmancfdlfhgbaaDoorRows
import Derived.ProofKit
import Derived.LaidMore
import Derived.LaidSub
import Derived.Lay
import Derived.OpenShut
import Derived.Lib.LaidTab
import Derived.Stop.Joined
namespace Go.Proofs.YtcmancfdlfhgbaaDoor
open Go Go.RowKit Gu

theorem own : ownKnob Tryd.prog.godebug = none := by kernel_rfl
theorem env_of_laid {W : World} {l : List (String × DataW Unit)}
    (hl : l.filter (fun x => x.1 == "internal/strconv.uint64pow10") = [("internal/strconv.uint64pow10", Rows.laid_internal_strconv_uint64pow10)]) (h : laidMetH Tryd.prog l W) : Env W := by
  have h1 := h.filter (fun x => x.1 == "internal/strconv.uint64pow10")
  rw [hl, MakeChecks.laidMetH_plain _ _ _ (by kernel_rfl)] at h1
  exact Lib.tabIs_of_head (g := 0) (by kernel_rfl) (by kernel_rfl) Tryd.underlying132 Tryd.underlying74 (by kernel_rfl) (by kernel_rfl) h1
end Go.Proofs.YtcmancfdlfhgbaaDoor
