/- What the rows' lists give a walk: the errors of package api, the handle of the type error and the library's table, in one. -/
import Derived.Test.YtfnajhpcbajhfaaDoorSents
import Derived.Test.YtfnajhpcbajhfaaDoorHandle
import Derived.Test.YtfnajhpcbajhfaaDoorFull
namespace Go.Proofs.YtfnajhpcbajhfaaDoor
open Go.ChangeShapes Go.WideShapes Go.ChangeAt Go.RowKit

theorem full_of {W : World} (h : laidMet Tryd.prog (("math/bits.deBruijn32tab", Rows.laid_math_bits_deBruijn32tab) :: ("math/bits.deBruijn64tab", Rows.laid_math_bits_deBruijn64tab) :: ("internal/strconv.uint64pow10", Rows.laid_internal_strconv_uint64pow10) :: laid11) W ∧ handlesMet Tryd.prog [("errors.errorType", Rows.laid_errors_errorType)] W) : ∃ s, Full s W := by
  have et := et_of_handles h.2 (List.mem_singleton.2 rfl)
  obtain ⟨s, g⟩ := sents_of_laid h.1.tail.tail.tail et
  exact ⟨s, g, table h.1.tail.tail⟩
end Go.Proofs.YtfnajhpcbajhfaaDoor
