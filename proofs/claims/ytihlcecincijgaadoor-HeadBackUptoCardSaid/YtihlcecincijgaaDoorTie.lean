/-
  DERIVED. GIVEN WITH THE SEED: THE PROGRAM's TIES (one call each: nine closed facts by the kernel) AND EACH ROW's TIE, after the 31st guide's Derived/Test/Toyas{Tie, Card}.lean. No idea stands in it: it is a product of the set-up. Laid BY PROGRAM, IN A SANDBOX (cutbox-door.mjs). By AI agents, Wed Nov 11 2026. No macro, syntax, notation, axiom, sorry.
-/
import Derived.Test.YtihlcecincijgaaDoorRows
import Derived.LaidByTextLater
import Derived.SevenTiedAt
import Derived.LaidSub
import Derived.LaidOnce
namespace Go.Proofs.YtihlcecincijgaaDoor
open Go
set_option maxRecDepth 100000
theorem seatTie1 : Tryd.prog.laidByTextLater [("unicode/utf8.acceptRanges", Rows.laid_unicode_utf8_acceptRanges), ("parley/api.ErrEnd", Rows.laid_parley_api_ErrEnd), ("parley/api.ErrLong", Rows.laid_parley_api_ErrLong), ("parley/api.ErrTag", Rows.laid_parley_api_ErrTag), ("parley/api.ErrGroup", Rows.laid_parley_api_ErrGroup), ("parley/api.ErrDeep", Rows.laid_parley_api_ErrDeep), ("parley/api.ErrUTF8", Rows.laid_parley_api_ErrUTF8), ("parley/api.ErrHuff", Rows.laid_parley_api_ErrHuff), ("parley/api.ErrIndex", Rows.laid_parley_api_ErrIndex), ("parley/api.ErrTable", Rows.laid_parley_api_ErrTable), ("parley/api.ErrList", Rows.laid_parley_api_ErrList), ("parley/api.ErrFrame", Rows.laid_parley_api_ErrFrame), ("parley/api.ErrHead", Rows.laid_parley_api_ErrHead), ("parley/api.ErrWindow", Rows.laid_parley_api_ErrWindow), ("parley/api.ErrRole", Rows.laid_parley_api_ErrRole), ("parley/api.ErrGone", Rows.laid_parley_api_ErrGone), ("parley/api.ErrMany", Rows.laid_parley_api_ErrMany), ("parley/api.ErrStream", Rows.laid_parley_api_ErrStream), ("parley/api.ErrToken", Rows.laid_parley_api_ErrToken), ("parley/api.ErrSyntax", Rows.laid_parley_api_ErrSyntax), ("parley/api.ErrNumber", Rows.laid_parley_api_ErrNumber), ("parley/api.ErrName", Rows.laid_parley_api_ErrName), ("parley/api.ErrTwice", Rows.laid_parley_api_ErrTwice), ("parley/api.ErrType", Rows.laid_parley_api_ErrType), ("parley/api.ErrCircle", Rows.laid_parley_api_ErrCircle), ("parley/api.ErrFile", Rows.laid_parley_api_ErrFile), ("parley/api.ErrValue", Rows.laid_parley_api_ErrValue), ("parley/api.ErrField", Rows.laid_parley_api_ErrField), ("parley/api.ErrJSON", Rows.laid_parley_api_ErrJSON), ("parley/api.ErrStatus", Rows.laid_parley_api_ErrStatus), ("parley/api.ErrScript", Rows.laid_parley_api_ErrScript)] [.data, .sentinel, .sentinel, .sentinel, .sentinel, .sentinel, .sentinel, .sentinel, .sentinel, .sentinel, .sentinel, .sentinel, .sentinel, .sentinel, .sentinel, .sentinel, .sentinel, .sentinel, .sentinel, .sentinel, .sentinel, .sentinel, .sentinel, .sentinel, .sentinel, .sentinel, .sentinel, .sentinel, .sentinel, .sentinel, .sentinel] true :=
  Program.laidByTextLater_by_one 604 8 65 (by kernel_rfl) (by kernel_rfl) (by kernel_rfl) (by kernel_rfl) (by kernel_rfl) (by kernel_rfl) (fun _ _ => by kernel_rfl)
theorem seatTie2 : Tryd.prog.laidByTextLater [("math/bits.deBruijn32tab", Rows.laid_math_bits_deBruijn32tab), ("math/bits.deBruijn64tab", Rows.laid_math_bits_deBruijn64tab), ("internal/strconv.uint64pow10", Rows.laid_internal_strconv_uint64pow10), ("unicode/utf8.acceptRanges", Rows.laid_unicode_utf8_acceptRanges), ("parley/api.ErrEnd", Rows.laid_parley_api_ErrEnd), ("parley/api.ErrLong", Rows.laid_parley_api_ErrLong), ("parley/api.ErrTag", Rows.laid_parley_api_ErrTag), ("parley/api.ErrGroup", Rows.laid_parley_api_ErrGroup), ("parley/api.ErrDeep", Rows.laid_parley_api_ErrDeep), ("parley/api.ErrUTF8", Rows.laid_parley_api_ErrUTF8), ("parley/api.ErrHuff", Rows.laid_parley_api_ErrHuff), ("parley/api.ErrIndex", Rows.laid_parley_api_ErrIndex), ("parley/api.ErrTable", Rows.laid_parley_api_ErrTable), ("parley/api.ErrList", Rows.laid_parley_api_ErrList), ("parley/api.ErrFrame", Rows.laid_parley_api_ErrFrame), ("parley/api.ErrHead", Rows.laid_parley_api_ErrHead), ("parley/api.ErrWindow", Rows.laid_parley_api_ErrWindow), ("parley/api.ErrRole", Rows.laid_parley_api_ErrRole), ("parley/api.ErrGone", Rows.laid_parley_api_ErrGone), ("parley/api.ErrMany", Rows.laid_parley_api_ErrMany), ("parley/api.ErrStream", Rows.laid_parley_api_ErrStream), ("parley/api.ErrToken", Rows.laid_parley_api_ErrToken), ("parley/api.ErrSyntax", Rows.laid_parley_api_ErrSyntax), ("parley/api.ErrNumber", Rows.laid_parley_api_ErrNumber), ("parley/api.ErrName", Rows.laid_parley_api_ErrName), ("parley/api.ErrTwice", Rows.laid_parley_api_ErrTwice), ("parley/api.ErrType", Rows.laid_parley_api_ErrType), ("parley/api.ErrCircle", Rows.laid_parley_api_ErrCircle), ("parley/api.ErrFile", Rows.laid_parley_api_ErrFile), ("parley/api.ErrValue", Rows.laid_parley_api_ErrValue), ("parley/api.ErrField", Rows.laid_parley_api_ErrField), ("parley/api.ErrJSON", Rows.laid_parley_api_ErrJSON), ("parley/api.ErrStatus", Rows.laid_parley_api_ErrStatus), ("parley/api.ErrScript", Rows.laid_parley_api_ErrScript)] [.data, .data, .data, .data, .sentinel, .sentinel, .sentinel, .sentinel, .sentinel, .sentinel, .sentinel, .sentinel, .sentinel, .sentinel, .sentinel, .sentinel, .sentinel, .sentinel, .sentinel, .sentinel, .sentinel, .sentinel, .sentinel, .sentinel, .sentinel, .sentinel, .sentinel, .sentinel, .sentinel, .sentinel, .sentinel, .sentinel, .sentinel, .sentinel] true :=
  Program.laidByTextLater_by_one 604 8 65 (by kernel_rfl) (by kernel_rfl) (by kernel_rfl) (by kernel_rfl) (by kernel_rfl) (by kernel_rfl) (fun _ _ => by kernel_rfl)
theorem seatTie3 : Tryd.prog.laidByTextLater [("math/bits.deBruijn32tab", Rows.laid_math_bits_deBruijn32tab), ("math/bits.deBruijn64tab", Rows.laid_math_bits_deBruijn64tab), ("internal/strconv.uint64pow10", Rows.laid_internal_strconv_uint64pow10), ("unicode/utf8.acceptRanges", Rows.laid_unicode_utf8_acceptRanges), ("parley/api.ErrHead", Rows.laid_parley_api_ErrHead)] [.data, .data, .data, .data, .sentinel] true :=
  Program.laidByTextLater_by_one 604 8 65 (by kernel_rfl) (by kernel_rfl) (by kernel_rfl) (by kernel_rfl) (by kernel_rfl) (by kernel_rfl) (fun _ _ => by kernel_rfl)
theorem pin_laid_unicode_utf8_first : Tryd.pinned.checked.prog.pinnedFits "unicode/utf8.first" = true := by kernel_rfl
theorem noOwnUnsafe : Tryd.pinned.checked.prog.headLifts.contains "ownunsafe" = false := by kernel_rfl
theorem fits1 : Tryd.pinned.checked.prog.listedFits [("unicode/utf8.acceptRanges", Rows.laid_unicode_utf8_acceptRanges), ("parley/api.ErrEnd", Rows.laid_parley_api_ErrEnd), ("parley/api.ErrLong", Rows.laid_parley_api_ErrLong), ("parley/api.ErrTag", Rows.laid_parley_api_ErrTag), ("parley/api.ErrGroup", Rows.laid_parley_api_ErrGroup), ("parley/api.ErrDeep", Rows.laid_parley_api_ErrDeep), ("parley/api.ErrUTF8", Rows.laid_parley_api_ErrUTF8), ("parley/api.ErrHuff", Rows.laid_parley_api_ErrHuff), ("parley/api.ErrIndex", Rows.laid_parley_api_ErrIndex), ("parley/api.ErrTable", Rows.laid_parley_api_ErrTable), ("parley/api.ErrList", Rows.laid_parley_api_ErrList), ("parley/api.ErrFrame", Rows.laid_parley_api_ErrFrame), ("parley/api.ErrHead", Rows.laid_parley_api_ErrHead), ("parley/api.ErrWindow", Rows.laid_parley_api_ErrWindow), ("parley/api.ErrRole", Rows.laid_parley_api_ErrRole), ("parley/api.ErrGone", Rows.laid_parley_api_ErrGone), ("parley/api.ErrMany", Rows.laid_parley_api_ErrMany), ("parley/api.ErrStream", Rows.laid_parley_api_ErrStream), ("parley/api.ErrToken", Rows.laid_parley_api_ErrToken), ("parley/api.ErrSyntax", Rows.laid_parley_api_ErrSyntax), ("parley/api.ErrNumber", Rows.laid_parley_api_ErrNumber), ("parley/api.ErrName", Rows.laid_parley_api_ErrName), ("parley/api.ErrTwice", Rows.laid_parley_api_ErrTwice), ("parley/api.ErrType", Rows.laid_parley_api_ErrType), ("parley/api.ErrCircle", Rows.laid_parley_api_ErrCircle), ("parley/api.ErrFile", Rows.laid_parley_api_ErrFile), ("parley/api.ErrValue", Rows.laid_parley_api_ErrValue), ("parley/api.ErrField", Rows.laid_parley_api_ErrField), ("parley/api.ErrJSON", Rows.laid_parley_api_ErrJSON), ("parley/api.ErrStatus", Rows.laid_parley_api_ErrStatus), ("parley/api.ErrScript", Rows.laid_parley_api_ErrScript), ("unicode/utf8.first", Rows.laid_unicode_utf8_first)] = true := by
  unfold Program.listedFits
  rw [noOwnUnsafe]
  kernel_rfl
theorem tie : Tryd.prog.laidByTextLater [("unicode/utf8.acceptRanges", Rows.laid_unicode_utf8_acceptRanges), ("parley/api.ErrEnd", Rows.laid_parley_api_ErrEnd), ("parley/api.ErrLong", Rows.laid_parley_api_ErrLong), ("parley/api.ErrTag", Rows.laid_parley_api_ErrTag), ("parley/api.ErrGroup", Rows.laid_parley_api_ErrGroup), ("parley/api.ErrDeep", Rows.laid_parley_api_ErrDeep), ("parley/api.ErrUTF8", Rows.laid_parley_api_ErrUTF8), ("parley/api.ErrHuff", Rows.laid_parley_api_ErrHuff), ("parley/api.ErrIndex", Rows.laid_parley_api_ErrIndex), ("parley/api.ErrTable", Rows.laid_parley_api_ErrTable), ("parley/api.ErrList", Rows.laid_parley_api_ErrList), ("parley/api.ErrFrame", Rows.laid_parley_api_ErrFrame), ("parley/api.ErrHead", Rows.laid_parley_api_ErrHead), ("parley/api.ErrWindow", Rows.laid_parley_api_ErrWindow), ("parley/api.ErrRole", Rows.laid_parley_api_ErrRole), ("parley/api.ErrGone", Rows.laid_parley_api_ErrGone), ("parley/api.ErrMany", Rows.laid_parley_api_ErrMany), ("parley/api.ErrStream", Rows.laid_parley_api_ErrStream), ("parley/api.ErrToken", Rows.laid_parley_api_ErrToken), ("parley/api.ErrSyntax", Rows.laid_parley_api_ErrSyntax), ("parley/api.ErrNumber", Rows.laid_parley_api_ErrNumber), ("parley/api.ErrName", Rows.laid_parley_api_ErrName), ("parley/api.ErrTwice", Rows.laid_parley_api_ErrTwice), ("parley/api.ErrType", Rows.laid_parley_api_ErrType), ("parley/api.ErrCircle", Rows.laid_parley_api_ErrCircle), ("parley/api.ErrFile", Rows.laid_parley_api_ErrFile), ("parley/api.ErrValue", Rows.laid_parley_api_ErrValue), ("parley/api.ErrField", Rows.laid_parley_api_ErrField), ("parley/api.ErrJSON", Rows.laid_parley_api_ErrJSON), ("parley/api.ErrStatus", Rows.laid_parley_api_ErrStatus), ("parley/api.ErrScript", Rows.laid_parley_api_ErrScript)] [.data, .sentinel, .sentinel, .sentinel, .sentinel, .sentinel, .sentinel, .sentinel, .sentinel, .sentinel, .sentinel, .sentinel, .sentinel, .sentinel, .sentinel, .sentinel, .sentinel, .sentinel, .sentinel, .sentinel, .sentinel, .sentinel, .sentinel, .sentinel, .sentinel, .sentinel, .sentinel, .sentinel, .sentinel, .sentinel, .sentinel] true :=
  Program.laidByTextLater.sub seatTie1 ["unicode/utf8.acceptRanges", "parley/api.ErrEnd", "parley/api.ErrLong", "parley/api.ErrTag", "parley/api.ErrGroup", "parley/api.ErrDeep", "parley/api.ErrUTF8", "parley/api.ErrHuff", "parley/api.ErrIndex", "parley/api.ErrTable", "parley/api.ErrList", "parley/api.ErrFrame", "parley/api.ErrHead", "parley/api.ErrWindow", "parley/api.ErrRole", "parley/api.ErrGone", "parley/api.ErrMany", "parley/api.ErrStream", "parley/api.ErrToken", "parley/api.ErrSyntax", "parley/api.ErrNumber", "parley/api.ErrName", "parley/api.ErrTwice", "parley/api.ErrType", "parley/api.ErrCircle", "parley/api.ErrFile", "parley/api.ErrValue", "parley/api.ErrField", "parley/api.ErrJSON", "parley/api.ErrStatus", "parley/api.ErrScript"] (by kernel_rfl) (by kernel_rfl)
theorem headOpens_row_tie : Rows.headOpensRow.laidByTextAt .later Tryd.pinned [.data, .sentinel, .sentinel, .sentinel, .sentinel, .sentinel, .sentinel, .sentinel, .sentinel, .sentinel, .sentinel, .sentinel, .sentinel, .sentinel, .sentinel, .sentinel, .sentinel, .sentinel, .sentinel, .sentinel, .sentinel, .sentinel, .sentinel, .sentinel, .sentinel, .sentinel, .sentinel, .sentinel, .sentinel, .sentinel, .sentinel, .pinned] true :=
  OpenClaim.laidByTextAt_pinned rfl rfl tie rfl rfl rfl rfl (fun y hy _e => by
    simp only [Rows.headOpensRow, List.zip_cons_cons, List.zip_nil_right, List.mem_cons, List.mem_nil_iff, or_false] at hy
    rcases hy with rfl | rfl | rfl | rfl | rfl | rfl | rfl | rfl | rfl | rfl | rfl | rfl | rfl | rfl | rfl | rfl | rfl | rfl | rfl | rfl | rfl | rfl | rfl | rfl | rfl | rfl | rfl | rfl | rfl | rfl | rfl | rfl
    · cases _e
    · cases _e
    · cases _e
    · cases _e
    · cases _e
    · cases _e
    · cases _e
    · cases _e
    · cases _e
    · cases _e
    · cases _e
    · cases _e
    · cases _e
    · cases _e
    · cases _e
    · cases _e
    · cases _e
    · cases _e
    · cases _e
    · cases _e
    · cases _e
    · cases _e
    · cases _e
    · cases _e
    · cases _e
    · cases _e
    · cases _e
    · cases _e
    · cases _e
    · cases _e
    · cases _e
    · exact ⟨pin_laid_unicode_utf8_first, by kernel_rfl⟩) fits1
theorem fits2 : Tryd.pinned.checked.prog.listedFits [("math/bits.deBruijn32tab", Rows.laid_math_bits_deBruijn32tab), ("math/bits.deBruijn64tab", Rows.laid_math_bits_deBruijn64tab), ("internal/strconv.uint64pow10", Rows.laid_internal_strconv_uint64pow10), ("unicode/utf8.acceptRanges", Rows.laid_unicode_utf8_acceptRanges), ("parley/api.ErrEnd", Rows.laid_parley_api_ErrEnd), ("parley/api.ErrLong", Rows.laid_parley_api_ErrLong), ("parley/api.ErrTag", Rows.laid_parley_api_ErrTag), ("parley/api.ErrGroup", Rows.laid_parley_api_ErrGroup), ("parley/api.ErrDeep", Rows.laid_parley_api_ErrDeep), ("parley/api.ErrUTF8", Rows.laid_parley_api_ErrUTF8), ("parley/api.ErrHuff", Rows.laid_parley_api_ErrHuff), ("parley/api.ErrIndex", Rows.laid_parley_api_ErrIndex), ("parley/api.ErrTable", Rows.laid_parley_api_ErrTable), ("parley/api.ErrList", Rows.laid_parley_api_ErrList), ("parley/api.ErrFrame", Rows.laid_parley_api_ErrFrame), ("parley/api.ErrHead", Rows.laid_parley_api_ErrHead), ("parley/api.ErrWindow", Rows.laid_parley_api_ErrWindow), ("parley/api.ErrRole", Rows.laid_parley_api_ErrRole), ("parley/api.ErrGone", Rows.laid_parley_api_ErrGone), ("parley/api.ErrMany", Rows.laid_parley_api_ErrMany), ("parley/api.ErrStream", Rows.laid_parley_api_ErrStream), ("parley/api.ErrToken", Rows.laid_parley_api_ErrToken), ("parley/api.ErrSyntax", Rows.laid_parley_api_ErrSyntax), ("parley/api.ErrNumber", Rows.laid_parley_api_ErrNumber), ("parley/api.ErrName", Rows.laid_parley_api_ErrName), ("parley/api.ErrTwice", Rows.laid_parley_api_ErrTwice), ("parley/api.ErrType", Rows.laid_parley_api_ErrType), ("parley/api.ErrCircle", Rows.laid_parley_api_ErrCircle), ("parley/api.ErrFile", Rows.laid_parley_api_ErrFile), ("parley/api.ErrValue", Rows.laid_parley_api_ErrValue), ("parley/api.ErrField", Rows.laid_parley_api_ErrField), ("parley/api.ErrJSON", Rows.laid_parley_api_ErrJSON), ("parley/api.ErrStatus", Rows.laid_parley_api_ErrStatus), ("parley/api.ErrScript", Rows.laid_parley_api_ErrScript), ("unicode/utf8.first", Rows.laid_unicode_utf8_first)] = true := by
  unfold Program.listedFits
  rw [noOwnUnsafe]
  kernel_rfl
theorem tie2 : Tryd.prog.laidByTextLater [("math/bits.deBruijn32tab", Rows.laid_math_bits_deBruijn32tab), ("math/bits.deBruijn64tab", Rows.laid_math_bits_deBruijn64tab), ("internal/strconv.uint64pow10", Rows.laid_internal_strconv_uint64pow10), ("unicode/utf8.acceptRanges", Rows.laid_unicode_utf8_acceptRanges), ("parley/api.ErrEnd", Rows.laid_parley_api_ErrEnd), ("parley/api.ErrLong", Rows.laid_parley_api_ErrLong), ("parley/api.ErrTag", Rows.laid_parley_api_ErrTag), ("parley/api.ErrGroup", Rows.laid_parley_api_ErrGroup), ("parley/api.ErrDeep", Rows.laid_parley_api_ErrDeep), ("parley/api.ErrUTF8", Rows.laid_parley_api_ErrUTF8), ("parley/api.ErrHuff", Rows.laid_parley_api_ErrHuff), ("parley/api.ErrIndex", Rows.laid_parley_api_ErrIndex), ("parley/api.ErrTable", Rows.laid_parley_api_ErrTable), ("parley/api.ErrList", Rows.laid_parley_api_ErrList), ("parley/api.ErrFrame", Rows.laid_parley_api_ErrFrame), ("parley/api.ErrHead", Rows.laid_parley_api_ErrHead), ("parley/api.ErrWindow", Rows.laid_parley_api_ErrWindow), ("parley/api.ErrRole", Rows.laid_parley_api_ErrRole), ("parley/api.ErrGone", Rows.laid_parley_api_ErrGone), ("parley/api.ErrMany", Rows.laid_parley_api_ErrMany), ("parley/api.ErrStream", Rows.laid_parley_api_ErrStream), ("parley/api.ErrToken", Rows.laid_parley_api_ErrToken), ("parley/api.ErrSyntax", Rows.laid_parley_api_ErrSyntax), ("parley/api.ErrNumber", Rows.laid_parley_api_ErrNumber), ("parley/api.ErrName", Rows.laid_parley_api_ErrName), ("parley/api.ErrTwice", Rows.laid_parley_api_ErrTwice), ("parley/api.ErrType", Rows.laid_parley_api_ErrType), ("parley/api.ErrCircle", Rows.laid_parley_api_ErrCircle), ("parley/api.ErrFile", Rows.laid_parley_api_ErrFile), ("parley/api.ErrValue", Rows.laid_parley_api_ErrValue), ("parley/api.ErrField", Rows.laid_parley_api_ErrField), ("parley/api.ErrJSON", Rows.laid_parley_api_ErrJSON), ("parley/api.ErrStatus", Rows.laid_parley_api_ErrStatus), ("parley/api.ErrScript", Rows.laid_parley_api_ErrScript)] [.data, .data, .data, .data, .sentinel, .sentinel, .sentinel, .sentinel, .sentinel, .sentinel, .sentinel, .sentinel, .sentinel, .sentinel, .sentinel, .sentinel, .sentinel, .sentinel, .sentinel, .sentinel, .sentinel, .sentinel, .sentinel, .sentinel, .sentinel, .sentinel, .sentinel, .sentinel, .sentinel, .sentinel, .sentinel, .sentinel, .sentinel, .sentinel] true :=
  Program.laidByTextLater.sub seatTie2 ["math/bits.deBruijn32tab", "math/bits.deBruijn64tab", "internal/strconv.uint64pow10", "unicode/utf8.acceptRanges", "parley/api.ErrEnd", "parley/api.ErrLong", "parley/api.ErrTag", "parley/api.ErrGroup", "parley/api.ErrDeep", "parley/api.ErrUTF8", "parley/api.ErrHuff", "parley/api.ErrIndex", "parley/api.ErrTable", "parley/api.ErrList", "parley/api.ErrFrame", "parley/api.ErrHead", "parley/api.ErrWindow", "parley/api.ErrRole", "parley/api.ErrGone", "parley/api.ErrMany", "parley/api.ErrStream", "parley/api.ErrToken", "parley/api.ErrSyntax", "parley/api.ErrNumber", "parley/api.ErrName", "parley/api.ErrTwice", "parley/api.ErrType", "parley/api.ErrCircle", "parley/api.ErrFile", "parley/api.ErrValue", "parley/api.ErrField", "parley/api.ErrJSON", "parley/api.ErrStatus", "parley/api.ErrScript"] (by kernel_rfl) (by kernel_rfl)
theorem headBuilds_row_tie : Rows.headBuildsRow.laidByTextAt .later Tryd.pinned [.data, .data, .data, .data, .sentinel, .sentinel, .sentinel, .sentinel, .sentinel, .sentinel, .sentinel, .sentinel, .sentinel, .sentinel, .sentinel, .sentinel, .sentinel, .sentinel, .sentinel, .sentinel, .sentinel, .sentinel, .sentinel, .sentinel, .sentinel, .sentinel, .sentinel, .sentinel, .sentinel, .sentinel, .sentinel, .sentinel, .sentinel, .sentinel, .pinned] true :=
  OpenClaim.laidByTextAt_pinned rfl rfl tie2 rfl rfl rfl rfl (fun y hy _e => by
    simp only [Rows.headBuildsRow, List.zip_cons_cons, List.zip_nil_right, List.mem_cons, List.mem_nil_iff, or_false] at hy
    rcases hy with rfl | rfl | rfl | rfl | rfl | rfl | rfl | rfl | rfl | rfl | rfl | rfl | rfl | rfl | rfl | rfl | rfl | rfl | rfl | rfl | rfl | rfl | rfl | rfl | rfl | rfl | rfl | rfl | rfl | rfl | rfl | rfl | rfl | rfl | rfl
    · cases _e
    · cases _e
    · cases _e
    · cases _e
    · cases _e
    · cases _e
    · cases _e
    · cases _e
    · cases _e
    · cases _e
    · cases _e
    · cases _e
    · cases _e
    · cases _e
    · cases _e
    · cases _e
    · cases _e
    · cases _e
    · cases _e
    · cases _e
    · cases _e
    · cases _e
    · cases _e
    · cases _e
    · cases _e
    · cases _e
    · cases _e
    · cases _e
    · cases _e
    · cases _e
    · cases _e
    · cases _e
    · cases _e
    · cases _e
    · exact ⟨pin_laid_unicode_utf8_first, by kernel_rfl⟩) fits2
theorem fits3 : Tryd.pinned.checked.prog.listedFits [("math/bits.deBruijn32tab", Rows.laid_math_bits_deBruijn32tab), ("math/bits.deBruijn64tab", Rows.laid_math_bits_deBruijn64tab), ("internal/strconv.uint64pow10", Rows.laid_internal_strconv_uint64pow10), ("unicode/utf8.acceptRanges", Rows.laid_unicode_utf8_acceptRanges), ("parley/api.ErrHead", Rows.laid_parley_api_ErrHead), ("unicode/utf8.first", Rows.laid_unicode_utf8_first)] = true := by
  unfold Program.listedFits
  rw [noOwnUnsafe]
  kernel_rfl
theorem tie3 : Tryd.prog.laidByTextLater [("math/bits.deBruijn32tab", Rows.laid_math_bits_deBruijn32tab), ("math/bits.deBruijn64tab", Rows.laid_math_bits_deBruijn64tab), ("internal/strconv.uint64pow10", Rows.laid_internal_strconv_uint64pow10), ("unicode/utf8.acceptRanges", Rows.laid_unicode_utf8_acceptRanges), ("parley/api.ErrHead", Rows.laid_parley_api_ErrHead)] [.data, .data, .data, .data, .sentinel] true :=
  Program.laidByTextLater.sub seatTie3 ["math/bits.deBruijn32tab", "math/bits.deBruijn64tab", "internal/strconv.uint64pow10", "unicode/utf8.acceptRanges", "parley/api.ErrHead"] (by kernel_rfl) (by kernel_rfl)
theorem headBack_row_tie : Rows.headBackRow.laidByTextAt .later Tryd.pinned [.data, .data, .data, .data, .sentinel, .pinned] true :=
  OpenClaim.laidByTextAt_pinned rfl rfl tie3 rfl rfl rfl rfl (fun y hy _e => by
    simp only [Rows.headBackRow, List.zip_cons_cons, List.zip_nil_right, List.mem_cons, List.mem_nil_iff, or_false] at hy
    rcases hy with rfl | rfl | rfl | rfl | rfl | rfl
    · cases _e
    · cases _e
    · cases _e
    · cases _e
    · cases _e
    · exact ⟨pin_laid_unicode_utf8_first, by kernel_rfl⟩) fits3
theorem fits4 : Tryd.pinned.checked.prog.listedFits [("unicode/utf8.acceptRanges", Rows.laid_unicode_utf8_acceptRanges), ("parley/api.ErrHead", Rows.laid_parley_api_ErrHead), ("unicode/utf8.first", Rows.laid_unicode_utf8_first)] = true := by
  unfold Program.listedFits
  rw [noOwnUnsafe]
  kernel_rfl
theorem tie4 : Tryd.prog.laidByTextLater [("unicode/utf8.acceptRanges", Rows.laid_unicode_utf8_acceptRanges), ("parley/api.ErrHead", Rows.laid_parley_api_ErrHead)] [.data, .sentinel] true :=
  Program.laidByTextLater.sub seatTie1 ["unicode/utf8.acceptRanges", "parley/api.ErrHead"] (by kernel_rfl) (by kernel_rfl)
theorem headLess_row_tie : Rows.headLessRow.laidByTextAt .later Tryd.pinned [.data, .sentinel, .pinned] true :=
  OpenClaim.laidByTextAt_pinned rfl rfl tie4 rfl rfl rfl rfl (fun y hy _e => by
    simp only [Rows.headLessRow, List.zip_cons_cons, List.zip_nil_right, List.mem_cons, List.mem_nil_iff, or_false] at hy
    rcases hy with rfl | rfl | rfl
    · cases _e
    · cases _e
    · exact ⟨pin_laid_unicode_utf8_first, by kernel_rfl⟩) fits4
theorem headMore_row_tie : Rows.headMoreRow.laidByTextAt .later Tryd.pinned [.data, .sentinel, .pinned] true :=
  OpenClaim.laidByTextAt_pinned rfl rfl tie4 rfl rfl rfl rfl (fun y hy _e => by
    simp only [Rows.headMoreRow, List.zip_cons_cons, List.zip_nil_right, List.mem_cons, List.mem_nil_iff, or_false] at hy
    rcases hy with rfl | rfl | rfl
    · cases _e
    · cases _e
    · exact ⟨pin_laid_unicode_utf8_first, by kernel_rfl⟩) fits4
theorem headOpensUpto_row_tie : Rows.headOpensUptoRow.laidByTextAt .later Tryd.pinned [.data, .sentinel, .sentinel, .sentinel, .sentinel, .sentinel, .sentinel, .sentinel, .sentinel, .sentinel, .sentinel, .sentinel, .sentinel, .sentinel, .sentinel, .sentinel, .sentinel, .sentinel, .sentinel, .sentinel, .sentinel, .sentinel, .sentinel, .sentinel, .sentinel, .sentinel, .sentinel, .sentinel, .sentinel, .sentinel, .sentinel, .pinned] true :=
  OpenClaim.laidByTextAt_pinned rfl rfl tie rfl rfl rfl rfl (fun y hy _e => by
    simp only [Rows.headOpensUptoRow, List.zip_cons_cons, List.zip_nil_right, List.mem_cons, List.mem_nil_iff, or_false] at hy
    rcases hy with rfl | rfl | rfl | rfl | rfl | rfl | rfl | rfl | rfl | rfl | rfl | rfl | rfl | rfl | rfl | rfl | rfl | rfl | rfl | rfl | rfl | rfl | rfl | rfl | rfl | rfl | rfl | rfl | rfl | rfl | rfl | rfl
    · cases _e
    · cases _e
    · cases _e
    · cases _e
    · cases _e
    · cases _e
    · cases _e
    · cases _e
    · cases _e
    · cases _e
    · cases _e
    · cases _e
    · cases _e
    · cases _e
    · cases _e
    · cases _e
    · cases _e
    · cases _e
    · cases _e
    · cases _e
    · cases _e
    · cases _e
    · cases _e
    · cases _e
    · cases _e
    · cases _e
    · cases _e
    · cases _e
    · cases _e
    · cases _e
    · cases _e
    · exact ⟨pin_laid_unicode_utf8_first, by kernel_rfl⟩) fits1
theorem headBuildsUpto_row_tie : Rows.headBuildsUptoRow.laidByTextAt .later Tryd.pinned [.data, .data, .data, .data, .sentinel, .sentinel, .sentinel, .sentinel, .sentinel, .sentinel, .sentinel, .sentinel, .sentinel, .sentinel, .sentinel, .sentinel, .sentinel, .sentinel, .sentinel, .sentinel, .sentinel, .sentinel, .sentinel, .sentinel, .sentinel, .sentinel, .sentinel, .sentinel, .sentinel, .sentinel, .sentinel, .sentinel, .sentinel, .sentinel, .pinned] true :=
  OpenClaim.laidByTextAt_pinned rfl rfl tie2 rfl rfl rfl rfl (fun y hy _e => by
    simp only [Rows.headBuildsUptoRow, List.zip_cons_cons, List.zip_nil_right, List.mem_cons, List.mem_nil_iff, or_false] at hy
    rcases hy with rfl | rfl | rfl | rfl | rfl | rfl | rfl | rfl | rfl | rfl | rfl | rfl | rfl | rfl | rfl | rfl | rfl | rfl | rfl | rfl | rfl | rfl | rfl | rfl | rfl | rfl | rfl | rfl | rfl | rfl | rfl | rfl | rfl | rfl | rfl
    · cases _e
    · cases _e
    · cases _e
    · cases _e
    · cases _e
    · cases _e
    · cases _e
    · cases _e
    · cases _e
    · cases _e
    · cases _e
    · cases _e
    · cases _e
    · cases _e
    · cases _e
    · cases _e
    · cases _e
    · cases _e
    · cases _e
    · cases _e
    · cases _e
    · cases _e
    · cases _e
    · cases _e
    · cases _e
    · cases _e
    · cases _e
    · cases _e
    · cases _e
    · cases _e
    · cases _e
    · cases _e
    · cases _e
    · cases _e
    · exact ⟨pin_laid_unicode_utf8_first, by kernel_rfl⟩) fits2
theorem headBackUpto_row_tie : Rows.headBackUptoRow.laidByTextAt .later Tryd.pinned [.data, .data, .data, .data, .sentinel, .pinned] true :=
  OpenClaim.laidByTextAt_pinned rfl rfl tie3 rfl rfl rfl rfl (fun y hy _e => by
    simp only [Rows.headBackUptoRow, List.zip_cons_cons, List.zip_nil_right, List.mem_cons, List.mem_nil_iff, or_false] at hy
    rcases hy with rfl | rfl | rfl | rfl | rfl | rfl
    · cases _e
    · cases _e
    · cases _e
    · cases _e
    · cases _e
    · exact ⟨pin_laid_unicode_utf8_first, by kernel_rfl⟩) fits3
theorem headLessUpto_row_tie : Rows.headLessUptoRow.laidByTextAt .later Tryd.pinned [.data, .sentinel, .pinned] true :=
  OpenClaim.laidByTextAt_pinned rfl rfl tie4 rfl rfl rfl rfl (fun y hy _e => by
    simp only [Rows.headLessUptoRow, List.zip_cons_cons, List.zip_nil_right, List.mem_cons, List.mem_nil_iff, or_false] at hy
    rcases hy with rfl | rfl | rfl
    · cases _e
    · cases _e
    · exact ⟨pin_laid_unicode_utf8_first, by kernel_rfl⟩) fits4
theorem headMoreUpto_row_tie : Rows.headMoreUptoRow.laidByTextAt .later Tryd.pinned [.data, .sentinel, .pinned] true :=
  OpenClaim.laidByTextAt_pinned rfl rfl tie4 rfl rfl rfl rfl (fun y hy _e => by
    simp only [Rows.headMoreUptoRow, List.zip_cons_cons, List.zip_nil_right, List.mem_cons, List.mem_nil_iff, or_false] at hy
    rcases hy with rfl | rfl | rfl
    · cases _e
    · cases _e
    · exact ⟨pin_laid_unicode_utf8_first, by kernel_rfl⟩) fits4
end Go.Proofs.YtihlcecincijgaaDoor
