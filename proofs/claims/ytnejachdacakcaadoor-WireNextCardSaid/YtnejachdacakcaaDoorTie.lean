/-
  DERIVED. GIVEN WITH THE SEED: THE PROGRAM's TIES (one call each: nine closed facts by the kernel) AND EACH ROW's TIE, after the 31st guide's Derived/Test/Toyas{Tie, Card}.lean. No idea stands in it: it is a product of the set-up. Laid BY PROGRAM, IN A SANDBOX (cutbox-door.mjs). By AI agents, Wed Nov 11 2026. No macro, syntax, notation, axiom, sorry.
-/
import Derived.Test.YtnejachdacakcaaDoorRows
import Derived.LaidByTextLater
import Derived.SevenTiedAt
import Derived.LaidSub
import Derived.LaidOnce
namespace Go.Proofs.YtnejachdacakcaaDoor
open Go
set_option maxRecDepth 100000
theorem seatTie1 : Tryd.prog.laidByTextLater [("unicode/utf8.acceptRanges", Rows.laid_unicode_utf8_acceptRanges), ("parley/api.ErrEnd", Rows.laid_parley_api_ErrEnd), ("parley/api.ErrLong", Rows.laid_parley_api_ErrLong), ("parley/api.ErrTag", Rows.laid_parley_api_ErrTag), ("parley/api.ErrGroup", Rows.laid_parley_api_ErrGroup), ("parley/api.ErrDeep", Rows.laid_parley_api_ErrDeep), ("parley/api.ErrUTF8", Rows.laid_parley_api_ErrUTF8), ("parley/api.ErrHuff", Rows.laid_parley_api_ErrHuff), ("parley/api.ErrIndex", Rows.laid_parley_api_ErrIndex), ("parley/api.ErrTable", Rows.laid_parley_api_ErrTable), ("parley/api.ErrList", Rows.laid_parley_api_ErrList), ("parley/api.ErrFrame", Rows.laid_parley_api_ErrFrame), ("parley/api.ErrHead", Rows.laid_parley_api_ErrHead), ("parley/api.ErrWindow", Rows.laid_parley_api_ErrWindow), ("parley/api.ErrRole", Rows.laid_parley_api_ErrRole), ("parley/api.ErrGone", Rows.laid_parley_api_ErrGone), ("parley/api.ErrMany", Rows.laid_parley_api_ErrMany), ("parley/api.ErrStream", Rows.laid_parley_api_ErrStream), ("parley/api.ErrToken", Rows.laid_parley_api_ErrToken), ("parley/api.ErrSyntax", Rows.laid_parley_api_ErrSyntax), ("parley/api.ErrNumber", Rows.laid_parley_api_ErrNumber), ("parley/api.ErrName", Rows.laid_parley_api_ErrName), ("parley/api.ErrTwice", Rows.laid_parley_api_ErrTwice), ("parley/api.ErrType", Rows.laid_parley_api_ErrType), ("parley/api.ErrCircle", Rows.laid_parley_api_ErrCircle), ("parley/api.ErrFile", Rows.laid_parley_api_ErrFile), ("parley/api.ErrValue", Rows.laid_parley_api_ErrValue), ("parley/api.ErrField", Rows.laid_parley_api_ErrField), ("parley/api.ErrJSON", Rows.laid_parley_api_ErrJSON), ("parley/api.ErrStatus", Rows.laid_parley_api_ErrStatus), ("parley/api.ErrScript", Rows.laid_parley_api_ErrScript)] [.data, .sentinel, .sentinel, .sentinel, .sentinel, .sentinel, .sentinel, .sentinel, .sentinel, .sentinel, .sentinel, .sentinel, .sentinel, .sentinel, .sentinel, .sentinel, .sentinel, .sentinel, .sentinel, .sentinel, .sentinel, .sentinel, .sentinel, .sentinel, .sentinel, .sentinel, .sentinel, .sentinel, .sentinel, .sentinel, .sentinel] true :=
  Program.laidByTextLater_by_one 589 8 33 (by kernel_rfl) (by kernel_rfl) (by kernel_rfl) (by kernel_rfl) (by kernel_rfl) (by kernel_rfl) (fun _ _ => by kernel_rfl)
theorem pin_laid_unicode_utf8_first : Tryd.pinned.checked.prog.pinnedFits "unicode/utf8.first" = true := by kernel_rfl
theorem noOwnUnsafe : Tryd.pinned.checked.prog.headLifts.contains "ownunsafe" = false := by kernel_rfl
theorem fits1 : Tryd.pinned.checked.prog.listedFits [("unicode/utf8.acceptRanges", Rows.laid_unicode_utf8_acceptRanges), ("parley/api.ErrEnd", Rows.laid_parley_api_ErrEnd), ("parley/api.ErrLong", Rows.laid_parley_api_ErrLong), ("parley/api.ErrTag", Rows.laid_parley_api_ErrTag), ("parley/api.ErrGroup", Rows.laid_parley_api_ErrGroup), ("parley/api.ErrDeep", Rows.laid_parley_api_ErrDeep), ("parley/api.ErrUTF8", Rows.laid_parley_api_ErrUTF8), ("parley/api.ErrHuff", Rows.laid_parley_api_ErrHuff), ("parley/api.ErrIndex", Rows.laid_parley_api_ErrIndex), ("parley/api.ErrTable", Rows.laid_parley_api_ErrTable), ("parley/api.ErrList", Rows.laid_parley_api_ErrList), ("parley/api.ErrFrame", Rows.laid_parley_api_ErrFrame), ("parley/api.ErrHead", Rows.laid_parley_api_ErrHead), ("parley/api.ErrWindow", Rows.laid_parley_api_ErrWindow), ("parley/api.ErrRole", Rows.laid_parley_api_ErrRole), ("parley/api.ErrGone", Rows.laid_parley_api_ErrGone), ("parley/api.ErrMany", Rows.laid_parley_api_ErrMany), ("parley/api.ErrStream", Rows.laid_parley_api_ErrStream), ("parley/api.ErrToken", Rows.laid_parley_api_ErrToken), ("parley/api.ErrSyntax", Rows.laid_parley_api_ErrSyntax), ("parley/api.ErrNumber", Rows.laid_parley_api_ErrNumber), ("parley/api.ErrName", Rows.laid_parley_api_ErrName), ("parley/api.ErrTwice", Rows.laid_parley_api_ErrTwice), ("parley/api.ErrType", Rows.laid_parley_api_ErrType), ("parley/api.ErrCircle", Rows.laid_parley_api_ErrCircle), ("parley/api.ErrFile", Rows.laid_parley_api_ErrFile), ("parley/api.ErrValue", Rows.laid_parley_api_ErrValue), ("parley/api.ErrField", Rows.laid_parley_api_ErrField), ("parley/api.ErrJSON", Rows.laid_parley_api_ErrJSON), ("parley/api.ErrStatus", Rows.laid_parley_api_ErrStatus), ("parley/api.ErrScript", Rows.laid_parley_api_ErrScript), ("unicode/utf8.first", Rows.laid_unicode_utf8_first)] = true := by
  unfold Program.listedFits
  rw [noOwnUnsafe]
  kernel_rfl
theorem tie : Tryd.prog.laidByTextLater [("unicode/utf8.acceptRanges", Rows.laid_unicode_utf8_acceptRanges), ("parley/api.ErrEnd", Rows.laid_parley_api_ErrEnd), ("parley/api.ErrLong", Rows.laid_parley_api_ErrLong), ("parley/api.ErrTag", Rows.laid_parley_api_ErrTag), ("parley/api.ErrGroup", Rows.laid_parley_api_ErrGroup), ("parley/api.ErrDeep", Rows.laid_parley_api_ErrDeep), ("parley/api.ErrUTF8", Rows.laid_parley_api_ErrUTF8), ("parley/api.ErrHuff", Rows.laid_parley_api_ErrHuff), ("parley/api.ErrIndex", Rows.laid_parley_api_ErrIndex), ("parley/api.ErrTable", Rows.laid_parley_api_ErrTable), ("parley/api.ErrList", Rows.laid_parley_api_ErrList), ("parley/api.ErrFrame", Rows.laid_parley_api_ErrFrame), ("parley/api.ErrHead", Rows.laid_parley_api_ErrHead), ("parley/api.ErrWindow", Rows.laid_parley_api_ErrWindow), ("parley/api.ErrRole", Rows.laid_parley_api_ErrRole), ("parley/api.ErrGone", Rows.laid_parley_api_ErrGone), ("parley/api.ErrMany", Rows.laid_parley_api_ErrMany), ("parley/api.ErrStream", Rows.laid_parley_api_ErrStream), ("parley/api.ErrToken", Rows.laid_parley_api_ErrToken), ("parley/api.ErrSyntax", Rows.laid_parley_api_ErrSyntax), ("parley/api.ErrNumber", Rows.laid_parley_api_ErrNumber), ("parley/api.ErrName", Rows.laid_parley_api_ErrName), ("parley/api.ErrTwice", Rows.laid_parley_api_ErrTwice), ("parley/api.ErrType", Rows.laid_parley_api_ErrType), ("parley/api.ErrCircle", Rows.laid_parley_api_ErrCircle), ("parley/api.ErrFile", Rows.laid_parley_api_ErrFile), ("parley/api.ErrValue", Rows.laid_parley_api_ErrValue), ("parley/api.ErrField", Rows.laid_parley_api_ErrField), ("parley/api.ErrJSON", Rows.laid_parley_api_ErrJSON), ("parley/api.ErrStatus", Rows.laid_parley_api_ErrStatus), ("parley/api.ErrScript", Rows.laid_parley_api_ErrScript)] [.data, .sentinel, .sentinel, .sentinel, .sentinel, .sentinel, .sentinel, .sentinel, .sentinel, .sentinel, .sentinel, .sentinel, .sentinel, .sentinel, .sentinel, .sentinel, .sentinel, .sentinel, .sentinel, .sentinel, .sentinel, .sentinel, .sentinel, .sentinel, .sentinel, .sentinel, .sentinel, .sentinel, .sentinel, .sentinel, .sentinel] true :=
  Program.laidByTextLater.sub seatTie1 ["unicode/utf8.acceptRanges", "parley/api.ErrEnd", "parley/api.ErrLong", "parley/api.ErrTag", "parley/api.ErrGroup", "parley/api.ErrDeep", "parley/api.ErrUTF8", "parley/api.ErrHuff", "parley/api.ErrIndex", "parley/api.ErrTable", "parley/api.ErrList", "parley/api.ErrFrame", "parley/api.ErrHead", "parley/api.ErrWindow", "parley/api.ErrRole", "parley/api.ErrGone", "parley/api.ErrMany", "parley/api.ErrStream", "parley/api.ErrToken", "parley/api.ErrSyntax", "parley/api.ErrNumber", "parley/api.ErrName", "parley/api.ErrTwice", "parley/api.ErrType", "parley/api.ErrCircle", "parley/api.ErrFile", "parley/api.ErrValue", "parley/api.ErrField", "parley/api.ErrJSON", "parley/api.ErrStatus", "parley/api.ErrScript"] (by kernel_rfl) (by kernel_rfl)
theorem wireNext_row_tie : Rows.wireNextRow.laidByTextAt .later Tryd.pinned [.data, .sentinel, .sentinel, .sentinel, .sentinel, .sentinel, .sentinel, .sentinel, .sentinel, .sentinel, .sentinel, .sentinel, .sentinel, .sentinel, .sentinel, .sentinel, .sentinel, .sentinel, .sentinel, .sentinel, .sentinel, .sentinel, .sentinel, .sentinel, .sentinel, .sentinel, .sentinel, .sentinel, .sentinel, .sentinel, .sentinel, .pinned] true :=
  OpenClaim.laidByTextAt_pinned rfl rfl tie rfl rfl rfl rfl (fun y hy _e => by
    simp only [Rows.wireNextRow, List.zip_cons_cons, List.zip_nil_right, List.mem_cons, List.mem_nil_iff, or_false] at hy
    rcases hy with rfl | rfl | rfl | rfl | rfl | rfl | rfl | rfl | rfl | rfl | rfl | rfl | rfl | rfl | rfl | rfl | rfl | rfl | rfl | rfl | rfl | rfl | rfl | rfl | rfl | rfl | rfl | rfl | rfl | rfl | rfl | rfl
    · cases _e
    · cases _e
    · cases _e
    · cases _e
    · cases _e
    · cases _e
    · cases _e
    · cases _e
    · cases _e
    · cases _e
    · cases _e
    · cases _e
    · cases _e
    · cases _e
    · cases _e
    · cases _e
    · cases _e
    · cases _e
    · cases _e
    · cases _e
    · cases _e
    · cases _e
    · cases _e
    · cases _e
    · cases _e
    · cases _e
    · cases _e
    · cases _e
    · cases _e
    · cases _e
    · cases _e
    · exact ⟨pin_laid_unicode_utf8_first, by kernel_rfl⟩) fits1
theorem tie2 : Tryd.prog.laidByTextLater [("parley/api.ErrEnd", Rows.laid_parley_api_ErrEnd), ("parley/api.ErrLong", Rows.laid_parley_api_ErrLong), ("parley/api.ErrTag", Rows.laid_parley_api_ErrTag), ("parley/api.ErrGroup", Rows.laid_parley_api_ErrGroup), ("parley/api.ErrDeep", Rows.laid_parley_api_ErrDeep), ("parley/api.ErrUTF8", Rows.laid_parley_api_ErrUTF8), ("parley/api.ErrHuff", Rows.laid_parley_api_ErrHuff), ("parley/api.ErrIndex", Rows.laid_parley_api_ErrIndex), ("parley/api.ErrTable", Rows.laid_parley_api_ErrTable), ("parley/api.ErrList", Rows.laid_parley_api_ErrList), ("parley/api.ErrFrame", Rows.laid_parley_api_ErrFrame), ("parley/api.ErrHead", Rows.laid_parley_api_ErrHead), ("parley/api.ErrWindow", Rows.laid_parley_api_ErrWindow), ("parley/api.ErrRole", Rows.laid_parley_api_ErrRole), ("parley/api.ErrGone", Rows.laid_parley_api_ErrGone), ("parley/api.ErrMany", Rows.laid_parley_api_ErrMany), ("parley/api.ErrStream", Rows.laid_parley_api_ErrStream), ("parley/api.ErrToken", Rows.laid_parley_api_ErrToken), ("parley/api.ErrSyntax", Rows.laid_parley_api_ErrSyntax), ("parley/api.ErrNumber", Rows.laid_parley_api_ErrNumber), ("parley/api.ErrName", Rows.laid_parley_api_ErrName), ("parley/api.ErrTwice", Rows.laid_parley_api_ErrTwice), ("parley/api.ErrType", Rows.laid_parley_api_ErrType), ("parley/api.ErrCircle", Rows.laid_parley_api_ErrCircle), ("parley/api.ErrFile", Rows.laid_parley_api_ErrFile), ("parley/api.ErrValue", Rows.laid_parley_api_ErrValue), ("parley/api.ErrField", Rows.laid_parley_api_ErrField), ("parley/api.ErrJSON", Rows.laid_parley_api_ErrJSON), ("parley/api.ErrStatus", Rows.laid_parley_api_ErrStatus), ("parley/api.ErrScript", Rows.laid_parley_api_ErrScript)] [.sentinel, .sentinel, .sentinel, .sentinel, .sentinel, .sentinel, .sentinel, .sentinel, .sentinel, .sentinel, .sentinel, .sentinel, .sentinel, .sentinel, .sentinel, .sentinel, .sentinel, .sentinel, .sentinel, .sentinel, .sentinel, .sentinel, .sentinel, .sentinel, .sentinel, .sentinel, .sentinel, .sentinel, .sentinel, .sentinel] true :=
  Program.laidByTextLater.sub seatTie1 ["parley/api.ErrEnd", "parley/api.ErrLong", "parley/api.ErrTag", "parley/api.ErrGroup", "parley/api.ErrDeep", "parley/api.ErrUTF8", "parley/api.ErrHuff", "parley/api.ErrIndex", "parley/api.ErrTable", "parley/api.ErrList", "parley/api.ErrFrame", "parley/api.ErrHead", "parley/api.ErrWindow", "parley/api.ErrRole", "parley/api.ErrGone", "parley/api.ErrMany", "parley/api.ErrStream", "parley/api.ErrToken", "parley/api.ErrSyntax", "parley/api.ErrNumber", "parley/api.ErrName", "parley/api.ErrTwice", "parley/api.ErrType", "parley/api.ErrCircle", "parley/api.ErrFile", "parley/api.ErrValue", "parley/api.ErrField", "parley/api.ErrJSON", "parley/api.ErrStatus", "parley/api.ErrScript"] (by kernel_rfl) (by kernel_rfl)
theorem wirePut_row_tie : Rows.wirePutRow.laidByTextAt .later Tryd.pinned [.sentinel, .sentinel, .sentinel, .sentinel, .sentinel, .sentinel, .sentinel, .sentinel, .sentinel, .sentinel, .sentinel, .sentinel, .sentinel, .sentinel, .sentinel, .sentinel, .sentinel, .sentinel, .sentinel, .sentinel, .sentinel, .sentinel, .sentinel, .sentinel, .sentinel, .sentinel, .sentinel, .sentinel, .sentinel, .sentinel] true :=
  OpenClaim.laidByTextAt_later rfl rfl tie2 noOwnUnsafe
theorem tie3 : Tryd.prog.laidByTextLater [("parley/api.ErrEnd", Rows.laid_parley_api_ErrEnd), ("parley/api.ErrLong", Rows.laid_parley_api_ErrLong), ("parley/api.ErrTag", Rows.laid_parley_api_ErrTag), ("parley/api.ErrGroup", Rows.laid_parley_api_ErrGroup), ("parley/api.ErrDeep", Rows.laid_parley_api_ErrDeep), ("parley/api.ErrNumber", Rows.laid_parley_api_ErrNumber)] [.sentinel, .sentinel, .sentinel, .sentinel, .sentinel, .sentinel] true :=
  Program.laidByTextLater.sub seatTie1 ["parley/api.ErrEnd", "parley/api.ErrLong", "parley/api.ErrTag", "parley/api.ErrGroup", "parley/api.ErrDeep", "parley/api.ErrNumber"] (by kernel_rfl) (by kernel_rfl)
theorem wireRecords_row_tie : Rows.wireRecordsRow.laidByTextAt .later Tryd.pinned [.sentinel, .sentinel, .sentinel, .sentinel, .sentinel, .sentinel] true :=
  OpenClaim.laidByTextAt_later rfl rfl tie3 noOwnUnsafe
theorem wireOwn_row_tie : Rows.wireOwnRow.laidByTextAt .later Tryd.pinned [.sentinel, .sentinel, .sentinel, .sentinel, .sentinel, .sentinel] true :=
  OpenClaim.laidByTextAt_later rfl rfl tie3 noOwnUnsafe
theorem fits4 : Tryd.pinned.checked.prog.listedFits [("unicode/utf8.acceptRanges", Rows.laid_unicode_utf8_acceptRanges), ("parley/api.ErrEnd", Rows.laid_parley_api_ErrEnd), ("parley/api.ErrLong", Rows.laid_parley_api_ErrLong), ("parley/api.ErrTag", Rows.laid_parley_api_ErrTag), ("parley/api.ErrGroup", Rows.laid_parley_api_ErrGroup), ("parley/api.ErrDeep", Rows.laid_parley_api_ErrDeep), ("parley/api.ErrNumber", Rows.laid_parley_api_ErrNumber), ("unicode/utf8.first", Rows.laid_unicode_utf8_first)] = true := by
  unfold Program.listedFits
  rw [noOwnUnsafe]
  kernel_rfl
theorem tie4 : Tryd.prog.laidByTextLater [("unicode/utf8.acceptRanges", Rows.laid_unicode_utf8_acceptRanges), ("parley/api.ErrEnd", Rows.laid_parley_api_ErrEnd), ("parley/api.ErrLong", Rows.laid_parley_api_ErrLong), ("parley/api.ErrTag", Rows.laid_parley_api_ErrTag), ("parley/api.ErrGroup", Rows.laid_parley_api_ErrGroup), ("parley/api.ErrDeep", Rows.laid_parley_api_ErrDeep), ("parley/api.ErrNumber", Rows.laid_parley_api_ErrNumber)] [.data, .sentinel, .sentinel, .sentinel, .sentinel, .sentinel, .sentinel] true :=
  Program.laidByTextLater.sub seatTie1 ["unicode/utf8.acceptRanges", "parley/api.ErrEnd", "parley/api.ErrLong", "parley/api.ErrTag", "parley/api.ErrGroup", "parley/api.ErrDeep", "parley/api.ErrNumber"] (by kernel_rfl) (by kernel_rfl)
theorem wireTexts_row_tie : Rows.wireTextsRow.laidByTextAt .later Tryd.pinned [.data, .sentinel, .sentinel, .sentinel, .sentinel, .sentinel, .sentinel, .pinned] true :=
  OpenClaim.laidByTextAt_pinned rfl rfl tie4 rfl rfl rfl rfl (fun y hy _e => by
    simp only [Rows.wireTextsRow, List.zip_cons_cons, List.zip_nil_right, List.mem_cons, List.mem_nil_iff, or_false] at hy
    rcases hy with rfl | rfl | rfl | rfl | rfl | rfl | rfl | rfl
    · cases _e
    · cases _e
    · cases _e
    · cases _e
    · cases _e
    · cases _e
    · cases _e
    · exact ⟨pin_laid_unicode_utf8_first, by kernel_rfl⟩) fits4
theorem wireNextUpto_row_tie : Rows.wireNextUptoRow.laidByTextAt .later Tryd.pinned [.data, .sentinel, .sentinel, .sentinel, .sentinel, .sentinel, .sentinel, .sentinel, .sentinel, .sentinel, .sentinel, .sentinel, .sentinel, .sentinel, .sentinel, .sentinel, .sentinel, .sentinel, .sentinel, .sentinel, .sentinel, .sentinel, .sentinel, .sentinel, .sentinel, .sentinel, .sentinel, .sentinel, .sentinel, .sentinel, .sentinel, .pinned] true :=
  OpenClaim.laidByTextAt_pinned rfl rfl tie rfl rfl rfl rfl (fun y hy _e => by
    simp only [Rows.wireNextUptoRow, List.zip_cons_cons, List.zip_nil_right, List.mem_cons, List.mem_nil_iff, or_false] at hy
    rcases hy with rfl | rfl | rfl | rfl | rfl | rfl | rfl | rfl | rfl | rfl | rfl | rfl | rfl | rfl | rfl | rfl | rfl | rfl | rfl | rfl | rfl | rfl | rfl | rfl | rfl | rfl | rfl | rfl | rfl | rfl | rfl | rfl
    · cases _e
    · cases _e
    · cases _e
    · cases _e
    · cases _e
    · cases _e
    · cases _e
    · cases _e
    · cases _e
    · cases _e
    · cases _e
    · cases _e
    · cases _e
    · cases _e
    · cases _e
    · cases _e
    · cases _e
    · cases _e
    · cases _e
    · cases _e
    · cases _e
    · cases _e
    · cases _e
    · cases _e
    · cases _e
    · cases _e
    · cases _e
    · cases _e
    · cases _e
    · cases _e
    · cases _e
    · exact ⟨pin_laid_unicode_utf8_first, by kernel_rfl⟩) fits1
theorem wirePutUpto_row_tie : Rows.wirePutUptoRow.laidByTextAt .later Tryd.pinned [.sentinel, .sentinel, .sentinel, .sentinel, .sentinel, .sentinel, .sentinel, .sentinel, .sentinel, .sentinel, .sentinel, .sentinel, .sentinel, .sentinel, .sentinel, .sentinel, .sentinel, .sentinel, .sentinel, .sentinel, .sentinel, .sentinel, .sentinel, .sentinel, .sentinel, .sentinel, .sentinel, .sentinel, .sentinel, .sentinel] true :=
  OpenClaim.laidByTextAt_later rfl rfl tie2 noOwnUnsafe
theorem wireRecordsUpto_row_tie : Rows.wireRecordsUptoRow.laidByTextAt .later Tryd.pinned [.sentinel, .sentinel, .sentinel, .sentinel, .sentinel, .sentinel] true :=
  OpenClaim.laidByTextAt_later rfl rfl tie3 noOwnUnsafe
theorem wireTextsUpto_row_tie : Rows.wireTextsUptoRow.laidByTextAt .later Tryd.pinned [.data, .sentinel, .sentinel, .sentinel, .sentinel, .sentinel, .sentinel, .pinned] true :=
  OpenClaim.laidByTextAt_pinned rfl rfl tie4 rfl rfl rfl rfl (fun y hy _e => by
    simp only [Rows.wireTextsUptoRow, List.zip_cons_cons, List.zip_nil_right, List.mem_cons, List.mem_nil_iff, or_false] at hy
    rcases hy with rfl | rfl | rfl | rfl | rfl | rfl | rfl | rfl
    · cases _e
    · cases _e
    · cases _e
    · cases _e
    · cases _e
    · cases _e
    · cases _e
    · exact ⟨pin_laid_unicode_utf8_first, by kernel_rfl⟩) fits4
theorem wireOwnUpto_row_tie : Rows.wireOwnUptoRow.laidByTextAt .later Tryd.pinned [.sentinel, .sentinel, .sentinel, .sentinel, .sentinel, .sentinel] true :=
  OpenClaim.laidByTextAt_later rfl rfl tie3 noOwnUnsafe
end Go.Proofs.YtnejachdacakcaaDoor
