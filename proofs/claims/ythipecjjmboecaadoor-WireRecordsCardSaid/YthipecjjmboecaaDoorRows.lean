/-
  NARROWER THAN 'FOR EVERY INPUT', by the rows' own cells (each row's printed sentence says how): WireRecords: laid · WireOwn: laid · TablePlays: laid · TableStatic: laid · TableEach: laid · TableKeeps: laid · TableEmptied: laid.
  DERIVED. THE GIVEN ROWS OF THIS SEAT. 7 by the template 'for every input the law returns true; each argument reads behind the call as it read before'; 0 by the template 'total and deterministic' (their statements: YthipecjjmboecaaDoorTotals.lean).
  GIVEN WITH THE SEED: the statements are not yours to turn. If you find one false, say at which input.
  Laid BY PROGRAM, IN A SANDBOX (cutbox-rows.mjs): the forced cells as the released guide's own fill.sh prints them over the translation 14c73965a8e1d29e… (all of the seat's roots in one cut). By AI agents, Wed Nov 11 2026. No macro, syntax, notation, axiom, sorry.
-/
import Derived.Test.YthipecjjmboecaaDoorChecked
import GoSem.Claim
import GoSem.ClaimJoined
import GoSem.ClaimMapViews
import Derived.JoinedTies
import Derived.KernelRfl
namespace Go.Proofs.YthipecjjmboecaaDoor
/- THE CELL 'sum', in the pinned program and in every row, IS THE sha256 OF THE DUMP (.gsa) THAT YthipecjjmboecaaDoorProg.lean LOADS. Nothing in Lean hashes anything: it is a label: what it is worth is what the hold of that sum in a sandbox is worth. -/
noncomputable def Tryd.pinned : Pinned := { name := "ythipecjjmboecaadoor", sum := "14c73965a8e1d29e7a69f743e6d3f2eaee7efc1ade5223a4c7365515b8cf91ac", checked := Tryd.checked }
namespace Rows
def none {H : Type} : Left H := { results := [], args := [] }

/- WHAT THE LISTED PACKAGE-LEVEL VARIABLES READ AS WHEN THE CALL BEGINS. Each datum BY PROGRAM (the guide's laid-datum.mjs) off the statement by which the dump's own 'gosem.cut.vars' lays the variable. In a bare row this is a premise. The card (YthipecjjmboecaaDoorCards.lean) ties it to the program's text. -/
def laid_parley_api_ErrEnd {H : Type} : DataW H := .iface "*errors.errorString" (.ptr (.agg [.lit (.string [105, 116, 32, 101, 110, 100, 115, 32, 116, 111, 111, 32, 101, 97, 114, 108, 121])]))
def laid_parley_api_ErrLong {H : Type} : DataW H := .iface "*errors.errorString" (.ptr (.agg [.lit (.string [116, 111, 111, 32, 108, 111, 110, 103])]))
def laid_parley_api_ErrTag {H : Type} : DataW H := .iface "*errors.errorString" (.ptr (.agg [.lit (.string [110, 111, 32, 116, 97, 103])]))
def laid_parley_api_ErrGroup {H : Type} : DataW H := .iface "*errors.errorString" (.ptr (.agg [.lit (.string [110, 111, 32, 115, 117, 99, 104, 32, 103, 114, 111, 117, 112])]))
def laid_parley_api_ErrDeep {H : Type} : DataW H := .iface "*errors.errorString" (.ptr (.agg [.lit (.string [116, 111, 111, 32, 100, 101, 101, 112])]))
def laid_parley_api_ErrNumber {H : Type} : DataW H := .iface "*errors.errorString" (.ptr (.agg [.lit (.string [110, 111, 32, 115, 117, 99, 104, 32, 110, 117, 109, 98, 101, 114])]))
def laid_parley_api_ErrTable {H : Type} : DataW H := .iface "*errors.errorString" (.ptr (.agg [.lit (.string [116, 104, 101, 32, 116, 97, 98, 108, 101, 32, 109, 97, 121, 32, 110, 111, 116, 32, 98, 101, 32, 115, 111, 32, 108, 97, 114, 103, 101])]))

/-- 'parleylaw1.WireRecords': WHATEVER THE INPUT: true; the input reads as it did. -/
def wireRecordsSpec : ChangeSpec := { name := "wireRecords", fn := fun _ => fun
  | [d1, d2] => { results := [.lit (.bool true)], args := [d1, d2] }
  | _ => none }
def wireRecordsRow : OpenClaim := { program := "ythipecjjmboecaadoor", sum := "14c73965a8e1d29e7a69f743e6d3f2eaee7efc1ade5223a4c7365515b8cf91ac", func := "parley/parleylaw1.WireRecords", spec := "wireRecords", unfollowed := true, recurses := true, named := ["parley/api.ErrLong", "parley/api.ErrEnd", "parley/api.ErrNumber", "parley/api.ErrDeep", "parley/api.ErrTag", "parley/api.ErrGroup"], apart := false, laid := [("parley/api.ErrEnd", laid_parley_api_ErrEnd), ("parley/api.ErrLong", laid_parley_api_ErrLong), ("parley/api.ErrTag", laid_parley_api_ErrTag), ("parley/api.ErrGroup", laid_parley_api_ErrGroup), ("parley/api.ErrDeep", laid_parley_api_ErrDeep), ("parley/api.ErrNumber", laid_parley_api_ErrNumber)] }
def WireRecordsSaid : Prop := wireRecordsRow.holds Tryd.pinned (OpenSpec.ofChange wireRecordsSpec)

/-- ITS FALSE NEIGHBOUR: 'it returns false'. Refute it at one input. -/
def wireRecordsWrong : ChangeSpec := { name := "wireRecords", fn := fun _ => fun
  | [d1, d2] => { results := [.lit (.bool false)], args := [d1, d2] }
  | _ => none }
def WireRecordsWrongFalsely : Prop := wireRecordsRow.holds Tryd.pinned (OpenSpec.ofChange wireRecordsWrong)

/-- 'parleylaw1.WireOwn': WHATEVER THE INPUT: true; the input reads as it did. -/
def wireOwnSpec : ChangeSpec := { name := "wireOwn", fn := fun _ => fun
  | [d1, d2] => { results := [.lit (.bool true)], args := [d1, d2] }
  | _ => none }
def wireOwnRow : OpenClaim := { program := "ythipecjjmboecaadoor", sum := "14c73965a8e1d29e7a69f743e6d3f2eaee7efc1ade5223a4c7365515b8cf91ac", func := "parley/parleylaw1.WireOwn", spec := "wireOwn", unfollowed := true, recurses := true, named := ["parley/api.ErrLong", "parley/api.ErrEnd", "parley/api.ErrNumber", "parley/api.ErrDeep", "parley/api.ErrTag", "parley/api.ErrGroup"], apart := false, laid := [("parley/api.ErrEnd", laid_parley_api_ErrEnd), ("parley/api.ErrLong", laid_parley_api_ErrLong), ("parley/api.ErrTag", laid_parley_api_ErrTag), ("parley/api.ErrGroup", laid_parley_api_ErrGroup), ("parley/api.ErrDeep", laid_parley_api_ErrDeep), ("parley/api.ErrNumber", laid_parley_api_ErrNumber)] }
def WireOwnSaid : Prop := wireOwnRow.holds Tryd.pinned (OpenSpec.ofChange wireOwnSpec)

/-- ITS FALSE NEIGHBOUR: 'it returns false'. Refute it at one input. -/
def wireOwnWrong : ChangeSpec := { name := "wireOwn", fn := fun _ => fun
  | [d1, d2] => { results := [.lit (.bool false)], args := [d1, d2] }
  | _ => none }
def WireOwnWrongFalsely : Prop := wireOwnRow.holds Tryd.pinned (OpenSpec.ofChange wireOwnWrong)

/-- 'parleylaw3.TablePlays': WHATEVER THE INPUT: true; the input reads as it did. -/
def tablePlaysSpec : ChangeSpec := { name := "tablePlays", fn := fun _ => fun
  | [d1, d2, d3, d4, d5] => { results := [.lit (.bool true)], args := [d1, d2, d3, d4, d5] }
  | _ => none }
def tablePlaysRow : OpenClaim := { program := "ythipecjjmboecaadoor", sum := "14c73965a8e1d29e7a69f743e6d3f2eaee7efc1ade5223a4c7365515b8cf91ac", func := "parley/parleylaw3.TablePlays", spec := "tablePlays", unfollowed := true, recurses := true, named := ["parley/api.ErrTable"], apart := false, laid := [("parley/api.ErrTable", laid_parley_api_ErrTable)] }
def TablePlaysSaid : Prop := tablePlaysRow.holds Tryd.pinned (OpenSpec.ofChange tablePlaysSpec)

/-- ITS FALSE NEIGHBOUR: 'it returns false'. Refute it at one input. -/
def tablePlaysWrong : ChangeSpec := { name := "tablePlays", fn := fun _ => fun
  | [d1, d2, d3, d4, d5] => { results := [.lit (.bool false)], args := [d1, d2, d3, d4, d5] }
  | _ => none }
def TablePlaysWrongFalsely : Prop := tablePlaysRow.holds Tryd.pinned (OpenSpec.ofChange tablePlaysWrong)

/-- 'parleylaw3.TableStatic': WHATEVER THE INPUT: true; the input reads as it did. -/
def tableStaticSpec : ChangeSpec := { name := "tableStatic", fn := fun _ => fun
  | [d1, d2] => { results := [.lit (.bool true)], args := [d1, d2] }
  | _ => none }
def tableStaticRow : OpenClaim := { program := "ythipecjjmboecaadoor", sum := "14c73965a8e1d29e7a69f743e6d3f2eaee7efc1ade5223a4c7365515b8cf91ac", func := "parley/parleylaw3.TableStatic", spec := "tableStatic", unfollowed := true, recurses := true, named := ["parley/api.ErrTable"], apart := false, laid := [("parley/api.ErrTable", laid_parley_api_ErrTable)] }
def TableStaticSaid : Prop := tableStaticRow.holds Tryd.pinned (OpenSpec.ofChange tableStaticSpec)

/-- ITS FALSE NEIGHBOUR: 'it returns false'. Refute it at one input. -/
def tableStaticWrong : ChangeSpec := { name := "tableStatic", fn := fun _ => fun
  | [d1, d2] => { results := [.lit (.bool false)], args := [d1, d2] }
  | _ => none }
def TableStaticWrongFalsely : Prop := tableStaticRow.holds Tryd.pinned (OpenSpec.ofChange tableStaticWrong)

/-- 'parleylaw3.TableEach': WHATEVER THE INPUT: true; the input reads as it did. -/
def tableEachSpec : ChangeSpec := { name := "tableEach", fn := fun _ => fun
  | [d1, d2, d3, d4] => { results := [.lit (.bool true)], args := [d1, d2, d3, d4] }
  | _ => none }
def tableEachRow : OpenClaim := { program := "ythipecjjmboecaadoor", sum := "14c73965a8e1d29e7a69f743e6d3f2eaee7efc1ade5223a4c7365515b8cf91ac", func := "parley/parleylaw3.TableEach", spec := "tableEach", unfollowed := true, recurses := true, named := ["parley/api.ErrTable"], apart := false, laid := [("parley/api.ErrTable", laid_parley_api_ErrTable)] }
def TableEachSaid : Prop := tableEachRow.holds Tryd.pinned (OpenSpec.ofChange tableEachSpec)

/-- ITS FALSE NEIGHBOUR: 'it returns false'. Refute it at one input. -/
def tableEachWrong : ChangeSpec := { name := "tableEach", fn := fun _ => fun
  | [d1, d2, d3, d4] => { results := [.lit (.bool false)], args := [d1, d2, d3, d4] }
  | _ => none }
def TableEachWrongFalsely : Prop := tableEachRow.holds Tryd.pinned (OpenSpec.ofChange tableEachWrong)

/-- 'parleylaw3.TableKeeps': WHATEVER THE INPUT: true; the input reads as it did. -/
def tableKeepsSpec : ChangeSpec := { name := "tableKeeps", fn := fun _ => fun
  | [d1, d2] => { results := [.lit (.bool true)], args := [d1, d2] }
  | _ => none }
def tableKeepsRow : OpenClaim := { program := "ythipecjjmboecaadoor", sum := "14c73965a8e1d29e7a69f743e6d3f2eaee7efc1ade5223a4c7365515b8cf91ac", func := "parley/parleylaw3.TableKeeps", spec := "tableKeeps", unfollowed := true, recurses := true, named := ["parley/api.ErrTable"], apart := false, laid := [("parley/api.ErrTable", laid_parley_api_ErrTable)] }
def TableKeepsSaid : Prop := tableKeepsRow.holds Tryd.pinned (OpenSpec.ofChange tableKeepsSpec)

/-- ITS FALSE NEIGHBOUR: 'it returns false'. Refute it at one input. -/
def tableKeepsWrong : ChangeSpec := { name := "tableKeeps", fn := fun _ => fun
  | [d1, d2] => { results := [.lit (.bool false)], args := [d1, d2] }
  | _ => none }
def TableKeepsWrongFalsely : Prop := tableKeepsRow.holds Tryd.pinned (OpenSpec.ofChange tableKeepsWrong)

/-- 'parleylaw3.TableEmptied': WHATEVER THE INPUT: true; the input reads as it did. -/
def tableEmptiedSpec : ChangeSpec := { name := "tableEmptied", fn := fun _ => fun
  | [d1, d2, d3, d4] => { results := [.lit (.bool true)], args := [d1, d2, d3, d4] }
  | _ => none }
def tableEmptiedRow : OpenClaim := { program := "ythipecjjmboecaadoor", sum := "14c73965a8e1d29e7a69f743e6d3f2eaee7efc1ade5223a4c7365515b8cf91ac", func := "parley/parleylaw3.TableEmptied", spec := "tableEmptied", unfollowed := true, recurses := true, named := ["parley/api.ErrTable"], apart := false, laid := [("parley/api.ErrTable", laid_parley_api_ErrTable)] }
def TableEmptiedSaid : Prop := tableEmptiedRow.holds Tryd.pinned (OpenSpec.ofChange tableEmptiedSpec)

/-- ITS FALSE NEIGHBOUR: 'it returns false'. Refute it at one input. -/
def tableEmptiedWrong : ChangeSpec := { name := "tableEmptied", fn := fun _ => fun
  | [d1, d2, d3, d4] => { results := [.lit (.bool false)], args := [d1, d2, d3, d4] }
  | _ => none }
def TableEmptiedWrongFalsely : Prop := tableEmptiedRow.holds Tryd.pinned (OpenSpec.ofChange tableEmptiedWrong)

/- THE SECOND FORM. 'bulk': how many values and letters a reading holds, each counted each time it is reached (what is shared counts as often as it is met; a slice's spare places count too). A statement '..UptoSaid' is the law's where the arguments, and the package variables that the reading takes, are together of bulk at most 1048576: NARROWER than '..Said'. Prove '..Said' where nothing that the law and all that it calls make is longer than what came in: it says more and counts as full. Else prove '..UptoSaid'. A law counts once. -/
mutual
def uptoBulk {H : Type} : DataW H → Nat
  | .lit (.string bytes) => bytes.length + 1
  | .lit _ => 1
  | .nil => 1
  | .ptr d => uptoBulk d + 1
  | .slice elems spare => uptoBulkAll elems + uptoBulkAll spare + 1
  | .agg parts => uptoBulkAll parts + 1
  | .iface _ d => uptoBulk d + 1
  | .map entries => uptoBulkEntries entries + 1
  | .held _ => 1
def uptoBulkAll {H : Type} : List (DataW H) → Nat
  | [] => 0
  | d :: r => uptoBulk d + uptoBulkAll r
def uptoBulkEntries {H : Type} : List (Lit × DataW H) → Nat
  | [] => 0
  | x :: r => uptoBulkEntry x + uptoBulkEntries r
def uptoBulkEntry {H : Type} : Lit × DataW H → Nat
  | (.string bytes, d) => bytes.length + uptoBulk d + 1
  | (_, d) => uptoBulk d + 1
 end
def uptoSmall : (H : Type) → List (DataW H) → Bool := fun _ ds => decide (uptoBulkAll ds ≤ 1048576)
def OpenSpec.upto (s : _root_.Go.ChangeSpec) : _root_.Go.OpenSpec := { _root_.Go.OpenSpec.ofChange s with cond := some uptoSmall }

/-- 'parleylaw1.WireRecords', WHERE WHAT IT READS IS OF BULK AT MOST 1048576: true; the input reads as it did. -/
def wireRecordsUptoRow : OpenClaim := { program := "ythipecjjmboecaadoor", sum := "14c73965a8e1d29e7a69f743e6d3f2eaee7efc1ade5223a4c7365515b8cf91ac", func := "parley/parleylaw1.WireRecords", spec := "wireRecords", unfollowed := true, recurses := true, named := ["parley/api.ErrLong", "parley/api.ErrEnd", "parley/api.ErrNumber", "parley/api.ErrDeep", "parley/api.ErrTag", "parley/api.ErrGroup"], apart := false, laid := [("parley/api.ErrEnd", laid_parley_api_ErrEnd), ("parley/api.ErrLong", laid_parley_api_ErrLong), ("parley/api.ErrTag", laid_parley_api_ErrTag), ("parley/api.ErrGroup", laid_parley_api_ErrGroup), ("parley/api.ErrDeep", laid_parley_api_ErrDeep), ("parley/api.ErrNumber", laid_parley_api_ErrNumber)], narrowed := true }
def WireRecordsUptoSaid : Prop := wireRecordsUptoRow.holds Tryd.pinned (OpenSpec.upto wireRecordsSpec)

/-- 'parleylaw1.WireOwn', WHERE WHAT IT READS IS OF BULK AT MOST 1048576: true; the input reads as it did. -/
def wireOwnUptoRow : OpenClaim := { program := "ythipecjjmboecaadoor", sum := "14c73965a8e1d29e7a69f743e6d3f2eaee7efc1ade5223a4c7365515b8cf91ac", func := "parley/parleylaw1.WireOwn", spec := "wireOwn", unfollowed := true, recurses := true, named := ["parley/api.ErrLong", "parley/api.ErrEnd", "parley/api.ErrNumber", "parley/api.ErrDeep", "parley/api.ErrTag", "parley/api.ErrGroup"], apart := false, laid := [("parley/api.ErrEnd", laid_parley_api_ErrEnd), ("parley/api.ErrLong", laid_parley_api_ErrLong), ("parley/api.ErrTag", laid_parley_api_ErrTag), ("parley/api.ErrGroup", laid_parley_api_ErrGroup), ("parley/api.ErrDeep", laid_parley_api_ErrDeep), ("parley/api.ErrNumber", laid_parley_api_ErrNumber)], narrowed := true }
def WireOwnUptoSaid : Prop := wireOwnUptoRow.holds Tryd.pinned (OpenSpec.upto wireOwnSpec)

/-- 'parleylaw3.TablePlays', WHERE WHAT IT READS IS OF BULK AT MOST 1048576: true; the input reads as it did. -/
def tablePlaysUptoRow : OpenClaim := { program := "ythipecjjmboecaadoor", sum := "14c73965a8e1d29e7a69f743e6d3f2eaee7efc1ade5223a4c7365515b8cf91ac", func := "parley/parleylaw3.TablePlays", spec := "tablePlays", unfollowed := true, recurses := true, named := ["parley/api.ErrTable"], apart := false, laid := [("parley/api.ErrTable", laid_parley_api_ErrTable)], narrowed := true }
def TablePlaysUptoSaid : Prop := tablePlaysUptoRow.holds Tryd.pinned (OpenSpec.upto tablePlaysSpec)

/-- 'parleylaw3.TableStatic', WHERE WHAT IT READS IS OF BULK AT MOST 1048576: true; the input reads as it did. -/
def tableStaticUptoRow : OpenClaim := { program := "ythipecjjmboecaadoor", sum := "14c73965a8e1d29e7a69f743e6d3f2eaee7efc1ade5223a4c7365515b8cf91ac", func := "parley/parleylaw3.TableStatic", spec := "tableStatic", unfollowed := true, recurses := true, named := ["parley/api.ErrTable"], apart := false, laid := [("parley/api.ErrTable", laid_parley_api_ErrTable)], narrowed := true }
def TableStaticUptoSaid : Prop := tableStaticUptoRow.holds Tryd.pinned (OpenSpec.upto tableStaticSpec)

/-- 'parleylaw3.TableEach', WHERE WHAT IT READS IS OF BULK AT MOST 1048576: true; the input reads as it did. -/
def tableEachUptoRow : OpenClaim := { program := "ythipecjjmboecaadoor", sum := "14c73965a8e1d29e7a69f743e6d3f2eaee7efc1ade5223a4c7365515b8cf91ac", func := "parley/parleylaw3.TableEach", spec := "tableEach", unfollowed := true, recurses := true, named := ["parley/api.ErrTable"], apart := false, laid := [("parley/api.ErrTable", laid_parley_api_ErrTable)], narrowed := true }
def TableEachUptoSaid : Prop := tableEachUptoRow.holds Tryd.pinned (OpenSpec.upto tableEachSpec)

/-- 'parleylaw3.TableKeeps', WHERE WHAT IT READS IS OF BULK AT MOST 1048576: true; the input reads as it did. -/
def tableKeepsUptoRow : OpenClaim := { program := "ythipecjjmboecaadoor", sum := "14c73965a8e1d29e7a69f743e6d3f2eaee7efc1ade5223a4c7365515b8cf91ac", func := "parley/parleylaw3.TableKeeps", spec := "tableKeeps", unfollowed := true, recurses := true, named := ["parley/api.ErrTable"], apart := false, laid := [("parley/api.ErrTable", laid_parley_api_ErrTable)], narrowed := true }
def TableKeepsUptoSaid : Prop := tableKeepsUptoRow.holds Tryd.pinned (OpenSpec.upto tableKeepsSpec)

/-- 'parleylaw3.TableEmptied', WHERE WHAT IT READS IS OF BULK AT MOST 1048576: true; the input reads as it did. -/
def tableEmptiedUptoRow : OpenClaim := { program := "ythipecjjmboecaadoor", sum := "14c73965a8e1d29e7a69f743e6d3f2eaee7efc1ade5223a4c7365515b8cf91ac", func := "parley/parleylaw3.TableEmptied", spec := "tableEmptied", unfollowed := true, recurses := true, named := ["parley/api.ErrTable"], apart := false, laid := [("parley/api.ErrTable", laid_parley_api_ErrTable)], narrowed := true }
def TableEmptiedUptoSaid : Prop := tableEmptiedUptoRow.holds Tryd.pinned (OpenSpec.upto tableEmptiedSpec)

end Rows
end Go.Proofs.YthipecjjmboecaaDoor
