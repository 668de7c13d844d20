/-
  NARROWER THAN 'FOR EVERY INPUT', by the rows' own cells (each row's printed sentence says how): HuffBack: laid · HuffApart: laid · HuffTogether: laid.
  DERIVED. THE GIVEN ROWS OF THIS SEAT. 3 by the template 'for every input the law returns true; each argument reads behind the call as it read before'; 0 by the template 'total and deterministic' (their statements: YtoihbpclfmlokabDoorTotals.lean).
  GIVEN WITH THE SEED: the statements are not yours to turn. If you find one false, say at which input.
  Laid BY PROGRAM, IN A SANDBOX (cutbox-rows.mjs): the forced cells as the released guide's own fill.sh prints them over the translation f90d4093b0c5f4c4… (all of the seat's roots in one cut). By AI agents, Wed Nov 11 2026. No macro, syntax, notation, axiom, sorry.
-/
import Derived.Test.YtoihbpclfmlokabDoorChecked
import GoSem.Claim
import GoSem.ClaimJoined
import GoSem.ClaimMapViews
import Derived.JoinedTies
import Derived.KernelRfl
namespace Go.Proofs.YtoihbpclfmlokabDoor
/- THE CELL 'sum', in the pinned program and in every row, IS THE sha256 OF THE DUMP (.gsa) THAT YtoihbpclfmlokabDoorProg.lean LOADS. Nothing in Lean hashes anything: it is a label: what it is worth is what the hold of that sum in a sandbox is worth. -/
noncomputable def Tryd.pinned : Pinned := { name := "ytoihbpclfmlokabdoor", sum := "f90d4093b0c5f4c4be58f95f623f0853256438299dbe7cce3c300b17efb93a23", checked := Tryd.checked }
namespace Rows
def none {H : Type} : Left H := { results := [], args := [] }

/- WHAT THE LISTED PACKAGE-LEVEL VARIABLES READ AS WHEN THE CALL BEGINS. Each datum BY PROGRAM (the guide's laid-datum.mjs) off the statement by which the dump's own 'gosem.cut.vars' lays the variable. In a bare row this is a premise. The card (YtoihbpclfmlokabDoorCards.lean) ties it to the program's text. -/
def laid_parley_api_ErrHuff {H : Type} : DataW H := .iface "*errors.errorString" (.ptr (.agg [.lit (.string [110, 111, 32, 72, 117, 102, 102, 109, 97, 110, 32, 99, 111, 100, 101])]))

/-- 'parleylaw2.HuffBack': WHATEVER THE INPUT: true; the input reads as it did. -/
def huffBackSpec : ChangeSpec := { name := "huffBack", fn := fun _ => fun
  | [d1, d2] => { results := [.lit (.bool true)], args := [d1, d2] }
  | _ => none }
def huffBackRow : OpenClaim := { program := "ytoihbpclfmlokabdoor", sum := "f90d4093b0c5f4c4be58f95f623f0853256438299dbe7cce3c300b17efb93a23", func := "parley/parleylaw2.HuffBack", spec := "huffBack", named := ["parley/api.ErrHuff"], apart := false, laid := [("parley/api.ErrHuff", laid_parley_api_ErrHuff)] }
def HuffBackSaid : Prop := huffBackRow.holds Tryd.pinned (OpenSpec.ofChange huffBackSpec)

/-- ITS FALSE NEIGHBOUR: 'it returns false'. Refute it at one input. -/
def huffBackWrong : ChangeSpec := { name := "huffBack", fn := fun _ => fun
  | [d1, d2] => { results := [.lit (.bool false)], args := [d1, d2] }
  | _ => none }
def HuffBackWrongFalsely : Prop := huffBackRow.holds Tryd.pinned (OpenSpec.ofChange huffBackWrong)

/-- 'parleylaw2.HuffApart': WHATEVER THE INPUT: true; the input reads as it did. -/
def huffApartSpec : ChangeSpec := { name := "huffApart", fn := fun _ => fun
  | [d1, d2] => { results := [.lit (.bool true)], args := [d1, d2] }
  | _ => none }
def huffApartRow : OpenClaim := { program := "ytoihbpclfmlokabdoor", sum := "f90d4093b0c5f4c4be58f95f623f0853256438299dbe7cce3c300b17efb93a23", func := "parley/parleylaw2.HuffApart", spec := "huffApart", named := ["parley/api.ErrHuff"], apart := false, laid := [("parley/api.ErrHuff", laid_parley_api_ErrHuff)] }
def HuffApartSaid : Prop := huffApartRow.holds Tryd.pinned (OpenSpec.ofChange huffApartSpec)

/-- ITS FALSE NEIGHBOUR: 'it returns false'. Refute it at one input. -/
def huffApartWrong : ChangeSpec := { name := "huffApart", fn := fun _ => fun
  | [d1, d2] => { results := [.lit (.bool false)], args := [d1, d2] }
  | _ => none }
def HuffApartWrongFalsely : Prop := huffApartRow.holds Tryd.pinned (OpenSpec.ofChange huffApartWrong)

/-- 'parleylaw2.HuffTogether': WHATEVER THE INPUT: true; the input reads as it did. -/
def huffTogetherSpec : ChangeSpec := { name := "huffTogether", fn := fun _ => fun
  | [d1, d2] => { results := [.lit (.bool true)], args := [d1, d2] }
  | _ => none }
def huffTogetherRow : OpenClaim := { program := "ytoihbpclfmlokabdoor", sum := "f90d4093b0c5f4c4be58f95f623f0853256438299dbe7cce3c300b17efb93a23", func := "parley/parleylaw2.HuffTogether", spec := "huffTogether", named := ["parley/api.ErrHuff"], apart := false, laid := [("parley/api.ErrHuff", laid_parley_api_ErrHuff)] }
def HuffTogetherSaid : Prop := huffTogetherRow.holds Tryd.pinned (OpenSpec.ofChange huffTogetherSpec)

/-- ITS FALSE NEIGHBOUR: 'it returns false'. Refute it at one input. -/
def huffTogetherWrong : ChangeSpec := { name := "huffTogether", fn := fun _ => fun
  | [d1, d2] => { results := [.lit (.bool false)], args := [d1, d2] }
  | _ => none }
def HuffTogetherWrongFalsely : Prop := huffTogetherRow.holds Tryd.pinned (OpenSpec.ofChange huffTogetherWrong)

/- THE SECOND FORM. 'bulk': how many values and letters a reading holds, each counted each time it is reached (what is shared counts as often as it is met; a slice's spare places count too). A statement '..UptoSaid' is the law's where the arguments, and the package variables that the reading takes, are together of bulk at most 1048576: NARROWER than '..Said'. Prove '..Said' where nothing that the law and all that it calls make is longer than what came in: it says more and counts as full. Else prove '..UptoSaid'. A law counts once. -/
mutual
def uptoBulk {H : Type} : DataW H → Nat
  | .lit (.string bytes) => bytes.length + 1
  | .lit _ => 1
  | .nil => 1
  | .ptr d => uptoBulk d + 1
  | .slice elems spare => uptoBulkAll elems + uptoBulkAll spare + 1
  | .agg parts => uptoBulkAll parts + 1
  | .iface _ d => uptoBulk d + 1
  | .map entries => uptoBulkEntries entries + 1
  | .held _ => 1
def uptoBulkAll {H : Type} : List (DataW H) → Nat
  | [] => 0
  | d :: r => uptoBulk d + uptoBulkAll r
def uptoBulkEntries {H : Type} : List (Lit × DataW H) → Nat
  | [] => 0
  | x :: r => uptoBulkEntry x + uptoBulkEntries r
def uptoBulkEntry {H : Type} : Lit × DataW H → Nat
  | (.string bytes, d) => bytes.length + uptoBulk d + 1
  | (_, d) => uptoBulk d + 1
 end
def uptoSmall : (H : Type) → List (DataW H) → Bool := fun _ ds => decide (uptoBulkAll ds ≤ 1048576)
def OpenSpec.upto (s : _root_.Go.ChangeSpec) : _root_.Go.OpenSpec := { _root_.Go.OpenSpec.ofChange s with cond := some uptoSmall }

/-- 'parleylaw2.HuffBack', WHERE WHAT IT READS IS OF BULK AT MOST 1048576: true; the input reads as it did. -/
def huffBackUptoRow : OpenClaim := { program := "ytoihbpclfmlokabdoor", sum := "f90d4093b0c5f4c4be58f95f623f0853256438299dbe7cce3c300b17efb93a23", func := "parley/parleylaw2.HuffBack", spec := "huffBack", named := ["parley/api.ErrHuff"], apart := false, laid := [("parley/api.ErrHuff", laid_parley_api_ErrHuff)], narrowed := true }
def HuffBackUptoSaid : Prop := huffBackUptoRow.holds Tryd.pinned (OpenSpec.upto huffBackSpec)

/-- 'parleylaw2.HuffApart', WHERE WHAT IT READS IS OF BULK AT MOST 1048576: true; the input reads as it did. -/
def huffApartUptoRow : OpenClaim := { program := "ytoihbpclfmlokabdoor", sum := "f90d4093b0c5f4c4be58f95f623f0853256438299dbe7cce3c300b17efb93a23", func := "parley/parleylaw2.HuffApart", spec := "huffApart", named := ["parley/api.ErrHuff"], apart := false, laid := [("parley/api.ErrHuff", laid_parley_api_ErrHuff)], narrowed := true }
def HuffApartUptoSaid : Prop := huffApartUptoRow.holds Tryd.pinned (OpenSpec.upto huffApartSpec)

/-- 'parleylaw2.HuffTogether', WHERE WHAT IT READS IS OF BULK AT MOST 1048576: true; the input reads as it did. -/
def huffTogetherUptoRow : OpenClaim := { program := "ytoihbpclfmlokabdoor", sum := "f90d4093b0c5f4c4be58f95f623f0853256438299dbe7cce3c300b17efb93a23", func := "parley/parleylaw2.HuffTogether", spec := "huffTogether", named := ["parley/api.ErrHuff"], apart := false, laid := [("parley/api.ErrHuff", laid_parley_api_ErrHuff)], narrowed := true }
def HuffTogetherUptoSaid : Prop := huffTogetherUptoRow.holds Tryd.pinned (OpenSpec.upto huffTogetherSpec)

end Rows
end Go.Proofs.YtoihbpclfmlokabDoor
