/-
The walk of unicode/utf8.word over bytes: eight bytes at once.
-/
import Derived.Test.YtnejachdacakcaaDoorGbase
import Derived.Test.YtnejachdacakcaaDoorTmath
import Derived.RegionTactic
import Derived.Lib.EndianBits
namespace Go.Proofs.YtnejachdacakcaaDoor
open Go.RowKit

set_option maxRecDepth 100000 in
set_option maxHeartbeats 8000000 in
theorem word_any {B : Nat} (a : Option Addr) (len cap : Nat) (l : List Nat) (w : World) (hlen : l.length = len) (h8 : 8 ≤ len) (hr : Rd B w a l) :
    Calls Tryd.prog 61 #[.slice a len cap] w fun e w' => e = .returned (.int .u64 (T.w8 l : Nat)) ∧ ∃ q, w' = w.drewN q := by
  obtain ⟨b, o, rfl, _, hc⟩ := hr.ptr (by intro h; rw [h] at hlen; simp at hlen; omega)
  have c0 := hc 0 (by omega)
  rw [Nat.add_zero] at c0
  have c1 := hc 1 (by omega)
  have c2 := hc 2 (by omega)
  have c3 := hc 3 (by omega)
  have c4 := hc 4 (by omega)
  have c5 := hc 5 (by omega)
  have c6 := hc 6 (by omega)
  have c7 := hc 7 (by omega)
  have b0 := hr.lt 0
  have b1 := hr.lt 1
  have b2 := hr.lt 2
  have b3 := hr.lt 3
  have b4 := hr.lt 4
  have b5 := hr.lt 5
  have b6 := hr.lt 6
  have b7 := hr.lt 7
  have HV : Hid (((T.w8 l : Nat) : Int) = (l.getD 0 0 : Int) + (l.getD 1 0 : Int) * 256 + (l.getD 2 0 : Int) * 65536 + (l.getD 3 0 : Int) * 16777216 + (l.getD 4 0 : Int) * 4294967296 + (l.getD 5 0 : Int) * 1099511627776 + (l.getD 6 0 : Int) * 281474976710656 + (l.getD 7 0 : Int) * 72057594037927936) := by
    show _ = _
    unfold T.w8
    omega
  rw [HV.out]
  have q0 : (0 : Int) < (len : Int) := by omega
  have q1 : (1 : Int) < (len : Int) := by omega
  have q2 : (2 : Int) < (len : Int) := by omega
  have q3 : (3 : Int) < (len : Int) := by omega
  have q4 : (4 : Int) < (len : Int) := by omega
  have q5 : (5 : Int) < (len : Int) := by omega
  have q6 : (6 : Int) < (len : Int) := by omega
  have q7 : (7 : Int) < (len : Int) := by omega
  clear HV hc hr hlen h8
  generalize l.getD 0 0 = x0 at *
  generalize l.getD 1 0 = x1 at *
  generalize l.getD 2 0 = x2 at *
  generalize l.getD 3 0 = x3 at *
  generalize l.getD 4 0 = x4 at *
  generalize l.getD 5 0 = x5 at *
  generalize l.getD 6 0 = x6 at *
  generalize l.getD 7 0 = x7 at *
  go_enter Tryd.func61, Tryd.ntmps61
  go_wp2
  go_quiet (fail)
  go_wp2
  go_ret
  refine ⟨?_, _, rfl⟩
  simp (disch := omega) only [u64_or8, u64_or16, u64_or24, u64_or32, u64_or40, u64_or48, u64_or56]
  rfl
end Go.Proofs.YtnejachdacakcaaDoor
