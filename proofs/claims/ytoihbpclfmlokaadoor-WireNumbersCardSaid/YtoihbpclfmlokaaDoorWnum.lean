/-
The walks of Fixed, Zig, Zag.
-/
import Derived.Test.YtoihbpclfmlokaaDoorWput
import Derived.Test.YtoihbpclfmlokaaDoorGbytes
import Derived.Lib.Zigzag
namespace Go.Proofs.YtoihbpclfmlokaaDoor
open Go.RowKit

set_option maxRecDepth 100000 in
theorem fixed_any {B2 : Nat} (a : Option Addr) (len cap : Nat) (l : List Nat) (u m : Nat) (w : World) (hm : m = 4 ∨ m = 8) (hl : l.length = len) (hr : Rd B2 w a l) (hu : Hid (u < 18446744073709551616)) (hsz : len + 20 ≤ 140737488355328) :
    Calls Tryd.prog 22 #[.slice a len cap, .int .u64 u, .int .i64 m] w (OwnPost w.heap.size (l ++ W.leB m u) w) := by
  have Hr := Lib.hid hr
  have Hl := Lib.hid hl
  clear hr hl
  have hm8 : m ≤ 8 := by omega
  have Hm := Lib.hid hm
  clear hm
  go_enter Tryd.func22, Tryd.ntmps22
  go_wp2_with fail
  refine (isFixed_yes m Hm.out w).mono ?_
  rintro e w1 ⟨rfl, rfl⟩
  go_wp2_with fail
  refine (fresh_any a len cap l m w Hl.out Hr.out (by omega)).mono ?_
  rintro e w2 ⟨v, rfl, hv, hb⟩
  have HV := Lib.hid hv
  have HB := Lib.hid hb
  clear hv hb
  go_wp2_with fail
  refine (appendFixed_any w.heap.size v l u m w2 HV.out hm8 hu (by rw [Hl.out]; omega) HB.out.size).mono ?_
  rintro e w3 ⟨v3, rfl, hv3, hb3⟩
  have HV3 := Lib.hid hv3
  have HB3 := Lib.hid hb3
  clear hv3 hb3
  go_wp2
  go_ret
  exact ⟨_, rfl, HV3.out, HB.out.trans HB3.out⟩

/-- Zig in one formula, and Zag. -/
theorem zig_bits (n : Int) (h0 : -9223372036854775808 ≤ n) (h1 : n ≤ 9223372036854775807) :
    bits .xor .u64 (IntKind.u64.wrap (IntKind.u64.wrap n * 2)) (IntKind.u64.wrap (n / 9223372036854775808)) = ((Lib.zigzag n : Nat) : Int) := by
  by_cases hn : 0 ≤ n
  · have e1 : IntKind.u64.wrap (IntKind.u64.wrap n * 2) = (((2 * n).toNat : Nat) : Int) := by
      rw [IntKind.wrap_u64, IntKind.wrap_u64]; omega
    have e2 : IntKind.u64.wrap (n / 9223372036854775808) = ((0 : Nat) : Int) := by
      rw [IntKind.wrap_u64]; omega
    rw [e1, e2, bits_xor_u64_nat _ _ (by omega) (by omega), Nat.xor_zero, Lib.zigzag_nonneg hn]
    omega
  · have h := Lib.zigzag_neg h0 (by omega)
    have e1 : IntKind.u64.wrap (IntKind.u64.wrap n * 2) = (((2 * n + 18446744073709551616).toNat : Nat) : Int) := by
      rw [IntKind.wrap_u64, IntKind.wrap_u64]; omega
    have e2 : IntKind.u64.wrap (n / 9223372036854775808) = ((18446744073709551615 : Nat) : Int) := by
      rw [IntKind.wrap_u64]; omega
    have e3 : IntKind.u64.max = ((18446744073709551615 : Nat) : Int) := by decide
    rw [e3, e1, bits_xor_u64_nat _ _ (by decide) (by omega), Nat.xor_comm] at h
    rw [e1, e2, bits_xor_u64_nat _ _ (by omega) (by decide)]
    exact h

def zagN (z : Nat) : Int := if z % 2 = 0 then ((z / 2 : Nat) : Int) else -((z / 2 : Nat) : Int) - 1

theorem zag_zig (n : Int) : zagN (Lib.zigzag n) = n := by
  unfold zagN Lib.zigzag
  split <;> split <;> omega

theorem xor0_i64 (x : Nat) (hx : x < 9223372036854775808) : bits .xor .i64 (x : Int) 0 = (x : Int) := by
  show IntKind.i64.wrap ((BitVec.ofInt 64 (x : Int) ^^^ BitVec.ofInt 64 0).toNat : Int) = _
  have h2 : (BitVec.ofInt 64 (x : Int)).toNat = x := by
    rw [BitVec.ofInt_natCast, BitVec.toNat_ofNat]; exact Nat.mod_eq_of_lt (by omega)
  have h3 : (BitVec.ofInt 64 0).toNat = 0 := by decide
  rw [BitVec.toNat_xor, h2, h3, Nat.xor_zero, IntKind.wrap_i64]
  omega

theorem xor1_i64 (x : Nat) (hx : x < 9223372036854775808) : bits .xor .i64 (x : Int) (-1) = -(x : Int) - 1 := by
  have h := Lib.i64_not x hx
  rw [← h]
  show IntKind.i64.wrap ((BitVec.ofInt 64 (x : Int) ^^^ BitVec.ofInt 64 (-1)).toNat : Int) = IntKind.i64.wrap ((BitVec.ofInt 64 (-1) ^^^ BitVec.ofInt 64 (x : Int)).toNat : Int)
  rw [BitVec.xor_comm]

theorem zag_bits (z : Nat) (hz : z < 18446744073709551616) :
    bits .xor .i64 ((z : Int) / 2) (wrap64 (-wrap64 (bits .and .u64 (z : Int) 1))) = zagN z := by
  rw [Lib.u64_and1 _ (by omega) (by omega)]
  have e0 : (z : Int) / 2 = ((z / 2 : Nat) : Int) := by omega
  have h2 : z / 2 < 9223372036854775808 := by omega
  rw [e0]
  unfold zagN
  by_cases h : z % 2 = 0
  · rw [if_pos h, show (z : Int) % 2 = 0 by omega, show wrap64 (-wrap64 0) = 0 by unfold wrap64; omega]
    exact xor0_i64 _ h2
  · rw [if_neg h, show (z : Int) % 2 = 1 by omega, show wrap64 (-wrap64 1) = -1 by unfold wrap64; omega]
    exact xor1_i64 _ h2

theorem zig_any (n : Int) (w : World) (h0 : -9223372036854775808 ≤ n) (h1 : n ≤ 9223372036854775807) :
    Calls Tryd.prog 31 #[.int .i64 n] w fun e w' => e = .returned (.int .u64 ((Lib.zigzag n : Nat) : Int)) ∧ w = w' := by
  have HZ := Lib.hid (zig_bits n h0 h1)
  go_enter Tryd.func31, Tryd.ntmps31
  go_wp2
  go_ret
  refine ⟨?_, rfl⟩
  rw [← HZ.out]
  rfl

theorem zag_any (z : Nat) (w : World) (hz : z < 18446744073709551616) :
    Calls Tryd.prog 33 #[.int .u64 z] w fun e w' => e = .returned (.int .i64 (zagN z)) ∧ w = w' := by
  have HZ := Lib.hid (zag_bits z hz)
  generalize zagN z = r at *
  go_enter Tryd.func33, Tryd.ntmps33
  go_wp2
  go_ret
  refine ⟨?_, rfl⟩
  rw [← HZ.out]
  rfl
end Go.Proofs.YtoihbpclfmlokaaDoor
