/-
The walk of parleylaw2.HuffCodes: it returns true for every int.
-/
import Derived.Test.YtoihbpclfmlokaaDoorHfirst
import Derived.Test.YtoihbpclfmlokaaDoorHrefc
namespace Go.Proofs.YtoihbpclfmlokaaDoor
open Go.RowKit

set_option maxRecDepth 100000 in
set_option maxHeartbeats 1000000 in
theorem huffCodes_law (e0 : Addr) (n : Int) (w : World) (hE : HE w e0) : Calls Tryd.prog 12 #[.int .i64 n] w (TruePost w) := by
  have HE := Lib.hid hE
  clear hE
  by_cases h : 0 ≤ n ∧ n < 257
  · obtain ⟨i, rfl⟩ : ∃ i : Nat, n = i := ⟨n.toNat, by omega⟩
    have hi : i < 257 := by omega
    clear h
    have hb := H.b_bounds i
    have h1 : Hid (∀ w, Calls Tryd.prog 48 #[.int .i64 i] w fun e w' => e = .returned (.tuple #[.int .i64 (H.b i), .bool true]) ∧ w = w') := fun w => Bits_yes i w hi
    have h2 : Hid (∀ w, Calls Tryd.prog 49 #[.int .i64 i] w fun e w' => e = .returned (.tuple #[.int .u32 (H.cod i), .bool true]) ∧ Below w.heap.size w w') := fun w => Code_yes i w hi
    have h3 : Hid (∀ w, Calls Tryd.prog 50 #[.int .i64 i] w fun e w' => e = .returned (.int .i64 (H.b i)) ∧ w = w') := fun w => rBits_yes i w hi
    have h4 : Hid (∀ w, Calls Tryd.prog 51 #[.int .i64 i] w fun e w' => e = .returned (.tuple #[.int .u32 (H.cod i), .bool true]) ∧ w = w') := fun w => rCode_yes i w hi
    generalize H.b i = b at *
    generalize H.cod i = c at *
    have hn0 : ((b : Int) != 0) = true := by simp; omega
    go_enter Tryd.func12, Tryd.ntmps12
    go_wp2_with (first
      | (go_at_call 47; refine (hfirst_any e0 _ HE.out).mono ?_; rintro e w1 ⟨rfl, hb1⟩; have HB1 := Lib.hid hb1; clear hb1)
      | (go_at_call 48; refine (h1.out _).mono ?_; rintro e w2 ⟨rfl, rfl⟩)
      | (go_at_call 49; refine (h2.out _).mono ?_; rintro e w2 ⟨rfl, hb2⟩; have HB2 := Lib.hid hb2; clear hb2)
      | (go_at_call 50; refine (h3.out _).mono ?_; rintro e w3 ⟨rfl, rfl⟩)
      | (go_at_call 51; refine (h4.out _).mono ?_; rintro e w3 ⟨rfl, rfl⟩))
    go_ret
    exact ⟨rfl, HB1.out.trans (HB2.out.mono HB1.out.size)⟩
  · have h1 : Hid (∀ w, Calls Tryd.prog 48 #[.int .i64 n] w fun e w' => e = .returned (.tuple #[.int .i64 0, .bool false]) ∧ w = w') := fun w => Bits_no n w h
    have h2 : Hid (∀ w, Calls Tryd.prog 49 #[.int .i64 n] w fun e w' => e = .returned (.tuple #[.int .u32 0, .bool false]) ∧ w = w') := fun w => Code_no n w h
    have h3 : Hid (∀ w, Calls Tryd.prog 50 #[.int .i64 n] w fun e w' => e = .returned (.int .i64 0) ∧ w = w') := fun w => rBits_no n w h
    have h4 : Hid (∀ w, Calls Tryd.prog 51 #[.int .i64 n] w fun e w' => e = .returned (.tuple #[.int .u32 0, .bool false]) ∧ w = w') := fun w => rCode_no n w h
    clear h
    go_enter Tryd.func12, Tryd.ntmps12
    go_wp2_with (first
      | (go_at_call 47; refine (hfirst_any e0 _ HE.out).mono ?_; rintro e w1 ⟨rfl, hb1⟩; have HB1 := Lib.hid hb1; clear hb1)
      | (go_at_call 48; refine (h1.out _).mono ?_; rintro e w2 ⟨rfl, rfl⟩)
      | (go_at_call 49; refine (h2.out _).mono ?_; rintro e w2 ⟨rfl, rfl⟩)
      | (go_at_call 50; refine (h3.out _).mono ?_; rintro e w3 ⟨rfl, rfl⟩)
      | (go_at_call 51; refine (h4.out _).mono ?_; rintro e w3 ⟨rfl, rfl⟩))
    go_ret
    exact ⟨rfl, HB1.out⟩
end Go.Proofs.YtoihbpclfmlokaaDoor
