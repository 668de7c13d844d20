/-
The walk of parleylaw2.HuffApart: it returns true for every two ints.
-/
import Derived.Test.YtoihbpclfmlokabDoorHfirst
import Derived.Test.YtoihbpclfmlokabDoorHstr
namespace Go.Proofs.YtoihbpclfmlokabDoor
open Go.RowKit

theorem in257 (a : Int) : ∃ i : Nat, i < 257 ∧ (wrap64 (a.tmod 257 + 257)).tmod 257 = i := by
  have h1 : a.tmod 257 < 257 := Int.tmod_lt_of_pos a (by omega)
  have h2 : -257 < a.tmod 257 := Int.lt_tmod_of_pos a (by omega)
  have e : wrap64 (a.tmod 257 + 257) = a.tmod 257 + 257 := by
    generalize a.tmod 257 = x at *
    unfold wrap64
    omega
  rw [e]
  generalize a.tmod 257 = x at *
  rw [Int.tmod_eq_emod_of_nonneg (by omega)]
  exact ⟨((x + 257) % 257).toNat, by omega, by omega⟩

theorem wrap_add (F y : Nat) (h : F + y ≤ 1073741824) : wrap64 ((F : Int) + wrap64 (y : Int)) = ((F + y : Nat) : Int) := by
  have e : wrap64 (y : Int) = (y : Int) := by unfold wrap64; omega
  rw [e]
  unfold wrap64
  omega

set_option maxRecDepth 100000 in
set_option maxHeartbeats 1000000 in
theorem huffApart_law (e0 : Addr) (a b : Int) (w : World) (ha : -9223372036854775808 ≤ a ∧ a < 9223372036854775808) (hb : -9223372036854775808 ≤ b ∧ b < 9223372036854775808) (hE : HE w e0) :
    Calls Tryd.prog 4 #[.int .i64 a, .int .i64 b] w (TruePost w) := by
  have HX := Lib.hid hE
  clear hE
  go_enter Tryd.func4, Tryd.ntmps4
  go_upto_region 4 with (go_at_call 6; refine (hfirst_any e0 _ HX.out).mono ?_; rintro e w1 ⟨rfl, hb1⟩; have HB1 := Lib.hid hb1; have hs1 := hb1.size; clear hb1)
  obtain ⟨i, hi, ei⟩ := in257 a
  obtain ⟨j, hj, ej⟩ := in257 b
  rw [ei, ej]
  have h1 : Hid (∀ w, Calls Tryd.prog 11 #[.int .i64 i] w fun e w' => e = .returned (.tuple #[.int .i64 (H.b i), .bool true]) ∧ w = w') := fun w => Bits_yes i w hi
  have h2 : Hid (∀ w, Calls Tryd.prog 12 #[.int .i64 i] w fun e w' => e = .returned (.tuple #[.int .u32 (H.cod i), .bool true]) ∧ Below w.heap.size w w') := fun w => Code_yes i w hi
  have h3 : Hid (∀ w, Calls Tryd.prog 11 #[.int .i64 j] w fun e w' => e = .returned (.tuple #[.int .i64 (H.b j), .bool true]) ∧ w = w') := fun w => Bits_yes j w hj
  have h4 : Hid (∀ w, Calls Tryd.prog 12 #[.int .i64 j] w fun e w' => e = .returned (.tuple #[.int .u32 (H.cod j), .bool true]) ∧ Below w.heap.size w w') := fun w => Code_yes j w hj
  have hn := H.b_bounds i
  have hm := H.b_bounds j
  have hap := Lib.hid (fun h1 h2 => H.apart (i := i) (j := j) hi h1 h2)
  have hc := H.cod_lt32 i hi
  have hd := H.cod_lt32 j hj
  generalize H.b i = n at *
  generalize H.b j = m at *
  generalize H.cod i = c at *
  generalize H.cod j = d at *
  clear ei ej
  go_upto_region 5 with (go_at_call 11; refine (h1.out _).mono ?_; rintro e w2 ⟨rfl, rfl⟩)
  go_upto_region 6 with (go_at_call 11; refine (h3.out _).mono ?_; rintro e w2 ⟨rfl, rfl⟩)
  go_upto_region 7 with (go_at_call 12; refine (h2.out _).mono ?_; rintro e w2 ⟨rfl, hb2⟩; have HB2 := Lib.hid (HB1.out.trans (hb2.mono hs1)); have hs2 := HB2.out.size; clear hb2)
  go_upto_region 8 with (go_at_call 12; refine (h4.out _).mono ?_; rintro e w3 ⟨rfl, hb3⟩; have HB3 := Lib.hid (HB2.out.trans (hb3.mono hs2)); clear hb3)
  have g1 : decide ((n : Int) < 1) = false := by simp; omega
  have g2 : decide (30 < (n : Int)) = false := by simp; omega
  have g3 : decide ((m : Int) < 1) = false := by simp; omega
  have g4 : decide (30 < (m : Int)) = false := by simp; omega
  go_wp2_with fail
  rotate_left
  · exfalso
    rename_i q1 q2 q3
    have q4 := q3.2
    rw [beq_iff_eq] at q4
    have e : (2 : Int) ^ (m - n) = ((2 ^ (m - n) : Nat) : Int) := by push_cast; rfl
    rw [e, ← Int.natCast_ediv] at q4
    exact hap.out (by omega) q2 (by omega)
  all_goals
    clear hap h1 h2 h3 h4 g1 g2 g3 g4 hn hm hc hd
    go_loopw [14, 15, 16, 17] (fun s i _ _ wr => ∃ k : Nat, k ≤ 257 ∧ i = .int .i64 k ∧ s = .int .i64 (H.fill k : Nat) ∧ wr = w3) (fun _ i _ _ _ => 257 - (intOf i).toNat)
    case atStart => exact ⟨0, Nat.zero_le _, rfl, rfl, rfl⟩
    case round =>
      obtain ⟨k, hk, rfl, rfl, rfl⟩ := hrel
      by_cases hlt : k < 257
      · have hb := H.b_bounds k
        have hf := H.fill_lt (i := k + 1) (by omega)
        have hB : Hid (∀ w, Calls Tryd.prog 11 #[.int .i64 k] w fun e w' => e = .returned (.tuple #[.int .i64 (H.b k), .bool true]) ∧ w = w') := fun w => Bits_yes k w hlt
        have HS : Hid (H.fill (k + 1) = H.fill k + 2 ^ (30 - H.b k)) := rfl
        generalize hF2 : H.fill (k + 1) = F2 at *
        have HF2 := Lib.hid hF2
        clear hF2
        generalize H.fill k = F at *
        generalize H.b k = b at *
        have g1 : decide ((b : Int) < 1) = false := by simp; omega
        have g2 : decide (30 < (b : Int)) = false := by simp; omega
        go_wp2_with (go_at_call 11; refine (hB.out _).mono ?_; rintro e w2 ⟨rfl, rfl⟩)
        go_roundw
        case rel =>
          refine ⟨k + 1, by omega, by go_num, ?_, trivial⟩
          refine congrArg (Value.int IntKind.i64) ?_
          rw [show H.fill (k + 1) = F2 from HF2.out, HS.out]
          have e : (2 : Int) ^ (30 - b) = ((2 ^ (30 - b) : Nat) : Int) := by push_cast; rfl
          rw [e]
          exact wrap_add _ _ (by rw [← HS.out]; exact hf)
        case measure => simp [intOf]; omega
      · obtain rfl : k = 257 := by omega
        rw [H.fill_all] at *
        go_wp2
        go_ret
        exact ⟨rfl, HB3.out⟩
end Go.Proofs.YtoihbpclfmlokabDoor
