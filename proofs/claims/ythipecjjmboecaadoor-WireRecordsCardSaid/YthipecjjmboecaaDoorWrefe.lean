/-
The walk of parleyref1.Unfixed.
-/
import Derived.Test.YthipecjjmboecaaDoorWrefd
namespace Go.Proofs.YthipecjjmboecaaDoor
open Go.RowKit

set_option maxRecDepth 100000 in
theorem refUnf4 {B : Nat} (a : Option Addr) (cap : Nat) (l : List Nat) (w : World) (hr : Rd B w a l) (hn : l.length ≤ 9223372036854775807) :
    Calls Tryd.prog 73 #[.slice a l.length cap, .int .i64 4] w fun e w' => e = .returned (refV (W.ufx 4 l)) ∧ w = w' := by
  have Hr := Lib.hid hr
  clear hr
  by_cases hlt : l.length < 4
  · have HF : Hid (W.ufx 4 l = (0, 0, 2 + 1)) := by
      show W.ufx 4 l = _
      unfold W.ufx
      rw [if_pos hlt]
    go_enter Tryd.func73, Tryd.ntmps73
    go_wp2
    go_ret3
    refine ⟨?_, rfl⟩
    rw [HF.out]
    rfl
  · have HF : Hid (W.ufx 4 l = (W.le (l.take 4), 4, 0)) := by
      show W.ufx 4 l = _
      unfold W.ufx
      rw [if_neg hlt]
    go_enter Tryd.func73, Tryd.ntmps73
    go_wp2
    go_loop [7, 8] (fun u i => ∃ (k : Nat) (X : Nat), k ≤ 4 ∧ i = .int .i64 k ∧ u = .int .u64 X ∧ Hid (X = W.le (l.take k))) (fun _ i => 4 - (intOf i).toNat)
    case atStart => exact ⟨0, 0, by omega, rfl, rfl, rfl⟩
    case round =>
      obtain ⟨k, X, hk, rfl, rfl, HX⟩ := hrel
      by_cases hlt2 : k < 4
      · obtain ⟨b, o, rfl, hcell⟩ := Hr.out.cell (j := k) (by omega)
        have hb := Hr.out.lt k
        have HS : Hid (l.take (k + 1) = l.take k ++ [l.getD k 0]) := by
          show l.take (k + 1) = _
          rw [List.take_succ_eq_append_getElem (by omega), List.getD_eq_getElem?_getD, List.getElem?_eq_getElem (by omega)]; rfl
        have HL : Hid (X < 2 ^ (8 * k)) := by
          show X < _
          rw [HX.out]
          have := W.le_lt (l.take k) (fun x hx => Hr.out.1 x (List.mem_of_mem_take hx))
          rwa [List.length_take, Nat.min_eq_left (by omega)] at this
        generalize l.getD k 0 = c at hcell hb HS
        go_wp2
        go_round
        case rel =>
          refine ⟨k + 1, X + c * 2 ^ (8 * k), by omega, by go_num, ?_, ?_⟩
          · rw [or_step8 X k c (by omega) HL.out hb]
          · show _ = _
            rw [HS.out, W.le_snoc, ← HX.out, List.length_take, Nat.min_eq_left (by omega)]
        case measure => simp [intOf]; omega
      · obtain rfl : k = 4 := by omega
        go_wp2
        go_ret3
        refine ⟨?_, rfl⟩
        rw [HF.out, HX.out]
        rfl

set_option maxRecDepth 100000 in
theorem refUnf8 {B : Nat} (a : Option Addr) (cap : Nat) (l : List Nat) (w : World) (hr : Rd B w a l) (hn : l.length ≤ 9223372036854775807) :
    Calls Tryd.prog 73 #[.slice a l.length cap, .int .i64 8] w fun e w' => e = .returned (refV (W.ufx 8 l)) ∧ w = w' := by
  have Hr := Lib.hid hr
  clear hr
  by_cases hlt : l.length < 8
  · have HF : Hid (W.ufx 8 l = (0, 0, 2 + 1)) := by
      show W.ufx 8 l = _
      unfold W.ufx
      rw [if_pos hlt]
    go_enter Tryd.func73, Tryd.ntmps73
    go_wp2
    go_ret3
    refine ⟨?_, rfl⟩
    rw [HF.out]
    rfl
  · have HF : Hid (W.ufx 8 l = (W.le (l.take 8), 8, 0)) := by
      show W.ufx 8 l = _
      unfold W.ufx
      rw [if_neg hlt]
    go_enter Tryd.func73, Tryd.ntmps73
    go_wp2
    go_loop [7, 8] (fun u i => ∃ (k : Nat) (X : Nat), k ≤ 8 ∧ i = .int .i64 k ∧ u = .int .u64 X ∧ Hid (X = W.le (l.take k))) (fun _ i => 8 - (intOf i).toNat)
    case atStart => exact ⟨0, 0, by omega, rfl, rfl, rfl⟩
    case round =>
      obtain ⟨k, X, hk, rfl, rfl, HX⟩ := hrel
      by_cases hlt2 : k < 8
      · obtain ⟨b, o, rfl, hcell⟩ := Hr.out.cell (j := k) (by omega)
        have hb := Hr.out.lt k
        have HS : Hid (l.take (k + 1) = l.take k ++ [l.getD k 0]) := by
          show l.take (k + 1) = _
          rw [List.take_succ_eq_append_getElem (by omega), List.getD_eq_getElem?_getD, List.getElem?_eq_getElem (by omega)]; rfl
        have HL : Hid (X < 2 ^ (8 * k)) := by
          show X < _
          rw [HX.out]
          have := W.le_lt (l.take k) (fun x hx => Hr.out.1 x (List.mem_of_mem_take hx))
          rwa [List.length_take, Nat.min_eq_left (by omega)] at this
        generalize l.getD k 0 = c at hcell hb HS
        go_wp2
        go_round
        case rel =>
          refine ⟨k + 1, X + c * 2 ^ (8 * k), by omega, by go_num, ?_, ?_⟩
          · rw [or_step8 X k c (by omega) HL.out hb]
          · show _ = _
            rw [HS.out, W.le_snoc, ← HX.out, List.length_take, Nat.min_eq_left (by omega)]
        case measure => simp [intOf]; omega
      · obtain rfl : k = 8 := by omega
        go_wp2
        go_ret3
        refine ⟨?_, rfl⟩
        rw [HF.out, HX.out]
        rfl

theorem refUnf_bad (a : Option Addr) (len cap : Nat) (m : Int) (w : World) (h4 : m ≠ 4) (h8 : m ≠ 8) :
    Calls Tryd.prog 73 #[.slice a len cap, .int .i64 m] w fun e w' => e = .returned (.tuple #[.int .u64 0, .int .i64 0, .int .i64 120]) ∧ w = w' := by
  have g4 : (m != 4) = true := by simpa using h4
  have g8 : (m != 8) = true := by simpa using h8
  go_enter Tryd.func73, Tryd.ntmps73
  go_wp2
  go_ret3
  exact ⟨rfl, rfl⟩
end Go.Proofs.YthipecjjmboecaaDoor
