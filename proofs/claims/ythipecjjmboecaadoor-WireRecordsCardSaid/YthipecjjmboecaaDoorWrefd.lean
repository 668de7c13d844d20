/-
The walk of parleyref1.Uvarint.
-/
import Derived.Test.YthipecjjmboecaaDoorWuv
namespace Go.Proofs.YthipecjjmboecaaDoor
open Go.RowKit

/-- The number of an error's place, as the reference counts them. -/
def cd (k : Nat) : Int := if k = 0 then 0 else if k = 2 + 1 then 101 else if k = 1 + 1 then 102 else if k = 3 + 1 then 103 else if k = 5 + 1 then 104 else if k = 4 + 1 then 105 else if k = 6 + 1 then 120 else -1

/-- What the reference's readers hand back. -/
def refV (r : Nat × Nat × Nat) : Value := .tuple #[.int .u64 (r.1 : Nat), .int .i64 (r.2.1 : Nat), .int .i64 (cd r.2.2)]

set_option maxRecDepth 100000 in
theorem refUv_any {B : Nat} (a : Option Addr) (cap : Nat) (l : List Nat) (w : World) (hn : l.length ≤ 9223372036854775807)
    (hr : Rd B w a l) :
    Calls Tryd.prog 70 #[.slice a l.length cap] w fun e w' => e = .returned (refV (W.uvA l)) ∧ w = w' := by
  have Hr := Lib.hid hr
  clear hr
  go_enter Tryd.func70, Tryd.ntmps70
  go_wp2
  go_loop [5, 6] (fun u i => ∃ (k : Nat) (X : Nat), k ≤ l.length ∧ k ≤ 9 ∧ i = .int .i64 k ∧ u = .int .u64 X ∧ Hid (X < 2 ^ (7 * k)) ∧ Hid (W.uvA l = W.uv 1 2 k X (l.drop k))) (fun _ i => l.length - (intOf i).toNat)
  case atStart => exact ⟨0, 0, by omega, by omega, rfl, rfl, by show 0 < 2 ^ (7 * 0); decide, rfl⟩
  case round =>
    obtain ⟨k, X, hk, hk10, rfl, rfl, HX, HU⟩ := hrel
    by_cases hlt : k < l.length
    · obtain ⟨b, o, rfl, hcell⟩ := Hr.out.cell hlt
      have hb := Hr.out.lt k
      have hd : Hid (W.uvA l = W.uv 1 2 k X (l.getD k 0 :: l.drop (k + 1))) := by
        have h := HU.out
        rw [List.drop_eq_getElem_cons hlt] at h
        rw [List.getD_eq_getElem?_getD, List.getElem?_eq_getElem hlt]
        exact h
      clear HU
      generalize l.getD k 0 = c at hcell hb hd
      by_cases h9 : k = 9
      · subst h9
        by_cases hc1 : 1 < c
        · go_wp2
          go_ret3
          refine ⟨?_, rfl⟩
          have huv : W.uv 1 2 9 X (c :: l.drop (9 + 1)) = (0, 0, 1 + 1) := by unfold W.uv; rw [if_pos ⟨rfl, hc1⟩]
          rw [hd.out, huv]
          rfl
        · go_wp2
          go_ret3
          refine ⟨?_, rfl⟩
          rw [hd.out, show (9223372036854775808 : Int) = 2 ^ (7 * 9) from by decide, or_step X 9 c (by omega) HX.out hb (by omega)]
          have huv : W.uv 1 2 9 X (c :: l.drop (9 + 1)) = (X + c % 128 * 2 ^ (7 * 9), 9 + 1, 0) := by unfold W.uv; rw [if_neg (by omega), if_pos (by omega)]
          rw [huv]
          rfl
      · by_cases hc1 : c < 128
        · go_wp2
          go_ret3
          refine ⟨?_, rfl⟩
          rw [hd.out, or_step X k c (by omega) HX.out hb (by omega)]
          have huv : W.uv 1 2 k X (c :: l.drop (k + 1)) = (X + c % 128 * 2 ^ (7 * k), k + 1, 0) := by unfold W.uv; rw [if_neg (by omega), if_pos (by omega)]
          rw [huv]
          rfl
        · go_wp2
          go_round
          case rel =>
            refine ⟨k + 1, X + c % 128 * 2 ^ (7 * k), by omega, by omega, by go_num, ?_, ?_, ?_⟩
            · rw [or_step X k c (by omega) HX.out hb (by omega)]
            · exact W.acc_lt HX.out (by omega)
            · show W.uvA l = _
              rw [hd.out]
              show (if _ then _ else _) = _
              rw [if_neg (by omega), if_neg (by omega)]
          case measure => simp [intOf]; omega
    · obtain rfl : k = l.length := by omega
      have hd : Hid (W.uvA l = (0, 0, 2 + 1)) := by
        have h := HU.out
        rw [List.drop_length] at h
        rw [show W.uvA l = _ from h]; rfl
      clear HU HX
      go_wp2
      go_ret3
      refine ⟨?_, rfl⟩
      rw [hd.out]
      rfl
end Go.Proofs.YthipecjjmboecaaDoor
