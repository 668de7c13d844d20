/-
The walk of wire.Uvarint: what it answers is what the plain function says, for every slice that reads as bytes.
-/
import Derived.Test.YthipecjjmboecaaDoorWbase
namespace Go.Proofs.YthipecjjmboecaaDoor
open Go.RowKit

/-- what Uvarint hands back -/
def uvV (E : Nat → Addr) (r : Nat × Nat × Nat) : Value := .tuple #[.int .u64 (r.1 : Nat), .int .i64 (r.2.1 : Nat), er E r.2.2]

set_option maxRecDepth 100000 in
theorem uv_any {B : Nat} (a : Option Addr) (cap : Nat) (l : List Nat) (E : Nat → Addr) (w : World) (hn : l.length ≤ 9223372036854775807)
    (hr : Rd B w a l) (hE : Errs w E) :
    Calls Tryd.prog 39 #[.slice a l.length cap] w fun e w' => e = .returned (uvV E (W.uvA l)) ∧ ∃ q, w' = w.drewN q := by
  have h0 := hE.long
  have h1 := hE.fin
  generalize hE0 : E 1 = E0 at h0
  generalize hE1 : E 2 = E1 at h1
  have HE0 := Lib.hid hE0
  have HE1 := Lib.hid hE1
  clear hE hE0 hE1
  have Hr := Lib.hid hr
  clear hr
  go_enter Tryd.func39, Tryd.ntmps39
  go_wp2
  go_loop [5, 6, 7, 10] (fun u _ _ i => ∃ (k : Nat) (X : Nat), k ≤ l.length ∧ k ≤ 9 ∧ i = .int .i64 k ∧ u = .int .u64 X ∧ Hid (X < 2 ^ (7 * k)) ∧ Hid (W.uvA l = W.uv 1 2 k X (l.drop k))) (fun _ _ _ i => l.length - (intOf i).toNat)
  case atStart => exact ⟨0, 0, by omega, by omega, rfl, rfl, by show 0 < 2 ^ (7 * 0); decide, rfl⟩
  case round =>
    obtain ⟨k, X, hk, hk10, rfl, rfl, HX, HU⟩ := hrel
    by_cases hlt : k < l.length
    · obtain ⟨b, o, rfl, hcell⟩ := Hr.out.cell hlt
      have hb := Hr.out.lt k
      have hd : Hid (W.uvA l = W.uv 1 2 k X (l.getD k 0 :: l.drop (k + 1))) := by
        have h := HU.out
        rw [List.drop_eq_getElem_cons hlt] at h
        rw [List.getD_eq_getElem?_getD, List.getElem?_eq_getElem hlt]
        exact h
      clear HU
      generalize l.getD k 0 = c at hcell hb hd
      by_cases h9 : k = 9
      · subst h9
        by_cases hc1 : 1 < c
        · go_wp2
          go_quiet (fail)
          go_wp2
          go_ret3
          refine ⟨?_, _, rfl⟩
          rw [hd.out, ← HE0.out]
          simp [W.uv, hc1, uvV, er]
        · go_wp2
          go_ret3
          refine ⟨?_, 0, rfl⟩
          rw [hd.out, show (9223372036854775808 : Int) = 2 ^ (7 * 9) from by decide, or_step X 9 c (by omega) HX.out hb (by omega)]
          simp only [W.uv, uvV, er]
          rw [if_neg (by omega), if_pos (by omega)]
          rfl
      · by_cases hc1 : c < 128
        · go_wp2
          go_ret3
          refine ⟨?_, 0, rfl⟩
          rw [hd.out, or_step X k c (by omega) HX.out hb (by omega)]
          simp only [W.uv, uvV, er]
          rw [if_neg (by omega), if_pos (by omega)]
          rfl
        · go_wp2
          go_round
          case rel =>
            refine ⟨k + 1, X + c % 128 * 2 ^ (7 * k), by omega, by omega, by go_num, ?_, ?_, ?_⟩
            · rw [or_step X k c (by omega) HX.out hb (by omega)]
            · exact W.acc_lt HX.out (by omega)
            · show W.uvA l = _
              rw [hd.out]
              show (if _ then _ else _) = _
              rw [if_neg (by omega), if_neg (by omega)]
          case measure => simp [intOf]; omega
    · obtain rfl : k = l.length := by omega
      have hd : Hid (W.uvA l = (0, 0, 2 + 1)) := by
        have h := HU.out
        rw [List.drop_length] at h
        rw [show W.uvA l = _ from h]; rfl
      clear HU HX
      go_wp2
      go_quiet (fail)
      go_wp2
      go_ret3
      refine ⟨?_, _, rfl⟩
      rw [hd.out, ← HE1.out]
      rfl
end Go.Proofs.YthipecjjmboecaaDoor
