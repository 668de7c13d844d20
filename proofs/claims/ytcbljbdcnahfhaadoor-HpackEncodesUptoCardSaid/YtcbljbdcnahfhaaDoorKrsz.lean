/-
The walk of the reference's Size of a list.
-/
import Derived.Test.YtcbljbdcnahfhaaDoorKlist
import Derived.Test.YtcbljbdcnahfhaaDoorMrt
namespace Go.Proofs.YtcbljbdcnahfhaaDoor
open Go.RowKit

set_option maxRecDepth 100000 in
set_option maxHeartbeats 2000000 in
theorem rsize_any {K : Nat} (a : Option Addr) (n c : Nat) (l : List (B.HD × Bool)) (w : World) (hl : l.length = n) (hn : n ≤ 1048576) (hr : QRdB K w a l) (hK : K ≤ w.heap.size) (hs : QSz 1000000000 l) :
    Calls Tryd.prog 32 #[.slice a n c] w fun e w' => e = .returned (.int .i64 (P.totA l : Nat)) ∧ Below w.heap.size w w' := by
  have HL := Lib.hid hl
  have HR := Lib.hid hr
  have HS := Lib.hid hs
  clear hl hr hs
  go_enter Tryd.func32, Tryd.ntmps32
  go_wp2
  go_loopw [3, 4] (fun z i wr => ∃ k : Nat, k ≤ n ∧ i = .int .i64 (k : Nat) ∧ z = .int .i64 (P.totA (l.take k) : Nat) ∧ Hid (Below w.heap.size w wr)) (fun _ i _ => n - (intOf i).toNat)
  case atStart => exact ⟨0, Nat.zero_le _, rfl, rfl, Below.refl _ _⟩
  case round =>
    obtain ⟨k, hk, rfl, rfl, HB⟩ := hrel
    have hz := HB.out.size
    by_cases hlt : k < n
    · obtain ⟨x, hx⟩ : ∃ x, l[k]? = some x := ⟨_, List.getElem?_eq_getElem (by rw [HL.out]; exact hlt)⟩
      have HT := Lib.hid (totA_take l k x hx)
      obtain ⟨z1, z2⟩ := HS.out x (List.mem_of_getElem? hx)
      obtain ⟨b, o, rfl, hbK, d0, d1, d2⟩ := (HR.out.belowB HB.out hK) k x hx
      obtain ⟨⟨xn, xv⟩, xb⟩ := x
      simp only at d0 d1 d2 z1 z2
      have hbd : P.totA (l.take k) ≤ k * 2000000032 := by
        have h1 := totA_le (l.take k) (fun y hy => HS.out y (List.mem_of_mem_take hy))
        have h3 : (l.take k).length ≤ k := List.length_take_le _ _
        exact Nat.le_trans h1 (Nat.mul_le_mul_right _ h3)
      have hbd2 : B.sz (xn, xv) ≤ 2000000032 := by unfold B.sz; simp only; omega
      clear hx
      have q1 : (k : Int) < (n : Int) := by omega
      have q0 : (0 : Int) ≤ (k : Int) := by omega
      have HA := Lib.hid (refSize_any xn xv xb wr (by omega) (by omega))
      have e : (P.totA (l.take (k + 1)) : Int) = (P.totA (l.take k) : Int) + (B.sz (xn, xv) : Int) := by rw [HT.out, Int.natCast_add]
      have HEq := Lib.hid e
      clear HT e
      generalize P.totA (l.take k) = T at *
      go_wp2_with fail
      refine HA.out.mono ?_
      rintro e w4 ⟨rfl, hb4⟩
      have HB4 := Lib.hid (HB.out.trans (hb4.mono hz))
      generalize B.sz (xn, xv) = S at *
      clear hb4 HA HB d0 d1 d2
      go_wp2
      go_roundw
      case rel => exact ⟨k + 1, by omega, by rw [Int.natCast_add]; rfl, by rw [HEq.out], HB4⟩
      case measure => simp [intOf]; omega
    · obtain rfl : k = n := by omega
      have q1 : ¬ (k : Int) < (k : Int) := by omega
      rw [List.take_of_length_le (by rw [HL.out]; exact Nat.le_refl _)]
      go_wp2
      go_ret
      exact ⟨rfl, HB.out⟩
end Go.Proofs.YtcbljbdcnahfhaaDoor
