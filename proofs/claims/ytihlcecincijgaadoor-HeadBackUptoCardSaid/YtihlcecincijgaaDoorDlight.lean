/-
Whether a list of headers is light.
-/
import Derived.Test.YtihlcecincijgaaDoorQrow
namespace Go.Proofs.YtihlcecincijgaaDoor
open Go.RowKit

/-- Some Bool is handed back, and old memory is as it was. -/
def LightPost (n : Nat) (w : World) (e : Ending) (w' : World) : Prop := (∃ b, e = .returned (.bool b) ∧ (b = true → n ≤ 60)) ∧ Below w.heap.size w w'

set_option maxRecDepth 100000 in
set_option maxHeartbeats 1000000 in
theorem klight_any {K : Nat} (a : Option Addr) (n c : Nat) (l : List (B.HD × Bool)) (w : World) (hl : l.length = n) (hr : QRdB K w a l) (hK : K ≤ w.heap.size) (hs : QSz 140737488355328 l) :
    Calls Tryd.prog 9 #[.slice a n c] w (LightPost n w) := by
  have HL := Lib.hid hl
  have HR := Lib.hid hr
  have HS := Lib.hid hs
  clear hl hr hs
  go_enter Tryd.func9, Tryd.ntmps9
  go_wp2
  go_loopw [3, 4] (fun z i wr => ∃ k m : Nat, k ≤ 61 ∧ k ≤ n ∧ i = .int .i64 k ∧ z = .int .i64 m ∧ m ≤ k * 60000 ∧ Hid (Below w.heap.size w wr)) (fun _ i _ => 61 - (intOf i).toNat)
  case atStart => exact ⟨0, 0, by omega, by omega, rfl, rfl, by omega, Below.refl _ _⟩
  case round =>
    obtain ⟨k, m, hk, hkn, rfl, rfl, hm, HB⟩ := hrel
    by_cases hlt : k < n ∧ k ≤ 60
    · obtain ⟨hlt1, hlt2⟩ := hlt
      obtain ⟨x, hx⟩ : ∃ x, l[k]? = some x := ⟨_, List.getElem?_eq_getElem (by rw [HL.out]; exact hlt1)⟩
      obtain ⟨b, o, rfl, _, c2, c3, c4⟩ := (HR.out.belowB HB.out hK) k x hx
      obtain ⟨z1, z2⟩ := HS.out x (List.mem_of_getElem? hx)
      obtain ⟨⟨xn, xv⟩, xb⟩ := x
      simp only at c2 c3 c4 z1 z2
      clear hx
      have k0 : (0 : Int) ≤ (k : Int) := by omega
      have k1 : (k : Int) < (n : Int) := by omega
      have hd : decide ((k : Int) < (n : Int)) = true := by simp; omega
      go_upto_region 5 with (fail)
      go_quiet (fail)
      go_wp2
      go_roundw
      case rel =>
        refine ⟨k + 1, m + (if 30000 < xn.size then 30000 else xn.size) + (if 30000 < xv.size then 30000 else xv.size), by omega, by omega, by rw [Int.natCast_add]; rfl, ?_, ?_, below_q HB.out _⟩
        · congr 1
          split <;> split <;> split <;> split <;> omega
        · split <;> split <;> omega
      case measure => simp [intOf]; omega
    · by_cases hlt1 : k < n
      · obtain rfl : k = 61 := by omega
        have hd : decide (((61 : Nat) : Int) < (n : Int)) = true := by simp; omega
        have h60 : ¬ (n : Int) ≤ 60 := by omega
        go_wp2
        go_ret
        exact ⟨⟨_, rfl, by intro h; simp at h⟩, HB.out⟩
      · have hd : decide ((k : Int) < (n : Int)) = false := by simp; omega
        by_cases h60 : n ≤ 60
        · have hd2 : decide ((n : Int) ≤ 60) = true := by simp; omega
          go_wp2
          go_ret
          exact ⟨⟨_, rfl, fun _ => h60⟩, HB.out⟩
        · have hd2 : decide ((n : Int) ≤ 60) = false := by simp; omega
          go_wp2
          go_ret
          exact ⟨⟨_, rfl, by intro h; simp at h⟩, HB.out⟩
end Go.Proofs.YtihlcecincijgaaDoor
