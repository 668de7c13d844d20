/-
The walk of parleylaw3.light: it answers, and changes nothing.
-/
import Derived.Test.YtplajeboeckhhaaDoorBargs
import Derived.Test.YtplajeboeckhhaaDoorGblk
import Derived.Deep.QuietTactic
import Derived.BigQuiet
import Derived.WalkKit
namespace Go.Proofs.YtplajeboeckhhaaDoor
open Go.RowKit

/-- Some Bool is handed back, and old memory is as it was. -/
def BoolPost (w : World) (e : Ending) (w' : World) : Prop := (∃ b, e = .returned (.bool b)) ∧ Below w.heap.size w w'

set_option maxRecDepth 100000 in
set_option maxHeartbeats 1000000 in
theorem light_any {K : Nat} (a : Option Addr) (len cap : Nat) (l : List CL) (w : World) (hl : l.length = len) (hr : CRd K w a l) (hs : CSz 140737488355328 l) :
    Calls Tryd.prog 19 #[.slice a len cap] w (BoolPost w) := by
  have HL := Lib.hid hl
  have HR := Lib.hid hr
  have HS := Lib.hid hs
  clear hl hr hs
  go_enter Tryd.func19, Tryd.ntmps19
  go_wp2
  go_loopw [3, 4] (fun n i wr => ∃ k m : Nat, k ≤ 201 ∧ i = .int .i64 k ∧ n = .int .i64 m ∧ m ≤ k * 40000 ∧ Hid (Below w.heap.size w wr)) (fun _ i _ => 201 - (intOf i).toNat)
  case atStart => exact ⟨0, 0, by omega, rfl, rfl, by omega, Below.refl _ _⟩
  case round =>
    obtain ⟨k, m, hk, rfl, rfl, hm, HB⟩ := hrel
    by_cases hlt : k < len ∧ k ≤ 200
    · obtain ⟨hlt1, hlt2⟩ := hlt
      obtain ⟨x, hx⟩ : ∃ x, l[k]? = some x := ⟨_, List.getElem?_eq_getElem (by rw [HL.out]; exact hlt1)⟩
      obtain ⟨b, o, rfl, _, c0, c1, c2, c3, c4⟩ := (HR.out.below HB.out) k x hx
      obtain ⟨z1, z2⟩ := HS.out x (List.mem_of_getElem? hx)
      obtain ⟨kd, nn, ⟨n, v⟩, bb⟩ := x
      simp only at c0 c1 c2 c3 c4 z1 z2
      clear hx
      have k0 : (0 : Int) ≤ (k : Int) := by omega
      have k1 : (k : Int) < (len : Int) := by omega
      have hd : decide ((k : Int) < (len : Int)) = true := by simp; omega
      go_upto_region 5 with (fail)
      go_quiet (fail)
      go_wp2
      go_roundw
      case rel =>
        refine ⟨k + 1, m + (if 20000 < n.size then 20000 else n.size) + (if 20000 < v.size then 20000 else v.size), by omega, by rw [Int.natCast_add]; rfl, ?_, ?_, below_q HB.out _⟩
        · congr 1
          split <;> split <;> split <;> split <;> omega
        · split <;> split <;> omega
      case measure => simp [intOf]; omega
    · by_cases hlt1 : k < len
      · obtain rfl : k = 201 := by omega
        have hd : decide (((201 : Nat) : Int) < (len : Int)) = true := by simp; omega
        have h200 : ¬ (len : Int) ≤ 200 := by omega
        go_wp2
        go_ret
        exact ⟨⟨_, rfl⟩, HB.out⟩
      · have hd : decide ((k : Int) < (len : Int)) = false := by simp; omega
        by_cases h200 : len ≤ 200
        · have hd2 : decide ((len : Int) ≤ 200) = true := by simp; omega
          go_wp2
          go_ret
          exact ⟨⟨_, rfl⟩, HB.out⟩
        · have hd2 : decide ((len : Int) ≤ 200) = false := by simp; omega
          go_wp2
          go_ret
          exact ⟨⟨_, rfl⟩, HB.out⟩
end Go.Proofs.YtplajeboeckhhaaDoor
