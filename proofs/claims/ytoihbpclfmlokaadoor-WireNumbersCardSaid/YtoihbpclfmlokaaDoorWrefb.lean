/-
The walks of parleyref1's Zig, Zag, Tag, Untag.
-/
import Derived.Test.YtoihbpclfmlokaaDoorWtag
import Derived.Lib.Zigzag
namespace Go.Proofs.YtoihbpclfmlokaaDoor
open Go.RowKit

theorem refZig_any (n : Int) (w : World) (h0 : -9223372036854775808 ≤ n) (h1 : n ≤ 9223372036854775807) :
    Calls Tryd.prog 32 #[.int .i64 n] w fun e w' => e = .returned (.int .u64 ((Lib.zigzag n : Nat) : Int)) ∧ w = w' := by
  by_cases hn : n < 0
  · have HZ := Lib.hid (Lib.zigzag_neg h0 hn)
    go_enter Tryd.func32, Tryd.ntmps32
    go_wp2
    go_ret
    refine ⟨?_, rfl⟩
    rw [← HZ.out]
    rfl
  · have HZ := Lib.hid (Lib.zigzag_nonneg (x := n) (by omega))
    go_enter Tryd.func32, Tryd.ntmps32
    go_wp2
    go_ret
    refine ⟨?_, rfl⟩
    rw [HZ.out]
    rfl

theorem refZag_any (z : Nat) (w : World) (hz : z < 18446744073709551616) :
    Calls Tryd.prog 34 #[.int .u64 z] w fun e w' => e = .returned (.int .i64 (if z % 2 = 0 then ((z / 2 : Nat) : Int) else -((z / 2 : Nat) : Int) - 1)) ∧ w = w' := by
  have ea := Lib.u64_and1 (z : Int) (by omega) (by omega)
  by_cases h : z % 2 = 0
  · rw [if_pos h]
    go_enter Tryd.func34, Tryd.ntmps34
    go_wp2
    all_goals first | (exfalso; omega) | (go_ret; exact ⟨rfl, rfl⟩)
  · rw [if_neg h]
    go_enter Tryd.func34, Tryd.ntmps34
    go_wp2
    all_goals first | (exfalso; omega) | (go_ret; exact ⟨rfl, rfl⟩)

theorem refTag_yes (f kd : Int) (w : World) (h : ¬ (f < 1 ∨ 536870911 < f ∨ kd < 0 ∨ 5 < kd)) :
    Calls Tryd.prog 27 #[.int .i64 f, .int .i64 kd] w fun e w' => e = .returned (.tuple #[.int .u64 (f * 8 + kd), .int .i64 0]) ∧ w = w' := by
  have h1 : 1 ≤ f := by omega
  have h2 : f ≤ 536870911 := by omega
  have h3 : 0 ≤ kd := by omega
  have h4 : kd ≤ 5 := by omega
  clear h
  go_enter Tryd.func27, Tryd.ntmps27
  go_wp2
  go_ret2
  exact ⟨rfl, rfl⟩

theorem refTag_no (f kd : Int) (w : World) (h : f < 1 ∨ 536870911 < f ∨ kd < 0 ∨ 5 < kd) :
    Calls Tryd.prog 27 #[.int .i64 f, .int .i64 kd] w fun e w' => e = .returned (.tuple #[.int .u64 0, .int .i64 103]) ∧ w = w' := by
  have Hh := Lib.hid h
  clear h
  go_enter Tryd.func27, Tryd.ntmps27
  go_wp2
  all_goals
    first
    | (go_ret2; exact ⟨rfl, rfl⟩)
    | (exfalso; have := Hh.out; omega)

theorem refUntag_any (u : Nat) (w : World) (hu : u < 18446744073709551616) :
    Calls Tryd.prog 29 #[.int .u64 u] w fun e w' => e = .returned (if u / 8 < 1 ∨ 536870911 < u / 8 ∨ 5 < u % 8 then .tuple #[.int .i64 0, .int .i64 0, .int .i64 103] else .tuple #[.int .i64 (u / 8 : Nat), .int .i64 (u % 8 : Nat), .int .i64 0]) ∧ w = w' := by
  have ea := and7 u hu
  by_cases h : u / 8 < 1 ∨ 536870911 < u / 8 ∨ 5 < u % 8
  · rw [if_pos h]
    have Hh := Lib.hid h
    clear h
    go_enter Tryd.func29, Tryd.ntmps29
    go_wp2
    all_goals
      first
      | (exfalso; have := Hh.out; omega)
      | (exfalso; have := Hh.out; simp only [beq_iff_eq] at *; omega)
      | (refine bodyPost_ret (v := .tuple #[.int .i64 0, .int .i64 0, .int .i64 103]) (by simp [results, Tryd.results29, go_sem]) rfl ?_
         exact ⟨rfl, rfl⟩)
  · rw [if_neg h]
    have h1 : 1 ≤ u / 8 := by omega
    have h2 : u / 8 ≤ 536870911 := by omega
    have h3 : u % 8 ≤ 5 := by omega
    clear h
    go_enter Tryd.func29, Tryd.ntmps29
    go_wp2
    all_goals
      first
      | (exfalso; omega)
      | (exfalso; simp only [beq_iff_eq] at *; omega)
      | (refine bodyPost_ret (v := .tuple #[.int .i64 (u / 8 : Nat), .int .i64 (u % 8 : Nat), .int .i64 0]) (by simp [results, Tryd.results29, go_sem, ea]) rfl ?_
         exact ⟨rfl, rfl⟩)
end Go.Proofs.YtoihbpclfmlokaaDoor
