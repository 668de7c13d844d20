/-
The walks of parleyref1's Untag.
-/
import Derived.Test.YthipecjjmboecaaDoorWtag
namespace Go.Proofs.YthipecjjmboecaaDoor
open Go.RowKit

theorem refUntag_any (u : Nat) (w : World) (hu : u < 18446744073709551616) :
    Calls Tryd.prog 71 #[.int .u64 u] w fun e w' => e = .returned (if u / 8 < 1 ∨ 536870911 < u / 8 ∨ 5 < u % 8 then .tuple #[.int .i64 0, .int .i64 0, .int .i64 103] else .tuple #[.int .i64 (u / 8 : Nat), .int .i64 (u % 8 : Nat), .int .i64 0]) ∧ w = w' := by
  have ea := and7 u hu
  by_cases h : u / 8 < 1 ∨ 536870911 < u / 8 ∨ 5 < u % 8
  · rw [if_pos h]
    have Hh := Lib.hid h
    clear h
    go_enter Tryd.func71, Tryd.ntmps71
    go_wp2
    all_goals
      first
      | (exfalso; have := Hh.out; omega)
      | (exfalso; have := Hh.out; simp only [beq_iff_eq] at *; omega)
      | (refine bodyPost_ret (v := .tuple #[.int .i64 0, .int .i64 0, .int .i64 103]) (by simp [results, Tryd.results71, go_sem]) rfl ?_
         exact ⟨rfl, rfl⟩)
  · rw [if_neg h]
    have h1 : 1 ≤ u / 8 := by omega
    have h2 : u / 8 ≤ 536870911 := by omega
    have h3 : u % 8 ≤ 5 := by omega
    clear h
    go_enter Tryd.func71, Tryd.ntmps71
    go_wp2
    all_goals
      first
      | (exfalso; omega)
      | (exfalso; simp only [beq_iff_eq] at *; omega)
      | (refine bodyPost_ret (v := .tuple #[.int .i64 (u / 8 : Nat), .int .i64 (u % 8 : Nat), .int .i64 0]) (by simp [results, Tryd.results71, go_sem]) rfl ?_
         exact ⟨rfl, rfl⟩)
end Go.Proofs.YthipecjjmboecaaDoor
