/-
The walks of parleyref1's Zig, Zag, Tag, Untag.
-/
import Derived.Test.YtnejachdacakcaaDoorWtag
namespace Go.Proofs.YtnejachdacakcaaDoor
open Go.RowKit

theorem refTag_yes (f kd : Int) (w : World) (h : ¬ (f < 1 ∨ 536870911 < f ∨ kd < 0 ∨ 5 < kd)) :
    Calls Tryd.prog 42 #[.int .i64 f, .int .i64 kd] w fun e w' => e = .returned (.tuple #[.int .u64 (f * 8 + kd), .int .i64 0]) ∧ w = w' := by
  have h1 : 1 ≤ f := by omega
  have h2 : f ≤ 536870911 := by omega
  have h3 : 0 ≤ kd := by omega
  have h4 : kd ≤ 5 := by omega
  clear h
  go_enter Tryd.func42, Tryd.ntmps42
  go_wp2
  go_ret2
  exact ⟨rfl, rfl⟩

theorem refTag_no (f kd : Int) (w : World) (h : f < 1 ∨ 536870911 < f ∨ kd < 0 ∨ 5 < kd) :
    Calls Tryd.prog 42 #[.int .i64 f, .int .i64 kd] w fun e w' => e = .returned (.tuple #[.int .u64 0, .int .i64 103]) ∧ w = w' := by
  have Hh := Lib.hid h
  clear h
  go_enter Tryd.func42, Tryd.ntmps42
  go_wp2
  all_goals
    first
    | (go_ret2; exact ⟨rfl, rfl⟩)
    | (exfalso; have := Hh.out; omega)

theorem refUntag_any (u : Nat) (w : World) (hu : u < 18446744073709551616) :
    Calls Tryd.prog 55 #[.int .u64 u] w fun e w' => e = .returned (if u / 8 < 1 ∨ 536870911 < u / 8 ∨ 5 < u % 8 then .tuple #[.int .i64 0, .int .i64 0, .int .i64 103] else .tuple #[.int .i64 (u / 8 : Nat), .int .i64 (u % 8 : Nat), .int .i64 0]) ∧ w = w' := by
  have ea := and7 u hu
  by_cases h : u / 8 < 1 ∨ 536870911 < u / 8 ∨ 5 < u % 8
  · rw [if_pos h]
    have Hh := Lib.hid h
    clear h
    go_enter Tryd.func55, Tryd.ntmps55
    go_wp2
    all_goals
      first
      | (exfalso; have := Hh.out; omega)
      | (exfalso; have := Hh.out; simp only [beq_iff_eq] at *; omega)
      | (refine bodyPost_ret (v := .tuple #[.int .i64 0, .int .i64 0, .int .i64 103]) (by simp [results, Tryd.results55, go_sem]) rfl ?_
         exact ⟨rfl, rfl⟩)
  · rw [if_neg h]
    have h1 : 1 ≤ u / 8 := by omega
    have h2 : u / 8 ≤ 536870911 := by omega
    have h3 : u % 8 ≤ 5 := by omega
    clear h
    go_enter Tryd.func55, Tryd.ntmps55
    go_wp2
    all_goals
      first
      | (exfalso; omega)
      | (exfalso; simp only [beq_iff_eq] at *; omega)
      | (refine bodyPost_ret (v := .tuple #[.int .i64 (u / 8 : Nat), .int .i64 (u % 8 : Nat), .int .i64 0]) (by simp [results, Tryd.results55, go_sem]) rfl ?_
         exact ⟨rfl, rfl⟩)
end Go.Proofs.YtnejachdacakcaaDoor
