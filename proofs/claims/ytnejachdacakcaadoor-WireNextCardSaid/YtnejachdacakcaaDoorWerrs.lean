/-
Chapter 1's errors and the thirty: what parleysee.Is says of one of them; what Tag and Untag answer, and the reference, whatever is asked of them.
-/
import Derived.Test.YtnejachdacakcaaDoorGis
import Derived.Test.YtnejachdacakcaaDoorWrefb
import Derived.Test.YtnejachdacakcaaDoorWrefd
import Derived.Test.YtnejachdacakcaaDoorWput
namespace Go.Proofs.YtnejachdacakcaaDoor
open Go.RowKit

theorem errs_of_all {w : World} {E : Nat → Addr} (h : ErrsAll w E egs) : Errs w E :=
  ⟨egs_cell h 1 (by omega), egs_cell h 0 (by omega), egs_cell h 19 (by omega), egs_cell h 2 (by omega), egs_cell h 3 (by omega), egs_cell h 4 (by omega)⟩

/-- Which of the thirty a place is. -/
def ix (k : Nat) : Option Nat := if k = 0 then none else if k = 2 + 1 then some 0 else if k = 1 + 1 then some 1 else if k = 3 + 1 then some 2 else if k = 0 + 1 then some 3 else if k = 6 + 1 then some 4 else some 19
/-- The places that chapter 1 answers. -/
def Good (k : Nat) : Prop := k = 0 ∨ k = 2 + 1 ∨ k = 1 + 1 ∨ k = 3 + 1 ∨ k = 0 + 1 ∨ k = 6 + 1 ∨ k = 7 + 1

theorem er_ix {E : Nat → Addr} {k : Nat} (h : Good k) : er E k = oV E (ix k) := by
  rcases h with rfl | rfl | rfl | rfl | rfl | rfl | rfl <;> rfl
theorem cd_ix {k : Nat} (h : Good k) : cd k = oC (ix k) := by
  rcases h with rfl | rfl | rfl | rfl | rfl | rfl | rfl <;> rfl
theorem ix_lt (k : Nat) : ∀ i, ix k = some i → i < 30 := by
  intro i h
  unfold ix at h
  repeat' split at h
  all_goals (cases h <;> omega)

/-- Is, asked of an error of chapter 1 and of its own number. -/
theorem is_er {E : Nat → Addr} {k : Nat} (h : Good k) (w : World) (hE : ErrsAll w E egs) :
    Calls Tryd.prog 15 #[er E k, .int .i64 (cd k)] w fun e w' => e = .returned (.bool true) ∧ Below w.heap.size w w' := by
  rw [er_ix h, cd_ix h]
  refine (Is_any (ix k) _ w hE (ix_lt k)).mono ?_
  rintro e w' ⟨rfl, hb⟩
  exact ⟨by rw [decide_eq_true rfl], hb⟩

theorem good_uv (l : List Nat) : Good (W.uvA l).2.2 := by
  by_cases h : (W.uvA l).2.2 = 0
  · exact Or.inl h
  · obtain ⟨_, _, h3⟩ := W.uv_err l 0 0 h
    rcases h3 with h3 | h3
    · exact Or.inr (Or.inr (Or.inl h3))
    · exact Or.inr (Or.inl h3)
theorem good_ufx (m : Nat) (l : List Nat) : Good (W.ufx m l).2.2 := by
  unfold W.ufx
  split
  · exact Or.inr (Or.inl rfl)
  · exact Or.inl rfl
theorem good_untag (u : Nat) : Good (W.untag u).2.2 := by
  unfold W.untag
  split
  · exact Or.inr (Or.inr (Or.inr (Or.inl rfl)))
  · exact Or.inl rfl

/-- Tag, whatever is asked. -/
theorem tag_all (f kd : Int) : ∃ (T : Int) (c : Nat), Good c ∧
    (∀ (E : Nat → Addr) (w : World), Errs w E → Calls Tryd.prog 25 #[.int .i64 f, .int .i64 kd] w fun e w' => e = .returned (.tuple #[.int .u64 T, er E c]) ∧ ∃ q, w' = w.drewN q) ∧
    (∀ (w : World), Calls Tryd.prog 42 #[.int .i64 f, .int .i64 kd] w fun e w' => e = .returned (.tuple #[.int .u64 T, .int .i64 (cd c)]) ∧ w = w') := by
  by_cases h : f < 1 ∨ 536870911 < f ∨ kd < 0 ∨ 5 < kd
  · exact ⟨0, 3 + 1, Or.inr (Or.inr (Or.inr (Or.inl rfl))), fun E w hE => tag_no f kd E w hE h, fun w => refTag_no f kd w h⟩
  · obtain ⟨F, rfl⟩ : ∃ F : Nat, f = F := ⟨f.toNat, by omega⟩
    obtain ⟨K, rfl⟩ : ∃ K : Nat, kd = K := ⟨kd.toNat, by omega⟩
    refine ⟨(F : Int) * 8 + K, 0, Or.inl rfl, fun E w _ => (tag_ok F K w (by omega) (by omega) (by omega)).mono ?_, fun w => refTag_yes F K w h⟩
    rintro e w' ⟨rfl, rfl⟩
    exact ⟨by push_cast; rfl, 0, rfl⟩

/-- Untag of the reference, as the program's. -/
theorem refUntag_all (u : Nat) (w : World) (hu : u < 18446744073709551616) :
    Calls Tryd.prog 55 #[.int .u64 u] w fun e w' => e = .returned (.tuple #[.int .i64 ((W.untag u).1 : Nat), .int .i64 ((W.untag u).2.1 : Nat), .int .i64 (cd (W.untag u).2.2)]) ∧ w = w' := by
  refine (refUntag_any u w hu).mono ?_
  rintro e w' ⟨rfl, rfl⟩
  refine ⟨?_, rfl⟩
  unfold W.untag
  split <;> rfl
end Go.Proofs.YtnejachdacakcaaDoor
