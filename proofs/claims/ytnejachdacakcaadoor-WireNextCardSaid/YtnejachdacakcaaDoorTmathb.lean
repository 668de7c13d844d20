/-
Which bytes are text, by the numbers of characters: the chapter's own words for the plain function; nothing of any program stands here.
-/
import Derived.Test.YtnejachdacakcaaDoorTmath
namespace Go.Proofs.YtnejachdacakcaaDoor
namespace T

/-- A byte that goes on. -/
def Co (x : Nat) : Prop := 128 ≤ x ∧ x ≤ 191
/-- A character's number that may be, of so much at least. -/
def Ok (least V : Nat) : Prop := least ≤ V ∧ V ≤ 1114111 ∧ ¬ (55296 ≤ V ∧ V ≤ 57343)

theorem q1 {l : List Nat} (h0 : l.length ≠ 0) (h : l.getD 0 0 < 128) : tx l = tx (l.drop 1) := by
  rw [tx_step h0]
  have : st l = 1 := by unfold st st4; rw [if_pos h]
  rw [this, if_neg (by omega)]

theorem q2 {l : List Nat} (h0 : l.length ≠ 0) (h1 : 192 ≤ l.getD 0 0) (h2 : l.getD 0 0 < 224) : (Co (l.getD 1 0) ∧ Ok 128 (l.getD 0 0 % 32 * 64 + l.getD 1 0 % 64) → tx l = tx (l.drop 2)) ∧ (¬ (Co (l.getD 1 0) ∧ Ok 128 (l.getD 0 0 % 32 * 64 + l.getD 1 0 % 64)) → tx l = false) := by
  unfold Co Ok
  by_cases hc : 194 ≤ l.getD 0 0
  · rw [lead2 h0 hc (by omega)]
    refine ⟨fun h => by rw [if_pos (by omega)], fun h => by rw [if_neg (by omega)]⟩
  · rw [lead0 h0 (by omega) (by omega)]
    exact ⟨fun h => by exfalso; omega, fun _ => rfl⟩

theorem q3 {l : List Nat} (h0 : l.length ≠ 0) (h1 : 224 ≤ l.getD 0 0) (h2 : l.getD 0 0 < 240) :
    (Co (l.getD 1 0) ∧ Co (l.getD 2 0) ∧ Ok 2048 ((l.getD 0 0 % 16 * 64 + l.getD 1 0 % 64) * 64 + l.getD 2 0 % 64) → tx l = tx (l.drop 3)) ∧
    (¬ (Co (l.getD 1 0) ∧ Co (l.getD 2 0) ∧ Ok 2048 ((l.getD 0 0 % 16 * 64 + l.getD 1 0 % 64) * 64 + l.getD 2 0 % 64)) → tx l = false) := by
  unfold Co Ok
  rw [lead3 h0 h1 (by omega)]
  unfold lo3 hi3
  constructor
  · intro h
    rw [if_pos (by split <;> split <;> omega)]
  · intro h
    rw [if_neg (by split <;> split <;> omega)]

theorem q4 {l : List Nat} (h0 : l.length ≠ 0) (h1 : 240 ≤ l.getD 0 0) (h2 : l.getD 0 0 < 248) :
    (Co (l.getD 1 0) ∧ Co (l.getD 2 0) ∧ Co (l.getD 3 0) ∧ Ok 65536 (((l.getD 0 0 % 8 * 64 + l.getD 1 0 % 64) * 64 + l.getD 2 0 % 64) * 64 + l.getD 3 0 % 64) → tx l = tx (l.drop 4)) ∧
    (¬ (Co (l.getD 1 0) ∧ Co (l.getD 2 0) ∧ Co (l.getD 3 0) ∧ Ok 65536 (((l.getD 0 0 % 8 * 64 + l.getD 1 0 % 64) * 64 + l.getD 2 0 % 64) * 64 + l.getD 3 0 % 64)) → tx l = false) := by
  unfold Co Ok
  by_cases hc : l.getD 0 0 ≤ 244
  · rw [lead4 h0 h1 hc]
    unfold lo4 hi4
    constructor
    · intro h
      rw [if_pos (by split <;> split <;> omega)]
    · intro h
      rw [if_neg (by split <;> split <;> omega)]
  · rw [lead0 h0 (by omega) (by omega)]
    exact ⟨fun h => by exfalso; omega, fun _ => rfl⟩

theorem q0 {l : List Nat} (h0 : l.length ≠ 0) (h1 : 128 ≤ l.getD 0 0) (h2 : l.getD 0 0 < 192 ∨ 248 ≤ l.getD 0 0) : tx l = false := lead0 h0 h1 (by omega)

theorem getD_drop (l : List Nat) (p j : Nat) : (l.drop p).getD j 0 = l.getD (p + j) 0 := by
  rw [List.getD_eq_getElem?_getD, List.getElem?_drop, ← List.getD_eq_getElem?_getD]

theorem co_div (x : Nat) (h : x < 256) : Co x ↔ x / 64 * 64 = 128 := by unfold Co; omega
end T
end Go.Proofs.YtnejachdacakcaaDoor
