/-
The plain functions of chapter 1 for lists of records, on lists of bytes; nothing of any program stands here.
-/
import Derived.Test.YthipecjjmboecaaDoorWmathb
namespace Go.Proofs.YthipecjjmboecaaDoor
namespace W

theorem nextF_ok {lv : Nat} {l : List Nat} (h : (nextF lv l).2.2.2.2.2 = 0) : 0 < (nextF lv l).2.2.2.2.1 ∧ (nextF lv l).2.2.2.2.1 ≤ l.length := by
  unfold nextF at h ⊢
  split at h
  · exact absurd h (by assumption)
  · split at h
    · exact absurd h (by assumption)
    · rename_i h1 h2
      rw [if_neg h1, if_neg h2]
      have a := tg_ok (l := l) (by simpa using h1)
      have b := bodyF_fits lv (tg l).2.1 (l.drop (tg l).2.2.1) (tg l).1 (by simpa using h2)
      rw [List.length_drop] at b
      simp only
      omega

theorem nextF_err {lv : Nat} {l : List Nat} {k : Nat} (h : (nextF lv l).2.2.2.2.2 = k + 1) : nextF lv l = (0, 0, 0, [], 0, k + 1) := by
  unfold nextF at h ⊢
  split at h
  · rename_i h1; rw [if_pos h1]; simp only at h; rw [h]
  · rename_i h1
    rw [if_neg h1]
    split at h
    · rename_i h2; rw [if_pos h2]; simp only at h; rw [h]
    · simp at h

theorem loopF_bytes (body : Nat → List Nat → Nat → Nat × List Nat × Nat × Nat) (field : Nat) (l : List Nat) : ∀ n at_, (loopF body field l n at_).2.1.length ≤ l.length
  | 0, _ => by simp [loopF]
  | n + 1, at_ => by
    obtain ⟨f, k, s, e, h⟩ : ∃ f k s e, tg (l.drop at_) = (f, k, s, e) := ⟨_, _, _, _, rfl⟩
    rw [loopF_step body field l n at_ f k s e h]
    split
    · simp
    · split
      · simp only [List.length_take]; omega
      · split
        · simp
        · exact loopF_bytes body field l n _

theorem rb_bytes (l : List Nat) : (rb l).2.1.length ≤ l.length := by
  unfold rb
  split
  · simp
  · split
    · simp
    · simp only [List.length_take, List.length_drop]; omega

theorem bodyF_bytes (lv k : Nat) (l : List Nat) (f : Nat) : (bodyF lv k l f).2.1.length ≤ l.length := by
  rw [bodyF_eq]
  unfold flat
  by_cases h0 : k = 0
  · rw [if_pos h0]; simp
  rw [if_neg h0]
  by_cases h1 : k = 1
  · rw [if_pos h1]; simp
  rw [if_neg h1]
  by_cases h2 : k = 2
  · rw [if_pos h2]; exact rb_bytes l
  rw [if_neg h2]
  by_cases h3 : k = 3
  · rw [if_pos h3]
    cases lv with
    | zero => simp [groupF]
    | succ lv => exact loopF_bytes _ _ _ _ _
  rw [if_neg h3]
  by_cases h4 : k = 4
  · rw [if_pos h4]; simp
  rw [if_neg h4]; simp

theorem nextF_bytes (lv : Nat) (l : List Nat) : (nextF lv l).2.2.2.1.length ≤ l.length := by
  unfold nextF
  split
  · simp
  · split
    · simp
    · have := bodyF_bytes lv (tg l).2.1 (l.drop (tg l).2.2.1) (tg l).1
      rw [List.length_drop] at this
      simp only
      omega

/-- The first record that has an error: place and error; n: fuel. -/
def faultF (lv : Nat) (l : List Nat) : Nat → Nat → Nat × Nat
  | 0, _ => (0, 0)
  | n + 1, at_ =>
    if l.length ≤ at_ then (0, 0)
    else if (nextF lv (l.drop at_)).2.2.2.2.2 ≠ 0 then (at_, (nextF lv (l.drop at_)).2.2.2.2.2)
    else faultF lv l n (at_ + (nextF lv (l.drop at_)).2.2.2.2.1)

/-- Check's place and error. -/
def chk (lv : Nat) (l : List Nat) : Nat × Nat := faultF lv l (l.length + 1) 0

end W
end Go.Proofs.YthipecjjmboecaaDoor
