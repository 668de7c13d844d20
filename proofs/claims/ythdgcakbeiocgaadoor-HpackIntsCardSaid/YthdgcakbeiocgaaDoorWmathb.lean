/-
The plain functions of chapter 1's writing side, on lists of bytes; nothing of any program stands here.
-/
import Derived.Test.YthdgcakbeiocgaaDoorWmath
namespace Go.Proofs.YthdgcakbeiocgaaDoor
namespace W

/-- A number's bytes, seven bits a byte, with fuel. -/
def vb : Nat → Nat → List Nat
  | 0, u => [u]
  | f + 1, u => if u < 128 then [u] else (u % 128 + 128) :: vb f (u / 128)

/-- Varint's bytes. -/
def vbs (u : Nat) : List Nat := vb 9 u

theorem vb_len : ∀ f u, 1 ≤ (vb f u).length ∧ (vb f u).length ≤ f + 1
  | 0, _ => by simp [vb]
  | f + 1, u => by
    unfold vb
    split
    · simp
    · have := vb_len f (u / 128); simp only [List.length_cons]; omega

theorem vb_lt : ∀ f u, u < 128 ^ (f + 1) → ∀ x ∈ vb f u, x < 256
  | 0, u => by intro h x hx; simp [vb] at hx; subst hx; simp at h; omega
  | f + 1, u => by
    intro h x hx
    unfold vb at hx
    split at hx
    · simp at hx; omega
    · rcases List.mem_cons.1 hx with rfl | hx
      · omega
      · refine vb_lt f (u / 128) ?_ x hx
        rw [Nat.pow_succ] at h
        exact Nat.div_lt_of_lt_mul (by rw [Nat.mul_comm]; exact h)

theorem vbs_lt (u : Nat) (h : u < 18446744073709551616) : ∀ x ∈ vbs u, x < 256 :=
  vb_lt 9 u (Nat.lt_of_lt_of_le h (by decide))

end W
end Go.Proofs.YthdgcakbeiocgaaDoor
