/-
How many bytes Size tells: as many as Varint writes. Plain facts; nothing of any program stands here.
-/
import Derived.Test.YtnejachdacakcaaDoorWmathp
import Derived.Lib.BitFns
namespace Go.Proofs.YtnejachdacakcaaDoor

theorem bl_or1 (x : Nat) (h : 1 ≤ x) : Lib.bitLen (x ||| 1) = Lib.bitLen x := by
  unfold Lib.bitLen
  have e : (x ||| 1) / 2 = x / 2 := by rw [Nat.or_div_two]; simp
  have h1 : x ||| 1 ≠ 0 := by
    have := Nat.left_le_or (n := x) (m := 1)
    omega
  show Lib.bitLenAux (63 + 1) (x ||| 1) = Lib.bitLenAux (63 + 1) x
  unfold Lib.bitLenAux
  rw [if_neg h1, if_neg (by omega), e]

theorem bl_small : ∀ n : Fin 128, (Lib.bitLen (n.val ||| 1) + 6) / 7 = 1 := by decide +kernel

theorem size_len : ∀ f u, u < 128 ^ (f + 1) → u < 18446744073709551616 → (Lib.bitLen (u ||| 1) + 6) / 7 = (W.vb f u).length
  | 0, u => by
    intro h _
    exact bl_small ⟨u, by simpa using h⟩
  | f + 1, u => by
    intro h hu
    unfold W.vb
    by_cases hlt : u < 128
    · rw [if_pos hlt]; exact bl_small ⟨u, hlt⟩
    · rw [if_neg hlt]
      have hge : 2 ^ 7 ≤ u ||| 1 := by have := Nat.left_le_or (n := u) (m := 1); omega
      have hl : u ||| 1 < 2 ^ 64 := Nat.or_lt_two_pow (n := 64) (show u < 2 ^ 64 from hu) (by decide)
      have hd : (u ||| 1) / 2 ^ 7 = u / 128 := by
        rw [← Nat.shiftRight_eq_div_pow, Nat.shiftRight_or_distrib, Nat.shiftRight_eq_div_pow, Nat.shiftRight_eq_div_pow]
        simp
      have hd2 : u / 128 < 128 ^ (f + 1) := by
        rw [Nat.pow_succ] at h
        exact Nat.div_lt_of_lt_mul (by rw [Nat.mul_comm]; exact h)
      rw [Lib.bitLen_shift 7 _ hge hl, hd, ← bl_or1 (u / 128) (by omega)]
      have := size_len f (u / 128) hd2 (by omega)
      simp only [List.length_cons]
      omega
end Go.Proofs.YtnejachdacakcaaDoor
