/-
The plain facts of chapter 2, third part: what the shifts of the writer and of the reader do to rows of bits.
-/
import Derived.Test.YthdgcakbeiocgaaDoorHbits
namespace Go.Proofs.YthdgcakbeiocgaaDoor
namespace H

theorem shl_div (x n : Nat) (hn : n ≤ 64) : x * 2 ^ n % 18446744073709551616 = x % 2 ^ (64 - n) * 2 ^ n := by
  have e : (18446744073709551616 : Nat) = 2 ^ (64 - n) * 2 ^ n := by rw [← Nat.pow_add, show 64 - n + n = 64 from by omega]
  rw [e, Nat.mul_mod_mul_right]

theorem mul_add_mod_lt (a b c : Nat) (hc : c < b) : (a * b + c) % b = c := by
  rw [Nat.add_comm, Nat.add_mul_mod_self_right, Nat.mod_eq_of_lt hc]

/-- A code is laid behind what is held. -/
theorem nb_lay (held n last c : Nat) (hn : held + n ≤ 64) (hc : c < 2 ^ n) : nb (held + n) (last * 2 ^ n % 18446744073709551616 + c) = nb held last ++ nb n c := by
  have hp : 0 < 2 ^ n := Nat.two_pow_pos n
  rw [nb_split, shl_div last n (by omega)]
  have e1 : (last % 2 ^ (64 - n) * 2 ^ n + c) / 2 ^ n = last % 2 ^ (64 - n) := by
    rw [Nat.mul_comm, Nat.mul_add_div hp, Nat.div_eq_of_lt hc, Nat.add_zero]
  rw [e1, nb_mod held (64 - n) last (by omega)]
  rw [← nb_mod n n (last % 2 ^ (64 - n) * 2 ^ n + c) (Nat.le_refl _), mul_add_mod_lt _ _ _ hc]

theorem lay_or (last n c : Nat) (hn : n ≤ 64) (hc : c < 2 ^ n) : (last * 2 ^ n % 18446744073709551616) ||| c = last * 2 ^ n % 18446744073709551616 + c := by
  rw [shl_div last n hn, Nat.mul_comm, Nat.two_pow_add_eq_or_of_lt hc]

/-- A byte is taken off the front. -/
theorem nb_off (held last : Nat) (h : 8 ≤ held) : nb held last = nb 8 (last / 2 ^ (held - 8) % 256) ++ nb (held - 8) last := by
  have e := nb_split 8 (held - 8) last
  rw [show 8 + (held - 8) = held from by omega] at e
  rw [e]
  have := nb_mod 8 8 (last / 2 ^ (held - 8)) (Nat.le_refl _)
  rw [show (2 : Nat) ^ 8 = 256 from by decide] at this
  rw [this]

/-- The last byte: what is held, and 1s behind it. -/
theorem nb_last (held last : Nat) (h : held ≤ 8) : nb 8 ((last * 2 ^ (8 - held) % 256) ||| (2 ^ (8 - held) - 1)) = nb held last ++ List.replicate (8 - held) true := by
  have hp : 0 < 2 ^ (8 - held) := Nat.two_pow_pos _
  have e1 : last * 2 ^ (8 - held) % 256 = last % 2 ^ held * 2 ^ (8 - held) := by
    have e : (256 : Nat) = 2 ^ held * 2 ^ (8 - held) := by rw [← Nat.pow_add, show held + (8 - held) = 8 from by omega]
    rw [e, Nat.mul_mod_mul_right]
  rw [e1, Nat.mul_comm, ← Nat.two_pow_add_eq_or_of_lt (by omega), Nat.mul_comm]
  have e2 := nb_split held (8 - held) (last % 2 ^ held * 2 ^ (8 - held) + (2 ^ (8 - held) - 1))
  rw [show held + (8 - held) = 8 from by omega] at e2
  rw [e2]
  have e3 : (last % 2 ^ held * 2 ^ (8 - held) + (2 ^ (8 - held) - 1)) / 2 ^ (8 - held) = last % 2 ^ held := by
    rw [Nat.mul_comm, Nat.mul_add_div hp, Nat.div_eq_of_lt (by omega), Nat.add_zero]
  rw [e3, nb_mod held held last (Nat.le_refl _), ← nb_mod (8 - held) (8 - held) (last % 2 ^ held * 2 ^ (8 - held) + (2 ^ (8 - held) - 1)) (Nat.le_refl _)]
  rw [Nat.add_comm, Nat.add_mul_mod_self_right, Nat.mod_eq_of_lt (by omega), nb_ones]

/-- What is held lies below. -/
theorem nb_keep (held last : Nat) : nb held (last % 2 ^ held) = nb held last := nb_mod held held last (Nat.le_refl _)

/-- The bit that is read next. -/
def bitAt (l : List Nat) (A : Nat) : Nat := l.getD (A / 8) 0 / 2 ^ (7 - A % 8) % 2
theorem bitAt_lt (l : List Nat) (A : Nat) : bitAt l A < 2 := Nat.mod_lt _ (by decide)
theorem drop_bit (l : List Nat) (A : Nat) (h : A < 8 * l.length) : (bb l).drop A = (bitAt l A == 1) :: (bb l).drop (A + 1) := by
  have h2 : A < (bb l).length := by rw [bb_len]; exact h
  rw [List.drop_eq_getElem_cons h2]
  have := bb_get l A h
  rw [List.getElem?_eq_getElem h2] at this
  rw [Option.some.inj this]
  rfl
theorem dec_read (l : List Nat) (A c n : Nat) (h : A < 8 * l.length) : dec ((bb l).drop A) c n = match sym (c * 2 + bitAt l A) (n + 1) with
    | none => dec ((bb l).drop (A + 1)) (c * 2 + bitAt l A) (n + 1)
    | some i => if i = 256 then none else (dec ((bb l).drop (A + 1)) 0 0).map (i :: ·) := by
  rw [drop_bit l A h, dec_cons]
  have e : (if (bitAt l A == 1) = true then 1 else 0) = bitAt l A := by
    have := bitAt_lt l A
    by_cases h1 : bitAt l A = 1
    · rw [if_pos (by simp [h1]), h1]
    · rw [if_neg (by simp [h1])]; omega
  rw [e]
  rfl
theorem dec_end (l : List Nat) (c n : Nat) : dec ((bb l).drop (8 * l.length)) c n = if n < 8 ∧ c = 2 ^ n - 1 then some [] else none := by
  rw [List.drop_of_length_le (by rw [bb_len]; exact Nat.le_refl _)]
  rfl
theorem map_app (t _u : List Nat) (x : Option (List Nat)) (i : Nat) : (x.map (i :: ·)).map (t ++ ·) = x.map ((t ++ [i]) ++ ·) := by
  cases x <;> simp
end H
end Go.Proofs.YthdgcakbeiocgaaDoor
