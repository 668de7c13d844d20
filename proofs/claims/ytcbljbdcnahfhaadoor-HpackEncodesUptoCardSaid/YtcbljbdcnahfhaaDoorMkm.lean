/-
The plain functions of chapter 4 (header lists, compressed), on lists of bytes: numbers with a prefix, texts; nothing of any program stands here.
-/
import Derived.Test.YtcbljbdcnahfhaaDoorMw
import Derived.Test.YtcbljbdcnahfhaaDoorMha
/- Kmath -/
namespace Go.Proofs.YtcbljbdcnahfhaaDoor
namespace P

/-- A prefix that is all 1. -/
def full (bits : Nat) : Nat := 2 ^ bits - 1
/-- A number's bytes. -/
def put (first bits n : Nat) : List Nat := if n < full bits then [first + n] else (first + full bits) :: W.vbs (n - full bits)

/-- What goes on behind a prefix that is all 1, from byte i on: number, place behind it, the error's place in the document. -/
def more : List Nat → Nat → Nat → Nat × Nat × Option Nat
  | [], i, _ => if i = 6 then (0, 0, some 1) else (0, 0, some 0)
  | c :: r, i, n =>
    if i = 6 then (0, 0, some 1)
    else if 128 ≤ c then more r (i + 1) (n + c % 128 * 2 ^ (7 * (i - 1)))
    else if 2147483647 < n + c % 128 * 2 ^ (7 * (i - 1)) then (0, 0, some 1)
    else (n + c % 128 * 2 ^ (7 * (i - 1)), i + 1, none)
/-- The number that bytes begin with. -/
def get (bits : Nat) : List Nat → Nat × Nat × Option Nat
  | [] => (0, 0, some 0)
  | c :: r => if c % 2 ^ bits < full bits then (c % 2 ^ bits, 1, none) else more r 1 (c % 2 ^ bits)
/-- .. with a prefix of any number of bits. -/
def getI (bits : Int) (l : List Nat) : Nat × Nat × Option Nat := if 1 ≤ bits ∧ bits ≤ 8 then get bits.toNat l else (0, 0, some 1)
/-- Bytes, and behind them a number, where it may be. -/
def may (first bits n : Int) : Prop := 1 ≤ bits ∧ bits ≤ 8 ∧ 0 ≤ n ∧ n ≤ 2147483647 ∧ 0 ≤ first ∧ first ≤ 255 ∧ first % 2 ^ bits.toNat = 0
instance (first bits n : Int) : Decidable (may first bits n) := by unfold may; infer_instance
def putI (first bits n : Int) : List Nat := if may first bits n then put first.toNat bits.toNat n.toNat else []

theorem full_le {b : Nat} (h : b ≤ 8) : full b ≤ 255 := by
  unfold full
  have : 2 ^ b ≤ 2 ^ 8 := Nat.pow_le_pow_right (by omega) h
  omega
theorem full_pos {b : Nat} (h : 1 ≤ b) : 1 ≤ full b := by
  unfold full
  have : 2 ^ 1 ≤ 2 ^ b := Nat.pow_le_pow_right (by omega) h
  omega

theorem more_ok : ∀ (l : List Nat) (i n : Nat), (more l i n).2.2 = none → i < (more l i n).2.1 ∧ (more l i n).2.1 ≤ i + l.length ∧ (more l i n).1 ≤ 2147483647
  | [], i, n => by
    unfold more
    split <;> simp
  | c :: r, i, n => by
    unfold more
    split
    · simp
    · split
      · intro h
        have := more_ok r (i + 1) _ h
        simp only [List.length_cons]
        omega
      · split
        · simp
        · intro _
          simp only [List.length_cons]
          omega
theorem more_err : ∀ (l : List Nat) (i n : Nat), (more l i n).2.2 ≠ none → (more l i n).1 = 0 ∧ (more l i n).2.1 = 0 ∧ ((more l i n).2.2 = some 0 ∨ (more l i n).2.2 = some 1)
  | [], i, n => by
    unfold more
    split <;> simp
  | c :: r, i, n => by
    unfold more
    split
    · simp
    · split
      · exact more_err r (i + 1) _
      · split <;> simp
theorem get_cons (b c : Nat) (r : List Nat) : get b (c :: r) = if c % 2 ^ b < full b then (c % 2 ^ b, 1, none) else more r 1 (c % 2 ^ b) := rfl
theorem get_ok {b : Nat} {l : List Nat} (hb : b ≤ 8) (h : (get b l).2.2 = none) : 0 < (get b l).2.1 ∧ (get b l).2.1 ≤ l.length ∧ (get b l).1 ≤ 2147483647 := by
  cases l with
  | nil => simp [get] at h
  | cons c r =>
    have h1 : c % 2 ^ b < 2 ^ b := Nat.mod_lt _ (Nat.two_pow_pos b)
    have h2 : 2 ^ b ≤ 2 ^ 8 := Nat.pow_le_pow_right (by omega) hb
    rw [get_cons] at h ⊢
    by_cases hc : c % 2 ^ b < full b
    · rw [if_pos hc]
      simp only [List.length_cons]
      omega
    · rw [if_neg hc] at h ⊢
      have := more_ok r 1 _ h
      simp only [List.length_cons]
      omega
theorem get_err {b : Nat} {l : List Nat} (h : (get b l).2.2 ≠ none) : (get b l).1 = 0 ∧ (get b l).2.1 = 0 ∧ ((get b l).2.2 = some 0 ∨ (get b l).2.2 = some 1) := by
  cases l with
  | nil => simp [get]
  | cons c r =>
    rw [get_cons] at h ⊢
    by_cases hc : c % 2 ^ b < full b
    · rw [if_pos hc] at h
      exact absurd rfl h
    · rw [if_neg hc] at h ⊢
      exact more_err r 1 _ h

/-- A number is read back, whatever stands behind. -/
theorem more_vb (r : List Nat) : ∀ (f i u n : Nat), 1 ≤ i → u < 128 ^ (6 - i) → n + u * 2 ^ (7 * (i - 1)) ≤ 2147483647 → 6 - i ≤ f + 1 → i ≤ 5 →
    more (W.vb f u ++ r) i n = (n + u * 2 ^ (7 * (i - 1)), i + (W.vb f u).length, none)
  | 0, i, u, n => by
    intro h1 h2 h3 h4 h5
    obtain rfl : i = 5 := by omega
    have hu : u < 128 := by simpa using h2
    show more (u :: r) 5 n = _
    unfold more
    rw [if_neg (by omega), if_neg (by omega), Nat.mod_eq_of_lt hu, if_neg (by omega)]
    rfl
  | f + 1, i, u, n => by
    intro h1 h2 h3 h4 h5
    unfold W.vb
    by_cases hu : u < 128
    · rw [if_pos hu]
      show more (u :: r) i n = _
      unfold more
      rw [if_neg (by omega), if_neg (by omega), Nat.mod_eq_of_lt hu, if_neg (by omega)]
      rfl
    · rw [if_neg hu]
      have hi5 : i ≠ 5 := by
        rintro rfl
        simp at h2
        omega
      have e1 : 2 ^ (7 * (i + 1 - 1)) = 128 * 2 ^ (7 * (i - 1)) := by
        rw [show 7 * (i + 1 - 1) = 7 * (i - 1) + 7 by omega, Nat.pow_add]
        omega
      have e2 : n + u % 128 * 2 ^ (7 * (i - 1)) + u / 128 * (128 * 2 ^ (7 * (i - 1))) = n + u * 2 ^ (7 * (i - 1)) := by
        have : u % 128 * 2 ^ (7 * (i - 1)) + u / 128 * 128 * 2 ^ (7 * (i - 1)) = (u % 128 + u / 128 * 128) * 2 ^ (7 * (i - 1)) := by rw [Nat.add_mul]
        rw [Nat.add_assoc, ← Nat.mul_assoc, this]
        congr 2
        omega
      have h2' : u / 128 < 128 ^ (6 - (i + 1)) := by
        rw [show 6 - i = (6 - (i + 1)) + 1 by omega, Nat.pow_succ] at h2
        exact Nat.div_lt_of_lt_mul (by rw [Nat.mul_comm]; exact h2)
      have := more_vb r f (i + 1) (u / 128) (n + u % 128 * 2 ^ (7 * (i - 1))) (by omega) h2' (by rw [e1, e2]; exact h3) (by omega) (by omega)
      show more ((u % 128 + 128) :: (W.vb f (u / 128) ++ r)) i n = _
      rw [more, if_neg (by omega), if_pos (by omega), show (u % 128 + 128) % 128 = u % 128 by omega, this, e1, e2]
      simp only [List.length_cons]
      rw [show i + 1 + (W.vb f (u / 128)).length = i + ((W.vb f (u / 128)).length + 1) by omega]
theorem mod_add_of {first b n : Nat} (h : first % 2 ^ b = 0) (hn : n < 2 ^ b) : (first + n) % 2 ^ b = n := by
  rw [Nat.add_mod, h, Nat.zero_add, Nat.mod_mod, Nat.mod_eq_of_lt hn]
theorem get_put {first b n : Nat} (r : List Nat) (h1 : 1 ≤ b) (_hb : b ≤ 8) (hn : n ≤ 2147483647) (hf : first % 2 ^ b = 0) : get b (put first b n ++ r) = (n, (put first b n).length, none) := by
  have hp := Nat.two_pow_pos b
  have hfl : full b = 2 ^ b - 1 := rfl
  unfold put
  split
  · rename_i h
    show get b ((first + n) :: r) = _
    rw [get_cons, mod_add_of hf (by omega), if_pos h]
    rfl
  · rename_i h
    have hfp := full_pos h1
    show get b ((first + full b) :: (W.vbs (n - full b) ++ r)) = _
    rw [get_cons, mod_add_of hf (by omega), if_neg (by omega)]
    have := more_vb r 9 1 (n - full b) (full b) (by omega) (Nat.lt_of_le_of_lt (Nat.sub_le _ _) (Nat.lt_of_le_of_lt hn (by decide))) (by simp; omega) (by omega) (by omega)
    rw [show W.vbs (n - full b) = W.vb 9 (n - full b) from rfl, this]
    simp only [List.length_cons, Nat.sub_self, Nat.mul_zero, Nat.pow_zero, Nat.mul_one]
    rw [show full b + (n - full b) = n by omega, show 1 + (W.vb 9 (n - full b)).length = (W.vb 9 (n - full b)).length + 1 by omega]
theorem put_len (first b n : Nat) : 1 ≤ (put first b n).length ∧ (put first b n).length ≤ 11 := by
  unfold put
  split
  · simp
  · have := W.vb_len 9 (n - full b)
    simp only [List.length_cons, W.vbs]
    omega
theorem put_lt {first b n : Nat} (h : first + full b < 256) (hn : n ≤ 2147483647) : ∀ x ∈ put first b n, x < 256 := by
  intro x hx
  unfold put at hx
  split at hx
  · have : x = first + n := by simpa using hx
    omega
  · rcases List.mem_cons.1 hx with rfl | hx
    · exact h
    · exact W.vbs_lt _ (by omega) x hx
/-- The highest bits stay. -/
theorem put_head {first b n : Nat} : ∃ c r, put first b n = c :: r ∧ first ≤ c ∧ c ≤ first + full b := by
  unfold put
  split
  · exact ⟨_, _, rfl, by omega, by omega⟩
  · exact ⟨_, _, rfl, by omega, by omega⟩

/-- A text's bytes. -/
def putT (s : List Nat) : List Nat := if H.sz s < s.length then put 128 7 (H.sz s) ++ H.enc s else put 0 7 s.length ++ s
/-- The text that bytes begin with: it, how many bytes, the error's place. -/
def getT (l : List Nat) : List Nat × Nat × Option Nat :=
  match get 7 l with
  | (_, _, some e) => ([], 0, some e)
  | (n, k, none) =>
    if 16384 < n then ([], 0, some 1)
    else if l.length - k < n then ([], 0, some 0)
    else if l.headD 0 < 128 then ((l.drop k).take n, k + n, none)
    else match H.decB ((l.drop k).take n) with
      | none => ([], 0, some 6)
      | some t => (t, k + n, none)
theorem getT_ok {l : List Nat} (h : (getT l).2.2 = none) : 0 < (getT l).2.1 ∧ (getT l).2.1 ≤ l.length := by
  obtain ⟨n, k, e, hg⟩ : ∃ n k e, get 7 l = (n, k, e) := ⟨_, _, _, rfl⟩
  have hk := get_ok (b := 7) (l := l) (by omega)
  rw [hg] at hk
  unfold getT at h ⊢
  rw [hg] at h ⊢
  cases e with
  | some e => simp at h
  | none =>
    have hk := hk rfl
    simp only at hk h ⊢
    by_cases h1 : 16384 < n
    · rw [if_pos h1] at h; simp at h
    rw [if_neg h1] at h ⊢
    by_cases h2 : l.length - k < n
    · rw [if_pos h2] at h; simp at h
    rw [if_neg h2] at h ⊢
    by_cases h3 : l.headD 0 < 128
    · rw [if_pos h3]; simp only; omega
    · rw [if_neg h3] at h ⊢
      cases hd : H.decB ((l.drop k).take n) with
      | none => rw [hd] at h; simp at h
      | some t => simp only; omega
end P
end Go.Proofs.YtcbljbdcnahfhaaDoor
