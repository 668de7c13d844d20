/-
The plain facts of chapter 2: the Huffman code of header texts, by numbers of bits; nothing of any program stands here.
-/
namespace Go.Proofs.YthdgcakbeiocgaaDoor
namespace H

/-- How many bits each symbol has. -/
def bl : List Nat :=
  [13, 23, 28, 28, 28, 28, 28, 28, 28, 24, 30, 28, 28, 30, 28, 28,
   28, 28, 28, 28, 28, 28, 30, 28, 28, 28, 28, 28, 28, 28, 28, 28,
   6, 10, 10, 12, 13, 6, 8, 11, 10, 10, 8, 11, 8, 6, 6, 6,
   5, 5, 5, 6, 6, 6, 6, 6, 6, 6, 7, 8, 15, 6, 12, 10,
   13, 6, 7, 7, 7, 7, 7, 7, 7, 7, 7, 7, 7, 7, 7, 7,
   7, 7, 7, 7, 7, 7, 7, 7, 8, 7, 8, 13, 19, 13, 14, 6,
   15, 5, 6, 5, 6, 5, 6, 6, 6, 5, 7, 7, 6, 6, 6, 5,
   6, 7, 6, 5, 5, 6, 7, 7, 7, 7, 7, 15, 11, 14, 13, 28,
   20, 22, 20, 20, 22, 22, 22, 23, 22, 23, 23, 23, 23, 23, 24, 23,
   24, 24, 22, 23, 24, 23, 23, 23, 23, 21, 22, 23, 22, 23, 23, 24,
   22, 21, 20, 22, 22, 23, 23, 21, 23, 22, 22, 24, 21, 22, 23, 23,
   21, 21, 22, 21, 23, 22, 23, 23, 20, 22, 22, 22, 23, 22, 22, 23,
   26, 26, 20, 19, 22, 23, 22, 25, 26, 26, 26, 27, 27, 26, 24, 25,
   19, 21, 26, 27, 27, 26, 27, 24, 21, 21, 26, 26, 28, 27, 27, 27,
   20, 24, 20, 21, 22, 21, 21, 23, 22, 22, 25, 25, 24, 24, 26, 23,
   26, 27, 26, 26, 27, 27, 27, 27, 27, 28, 27, 27, 27, 27, 27, 26,
   30]

def b (i : Nat) : Nat := bl.getD i 5

theorem bl_len : bl.length = 257 := by decide +kernel
theorem b_bounds (i : Nat) : 5 ≤ b i ∧ b i ≤ 30 := by
  by_cases h : i < 257
  · have : ∀ i, i < 257 → 5 ≤ b i ∧ b i ≤ 30 := by decide +kernel
    exact this i h
  · have : b i = 5 := by
      unfold b
      rw [List.getD_eq_getElem?_getD, List.getElem?_eq_none (by rw [bl_len]; omega)]; rfl
    omega

/-- How many of the first i symbols have n bits. -/
def cnt (n : Nat) : Nat → Nat
  | 0 => 0
  | i + 1 => cnt n i + if b i = n then 1 else 0

/-- How many symbols have fewer than n bits. -/
def st : Nat → Nat
  | 0 => 0
  | n + 1 => st n + cnt n 257

/-- The first code of n bits. -/
def first : Nat → Nat
  | 0 => 0
  | n + 1 => (first n + cnt n 257) * 2

/-- A symbol's code. -/
def cod (i : Nat) : Nat := first (b i) + cnt (b i) i

theorem cnt_succ_self {i : Nat} : cnt (b i) (i + 1) = cnt (b i) i + 1 := by simp [cnt]
theorem cnt_mono (n : Nat) {i j : Nat} (h : i ≤ j) : cnt n i ≤ cnt n j := by
  induction j with
  | zero => rw [Nat.le_zero.1 h]; exact Nat.le_refl _
  | succ j ih =>
    by_cases e : i = j + 1
    · rw [e]; exact Nat.le_refl _
    · have h1 : cnt n (j + 1) = cnt n j + if b j = n then 1 else 0 := rfl
      have := ih (by omega)
      omega
theorem cnt_le (n i : Nat) : cnt n i ≤ i := by
  induction i with
  | zero => exact Nat.le_refl _
  | succ i ih =>
    have h1 : cnt n (i + 1) = cnt n i + if b i = n then 1 else 0 := rfl
    rw [h1]; split <;> omega
theorem cnt_lt {i j : Nat} (h : i < j) : cnt (b i) i < cnt (b i) j := by
  have := cnt_mono (b i) (show i + 1 ≤ j by omega)
  rw [cnt_succ_self] at this
  omega
theorem cnt_inj {i j : Nat} (hb : b i = b j) (h : cnt (b i) i = cnt (b j) j) : i = j := by
  rcases Nat.lt_trichotomy i j with h1 | h1 | h1
  · have := cnt_lt h1; rw [h, hb] at this; omega
  · exact h1
  · have := cnt_lt h1; rw [← h, ← hb] at this; omega
theorem cnt_find (n : Nat) : ∀ N j, j < cnt n N → ∃ i, i < N ∧ b i = n ∧ cnt n i = j
  | 0, j => by intro h; simp [cnt] at h
  | N + 1, j => by
    intro h
    by_cases h1 : j < cnt n N
    · obtain ⟨i, a, c, d⟩ := cnt_find n N j h1
      exact ⟨i, by omega, c, d⟩
    · have h2 : cnt n (N + 1) = cnt n N + if b N = n then 1 else 0 := rfl
      rw [h2] at h
      split at h
      · exact ⟨N, by omega, by assumption, by omega⟩
      · omega

def cntL : List Nat := [0, 0, 0, 0, 0, 10, 26, 32, 6, 0, 5, 3, 2, 6, 2, 3, 0, 0, 0, 3, 8, 13, 26, 29, 12, 4, 15, 19, 29, 0, 4]
theorem cnt_tab : ∀ n, n < 31 → cnt n 257 = cntL.getD n 0 := by decide +kernel
def fsL : List Nat := [0, 0, 0, 0, 0, 0, 20, 92, 248, 508, 1016, 2042, 4090, 8184, 16380, 32764, 65534, 131068, 262136, 524272, 1048550, 2097116, 4194258, 8388568, 16777194, 33554412, 67108832, 134217694, 268435426, 536870910, 1073741820, 2147483648]
def stL : List Nat := [0, 0, 0, 0, 0, 0, 10, 36, 68, 74, 74, 79, 82, 84, 90, 92, 95, 95, 95, 95, 98, 106, 119, 145, 174, 186, 190, 205, 224, 253, 253, 257]
theorem first_tab : ∀ n, n < 32 → first n = fsL.getD n 0
  | 0, _ => rfl
  | n + 1, h => by
    have e : first (n + 1) = (first n + cnt n 257) * 2 := rfl
    rw [e, first_tab n (by omega), cnt_tab n (by omega)]
    exact (show ∀ n, n < 31 → (fsL.getD n 0 + cntL.getD n 0) * 2 = fsL.getD (n + 1) 0 by decide +kernel) n (by omega)
theorem st_tab : ∀ n, n < 32 → st n = stL.getD n 0
  | 0, _ => rfl
  | n + 1, h => by
    have e : st (n + 1) = st n + cnt n 257 := rfl
    rw [e, st_tab n (by omega), cnt_tab n (by omega)]
    exact (show ∀ n, n < 31 → (stL.getD n 0 + cntL.getD n 0) = stL.getD (n + 1) 0 by decide +kernel) n (by omega)
theorem first_cnt (n : Nat) (h : n ≤ 30) : first n + cnt n 257 ≤ 2 ^ n := by
  rw [first_tab n (by omega), cnt_tab n (by omega)]
  exact (show ∀ n, n < 31 → fsL.getD n 0 + cntL.getD n 0 ≤ 2 ^ n by decide +kernel) n (by omega)
theorem first_30 : first 30 + cnt 30 257 = 2 ^ 30 := by
  rw [first_tab 30 (by omega), cnt_tab 30 (by omega)]; decide
theorem first_31 : first 31 = 2 ^ 31 := by rw [first_tab 31 (by omega)]; decide
theorem first_lt (n : Nat) (h : n ≤ 31) : first n ≤ 2 ^ n := by
  rw [first_tab n (by omega)]
  exact (show ∀ n, n < 32 → fsL.getD n 0 ≤ 2 ^ n by decide +kernel) n (by omega)
theorem st_31 : st 31 = 257 := by rw [st_tab 31 (by omega)]; decide
theorem st_mono {n m : Nat} (h : n ≤ m) : st n ≤ st m := by
  induction m with
  | zero => rw [Nat.le_zero.1 h]; exact Nat.le_refl _
  | succ m ih =>
    by_cases e : n = m + 1
    · rw [e]; exact Nat.le_refl _
    · have h1 : st (m + 1) = st m + cnt m 257 := rfl
      have := ih (by omega)
      omega
theorem st_le (n : Nat) (h : n ≤ 31) : st n ≤ 257 := by rw [← st_31]; exact st_mono h

theorem cod_lt (i : Nat) (h : i < 257) : cod i < 2 ^ b i := by
  have h1 := cnt_lt h
  have h2 := first_cnt (b i) (b_bounds i).2
  unfold cod
  omega
theorem cod_lt32 (i : Nat) (h : i < 257) : cod i < 1073741824 := by
  have h1 := cod_lt i h
  have h2 : 2 ^ b i ≤ 2 ^ 30 := Nat.pow_le_pow_right (by omega) (b_bounds i).2
  have e : (2 : Nat) ^ 30 = 1073741824 := by decide
  omega

/-- The symbol of a code of n bits. -/
def sym (c n : Nat) : Option Nat := (List.range 257).find? fun i => b i == n && cod i == c

theorem sym_some {c n i : Nat} (h : sym c n = some i) : i < 257 ∧ b i = n ∧ cod i = c := by
  have h1 := List.find?_some h
  have h2 := List.mem_of_find?_eq_some h
  simp at h1 h2
  exact ⟨h2, h1.1, h1.2⟩
theorem cod_inj {i j : Nat} (hb : b i = b j) (h : cod i = cod j) : i = j := by
  unfold cod at h
  rw [hb] at h
  exact cnt_inj hb (by rw [hb]; omega)
theorem sym_mk {i : Nat} (h : i < 257) : sym (cod i) (b i) = some i := by
  cases hs : sym (cod i) (b i) with
  | none =>
    have := List.find?_eq_none.1 hs i (by simpa using h)
    simp at this
  | some j =>
    obtain ⟨h1, h2, h3⟩ := sym_some hs
    rw [cod_inj h2 h3]
theorem sym_none_ge {c n : Nat} (h : first n + cnt n 257 ≤ c) : sym c n = none := by
  cases hs : sym c n with
  | none => rfl
  | some j =>
    obtain ⟨h1, h2, h3⟩ := sym_some hs
    have := cnt_lt h1
    rw [h2] at this
    unfold cod at h3
    rw [h2] at h3
    omega
theorem sym_none_small {c n : Nat} (h : n < 5) : sym c n = none := by
  cases hs : sym c n with
  | none => rfl
  | some j =>
    obtain ⟨h1, h2, h3⟩ := sym_some hs
    have := (b_bounds j).1
    omega
theorem sym_none {c n : Nat} (hf : first n ≤ c) (h : sym c n = none) : first n + cnt n 257 ≤ c := by
  refine Nat.le_of_not_lt fun hlt => ?_
  obtain ⟨i, h1, h2, h3⟩ := cnt_find n 257 (c - first n) (by omega)
  have := sym_mk h1
  unfold cod at this
  rw [h2, h3, show first n + (c - first n) = c from by omega, h] at this
  cases this

/-- What holds of a code in the making: no code is its beginning. -/
def Mid (c n : Nat) : Prop := c < 2 ^ n ∧ n ≤ 29 ∧ first n + cnt n 257 ≤ c

theorem first5 : ∀ n, n < 5 → first n + cnt n 257 = 0 := by
  intro n h
  rw [first_tab n (by omega), cnt_tab n (by omega)]
  exact (show ∀ n, n < 5 → fsL.getD n 0 + cntL.getD n 0 = 0 by decide) n h
theorem mid0 : Mid 0 0 := ⟨by decide, by decide, by rw [first5 0 (by omega)]; omega⟩
theorem Mid.ge {c n x : Nat} (h : Mid c n) : first (n + 1) ≤ c * 2 + x := by
  have : first (n + 1) = (first n + cnt n 257) * 2 := rfl
  have := h.2.2
  omega
theorem Mid.lt {c n x : Nat} (h : Mid c n) (hx : x < 2) : c * 2 + x < 2 ^ (n + 1) := by
  have := h.1
  rw [Nat.pow_succ]
  omega
theorem Mid.step {c n x : Nat} (h : Mid c n) (hx : x < 2) (hs : sym (c * 2 + x) (n + 1) = none) : Mid (c * 2 + x) (n + 1) := by
  have hg : first (n + 1) ≤ c * 2 + x := h.ge
  have hl := h.lt hx
  have h1 := sym_none hg hs
  refine ⟨hl, ?_, h1⟩
  refine Nat.le_of_not_lt fun h2 => ?_
  have e : n + 1 = 30 := by have := h.2.1; omega
  rw [e] at h1 hl
  rw [first_30] at h1
  omega

/-- The place of a symbol among all, by rising codes. -/
def place (i : Nat) : Nat := st (b i) + cnt (b i) i
theorem place_lt {i : Nat} (h : i < 257) : place i < st (b i + 1) := by
  have : st (b i + 1) = st (b i) + cnt (b i) 257 := rfl
  have := cnt_lt h
  unfold place
  omega
theorem place_lt257 {i : Nat} (h : i < 257) : place i < 257 := by
  have := place_lt h
  have := st_le (b i + 1) (by have := (b_bounds i).2; omega)
  omega
theorem place_inj {i j : Nat} (hi : i < 257) (hj : j < 257) (h : place i = place j) : i = j := by
  have h1 := place_lt hi
  have h2 := place_lt hj
  rcases Nat.lt_trichotomy (b i) (b j) with hb | hb | hb
  · have := st_mono (show b i + 1 ≤ b j by omega)
    have : st (b j) ≤ place j := Nat.le_add_right _ _
    omega
  · refine cnt_inj hb ?_
    unfold place at h
    rw [hb] at h
    rw [hb]
    omega
  · have := st_mono (show b j + 1 ≤ b i by omega)
    have : st (b i) ≤ place i := Nat.le_add_right _ _
    omega

/-- The symbols by their places, once i of them are laid. -/
def ord : Nat → Nat → Nat
  | 0, _ => 0
  | i + 1, p => if p = place i then i else ord i p
theorem ord_le : ∀ i p, ord i p ≤ i
  | 0, _ => Nat.le_refl _
  | i + 1, p => by
    unfold ord
    split
    · omega
    · have := ord_le i p; omega
theorem ord_place : ∀ N, N ≤ 257 → ∀ i, i < N → ord N (place i) = i
  | 0, _, i, h => by omega
  | N + 1, hN, i, h => by
    unfold ord
    by_cases e : i = N
    · rw [e, if_pos rfl]
    · rw [if_neg fun h2 => e (place_inj (by omega) (by omega) h2)]
      exact ord_place N (by omega) i (by omega)

/-- What the table of places says of a code is what sym says. -/
theorem sym_ord {c n : Nat} (hf : first n ≤ c) (h : st n + (c - first n) < st (n + 1)) : sym c n = some (ord 257 (st n + (c - first n))) := by
  have e : st (n + 1) = st n + cnt n 257 := rfl
  obtain ⟨i, h1, h2, h3⟩ := cnt_find n 257 (c - first n) (by omega)
  have hp : place i = st n + (c - first n) := by unfold place; rw [h2, h3]
  rw [← hp, ord_place 257 (Nat.le_refl _) i h1]
  have := sym_mk h1
  unfold cod at this
  rw [h2, h3, show first n + (c - first n) = c from by omega] at this
  exact this
theorem sym_ord_none {c n : Nat} (hf : first n ≤ c) (h : ¬ st n + (c - first n) < st (n + 1)) : sym c n = none := by
  have e : st (n + 1) = st n + cnt n 257 := rfl
  exact sym_none_ge (by omega)

end H
end Go.Proofs.YthdgcakbeiocgaaDoor
