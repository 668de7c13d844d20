/-
The plain facts of chapter 2: the Huffman code of header texts, by numbers of bits; nothing of any program stands here.
-/

/- Hmath -/
namespace Go.Proofs.YtcbljbdcnahfhaaDoor
namespace H

/-- How many bits each symbol has. -/
def bl : List Nat :=
  [13, 23, 28, 28, 28, 28, 28, 28, 28, 24, 30, 28, 28, 30, 28, 28,
   28, 28, 28, 28, 28, 28, 30, 28, 28, 28, 28, 28, 28, 28, 28, 28,
   6, 10, 10, 12, 13, 6, 8, 11, 10, 10, 8, 11, 8, 6, 6, 6,
   5, 5, 5, 6, 6, 6, 6, 6, 6, 6, 7, 8, 15, 6, 12, 10,
   13, 6, 7, 7, 7, 7, 7, 7, 7, 7, 7, 7, 7, 7, 7, 7,
   7, 7, 7, 7, 7, 7, 7, 7, 8, 7, 8, 13, 19, 13, 14, 6,
   15, 5, 6, 5, 6, 5, 6, 6, 6, 5, 7, 7, 6, 6, 6, 5,
   6, 7, 6, 5, 5, 6, 7, 7, 7, 7, 7, 15, 11, 14, 13, 28,
   20, 22, 20, 20, 22, 22, 22, 23, 22, 23, 23, 23, 23, 23, 24, 23,
   24, 24, 22, 23, 24, 23, 23, 23, 23, 21, 22, 23, 22, 23, 23, 24,
   22, 21, 20, 22, 22, 23, 23, 21, 23, 22, 22, 24, 21, 22, 23, 23,
   21, 21, 22, 21, 23, 22, 23, 23, 20, 22, 22, 22, 23, 22, 22, 23,
   26, 26, 20, 19, 22, 23, 22, 25, 26, 26, 26, 27, 27, 26, 24, 25,
   19, 21, 26, 27, 27, 26, 27, 24, 21, 21, 26, 26, 28, 27, 27, 27,
   20, 24, 20, 21, 22, 21, 21, 23, 22, 22, 25, 25, 24, 24, 26, 23,
   26, 27, 26, 26, 27, 27, 27, 27, 27, 28, 27, 27, 27, 27, 27, 26,
   30]

def b (i : Nat) : Nat := bl.getD i 5

theorem bl_len : bl.length = 257 := by decide +kernel
theorem b_bounds (i : Nat) : 5 ≤ b i ∧ b i ≤ 30 := by
  by_cases h : i < 257
  · have : ∀ i, i < 257 → 5 ≤ b i ∧ b i ≤ 30 := by decide +kernel
    exact this i h
  · have : b i = 5 := by
      unfold b
      rw [List.getD_eq_getElem?_getD, List.getElem?_eq_none (by rw [bl_len]; omega)]; rfl
    omega

/-- How many of the first i symbols have n bits. -/
def cnt (n : Nat) : Nat → Nat
  | 0 => 0
  | i + 1 => cnt n i + if b i = n then 1 else 0

/-- How many symbols have fewer than n bits. -/
def st : Nat → Nat
  | 0 => 0
  | n + 1 => st n + cnt n 257

/-- The first code of n bits. -/
def first : Nat → Nat
  | 0 => 0
  | n + 1 => (first n + cnt n 257) * 2

/-- A symbol's code. -/
def cod (i : Nat) : Nat := first (b i) + cnt (b i) i

theorem cnt_succ_self {i : Nat} : cnt (b i) (i + 1) = cnt (b i) i + 1 := by simp [cnt]
theorem cnt_mono (n : Nat) {i j : Nat} (h : i ≤ j) : cnt n i ≤ cnt n j := by
  induction j with
  | zero => rw [Nat.le_zero.1 h]; exact Nat.le_refl _
  | succ j ih =>
    by_cases e : i = j + 1
    · rw [e]; exact Nat.le_refl _
    · have h1 : cnt n (j + 1) = cnt n j + if b j = n then 1 else 0 := rfl
      have := ih (by omega)
      omega
theorem cnt_le (n i : Nat) : cnt n i ≤ i := by
  induction i with
  | zero => exact Nat.le_refl _
  | succ i ih =>
    have h1 : cnt n (i + 1) = cnt n i + if b i = n then 1 else 0 := rfl
    rw [h1]; split <;> omega
theorem cnt_lt {i j : Nat} (h : i < j) : cnt (b i) i < cnt (b i) j := by
  have := cnt_mono (b i) (show i + 1 ≤ j by omega)
  rw [cnt_succ_self] at this
  omega
theorem cnt_inj {i j : Nat} (hb : b i = b j) (h : cnt (b i) i = cnt (b j) j) : i = j := by
  rcases Nat.lt_trichotomy i j with h1 | h1 | h1
  · have := cnt_lt h1; rw [h, hb] at this; omega
  · exact h1
  · have := cnt_lt h1; rw [← h, ← hb] at this; omega
theorem cnt_find (n : Nat) : ∀ N j, j < cnt n N → ∃ i, i < N ∧ b i = n ∧ cnt n i = j
  | 0, j => by intro h; simp [cnt] at h
  | N + 1, j => by
    intro h
    by_cases h1 : j < cnt n N
    · obtain ⟨i, a, c, d⟩ := cnt_find n N j h1
      exact ⟨i, by omega, c, d⟩
    · have h2 : cnt n (N + 1) = cnt n N + if b N = n then 1 else 0 := rfl
      rw [h2] at h
      split at h
      · exact ⟨N, by omega, by assumption, by omega⟩
      · omega

def cntL : List Nat := [0, 0, 0, 0, 0, 10, 26, 32, 6, 0, 5, 3, 2, 6, 2, 3, 0, 0, 0, 3, 8, 13, 26, 29, 12, 4, 15, 19, 29, 0, 4]
theorem cnt_tab : ∀ n, n < 31 → cnt n 257 = cntL.getD n 0 := by decide +kernel
def fsL : List Nat := [0, 0, 0, 0, 0, 0, 20, 92, 248, 508, 1016, 2042, 4090, 8184, 16380, 32764, 65534, 131068, 262136, 524272, 1048550, 2097116, 4194258, 8388568, 16777194, 33554412, 67108832, 134217694, 268435426, 536870910, 1073741820, 2147483648]
def stL : List Nat := [0, 0, 0, 0, 0, 0, 10, 36, 68, 74, 74, 79, 82, 84, 90, 92, 95, 95, 95, 95, 98, 106, 119, 145, 174, 186, 190, 205, 224, 253, 253, 257]
theorem first_tab : ∀ n, n < 32 → first n = fsL.getD n 0
  | 0, _ => rfl
  | n + 1, h => by
    have e : first (n + 1) = (first n + cnt n 257) * 2 := rfl
    rw [e, first_tab n (by omega), cnt_tab n (by omega)]
    exact (show ∀ n, n < 31 → (fsL.getD n 0 + cntL.getD n 0) * 2 = fsL.getD (n + 1) 0 by decide +kernel) n (by omega)
theorem st_tab : ∀ n, n < 32 → st n = stL.getD n 0
  | 0, _ => rfl
  | n + 1, h => by
    have e : st (n + 1) = st n + cnt n 257 := rfl
    rw [e, st_tab n (by omega), cnt_tab n (by omega)]
    exact (show ∀ n, n < 31 → (stL.getD n 0 + cntL.getD n 0) = stL.getD (n + 1) 0 by decide +kernel) n (by omega)
theorem first_cnt (n : Nat) (h : n ≤ 30) : first n + cnt n 257 ≤ 2 ^ n := by
  rw [first_tab n (by omega), cnt_tab n (by omega)]
  exact (show ∀ n, n < 31 → fsL.getD n 0 + cntL.getD n 0 ≤ 2 ^ n by decide +kernel) n (by omega)
theorem first_30 : first 30 + cnt 30 257 = 2 ^ 30 := by
  rw [first_tab 30 (by omega), cnt_tab 30 (by omega)]; decide
theorem first_31 : first 31 = 2 ^ 31 := by rw [first_tab 31 (by omega)]; decide
theorem first_lt (n : Nat) (h : n ≤ 31) : first n ≤ 2 ^ n := by
  rw [first_tab n (by omega)]
  exact (show ∀ n, n < 32 → fsL.getD n 0 ≤ 2 ^ n by decide +kernel) n (by omega)
theorem st_31 : st 31 = 257 := by rw [st_tab 31 (by omega)]; decide
theorem st_mono {n m : Nat} (h : n ≤ m) : st n ≤ st m := by
  induction m with
  | zero => rw [Nat.le_zero.1 h]; exact Nat.le_refl _
  | succ m ih =>
    by_cases e : n = m + 1
    · rw [e]; exact Nat.le_refl _
    · have h1 : st (m + 1) = st m + cnt m 257 := rfl
      have := ih (by omega)
      omega
theorem st_le (n : Nat) (h : n ≤ 31) : st n ≤ 257 := by rw [← st_31]; exact st_mono h

theorem cod_lt (i : Nat) (h : i < 257) : cod i < 2 ^ b i := by
  have h1 := cnt_lt h
  have h2 := first_cnt (b i) (b_bounds i).2
  unfold cod
  omega
theorem cod_lt32 (i : Nat) (h : i < 257) : cod i < 1073741824 := by
  have h1 := cod_lt i h
  have h2 : 2 ^ b i ≤ 2 ^ 30 := Nat.pow_le_pow_right (by omega) (b_bounds i).2
  have e : (2 : Nat) ^ 30 = 1073741824 := by decide
  omega

/-- The symbol of a code of n bits. -/
def sym (c n : Nat) : Option Nat := (List.range 257).find? fun i => b i == n && cod i == c

theorem sym_some {c n i : Nat} (h : sym c n = some i) : i < 257 ∧ b i = n ∧ cod i = c := by
  have h1 := List.find?_some h
  have h2 := List.mem_of_find?_eq_some h
  simp at h1 h2
  exact ⟨h2, h1.1, h1.2⟩
theorem cod_inj {i j : Nat} (hb : b i = b j) (h : cod i = cod j) : i = j := by
  unfold cod at h
  rw [hb] at h
  exact cnt_inj hb (by rw [hb]; omega)
theorem sym_mk {i : Nat} (h : i < 257) : sym (cod i) (b i) = some i := by
  cases hs : sym (cod i) (b i) with
  | none =>
    have := List.find?_eq_none.1 hs i (by simpa using h)
    simp at this
  | some j =>
    obtain ⟨h1, h2, h3⟩ := sym_some hs
    rw [cod_inj h2 h3]
theorem sym_none_ge {c n : Nat} (h : first n + cnt n 257 ≤ c) : sym c n = none := by
  cases hs : sym c n with
  | none => rfl
  | some j =>
    obtain ⟨h1, h2, h3⟩ := sym_some hs
    have := cnt_lt h1
    rw [h2] at this
    unfold cod at h3
    rw [h2] at h3
    omega
theorem sym_none_small {c n : Nat} (h : n < 5) : sym c n = none := by
  cases hs : sym c n with
  | none => rfl
  | some j =>
    obtain ⟨h1, h2, h3⟩ := sym_some hs
    have := (b_bounds j).1
    omega
theorem sym_none {c n : Nat} (hf : first n ≤ c) (h : sym c n = none) : first n + cnt n 257 ≤ c := by
  refine Nat.le_of_not_lt fun hlt => ?_
  obtain ⟨i, h1, h2, h3⟩ := cnt_find n 257 (c - first n) (by omega)
  have := sym_mk h1
  unfold cod at this
  rw [h2, h3, show first n + (c - first n) = c from by omega, h] at this
  cases this

/-- What holds of a code in the making: no code is its beginning. -/
def Mid (c n : Nat) : Prop := c < 2 ^ n ∧ n ≤ 29 ∧ first n + cnt n 257 ≤ c

theorem first5 : ∀ n, n < 5 → first n + cnt n 257 = 0 := by
  intro n h
  rw [first_tab n (by omega), cnt_tab n (by omega)]
  exact (show ∀ n, n < 5 → fsL.getD n 0 + cntL.getD n 0 = 0 by decide) n h
theorem mid0 : Mid 0 0 := ⟨by decide, by decide, by rw [first5 0 (by omega)]; omega⟩
theorem Mid.ge {c n x : Nat} (h : Mid c n) : first (n + 1) ≤ c * 2 + x := by
  have : first (n + 1) = (first n + cnt n 257) * 2 := rfl
  have := h.2.2
  omega
theorem Mid.lt {c n x : Nat} (h : Mid c n) (hx : x < 2) : c * 2 + x < 2 ^ (n + 1) := by
  have := h.1
  rw [Nat.pow_succ]
  omega
theorem Mid.step {c n x : Nat} (h : Mid c n) (hx : x < 2) (hs : sym (c * 2 + x) (n + 1) = none) : Mid (c * 2 + x) (n + 1) := by
  have hg : first (n + 1) ≤ c * 2 + x := h.ge
  have hl := h.lt hx
  have h1 := sym_none hg hs
  refine ⟨hl, ?_, h1⟩
  refine Nat.le_of_not_lt fun h2 => ?_
  have e : n + 1 = 30 := by have := h.2.1; omega
  rw [e] at h1 hl
  rw [first_30] at h1
  omega

/-- The place of a symbol among all, by rising codes. -/
def place (i : Nat) : Nat := st (b i) + cnt (b i) i
theorem place_lt {i : Nat} (h : i < 257) : place i < st (b i + 1) := by
  have : st (b i + 1) = st (b i) + cnt (b i) 257 := rfl
  have := cnt_lt h
  unfold place
  omega
theorem place_lt257 {i : Nat} (h : i < 257) : place i < 257 := by
  have := place_lt h
  have := st_le (b i + 1) (by have := (b_bounds i).2; omega)
  omega
theorem place_inj {i j : Nat} (hi : i < 257) (hj : j < 257) (h : place i = place j) : i = j := by
  have h1 := place_lt hi
  have h2 := place_lt hj
  rcases Nat.lt_trichotomy (b i) (b j) with hb | hb | hb
  · have := st_mono (show b i + 1 ≤ b j by omega)
    have : st (b j) ≤ place j := Nat.le_add_right _ _
    omega
  · refine cnt_inj hb ?_
    unfold place at h
    rw [hb] at h
    rw [hb]
    omega
  · have := st_mono (show b j + 1 ≤ b i by omega)
    have : st (b i) ≤ place i := Nat.le_add_right _ _
    omega

/-- The symbols by their places, once i of them are laid. -/
def ord : Nat → Nat → Nat
  | 0, _ => 0
  | i + 1, p => if p = place i then i else ord i p
theorem ord_le : ∀ i p, ord i p ≤ i
  | 0, _ => Nat.le_refl _
  | i + 1, p => by
    unfold ord
    split
    · omega
    · have := ord_le i p; omega
theorem ord_place : ∀ N, N ≤ 257 → ∀ i, i < N → ord N (place i) = i
  | 0, _, i, h => by omega
  | N + 1, hN, i, h => by
    unfold ord
    by_cases e : i = N
    · rw [e, if_pos rfl]
    · rw [if_neg fun h2 => e (place_inj (by omega) (by omega) h2)]
      exact ord_place N (by omega) i (by omega)

/-- What the table of places says of a code is what sym says. -/
theorem sym_ord {c n : Nat} (hf : first n ≤ c) (h : st n + (c - first n) < st (n + 1)) : sym c n = some (ord 257 (st n + (c - first n))) := by
  have e : st (n + 1) = st n + cnt n 257 := rfl
  obtain ⟨i, h1, h2, h3⟩ := cnt_find n 257 (c - first n) (by omega)
  have hp : place i = st n + (c - first n) := by unfold place; rw [h2, h3]
  rw [← hp, ord_place 257 (Nat.le_refl _) i h1]
  have := sym_mk h1
  unfold cod at this
  rw [h2, h3, show first n + (c - first n) = c from by omega] at this
  exact this
theorem sym_ord_none {c n : Nat} (hf : first n ≤ c) (h : ¬ st n + (c - first n) < st (n + 1)) : sym c n = none := by
  have e : st (n + 1) = st n + cnt n 257 := rfl
  exact sym_none_ge (by omega)

end H
end Go.Proofs.YtcbljbdcnahfhaaDoor
/- Hbits -/
namespace Go.Proofs.YtcbljbdcnahfhaaDoor
namespace H

/-- The lowest n bits of c, the greatest first. -/
def nb : Nat → Nat → List Bool
  | 0, _ => []
  | n + 1, c => nb n (c / 2) ++ [c % 2 == 1]

theorem nb_len : ∀ n c, (nb n c).length = n
  | 0, _ => rfl
  | n + 1, c => by simp [nb, nb_len n]
theorem nb_push (n c x : Nat) (h : x < 2) : nb (n + 1) (c * 2 + x) = nb n c ++ [x == 1] := by
  show nb n ((c * 2 + x) / 2) ++ [(c * 2 + x) % 2 == 1] = _
  rw [show (c * 2 + x) / 2 = c from by omega, show (c * 2 + x) % 2 = x from by omega]
theorem nb_split (a : Nat) : ∀ k c, nb (a + k) c = nb a (c / 2 ^ k) ++ nb k c
  | 0, c => by simp [nb]
  | k + 1, c => by
    show nb (a + k) (c / 2) ++ [c % 2 == 1] = nb a (c / 2 ^ (k + 1)) ++ (nb k (c / 2) ++ [c % 2 == 1])
    rw [nb_split a k, List.append_assoc, Nat.div_div_eq_div_mul, Nat.pow_succ, Nat.mul_comm 2]
theorem nb_mod : ∀ n m c, n ≤ m → nb n (c % 2 ^ m) = nb n c
  | 0, _, _, _ => rfl
  | n + 1, 0, _, h => by omega
  | n + 1, m + 1, c, h => by
    show nb n (c % 2 ^ (m + 1) / 2) ++ [c % 2 ^ (m + 1) % 2 == 1] = nb n (c / 2) ++ [c % 2 == 1]
    have e1 : c % 2 ^ (m + 1) / 2 = (c / 2) % 2 ^ m := by
      rw [Nat.pow_succ, Nat.mul_comm, Nat.mod_mul_right_div_self]
    have e2 : c % 2 ^ (m + 1) % 2 = c % 2 := by
      rw [Nat.pow_succ, Nat.mul_comm]
      exact Nat.mod_mul_right_mod _ _ _
    rw [e1, e2, nb_mod n m _ (by omega)]
theorem nb_inj : ∀ n c d, c < 2 ^ n → d < 2 ^ n → nb n c = nb n d → c = d
  | 0, c, d, hc, hd, _ => by simp at hc hd; omega
  | n + 1, c, d, hc, hd, h => by
    rw [Nat.pow_succ] at hc hd
    have h2 := List.append_inj h (by rw [nb_len, nb_len])
    have h3 := nb_inj n (c / 2) (d / 2) (by omega) (by omega) h2.1
    have h4 : (c % 2 == 1) = (d % 2 == 1) := by simpa using h2.2
    have h5 : c % 2 = 1 ↔ d % 2 = 1 := by
      constructor
      · intro e; rw [e] at h4; simpa using h4.symm
      · intro e; rw [e] at h4; simpa using h4
    omega
theorem nb_ones : ∀ n, nb n (2 ^ n - 1) = List.replicate n true
  | 0 => rfl
  | n + 1 => by
    have h : 0 < 2 ^ n := Nat.two_pow_pos n
    show nb n ((2 ^ (n + 1) - 1) / 2) ++ [(2 ^ (n + 1) - 1) % 2 == 1] = _
    rw [Nat.pow_succ, show (2 ^ n * 2 - 1) / 2 = 2 ^ n - 1 from by omega, show (2 ^ n * 2 - 1) % 2 = 1 from by omega, nb_ones n, List.replicate_succ']
    rfl
theorem nb_one_of {n c : Nat} (hc : c < 2 ^ n) (h : nb n c = List.replicate n true) : c = 2 ^ n - 1 := by
  have : 0 < 2 ^ n := Nat.two_pow_pos n
  exact nb_inj n _ _ hc (by omega) (by rw [h, nb_ones])
theorem nb_get : ∀ n c k, k < n → (nb n c)[k]? = some (c / 2 ^ (n - 1 - k) % 2 == 1)
  | 0, _, k, h => by omega
  | n + 1, c, k, h => by
    show (nb n (c / 2) ++ [c % 2 == 1])[k]? = _
    by_cases e : k < n
    · rw [List.getElem?_append_left (by rw [nb_len]; exact e), nb_get n _ k e, Nat.div_div_eq_div_mul, Nat.mul_comm, ← Nat.pow_succ]
      rw [show n + 1 - 1 - k = (n - 1 - k) + 1 from by omega]
    · obtain rfl : k = n := by omega
      rw [List.getElem?_append_right (by rw [nb_len]; exact Nat.le_refl _), nb_len]
      simp

/-- Bytes as bits. -/
def bb : List Nat → List Bool
  | [] => []
  | x :: l => nb 8 x ++ bb l

theorem bb_len : ∀ l, (bb l).length = 8 * l.length
  | [] => rfl
  | x :: l => by simp only [bb, List.length_append, nb_len, bb_len l, List.length_cons]; omega
theorem bb_app : ∀ l m, bb (l ++ m) = bb l ++ bb m
  | [], _ => rfl
  | x :: l, m => by simp only [List.cons_append, bb, bb_app l m, List.append_assoc]
theorem bb_one (x : Nat) : bb [x] = nb 8 x := by simp [bb]
theorem bb_inj : ∀ l m, (∀ x ∈ l, x < 256) → (∀ x ∈ m, x < 256) → bb l = bb m → l = m
  | [], [], _, _, _ => rfl
  | [], y :: m, _, _, h => by have := congrArg List.length h; simp [bb_len] at this
  | x :: l, [], _, _, h => by have := congrArg List.length h; simp [bb_len] at this
  | x :: l, y :: m, hl, hm, h => by
    have h2 := List.append_inj h (by rw [nb_len, nb_len])
    have h3 := nb_inj 8 x y (hl x (by simp)) (hm y (by simp)) h2.1
    rw [h3, bb_inj l m (fun z hz => hl z (by simp [hz])) (fun z hz => hm z (by simp [hz])) h2.2]
theorem bb_get : ∀ l k, k < 8 * l.length → (bb l)[k]? = some (l.getD (k / 8) 0 / 2 ^ (7 - k % 8) % 2 == 1)
  | [], k, h => by simp at h
  | x :: l, k, h => by
    show (nb 8 x ++ bb l)[k]? = _
    by_cases e : k < 8
    · rw [List.getElem?_append_left (by rw [nb_len]; exact e), nb_get 8 x k e]
      rw [show k / 8 = 0 from by omega, show k % 8 = k from by omega]
      rfl
    · rw [List.getElem?_append_right (by rw [nb_len]; omega), nb_len, bb_get l (k - 8) (by simp at h; omega)]
      rw [show (k - 8) % 8 = k % 8 from by omega, show k / 8 = (k - 8) / 8 + 1 from by omega]
      rfl
theorem bb_take : ∀ k l, bb (l.take k) = (bb l).take (8 * k)
  | 0, l => by simp [bb]
  | k + 1, [] => by simp [bb]
  | k + 1, x :: l => by
    simp only [List.take_succ_cons, bb, bb_take k l]
    rw [List.take_append, List.take_of_length_le (l := nb 8 x) (by rw [nb_len]; omega), nb_len, show 8 * (k + 1) - 8 = 8 * k from by omega]

/-- A text's bits. -/
def eb (t : List Nat) : List Bool := t.flatMap fun i => nb (b i) (cod i)

theorem eb_nil : eb [] = [] := rfl
theorem eb_cons (i : Nat) (t : List Nat) : eb (i :: t) = nb (b i) (cod i) ++ eb t := rfl
theorem eb_app (s t : List Nat) : eb (s ++ t) = eb s ++ eb t := by simp [eb]
theorem eb_one (i : Nat) : eb [i] = nb (b i) (cod i) := by simp [eb]
theorem eb_bounds : ∀ t, 5 * t.length ≤ (eb t).length ∧ (eb t).length ≤ 30 * t.length
  | [] => by simp [eb]
  | i :: t => by
    have h := eb_bounds t
    have hb := b_bounds i
    rw [eb_cons, List.length_append, nb_len, List.length_cons]
    omega

/-- The bytes that 8 bits a time are. -/
def num : List Bool → Nat
  | [] => 0
  | x :: l => (if x then 1 else 0) * 2 ^ l.length + num l
theorem num_lt : ∀ l, num l < 2 ^ l.length
  | [] => by simp [num]
  | x :: l => by
    have := num_lt l
    simp only [num, List.length_cons, Nat.pow_succ]
    split <;> omega
theorem num_snoc : ∀ l x, num (l ++ [x]) = num l * 2 + if x then 1 else 0
  | [], x => by simp [num]
  | y :: l, x => by
    simp only [List.cons_append, num, num_snoc l x, List.length_append, List.length_cons, List.length_nil]
    rw [show l.length + (0 + 1) = l.length + 1 from by omega, Nat.pow_succ]
    split <;> omega
theorem nb_num : ∀ (n : Nat) (l : List Bool), l.length = n → nb n (num l) = l
  | 0, l, h => by rw [List.length_eq_zero_iff.1 h]; rfl
  | n + 1, l, h => by
    have hne : l ≠ [] := by intro e; rw [e] at h; simp at h
    obtain ⟨m, x, rfl⟩ : ∃ m x, l = m ++ [x] := ⟨l.dropLast, l.getLast hne, (List.dropLast_concat_getLast hne).symm⟩
    rw [num_snoc, nb_push _ _ _ (by split <;> omega), nb_num n m (by simpa using h)]
    cases x <;> simp
def pk : Nat → List Bool → List Nat
  | 0, _ => []
  | k + 1, l => num (l.take 8) :: pk k (l.drop 8)
theorem pk_len : ∀ k l, (pk k l).length = k
  | 0, _ => rfl
  | k + 1, l => by simp [pk, pk_len k]
theorem bb_pk : ∀ k l, l.length = 8 * k → bb (pk k l) = l
  | 0, l, h => by rw [List.length_eq_zero_iff.1 (by omega : l.length = 0)]; rfl
  | k + 1, l, h => by
    simp only [pk, bb]
    rw [nb_num 8 _ (by rw [List.length_take]; omega), bb_pk k _ (by rw [List.length_drop]; omega), List.take_append_drop]
theorem pk_lt : ∀ k l, ∀ x ∈ pk k l, x < 256
  | 0, _, x, h => by simp [pk] at h
  | k + 1, l, x, h => by
    simp only [pk, List.mem_cons] at h
    rcases h with rfl | h
    · have h1 := num_lt (l.take 8)
      have h2 : 2 ^ (l.take 8).length ≤ 2 ^ 8 := Nat.pow_le_pow_right (by omega) (by rw [List.length_take]; omega)
      have e : (2 : Nat) ^ 8 = 256 := by decide
      omega
    · exact pk_lt k _ x h

/-- How many bytes a text's code has. -/
def sz (t : List Nat) : Nat := ((eb t).length + 7) / 8
/-- A text's code, as the chapter says. -/
def enc (t : List Nat) : List Nat := pk (sz t) (eb t ++ List.replicate (8 * sz t - (eb t).length) true)
theorem enc_len (t : List Nat) : (enc t).length = sz t := pk_len _ _
theorem enc_lt (t : List Nat) : ∀ x ∈ enc t, x < 256 := pk_lt _ _
theorem bb_enc (t : List Nat) : bb (enc t) = eb t ++ List.replicate (8 * sz t - (eb t).length) true :=
  bb_pk _ _ (by rw [List.length_append, List.length_replicate]; unfold sz; omega)
/-- What a text's bits, and fewer than eight 1s behind them, are as bytes, is its code. -/
theorem enc_of {t out : List Nat} {k : Nat} (h : ∀ x ∈ out, x < 256) (hk : k < 8) (hb : bb out = eb t ++ List.replicate k true) : out = enc t := by
  refine bb_inj _ _ h (enc_lt t) ?_
  rw [hb, bb_enc]
  have hl := congrArg List.length hb
  rw [bb_len, List.length_append, List.length_replicate] at hl
  have : 8 * sz t - (eb t).length = k := by unfold sz; omega
  rw [this]

/-- What bits say, behind a code of n bits in the making. -/
def dec : List Bool → Nat → Nat → Option (List Nat)
  | [], c, n => if n < 8 ∧ c = 2 ^ n - 1 then some [] else none
  | x :: r, c, n =>
    match sym (c * 2 + (if x then 1 else 0)) (n + 1) with
    | none => dec r (c * 2 + (if x then 1 else 0)) (n + 1)
    | some i => if i = 256 then none else (dec r 0 0).map (i :: ·)

theorem dec_cons (x : Bool) (r : List Bool) (c n : Nat) : dec (x :: r) c n = match sym (c * 2 + (if x then 1 else 0)) (n + 1) with
    | none => dec r (c * 2 + (if x then 1 else 0)) (n + 1)
    | some i => if i = 256 then none else (dec r 0 0).map (i :: ·) := rfl

/-- What bytes say. -/
def decB (l : List Nat) : Option (List Nat) := dec (bb l) 0 0

theorem dec_lt : ∀ (r : List Bool) (c n : Nat) (t : List Nat), dec r c n = some t → ∀ x ∈ t, x < 256
  | [], c, n, t, h => by
    unfold dec at h
    split at h
    · cases h; simp
    · cases h
  | x :: r, c, n, t, h => by
    unfold dec at h
    split at h
    · exact dec_lt r _ _ t h
    · rename_i i hs
      split at h
      · cases h
      · cases hd : dec r 0 0 with
        | none => rw [hd] at h; cases h
        | some u =>
          rw [hd] at h
          cases h
          intro y hy
          rcases List.mem_cons.1 hy with rfl | hy
          · have := (sym_some hs).1; omega
          · exact dec_lt r 0 0 u hd y hy

theorem dec_bits : ∀ (r : List Bool) (c n : Nat) (t : List Nat), c < 2 ^ n → dec r c n = some t → ∃ k, k < 8 ∧ nb n c ++ r = eb t ++ List.replicate k true
  | [], c, n, t, hc, h => by
    unfold dec at h
    split at h
    · rename_i hk
      cases h
      refine ⟨n, hk.1, ?_⟩
      rw [hk.2, nb_ones]
      simp [eb]
    · cases h
  | x :: r, c, n, t, hc, h => by
    have hx : (if x then 1 else 0) < 2 := by split <;> omega
    have hp := nb_push n c (if x then 1 else 0) hx
    have hxx : ((if x then 1 else 0) == 1) = x := by cases x <;> rfl
    rw [hxx] at hp
    have hlt : c * 2 + (if x then 1 else 0) < 2 ^ (n + 1) := by rw [Nat.pow_succ]; omega
    have e : nb n c ++ x :: r = nb (n + 1) (c * 2 + (if x then 1 else 0)) ++ r := by rw [hp]; simp
    unfold dec at h
    split at h
    · rw [e]; exact dec_bits r _ _ t hlt h
    · rename_i i hs
      split at h
      · cases h
      · cases hd : dec r 0 0 with
        | none => rw [hd] at h; cases h
        | some u =>
          rw [hd] at h
          cases h
          obtain ⟨k, hk, hb⟩ := dec_bits r 0 0 u (by decide) hd
          obtain ⟨_, h2, h3⟩ := sym_some hs
          refine ⟨k, hk, ?_⟩
          show _ = eb (i :: u) ++ _
          rw [e, ← h2, ← h3, eb_cons, List.append_assoc, ← hb]
          rw [h3, h2]
          rfl
theorem dec_code : ∀ (j : Nat) (i : Nat) (r : List Bool), i < 257 → j < b i → dec (nb (j + 1) (cod i) ++ r) (cod i / 2 ^ (j + 1)) (b i - (j + 1)) = if i = 256 then none else (dec r 0 0).map (i :: ·)
  | j, i, r, hi, hj => by
    have e1 : nb (j + 1) (cod i) = (cod i / 2 ^ j % 2 == 1) :: nb j (cod i) := by
      have h := nb_split 1 j (cod i)
      rw [Nat.add_comm 1 j] at h
      rw [h]
      simp [nb]
    have e2 : cod i / 2 ^ (j + 1) * 2 + (if (cod i / 2 ^ j % 2 == 1) = true then 1 else 0) = cod i / 2 ^ j := by
      have e3 : cod i / 2 ^ (j + 1) = cod i / 2 ^ j / 2 := by rw [Nat.pow_succ, Nat.div_div_eq_div_mul]
      rw [e3]
      generalize cod i / 2 ^ j = q
      by_cases h : q % 2 = 1
      · rw [if_pos (by simp [h])]; omega
      · rw [if_neg (by simp [h])]; omega
    rw [e1, List.cons_append, dec_cons, e2, show b i - (j + 1) + 1 = b i - j from by omega]
    cases j with
    | zero =>
      rw [Nat.pow_zero, Nat.div_one, Nat.sub_zero, sym_mk hi]
      simp [nb]
    | succ j =>
      have hn : sym (cod i / 2 ^ (j + 1)) (b i - (j + 1)) = none := by
        refine sym_none_ge ?_
        have key : ∀ d, d + 1 ≤ b i → first (b i - (d + 1)) + cnt (b i - (d + 1)) 257 ≤ cod i / 2 ^ (d + 1) := by
          intro d
          induction d with
          | zero =>
            intro h
            have h1 : first (b i) = (first (b i - 1) + cnt (b i - 1) 257) * 2 := by
              rw [show b i = (b i - 1) + 1 from by omega]; rfl
            have h2 : first (b i) ≤ cod i := Nat.le_add_right _ _
            show first (b i - 1) + cnt (b i - 1) 257 ≤ cod i / 2 ^ 1
            omega
          | succ d ih =>
            intro h
            have h0 := ih (by omega)
            have h1 : first (b i - (d + 1)) = (first (b i - (d + 1 + 1)) + cnt (b i - (d + 1 + 1)) 257) * 2 := by
              rw [show b i - (d + 1) = (b i - (d + 1 + 1)) + 1 from by omega]; rfl
            rw [show cod i / 2 ^ (d + 1 + 1) = cod i / 2 ^ (d + 1) / 2 from by rw [Nat.pow_succ 2 (d + 1), Nat.div_div_eq_div_mul]]
            omega
        exact key j (by omega)
      rw [hn]
      exact dec_code j i r hi (by omega)
theorem dec_sym {i : Nat} (hi : i < 256) (r : List Bool) : dec (nb (b i) (cod i) ++ r) 0 0 = (dec r 0 0).map (i :: ·) := by
  have hb := b_bounds i
  have h := dec_code (b i - 1) i r (by omega) (by omega)
  rw [show b i - 1 + 1 = b i from by omega, Nat.sub_self, Nat.div_eq_of_lt (cod_lt i (by omega)), if_neg (by omega)] at h
  exact h
theorem dec_ones : ∀ (k c n : Nat), n + k < 8 → c = 2 ^ n - 1 → dec (List.replicate k true) c n = some []
  | 0, c, n, h, e => by unfold dec; exact if_pos ⟨by omega, e⟩
  | k + 1, c, n, h, e => by
    rw [List.replicate_succ]
    unfold dec
    have hp : 0 < 2 ^ n := Nat.two_pow_pos n
    have e1 : c * 2 + (if true = true then 1 else 0) = 2 ^ (n + 1) - 1 := by rw [if_pos rfl, e, Nat.pow_succ]; omega
    rw [e1]
    have hn : sym (2 ^ (n + 1) - 1) (n + 1) = none := by
      refine sym_none_ge ?_
      rw [first_tab _ (by omega), cnt_tab _ (by omega)]
      exact (show ∀ n, n < 8 → fsL.getD n 0 + cntL.getD n 0 ≤ 2 ^ n - 1 by decide +kernel) (n + 1) (by omega)
    rw [hn]
    exact dec_ones k _ _ (by omega) rfl
theorem dec_text : ∀ (t : List Nat) (k : Nat), (∀ x ∈ t, x < 256) → k < 8 → dec (eb t ++ List.replicate k true) 0 0 = some t
  | [], k, _, hk => by rw [eb_nil, List.nil_append]; exact dec_ones k 0 0 (by omega) rfl
  | i :: t, k, ht, hk => by
    rw [eb_cons, List.append_assoc, dec_sym (ht i (by simp)), dec_text t k (fun x hx => ht x (by simp [hx])) hk]
    rfl
/-- A text's code says it. -/
theorem dec_enc (t : List Nat) (ht : ∀ x ∈ t, x < 256) : decB (enc t) = some t := by
  unfold decB
  rw [bb_enc]
  exact dec_text t _ ht (by unfold sz; omega)
/-- What is taken is the code of what it says. -/
theorem enc_dec {l t : List Nat} (hl : ∀ x ∈ l, x < 256) (h : decB l = some t) : enc t = l := by
  obtain ⟨k, hk, hb⟩ := dec_bits _ 0 0 t (by decide) h
  exact (enc_of hl hk (by simpa [nb] using hb)).symm
/-- Whole bytes of a text's bits stay where more text follows. -/
theorem enc_take (s t : List Nat) : (enc s).take ((eb s).length / 8) = (enc (s ++ t)).take ((eb s).length / 8) := by
  refine bb_inj _ _ (fun x hx => enc_lt s x (List.mem_of_mem_take hx)) (fun x hx => enc_lt _ x (List.mem_of_mem_take hx)) ?_
  rw [bb_take, bb_take, bb_enc, bb_enc, eb_app]
  rw [List.append_assoc, List.take_append_of_le_length (by omega), List.take_append_of_le_length (by omega)]
end H
end Go.Proofs.YtcbljbdcnahfhaaDoor
