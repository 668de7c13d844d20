/-
The plain functions of chapter 3 (the tables of headers), the oldest header first, and what follows of them; nothing of any program stands here.
-/
namespace Go.Proofs.YtihlcecincijgaaDoor
namespace B

/-- A header: its name and its value. -/
abbrev HD := ByteArray × ByteArray

/-- The bytes that a header takes. -/
def sz (h : HD) : Nat := h.1.size + h.2.size + 32
def tot : List HD → Nat
  | [] => 0
  | h :: t => sz h + tot t
theorem sz_ge (h : HD) : 32 ≤ sz h := by unfold sz; omega
theorem tot_app (l m : List HD) : tot (l ++ m) = tot l + tot m := by
  induction l with
  | nil => simp [tot]
  | cons a l ih => simp [tot, ih]; omega
theorem tot_len (l : List HD) : 32 * l.length ≤ tot l := by
  induction l with
  | nil => simp [tot]
  | cons a l ih => have := sz_ge a; simp only [tot, List.length_cons]; omega
theorem tot_rev (l : List HD) : tot l.reverse = tot l := by
  induction l with
  | nil => rfl
  | cons a l ih => rw [List.reverse_cons, tot_app, ih]; simp [tot]; omega

/-- The oldest go, until there are no more bytes than k. -/
def shr (k : Nat) : List HD → List HD
  | [] => []
  | h :: t => if tot (h :: t) ≤ k then h :: t else shr k t
theorem shr_stop {k : Nat} {l : List HD} (h : tot l ≤ k) : shr k l = l := by
  cases l with
  | nil => rfl
  | cons a l => unfold shr; rw [if_pos h]
theorem shr_step {k : Nat} {a : HD} {l : List HD} (h : k < tot (a :: l)) : shr k (a :: l) = shr k l := by
  show (if tot (a :: l) ≤ k then _ else _) = _
  rw [if_neg (by omega)]
theorem shr_tot (k : Nat) (l : List HD) : tot (shr k l) ≤ k := by
  induction l with
  | nil => simp [shr, tot]
  | cons a l ih =>
    unfold shr
    split
    · assumption
    · exact ih
theorem shr_zero (l : List HD) : shr 0 l = [] := by
  have h := shr_tot 0 l
  have h2 := tot_len (shr 0 l)
  exact List.length_eq_zero_iff.1 (by omega)
theorem shr_suffix (k : Nat) (l : List HD) : ∃ d, l = d ++ shr k l := by
  induction l with
  | nil => exact ⟨[], rfl⟩
  | cons a l ih =>
    unfold shr
    split
    · exact ⟨[], rfl⟩
    · obtain ⟨d, hd⟩ := ih
      exact ⟨a :: d, by rw [List.cons_append, ← hd]⟩

/-- A header more. -/
def add (most : Nat) (l : List HD) (h : HD) : List HD :=
  if most < sz h then [] else shr (most - sz h) l ++ [h]
theorem add_big {most : Nat} {l : List HD} {h : HD} (hb : most < sz h) : add most l h = [] := by unfold add; rw [if_pos hb]
theorem add_fit {most : Nat} {l : List HD} {h : HD} (hb : ¬ most < sz h) : add most l h = shr (most - sz h) l ++ [h] := by unfold add; rw [if_neg hb]
theorem add_tot (most : Nat) (l : List HD) (h : HD) : tot (add most l h) ≤ most := by
  unfold add
  split
  · simp [tot]
  · have := shr_tot (most - sz h) l
    rw [tot_app]
    simp [tot]
    omega

/-- The header of an index behind the table that stands. -/
def nth (l : List HD) (j : Nat) : HD := l.reverse.getD j (⟨#[]⟩, ⟨#[]⟩)
theorem nth_eq (l : List HD) (j : Nat) (hj : j < l.length) : nth l j = l.getD (l.length - 1 - j) (⟨#[]⟩, ⟨#[]⟩) := by
  unfold nth
  rw [List.getD_eq_getElem?_getD, List.getD_eq_getElem?_getD, List.getElem?_reverse hj]

/-- The place of the first header of that name and value, or else of the first one of that name. -/
def fnd (n v : List UInt8) : Int → List (Int × HD) → Int × Bool
  | c, [] => (c, false)
  | c, (i, h) :: t =>
    if h.1.toList ≠ n then fnd n v c t
    else if h.2.toList = v then (i, true)
    else fnd n v (if c = 0 then i else c) t

/-- Headers with their indexes, from i on. -/
def num : Nat → List HD → List (Int × HD)
  | _, [] => []
  | i, h :: t => ((i : Int), h) :: num (i + 1) t
theorem num_len (i : Nat) (l : List HD) : (num i l).length = l.length := by
  induction l generalizing i with
  | nil => rfl
  | cons a l ih => simp [num, ih]
theorem num_app (i : Nat) (l m : List HD) : num i (l ++ m) = num i l ++ num (i + l.length) m := by
  induction l generalizing i with
  | nil => simp [num]
  | cons a l ih =>
    simp only [List.cons_append, num, ih, List.length_cons]
    rw [show i + 1 + l.length = i + (l.length + 1) by omega]
theorem num_take (i k : Nat) (l : List HD) (hk : k < l.length) : num i (l.take (k + 1)) = num i (l.take k) ++ [(((i + k : Nat) : Int), l.getD k (⟨#[]⟩, ⟨#[]⟩))] := by
  have e : l.take (k + 1) = l.take k ++ [l.getD k (⟨#[]⟩, ⟨#[]⟩)] := by
    rw [List.take_add_one, List.getD_eq_getElem?_getD, List.getElem?_eq_getElem hk]
    rfl
  rw [e, num_app, List.length_take, Nat.min_eq_left (by omega)]
  rfl
end B
end Go.Proofs.YtihlcecincijgaaDoor
