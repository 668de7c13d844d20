/-
What Find's plain function says where the header stands; how many headers stay.
-/
import Derived.Test.YtplajeboeckhhaaDoorBstat
namespace Go.Proofs.YtplajeboeckhhaaDoor
namespace B

theorem shr_len (k : Nat) (l : List HD) : (shr k l).length ≤ l.length := by
  obtain ⟨d, hd⟩ := shr_suffix k l
  have := congrArg List.length hd
  rw [List.length_append] at this
  omega
theorem add_len (m : Nat) (l : List HD) (h : HD) : (add m l h).length ≤ l.length + 1 := by
  unfold add
  split
  · simp
  · have := shr_len (m - sz h) l
    rw [List.length_append, List.length_singleton]
    omega
theorem nth_last (l : List HD) (h : HD) : nth (l ++ [h]) 0 = h := by
  unfold nth
  rw [List.reverse_append]
  rfl

/-- Over headers with their indexes: a hit, or on with what stands behind. -/
theorem fnd_num (n v : List UInt8) (rest : List (Int × HD)) : ∀ (l : List HD) (c : Int) (i : Nat),
    (∃ j : Int, fnd n v c (num i l ++ rest) = (j, true) ∧ j < i + l.length) ∨ ∃ c', fnd n v c (num i l ++ rest) = fnd n v c' rest
  | [], c, _ => Or.inr ⟨c, rfl⟩
  | h :: t, c, i => by
    have e : fnd n v c (num i (h :: t) ++ rest) = if h.1.toList ≠ n then fnd n v c (num (i + 1) t ++ rest) else if h.2.toList = v then ((i : Int), true) else fnd n v (if c = 0 then (i : Int) else c) (num (i + 1) t ++ rest) := rfl
    rw [e]
    have step : ∀ c', (∃ j : Int, fnd n v c' (num (i + 1) t ++ rest) = (j, true) ∧ j < i + (h :: t).length) ∨ ∃ c'', fnd n v c' (num (i + 1) t ++ rest) = fnd n v c'' rest := fun c' => by
      rcases fnd_num n v rest t c' (i + 1) with ⟨j, h1, h2⟩ | h1
      · exact Or.inl ⟨j, h1, by simp only [List.length_cons]; omega⟩
      · exact Or.inr h1
    by_cases h1 : h.1.toList ≠ n
    · rw [if_pos h1]; exact step c
    · rw [if_neg h1]
      by_cases h2 : h.2.toList = v
      · rw [if_pos h2]; exact Or.inl ⟨i, rfl, by simp only [List.length_cons]; omega⟩
      · rw [if_neg h2]; exact step _

/-- Where the header stands in the list there is a hit, there or ahead. -/
theorem fnd_mem (n v : ByteArray) : ∀ (l : List HD) (c : Int) (i p : Nat), l[p]? = some (n, v) → ∃ j : Int, fnd n.toList v.toList c (num i l) = (j, true) ∧ j ≤ i + p
  | [], _, _, _, h => by simp at h
  | h :: t, c, i, p, hp => by
    have e : fnd n.toList v.toList c (num i (h :: t)) = if h.1.toList ≠ n.toList then fnd n.toList v.toList c (num (i + 1) t) else if h.2.toList = v.toList then ((i : Int), true) else fnd n.toList v.toList (if c = 0 then (i : Int) else c) (num (i + 1) t) := rfl
    rw [e]
    cases p with
    | zero =>
      simp at hp
      subst hp
      rw [if_neg (by simp), if_pos rfl]
      exact ⟨i, rfl, by omega⟩
    | succ p =>
      simp at hp
      have step : ∀ c', ∃ j : Int, fnd n.toList v.toList c' (num (i + 1) t) = (j, true) ∧ j ≤ i + (p + 1 : Nat) := fun c' => by
        obtain ⟨j, h1, h2⟩ := fnd_mem n v t c' (i + 1) p hp
        exact ⟨j, h1, by omega⟩
      by_cases h1 : h.1.toList ≠ n.toList
      · rw [if_pos h1]; exact step c
      · rw [if_neg h1]
        by_cases h2 : h.2.toList = v.toList
        · rw [if_pos h2]; exact ⟨i, rfl, by omega⟩
        · rw [if_neg h2]; exact step _

/-- A header of the table is found, at its index or ahead. -/
theorem fnd_nth (l : List HD) (k : Nat) (hk : k < l.length) : ∃ j : Int, fnd (nth l k).1.toList (nth l k).2.toList 0 (allL l) = (j, true) ∧ j ≤ 62 + k := by
  have hx : l.reverse[k]? = some ((nth l k).1, (nth l k).2) := by
    unfold nth
    rw [List.getD_eq_getElem?_getD, List.getElem?_eq_getElem (by simpa using hk)]
    rfl
  unfold allL
  rcases fnd_num (nth l k).1.toList (nth l k).2.toList (num 62 l.reverse) stL 0 1 with ⟨j, h1, h2⟩ | ⟨c', h1⟩
  · exact ⟨j, h1, by rw [stL_len] at h2; omega⟩
  · rw [h1]
    exact fnd_mem _ _ l.reverse c' 62 k hx

/-- The bytes of the k newest headers. -/
def totN (l : List HD) (k : Nat) : Nat := tot (l.reverse.take k)
theorem totN_succ (l : List HD) (k : Nat) (hk : k < l.length) : totN l (k + 1) = totN l k + sz (nth l k) := by
  have e : l.reverse.take (k + 1) = l.reverse.take k ++ [nth l k] := by
    rw [List.take_add_one]
    unfold nth
    rw [List.getD_eq_getElem?_getD, List.getElem?_eq_getElem (by simpa using hk)]
    rfl
  unfold totN
  rw [e, tot_app]
  simp [tot]
theorem totN_le (l : List HD) (k : Nat) : totN l k ≤ tot l := by
  have h : tot l.reverse = tot (l.reverse.take k) + tot (l.reverse.drop k) := by rw [← tot_app, List.take_append_drop]
  rw [tot_rev] at h
  unfold totN
  omega
theorem totN_all (l : List HD) : totN l l.length = tot l := by
  unfold totN
  rw [List.take_of_length_le (by simp), tot_rev]
end B
end Go.Proofs.YtplajeboeckhhaaDoor
