/-
The plain functions of chapter 3 (the tables of headers), the oldest header first, and what follows of them; nothing of any program stands here.
-/
import Derived.OwnWalk
import Derived.Deep.LoopGhost
import Derived.Deep.CutRange
import Derived.Deep.Light
import Derived.RegionTactic
import Derived.BigRegion
import Derived.StillTailTactics
import Derived.Test.YtcbljbdcnahfhaaDoorMga
/- Bmath -/
namespace Go.Proofs.YtcbljbdcnahfhaaDoor
namespace B

/-- A header: its name and its value. -/
abbrev HD := ByteArray × ByteArray

/-- The bytes that a header takes. -/
def sz (h : HD) : Nat := h.1.size + h.2.size + 32
def tot : List HD → Nat
  | [] => 0
  | h :: t => sz h + tot t
theorem sz_ge (h : HD) : 32 ≤ sz h := by unfold sz; omega
theorem tot_app (l m : List HD) : tot (l ++ m) = tot l + tot m := by
  induction l with
  | nil => simp [tot]
  | cons a l ih => simp [tot, ih]; omega
theorem tot_len (l : List HD) : 32 * l.length ≤ tot l := by
  induction l with
  | nil => simp [tot]
  | cons a l ih => have := sz_ge a; simp only [tot, List.length_cons]; omega
theorem tot_rev (l : List HD) : tot l.reverse = tot l := by
  induction l with
  | nil => rfl
  | cons a l ih => rw [List.reverse_cons, tot_app, ih]; simp [tot]; omega

/-- The oldest go, until there are no more bytes than k. -/
def shr (k : Nat) : List HD → List HD
  | [] => []
  | h :: t => if tot (h :: t) ≤ k then h :: t else shr k t
theorem shr_stop {k : Nat} {l : List HD} (h : tot l ≤ k) : shr k l = l := by
  cases l with
  | nil => rfl
  | cons a l => unfold shr; rw [if_pos h]
theorem shr_step {k : Nat} {a : HD} {l : List HD} (h : k < tot (a :: l)) : shr k (a :: l) = shr k l := by
  show (if tot (a :: l) ≤ k then _ else _) = _
  rw [if_neg (by omega)]
theorem shr_tot (k : Nat) (l : List HD) : tot (shr k l) ≤ k := by
  induction l with
  | nil => simp [shr, tot]
  | cons a l ih =>
    unfold shr
    split
    · assumption
    · exact ih
theorem shr_zero (l : List HD) : shr 0 l = [] := by
  have h := shr_tot 0 l
  have h2 := tot_len (shr 0 l)
  exact List.length_eq_zero_iff.1 (by omega)
theorem shr_suffix (k : Nat) (l : List HD) : ∃ d, l = d ++ shr k l := by
  induction l with
  | nil => exact ⟨[], rfl⟩
  | cons a l ih =>
    unfold shr
    split
    · exact ⟨[], rfl⟩
    · obtain ⟨d, hd⟩ := ih
      exact ⟨a :: d, by rw [List.cons_append, ← hd]⟩

/-- A header more. -/
def add (most : Nat) (l : List HD) (h : HD) : List HD :=
  if most < sz h then [] else shr (most - sz h) l ++ [h]
theorem add_big {most : Nat} {l : List HD} {h : HD} (hb : most < sz h) : add most l h = [] := by unfold add; rw [if_pos hb]
theorem add_fit {most : Nat} {l : List HD} {h : HD} (hb : ¬ most < sz h) : add most l h = shr (most - sz h) l ++ [h] := by unfold add; rw [if_neg hb]
theorem add_tot (most : Nat) (l : List HD) (h : HD) : tot (add most l h) ≤ most := by
  unfold add
  split
  · simp [tot]
  · have := shr_tot (most - sz h) l
    rw [tot_app]
    simp [tot]
    omega

/-- The header of an index behind the table that stands. -/
def nth (l : List HD) (j : Nat) : HD := l.reverse.getD j (⟨#[]⟩, ⟨#[]⟩)
theorem nth_eq (l : List HD) (j : Nat) (hj : j < l.length) : nth l j = l.getD (l.length - 1 - j) (⟨#[]⟩, ⟨#[]⟩) := by
  unfold nth
  rw [List.getD_eq_getElem?_getD, List.getD_eq_getElem?_getD, List.getElem?_reverse hj]

/-- The place of the first header of that name and value, or else of the first one of that name. -/
def fnd (n v : List UInt8) : Int → List (Int × HD) → Int × Bool
  | c, [] => (c, false)
  | c, (i, h) :: t =>
    if h.1.toList ≠ n then fnd n v c t
    else if h.2.toList = v then (i, true)
    else fnd n v (if c = 0 then i else c) t

/-- Headers with their indexes, from i on. -/
def num : Nat → List HD → List (Int × HD)
  | _, [] => []
  | i, h :: t => ((i : Int), h) :: num (i + 1) t
theorem num_len (i : Nat) (l : List HD) : (num i l).length = l.length := by
  induction l generalizing i with
  | nil => rfl
  | cons a l ih => simp [num, ih]
theorem num_app (i : Nat) (l m : List HD) : num i (l ++ m) = num i l ++ num (i + l.length) m := by
  induction l generalizing i with
  | nil => simp [num]
  | cons a l ih =>
    simp only [List.cons_append, num, ih, List.length_cons]
    rw [show i + 1 + l.length = i + (l.length + 1) by omega]
theorem num_take (i k : Nat) (l : List HD) (hk : k < l.length) : num i (l.take (k + 1)) = num i (l.take k) ++ [(((i + k : Nat) : Int), l.getD k (⟨#[]⟩, ⟨#[]⟩))] := by
  have e : l.take (k + 1) = l.take k ++ [l.getD k (⟨#[]⟩, ⟨#[]⟩)] := by
    rw [List.take_add_one, List.getD_eq_getElem?_getD, List.getElem?_eq_getElem hk]
    rfl
  rw [e, num_app, List.length_take, Nat.min_eq_left (by omega)]
  rfl
end B
end Go.Proofs.YtcbljbdcnahfhaaDoor
/- Bstat -/
namespace Go.Proofs.YtcbljbdcnahfhaaDoor
namespace B

/-- The table that stands. -/
def stL : List HD := [
  (⟨#[58, 97, 117, 116, 104, 111, 114, 105, 116, 121]⟩, ⟨#[]⟩),
  (⟨#[58, 109, 101, 116, 104, 111, 100]⟩, ⟨#[71, 69, 84]⟩),
  (⟨#[58, 109, 101, 116, 104, 111, 100]⟩, ⟨#[80, 79, 83, 84]⟩),
  (⟨#[58, 112, 97, 116, 104]⟩, ⟨#[47]⟩),
  (⟨#[58, 112, 97, 116, 104]⟩, ⟨#[47, 105, 110, 100, 101, 120, 46, 104, 116, 109, 108]⟩),
  (⟨#[58, 115, 99, 104, 101, 109, 101]⟩, ⟨#[104, 116, 116, 112]⟩),
  (⟨#[58, 115, 99, 104, 101, 109, 101]⟩, ⟨#[104, 116, 116, 112, 115]⟩),
  (⟨#[58, 115, 116, 97, 116, 117, 115]⟩, ⟨#[50, 48, 48]⟩),
  (⟨#[58, 115, 116, 97, 116, 117, 115]⟩, ⟨#[50, 48, 52]⟩),
  (⟨#[58, 115, 116, 97, 116, 117, 115]⟩, ⟨#[50, 48, 54]⟩),
  (⟨#[58, 115, 116, 97, 116, 117, 115]⟩, ⟨#[51, 48, 52]⟩),
  (⟨#[58, 115, 116, 97, 116, 117, 115]⟩, ⟨#[52, 48, 48]⟩),
  (⟨#[58, 115, 116, 97, 116, 117, 115]⟩, ⟨#[52, 48, 52]⟩),
  (⟨#[58, 115, 116, 97, 116, 117, 115]⟩, ⟨#[53, 48, 48]⟩),
  (⟨#[97, 99, 99, 101, 112, 116, 45, 99, 104, 97, 114, 115, 101, 116]⟩, ⟨#[]⟩),
  (⟨#[97, 99, 99, 101, 112, 116, 45, 101, 110, 99, 111, 100, 105, 110, 103]⟩, ⟨#[103, 122, 105, 112, 44, 32, 100, 101, 102, 108, 97, 116, 101]⟩),
  (⟨#[97, 99, 99, 101, 112, 116, 45, 108, 97, 110, 103, 117, 97, 103, 101]⟩, ⟨#[]⟩),
  (⟨#[97, 99, 99, 101, 112, 116, 45, 114, 97, 110, 103, 101, 115]⟩, ⟨#[]⟩),
  (⟨#[97, 99, 99, 101, 112, 116]⟩, ⟨#[]⟩),
  (⟨#[97, 99, 99, 101, 115, 115, 45, 99, 111, 110, 116, 114, 111, 108, 45, 97, 108, 108, 111, 119, 45, 111, 114, 105, 103, 105, 110]⟩, ⟨#[]⟩),
  (⟨#[97, 103, 101]⟩, ⟨#[]⟩),
  (⟨#[97, 108, 108, 111, 119]⟩, ⟨#[]⟩),
  (⟨#[97, 117, 116, 104, 111, 114, 105, 122, 97, 116, 105, 111, 110]⟩, ⟨#[]⟩),
  (⟨#[99, 97, 99, 104, 101, 45, 99, 111, 110, 116, 114, 111, 108]⟩, ⟨#[]⟩),
  (⟨#[99, 111, 110, 116, 101, 110, 116, 45, 100, 105, 115, 112, 111, 115, 105, 116, 105, 111, 110]⟩, ⟨#[]⟩),
  (⟨#[99, 111, 110, 116, 101, 110, 116, 45, 101, 110, 99, 111, 100, 105, 110, 103]⟩, ⟨#[]⟩),
  (⟨#[99, 111, 110, 116, 101, 110, 116, 45, 108, 97, 110, 103, 117, 97, 103, 101]⟩, ⟨#[]⟩),
  (⟨#[99, 111, 110, 116, 101, 110, 116, 45, 108, 101, 110, 103, 116, 104]⟩, ⟨#[]⟩),
  (⟨#[99, 111, 110, 116, 101, 110, 116, 45, 108, 111, 99, 97, 116, 105, 111, 110]⟩, ⟨#[]⟩),
  (⟨#[99, 111, 110, 116, 101, 110, 116, 45, 114, 97, 110, 103, 101]⟩, ⟨#[]⟩),
  (⟨#[99, 111, 110, 116, 101, 110, 116, 45, 116, 121, 112, 101]⟩, ⟨#[]⟩),
  (⟨#[99, 111, 111, 107, 105, 101]⟩, ⟨#[]⟩),
  (⟨#[100, 97, 116, 101]⟩, ⟨#[]⟩),
  (⟨#[101, 116, 97, 103]⟩, ⟨#[]⟩),
  (⟨#[101, 120, 112, 101, 99, 116]⟩, ⟨#[]⟩),
  (⟨#[101, 120, 112, 105, 114, 101, 115]⟩, ⟨#[]⟩),
  (⟨#[102, 114, 111, 109]⟩, ⟨#[]⟩),
  (⟨#[104, 111, 115, 116]⟩, ⟨#[]⟩),
  (⟨#[105, 102, 45, 109, 97, 116, 99, 104]⟩, ⟨#[]⟩),
  (⟨#[105, 102, 45, 109, 111, 100, 105, 102, 105, 101, 100, 45, 115, 105, 110, 99, 101]⟩, ⟨#[]⟩),
  (⟨#[105, 102, 45, 110, 111, 110, 101, 45, 109, 97, 116, 99, 104]⟩, ⟨#[]⟩),
  (⟨#[105, 102, 45, 114, 97, 110, 103, 101]⟩, ⟨#[]⟩),
  (⟨#[105, 102, 45, 117, 110, 109, 111, 100, 105, 102, 105, 101, 100, 45, 115, 105, 110, 99, 101]⟩, ⟨#[]⟩),
  (⟨#[108, 97, 115, 116, 45, 109, 111, 100, 105, 102, 105, 101, 100]⟩, ⟨#[]⟩),
  (⟨#[108, 105, 110, 107]⟩, ⟨#[]⟩),
  (⟨#[108, 111, 99, 97, 116, 105, 111, 110]⟩, ⟨#[]⟩),
  (⟨#[109, 97, 120, 45, 102, 111, 114, 119, 97, 114, 100, 115]⟩, ⟨#[]⟩),
  (⟨#[112, 114, 111, 120, 121, 45, 97, 117, 116, 104, 101, 110, 116, 105, 99, 97, 116, 101]⟩, ⟨#[]⟩),
  (⟨#[112, 114, 111, 120, 121, 45, 97, 117, 116, 104, 111, 114, 105, 122, 97, 116, 105, 111, 110]⟩, ⟨#[]⟩),
  (⟨#[114, 97, 110, 103, 101]⟩, ⟨#[]⟩),
  (⟨#[114, 101, 102, 101, 114, 101, 114]⟩, ⟨#[]⟩),
  (⟨#[114, 101, 102, 114, 101, 115, 104]⟩, ⟨#[]⟩),
  (⟨#[114, 101, 116, 114, 121, 45, 97, 102, 116, 101, 114]⟩, ⟨#[]⟩),
  (⟨#[115, 101, 114, 118, 101, 114]⟩, ⟨#[]⟩),
  (⟨#[115, 101, 116, 45, 99, 111, 111, 107, 105, 101]⟩, ⟨#[]⟩),
  (⟨#[115, 116, 114, 105, 99, 116, 45, 116, 114, 97, 110, 115, 112, 111, 114, 116, 45, 115, 101, 99, 117, 114, 105, 116, 121]⟩, ⟨#[]⟩),
  (⟨#[116, 114, 97, 110, 115, 102, 101, 114, 45, 101, 110, 99, 111, 100, 105, 110, 103]⟩, ⟨#[]⟩),
  (⟨#[117, 115, 101, 114, 45, 97, 103, 101, 110, 116]⟩, ⟨#[]⟩),
  (⟨#[118, 97, 114, 121]⟩, ⟨#[]⟩),
  (⟨#[118, 105, 97]⟩, ⟨#[]⟩),
  (⟨#[119, 119, 119, 45, 97, 117, 116, 104, 101, 110, 116, 105, 99, 97, 116, 101]⟩, ⟨#[]⟩)]
theorem stL_len : stL.length = 61 := rfl
/-- The header that stands at i, from 1 on. -/
def st (i : Nat) : HD := stL.getD (i - 1) (⟨#[]⟩, ⟨#[]⟩)
/-- The headers of a table, the oldest first, behind those that stand, with their indexes. -/
def allL (l : List HD) : List (Int × HD) := num 1 stL ++ num 62 l.reverse
end B
end Go.Proofs.YtcbljbdcnahfhaaDoor
/- Bfndm -/
namespace Go.Proofs.YtcbljbdcnahfhaaDoor
namespace B

theorem shr_len (k : Nat) (l : List HD) : (shr k l).length ≤ l.length := by
  obtain ⟨d, hd⟩ := shr_suffix k l
  have := congrArg List.length hd
  rw [List.length_append] at this
  omega
theorem add_len (m : Nat) (l : List HD) (h : HD) : (add m l h).length ≤ l.length + 1 := by
  unfold add
  split
  · simp
  · have := shr_len (m - sz h) l
    rw [List.length_append, List.length_singleton]
    omega
theorem nth_last (l : List HD) (h : HD) : nth (l ++ [h]) 0 = h := by
  unfold nth
  rw [List.reverse_append]
  rfl

/-- Over headers with their indexes: a hit, or on with what stands behind. -/
theorem fnd_num (n v : List UInt8) (rest : List (Int × HD)) : ∀ (l : List HD) (c : Int) (i : Nat),
    (∃ j : Int, fnd n v c (num i l ++ rest) = (j, true) ∧ j < i + l.length) ∨ ∃ c', fnd n v c (num i l ++ rest) = fnd n v c' rest
  | [], c, _ => Or.inr ⟨c, rfl⟩
  | h :: t, c, i => by
    have e : fnd n v c (num i (h :: t) ++ rest) = if h.1.toList ≠ n then fnd n v c (num (i + 1) t ++ rest) else if h.2.toList = v then ((i : Int), true) else fnd n v (if c = 0 then (i : Int) else c) (num (i + 1) t ++ rest) := rfl
    rw [e]
    have step : ∀ c', (∃ j : Int, fnd n v c' (num (i + 1) t ++ rest) = (j, true) ∧ j < i + (h :: t).length) ∨ ∃ c'', fnd n v c' (num (i + 1) t ++ rest) = fnd n v c'' rest := fun c' => by
      rcases fnd_num n v rest t c' (i + 1) with ⟨j, h1, h2⟩ | h1
      · exact Or.inl ⟨j, h1, by simp only [List.length_cons]; omega⟩
      · exact Or.inr h1
    by_cases h1 : h.1.toList ≠ n
    · rw [if_pos h1]; exact step c
    · rw [if_neg h1]
      by_cases h2 : h.2.toList = v
      · rw [if_pos h2]; exact Or.inl ⟨i, rfl, by simp only [List.length_cons]; omega⟩
      · rw [if_neg h2]; exact step _

/-- Where the header stands in the list there is a hit, there or ahead. -/
theorem fnd_mem (n v : ByteArray) : ∀ (l : List HD) (c : Int) (i p : Nat), l[p]? = some (n, v) → ∃ j : Int, fnd n.toList v.toList c (num i l) = (j, true) ∧ j ≤ i + p
  | [], _, _, _, h => by simp at h
  | h :: t, c, i, p, hp => by
    have e : fnd n.toList v.toList c (num i (h :: t)) = if h.1.toList ≠ n.toList then fnd n.toList v.toList c (num (i + 1) t) else if h.2.toList = v.toList then ((i : Int), true) else fnd n.toList v.toList (if c = 0 then (i : Int) else c) (num (i + 1) t) := rfl
    rw [e]
    cases p with
    | zero =>
      simp at hp
      subst hp
      rw [if_neg (by simp), if_pos rfl]
      exact ⟨i, rfl, by omega⟩
    | succ p =>
      simp at hp
      have step : ∀ c', ∃ j : Int, fnd n.toList v.toList c' (num (i + 1) t) = (j, true) ∧ j ≤ i + (p + 1 : Nat) := fun c' => by
        obtain ⟨j, h1, h2⟩ := fnd_mem n v t c' (i + 1) p hp
        exact ⟨j, h1, by omega⟩
      by_cases h1 : h.1.toList ≠ n.toList
      · rw [if_pos h1]; exact step c
      · rw [if_neg h1]
        by_cases h2 : h.2.toList = v.toList
        · rw [if_pos h2]; exact ⟨i, rfl, by omega⟩
        · rw [if_neg h2]; exact step _

/-- A header of the table is found, at its index or ahead. -/
theorem fnd_nth (l : List HD) (k : Nat) (hk : k < l.length) : ∃ j : Int, fnd (nth l k).1.toList (nth l k).2.toList 0 (allL l) = (j, true) ∧ j ≤ 62 + k := by
  have hx : l.reverse[k]? = some ((nth l k).1, (nth l k).2) := by
    unfold nth
    rw [List.getD_eq_getElem?_getD, List.getElem?_eq_getElem (by simpa using hk)]
    rfl
  unfold allL
  rcases fnd_num (nth l k).1.toList (nth l k).2.toList (num 62 l.reverse) stL 0 1 with ⟨j, h1, h2⟩ | ⟨c', h1⟩
  · exact ⟨j, h1, by rw [stL_len] at h2; omega⟩
  · rw [h1]
    exact fnd_mem _ _ l.reverse c' 62 k hx

/-- The bytes of the k newest headers. -/
def totN (l : List HD) (k : Nat) : Nat := tot (l.reverse.take k)
theorem totN_succ (l : List HD) (k : Nat) (hk : k < l.length) : totN l (k + 1) = totN l k + sz (nth l k) := by
  have e : l.reverse.take (k + 1) = l.reverse.take k ++ [nth l k] := by
    rw [List.take_add_one]
    unfold nth
    rw [List.getD_eq_getElem?_getD, List.getElem?_eq_getElem (by simpa using hk)]
    rfl
  unfold totN
  rw [e, tot_app]
  simp [tot]
theorem totN_le (l : List HD) (k : Nat) : totN l k ≤ tot l := by
  have h : tot l.reverse = tot (l.reverse.take k) + tot (l.reverse.drop k) := by rw [← tot_app, List.take_append_drop]
  rw [tot_rev] at h
  unfold totN
  omega
theorem totN_all (l : List HD) : totN l l.length = tot l := by
  unfold totN
  rw [List.take_of_length_le (by simp), tot_rev]
end B
end Go.Proofs.YtcbljbdcnahfhaaDoor
/- Btab -/
namespace Go.Proofs.YtcbljbdcnahfhaaDoor
open Go.RowKit

/-- What the cells of a table hold: the ring's headers by their places, the oldest one's place, how many, their bytes, the most. -/
def tbF (R : Nat → B.HD) (o n s m : Nat) (j : Nat) : Value :=
  if j < 384 then (if j % 3 = 0 then .string (R (j / 3)).1 else if j % 3 = 1 then .string (R (j / 3)).2 else .bool false)
  else if j = 384 then .int .i64 o else if j = 385 then .int .i64 n else if j = 386 then .int .i64 s else .int .i64 m
def Tb (w : World) (g : Nat) (R : Nat → B.HD) (o n s m : Nat) : Prop := Blk w g 388 (tbF R o n s m)

theorem Tb.o {w : World} {g : Nat} {R : Nat → B.HD} {o n s m : Nat} (h : Tb w g R o n s m) : w.cell? ⟨g, 384, none⟩ = some (.int .i64 o) ∧ w.frozen? ⟨g, 384, none⟩ = false := h 384 (by omega)
theorem Tb.n {w : World} {g : Nat} {R : Nat → B.HD} {o n s m : Nat} (h : Tb w g R o n s m) : w.cell? ⟨g, 385, none⟩ = some (.int .i64 n) ∧ w.frozen? ⟨g, 385, none⟩ = false := h 385 (by omega)
theorem Tb.s {w : World} {g : Nat} {R : Nat → B.HD} {o n s m : Nat} (h : Tb w g R o n s m) : w.cell? ⟨g, 386, none⟩ = some (.int .i64 s) ∧ w.frozen? ⟨g, 386, none⟩ = false := h 386 (by omega)
theorem Tb.m {w : World} {g : Nat} {R : Nat → B.HD} {o n s m : Nat} (h : Tb w g R o n s m) : w.cell? ⟨g, 387, none⟩ = some (.int .i64 m) ∧ w.frozen? ⟨g, 387, none⟩ = false := h 387 (by omega)
theorem tbF_0 (R : Nat → B.HD) (o n s m q : Nat) (hq : q < 128) : tbF R o n s m (q * 3) = .string (R q).1 := by
  unfold tbF
  rw [if_pos (by omega), if_pos (by omega), show q * 3 / 3 = q by omega]
theorem tbF_1 (R : Nat → B.HD) (o n s m q : Nat) (hq : q < 128) : tbF R o n s m (q * 3 + 1) = .string (R q).2 := by
  unfold tbF
  rw [if_pos (by omega), if_neg (by omega), if_pos (by omega), show (q * 3 + 1) / 3 = q by omega]
theorem tbF_2 (R : Nat → B.HD) (o n s m q : Nat) (hq : q < 128) : tbF R o n s m (q * 3 + 2) = .bool false := by
  unfold tbF
  rw [if_pos (by omega), if_neg (by omega), if_neg (by omega)]
theorem Tb.at {w : World} {g : Nat} {R : Nat → B.HD} {o n s m : Nat} (h : Tb w g R o n s m) (q : Nat) (hq : q < 128) :
    (w.cell? ⟨g, q * 3, none⟩ = some (.string (R q).1) ∧ w.cell? ⟨g, q * 3 + 1, none⟩ = some (.string (R q).2) ∧ w.cell? ⟨g, q * 3 + 2, none⟩ = some (.bool false)) ∧
    w.frozen? ⟨g, q * 3, none⟩ = false ∧ w.frozen? ⟨g, q * 3 + 1, none⟩ = false ∧ w.frozen? ⟨g, q * 3 + 2, none⟩ = false := by
  have h0 := h (q * 3) (by omega)
  have h1 := h (q * 3 + 1) (by omega)
  have h2 := h (q * 3 + 2) (by omega)
  rw [tbF_0 R o n s m q hq] at h0
  rw [tbF_1 R o n s m q hq] at h1
  rw [tbF_2 R o n s m q hq] at h2
  exact ⟨⟨h0.1, h1.1, h2.1⟩, h0.2, h1.2, h2.2⟩

theorem Tb.seto {w : World} {g : Nat} {R : Nat → B.HD} {o n s m : Nat} (h : Tb w g R o n s m) (v : Nat) : Tb (w.setCell ⟨g, 384, none⟩ (.int .i64 (v : Nat))) g R v n s m :=
  (Blk.set h (by omega) _).ext fun j _ => by
    by_cases e : j = 384
    · subst e; rfl
    · rw [if_neg e]; unfold tbF; simp only [if_neg e]
theorem Tb.setn {w : World} {g : Nat} {R : Nat → B.HD} {o n s m : Nat} (h : Tb w g R o n s m) (v : Nat) : Tb (w.setCell ⟨g, 385, none⟩ (.int .i64 (v : Nat))) g R o v s m :=
  (Blk.set h (by omega) _).ext fun j _ => by
    by_cases e : j = 385
    · subst e; rfl
    · rw [if_neg e]; unfold tbF; simp only [if_neg e]
theorem Tb.sets {w : World} {g : Nat} {R : Nat → B.HD} {o n s m : Nat} (h : Tb w g R o n s m) (v : Nat) : Tb (w.setCell ⟨g, 386, none⟩ (.int .i64 (v : Nat))) g R o n v m :=
  (Blk.set h (by omega) _).ext fun j _ => by
    by_cases e : j = 386
    · subst e; rfl
    · rw [if_neg e]; unfold tbF; simp only [if_neg e]
theorem Tb.setm {w : World} {g : Nat} {R : Nat → B.HD} {o n s m : Nat} (h : Tb w g R o n s m) (v : Nat) : Tb (w.setCell ⟨g, 387, none⟩ (.int .i64 (v : Nat))) g R o n s v :=
  (Blk.set h (by omega) _).ext fun j hj => by
    by_cases e : j = 387
    · subst e; rfl
    · rw [if_neg e]; unfold tbF
      by_cases e1 : j < 384
      · simp only [if_pos e1]
      · simp only [if_neg e1]
        by_cases e2 : j = 384
        · simp only [if_pos e2]
        · simp only [if_neg e2]
          by_cases e3 : j = 385
          · simp only [if_pos e3]
          · simp only [if_neg e3]
            rw [if_pos (by omega), if_pos (by omega)]
theorem Tb.setr {w : World} {g : Nat} {R : Nat → B.HD} {o n s m : Nat} (h : Tb w g R o n s m) (q : Nat) (hq : q < 128) (x : B.HD) :
    Tb (((w.setCell ⟨g, q * 3, none⟩ (.string x.1)).setCell ⟨g, q * 3 + 1, none⟩ (.string x.2)).setCell ⟨g, q * 3 + 2, none⟩ (.bool false)) g (fun i => if i = q then x else R i) o n s m :=
  (((Blk.set h (by omega) _).set (by omega) _).set (by omega) _).ext fun j hj => by
    unfold tbF
    by_cases e1 : j < 384
    · simp only [if_pos e1]
      by_cases e : j / 3 = q
      · have hm : j = q * 3 ∨ j = q * 3 + 1 ∨ j = q * 3 + 2 := by omega
        simp only [if_pos e]
        rcases hm with e2 | e2 | e2
        · rw [if_neg (by omega), if_neg (by omega), if_pos e2, if_pos (by omega)]
        · rw [if_neg (by omega), if_pos e2, if_neg (by omega), if_pos (by omega)]
        · rw [if_pos e2, if_neg (by omega), if_neg (by omega)]
      · simp only [if_neg e]
        rw [if_neg (by omega), if_neg (by omega), if_neg (by omega)]
    · simp only [if_neg e1]
      rw [if_neg (by omega), if_neg (by omega), if_neg (by omega)]

/-- A table: its headers, the oldest first, lie in the ring from place o on. -/
def Ring (R : Nat → B.HD) (o : Nat) (L : List B.HD) : Prop :=
  o < 128 ∧ L.length ≤ 128 ∧ ∀ j, j < L.length → R ((o + j) % 128) = L.getD j (⟨#[]⟩, ⟨#[]⟩)
def Tab (w : World) (g : Nat) (L : List B.HD) (m : Nat) : Prop :=
  ∃ R o, Ring R o L ∧ Tb w g R o L.length (B.tot L) m ∧ B.tot L ≤ m ∧ m ≤ 4096

/-- .. whose most may just have been made less. -/
def Tab0 (w : World) (g : Nat) (L : List B.HD) (m : Nat) : Prop :=
  ∃ R o, Ring R o L ∧ Tb w g R o L.length (B.tot L) m ∧ B.tot L ≤ 4096 ∧ m ≤ 4096
theorem Tab.zero {w : World} {g : Nat} {L : List B.HD} {m : Nat} (h : Tab w g L m) : Tab0 w g L m := by
  obtain ⟨R, o, h1, h2, h3, h4⟩ := h
  exact ⟨R, o, h1, h2, by omega, h4⟩
theorem Tab0.tab {w : World} {g : Nat} {L : List B.HD} {m : Nat} (h : Tab0 w g L m) (hm : B.tot L ≤ m) : Tab w g L m := by
  obtain ⟨R, o, h1, h2, h3, h4⟩ := h
  exact ⟨R, o, h1, h2, hm, h4⟩
theorem Tab0.lt {w : World} {g : Nat} {L : List B.HD} {m : Nat} (h : Tab0 w g L m) : g < w.heap.size := by
  obtain ⟨R, o, h1, h2, h3⟩ := h
  exact Blk.lt h2 (by omega)

theorem Tab.below {w w' : World} {g : Nat} {L : List B.HD} {m : Nat} (h : Tab w g L m) (hb : Below w.heap.size w w') : Tab w' g L m := by
  obtain ⟨R, o, h1, h2, h3⟩ := h
  exact ⟨R, o, h1, Blk.below h2 hb, h3⟩
theorem Tab.belowB {K : Nat} {w w' : World} {g : Nat} {L : List B.HD} {m : Nat} (h : Tab w g L m) (hb : Below K w w') (hg : g < K) : Tab w' g L m := by
  obtain ⟨R, o, h1, h2, h3⟩ := h
  exact ⟨R, o, h1, Blk.belowB h2 hb hg, h3⟩
theorem Tab.lt {w : World} {g : Nat} {L : List B.HD} {m : Nat} (h : Tab w g L m) : g < w.heap.size := by
  obtain ⟨R, o, h1, h2, h3⟩ := h
  exact Blk.lt h2 (by omega)
theorem Tab.le {w : World} {g : Nat} {L : List B.HD} {m : Nat} (h : Tab w g L m) : L.length ≤ 128 ∧ B.tot L ≤ m ∧ m ≤ 4096 := by
  obtain ⟨R, o, h1, h2, h3⟩ := h
  exact ⟨h1.2.1, h3⟩

theorem size_any (n v : ByteArray) (b : Bool) (w : World) (hn : n.size ≤ 140737488355328) (hv : v.size ≤ 140737488355328) :
    Calls Tryd.prog 56 #[.agg #[.string n, .string v, .bool b]] w fun e w' => e = .returned (.int .i64 (B.sz (n, v) : Nat)) ∧ Below w.heap.size w w' := by
  go_enter Tryd.func56, Tryd.ntmps56
  go_wp2
  go_ret
  exact ⟨by unfold B.sz; congr 2, (Below.refl _ _).alloc (Nat.le_refl _) _⟩

theorem mayBe_any (m : Int) (w : World) : Calls Tryd.prog 71 #[.int .i64 m] w fun e w' => e = .returned (.bool (decide (0 ≤ m ∧ m ≤ 4096))) ∧ w = w' := by
  by_cases h : 0 ≤ m
  · go_enter Tryd.func71, Tryd.ntmps71
    go_wp2
    go_ret
    exact ⟨by simp [h], rfl⟩
  · have h1 : m < 0 := by omega
    go_enter Tryd.func71, Tryd.ntmps71
    go_wp2
    go_ret
    exact ⟨by simp; omega, rfl⟩

theorem len_any (w : World) (g : Nat) (n : Nat) (h : w.cell? ⟨g, 385, none⟩ = some (.int .i64 n)) : Calls Tryd.prog 60 #[.pointer (some ⟨g, 0, none⟩)] w fun e w' => e = .returned (.int .i64 n) ∧ w = w' := by
  go_enter Tryd.func60, Tryd.ntmps60
  go_wp2
  go_ret
  exact ⟨rfl, rfl⟩
theorem most_any (w : World) (g : Nat) (n : Nat) (h : w.cell? ⟨g, 387, none⟩ = some (.int .i64 n)) : Calls Tryd.prog 74 #[.pointer (some ⟨g, 0, none⟩)] w fun e w' => e = .returned (.int .i64 n) ∧ w = w' := by
  go_enter Tryd.func74, Tryd.ntmps74
  go_wp2
  go_ret
  exact ⟨rfl, rfl⟩
end Go.Proofs.YtcbljbdcnahfhaaDoor
/- Bgrow -/
namespace Go.Proofs.YtcbljbdcnahfhaaDoor
open Go.RowKit

/-- But for block g, and new memory, all is as it was. -/
def Only (g : Nat) (w w' : World) : Prop := w.grownBy w' (some g)
theorem Only.refl (g : Nat) (w : World) : Only g w w := ⟨rfl, rfl, rfl, Nat.le_refl _, fun _ _ _ => rfl⟩
theorem Only.size {g : Nat} {w w' : World} (h : Only g w w') : w.heap.size ≤ w'.heap.size := World.grownBy.size h
theorem Only.trans {g : Nat} {a b c : World} (h : Only g a b) (k : Only g b c) : Only g a c :=
  ⟨(World.grownBy.os k).trans (World.grownBy.os h), (World.grownBy.tape k).trans (World.grownBy.tape h), (World.grownBy.output k).trans (World.grownBy.output h), Nat.le_trans (World.grownBy.size h) (World.grownBy.size k),
    fun i hi hne => (World.grownBy.block k i (Nat.lt_of_lt_of_le hi (World.grownBy.size h)) hne).trans (World.grownBy.block h i hi hne)⟩
theorem Below.only {g : Nat} {w w' : World} (h : Below w.heap.size w w') : Only g w w' := ⟨h.os, h.tape, h.output, h.size, fun i hi _ => h.block i hi⟩
theorem Only.drew {g : Nat} {w w' : World} (h : Only g w w') : Only g w w'.drew := h.trans ⟨rfl, rfl, rfl, Nat.le_refl _, fun _ _ _ => rfl⟩
theorem Only.drewN {g : Nat} {w w' : World} (h : Only g w w') (q : Nat) : Only g w (w'.drewN q) := h.trans ⟨rfl, rfl, rfl, Nat.le_refl _, fun _ _ _ => rfl⟩
theorem Only.alloc {g : Nat} {w w' : World} (h : Only g w w') (o : Obj) : Only g w (w'.alloc o) := h.trans (World.grownBy_alloc w' o _)
theorem Only.set {g : Nat} {w w' : World} (h : Only g w w') (j : Nat) (v : Value) : Only g w (w'.setCell ⟨g, j, none⟩ v) :=
  h.trans ⟨rfl, rfl, rfl, by simp [World.setCell], fun k _ hk => Below.heap_setCell _ _ _ _ (fun e => hk (by simp [e]))⟩
theorem Only.below {g : Nat} {w w' w1 : World} (h : Only g w w') (hb : Below w'.heap.size w' w1) : Only g w w1 := h.trans (Below.only hb)
theorem Below.only_trans {B g : Nat} {a w w' : World} (h : Below B a w) (hg : Only g w w') (hB : B ≤ w.heap.size) (hr : B ≤ g) : Below B a w' :=
  h.grown hg hB (fun k e => by cases e; exact hr)
/-- What lies elsewhere is as it was. -/
theorem Only.cell {g : Nat} {w w' : World} (h : Only g w w') {b o : Nat} {v : Value} (hb : b ≠ g) (hc : w.cell? ⟨b, o, none⟩ = some v) : w'.cell? ⟨b, o, none⟩ = some v :=
  World.grownBy.cell h hc (fun e => hb (Option.some.inj e))

theorem ring_tail {R : Nat → B.HD} {o : Nat} {a : B.HD} {L : List B.HD} (h : Ring R o (a :: L)) (x : B.HD) : Ring (fun i => if i = o then x else R i) ((o + 1) % 128) L := by
  obtain ⟨h1, h2, h3⟩ := h
  simp only [List.length_cons] at h2 h3
  refine ⟨Nat.mod_lt _ (by omega), by omega, fun j hj => ?_⟩
  have := h3 (j + 1) (by omega)
  rw [show ((o + 1) % 128 + j) % 128 = (o + (j + 1)) % 128 by omega]
  show (if _ = o then x else _) = _
  rw [if_neg (by omega), this]
  simp [List.getD_eq_getElem?_getD]

/-- How many headers the block's cells tell. -/
def heldOf (g : Nat) (w : World) : Nat := match w.cell? ⟨g, 385, none⟩ with
  | some (.int _ n) => n.toNat
  | _ => 0

set_option maxRecDepth 100000 in
set_option maxHeartbeats 1000000 in
theorem shrink_any (g : Nat) (L : List B.HD) (m k : Nat) (w : World) (hk : k ≤ 4096) (hT : Tab0 w g L m) :
    Calls Tryd.prog 72 #[.pointer (some ⟨g, 0, none⟩), .int .i64 k] w fun e w' => e = .returned (.tuple #[]) ∧ Tab0 w' g (B.shr k L) m ∧ Only g w w' := by
  have HT := Lib.hid hT
  clear hT
  go_enter Tryd.func72, Tryd.ntmps72
  go_wp2
  go_loopg [] L.length (fun i wr => ∃ L', L'.length = i ∧ Hid (Tab0 wr g L' m) ∧ Hid (B.shr k L' = B.shr k L) ∧ Hid (Only g w wr))
  case atStart => exact ⟨L, rfl, HT, rfl, Only.refl _ _⟩
  case round =>
    obtain ⟨L', hL', HT', HS, HO⟩ := hrel
    clear HT
    obtain ⟨R, o, HR, HTb, hm1, hm2⟩ := HT'.out
    have cs := HTb.s.1
    by_cases hlt : k < B.tot L'
    · obtain ⟨a, L1, rfl⟩ : ∃ a L1, L' = a :: L1 := by
        cases L' with
        | nil => simp [B.tot] at hlt
        | cons a L1 => exact ⟨a, L1, rfl⟩
      obtain ⟨ho, hl, hr⟩ := id HR
      have h0 := hr 0 (by simp)
      rw [Nat.add_zero, Nat.mod_eq_of_lt ho] at h0
      have ha : R o = a := by rw [h0]; rfl
      obtain ⟨⟨a0, a1, a2⟩, b0, b1, b2⟩ := HTb.at o ho
      rw [ha] at a0 a1
      have co := HTb.o
      have cn := HTb.n
      have cs := HTb.s
      have hsz : B.sz a ≤ 4096 := by have : B.tot (a :: L1) = B.sz a + B.tot L1 := rfl; omega
      have hz1 : a.1.size ≤ 140737488355328 := by unfold B.sz at hsz; omega
      have hz2 : a.2.size ≤ 140737488355328 := by unfold B.sz at hsz; omega
      have hg : g < wr.heap.size := HT'.out.lt
      have HC : Hid (∀ q, Calls Tryd.prog 56 #[.agg #[.string a.1, .string a.2, .bool false]] (wr.drewN q) fun e w' => e = .returned (.int .i64 (B.sz a : Nat)) ∧ Below (wr.drewN q).heap.size (wr.drewN q) w') := fun q => size_any a.1 a.2 false _ hz1 hz2
      go_upto_region 1 with (fail)
      obtain ⟨cs1, cs2⟩ := cs
      obtain ⟨co, _⟩ := co
      clear b0 b1 b2 cn hr h0
      have EV : Hid (IntKind.i64.wrap (((B.tot (a :: L1) : Nat) : Int) - ((B.sz a : Nat) : Int)) = ((B.tot L1 : Nat) : Int)) := by
        have h2 : B.tot (a :: L1) = B.sz a + B.tot L1 := rfl
        show _ = _
        rw [IntKind.wrap_i64]
        omega
      go_cut [] from 4 to 51 (fun wx => Hid (Tb wx g R o (L1.length + 1) (B.tot L1) m) ∧ Hid (Only g wr wx))
      case first =>
        go_region_with (go_at_call 56; refine (HC.out _).mono ?_; rintro e w1 ⟨rfl, hb1⟩; have d0 := (hb1.cell (p := ⟨g, 386, none⟩) hg).trans cs1; have d1 := (hb1.frozen (p := ⟨g, 386, none⟩) hg).trans cs2; have HB1 := Lib.hid hb1; clear hb1)
        all_goals
          go_wp2
          go_meet
          go_light
          rw [EV.out]
          exact ⟨Tb.sets (Blk.below (Blk.drewN HTb _) HB1.out) _, (Only.trans ((Only.refl g wr).drewN _) (Below.only HB1.out)).set _ _⟩
      case rest =>
        obtain ⟨HT1, HO1⟩ := hcut
        clear HC cs1 cs2 HTb co a0 a1 a2
        obtain ⟨co, _⟩ := HT1.out.o
        obtain ⟨_, b0, b1, b2⟩ := HT1.out.at o ho
        obtain ⟨⟨a0, a1, a2⟩, _⟩ := HT1.out.at o ho
        go_wp2
        go_region
        go_upto_region 3 with (fail)
        have HT2 : Hid (Tb _ g _ o _ _ m) := Blk.drew (Tb.setr HT1.out o ho (⟨#[]⟩, ⟨#[]⟩))
        have HO2 := Lib.hid ((((HO1.out.set (o * 3) (.string ⟨#[]⟩)).set (o * 3 + 1) (.string ⟨#[]⟩)).set (o * 3 + 2) (.bool false)).drew)
        clear co a0 a1 a2 b0 b1 b2 HT1 HO1
        generalize ((((wc.setCell ⟨g, o * 3, none⟩ (.string ⟨#[]⟩)).setCell ⟨g, o * 3 + 1, none⟩ (.string ⟨#[]⟩)).setCell ⟨g, o * 3 + 2, none⟩ (.bool false)).drew) = w2 at *
        obtain ⟨co, co2⟩ := HT2.out.o
        have ho2 : (o + 1) % 128 < 128 := Nat.mod_lt _ (by omega)
        go_upto_region 4 with (fail)
        have HT3 : Hid (Tb (w2.setCell ⟨g, 384, none⟩ (.int .i64 (((o : Int) + 1) % 128))) g (fun i => if i = o then (⟨#[]⟩, ⟨#[]⟩) else R i) ((o + 1) % 128) (L1.length + 1) (B.tot L1) m) := by
          have := Tb.seto HT2.out ((o + 1) % 128)
          rw [show (((o + 1) % 128 : Nat) : Int) = ((o : Int) + 1) % 128 by omega] at this
          exact this
        have HO3 := Lib.hid (HO2.out.set 384 (.int .i64 (((o : Int) + 1) % 128)))
        clear co co2 HT2 HO2
        generalize w2.setCell ⟨g, 384, none⟩ (.int .i64 (((o : Int) + 1) % 128)) = w3 at *
        obtain ⟨cn1, cn2⟩ := HT3.out.n
        have HL : Hid (L1.length + 1 = gk) := hL'
        have hn1 : L1.length ≤ 127 := by simpa using hl
        clear hl hL'
        go_wp2
        go_roundg L1.length
        case measure => have := HL.out; omega
        case rel =>
          refine ⟨L1, rfl, ⟨_, _, ring_tail HR (⟨#[]⟩, ⟨#[]⟩), ?_, ?_, hm2⟩, ?_, ?_⟩
          · have := Tb.setn HT3.out L1.length
            simpa using this
          · have : B.tot (a :: L1) = B.sz a + B.tot L1 := rfl
            omega
          · show _ = _
            rw [← HS.out, B.shr_step hlt]
          · exact (HO.out.trans HO3.out).set _ _
    · go_wp2
      go_end0
      exact ⟨rfl, by rw [← HS.out, B.shr_stop (by omega)]; exact HT'.out, HO.out⟩
end Go.Proofs.YtcbljbdcnahfhaaDoor
/- Bnew -/
namespace Go.Proofs.YtcbljbdcnahfhaaDoor
open Go.RowKit

/-- A value of many cells is built. -/
theorem wpList_build_big {P : Program} {ops : Array Oper} {rest : List Oper} {op : Oper} {a : Act} {w : World} {Q : Exit → Act → World → Prop} (hgd : op.guard = none) (ty : TypeId) (parts : Array (Nat × Operand)) (ho : op.op = .build ty parts)
    (vs : Array (Nat × Value)) (hvs : (parts.map fun (i, x) => (i, a.eval x)) = vs) (v : Value) (hrun : (Instr.build ty vs).run P w = .ok v w)
    (h : wpList P ops Q rest (a.put op.dst v) w) : wpList P ops Q (op :: rest) a w :=
  wpList_plain hgd fun _ hK => by
    unfold Oper.wp execOp
    simp only [ho, hvs, hrun, Sem.run_bind, Sem.run_pure, Result.andThen_ok]
    exact hK _ _ h
/-- A variable is made of a value of many cells. -/
theorem wpList_box_big {P : Program} {ops : Array Oper} {rest : List Oper} {op : Oper} {a : Act} {w : World} {Q : Exit → Act → World → Prop} (hgd : op.guard = none) (ty : TypeId) (x : Operand) (ho : op.op = .box ty x)
    (u : Value) (hu : a.eval x = u) (v : Value) (w' : World) (hrun : (Instr.box ty u).run P w = .ok v w')
    (h : wpList P ops Q rest (a.put op.dst v) w') : wpList P ops Q (op :: rest) a w :=
  wpList_plain hgd fun _ hK => by
    unfold Oper.wp execOp
    simp only [ho, hu, hrun, Sem.run_bind, Sem.run_pure, Result.andThen_ok]
    exact hK _ _ h

/-- A new table's cells. -/
def newL (m : Nat) : List Value := (List.range 388).map (tbF (fun _ => (⟨#[]⟩, ⟨#[]⟩)) 0 0 0 m)
theorem newL_len (m : Nat) : (newL m).length = 388 := by rw [newL, List.length_map, List.length_range]
theorem newL_get (m j : Nat) (hj : j < 388) : (newL m)[j]? = some (tbF (fun _ => (⟨#[]⟩, ⟨#[]⟩)) 0 0 0 m j) := by
  rw [newL, List.getElem?_map, List.getElem?_range hj]; rfl
theorem run_build_new (m : Nat) (w : World) : (Instr.build 126 #[(4, .int .i64 (m : Nat))]).run Tryd.prog w = .ok (.agg (newL m).toArray) w := by kernel_rfl
theorem run_box_new (m : Nat) (w : World) : (Instr.box 126 (.agg (newL m).toArray)).run Tryd.prog w = .ok (.pointer (some ⟨w.heap.size, 0, none⟩)) (w.alloc (.cells (newL m).toArray 126)) := by kernel_rfl

/-- What ErrTable's variable holds. -/
def TE (w : World) (e0 : Addr) : Prop := w.cell? ⟨0, 0, none⟩ = some (.iface 166 (.pointer (some e0)))

theorem tab_new (w : World) (m : Nat) (hm : m ≤ 4096) : Tab (w.alloc (.cells (newL m).toArray 126)) w.heap.size [] m := by
  refine ⟨fun _ => (⟨#[]⟩, ⟨#[]⟩), 0, ⟨by omega, by simp, fun j hj => by simp at hj⟩, ?_, by simp [B.tot], hm⟩
  have h := Blk.new w (newL m).toArray 126 (tbF (fun _ => (⟨#[]⟩, ⟨#[]⟩)) 0 0 0 m) (fun j hj => by
    rw [List.getElem?_toArray]
    exact newL_get m j (by simpa [newL_len] using hj))
  rw [show (newL m).toArray.size = 388 by simp [newL_len]] at h
  exact h

set_option maxRecDepth 100000 in
theorem new_yes (m : Nat) (w : World) (hm : m ≤ 4096) : Calls Tryd.prog 48 #[.int .i64 m] w fun e w' => e = .returned (.tuple #[.pointer (some ⟨w.heap.size, 0, none⟩), .nilIface]) ∧ Tab w' w.heap.size [] m ∧ Below w.heap.size w w' := by
  have HM : Hid (∀ w, Calls Tryd.prog 71 #[.int .i64 m] w fun e w' => e = .returned (.bool true) ∧ w = w') := fun w => by
    have := mayBe_any m w
    rw [decide_eq_true (by omega)] at this
    exact this
  go_enter Tryd.func48, Tryd.ntmps48
  go_upto_region 3 with (go_at_call 71; refine (HM.out _).mono ?_; rintro e w1 ⟨rfl, rfl⟩)
  go_step
  refine wpList_plain rfl fun K hK => ?_
  go_simp
  refine hK _ _ ?_
  clear hK K
  refine wpList_build_big rfl 126 _ rfl #[(4, .int .i64 m)] (by simp [go_sem]) _ (run_build_new m w) ?_
  refine wpList_box_big rfl 126 (.tmp 9) rfl (.agg (newL m).toArray) rfl _ _ (run_box_new m w) ?_
  have HT := Lib.hid (tab_new w m hm)
  have HB : Hid (Below w.heap.size w (w.alloc (.cells (newL m).toArray 126))) := (Below.refl _ _).alloc (Nat.le_refl _) _
  generalize w.alloc (.cells (newL m).toArray 126) = w1 at *
  generalize (newL m).toArray = C
  go_wp2
  go_ret2
  exact ⟨rfl, HT.out, HB.out⟩

set_option maxRecDepth 100000 in
theorem new_no (m : Int) (e0 : Addr) (w : World) (hm : ¬ (0 ≤ m ∧ m ≤ 4096)) (hE : TE w e0) : Calls Tryd.prog 48 #[.int .i64 m] w fun e w' => e = .returned (.tuple #[.pointer none, .iface 166 (.pointer (some e0))]) ∧ Below w.heap.size w w' := by
  have HM : Hid (∀ w, Calls Tryd.prog 71 #[.int .i64 m] w fun e w' => e = .returned (.bool false) ∧ w = w') := fun w => by
    have := mayBe_any m w
    rw [decide_eq_false hm] at this
    exact this
  unfold TE at hE
  go_enter Tryd.func48, Tryd.ntmps48
  go_upto_region 2 with (go_at_call 71; refine (HM.out _).mono ?_; rintro e w1 ⟨rfl, rfl⟩)
  go_quiet (fail)
  go_wp2
  go_ret2
  exact ⟨rfl, below_q (Below.refl _ _) _⟩
end Go.Proofs.YtcbljbdcnahfhaaDoor
/- Badd -/
namespace Go.Proofs.YtcbljbdcnahfhaaDoor
open Go.RowKit

theorem Only.setNew {g : Nat} {w w' : World} (h : Only g w w') {b : Nat} (hb : w.heap.size ≤ b) (j : Nat) (v : Value) : Only g w (w'.setCell ⟨b, j, none⟩ v) := by
  have h' : w.grownBy w' (some g) := h
  refine ⟨h'.os, h'.tape, h'.output, ?_, fun i hi hne => ?_⟩
  · rw [World.size_setCell]; exact h'.size
  · rw [Below.heap_setCell _ _ _ _ (show i ≠ b by omega)]
    exact h'.block i hi hne

theorem ring_add {R : Nat → B.HD} {o : Nat} {L : List B.HD} (h : Ring R o L) (hl : L.length < 128) (x : B.HD) : Ring (fun i => if i = (o + L.length) % 128 then x else R i) o (L ++ [x]) := by
  obtain ⟨h1, h2, h3⟩ := h
  refine ⟨h1, by simp; omega, fun j hj => ?_⟩
  simp at hj
  show (if _ then x else _) = _
  by_cases e : j = L.length
  · subst e
    rw [if_pos rfl]
    simp [List.getD_eq_getElem?_getD]
  · have hj2 : j < L.length := by omega
    rw [if_neg (by omega), h3 j hj2]
    simp [List.getD_eq_getElem?_getD, List.getElem?_append_left hj2]

set_option maxRecDepth 100000 in
set_option maxHeartbeats 1000000 in
theorem add_any (g : Nat) (L : List B.HD) (m : Nat) (n v : ByteArray) (b : Bool) (w : World) (hn : n.size ≤ 140737488355328) (hv : v.size ≤ 140737488355328) (hT : Tab w g L m) :
    Calls Tryd.prog 77 #[.pointer (some ⟨g, 0, none⟩), .agg #[.string n, .string v, .bool b]] w fun e w' => e = .returned (.tuple #[]) ∧ Tab w' g (B.add m L (n, v)) m ∧ Only g w w' := by
  have hg := hT.lt
  obtain ⟨hl0, hm1, hm2⟩ := hT.le
  have hm := (by obtain ⟨R, o, _, h2, _⟩ := hT; exact h2.m.1 : w.cell? ⟨g, 387, none⟩ = some (.int .i64 m))
  have HT := Lib.hid hT
  have HC : Hid (∀ w, Calls Tryd.prog 56 #[.agg #[.string n, .string v, .bool b]] w fun e w' => e = .returned (.int .i64 (B.sz (n, v) : Nat)) ∧ Below w.heap.size w w') := fun w => size_any n v b w hn hv
  have hsz : B.sz (n, v) ≤ 281474976710688 := by unfold B.sz; simp only; omega
  have hsz0 := B.sz_ge (n, v)
  have hnv : Hid (B.sz (n, v) ≤ 4096 → n.size ≤ 4096 ∧ v.size ≤ 4096) := fun h => by unfold B.sz at h; simp only at h; omega
  obtain ⟨s, hs⟩ : ∃ s, s = B.sz (n, v) := ⟨_, rfl⟩
  rw [← hs] at HC hsz hsz0 hnv
  have HS := Lib.hid hs
  clear hT hs
  go_enter Tryd.func77, Tryd.ntmps77
  go_upto_region 2 with (go_at_call 56; refine (HC.out _).mono ?_; rintro e w1 ⟨rfl, hb1⟩; obtain ⟨⟨d0, d1, d2⟩, ⟨f0, f1, f2⟩, hs1⟩ := cells3 hb1; have HB1 := Lib.hid (below_over hb1); clear hb1)
  have cm : w1.cell? ⟨g, 387, none⟩ = some (.int .i64 m) := (HB1.out.cell (p := ⟨g, 387, none⟩) hg).trans hm
  have HT1 := Lib.hid (HT.out.below HB1.out)
  have hg1 : g < w1.heap.size := by omega
  by_cases hlt : m < s
  · have HSh : Hid (Calls Tryd.prog 72 #[.pointer (some ⟨g, 0, none⟩), .int .i64 0] w1 fun e w' => e = .returned (.tuple #[]) ∧ Tab0 w' g (B.shr 0 L) m ∧ Only g w1 w') := shrink_any g L m 0 w1 (by omega) HT1.out.zero
    go_upto_region 3 with (go_at_call 72; refine HSh.out.mono ?_; rintro e w2 ⟨rfl, hT2, hO2⟩; have HT2 := Lib.hid hT2; have HO2 := Lib.hid hO2; clear hT2 hO2)
    have cm2 : w2.cell? ⟨g, 387, none⟩ = some (.int .i64 m) := by obtain ⟨R, o, _, h2, _⟩ := HT2.out; exact h2.m.1
    go_wp2
    refine bodyPost_ret (results_none rfl _ _ _) rfl ?_
    refine ⟨rfl, ?_, (Below.only HB1.out).trans HO2.out⟩
    rw [B.add_big (by rw [← HS.out]; exact hlt), ← B.shr_zero L]
    exact HT2.out.tab (Nat.le_trans (B.shr_tot 0 L) (by omega))
  · obtain ⟨x, hx, HSh⟩ : ∃ x : Int, (if s < m then (m : Int) - (s : Int) else 0) = x ∧ Hid (Calls Tryd.prog 72 #[.pointer (some ⟨g, 0, none⟩), .int .i64 x] w1 fun e w' => e = .returned (.tuple #[]) ∧ Tab0 w' g (B.shr (m - s) L) m ∧ Only g w1 w') := by
      refine ⟨_, rfl, ?_⟩
      have := shrink_any g L m (m - s) w1 (by omega) HT1.out.zero
      rw [show (if s < m then (m : Int) - (s : Int) else 0) = ((m - s : Nat) : Int) by split <;> omega]
      exact this
    go_upto_region 3 with (go_at_call 72; refine HSh.out.mono ?_; rintro e w2 ⟨rfl, hT2, hO2⟩; have HT2 := Lib.hid hT2; have HO2 := Lib.hid hO2; clear hT2 hO2)
    have htot := B.shr_tot (m - s) L
    generalize hL2 : B.shr (m - s) L = L2 at *
    have HL2 := Lib.hid hL2
    clear hL2 hx HSh
    have hs2 := HO2.out.size
    have hne : w.heap.size ≠ g := by omega
    have hlen := B.tot_len L2
    obtain ⟨R, o, HR, HTb, _, _⟩ := HT2.out
    have ho := HR.1
    obtain ⟨co, _⟩ := HTb.o
    obtain ⟨cn, cn'⟩ := HTb.n
    obtain ⟨cz, cz'⟩ := HTb.s
    obtain ⟨cm2, _⟩ := HTb.m
    have e0 := HO2.out.cell hne d0
    have e1 := HO2.out.cell hne d1
    have e2 := HO2.out.cell hne d2
    have k2 : w2.frozen? ⟨w.heap.size, 2, none⟩ = false := by
      have h : w1.grownBy w2 (some g) := HO2.out
      rw [World.frozen?_of_block (a := ⟨w.heap.size, 2, none⟩) (h.block w.heap.size hs1 (fun e => hne (Option.some.inj e)))]
      exact f2
    clear d0 d1 d2 f0 f1 f2 cm HT1
    go_upto_region 5 with (fail)
    have HT3 : Hid (Tb (w2.setCell ⟨w.heap.size, 2, none⟩ (.bool false)) g R o L2.length (B.tot L2) m) := Blk.set_other HTb hne _
    have HO3 : Hid (Only g w (w2.setCell ⟨w.heap.size, 2, none⟩ (.bool false))) := ((Below.only HB1.out).trans HO2.out).setNew (Nat.le_refl _) _ _
    have e2' : (w2.setCell ⟨w.heap.size, 2, none⟩ (.bool false)).cell? ⟨w.heap.size, 2, none⟩ = some (.bool false) := World.cell?_setCell_same (h := e2) ..
    have e0' : (w2.setCell ⟨w.heap.size, 2, none⟩ (.bool false)).cell? ⟨w.heap.size, 0, none⟩ = some (.string n) := (World.cell?_setCell_other (h := addr_ne (by omega)) ..).trans e0
    have e1' : (w2.setCell ⟨w.heap.size, 2, none⟩ (.bool false)).cell? ⟨w.heap.size, 1, none⟩ = some (.string v) := (World.cell?_setCell_other (h := addr_ne (by omega)) ..).trans e1
    clear e0 e1 e2 k2 co cn cn' cz cz' cm2 HTb HO2 HT2
    generalize w2.setCell ⟨w.heap.size, 2, none⟩ (.bool false) = w3 at *
    obtain ⟨co, _⟩ := HT3.out.o
    obtain ⟨cn, _⟩ := HT3.out.n
    obtain ⟨q, hq⟩ : ∃ q, q = (o + L2.length) % 128 := ⟨_, rfl⟩
    have hq1 : q < 128 := by omega
    obtain ⟨_, b0, b1, b2⟩ := HT3.out.at q hq1
    obtain ⟨⟨a0, a1, a2⟩, _⟩ := HT3.out.at q hq1
    have hlen2 : L2.length ≤ 128 := HR.2.1
    have hlen3 : L2.length < 128 := by omega
    generalize hl2 : L2.length = l2 at *
    have Hl2 := Lib.hid hl2
    clear hl2
    have hq2 : ((o : Int) + (l2 : Int)) % 128 = (q : Int) := by omega
    have hq1' : IntKind.i64.wrap ((o : Int) + (l2 : Int)) = (o : Int) + (l2 : Int) := by rw [IntKind.wrap_i64]; omega
    have hq3 : ((o : Int) + (l2 : Int)).tmod 128 = (q : Int) := by
      rw [Int.tmod_eq_emod_of_nonneg (by omega)]
      exact hq2
    have hq4 : (0 : Int) ≤ (q : Int) := by omega
    have hq5 : (q : Int) < 128 := by omega
    have HQ := Lib.hid hq
    have HTot := Lib.hid htot
    clear hq hlen htot hlen2 hs1 hg1 hl0 hm1 hsz0
    go_still_tail 15, (by kernel_rfl)
    go_upto_region 6 with (fail)
    have HT4 : Hid (Tb ((((w3.setCell ⟨g, q * 3, none⟩ (.string n)).setCell ⟨g, q * 3 + 1, none⟩ (.string v)).setCell ⟨g, q * 3 + 2, none⟩ (.bool false)).drew) g (fun i => if i = q then (n, v) else R i) o l2 (B.tot L2) m) := Blk.drew (Tb.setr HT3.out q hq1 (n, v))
    have HO4 : Hid (Only g w ((((w3.setCell ⟨g, q * 3, none⟩ (.string n)).setCell ⟨g, q * 3 + 1, none⟩ (.string v)).setCell ⟨g, q * 3 + 2, none⟩ (.bool false)).drew)) := (((HO3.out.set _ _).set _ _).set _ _).drew
    clear a0 a1 a2 b0 b1 b2 co cn e0' e1' e2' HT3 HO3
    generalize (((w3.setCell ⟨g, q * 3, none⟩ (.string n)).setCell ⟨g, q * 3 + 1, none⟩ (.string v)).setCell ⟨g, q * 3 + 2, none⟩ (.bool false)).drew = w4 at *
    obtain ⟨cn, cn2⟩ := HT4.out.n
    go_upto_region 7 with (fail)
    have HT5 : Hid (Tb (w4.setCell ⟨g, 385, none⟩ (.int .i64 ((l2 : Int) + 1))) g (fun i => if i = q then (n, v) else R i) o (l2 + 1) (B.tot L2) m) := Tb.setn HT4.out (l2 + 1)
    have HO5 := Lib.hid (HO4.out.set 385 (.int .i64 ((l2 : Int) + 1)))
    clear cn cn2 HT4 HO4
    generalize w4.setCell ⟨g, 385, none⟩ (.int .i64 ((l2 : Int) + 1)) = w5 at *
    obtain ⟨cz, cz2⟩ := HT5.out.s
    have hts : B.tot L2 + s ≤ m := by have := HTot.out; omega
    go_wp2
    go_end0
    refine ⟨rfl, ?_, HO5.out.set _ _⟩
    have hlt2 : ¬ m < B.sz (n, v) := by rw [← HS.out]; exact hlt
    have hL : B.add m L (n, v) = L2 ++ [(n, v)] := by rw [B.add_fit hlt2, ← HS.out, HL2.out]
    have hR := ring_add HR (by rw [Hl2.out]; omega) (n, v)
    rw [Hl2.out, ← HQ.out] at hR
    have ht : B.tot (L2 ++ [(n, v)]) = B.tot L2 + s := by rw [B.tot_app, HS.out]; simp [B.tot]
    rw [hL]
    refine ⟨_, o, hR, ?_, ?_, hm2⟩
    · have h := Tb.sets HT5.out (B.tot L2 + s)
      rw [ht, List.length_append, Hl2.out]
      simpa using h
    · rw [ht]; exact hts
end Go.Proofs.YtcbljbdcnahfhaaDoor
/- Bget -/
namespace Go.Proofs.YtcbljbdcnahfhaaDoor
open Go.RowKit

set_option maxRecDepth 100000 in
theorem resize_yes (g : Nat) (L : List B.HD) (m k : Nat) (w : World) (hk : k ≤ 4096) (hT : Tab w g L m) :
    Calls Tryd.prog 50 #[.pointer (some ⟨g, 0, none⟩), .int .i64 k] w fun e w' => e = .returned .nilIface ∧ Tab w' g (B.shr k L) k ∧ Only g w w' := by
  have HM : Hid (∀ w, Calls Tryd.prog 71 #[.int .i64 k] w fun e w' => e = .returned (.bool true) ∧ w = w') := fun w => by
    have := mayBe_any k w
    rw [decide_eq_true (by omega)] at this
    exact this
  obtain ⟨hl0, hm1, hm2⟩ := hT.le
  obtain ⟨R, o, HR, HTb, _, _⟩ := hT
  obtain ⟨cm, cm2⟩ := HTb.m
  have HTb := Lib.hid HTb
  go_enter Tryd.func50, Tryd.ntmps50
  go_upto_region 4 with (go_at_call 71; refine (HM.out _).mono ?_; rintro e w1 ⟨rfl, rfl⟩)
  have HT1 : Hid (Tb (w.setCell ⟨g, 387, none⟩ (.int .i64 k)) g R o L.length (B.tot L) k) := Tb.setm HTb.out k
  have HO1 : Hid (Only g w (w.setCell ⟨g, 387, none⟩ (.int .i64 k))) := (Only.refl g w).set _ _
  have HSh := Lib.hid (shrink_any g L k k _ hk ⟨R, o, HR, HT1.out, by omega, hk⟩)
  clear HT1 cm cm2 HTb
  generalize w.setCell ⟨g, 387, none⟩ (.int .i64 k) = w1 at *
  go_wp2_with (go_at_call 72; refine HSh.out.mono ?_; rintro e w2 ⟨rfl, hT2, hO2⟩; have HT2 := Lib.hid hT2; have HO2 := Lib.hid (HO1.out.trans hO2); clear hT2 hO2)
  go_ret
  exact ⟨rfl, HT2.out.tab (B.shr_tot k L), HO2.out⟩

set_option maxRecDepth 100000 in
theorem resize_no (g : Nat) (k : Int) (e0 : Addr) (w : World) (hk : ¬ (0 ≤ k ∧ k ≤ 4096)) (hE : TE w e0) :
    Calls Tryd.prog 50 #[.pointer (some ⟨g, 0, none⟩), .int .i64 k] w fun e w' => e = .returned (.iface 166 (.pointer (some e0))) ∧ w = w' := by
  have HM : Hid (∀ w, Calls Tryd.prog 71 #[.int .i64 k] w fun e w' => e = .returned (.bool false) ∧ w = w') := fun w => by
    have := mayBe_any k w
    rw [decide_eq_false hk] at this
    exact this
  unfold TE at hE
  go_enter Tryd.func50, Tryd.ntmps50
  go_wp2_with (go_at_call 71; refine (HM.out _).mono ?_; rintro e w1 ⟨rfl, rfl⟩)
  go_ret
  exact ⟨rfl, rfl⟩

set_option maxRecDepth 100000 in
theorem moved_any (g : Nat) (L : List B.HD) (m j : Nat) (w : World) (hj : j < L.length) (hT : Tab w g L m) :
    Calls Tryd.prog 109 #[.pointer (some ⟨g, 0, none⟩), .int .i64 (62 + j : Nat)] w fun e w' => e = .returned (.agg #[.string (B.nth L j).1, .string (B.nth L j).2, .bool false]) ∧ Below w.heap.size w w' := by
  rw [B.nth_eq L j hj]
  have hg := hT.lt
  obtain ⟨R, o, HR, HTb, hm1, hm2⟩ := hT
  obtain ⟨ho, hl, hr⟩ := HR
  have hr2 := hr (L.length - 1 - j) (by omega)
  obtain ⟨h, hh⟩ : ∃ h, h = L.getD (L.length - 1 - j) (⟨#[]⟩, ⟨#[]⟩) := ⟨_, rfl⟩
  rw [← hh] at hr2 ⊢
  obtain ⟨n, v⟩ := h
  obtain ⟨q, hq⟩ : ∃ q, q = (o + (L.length - 1 - j)) % 128 := ⟨_, rfl⟩
  rw [← hq] at hr2
  have hq1 : q < 128 := by omega
  obtain ⟨⟨a0, a1, a2⟩, _⟩ := HTb.at q hq1
  rw [hr2] at a0 a1
  obtain ⟨co, _⟩ := HTb.o
  obtain ⟨cn, _⟩ := HTb.n
  clear hr hr2 hh HTb
  generalize L.length = l at *
  have e1 : IntKind.i64.wrap ((o : Int) + (l : Int)) = (o : Int) + (l : Int) := by rw [IntKind.wrap_i64]; omega
  have e2 : IntKind.i64.wrap ((o : Int) + (l : Int) - 1) = (o : Int) + (l : Int) - 1 := by rw [IntKind.wrap_i64]; omega
  have e3 : IntKind.i64.wrap ((62 : Int) + (j : Int) - 62) = (j : Int) := by rw [IntKind.wrap_i64]; omega
  have e4 : IntKind.i64.wrap ((o : Int) + (l : Int) - 1 - (j : Int)) = (o : Int) + (l : Int) - 1 - (j : Int) := by rw [IntKind.wrap_i64]; omega
  have e5 : ((o : Int) + (l : Int) - 1 - (j : Int)) % 128 = (q : Int) := by omega
  have e6 : ((o : Int) + (l : Int) - 1 - (j : Int)).tmod 128 = (q : Int) := by
    rw [Int.tmod_eq_emod_of_nonneg (by omega)]
    exact e5
  have k0 : (0 : Int) ≤ (q : Int) := by omega
  have k1 : (q : Int) < 128 := by omega
  clear hq hm1 hm2
  go_enter Tryd.func109, Tryd.ntmps109
  go_upto_region 1 with (fail)
  obtain ⟨z0, z1, z2, y0, y1, y2, HB1, hkeep⟩ : ∃ (_ : (w.alloc (.cells #[.string ⟨#[]⟩, .string ⟨#[]⟩, .bool false] 66)).cell? ⟨w.heap.size, 0, none⟩ = some (.string ⟨#[]⟩)) (_ : (w.alloc (.cells #[.string ⟨#[]⟩, .string ⟨#[]⟩, .bool false] 66)).cell? ⟨w.heap.size, 1, none⟩ = some (.string ⟨#[]⟩)) (_ : (w.alloc (.cells #[.string ⟨#[]⟩, .string ⟨#[]⟩, .bool false] 66)).cell? ⟨w.heap.size, 2, none⟩ = some (.bool false))
      (_ : (w.alloc (.cells #[.string ⟨#[]⟩, .string ⟨#[]⟩, .bool false] 66)).frozen? ⟨w.heap.size, 0, none⟩ = false) (_ : (w.alloc (.cells #[.string ⟨#[]⟩, .string ⟨#[]⟩, .bool false] 66)).frozen? ⟨w.heap.size, 1, none⟩ = false) (_ : (w.alloc (.cells #[.string ⟨#[]⟩, .string ⟨#[]⟩, .bool false] 66)).frozen? ⟨w.heap.size, 2, none⟩ = false)
      (_ : Hid (Below w.heap.size w (w.alloc (.cells #[.string ⟨#[]⟩, .string ⟨#[]⟩, .bool false] 66)))),
      (∀ o, (w.alloc (.cells #[.string ⟨#[]⟩, .string ⟨#[]⟩, .bool false] 66)).cell? ⟨g, o, none⟩ = w.cell? ⟨g, o, none⟩) :=
    ⟨by simp, by simp, by simp, by simp, by simp, by simp, (Below.refl _ _).alloc (Nat.le_refl _) _, fun o => World.cell?_alloc_lt _ _ _ (show (⟨g, o, none⟩ : Addr).block < w.heap.size from hg)⟩
  rw [← hkeep] at co cn a0 a1 a2
  clear hkeep
  have hne : w.heap.size ≠ g := by omega
  generalize hs : w.heap.size = sb at *
  have HS := Lib.hid hs
  clear hs
  generalize w.alloc (.cells #[.string ⟨#[]⟩, .string ⟨#[]⟩, .bool false] 66) = w1 at *
  go_still_tail 19, (by kernel_rfl)
  go_wp2
  refine bodyPost_ret (v := .agg #[.string n, .string v, .bool false]) (by simp [results, Tryd.results109, go_sem, z0, z1, z2]) rfl ?_
  refine ⟨rfl, ?_⟩
  rw [HS.out]
  exact (((HB1.out.setCell (Nat.le_refl _) _).setCell (Nat.le_refl _) _).setCell (Nat.le_refl _) _).drew
end Go.Proofs.YtcbljbdcnahfhaaDoor
