/-
Which bytes are UTF-8 text: the plain function, how texts stand behind one another, and what the library's two tables and eight bytes at once say of it; nothing of any program stands here.
-/
import Derived.Shelf.Unicode.DecodeSlow
import Derived.Lib.ValidAsc
import Derived.Laws.BitsAllLaws
namespace Go.Proofs.YtnejachdacakcaaDoor
namespace T

def lo3 (c : Nat) : Nat := if c = 224 then 160 else 128
def hi3 (c : Nat) : Nat := if c = 237 then 159 else 191
def lo4 (c : Nat) : Nat := if c = 240 then 144 else 128
def hi4 (c : Nat) : Nat := if c = 244 then 143 else 191

/-- How many bytes the first character has (0: it is none); a byte that is not there is 0. -/
def st4 (c a b d : Nat) : Nat :=
  if c < 128 then 1
  else if 194 ≤ c ∧ c ≤ 223 ∧ 128 ≤ a ∧ a ≤ 191 then 2
  else if 224 ≤ c ∧ c ≤ 239 ∧ lo3 c ≤ a ∧ a ≤ hi3 c ∧ 128 ≤ b ∧ b ≤ 191 then 3
  else if 240 ≤ c ∧ c ≤ 244 ∧ lo4 c ≤ a ∧ a ≤ hi4 c ∧ 128 ≤ b ∧ b ≤ 191 ∧ 128 ≤ d ∧ d ≤ 191 then 4
  else 0

def st (l : List Nat) : Nat := st4 (l.getD 0 0) (l.getD 1 0) (l.getD 2 0) (l.getD 3 0)

/-- Text, with fuel. -/
def txF : Nat → List Nat → Bool
  | 0, _ => true
  | n + 1, l => if l.length = 0 then true else if st l = 0 then false else txF n (l.drop (st l))

/-- Are bytes UTF-8? -/
def tx (l : List Nat) : Bool := txF l.length l

theorem lo3_ge (c : Nat) : 128 ≤ lo3 c := by unfold lo3; split <;> omega
theorem lo4_ge (c : Nat) : 128 ≤ lo4 c := by unfold lo4; split <;> omega
theorem hi3_le (c : Nat) : hi3 c ≤ 191 := by unfold hi3; split <;> omega
theorem hi4_le (c : Nat) : hi4 c ≤ 191 := by unfold hi4; split <;> omega

theorem st4_le (c a b d : Nat) : st4 c a b d ≤ 4 := by
  unfold st4
  repeat' split
  all_goals omega

theorem st_le {l : List Nat} (h : l.length ≠ 0) : st l ≤ l.length := by
  have a := lo3_ge (l.getD 0 0)
  have b := lo4_ge (l.getD 0 0)
  match l, h with
  | [x], _ =>
    simp [st] at *
    unfold st4
    repeat' split
    all_goals omega
  | [x, y], _ =>
    simp [st] at *
    unfold st4
    repeat' split
    all_goals omega
  | [x, y, z], _ =>
    simp [st] at *
    unfold st4
    repeat' split
    all_goals omega
  | x :: y :: z :: u :: r, _ =>
    have := st4_le x y z u
    simp [st]
    omega

theorem txF_fuel : ∀ n (l : List Nat), l.length ≤ n → txF n l = txF l.length l
  | 0, l => by
    intro h
    have : l = [] := List.length_eq_zero_iff.1 (by omega)
    subst this; rfl
  | n + 1, l => by
    intro h
    cases hl : l.length with
    | zero => simp [txF, hl]
    | succ m =>
      have hne : ¬ l.length = 0 := by omega
      show (if l.length = 0 then true else if st l = 0 then false else txF n (l.drop (st l))) = (if l.length = 0 then true else if st l = 0 then false else txF m (l.drop (st l)))
      rw [if_neg hne, if_neg hne]
      by_cases hs : st l = 0
      · rw [if_pos hs, if_pos hs]
      · rw [if_neg hs, if_neg hs]
        have hd : (l.drop (st l)).length ≤ m := by rw [List.length_drop]; omega
        rw [txF_fuel n _ (by omega), txF_fuel m _ hd]

theorem tx_nil {l : List Nat} (h : l.length = 0) : tx l = true := by
  unfold tx; rw [h]; rfl
theorem tx_step {l : List Nat} (h : l.length ≠ 0) : tx l = if st l = 0 then false else tx (l.drop (st l)) := by
  unfold tx
  obtain ⟨m, hm⟩ : ∃ m, l.length = m + 1 := ⟨l.length - 1, by omega⟩
  rw [hm]
  show (if l.length = 0 then true else _) = _
  rw [if_neg h]
  by_cases hs : st l = 0
  · rw [if_pos hs, if_pos hs]
  · rw [if_neg hs, if_neg hs]
    exact txF_fuel m _ (by rw [List.length_drop]; omega)

theorem tx_asc : ∀ (k : Nat) (l : List Nat), k ≤ l.length → (∀ j, j < k → l.getD j 0 < 128) → tx (l.drop k) = tx l
  | 0, l => by intro _ _; simp
  | k + 1, l => by
    intro hk h
    have h1 : st l = 1 := by
      have := h 0 (by omega)
      unfold st st4
      rw [if_pos this]
    have h2 := tx_step (l := l) (by omega)
    rw [h1, if_neg (by omega)] at h2
    rw [h2, ← tx_asc k (l.drop 1) (by rw [List.length_drop]; omega) (fun j hj => by
      have hj' := h (j + 1) (by omega)
      rw [List.getD_eq_getElem?_getD] at hj' ⊢
      rw [List.getElem?_drop, Nat.add_comm 1 j]
      exact hj'), List.drop_drop, Nat.add_comm 1 k]

theorem getD_app (r b : List Nat) (j : Nat) : (r ++ b).getD j 0 = if j < r.length then r.getD j 0 else b.getD (j - r.length) 0 := by
  simp only [List.getD_eq_getElem?_getD]
  by_cases h : j < r.length
  · rw [if_pos h, List.getElem?_append_left h]
  · rw [if_neg h, List.getElem?_append_right (by omega)]

/-- What begins with a character begins with it, whatever stands behind. -/
theorem st_app {r : List Nat} (b : List Nat) (h : r.length ≠ 0) (hs : st r ≠ 0) : st (r ++ b) = st r := by
  have l3 := lo3_ge (r.getD 0 0)
  have l4 := lo4_ge (r.getD 0 0)
  match r, h with
  | [x], _ =>
    simp only [st, getD_app] at *
    simp at *
    unfold st4 at *
    repeat' split at hs
    all_goals first | (exfalso; omega) | skip
    all_goals (repeat' split) <;> omega
  | [x, y], _ =>
    simp only [st, getD_app] at *
    simp at *
    unfold st4 at *
    repeat' split at hs
    all_goals first | (exfalso; omega) | skip
    all_goals (repeat' split) <;> omega
  | [x, y, z], _ =>
    simp only [st, getD_app] at *
    simp at *
    unfold st4 at *
    repeat' split at hs
    all_goals first | (exfalso; omega) | skip
    all_goals (repeat' split) <;> omega
  | x :: y :: z :: u :: t, _ => simp [st]

/-- What is no character's beginning is one at most with a byte behind that is no text's first. -/
theorem st_cut {r b : List Nat} (h : r.length ≠ 0) (hs : st r = 0) (hs2 : st (r ++ b) ≠ 0) : 128 ≤ b.getD 0 0 ∧ b.getD 0 0 ≤ 191 := by
  match r, h with
  | [x], _ =>
    have l3 := lo3_ge x
    have l4 := lo4_ge x
    have h3 := hi3_le x
    have h4 := hi4_le x
    simp only [st, getD_app] at *
    simp at *
    unfold st4 at *
    repeat' split at hs
    all_goals first | (exfalso; omega) | skip
    all_goals (repeat' split at hs2) <;> first | omega | (exfalso; omega)
  | [x, y], _ =>
    simp only [st, getD_app] at *
    simp at *
    unfold st4 at *
    repeat' split at hs
    all_goals first | (exfalso; omega) | skip
    all_goals (repeat' split at hs2) <;> first | omega | (exfalso; omega)
  | [x, y, z], _ =>
    simp only [st, getD_app] at *
    simp at *
    unfold st4 at *
    repeat' split at hs
    all_goals first | (exfalso; omega) | skip
    all_goals (repeat' split at hs2) <;> first | omega | (exfalso; omega)
  | x :: y :: z :: u :: t, _ =>
    exfalso
    simp [st] at hs hs2
    exact hs2 hs

/-- A text behind a text. -/
theorem tx_app : ∀ (n : Nat) (a b : List Nat), a.length ≤ n → tx a = true → tx (a ++ b) = tx b
  | 0, a, b => by
    intro h _
    have : a = [] := List.length_eq_zero_iff.1 (by omega)
    subst this; rfl
  | n + 1, a, b => by
    intro h ha
    by_cases h0 : a.length = 0
    · have : a = [] := List.length_eq_zero_iff.1 h0
      subst this; rfl
    · rw [tx_step h0] at ha
      by_cases hs : st a = 0
      · rw [if_pos hs] at ha; cases ha
      · rw [if_neg hs] at ha
        rw [tx_step (by rw [List.length_append]; omega), st_app b h0 hs, if_neg hs, List.drop_append_of_le_length (st_le h0)]
        exact tx_app n _ b (by rw [List.length_drop]; omega) ha

/-- What is no text is none with a text behind it. -/
theorem tx_not : ∀ (n : Nat) (a b : List Nat), a.length ≤ n → tx a = false → tx b = true → tx (a ++ b) = false
  | 0, a, b => by
    intro h ha _
    have : a = [] := List.length_eq_zero_iff.1 (by omega)
    subst this
    cases ha
  | n + 1, a, b => by
    intro h ha hb
    by_cases h0 : a.length = 0
    · rw [tx_nil h0] at ha; cases ha
    · rw [tx_step h0] at ha
      rw [tx_step (by rw [List.length_append]; omega)]
      by_cases hs : st a = 0
      · by_cases hs2 : st (a ++ b) = 0
        · rw [if_pos hs2]
        · exfalso
          obtain ⟨h1, h2⟩ := st_cut h0 hs hs2
          have hb0 : b.length ≠ 0 := by
            intro e
            have : b = [] := List.length_eq_zero_iff.1 e
            subst this
            simp at h1
          rw [tx_step hb0] at hb
          have : st b = 0 := by
            unfold st st4
            have l3 := lo3_ge (b.getD 0 0)
            repeat' split
            all_goals omega
          rw [if_pos this] at hb
          cases hb
      · rw [if_neg hs] at ha
        rw [st_app b h0 hs, if_neg hs, List.drop_append_of_le_length (st_le h0)]
        exact tx_not n _ b (by rw [List.length_drop]; omega) ha hb

/-- What the library's tables say of a first byte from 128 on. -/
theorem tab : ∀ c : Fin 256, 128 ≤ c.val → Lib.firstT c.val < 256 ∧
    (Lib.firstT c.val % 8 = 2 → 194 ≤ c.val ∧ c.val ≤ 223 ∧ Lib.accLo (Lib.firstT c.val / 16) = 128 ∧ Lib.accHi (Lib.firstT c.val / 16) = 191) ∧
    (Lib.firstT c.val % 8 = 3 → 224 ≤ c.val ∧ c.val ≤ 239 ∧ Lib.accLo (Lib.firstT c.val / 16) = lo3 c.val ∧ Lib.accHi (Lib.firstT c.val / 16) = hi3 c.val) ∧
    (Lib.firstT c.val % 8 = 4 → 240 ≤ c.val ∧ c.val ≤ 244 ∧ Lib.accLo (Lib.firstT c.val / 16) = lo4 c.val ∧ Lib.accHi (Lib.firstT c.val / 16) = hi4 c.val) ∧
    (Lib.firstT c.val % 8 ≠ 2 → Lib.firstT c.val % 8 ≠ 3 → Lib.firstT c.val % 8 ≠ 4 → c.val < 194 ∨ 244 < c.val) := by decide +kernel

/-- The number that eight bytes are. -/
def w8 (l : List Nat) : Nat := l.getD 0 0 + l.getD 1 0 * 256 + l.getD 2 0 * 65536 + l.getD 3 0 * 16777216 + l.getD 4 0 * 4294967296 + l.getD 5 0 * 1099511627776 + l.getD 6 0 * 281474976710656 + l.getD 7 0 * 72057594037927936

theorem w8_lt {l : List Nat} (h : ∀ j, l.getD j 0 < 256) : w8 l < 18446744073709551616 := by
  have h0 := h 0; have h1 := h 1; have h2 := h 2; have h3 := h 3; have h4 := h 4; have h5 := h 5; have h6 := h 6; have h7 := h 7
  unfold w8
  omega

theorem w8_asc {l : List Nat} (h : ∀ j, l.getD j 0 < 256) (hz : w8 l &&& 9259542123273814144 = 0) : ∀ j, j < 8 → l.getD j 0 < 128 := by
  have h0 := h 0; have h1 := h 1; have h2 := h 2; have h3 := h 3; have h4 := h 4; have h5 := h 5; have h6 := h 6; have h7 := h 7
  have key := Lib.leNat_mask [UInt8.ofNat (l.getD 0 0), UInt8.ofNat (l.getD 1 0), UInt8.ofNat (l.getD 2 0), UInt8.ofNat (l.getD 3 0), UInt8.ofNat (l.getD 4 0), UInt8.ofNat (l.getD 5 0), UInt8.ofNat (l.getD 6 0), UInt8.ofNat (l.getD 7 0)]
  have e : ∀ x, x < 256 → (UInt8.ofNat x).toNat = x := fun x hx => by rw [UInt8.toNat_ofNat']; exact Nat.mod_eq_of_lt hx
  have hw : Lib.leNat [UInt8.ofNat (l.getD 0 0), UInt8.ofNat (l.getD 1 0), UInt8.ofNat (l.getD 2 0), UInt8.ofNat (l.getD 3 0), UInt8.ofNat (l.getD 4 0), UInt8.ofNat (l.getD 5 0), UInt8.ofNat (l.getD 6 0), UInt8.ofNat (l.getD 7 0)] = w8 l := by
    simp only [Lib.leNat, e _ h0, e _ h1, e _ h2, e _ h3, e _ h4, e _ h5, e _ h6, e _ h7]
    unfold w8
    omega
  have hm : Lib.maskN 8 = 9259542123273814144 := Lib.maskN8
  simp only [List.length_cons, List.length_nil, Nat.zero_add, Nat.reduceAdd] at key
  rw [hw, hm] at key
  have := key.1 hz
  simp only [List.mem_cons, List.not_mem_nil, or_false, forall_eq_or_imp, forall_eq, e _ h0, e _ h1, e _ h2, e _ h3, e _ h4, e _ h5, e _ h6, e _ h7] at this
  intro j hj
  match j, hj with
  | 0, _ => omega
  | 1, _ => omega
  | 2, _ => omega
  | 3, _ => omega
  | 4, _ => omega
  | 5, _ => omega
  | 6, _ => omega
  | 7, _ => omega

theorem getD_out {l : List Nat} {j : Nat} (h : l.length ≤ j) : l.getD j 0 = 0 := by
  rw [List.getD_eq_getElem?_getD, List.getElem?_eq_none h]; rfl

theorem s2 (c a b d : Nat) (h1 : 194 ≤ c) (h2 : c ≤ 223) : st4 c a b d = if 128 ≤ a ∧ a ≤ 191 then 2 else 0 := by
  unfold st4
  repeat' split
  all_goals first | rfl | (exfalso; omega) | omega
theorem lead2 {l : List Nat} (h0 : l.length ≠ 0) (h1 : 194 ≤ l.getD 0 0) (h2 : l.getD 0 0 ≤ 223) : tx l = if 128 ≤ l.getD 1 0 ∧ l.getD 1 0 ≤ 191 then tx (l.drop 2) else false := by
  rw [tx_step h0]
  unfold st
  rw [s2 _ _ _ _ h1 h2]
  by_cases h : 128 ≤ l.getD 1 0 ∧ l.getD 1 0 ≤ 191
  · rw [if_pos h, if_pos h, if_neg (by omega)]
  · rw [if_neg h, if_neg h, if_pos rfl]
theorem s3 (c a b d : Nat) (h1 : 224 ≤ c) (h2 : c ≤ 239) : st4 c a b d = if lo3 c ≤ a ∧ a ≤ hi3 c ∧ 128 ≤ b ∧ b ≤ 191 then 3 else 0 := by
  unfold st4
  repeat' split
  all_goals first | rfl | (exfalso; omega) | omega
theorem lead3 {l : List Nat} (h0 : l.length ≠ 0) (h1 : 224 ≤ l.getD 0 0) (h2 : l.getD 0 0 ≤ 239) : tx l = if lo3 (l.getD 0 0) ≤ l.getD 1 0 ∧ l.getD 1 0 ≤ hi3 (l.getD 0 0) ∧ 128 ≤ l.getD 2 0 ∧ l.getD 2 0 ≤ 191 then tx (l.drop 3) else false := by
  rw [tx_step h0]
  unfold st
  rw [s3 _ _ _ _ h1 h2]
  by_cases h : lo3 (l.getD 0 0) ≤ l.getD 1 0 ∧ l.getD 1 0 ≤ hi3 (l.getD 0 0) ∧ 128 ≤ l.getD 2 0 ∧ l.getD 2 0 ≤ 191
  · rw [if_pos h, if_pos h, if_neg (by omega)]
  · rw [if_neg h, if_neg h, if_pos rfl]
theorem s4 (c a b d : Nat) (h1 : 240 ≤ c) (h2 : c ≤ 244) : st4 c a b d = if lo4 c ≤ a ∧ a ≤ hi4 c ∧ 128 ≤ b ∧ b ≤ 191 ∧ 128 ≤ d ∧ d ≤ 191 then 4 else 0 := by
  unfold st4
  repeat' split
  all_goals first | rfl | (exfalso; omega) | omega
theorem lead4 {l : List Nat} (h0 : l.length ≠ 0) (h1 : 240 ≤ l.getD 0 0) (h2 : l.getD 0 0 ≤ 244) : tx l = if lo4 (l.getD 0 0) ≤ l.getD 1 0 ∧ l.getD 1 0 ≤ hi4 (l.getD 0 0) ∧ 128 ≤ l.getD 2 0 ∧ l.getD 2 0 ≤ 191 ∧ 128 ≤ l.getD 3 0 ∧ l.getD 3 0 ≤ 191 then tx (l.drop 4) else false := by
  rw [tx_step h0]
  unfold st
  rw [s4 _ _ _ _ h1 h2]
  by_cases h : lo4 (l.getD 0 0) ≤ l.getD 1 0 ∧ l.getD 1 0 ≤ hi4 (l.getD 0 0) ∧ 128 ≤ l.getD 2 0 ∧ l.getD 2 0 ≤ 191 ∧ 128 ≤ l.getD 3 0 ∧ l.getD 3 0 ≤ 191
  · rw [if_pos h, if_pos h, if_neg (by omega)]
  · rw [if_neg h, if_neg h, if_pos rfl]
theorem s0 (c a b d : Nat) (h1 : 128 ≤ c) (h2 : c < 194 ∨ 244 < c) : st4 c a b d = 0 := by
  unfold st4
  repeat' split
  all_goals first | rfl | (exfalso; omega)
theorem lead0 {l : List Nat} (h0 : l.length ≠ 0) (h1 : 128 ≤ l.getD 0 0) (h2 : l.getD 0 0 < 194 ∨ 244 < l.getD 0 0) : tx l = false := by
  rw [tx_step h0]
  unfold st
  rw [s0 _ _ _ _ h1 h2, if_pos rfl]

end T
end Go.Proofs.YtnejachdacakcaaDoor
