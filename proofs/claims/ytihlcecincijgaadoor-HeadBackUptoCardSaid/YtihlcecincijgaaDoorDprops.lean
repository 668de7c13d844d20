/-
What follows of whether a list may be: which of two plain headers stands first, one less, one more.
-/
import Derived.Test.YtihlcecincijgaaDoorDspec
namespace Go.Proofs.YtihlcecincijgaaDoor
namespace D

def okR (l : List HB) : Bool := (opn l).isSome
def okA (l : List HB) : Bool := (opnA l).isSome

/-- Whether a front may be a request's. -/
def frR (F : List HB) : Bool := F.all (ok1 F) && qtk 0 (fstN kMethod F) && qtk 1 (fstN kScheme F) && qtk 3 (fstN kPath F)
theorem okR_eq (l : List HB) : okR l = (frR (front l) && (back l).all plainH) := by
  unfold okR
  rw [opn_ref]
  have : roks l = (frR (front l) && (back l).all plainH) := rfl
  rw [← this]
  cases roks l <;> simp

/-- .. and an answer's. -/
def frA (F : List HB) : Bool := match F with
  | [x] => decide (x.1.1 = kStatus) && value x.1.2 && stOk x.1.2
  | _ => false
theorem folA (t : List HB) (g : Nat) : foll RA [] g t = if t.takeWhile colon = [] then some ([], g, t) else none := by
  cases t with
  | nil => rfl
  | cons x t =>
    by_cases hc : colon x = true
    · rw [List.takeWhile_cons, if_pos hc, if_neg (by simp)]
      exact foll_none RA hc rfl
    · rw [List.takeWhile_cons, if_neg hc, if_pos rfl]
      exact foll_stop RA (by simpa using hc)
theorem stpA (x : HB) (g : Nat) : stp RA [0] g x = if x.1.1 = kStatus ∧ value x.1.2 = true ∧ stOk x.1.2 = true then some ([], (dec x.1.2 3 3).getD 0) else none := by
  unfold stp
  rw [List.findIdx?_cons]
  show (match (if decide (kStatus = x.1.1) = true then some 0 else _) with | none => none | some i => _) = _
  by_cases h : x.1.1 = kStatus
  · rw [if_pos (decide_eq_true h.symm)]
    simp only
    by_cases h2 : value x.1.2 = true ∧ stOk x.1.2 = true
    · have e : (value x.1.2 && RA.tk ([0].getD 0 0) x.1.2) = true := by show (value x.1.2 && stOk x.1.2) = true; simp [h2]
      rw [if_pos e, if_pos ⟨h, h2⟩]
      rfl
    · have e : ¬ (value x.1.2 && RA.tk ([0].getD 0 0) x.1.2) = true := by show ¬ (value x.1.2 && stOk x.1.2) = true; simpa using h2
      rw [if_neg e, if_neg (fun hh => h2 hh.2)]
  · rw [if_neg (by simp; exact fun e => h e.symm), if_neg (fun hh => h hh.1)]
    rfl
theorem opnA_eq (l : List HB) : opnA l = if frA (front l) = true ∧ (back l).all plainH = true then some ((dec ((front l).headD ((⟨#[]⟩, ⟨#[]⟩), false)).1.2 3 3).getD 0, back l) else none := by
  unfold opnA follow front back
  cases l with
  | nil => simp [foll, frA]
  | cons x t =>
    by_cases hc : colon x = true
    · rw [List.takeWhile_cons, if_pos hc, List.dropWhile_cons, if_pos hc]
      by_cases hs : x.1.1 = kStatus ∧ value x.1.2 = true ∧ stOk x.1.2 = true
      · have e := stpA x 0
        rw [if_pos hs] at e
        rw [foll_some RA hc e, folA]
        by_cases ht : t.takeWhile colon = []
        · rw [if_pos ht]
          have hb : t.dropWhile colon = t := by
            have := List.takeWhile_append_dropWhile (p := colon) (l := t)
            rw [ht] at this
            exact this
          have hf : frA (x :: t.takeWhile colon) = true := by rw [ht]; simp [frA, hs]
          rw [hb]
          simp only
          by_cases hp : t.all plainH = true
          · rw [if_pos hp, if_pos ⟨hf, hp⟩]
            simp
          · rw [if_neg hp, if_neg (fun h => hp h.2)]
        · rw [if_neg ht]
          have hf : frA (x :: t.takeWhile colon) = false := by
            cases h : t.takeWhile colon with
            | nil => exact absurd h ht
            | cons y r => rfl
          rw [hf]
          simp
      · have e := stpA x 0
        rw [if_neg hs] at e
        rw [foll_none RA hc e]
        have hf : ¬ frA (x :: t.takeWhile colon) = true := by
          intro h
          cases ht : t.takeWhile colon with
          | nil =>
            rw [ht] at h
            simp [frA, and_assoc] at h
            exact hs h
          | cons y r => rw [ht] at h; cases h
        rw [if_neg (fun h => hf h.1)]
    · have hc' : colon x = false := by simpa using hc
      rw [foll_stop RA hc', List.takeWhile_cons, if_neg hc, List.dropWhile_cons, if_neg hc]
      have : ¬ (frA [] = true ∧ (x :: t).all plainH = true) := fun h => by cases h.1
      rw [if_neg this]
      simp only
      cases hp : (x :: t).all plainH <;> simp
theorem okA_eq (l : List HB) : okA l = (frA (front l) && (back l).all plainH) := by
  unfold okA
  rw [opnA_eq]
  cases h1 : frA (front l) <;> cases h2 : (back l).all plainH <;> simp

/-- What two heads' fronts and plain rests share. -/
def okT (l : List HB) : Bool := l.all plainH

theorem not_plain_colon {x : HB} (h : plainH x = true) : colon x = false := by
  cases hc : colon x with
  | false => rfl
  | true => rw [plain_colon hc] at h; cases h

theorem takeWhile_all : ∀ (l : List HB) (y : HB), y ∈ l.takeWhile colon → colon y = true
  | [], y, h => by cases h
  | x :: t, y, h => by
    by_cases hc : colon x = true
    · rw [List.takeWhile_cons, if_pos hc] at h
      rcases List.mem_cons.1 h with rfl | h
      · exact hc
      · exact takeWhile_all t y h
    · rw [List.takeWhile_cons, if_neg hc] at h
      cases h
/-- A list whose i-th header has no colon: its front ends at i or ahead. -/
theorem split_at (l : List HB) (i : Nat) (x : HB) (hx : l[i]? = some x) (hc : colon x = false) : (front l).length ≤ i ∧ ∀ m : List HB, (∀ j, j < (front l).length → m[j]? = l[j]?) → (∀ y, m[(front l).length]? = some y → colon y = false) → front m = front l := by
  have e := front_back l
  have hF : ∀ y ∈ front l, colon y = true := fun y hy => takeWhile_all l y hy
  constructor
  · by_cases h : i < (front l).length
    · exfalso
      have h2 : (front l)[i]? = some x := by
        rw [← hx]
        conv => rhs; rw [← e]
        rw [List.getElem?_append_left h]
      rw [hF x (List.mem_of_getElem? h2)] at hc
      cases hc
    · omega
  · intro m hm hn
    have hlen : (front l).length ≤ m.length := by
      by_cases h0 : (front l).length = 0
      · omega
      · have h1 := hm ((front l).length - 1) (by omega)
        have h2 : (front l).length - 1 < l.length := by
          have := congrArg List.length e
          rw [List.length_append] at this
          omega
        rw [List.getElem?_eq_getElem h2] at h1
        have := (List.getElem?_eq_some_iff.1 h1).1
        omega
    have hsplit : m = front l ++ m.drop (front l).length := by
      have ht : m.take (front l).length = front l := by
        apply List.ext_getElem?
        intro j
        by_cases hj : j < (front l).length
        · rw [List.getElem?_take_of_lt hj, hm j hj]
          conv => lhs; rw [← e]
          rw [List.getElem?_append_left hj]
        · rw [List.getElem?_take_eq_none (by omega), List.getElem?_eq_none (by omega)]
      conv => lhs; rw [← List.take_append_drop (front l).length m, ht]
    have hd : (m.drop (front l).length).takeWhile colon = [] := by
      cases hdr : m.drop (front l).length with
      | nil => rfl
      | cons y r =>
        have : m[(front l).length]? = some y := by
          have h := List.getElem?_drop (xs := m) (i := (front l).length) (j := 0)
          rw [hdr] at h
          simpa using h.symm
        rw [List.takeWhile_cons, if_neg (by rw [hn y this]; simp)]
    show m.takeWhile colon = front l
    rw [hsplit, List.takeWhile_append_of_pos hF, hd, List.append_nil]
theorem back_drop (l : List HB) : back l = l.drop (front l).length := by
  have h : (front l ++ back l).drop (front l).length = back l := List.drop_left ..
  rw [front_back] at h
  exact h.symm
theorem all_drop (l : List HB) (n : Nat) (p : HB → Bool) : (l.drop n).all p = true ↔ ∀ j z, n ≤ j → l[j]? = some z → p z = true := by
  rw [List.all_eq_true]
  constructor
  · intro h j z hj hz
    refine h z ?_
    rw [List.mem_iff_getElem?]
    exact ⟨j - n, by rw [List.getElem?_drop, show n + (j - n) = j by omega]; exact hz⟩
  · intro h z hz
    rw [List.mem_iff_getElem?] at hz
    obtain ⟨j, hj⟩ := hz
    rw [List.getElem?_drop] at hj
    exact h (n + j) z (by omega) hj
theorem back_head (l : List HB) (y : HB) (h : l[(front l).length]? = some y) : colon y = false := by
  have e : (back l)[0]? = some y := by rw [back_drop, List.getElem?_drop]; exact h
  unfold back at e
  cases hb : l.dropWhile colon with
  | nil => rw [hb] at e; cases e
  | cons z r =>
    rw [hb] at e
    have : z = y := by simpa using e
    subst this
    have := List.head?_dropWhile_not colon l
    rw [hb] at this
    simpa using this

section
variable (fr : List HB → Bool)
def okF (l : List HB) : Bool := fr (front l) && (back l).all plainH

theorem swap_get (l : List HB) (i k : Nat) (x y : HB) (hi : l[i]? = some x) (hk : l[k]? = some y) (j : Nat) : ((l.set i y).set k x)[j]? = if j = k then some x else if j = i then some y else l[j]? := by
  have h1 := (List.getElem?_eq_some_iff.1 hi).1
  have h2 := (List.getElem?_eq_some_iff.1 hk).1
  rw [List.getElem?_set, List.getElem?_set]
  by_cases e : j = k
  · subst e; simp [h2]
  · by_cases e2 : j = i
    · subst e2
      rw [if_neg (fun h => e h.symm), if_neg e, if_pos rfl, if_pos rfl, if_pos h1]
    · rw [if_neg (fun h => e h.symm), if_neg (fun h => e2 h.symm), if_neg e, if_neg e2]
theorem swap_ok (l : List HB) (i k : Nat) (x y : HB) (hi : l[i]? = some x) (hk : l[k]? = some y) (hx : colon x = false) (hy : colon y = false) : okF fr ((l.set i y).set k x) = okF fr l := by
  obtain ⟨b1, key⟩ := split_at l i x hi hx
  obtain ⟨b2, _⟩ := split_at l k y hk hy
  have hg := swap_get l i k x y hi hk
  have hf : front ((l.set i y).set k x) = front l := key _ (fun j hj => by
    rw [hg, if_neg (by omega), if_neg (by omega)]) (fun z hz => by
    rw [hg] at hz
    split at hz
    · cases hz; exact hx
    · split at hz
      · cases hz; exact hy
      · exact back_head l z hz)
  unfold okF
  rw [hf, back_drop, back_drop, hf]
  congr 1
  rw [Bool.eq_iff_iff, all_drop, all_drop]
  constructor
  · intro h j z hj hz
    by_cases e : j = i
    · subst e
      rw [hi] at hz; cases hz
      exact h k x b2 (by rw [hg, if_pos rfl])
    · by_cases e2 : j = k
      · subst e2
        rw [hk] at hz; cases hz
        exact h i y b1 (by rw [hg, if_neg (fun h => e h.symm), if_pos rfl])
      · exact h j z hj (by rw [hg, if_neg e2, if_neg e]; exact hz)
  · intro h j z hj hz
    rw [hg] at hz
    split at hz
    · cases hz; exact h i x b1 hi
    · split at hz
      · cases hz; exact h k y b2 hk
      · exact h j z hj hz

theorem less_ok (l : List HB) (i : Nat) (x : HB) (hi : l[i]? = some x) (hx : colon x = false) (h : okF fr l = true) : okF fr (l.take i ++ l.drop (i + 1)) = true := by
  obtain ⟨b1, key⟩ := split_at l i x hi hx
  have hil := (List.getElem?_eq_some_iff.1 hi).1
  have hg : ∀ j, (l.take i ++ l.drop (i + 1))[j]? = if j < i then l[j]? else l[j + 1]? := by
    intro j
    have hlt : (l.take i).length = i := by rw [List.length_take]; omega
    by_cases hj : j < i
    · rw [if_pos hj, List.getElem?_append_left (by omega), List.getElem?_take_of_lt hj]
    · rw [if_neg hj, List.getElem?_append_right (by omega), List.getElem?_drop, hlt]
      congr 1; omega
  unfold okF at h ⊢
  rw [Bool.and_eq_true, back_drop, all_drop] at h
  obtain ⟨h1, h2⟩ := h
  have hf : front (l.take i ++ l.drop (i + 1)) = front l := key _ (fun j hj => by rw [hg, if_pos (by omega)]) (fun z hz => by
    rw [hg] at hz
    split at hz
    · exact not_plain_colon (h2 _ z (Nat.le_refl _) hz)
    · exact not_plain_colon (h2 _ z (by omega) hz))
  rw [hf, back_drop, hf, Bool.and_eq_true, all_drop]
  refine ⟨h1, fun j z hj hz => ?_⟩
  rw [hg] at hz
  split at hz
  · exact h2 j z hj hz
  · exact h2 (j + 1) z (by omega) hz

theorem more_ok (l : List HB) (h : HB) (hc : colon h = false ∨ (front l).length < l.length) : okF fr (l ++ [h]) = (okF fr l && plainH h) := by
  have hlen : (front l).length ≤ l.length := by
    have := congrArg List.length (front_back l)
    rw [List.length_append] at this
    omega
  have hf : front (l ++ [h]) = front l := by
    unfold front
    rcases hc with hc | hc
    · rw [List.takeWhile_append]
      split
      · rename_i e
        rw [List.takeWhile_cons, if_neg (by rw [hc]; simp), List.append_nil]
        exact (List.takeWhile_prefix _).eq_of_length e |>.symm
      · rfl
    · rw [List.takeWhile_append, if_neg]
      intro e
      have : (front l).length = l.length := e
      omega
  unfold okF
  rw [hf, back_drop, back_drop, hf, List.drop_append_of_le_length hlen, List.all_append]
  simp [Bool.and_assoc]
end

theorem okR_F (l : List HB) : okR l = okF frR l := okR_eq l
theorem okA_F (l : List HB) : okA l = okF frA l := okA_eq l

theorem len_sum : ∀ F : List HB, F.all (fun x => known x.1.1) = true → F.length = (allN (qkey 0) F).length + (allN (qkey 1) F).length + (allN (qkey 2) F).length + (allN (qkey 3) F).length
  | [], _ => rfl
  | x :: t, h => by
    rw [List.all_cons, Bool.and_eq_true, known_iff] at h
    have hk := of_decide_eq_true h.1
    have ih := len_sum t h.2
    have hstep : ∀ k, k < 4 → (allN (qkey k) (x :: t)).length = (allN (qkey k) t).length + (if kOf x.1.1 = k then 1 else 0) := by
      intro k hk4
      unfold allN ofN
      rw [List.length_map, List.length_map, List.filter_cons]
      by_cases e : kOf x.1.1 = k
      · have e2 : x.1.1 = qkey k := ((key_iff hk4).2 e).symm
        rw [if_pos (decide_eq_true e2), if_pos e]
        rfl
      · have e2 : ¬ x.1.1 = qkey k := fun h => e ((key_iff hk4).1 h.symm)
        rw [if_neg (by simpa using e2), if_neg e]
        rfl
    rw [hstep 0 (by omega), hstep 1 (by omega), hstep 2 (by omega), hstep 3 (by omega), List.length_cons, ih]
    have h4 : kOf x.1.1 = 0 ∨ kOf x.1.1 = 1 ∨ kOf x.1.1 = 2 ∨ kOf x.1.1 = 3 := by omega
    rcases h4 with e | e | e | e <;> (rw [e]; simp; omega)
theorem frR_len {F : List HB} (h : frR F = true) : F.length ≤ 4 := by
  unfold frR at h
  simp only [Bool.and_eq_true] at h
  have ho := h.1.1.1
  rw [List.all_eq_true] at ho
  have hcount : ∀ k, k < 4 → (allN (qkey k) F).length ≤ 1 := by
    intro k hk
    cases hh : has k F with
    | false => rw [has_false hh]; simp
    | true =>
      obtain ⟨x, hx, e1, _⟩ := fst_mem (has_true hh)
      have := ho x hx
      unfold ok1 at this
      simp only [Bool.and_eq_true, Bool.not_eq_true', decide_eq_false_iff_not] at this
      rw [e1] at this
      omega
  have hs := len_sum F (by
    rw [List.all_eq_true]
    intro x hx
    have := ho x hx
    unfold ok1 at this
    simp only [Bool.and_eq_true] at this
    exact this.1.1)
  have := hcount 0 (by omega); have := hcount 1 (by omega); have := hcount 2 (by omega); have := hcount 3 (by omega)
  omega

/-- One header more, of a request: what the law says. -/
theorem moreR (l : List HB) (h : HB) (hl : okR l = true) : okR (l ++ [h]) = plainH h ∨ (colon h = true ∧ l.length ≤ 4) := by
  by_cases hc : colon h = false ∨ (front l).length < l.length
  · left
    rw [okR_F, more_ok frR l h hc, ← okR_F, hl]; rfl
  · right
    have h1 : colon h = true := by
      cases e : colon h with
      | true => rfl
      | false => exact absurd (Or.inl e) hc
    refine ⟨h1, ?_⟩
    rw [okR_F] at hl
    unfold okF at hl
    rw [Bool.and_eq_true] at hl
    have := frR_len hl.1
    have h2 : ¬ (front l).length < l.length := fun e => hc (Or.inr e)
    omega
/-- .. of an answer. -/
theorem moreA (l : List HB) (h : HB) (hl : okA l = true) : okA (l ++ [h]) = plainH h := by
  by_cases hc : colon h = false ∨ (front l).length < l.length
  · rw [okA_F, more_ok frA l h hc, ← okA_F, hl]; rfl
  · have h1 : colon h = true := by
      cases e : colon h with
      | true => rfl
      | false => exact absurd (Or.inl e) hc
    have h2 : ¬ (front l).length < l.length := fun e => hc (Or.inr e)
    rw [okA_F] at hl
    unfold okF at hl
    rw [Bool.and_eq_true] at hl
    have hF : front l = l := by
      have e := front_back l
      have h3 : (back l).length = 0 := by
        have := congrArg List.length e
        rw [List.length_append] at this
        omega
      rw [List.length_eq_zero_iff.1 h3, List.append_nil] at e
      exact e
    rw [hF] at hl
    have hf2 : front (l ++ [h]) = l ++ [h] := by
      unfold front at hF ⊢
      rw [List.takeWhile_append, if_pos (by rw [hF]), List.takeWhile_cons, if_pos h1]
      simp
    rw [plain_colon h1, okA_F]
    unfold okF
    rw [hf2]
    cases l with
    | nil => simp [frA] at hl
    | cons x t =>
      cases t with
      | nil => simp [frA]
      | cons y r => simp [frA] at hl
theorem moreT (l : List HB) (h : HB) (hl : okT l = true) : okT (l ++ [h]) = plainH h := by
  unfold okT at hl ⊢
  rw [List.all_append, hl]
  simp
/-- Trailers: no front at all. -/
def frT (F : List HB) : Bool := F.isEmpty
theorem okT_F (l : List HB) : okT l = okF frT l := by
  unfold okT okF frT
  cases l with
  | nil => rfl
  | cons x t =>
    by_cases hc : colon x = true
    · have h1 : front (x :: t) = x :: front t := by unfold front; rw [List.takeWhile_cons, if_pos hc]
      rw [h1, List.all_cons, plain_colon hc]; rfl
    · have h1 : front (x :: t) = [] := by unfold front; rw [List.takeWhile_cons, if_neg hc]
      have h2 : back (x :: t) = x :: t := by unfold back; rw [List.dropWhile_cons, if_neg hc]
      rw [h1, h2]; rfl
end D
end Go.Proofs.YtihlcecincijgaaDoor
