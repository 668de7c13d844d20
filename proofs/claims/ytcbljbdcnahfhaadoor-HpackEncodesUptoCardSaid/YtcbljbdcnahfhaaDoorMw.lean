/-
The plain functions of chapter 1's reading side (numbers, tags, records), on lists of bytes, and what follows of them; nothing of any program stands here.
-/

/- Wmath -/
namespace Go.Proofs.YtcbljbdcnahfhaaDoor
namespace W

/-- The number that the bytes begin with: number, how many bytes, the error's place (0: none; else its variable's number and 1). -/
def uv (eLong eEnd : Nat) : Nat → Nat → List Nat → Nat × Nat × Nat
  | _, _, [] => (0, 0, eEnd + 1)
  | i, acc, c :: r =>
    if i = 9 ∧ 1 < c then (0, 0, eLong + 1)
    else if c < 128 then (acc + c % 128 * 2 ^ (7 * i), i + 1, 0)
    else uv eLong eEnd (i + 1) (acc + c % 128 * 2 ^ (7 * i)) r

theorem uv_err {a b : Nat} : ∀ (l : List Nat) (i acc : Nat), (uv a b i acc l).2.2 ≠ 0 → (uv a b i acc l).1 = 0 ∧ (uv a b i acc l).2.1 = 0 ∧ ((uv a b i acc l).2.2 = a + 1 ∨ (uv a b i acc l).2.2 = b + 1)
  | [], i, acc => by intro _; exact ⟨rfl, rfl, Or.inr rfl⟩
  | c :: r, i, acc => by
    unfold uv
    split
    · intro _; exact ⟨rfl, rfl, Or.inl rfl⟩
    · split
      · intro h; exact absurd rfl h
      · exact uv_err r (i + 1) _

theorem uv_size {a b : Nat} : ∀ (l : List Nat) (i acc : Nat), (uv a b i acc l).2.2 = 0 → i < (uv a b i acc l).2.1 ∧ (uv a b i acc l).2.1 ≤ i + l.length
  | [], i, acc => by intro h; simp [uv] at h
  | c :: r, i, acc => by
    unfold uv
    split
    · intro h; simp at h
    · split
      · intro _; simp
      · intro h
        have := uv_size r (i + 1) _ h
        simp only [List.length_cons]
        omega

theorem pow7 (i : Nat) : 2 ^ (7 * (i + 1)) = 128 * 2 ^ (7 * i) := by
  rw [show 7 * (i + 1) = 7 * i + 7 from by omega, Nat.pow_add]; omega

theorem acc_lt {i acc c : Nat} (ha : acc < 2 ^ (7 * i)) (hc : c < 128) : acc + c * 2 ^ (7 * i) < 2 ^ (7 * (i + 1)) := by
  rw [pow7]
  have h : (c + 1) * 2 ^ (7 * i) ≤ 128 * 2 ^ (7 * i) := Nat.mul_le_mul_right _ (by omega)
  rw [Nat.add_mul] at h
  omega

theorem acc_lt9 {i acc c : Nat} (hi : i ≤ 9) (ha : acc < 2 ^ (7 * i)) (hc : c < 128) (h9 : i = 9 → c ≤ 1) : acc + c * 2 ^ (7 * i) < 18446744073709551616 := by
  by_cases h : i = 9
  · subst h
    have := h9 rfl
    have h1 : c * 2 ^ (7 * 9) ≤ 1 * 2 ^ (7 * 9) := Nat.mul_le_mul_right _ this
    have e : (2 : Nat) ^ (7 * 9) = 9223372036854775808 := by decide
    rw [e] at *
    omega
  · have h1 := acc_lt ha hc
    have h2 : 2 ^ (7 * (i + 1)) ≤ 2 ^ 63 := Nat.pow_le_pow_right (by omega) (by omega)
    have e : (2 : Nat) ^ 63 = 9223372036854775808 := by decide
    rw [e] at h2
    omega

theorem uv_lt {a b : Nat} : ∀ (l : List Nat) (i acc : Nat), i ≤ 9 → acc < 2 ^ (7 * i) → (uv a b i acc l).1 < 18446744073709551616
  | [], _, _ => by intro _ _; simp [uv]
  | c :: r, i, acc => by
    intro hi ha
    unfold uv
    split
    · simp
    · split
      · exact acc_lt9 hi ha (by omega) (fun e => by have h := ‹¬(i = 9 ∧ 1 < c)›; have : ¬ 1 < c := fun h2 => h ⟨e, h2⟩; omega)
      · by_cases h9 : i = 9
        · have h := ‹¬(i = 9 ∧ 1 < c)›
          exact absurd ⟨h9, by omega⟩ h
        · exact uv_lt r (i + 1) _ (by omega) (acc_lt ha (by omega))

/-- Uvarint of bytes. -/
def uvA (l : List Nat) : Nat × Nat × Nat := uv 2 3 0 0 l

/-- Untag: field, kind, error. -/
def untag (u : Nat) : Nat × Nat × Nat :=
  if u / 8 < 1 ∨ 536870911 < u / 8 ∨ 5 < u % 8 then (0, 0, 7 + 1) else (u / 8, u % 8, 0)

/-- The tag that bytes begin with: field, kind, size, error. -/
def tg (l : List Nat) : Nat × Nat × Nat × Nat :=
  if (uvA l).2.2 ≠ 0 then (0, 0, 0, (uvA l).2.2)
  else if (untag (uvA l).1).2.2 ≠ 0 then (0, 0, 0, (untag (uvA l).1).2.2)
  else ((untag (uvA l).1).1, (untag (uvA l).1).2.1, (uvA l).2.1, 0)

theorem uvA_ok {l : List Nat} (h : (uvA l).2.2 = 0) : 0 < (uvA l).2.1 ∧ (uvA l).2.1 ≤ l.length := by
  have := uv_size l 0 0 h
  unfold uvA
  omega
theorem uvA_lt (l : List Nat) : (uvA l).1 < 18446744073709551616 := uv_lt l 0 0 (by omega) (by decide)
theorem uvA_err {l : List Nat} {k : Nat} (h : (uvA l).2.2 = k + 1) : uvA l = (0, 0, k + 1) := by
  obtain ⟨h1, h2, _⟩ := uv_err l 0 0 (show (uvA l).2.2 ≠ 0 by omega)
  exact Prod.ext h1 (Prod.ext h2 h)

theorem tg_ok {l : List Nat} (h : (tg l).2.2.2 = 0) : 0 < (tg l).2.2.1 ∧ (tg l).2.2.1 ≤ l.length ∧ 1 ≤ (tg l).1 ∧ (tg l).1 ≤ 536870911 ∧ (tg l).2.1 ≤ 5 := by
  unfold tg at h ⊢
  by_cases h1 : (uvA l).2.2 = 0
  · rw [if_neg (by omega)] at h ⊢
    have hs := uvA_ok h1
    unfold untag at h ⊢
    split at h
    · simp at h
    · rename_i hn
      rw [if_neg hn]
      simp only [ne_eq, not_true_eq_false, if_false]
      refine ⟨hs.1, hs.2, ?_, ?_, ?_⟩ <;> omega
  · rw [if_pos h1] at h
    exact absurd h h1
theorem tg_err {l : List Nat} {k : Nat} (h : (tg l).2.2.2 = k + 1) : tg l = (0, 0, 0, k + 1) := by
  unfold tg at h ⊢
  split at h
  · rename_i h1; rw [if_pos h1]; simp only at h; rw [h]
  · rename_i h1
    rw [if_neg h1]
    split at h
    · rename_i h2; rw [if_pos h2]; simp only at h; rw [h]
    · simp at h

/-- The number that bytes are, the lowest first. -/
def le : List Nat → Nat
  | [] => 0
  | c :: r => c + 256 * le r

theorem le_snoc : ∀ (l : List Nat) (c : Nat), le (l ++ [c]) = le l + c * 2 ^ (8 * l.length)
  | [], c => by simp [le]
  | d :: r, c => by
    have := le_snoc r c
    simp only [List.cons_append, le, this, List.length_cons]
    rw [show 8 * (r.length + 1) = 8 * r.length + 8 from by omega, Nat.pow_add, Nat.mul_add, Nat.add_assoc]
    congr 1
    rw [Nat.add_left_cancel_iff, ← Nat.mul_assoc, Nat.mul_comm 256, Nat.mul_assoc, Nat.mul_comm 256, ← Nat.mul_assoc]

theorem le_lt : ∀ (l : List Nat), (∀ x ∈ l, x < 256) → le l < 2 ^ (8 * l.length)
  | [], _ => by simp [le]
  | c :: r, h => by
    have h1 := le_lt r (fun x hx => h x (List.mem_cons_of_mem _ hx))
    have h2 := h c (List.mem_cons_self ..)
    simp only [le, List.length_cons]
    rw [show 8 * (r.length + 1) = 8 * r.length + 8 from by omega, Nat.pow_add]
    omega

/-- Unfixed at 4 or 8: number, size, error. -/
def ufx (n : Nat) (l : List Nat) : Nat × Nat × Nat :=
  if l.length < n then (0, 0, 3 + 1) else (le (l.take n), n, 0)

/-- A body of bytes behind their number: (number), bytes, size, error. -/
def rb (l : List Nat) : Nat × List Nat × Nat × Nat :=
  if (uvA l).2.2 ≠ 0 then (0, [], 0, (uvA l).2.2)
  else if l.length - (uvA l).2.1 < (uvA l).1 then (0, [], 0, 3 + 1)
  else (0, (l.drop (uvA l).2.1).take (uvA l).1, (uvA l).2.1 + (uvA l).1, 0)

/-- The records of a group's body, up to its end: at: where the walk stands. -/
def loopF (body : Nat → List Nat → Nat → Nat × List Nat × Nat × Nat) (field : Nat) (l : List Nat) : Nat → Nat → Nat × List Nat × Nat × Nat
  | 0, _ => (0, [], 0, 1)
  | n + 1, at_ =>
    if (tg (l.drop at_)).2.2.2 ≠ 0 then (0, [], 0, (tg (l.drop at_)).2.2.2)
    else if (tg (l.drop at_)).2.1 = 4 ∧ (tg (l.drop at_)).1 = field then (0, l.take at_, at_ + (tg (l.drop at_)).2.2.1, 0)
    else if (body (tg (l.drop at_)).2.1 (l.drop (at_ + (tg (l.drop at_)).2.2.1)) (tg (l.drop at_)).1).2.2.2 ≠ 0
      then (0, [], 0, (body (tg (l.drop at_)).2.1 (l.drop (at_ + (tg (l.drop at_)).2.2.1)) (tg (l.drop at_)).1).2.2.2)
    else loopF body field l n (at_ + ((tg (l.drop at_)).2.2.1 + (body (tg (l.drop at_)).2.1 (l.drop (at_ + (tg (l.drop at_)).2.2.1)) (tg (l.drop at_)).1).2.2.1))

theorem loopF_step (body : Nat → List Nat → Nat → Nat × List Nat × Nat × Nat) (field : Nat) (l : List Nat) (n at_ : Nat) (f k s e : Nat) (h : tg (l.drop at_) = (f, k, s, e)) :
    loopF body field l (n + 1) at_ = if e ≠ 0 then (0, [], 0, e) else if k = 4 ∧ f = field then (0, l.take at_, at_ + s, 0)
      else if (body k (l.drop (at_ + s)) f).2.2.2 ≠ 0 then (0, [], 0, (body k (l.drop (at_ + s)) f).2.2.2) else loopF body field l n (at_ + (s + (body k (l.drop (at_ + s)) f).2.2.1)) := by
  show (if (tg (l.drop at_)).2.2.2 ≠ 0 then _ else _) = _
  rw [h]

/-- What a kind's body says; g: of a group. -/
def flat (kind : Nat) (l : List Nat) (g : Nat × List Nat × Nat × Nat) : Nat × List Nat × Nat × Nat :=
  if kind = 0 then ((uvA l).1, [], (uvA l).2.1, (uvA l).2.2)
  else if kind = 1 then ((ufx 8 l).1, [], (ufx 8 l).2.1, (ufx 8 l).2.2)
  else if kind = 2 then rb l
  else if kind = 3 then g
  else if kind = 4 then (0, [], 0, 8 + 1)
  else ((ufx 4 l).1, [], (ufx 4 l).2.1, (ufx 4 l).2.2)

/-- What a record's body says, lv levels of groups left. -/
def bodyF : Nat → Nat → List Nat → Nat → Nat × List Nat × Nat × Nat
  | 0 => fun kind l _ => flat kind l (0, [], 0, 9 + 1)
  | lv + 1 => fun kind l field => flat kind l (loopF (bodyF lv) field l (l.length + 1) 0)

/-- What a group's body says. -/
def groupF : Nat → Nat → List Nat → Nat × List Nat × Nat × Nat
  | 0, _, _ => (0, [], 0, 9 + 1)
  | lv + 1, field, l => loopF (bodyF lv) field l (l.length + 1) 0

theorem bodyF_eq (lv kind : Nat) (l : List Nat) (field : Nat) : bodyF lv kind l field = flat kind l (groupF lv field l) := by
  cases lv <;> rfl

/-- A size that stays within. -/
def Fits (l : List Nat) (r : Nat × List Nat × Nat × Nat) : Prop := r.2.2.2 = 0 → r.2.2.1 ≤ l.length

theorem loopF_fits (body : Nat → List Nat → Nat → Nat × List Nat × Nat × Nat) (hb : ∀ k l f, Fits l (body k l f)) (field : Nat) (l : List Nat) : ∀ n at_, at_ ≤ l.length → Fits l (loopF body field l n at_)
  | 0, _ => by intro _ h; simp [loopF] at h
  | n + 1, at_ => by
    intro hat
    obtain ⟨f, k, s, e, h⟩ : ∃ f k s e, tg (l.drop at_) = (f, k, s, e) := ⟨_, _, _, _, rfl⟩
    rw [loopF_step body field l n at_ f k s e h]
    split
    · intro h0; exact absurd h0 (by assumption)
    · rename_i he
      have hs := tg_ok (l := l.drop at_) (by rw [h]; simpa using he)
      rw [h, List.length_drop] at hs
      simp only at hs
      split
      · intro _; simp only; omega
      · split
        · intro h0; exact absurd h0 (by assumption)
        · rename_i hb0
          have := hb k (l.drop (at_ + s)) f (by simpa using hb0)
          rw [List.length_drop] at this
          exact loopF_fits body hb field l n _ (by omega)

theorem rb_fits (l : List Nat) : Fits l (rb l) := by
  intro h
  unfold rb at h ⊢
  split at h
  · exact absurd h (by assumption)
  · split at h
    · simp at h
    · rename_i h1 h2
      have := uvA_ok (l := l) (by simpa using h1)
      rw [if_neg h1, if_neg h2]
      simp only
      omega

theorem ufx_fits (n : Nat) (l : List Nat) (h : (ufx n l).2.2 = 0) : (ufx n l).2.1 ≤ l.length := by
  unfold ufx at h ⊢
  split at h
  · simp at h
  · rename_i h1; rw [if_neg h1]; simp only; omega

theorem flat_fits (k : Nat) (l : List Nat) (g : Nat × List Nat × Nat × Nat) (hg : Fits l g) : Fits l (flat k l g) := by
  unfold flat
  by_cases h0 : k = 0
  · rw [if_pos h0]; intro h; exact (uvA_ok h).2
  rw [if_neg h0]
  by_cases h1 : k = 1
  · rw [if_pos h1]; intro h; exact ufx_fits _ _ h
  rw [if_neg h1]
  by_cases h2 : k = 2
  · rw [if_pos h2]; exact rb_fits l
  rw [if_neg h2]
  by_cases h3 : k = 3
  · rw [if_pos h3]; exact hg
  rw [if_neg h3]
  by_cases h4 : k = 4
  · rw [if_pos h4]; intro h; exact absurd h (by show ¬ (_ + 1 = 0); omega)
  rw [if_neg h4]; intro h; exact ufx_fits _ _ h

theorem bodyF_fits : ∀ (lv k : Nat) (l : List Nat) (f : Nat), Fits l (bodyF lv k l f) := by
  intro lv
  induction lv with
  | zero =>
    intro k l f
    rw [bodyF_eq]
    exact flat_fits _ _ _ (fun h => absurd h (by show ¬ (_ + 1 = 0); omega))
  | succ lv ih =>
    intro k l f
    rw [bodyF_eq]
    exact flat_fits _ _ _ (loopF_fits _ ih f l _ _ (Nat.zero_le _))

/-- The record that bytes begin with: field, kind, number, bytes, size, error. -/
def nextF (lv : Nat) (l : List Nat) : Nat × Nat × Nat × List Nat × Nat × Nat :=
  if (tg l).2.2.2 ≠ 0 then (0, 0, 0, [], 0, (tg l).2.2.2)
  else if (bodyF lv (tg l).2.1 (l.drop (tg l).2.2.1) (tg l).1).2.2.2 ≠ 0 then (0, 0, 0, [], 0, (bodyF lv (tg l).2.1 (l.drop (tg l).2.2.1) (tg l).1).2.2.2)
  else ((tg l).1, (tg l).2.1, (bodyF lv (tg l).2.1 (l.drop (tg l).2.2.1) (tg l).1).1, (bodyF lv (tg l).2.1 (l.drop (tg l).2.2.1) (tg l).1).2.1, (tg l).2.2.1 + (bodyF lv (tg l).2.1 (l.drop (tg l).2.2.1) (tg l).1).2.2.1, 0)

theorem nextF_step (lv : Nat) (l : List Nat) (f k s e u : Nat) (bs : List Nat) (sz e2 : Nat) (h : tg l = (f, k, s, e)) (h2 : e = 0 → bodyF lv k (l.drop s) f = (u, bs, sz, e2)) :
    nextF lv l = if e ≠ 0 then (0, 0, 0, [], 0, e) else if e2 ≠ 0 then (0, 0, 0, [], 0, e2) else (f, k, u, bs, s + sz, 0) := by
  unfold nextF
  rw [h]
  simp only
  split
  · rfl
  · rename_i he
    rw [h2 (by simpa using he)]

end W
end Go.Proofs.YtcbljbdcnahfhaaDoor
/- Wmathb -/
namespace Go.Proofs.YtcbljbdcnahfhaaDoor
namespace W

/-- A number's bytes, seven bits a byte, with fuel. -/
def vb : Nat → Nat → List Nat
  | 0, u => [u]
  | f + 1, u => if u < 128 then [u] else (u % 128 + 128) :: vb f (u / 128)

/-- Varint's bytes. -/
def vbs (u : Nat) : List Nat := vb 9 u

theorem vb_len : ∀ f u, 1 ≤ (vb f u).length ∧ (vb f u).length ≤ f + 1
  | 0, _ => by simp [vb]
  | f + 1, u => by
    unfold vb
    split
    · simp
    · have := vb_len f (u / 128); simp only [List.length_cons]; omega

theorem vb_lt : ∀ f u, u < 128 ^ (f + 1) → ∀ x ∈ vb f u, x < 256
  | 0, u => by intro h x hx; simp [vb] at hx; subst hx; simp at h; omega
  | f + 1, u => by
    intro h x hx
    unfold vb at hx
    split at hx
    · simp at hx; omega
    · rcases List.mem_cons.1 hx with rfl | hx
      · omega
      · refine vb_lt f (u / 128) ?_ x hx
        rw [Nat.pow_succ] at h
        exact Nat.div_lt_of_lt_mul (by rw [Nat.mul_comm]; exact h)

theorem vbs_lt (u : Nat) (h : u < 18446744073709551616) : ∀ x ∈ vbs u, x < 256 :=
  vb_lt 9 u (Nat.lt_of_lt_of_le h (by decide))

end W
end Go.Proofs.YtcbljbdcnahfhaaDoor
