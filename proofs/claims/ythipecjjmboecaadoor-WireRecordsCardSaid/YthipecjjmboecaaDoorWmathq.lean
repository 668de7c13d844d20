/-
What was read can be written again, and is no longer; two rows of records are one: plain facts on lists of bytes; nothing of any program stands here.
-/
import Derived.Test.YthipecjjmboecaaDoorWmathp
namespace Go.Proofs.YthipecjjmboecaaDoor
namespace W

theorem vb_min : ∀ f u m, 1 ≤ m → u < 128 ^ m → (vb f u).length ≤ m
  | 0, u, m => by intro h _; simp [vb]; omega
  | f + 1, u, m => by
    intro h1 h2
    unfold vb
    split
    · simp; omega
    · rename_i hu
      by_cases hm : m = 1
      · subst hm; simp at h2; omega
      obtain ⟨k, rfl⟩ : ∃ k, m = k + 1 := ⟨m - 1, by omega⟩
      rw [Nat.pow_succ] at h2
      have := vb_min f (u / 128) k (by omega) (Nat.div_lt_of_lt_mul (by rw [Nat.mul_comm]; exact h2))
      simp only [List.length_cons]
      omega

theorem uv_bound {a b : Nat} : ∀ (l : List Nat) (i acc : Nat), acc < 2 ^ (7 * i) → (uv a b i acc l).2.2 = 0 → (uv a b i acc l).1 < 2 ^ (7 * (uv a b i acc l).2.1)
  | [], _, _ => by intro _ h; simp [uv] at h
  | c :: r, i, acc => by
    intro ha
    unfold uv
    split
    · intro h; simp at h
    · split
      · intro _; exact acc_lt ha (by omega)
      · intro h; exact uv_bound r (i + 1) _ (acc_lt ha (by omega)) h

theorem vbs_le {l : List Nat} (h : (uvA l).2.2 = 0) : (vbs (uvA l).1).length ≤ (uvA l).2.1 := by
  have h1 := uv_bound l 0 0 (by decide) h
  have h2 := (uvA_ok h).1
  refine vb_min 9 _ _ (by omega) ?_
  rw [Nat.pow_mul] at h1
  exact h1

theorem uv_cut {a b : Nat} : ∀ (l : List Nat) (i acc k : Nat), (uv a b i acc l).2.2 = 0 → (uv a b i acc l).2.1 ≤ i + k → uv a b i acc (l.take k) = uv a b i acc l
  | [], i, acc, k => by intro h; simp [uv] at h
  | c :: l, i, acc, k => by
    intro h hk
    have hs := uv_size (c :: l) i acc h
    obtain ⟨k, rfl⟩ : ∃ j, k = j + 1 := ⟨k - 1, by omega⟩
    rw [List.take_succ_cons]
    unfold uv at h hk ⊢
    split at h
    · simp at h
    · rename_i h1
      rw [if_neg h1] at hk
      rw [if_neg h1, if_neg h1]
      split at h
      · rename_i h2; rw [if_pos h2, if_pos h2]
      · rename_i h2; rw [if_neg h2] at hk; rw [if_neg h2, if_neg h2]; exact uv_cut l _ _ k h (by omega)

theorem uvA_cut {l : List Nat} {k : Nat} (h : (uvA l).2.2 = 0) (hk : (uvA l).2.1 ≤ k) : uvA (l.take k) = uvA l := uv_cut l 0 0 k h (by unfold uvA at hk; omega)

theorem tg_uv {l : List Nat} (h : (tg l).2.2.2 = 0) : (uvA l).2.2 = 0 ∧ (tg l).2.2.1 = (uvA l).2.1 ∧ (tg l).1 * 8 + (tg l).2.1 = (uvA l).1 := by
  unfold tg at h ⊢
  by_cases h1 : (uvA l).2.2 = 0
  · have c1 : ¬ (uvA l).2.2 ≠ 0 := by omega
    rw [if_neg c1] at h ⊢
    refine ⟨h1, ?_⟩
    unfold untag at h ⊢
    split at h
    · simp at h
    · rename_i hn
      rw [if_neg hn]
      simp only [ne_eq, not_true_eq_false, if_false]
      refine ⟨trivial, ?_⟩
      omega
  · rw [if_pos h1] at h; exact absurd h h1

theorem tg_cut {l : List Nat} {k : Nat} (h : (tg l).2.2.2 = 0) (hk : (tg l).2.2.1 ≤ k) : tg (l.take k) = tg l := by
  obtain ⟨h1, h2, _⟩ := tg_uv h
  have e := uvA_cut (k := k) h1 (by omega)
  unfold tg
  rw [e]

theorem ufx_cut {n k : Nat} {l : List Nat} (h : (ufx n l).2.2 = 0) (hk : (ufx n l).2.1 ≤ k) : ufx n (l.take k) = ufx n l := by
  unfold ufx at h hk ⊢
  split at h
  · simp at h
  · rename_i h1
    rw [if_neg h1] at hk
    simp only at hk
    rw [if_neg h1, if_neg (by rw [List.length_take]; omega), List.take_take, Nat.min_eq_left hk]

theorem drop_take' (l : List Nat) (k s : Nat) : (l.take k).drop s = (l.drop s).take (k - s) := by rw [List.drop_take]

theorem rb_cut {k : Nat} {l : List Nat} (h : (rb l).2.2.2 = 0) (hk : (rb l).2.2.1 ≤ k) : rb (l.take k) = rb l := by
  unfold rb at h hk ⊢
  by_cases h1 : (uvA l).2.2 = 0
  · have c1 : ¬ (uvA l).2.2 ≠ 0 := by omega
    have hs := uvA_ok h1
    rw [if_neg c1] at h hk
    by_cases h2 : l.length - (uvA l).2.1 < (uvA l).1
    · rw [if_pos h2] at h; exact absurd h (by show ¬ (_ + 1 = 0); omega)
    · rw [if_neg h2] at hk
      simp only at hk
      rw [uvA_cut h1 (by omega)]
      have h3 : ¬ (l.take k).length - (uvA l).2.1 < (uvA l).1 := by rw [List.length_take]; omega
      rw [if_neg c1, if_neg c1, if_neg h2, if_neg h3, drop_take', List.take_take, Nat.min_eq_left (by omega)]
  · rw [if_pos h1] at h; exact absurd h h1

/-- Where a group's walk ends. -/
theorem loopF_shape (body : Nat → List Nat → Nat → Nat × List Nat × Nat × Nat) (hf : ∀ k l f, Fits l (body k l f)) (field : Nat) (l : List Nat) :
    ∀ n at_, at_ ≤ l.length → (loopF body field l n at_).2.2.2 = 0 → ∃ A es, loopF body field l n at_ = (0, l.take A, A + es, 0) ∧ at_ ≤ A ∧ A + es ≤ l.length ∧ tg (l.drop A) = (field, 4, es, 0)
  | 0, _ => by intro _ h; simp [loopF] at h
  | n + 1, at_ => by
    intro hat h
    obtain ⟨f, k, s, e, hx⟩ : ∃ f k s e, tg (l.drop at_) = (f, k, s, e) := ⟨_, _, _, _, rfl⟩
    rw [loopF_step body field l n at_ f k s e hx] at h ⊢
    by_cases he : e = 0
    · subst he
      have hs := tg_ok (l := l.drop at_) (by rw [hx])
      rw [hx, List.length_drop] at hs
      simp only at hs
      have c1 : ¬ (0 : Nat) ≠ 0 := by omega
      rw [if_neg c1] at h ⊢
      by_cases hend : k = 4 ∧ f = field
      · rw [if_pos hend]
        obtain ⟨rfl, rfl⟩ := hend
        exact ⟨at_, s, rfl, Nat.le_refl _, by omega, hx⟩
      · rw [if_neg hend] at h ⊢
        by_cases hb0 : (body k (l.drop (at_ + s)) f).2.2.2 = 0
        · have c2 : ¬ (body k (l.drop (at_ + s)) f).2.2.2 ≠ 0 := by omega
          rw [if_neg c2] at h ⊢
          have hfit := hf k (l.drop (at_ + s)) f hb0
          rw [List.length_drop] at hfit
          obtain ⟨A, es, h1, h2, h3, h4⟩ := loopF_shape body hf field l n _ (by omega) h
          exact ⟨A, es, h1, by omega, h3, h4⟩
        · rw [if_pos hb0] at h; exact absurd h hb0
    · rw [if_pos he] at h; exact absurd h he

theorem loopF_cut (body : Nat → List Nat → Nat → Nat × List Nat × Nat × Nat) (hf : ∀ k l f, Fits l (body k l f)) (hb : ∀ k l f m, (body k l f).2.2.2 = 0 → (body k l f).2.2.1 ≤ m → body k (l.take m) f = body k l f) (field : Nat) (l : List Nat) (K : Nat) :
    ∀ n m at_, at_ ≤ l.length → (l.take K).length + 1 ≤ m + at_ → (loopF body field l n at_).2.2.2 = 0 → (loopF body field l n at_).2.2.1 ≤ K → loopF body field (l.take K) m at_ = loopF body field l n at_
  | 0, _, _ => by intro _ _ h; simp [loopF] at h
  | n + 1, m, at_ => by
    intro hat hm h hK
    obtain ⟨A, es, hA1, hA2, hA3, hA4⟩ := loopF_shape body hf field l (n + 1) at_ hat h
    have hAK : A + es ≤ K := by rw [hA1] at hK; exact hK
    have hes := tg_ok (l := l.drop A) (by rw [hA4])
    rw [hA4, List.length_drop] at hes
    simp only at hes
    have hlen : (l.take K).length = min K l.length := List.length_take
    obtain ⟨f, k, s, e, hx⟩ : ∃ f k s e, tg (l.drop at_) = (f, k, s, e) := ⟨_, _, _, _, rfl⟩
    have hL := loopF_step body field l n at_ f k s e hx
    rw [hL] at h hK ⊢
    by_cases he : e = 0
    · subst he
      have hs := tg_ok (l := l.drop at_) (by rw [hx])
      rw [hx, List.length_drop] at hs
      simp only at hs
      have c1 : ¬ (0 : Nat) ≠ 0 := by omega
      rw [if_neg c1] at h hK hL ⊢
      obtain ⟨m, rfl⟩ : ∃ j, m = j + 1 := ⟨m - 1, by omega⟩
      by_cases hend : k = 4 ∧ f = field
      · rw [if_pos hend] at hK hL ⊢
        simp only at hK
        have hx2 : tg ((l.take K).drop at_) = (f, k, s, 0) := by rw [drop_take', tg_cut (by rw [hx]) (by rw [hx]; simp only; omega), hx]
        rw [loopF_step body field (l.take K) m at_ f k s 0 hx2, if_neg c1, if_pos hend, List.take_take, Nat.min_eq_left (by omega)]
      · rw [if_neg hend] at h hK hL ⊢
        by_cases hb0 : (body k (l.drop (at_ + s)) f).2.2.2 = 0
        · have c2 : ¬ (body k (l.drop (at_ + s)) f).2.2.2 ≠ 0 := by omega
          rw [if_neg c2] at h hK hL ⊢
          have hfit := hf k (l.drop (at_ + s)) f hb0
          rw [List.length_drop] at hfit
          obtain ⟨A2, es2, hB1, hB2, hB3, hB4⟩ := loopF_shape body hf field l n _ (by omega) h
          have hK2 : A2 + es2 ≤ K := by rw [hB1] at hK; exact hK
          have hx2 : tg ((l.take K).drop at_) = (f, k, s, 0) := by rw [drop_take', tg_cut (by rw [hx]) (by rw [hx]; simp only; omega), hx]
          have hbe : body k ((l.take K).drop (at_ + s)) f = body k (l.drop (at_ + s)) f := by rw [drop_take']; exact hb _ _ _ _ hb0 (by omega)
          rw [loopF_step body field (l.take K) m at_ f k s 0 hx2, if_neg c1, if_neg hend, hbe, if_neg c2]
          exact loopF_cut body hf hb field l K n m _ (by omega) (by omega) h hK
        · rw [if_pos hb0] at h; exact absurd h hb0
    · rw [if_pos he] at h; exact absurd h he

theorem flat_cut (k : Nat) (l : List Nat) (m : Nat) (g g2 : Nat × List Nat × Nat × Nat) (hg : g.2.2.2 = 0 → g.2.2.1 ≤ m → g2 = g) (h : (flat k l g).2.2.2 = 0) (hm : (flat k l g).2.2.1 ≤ m) : flat k (l.take m) g2 = flat k l g := by
  unfold flat at h hm ⊢
  by_cases h0 : k = 0
  · rw [if_pos h0] at h hm; rw [if_pos h0, if_pos h0, uvA_cut h hm]
  rw [if_neg h0] at h hm; rw [if_neg h0, if_neg h0]
  by_cases h1 : k = 1
  · rw [if_pos h1] at h hm; rw [if_pos h1, if_pos h1, ufx_cut h hm]
  rw [if_neg h1] at h hm; rw [if_neg h1, if_neg h1]
  by_cases h2 : k = 2
  · rw [if_pos h2] at h hm; rw [if_pos h2, if_pos h2, rb_cut h hm]
  rw [if_neg h2] at h hm; rw [if_neg h2, if_neg h2]
  by_cases h3 : k = 3
  · rw [if_pos h3] at h hm; rw [if_pos h3, if_pos h3]; exact hg h hm
  rw [if_neg h3] at h hm; rw [if_neg h3, if_neg h3]
  by_cases h4 : k = 4
  · rw [if_pos h4, if_pos h4]
  rw [if_neg h4] at h hm; rw [if_neg h4, if_neg h4, ufx_cut h hm]

theorem bodyF_cut : ∀ (lv k : Nat) (l : List Nat) (f m : Nat), (bodyF lv k l f).2.2.2 = 0 → (bodyF lv k l f).2.2.1 ≤ m → bodyF lv k (l.take m) f = bodyF lv k l f := by
  intro lv
  induction lv with
  | zero =>
    intro k l f m h hm
    rw [bodyF_eq] at h hm ⊢
    rw [bodyF_eq]
    exact flat_cut k l m _ _ (fun h => absurd h (by show ¬ (_ + 1 = 0); omega)) h hm
  | succ lv ih =>
    intro k l f m h hm
    rw [bodyF_eq] at h hm ⊢
    rw [bodyF_eq]
    refine flat_cut k l m _ _ (fun h hm => ?_) h hm
    exact loopF_cut (bodyF lv) (bodyF_fits lv) (fun k l f m h hm => ih k l f m h hm) f l m _ _ 0 (Nat.zero_le _) (by omega) h hm

theorem nextF_cut {lv k : Nat} {l : List Nat} (h : (nextF lv l).2.2.2.2.2 = 0) (hk : (nextF lv l).2.2.2.2.1 ≤ k) : nextF lv (l.take k) = nextF lv l := by
  unfold nextF at h hk ⊢
  by_cases h1 : (tg l).2.2.2 = 0
  · have c1 : ¬ (tg l).2.2.2 ≠ 0 := by omega
    rw [if_neg c1] at h hk
    by_cases h2 : (bodyF lv (tg l).2.1 (l.drop (tg l).2.2.1) (tg l).1).2.2.2 = 0
    · have c2 : ¬ (bodyF lv (tg l).2.1 (l.drop (tg l).2.2.1) (tg l).1).2.2.2 ≠ 0 := by omega
      rw [if_neg c2] at hk
      simp only at hk
      rw [tg_cut h1 (by omega), if_neg c1, if_neg c1, drop_take', bodyF_cut lv _ _ _ _ h2 (by omega)]
    · rw [if_pos h2] at h; exact absurd h h2
  · rw [if_pos h1] at h; exact absurd h h1

/-- A group that was read holds records. -/
theorem group_chk (lv field : Nat) (l : List Nat) : ∀ n at_ A es m, at_ ≤ l.length → loopF (bodyF lv) field l n at_ = (0, l.take A, A + es, 0) → A + es ≤ l.length → at_ ≤ A → (faultF lv (l.take A) m at_).2 = 0
  | 0, at_, A, es, m => by intro _ h; simp [loopF] at h
  | n + 1, at_, A, es, 0 => by intro _ _ _ _; rfl
  | n + 1, at_, A, es, m + 1 => by
    intro hat h hA hle
    have hlen : (l.take A).length = A := by rw [List.length_take]; omega
    unfold faultF
    rw [hlen]
    by_cases hend : A ≤ at_
    · rw [if_pos hend]
    rw [if_neg hend]
    obtain ⟨f, k, s, e, hx⟩ : ∃ f k s e, tg (l.drop at_) = (f, k, s, e) := ⟨_, _, _, _, rfl⟩
    rw [loopF_step (bodyF lv) field l n at_ f k s e hx] at h
    have c1 : ¬ (0 : Nat) ≠ 0 := by omega
    by_cases he : e = 0
    · subst he
      rw [if_neg c1] at h
      have hs := tg_ok (l := l.drop at_) (by rw [hx])
      rw [hx, List.length_drop] at hs
      simp only at hs
      by_cases h4 : k = 4 ∧ f = field
      · rw [if_pos h4] at h
        have e1 := congrArg (fun x => x.2.1) h
        simp only at e1
        have e2 := congrArg List.length e1
        rw [List.length_take, List.length_take] at e2
        omega
      rw [if_neg h4] at h
      by_cases hb0 : (bodyF lv k (l.drop (at_ + s)) f).2.2.2 = 0
      · have c2 : ¬ (bodyF lv k (l.drop (at_ + s)) f).2.2.2 ≠ 0 := by omega
        rw [if_neg c2] at h
        have hfit := bodyF_fits lv k (l.drop (at_ + s)) f hb0
        rw [List.length_drop] at hfit
        obtain ⟨A2, es2, hB1, hB2, hB3, hB4⟩ := loopF_shape (bodyF lv) (bodyF_fits lv) field l n (at_ + (s + (bodyF lv k (l.drop (at_ + s)) f).2.2.1)) (by omega) (by rw [h])
        rw [hB1] at h
        have e1 := congrArg (fun x => x.2.1) h
        simp only at e1
        have e2 := congrArg List.length e1
        rw [List.length_take, List.length_take] at e2
        have hAA : A2 = A := by omega
        subst hAA
        have hN : nextF lv (l.drop at_) = (f, k, (bodyF lv k (l.drop (at_ + s)) f).1, (bodyF lv k (l.drop (at_ + s)) f).2.1, s + (bodyF lv k (l.drop (at_ + s)) f).2.2.1, 0) := by
          have hst := nextF_step lv (l.drop at_) f k s 0 (bodyF lv k (l.drop (at_ + s)) f).1 (bodyF lv k (l.drop (at_ + s)) f).2.1 (bodyF lv k (l.drop (at_ + s)) f).2.2.1 (bodyF lv k (l.drop (at_ + s)) f).2.2.2 hx (fun _ => by rw [List.drop_drop])
          rw [hst, if_neg c1, if_neg c2]
        have hN2 : nextF lv ((l.take A2).drop at_) = nextF lv (l.drop at_) := by
          rw [drop_take']
          exact nextF_cut (by rw [hN]) (by rw [hN]; simp only; omega)
        rw [hN2, hN]
        simp only
        rw [if_neg c1]
        exact group_chk lv field l n _ A2 es2 m (by omega) (by rw [hB1]) (by omega) (by omega)
      · rw [if_pos hb0] at h
        have e1 := congrArg (fun x => x.2.2.2) h
        exact absurd e1 hb0
    · rw [if_pos he] at h
      have e1 := congrArg (fun x => x.2.2.2) h
      exact absurd e1 he

/-- What a record that was read is: it may be put, and is no longer then. -/
theorem again_next (l : List Nat) (hl : ∀ x ∈ l, x < 256) (f kd u : Nat) (bs : List Nat) (sz : Nat) (h : nextF 32 l = (f, kd, u, bs, sz, 0)) :
    1 ≤ f ∧ f ≤ 536870911 ∧ kd ≤ 5 ∧ kd ≠ 4 ∧ u < 18446744073709551616 ∧ (kd = 3 → (chk 31 bs).2 = 0) ∧ (putF f kd u bs).length ≤ sz ∧
      (if kd = 0 ∨ kd = 1 then u else if kd = 5 then u % 4294967296 else 0) = u ∧ (if kd = 2 ∨ kd = 3 then bs else []) = bs := by
  obtain ⟨f', k, s, e, hx⟩ : ∃ f k s e, tg l = (f, k, s, e) := ⟨_, _, _, _, rfl⟩
  obtain ⟨u', bs', sz', e2, hb⟩ : ∃ u bs sz e2, bodyF 32 k (l.drop s) f' = (u, bs, sz, e2) := ⟨_, _, _, _, rfl⟩
  have hst := nextF_step 32 l f' k s e u' bs' sz' e2 hx (fun _ => hb)
  rw [h] at hst
  have c1 : ¬ (0 : Nat) ≠ 0 := by omega
  have he : e = 0 := by
    apply Classical.byContradiction
    intro hne
    rw [if_pos hne] at hst
    have := congrArg (fun x => x.2.2.2.2.2) hst
    exact hne this.symm
  subst he
  rw [if_neg c1] at hst
  have he2 : e2 = 0 := by
    apply Classical.byContradiction
    intro hne
    rw [if_pos hne] at hst
    have := congrArg (fun x => x.2.2.2.2.2) hst
    exact hne this.symm
  subst he2
  rw [if_neg c1] at hst
  simp only [Prod.mk.injEq] at hst
  obtain ⟨rfl, rfl, rfl, rfl, rfl, _⟩ := hst
  have hs := tg_ok (l := l) (by rw [hx])
  have ht := tg_uv (l := l) (by rw [hx])
  rw [hx] at hs ht
  simp only at hs ht
  have hv := vbs_le ht.1
  rw [← ht.2.2, ← ht.2.1] at hv
  have hd : ∀ x ∈ l.drop s, x < 256 := fun x hx => hl x (List.mem_of_mem_drop hx)
  generalize l.drop s = r at *
  refine ⟨hs.2.2.1, hs.2.2.2.1, hs.2.2.2.2, ?_⟩
  rw [bodyF_eq] at hb
  unfold flat at hb
  by_cases h0 : kd = 0
  · subst h0
    rw [if_pos rfl] at hb
    simp only [Prod.mk.injEq] at hb
    obtain ⟨rfl, rfl, rfl, h4⟩ := hb
    have := vbs_le h4
    refine ⟨by omega, uvA_lt r, by omega, ?_, rfl, rfl⟩
    simp only [putF, if_true, List.length_append]
    omega
  rw [if_neg h0] at hb
  by_cases h1 : kd = 1
  · subst h1
    rw [if_pos rfl] at hb
    unfold ufx at hb
    split at hb
    · simp at hb
    rename_i hlen
    simp only [Prod.mk.injEq] at hb
    obtain ⟨rfl, rfl, rfl, h4⟩ := hb
    have hle := le_lt (r.take 8) (fun x hx => hd x (List.mem_of_mem_take hx))
    rw [List.length_take, Nat.min_eq_left (by omega)] at hle
    refine ⟨by omega, hle, by omega, ?_, rfl, rfl⟩
    have hL := leB_len 8 (le (r.take 8))
    simp only [putF]
    simp
    omega
  rw [if_neg h1] at hb
  by_cases h2 : kd = 2
  · subst h2
    rw [if_pos rfl] at hb
    unfold rb at hb
    split at hb
    · simp only [Prod.mk.injEq] at hb; exact absurd hb.2.2.2 (by assumption)
    rename_i hu0
    split at hb
    · simp at hb
    rename_i hlen
    simp only [Prod.mk.injEq] at hb
    obtain ⟨rfl, rfl, rfl, h4⟩ := hb
    have hu1 : (uvA r).2.2 = 0 := by omega
    have := vbs_le hu1
    have hl2 : ((r.drop (uvA r).2.1).take (uvA r).1).length = (uvA r).1 := by rw [List.length_take, List.length_drop]; omega
    refine ⟨by omega, by omega, by omega, ?_, rfl, rfl⟩
    simp only [putF, hl2]
    simp
    omega
  rw [if_neg h2] at hb
  by_cases h3 : kd = 3
  · subst h3
    rw [if_pos rfl] at hb
    change loopF (bodyF 31) f r (r.length + 1) 0 = _ at hb
    obtain ⟨A, es, hA1, hA2, hA3, hA4⟩ := loopF_shape (bodyF 31) (bodyF_fits 31) f r (r.length + 1) 0 (Nat.zero_le _) (by rw [hb])
    have hc := group_chk 31 f r (r.length + 1) 0 A es ((r.take A).length + 1) (Nat.zero_le _) hA1 hA3 hA2
    rw [hb] at hA1
    simp only [Prod.mk.injEq] at hA1
    obtain ⟨rfl, rfl, rfl, _⟩ := hA1
    have ht2 := tg_uv (l := r.drop A) (by rw [hA4])
    rw [hA4] at ht2
    simp only at ht2
    have hv2 := vbs_le ht2.1
    rw [← ht2.2.2, ← ht2.2.1] at hv2
    have hl2 : (r.take A).length = A := by rw [List.length_take]; omega
    refine ⟨by omega, by omega, fun _ => hc, ?_, rfl, rfl⟩
    simp only [putF, hl2]
    simp
    omega
  rw [if_neg h3] at hb
  by_cases h4 : kd = 4
  · rw [if_pos h4] at hb
    simp at hb
  rw [if_neg h4] at hb
  obtain rfl : kd = 5 := by omega
  unfold ufx at hb
  split at hb
  · simp at hb
  rename_i hlen
  simp only [Prod.mk.injEq] at hb
  obtain ⟨rfl, rfl, rfl, _⟩ := hb
  have hle := le_lt (r.take 4) (fun x hx => hd x (List.mem_of_mem_take hx))
  rw [List.length_take, Nat.min_eq_left (by omega)] at hle
  have hle2 : le (r.take 4) < 4294967296 := hle
  refine ⟨by omega, by omega, by omega, ?_, ?_, rfl⟩
  · have hL := leB_len 4 (le (r.take 4))
    simp only [putF]
    simp
    omega
  · rw [if_neg (by omega), if_pos rfl, Nat.mod_eq_of_lt hle2]

theorem fault_shift (lv : Nat) (a b : List Nat) : ∀ n j m, b.length + 1 ≤ n + j → (faultF lv b n j).2 = 0 → (faultF lv (a ++ b) m (a.length + j)).2 = 0
  | _, _, 0 => by intro _ _; rfl
  | 0, j, m + 1 => by
    intro hj _
    unfold faultF
    rw [if_pos (by rw [List.length_append]; omega)]
  | n + 1, j, m + 1 => by
    intro hj h
    unfold faultF at h ⊢
    rw [List.length_append]
    by_cases hend : b.length ≤ j
    · rw [if_pos (by omega)]
    rw [if_neg hend] at h
    rw [if_neg (by omega)]
    have hd : (a ++ b).drop (a.length + j) = b.drop j := by rw [← List.drop_drop, List.drop_left]
    rw [hd]
    by_cases hok : (nextF lv (b.drop j)).2.2.2.2.2 = 0
    · have c2 : ¬ (nextF lv (b.drop j)).2.2.2.2.2 ≠ 0 := by omega
      have hs := nextF_ok hok
      rw [if_neg c2] at h ⊢
      rw [Nat.add_assoc]
      exact fault_shift lv a b n _ m (by omega) h
    · rw [if_pos hok] at h; exact absurd h hok

theorem fault_join (lv : Nat) (a b : List Nat) (hb : (chk lv b).2 = 0) : ∀ n at_ m, at_ ≤ a.length → a.length + 1 ≤ n + at_ → (faultF lv a n at_).2 = 0 → (faultF lv (a ++ b) m at_).2 = 0
  | _, _, 0 => by intro _ _ _; rfl
  | 0, at_, m + 1 => by intro _ _; omega
  | n + 1, at_, m + 1 => by
    intro hat hn h
    by_cases hend : a.length ≤ at_
    · obtain rfl : at_ = a.length := by omega
      exact fault_shift lv a b (b.length + 1) 0 (m + 1) (by omega) hb
    unfold faultF at h ⊢
    rw [if_neg hend] at h
    rw [if_neg (by rw [List.length_append]; omega)]
    by_cases hok : (nextF lv (a.drop at_)).2.2.2.2.2 = 0
    · have c2 : ¬ (nextF lv (a.drop at_)).2.2.2.2.2 ≠ 0 := by omega
      have hs := nextF_ok hok
      rw [List.length_drop] at hs
      rw [if_neg c2] at h
      rw [drop_app _ _ _ hat, nextF_app b hok, if_neg c2]
      exact fault_join lv a b hb n _ m (by omega) (by omega) h
    · rw [if_pos hok] at h; exact absurd h hok

/-- Two rows of records are one. -/
theorem chk_join (lv : Nat) (a b : List Nat) (ha : (chk lv a).2 = 0) (hb : (chk lv b).2 = 0) : (chk lv (a ++ b)).2 = 0 :=
  fault_join lv a b hb (a.length + 1) 0 _ (Nat.zero_le _) (by omega) ha

theorem loopF_mem (body : Nat → List Nat → Nat → Nat × List Nat × Nat × Nat) (field : Nat) (l : List Nat) : ∀ n at_, ∀ x ∈ (loopF body field l n at_).2.1, x ∈ l
  | 0, _ => by simp [loopF]
  | n + 1, at_ => by
    obtain ⟨f, k, s, e, h⟩ : ∃ f k s e, tg (l.drop at_) = (f, k, s, e) := ⟨_, _, _, _, rfl⟩
    rw [loopF_step body field l n at_ f k s e h]
    split
    · simp
    · split
      · intro x hx; exact List.mem_of_mem_take hx
      · split
        · simp
        · exact loopF_mem body field l n _

theorem rb_mem (l : List Nat) : ∀ x ∈ (rb l).2.1, x ∈ l := by
  unfold rb
  split
  · simp
  · split
    · simp
    · intro x hx; exact List.mem_of_mem_drop (List.mem_of_mem_take hx)

theorem bodyF_mem (lv k : Nat) (l : List Nat) (f : Nat) : ∀ x ∈ (bodyF lv k l f).2.1, x ∈ l := by
  rw [bodyF_eq]
  unfold flat
  by_cases h0 : k = 0
  · rw [if_pos h0]; simp
  rw [if_neg h0]
  by_cases h1 : k = 1
  · rw [if_pos h1]; simp
  rw [if_neg h1]
  by_cases h2 : k = 2
  · rw [if_pos h2]; exact rb_mem l
  rw [if_neg h2]
  by_cases h3 : k = 3
  · rw [if_pos h3]
    cases lv with
    | zero => simp [groupF]
    | succ lv => exact loopF_mem _ _ _ _ _
  rw [if_neg h3]
  by_cases h4 : k = 4
  · rw [if_pos h4]; simp
  rw [if_neg h4]; simp

theorem nextF_mem (lv : Nat) (l : List Nat) : ∀ x ∈ (nextF lv l).2.2.2.1, x ∈ l := by
  unfold nextF
  split
  · simp
  · split
    · simp
    · intro x hx; exact List.mem_of_mem_drop (bodyF_mem _ _ _ _ x hx)
end W
end Go.Proofs.YthipecjjmboecaaDoor
