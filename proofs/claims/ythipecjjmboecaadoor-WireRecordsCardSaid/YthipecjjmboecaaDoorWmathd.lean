/-
How deep groups stand in one another: which levels suffice to read records; nothing of any program stands here.
-/
import Derived.Test.YthipecjjmboecaaDoorWmathq
namespace Go.Proofs.YthipecjjmboecaaDoor
namespace W

theorem loopF_mono (b1 b2 : Nat → List Nat → Nat → Nat × List Nat × Nat × Nat) (hb : ∀ k l f, (b1 k l f).2.2.2 = 0 → b2 k l f = b1 k l f) (field : Nat) (l : List Nat) :
    ∀ n at_, (loopF b1 field l n at_).2.2.2 = 0 → loopF b2 field l n at_ = loopF b1 field l n at_
  | 0, _ => by intro h; simp [loopF] at h
  | n + 1, at_ => by
    intro h
    obtain ⟨f, k, s, e, hx⟩ : ∃ f k s e, tg (l.drop at_) = (f, k, s, e) := ⟨_, _, _, _, rfl⟩
    rw [loopF_step b1 field l n at_ f k s e hx] at h
    rw [loopF_step b1 field l n at_ f k s e hx, loopF_step b2 field l n at_ f k s e hx]
    have c1 : ¬ (0 : Nat) ≠ 0 := by omega
    by_cases he : e = 0
    · subst he
      rw [if_neg c1] at h
      rw [if_neg c1, if_neg c1]
      by_cases h4 : k = 4 ∧ f = field
      · rw [if_pos h4, if_pos h4]
      · rw [if_neg h4] at h
        rw [if_neg h4, if_neg h4]
        by_cases hb0 : (b1 k (l.drop (at_ + s)) f).2.2.2 = 0
        · have c2 : ¬ (b1 k (l.drop (at_ + s)) f).2.2.2 ≠ 0 := by omega
          rw [if_neg c2] at h
          rw [hb _ _ _ hb0, if_neg c2, if_neg c2]
          exact loopF_mono b1 b2 hb field l n _ h
        · rw [if_pos hb0] at h; exact absurd h hb0
    · rw [if_pos he] at h; exact absurd h he

theorem flat_mono (k : Nat) (l : List Nat) (g g2 : Nat × List Nat × Nat × Nat) (hg : g.2.2.2 = 0 → g2 = g) (h : (flat k l g).2.2.2 = 0) : flat k l g2 = flat k l g := by
  by_cases h3 : k = 3
  · subst h3
    have e : ∀ g : Nat × List Nat × Nat × Nat, flat 3 l g = g := fun g => by simp [flat]
    rw [e] at h
    rw [e, e]
    exact hg h
  · unfold flat
    simp only [if_neg h3]

theorem bodyF_mono : ∀ (lv k : Nat) (l : List Nat) (f : Nat), (bodyF lv k l f).2.2.2 = 0 → bodyF (lv + 1) k l f = bodyF lv k l f := by
  intro lv
  induction lv with
  | zero =>
    intro k l f h
    rw [bodyF_eq] at h
    rw [bodyF_eq, bodyF_eq]
    exact flat_mono k l _ _ (fun h => absurd h (by show ¬ (_ + 1 = 0); omega)) h
  | succ lv ih =>
    intro k l f h
    rw [bodyF_eq] at h
    rw [bodyF_eq, bodyF_eq]
    exact flat_mono k l _ _ (fun h => loopF_mono (bodyF lv) (bodyF (lv + 1)) ih f l _ _ h) h

theorem bodyF_le {lv k : Nat} {l : List Nat} {f : Nat} (h : (bodyF lv k l f).2.2.2 = 0) : ∀ d, bodyF (lv + d) k l f = bodyF lv k l f
  | 0 => rfl
  | d + 1 => by
    have := bodyF_le h d
    rw [← Nat.add_assoc, bodyF_mono (lv + d) k l f (by rw [this]; exact h), this]

theorem bodyF_both {lv m k : Nat} {l : List Nat} {f : Nat} (h : (bodyF lv k l f).2.2.2 = 0) (h2 : (bodyF m k l f).2.2.2 = 0) : bodyF m k l f = bodyF lv k l f := by
  rcases Nat.le_total lv m with hh | hh
  · obtain ⟨d, rfl⟩ := Nat.exists_eq_add_of_le hh
    exact bodyF_le h d
  · obtain ⟨d, rfl⟩ := Nat.exists_eq_add_of_le hh
    exact (bodyF_le h2 d).symm

theorem nextF_parts {lv : Nat} {l : List Nat} {f k u : Nat} {bs : List Nat} {sz : Nat} (h : nextF lv l = (f, k, u, bs, sz, 0)) :
    ∃ s z, tg l = (f, k, s, 0) ∧ bodyF lv k (l.drop s) f = (u, bs, z, 0) ∧ sz = s + z := by
  obtain ⟨f', k', s, e, hx⟩ : ∃ f k s e, tg l = (f, k, s, e) := ⟨_, _, _, _, rfl⟩
  obtain ⟨u', bs', z, e2, hb⟩ : ∃ u bs sz e2, bodyF lv k' (l.drop s) f' = (u, bs, sz, e2) := ⟨_, _, _, _, rfl⟩
  rw [nextF_step lv l f' k' s e u' bs' z e2 hx (fun _ => hb)] at h
  by_cases he : e = 0
  · rw [if_neg (by omega)] at h
    by_cases he2 : e2 = 0
    · rw [if_neg (by omega)] at h
      subst he he2
      cases h
      exact ⟨s, z, hx, hb, rfl⟩
    · rw [if_pos he2] at h
      have := congrArg (fun x => x.2.2.2.2.2) h
      exact absurd this he2
  · rw [if_pos he] at h
    have := congrArg (fun x => x.2.2.2.2.2) h
    exact absurd this he

theorem nextF_of {m : Nat} {l : List Nat} {f k s u : Nat} {bs : List Nat} {z : Nat} (hx : tg l = (f, k, s, 0)) (hb : bodyF m k (l.drop s) f = (u, bs, z, 0)) : nextF m l = (f, k, u, bs, s + z, 0) := by
  rw [nextF_step m l f k s 0 u bs z 0 hx (fun _ => hb), if_neg (by omega), if_neg (by omega)]

theorem nextF_body {m : Nat} {l : List Nat} {f k s : Nat} (hx : tg l = (f, k, s, 0)) (h : (nextF m l).2.2.2.2.2 = 0) : (bodyF m k (l.drop s) f).2.2.2 = 0 := by
  obtain ⟨u, bs, z, e2, hb⟩ : ∃ u bs sz e2, bodyF m k (l.drop s) f = (u, bs, sz, e2) := ⟨_, _, _, _, rfl⟩
  rw [nextF_step m l f k s 0 u bs z e2 hx (fun _ => hb), if_neg (by omega)] at h
  rw [hb]
  by_cases he : e2 = 0
  · exact he
  · rw [if_pos he] at h; exact h

theorem nextF_both {lv m : Nat} {l : List Nat} {f k u : Nat} {bs : List Nat} {sz : Nat} (h : nextF lv l = (f, k, u, bs, sz, 0)) (h2 : (nextF m l).2.2.2.2.2 = 0) : nextF m l = (f, k, u, bs, sz, 0) := by
  obtain ⟨s, z, hx, hb, rfl⟩ := nextF_parts h
  have h3 := nextF_body hx h2
  have := bodyF_both (lv := lv) (m := m) (k := k) (l := l.drop s) (f := f) (by rw [hb]) h3
  rw [hb] at this
  exact nextF_of hx this

theorem nextF_le {lv m : Nat} {l : List Nat} {f k u : Nat} {bs : List Nat} {sz : Nat} (h : nextF lv l = (f, k, u, bs, sz, 0)) (hm : lv ≤ m) : nextF m l = (f, k, u, bs, sz, 0) := by
  obtain ⟨s, z, hx, hb, rfl⟩ := nextF_parts h
  obtain ⟨d, rfl⟩ := Nat.exists_eq_add_of_le hm
  exact nextF_of hx (by rw [bodyF_le (by rw [hb]) d, hb])

theorem nextF_flat {lv : Nat} {l : List Nat} {f k u : Nat} {bs : List Nat} {sz : Nat} (h : nextF lv l = (f, k, u, bs, sz, 0)) (hk : k ≠ 3) (m : Nat) : nextF m l = (f, k, u, bs, sz, 0) := by
  obtain ⟨s, z, hx, hb, rfl⟩ := nextF_parts h
  refine nextF_of hx ?_
  rw [← hb, bodyF_eq, bodyF_eq]
  unfold flat
  simp only [if_neg hk]

/-- Levels that suffice for the records within a group suffice for it, with one more. -/
theorem group_conv (lv m field : Nat) (l : List Nat) : ∀ n at_ A es j, at_ ≤ l.length → loopF (bodyF lv) field l n at_ = (0, l.take A, A + es, 0) → A + es ≤ l.length → at_ ≤ A → A + 1 ≤ j + at_ → (faultF m (l.take A) j at_).2 = 0 →
    loopF (bodyF m) field l n at_ = (0, l.take A, A + es, 0)
  | 0, at_, A, es, j => by intro _ h; simp [loopF] at h
  | n + 1, at_, A, es, 0 => by intro _ _ _ _ h; omega
  | n + 1, at_, A, es, j + 1 => by
    intro hat h hle hA hj hf
    have hlen : (l.take A).length = A := by rw [List.length_take]; omega
    obtain ⟨f, k, s, e, hx⟩ : ∃ f k s e, tg (l.drop at_) = (f, k, s, e) := ⟨_, _, _, _, rfl⟩
    rw [loopF_step (bodyF lv) field l n at_ f k s e hx] at h
    rw [loopF_step (bodyF m) field l n at_ f k s e hx]
    have c1 : ¬ (0 : Nat) ≠ 0 := by omega
    by_cases he : e = 0
    · subst he
      rw [if_neg c1] at h
      rw [if_neg c1]
      have hs := tg_ok (l := l.drop at_) (by rw [hx])
      rw [hx, List.length_drop] at hs
      simp only at hs
      by_cases h4 : k = 4 ∧ f = field
      · rw [if_pos h4] at h
        rw [if_pos h4, h]
      rw [if_neg h4] at h
      rw [if_neg h4]
      by_cases hb0 : (bodyF lv k (l.drop (at_ + s)) f).2.2.2 = 0
      · have c2 : ¬ (bodyF lv k (l.drop (at_ + s)) f).2.2.2 ≠ 0 := by omega
        rw [if_neg c2] at h
        have hfit := bodyF_fits lv k (l.drop (at_ + s)) f hb0
        rw [List.length_drop] at hfit
        obtain ⟨A2, es2, hB1, hB2, hB3, hB4⟩ := loopF_shape (bodyF lv) (bodyF_fits lv) field l n (at_ + (s + (bodyF lv k (l.drop (at_ + s)) f).2.2.1)) (by omega) (by rw [h])
        rw [hB1] at h
        have e1 := congrArg (fun x => x.2.1) h
        simp only at e1
        have e2 := congrArg List.length e1
        rw [List.length_take, List.length_take] at e2
        have hAA : A2 = A := by omega
        subst hAA
        have hes : es2 = es := by have := congrArg (fun x => x.2.2.1) h; simp only at this; omega
        subst hes
        have hN : nextF lv (l.drop at_) = (f, k, (bodyF lv k (l.drop (at_ + s)) f).1, (bodyF lv k (l.drop (at_ + s)) f).2.1, s + (bodyF lv k (l.drop (at_ + s)) f).2.2.1, 0) := by
          refine nextF_of hx ?_
          rw [List.drop_drop]
          exact Prod.ext rfl (Prod.ext rfl (Prod.ext rfl hb0))
        unfold faultF at hf
        rw [hlen, if_neg (by omega)] at hf
        have hM1 : (nextF m ((l.take A2).drop at_)).2.2.2.2.2 = 0 := by
          by_cases hq : (nextF m ((l.take A2).drop at_)).2.2.2.2.2 = 0
          · exact hq
          · rw [if_pos hq] at hf; exact absurd hf hq
        rw [if_neg (by omega)] at hf
        have hM2 : nextF m (l.drop at_) = nextF m ((l.take A2).drop at_) := by
          have := nextF_app (lv := m) ((l.drop at_).drop (A2 - at_)) hM1
          rw [drop_take', List.take_append_drop] at this
          rw [this, drop_take']
        have hM3 : nextF m (l.drop at_) = (f, k, (bodyF lv k (l.drop (at_ + s)) f).1, (bodyF lv k (l.drop (at_ + s)) f).2.1, s + (bodyF lv k (l.drop (at_ + s)) f).2.2.1, 0) := nextF_both hN (by rw [hM2]; exact hM1)
        have hbm : bodyF m k (l.drop (at_ + s)) f = bodyF lv k (l.drop (at_ + s)) f := by
          refine bodyF_both hb0 ?_
          have := nextF_body (m := m) hx (by rw [hM3])
          rwa [List.drop_drop] at this
        rw [hbm, if_neg c2]
        rw [← hM2, hM3] at hf
        simp only at hf
        exact group_conv lv m field l n _ A2 es2 j (by omega) (by rw [hB1]) (by omega) (by omega) (by omega) hf
      · rw [if_pos hb0] at h
        have e1 := congrArg (fun x => x.2.2.2) h
        exact absurd e1 hb0
    · rw [if_pos he] at h
      have e1 := congrArg (fun x => x.2.2.2) h
      exact absurd e1 he

theorem body3 (lv : Nat) (l : List Nat) (f : Nat) : bodyF lv 3 l f = groupF lv f l := by rw [bodyF_eq]; simp [flat]

theorem group_ok {lv f : Nat} {l : List Nat} {u : Nat} {bs : List Nat} {z : Nat} (h : groupF lv f l = (u, bs, z, 0)) :
    ∃ lv' A es, lv = lv' + 1 ∧ u = 0 ∧ bs = l.take A ∧ z = A + es ∧ A + es ≤ l.length ∧ loopF (bodyF lv') f l (l.length + 1) 0 = (0, l.take A, A + es, 0) := by
  cases lv with
  | zero =>
    have := congrArg (fun x => x.2.2.2) h
    exact absurd this (by show ¬ (_ + 1 = 0); omega)
  | succ lv' =>
    have h' : loopF (bodyF lv') f l (l.length + 1) 0 = (u, bs, z, 0) := h
    obtain ⟨A, es, h1, _, h3, _⟩ := loopF_shape (bodyF lv') (bodyF_fits lv') f l (l.length + 1) 0 (Nat.zero_le _) (by rw [h'])
    have h2 := h1
    rw [h'] at h2
    cases h2
    exact ⟨lv', A, es, rfl, rfl, rfl, rfl, h3, h1⟩

/-- A group that is read: just the levels that suffice for its records, and one more, suffice for it. -/
theorem next3 {lv : Nat} {l : List Nat} {f u : Nat} {bs : List Nat} {sz : Nat} (h : nextF lv l = (f, 3, u, bs, sz, 0)) :
    ∃ lv', lv = lv' + 1 ∧ (chk lv' bs).2 = 0 ∧ ∀ m, (nextF m l).2.2.2.2.2 = 0 ↔ ∃ m', m = m' + 1 ∧ (chk m' bs).2 = 0 := by
  obtain ⟨s, z, hx, hb, rfl⟩ := nextF_parts h
  rw [body3] at hb
  obtain ⟨lv', A, es, rfl, rfl, rfl, rfl, hle, hl⟩ := group_ok hb
  refine ⟨lv', rfl, group_chk lv' f (l.drop s) _ 0 A es _ (Nat.zero_le _) hl hle (Nat.zero_le _), fun m => ⟨fun hm => ?_, ?_⟩⟩
  · have hb2 := nextF_both h hm
    obtain ⟨s2, z2, hx2, hb3, _⟩ := nextF_parts hb2
    rw [hx] at hx2
    cases hx2
    rw [body3] at hb3
    obtain ⟨m', A2, es2, rfl, _, hA, _, hle2, hl2⟩ := group_ok hb3
    refine ⟨m', rfl, ?_⟩
    rw [hA]
    exact group_chk m' f (l.drop s) _ 0 A2 es2 _ (Nat.zero_le _) hl2 hle2 (Nat.zero_le _)
  · rintro ⟨m', rfl, hc⟩
    have := group_conv lv' m' f (l.drop s) ((l.drop s).length + 1) 0 A es (((l.drop s).take A).length + 1) (Nat.zero_le _) hl hle (Nat.zero_le _) (by rw [List.length_take]; omega) hc
    rw [nextF_of (m := m' + 1) hx (by rw [body3]; exact this)]

/-- How deep the records from at_ on are, D says how deep a group's are, so far a. -/
def dpF (D : List Nat → Nat) (l : List Nat) : Nat → Nat → Nat → Nat
  | 0, _, a => a
  | n + 1, at_, a =>
    if l.length ≤ at_ then a
    else if (nextF 32 (l.drop at_)).2.2.2.2.2 ≠ 0 then a
    else dpF D l n (at_ + (nextF 32 (l.drop at_)).2.2.2.2.1) (if (nextF 32 (l.drop at_)).2.1 = 3 then max a (D (nextF 32 (l.drop at_)).2.2.2.1 + 1) else a)

def dp : Nat → List Nat → Nat
  | 0, _ => 0
  | k + 1, l => dpF (dp k) l (l.length + 1) 0 0

theorem dpF_iff (lv : Nat) (hlv : lv ≤ 32) (D : List Nat → Nat) (l : List Nat) (hD : ∀ f u bs sz at_, nextF lv (l.drop at_) = (f, 3, u, bs, sz, 0) → ∀ m, (chk m bs).2 = 0 ↔ D bs ≤ m) (m : Nat) :
    ∀ n at_ a, (faultF lv l n at_).2 = 0 → (dpF D l n at_ a ≤ m ↔ a ≤ m ∧ (faultF m l n at_).2 = 0)
  | 0, at_, a => by intro _; simp [dpF, faultF]
  | n + 1, at_, a => by
    intro hf
    unfold faultF at hf ⊢
    unfold dpF
    by_cases hend : l.length ≤ at_
    · simp [if_pos hend]
    rw [if_neg hend] at hf
    rw [if_neg hend, if_neg hend]
    by_cases hq : (nextF lv (l.drop at_)).2.2.2.2.2 = 0
    · rw [if_neg (by omega)] at hf
      obtain ⟨f, k, u, bs, sz, hN⟩ : ∃ f k u bs sz, nextF lv (l.drop at_) = (f, k, u, bs, sz, 0) := ⟨_, _, _, _, _, Prod.ext rfl (Prod.ext rfl (Prod.ext rfl (Prod.ext rfl (Prod.ext rfl hq))))⟩
      rw [hN] at hf
      rw [nextF_le hN hlv]
      simp only at hf ⊢
      rw [if_neg (by omega)]
      rw [dpF_iff lv hlv D l hD m n (at_ + sz) _ hf]
      by_cases h3 : k = 3
      · subst h3
        obtain ⟨lv', _, _, hm⟩ := next3 hN
        have hd := hD f u bs sz at_ hN
        rw [if_pos rfl, Nat.max_le]
        by_cases hmm : (nextF m (l.drop at_)).2.2.2.2.2 = 0
        · rw [if_neg (by omega), nextF_both hN hmm]
          obtain ⟨m', rfl, hc⟩ := (hm m).1 hmm
          have := (hd m').1 hc
          simp only
          constructor
          · rintro ⟨⟨h1, h2⟩, h3⟩; exact ⟨h1, h3⟩
          · rintro ⟨h1, h3⟩; exact ⟨⟨h1, by omega⟩, h3⟩
        · rw [if_pos hmm]
          constructor
          · rintro ⟨⟨h1, h2⟩, h3⟩
            exfalso
            obtain ⟨m', rfl⟩ : ∃ m', m = m' + 1 := ⟨m - 1, by omega⟩
            exact hmm ((hm (m' + 1)).2 ⟨m', rfl, (hd m').2 (by omega)⟩)
          · rintro ⟨h1, h3⟩; exact absurd h3 hmm
      · rw [if_neg h3, nextF_flat hN h3 m]
        simp
    · rw [if_pos hq] at hf
      exact absurd hf hq

theorem dp_iff : ∀ lv, lv ≤ 32 → ∀ l, (chk lv l).2 = 0 → ∀ m, (chk m l).2 = 0 ↔ dp (lv + 1) l ≤ m := by
  intro lv
  induction lv with
  | zero =>
    intro hlv l hc m
    have := dpF_iff 0 hlv (dp 0) l (fun f u bs sz at_ hN => by obtain ⟨lv', h, _⟩ := next3 hN; omega) m (l.length + 1) 0 0 hc
    show _ ↔ dpF (dp 0) l _ 0 0 ≤ m
    rw [this]
    exact ⟨fun h => ⟨Nat.zero_le _, h⟩, fun h => h.2⟩
  | succ lv ih =>
    intro hlv l hc m
    have := dpF_iff (lv + 1) hlv (dp (lv + 1)) l (fun f u bs sz at_ hN => by
      obtain ⟨lv', h, hc', _⟩ := next3 hN
      obtain rfl : lv' = lv := by omega
      exact ih (by omega) bs hc') m (l.length + 1) 0 0 hc
    show _ ↔ dpF (dp (lv + 1)) l _ 0 0 ≤ m
    rw [this]
    exact ⟨fun h => ⟨Nat.zero_le _, h⟩, fun h => h.2⟩

theorem chk_mono {lv m : Nat} (hm : lv ≤ m) (l : List Nat) : ∀ n at_, (faultF lv l n at_).2 = 0 → (faultF m l n at_).2 = 0
  | 0, _ => by intro _; rfl
  | n + 1, at_ => by
    intro hf
    unfold faultF at hf ⊢
    by_cases hend : l.length ≤ at_
    · rw [if_pos hend]
    rw [if_neg hend] at hf
    rw [if_neg hend]
    by_cases hq : (nextF lv (l.drop at_)).2.2.2.2.2 = 0
    · rw [if_neg (by omega)] at hf
      obtain ⟨f, k, u, bs, sz, hN⟩ : ∃ f k u bs sz, nextF lv (l.drop at_) = (f, k, u, bs, sz, 0) := ⟨_, _, _, _, _, Prod.ext rfl (Prod.ext rfl (Prod.ext rfl (Prod.ext rfl (Prod.ext rfl hq))))⟩
      rw [hN] at hf
      rw [nextF_le hN hm]
      simp only at hf ⊢
      rw [if_neg (by omega)]
      exact chk_mono hm l n _ hf
    · rw [if_pos hq] at hf
      exact absurd hf hq

end W
end Go.Proofs.YthipecjjmboecaaDoor
