/-
What stands behind a record changes nothing of it: plain facts on lists of bytes; nothing of any program stands here.
-/
import Derived.Test.YthipecjjmboecaaDoorWmathc
namespace Go.Proofs.YthipecjjmboecaaDoor
namespace W

theorem uv_app {a b : Nat} (r : List Nat) : ∀ (l : List Nat) (i acc : Nat), (uv a b i acc l).2.2 = 0 → uv a b i acc (l ++ r) = uv a b i acc l
  | [], i, acc => by intro h; simp [uv] at h
  | c :: l, i, acc => by
    intro h
    unfold uv at h
    show uv a b i acc (c :: (l ++ r)) = uv a b i acc (c :: l)
    unfold uv
    split at h
    · simp at h
    · rename_i h1
      rw [if_neg h1, if_neg h1]
      split at h
      · rename_i h2; rw [if_pos h2, if_pos h2]
      · rename_i h2; rw [if_neg h2, if_neg h2]; exact uv_app r l _ _ h

theorem uvA_app {l : List Nat} (r : List Nat) (h : (uvA l).2.2 = 0) : uvA (l ++ r) = uvA l := uv_app r l 0 0 h

theorem tg_app {l : List Nat} (r : List Nat) (h : (tg l).2.2.2 = 0) : tg (l ++ r) = tg l := by
  unfold tg at h ⊢
  by_cases h1 : (uvA l).2.2 = 0
  · rw [uvA_app r h1]
  · rw [if_pos h1] at h; exact absurd h h1

theorem take_app (l r : List Nat) (n : Nat) (h : n ≤ l.length) : (l ++ r).take n = l.take n := by
  rw [List.take_append, show n - l.length = 0 from by omega]; simp
theorem drop_app (l r : List Nat) (n : Nat) (h : n ≤ l.length) : (l ++ r).drop n = l.drop n ++ r := by
  rw [List.drop_append, show n - l.length = 0 from by omega]; simp

theorem ufx_app {n : Nat} {l : List Nat} (r : List Nat) (h : (ufx n l).2.2 = 0) : ufx n (l ++ r) = ufx n l := by
  unfold ufx at h ⊢
  split at h
  · simp at h
  · rename_i h1
    rw [if_neg h1, if_neg (by rw [List.length_append]; omega), take_app _ _ _ (by omega)]

theorem rb_app {l : List Nat} (r : List Nat) (h : (rb l).2.2.2 = 0) : rb (l ++ r) = rb l := by
  unfold rb at h ⊢
  by_cases h1 : (uvA l).2.2 = 0
  · have c1 : ¬ (uvA l).2.2 ≠ 0 := by omega
    have hs := uvA_ok h1
    rw [uvA_app r h1]
    rw [if_neg c1] at h
    rw [if_neg c1, if_neg c1]
    by_cases h2 : l.length - (uvA l).2.1 < (uvA l).1
    · rw [if_pos h2] at h; exact absurd h (by show ¬ (_ + 1 = 0); omega)
    · have h3 : ¬ (l ++ r).length - (uvA l).2.1 < (uvA l).1 := by rw [List.length_append]; omega
      rw [if_neg h2, if_neg h3, drop_app _ _ _ hs.2, take_app _ _ _ (by rw [List.length_drop]; omega)]
  · rw [if_pos h1] at h; exact absurd h h1

theorem loopF_app (body : Nat → List Nat → Nat → Nat × List Nat × Nat × Nat) (hf : ∀ k l f, Fits l (body k l f)) (hb : ∀ k l f r, (body k l f).2.2.2 = 0 → body k (l ++ r) f = body k l f) (field : Nat) (l r : List Nat) :
    ∀ n m at_, n ≤ m → at_ ≤ l.length → (loopF body field l n at_).2.2.2 = 0 → loopF body field (l ++ r) m at_ = loopF body field l n at_
  | 0, _, _ => by intro _ _ h; simp [loopF] at h
  | n + 1, m, at_ => by
    intro hnm hat h
    obtain ⟨m, rfl⟩ : ∃ k, m = k + 1 := ⟨m - 1, by omega⟩
    obtain ⟨f, k, s, e, hx⟩ : ∃ f k s e, tg (l.drop at_) = (f, k, s, e) := ⟨_, _, _, _, rfl⟩
    rw [loopF_step body field l n at_ f k s e hx] at h ⊢
    by_cases he : e = 0
    · subst he
      have hx2 : tg ((l ++ r).drop at_) = (f, k, s, 0) := by
        rw [drop_app _ _ _ hat, tg_app r (by rw [hx]), hx]
      rw [loopF_step body field (l ++ r) m at_ f k s 0 hx2]
      have hs := tg_ok (l := l.drop at_) (by rw [hx])
      rw [hx, List.length_drop] at hs
      simp only at hs
      have c1 : ¬ (0 : Nat) ≠ 0 := by omega
      rw [if_neg c1] at h
      rw [if_neg c1, if_neg c1]
      by_cases hend : k = 4 ∧ f = field
      · rw [if_pos hend, if_pos hend, take_app _ _ _ hat]
      · rw [if_neg hend] at h
        rw [if_neg hend, if_neg hend]
        by_cases hb0 : (body k (l.drop (at_ + s)) f).2.2.2 = 0
        · have c2 : ¬ (body k (l.drop (at_ + s)) f).2.2.2 ≠ 0 := by omega
          rw [if_neg c2] at h
          have hd : (l ++ r).drop (at_ + s) = l.drop (at_ + s) ++ r := drop_app _ _ _ (by omega)
          have hbe := hb k (l.drop (at_ + s)) f r hb0
          have hfit := hf k (l.drop (at_ + s)) f hb0
          rw [List.length_drop] at hfit
          rw [hd, hbe, if_neg c2, if_neg c2]
          exact loopF_app body hf hb field l r n m _ (by omega) (by omega) h
        · rw [if_pos hb0] at h; exact absurd h hb0
    · rw [if_pos he] at h; exact absurd h he

theorem flat_app (k : Nat) (l r : List Nat) (g g2 : Nat × List Nat × Nat × Nat) (hg : g.2.2.2 = 0 → g2 = g) (h : (flat k l g).2.2.2 = 0) : flat k (l ++ r) g2 = flat k l g := by
  unfold flat at h ⊢
  by_cases h0 : k = 0
  · rw [if_pos h0] at h; rw [if_pos h0, if_pos h0, uvA_app r h]
  rw [if_neg h0] at h; rw [if_neg h0, if_neg h0]
  by_cases h1 : k = 1
  · rw [if_pos h1] at h; rw [if_pos h1, if_pos h1, ufx_app r h]
  rw [if_neg h1] at h; rw [if_neg h1, if_neg h1]
  by_cases h2 : k = 2
  · rw [if_pos h2] at h; rw [if_pos h2, if_pos h2, rb_app r h]
  rw [if_neg h2] at h; rw [if_neg h2, if_neg h2]
  by_cases h3 : k = 3
  · rw [if_pos h3] at h; rw [if_pos h3, if_pos h3]; exact hg h
  rw [if_neg h3] at h; rw [if_neg h3, if_neg h3]
  by_cases h4 : k = 4
  · rw [if_pos h4, if_pos h4]
  rw [if_neg h4] at h; rw [if_neg h4, if_neg h4, ufx_app r h]

theorem bodyF_app : ∀ (lv k : Nat) (l : List Nat) (f : Nat) (r : List Nat), (bodyF lv k l f).2.2.2 = 0 → bodyF lv k (l ++ r) f = bodyF lv k l f := by
  intro lv
  induction lv with
  | zero =>
    intro k l f r h
    rw [bodyF_eq] at h ⊢
    rw [bodyF_eq]
    exact flat_app k l r _ _ (fun h => absurd h (by show ¬ (_ + 1 = 0); omega)) h
  | succ lv ih =>
    intro k l f r h
    rw [bodyF_eq] at h ⊢
    rw [bodyF_eq]
    refine flat_app k l r _ _ (fun h => ?_) h
    exact loopF_app (bodyF lv) (bodyF_fits lv) (fun k l f r h => ih k l f r h) f l r _ _ 0 (by rw [List.length_append]; omega) (Nat.zero_le _) h

theorem nextF_app {lv : Nat} {l : List Nat} (r : List Nat) (h : (nextF lv l).2.2.2.2.2 = 0) : nextF lv (l ++ r) = nextF lv l := by
  unfold nextF at h ⊢
  by_cases h1 : (tg l).2.2.2 = 0
  · have hs := tg_ok h1
    have c1 : ¬ (tg l).2.2.2 ≠ 0 := by omega
    rw [if_neg c1] at h
    rw [tg_app r h1, drop_app _ _ _ hs.2.1]
    rw [if_neg c1, if_neg c1]
    by_cases h2 : (bodyF lv (tg l).2.1 (l.drop (tg l).2.2.1) (tg l).1).2.2.2 = 0
    · rw [bodyF_app lv _ _ _ r h2]
    · rw [if_pos h2] at h; exact absurd h h2
  · rw [if_pos h1] at h; exact absurd h h1

/-- What Varint writes is read back, whatever stands behind. -/
theorem vb_uv {a b : Nat} (r : List Nat) : ∀ (f i u acc : Nat), i + f = 9 → u < 128 ^ (f + 1) → acc + u * 2 ^ (7 * i) < 18446744073709551616 → uv a b i acc (vb f u ++ r) = (acc + u * 2 ^ (7 * i), i + (vb f u).length, 0)
  | 0, i, u, acc => by
    intro hi hu hlt
    obtain rfl : i = 9 := by omega
    have e : (2 : Nat) ^ (7 * 9) = 9223372036854775808 := by decide
    have hu1 : u ≤ 1 := by
      apply Classical.byContradiction; intro hgt
      have := Nat.mul_le_mul_right (2 ^ (7 * 9)) (show 2 ≤ u by omega)
      rw [e] at this hlt
      omega
    show uv a b 9 acc (u :: r) = _
    unfold uv
    rw [if_neg (by omega), if_pos (by omega), Nat.mod_eq_of_lt (by omega)]
    rfl
  | f + 1, i, u, acc => by
    intro hi hu hlt
    unfold vb
    by_cases h : u < 128
    · rw [if_pos h]
      show uv a b i acc (u :: r) = _
      unfold uv
      rw [if_neg (by omega), if_pos h, Nat.mod_eq_of_lt h]
      rfl
    · rw [if_neg h]
      show uv a b i acc ((u % 128 + 128) :: (vb f (u / 128) ++ r)) = _
      unfold uv
      rw [if_neg (by omega), if_neg (by omega)]
      have e1 : (u % 128 + 128) % 128 = u % 128 := by omega
      have e2 : acc + u % 128 * 2 ^ (7 * i) + u / 128 * 2 ^ (7 * (i + 1)) = acc + u * 2 ^ (7 * i) := by
        rw [pow7, ← Nat.mul_assoc, Nat.add_assoc, ← Nat.add_mul]
        congr 2
        omega
      have hd : u / 128 < 128 ^ (f + 1) := by
        rw [Nat.pow_succ] at hu
        exact Nat.div_lt_of_lt_mul (by rw [Nat.mul_comm]; exact hu)
      rw [e1, vb_uv r f (i + 1) (u / 128) _ (by omega) hd (by rw [e2]; exact hlt), e2]
      simp only [List.length_cons]
      congr 2
      omega

theorem vbs_uvA (u : Nat) (r : List Nat) (h : u < 18446744073709551616) : uvA (vbs u ++ r) = (u, (vbs u).length, 0) := by
  have := vb_uv (a := 1) (b := 2) r 9 0 u 0 rfl (Nat.lt_of_lt_of_le h (by decide)) (by simpa using h)
  unfold uvA vbs
  rw [this]
  simp

/-- A number's lowest bytes, the lowest first. -/
def leB : Nat → Nat → List Nat
  | 0, _ => []
  | n + 1, u => u % 256 :: leB n (u / 256)

theorem leB_len : ∀ n u, (leB n u).length = n
  | 0, _ => rfl
  | n + 1, u => by simp [leB, leB_len n]
theorem leB_lt : ∀ n u, ∀ x ∈ leB n u, x < 256
  | 0, _ => by simp [leB]
  | n + 1, u => by
    intro x hx
    rcases List.mem_cons.1 hx with rfl | hx
    · omega
    · exact leB_lt n _ x hx
theorem le_leB : ∀ n u, le (leB n u) = u % 256 ^ n
  | 0, u => by simp [leB, le, Nat.mod_one]
  | n + 1, u => by
    simp only [leB, le, le_leB n (u / 256)]
    rw [Nat.pow_succ, Nat.mul_comm (256 ^ n) 256, Nat.mod_mul]

theorem ufx_leB (n u : Nat) (r : List Nat) : ufx n (leB n u ++ r) = (u % 256 ^ n, n, 0) := by
  unfold ufx
  rw [if_neg (by rw [List.length_append, leB_len]; omega), take_app _ _ _ (by rw [leB_len]; omega), List.take_of_length_le (by rw [leB_len]; omega), le_leB]

theorem rb_put (bs r : List Nat) (h : bs.length < 18446744073709551616) : rb (vbs bs.length ++ (bs ++ r)) = (0, bs, (vbs bs.length).length + bs.length, 0) := by
  unfold rb
  rw [vbs_uvA _ _ h]
  have c1 : ¬ (0 : Nat) ≠ 0 := by omega
  rw [if_neg c1]
  simp only
  rw [if_neg (by rw [List.length_append, List.length_append]; omega), List.drop_left, take_app _ _ _ (by omega), List.take_of_length_le (by omega)]

theorem tg_tag (f k : Nat) (r : List Nat) (h1 : 1 ≤ f) (h2 : f ≤ 536870911) (h3 : k ≤ 5) : tg (vbs (f * 8 + k) ++ r) = (f, k, (vbs (f * 8 + k)).length, 0) := by
  have hu : untag (f * 8 + k) = (f, k, 0) := by
    unfold untag
    rw [if_neg (by omega), show (f * 8 + k) / 8 = f by omega, show (f * 8 + k) % 8 = k by omega]
  have c1 : ¬ (0 : Nat) ≠ 0 := by omega
  unfold tg
  rw [vbs_uvA _ _ (by omega)]
  simp only
  rw [if_neg c1, hu]
  simp only
  rw [if_neg c1]

theorem group_put (lv f : Nat) (bs E : List Nat) (el : Nat) (hE : tg E = (f, 4, el, 0)) :
    ∀ n at_ m, at_ ≤ bs.length → bs.length + 1 ≤ n + at_ → (bs ++ E).length + 1 ≤ m + at_ → (faultF lv bs n at_).2 = 0 → loopF (bodyF lv) f (bs ++ E) m at_ = (0, bs, bs.length + el, 0)
  | 0, at_, m => by intro h1 h2; omega
  | n + 1, at_, m => by
    intro hat hn hm h
    have c1 : ¬ (0 : Nat) ≠ 0 := by omega
    obtain ⟨m, rfl⟩ : ∃ k, m = k + 1 := ⟨m - 1, by rw [List.length_append] at hm; omega⟩
    by_cases hend : bs.length ≤ at_
    · obtain rfl : at_ = bs.length := by omega
      have hx : tg ((bs ++ E).drop bs.length) = (f, 4, el, 0) := by rw [List.drop_left]; exact hE
      rw [loopF_step _ _ _ _ _ f 4 el 0 hx, if_neg c1, if_pos ⟨rfl, rfl⟩, List.take_left]
    · unfold faultF at h
      rw [if_neg hend] at h
      by_cases hok : (nextF lv (bs.drop at_)).2.2.2.2.2 = 0
      · have c2 : ¬ (nextF lv (bs.drop at_)).2.2.2.2.2 ≠ 0 := by omega
        rw [if_neg c2] at h
        obtain ⟨fi, k, s, e, hx⟩ : ∃ fi k s e, tg (bs.drop at_) = (fi, k, s, e) := ⟨_, _, _, _, rfl⟩
        obtain ⟨u, bb, sz, e2, hb⟩ : ∃ u bb sz e2, bodyF lv k ((bs.drop at_).drop s) fi = (u, bb, sz, e2) := ⟨_, _, _, _, rfl⟩
        have hst := nextF_step lv (bs.drop at_) fi k s e u bb sz e2 hx (fun _ => hb)
        rw [hst] at hok h
        by_cases he : e = 0
        · subst he
          rw [if_neg c1] at hok h
          by_cases he2 : e2 = 0
          · subst he2
            rw [if_neg c1] at hok h
            simp only at h
            have hs := tg_ok (l := bs.drop at_) (by rw [hx])
            rw [hx, List.length_drop] at hs
            simp only at hs
            have hx2 : tg ((bs ++ E).drop at_) = (fi, k, s, 0) := by rw [drop_app _ _ _ hat, tg_app E (by rw [hx]), hx]
            have hk4 : k ≠ 4 := by
              rintro rfl
              rw [bodyF_eq] at hb
              simp [flat] at hb
            have hb2 : bodyF lv k ((bs ++ E).drop (at_ + s)) fi = (u, bb, sz, 0) := by
              rw [drop_app _ _ _ (by omega), ← List.drop_drop, bodyF_app lv _ _ _ E (by rw [hb]), hb]
            have hfit := bodyF_fits lv k ((bs.drop at_).drop s) fi (by rw [hb])
            rw [hb, List.length_drop, List.length_drop] at hfit
            simp only at hfit
            rw [loopF_step _ _ _ _ _ fi k s 0 hx2, if_neg c1, if_neg (fun h => hk4 h.1), hb2]
            simp only
            rw [if_neg c1]
            exact group_put lv f bs E el hE n _ m (by omega) (by omega) (by omega) h
          · rw [if_pos he2] at hok; exact absurd hok he2
        · rw [if_pos he] at hok; exact absurd hok he
      · rw [if_pos hok] at h; exact absurd h hok

/-- A record as bytes. -/
def putF (f kd u : Nat) (bs : List Nat) : List Nat :=
  if kd = 0 then vbs (f * 8 + kd) ++ vbs u
  else if kd = 1 then vbs (f * 8 + kd) ++ leB 8 u
  else if kd = 5 then vbs (f * 8 + kd) ++ leB 4 u
  else if kd = 2 then vbs (f * 8 + kd) ++ vbs bs.length ++ bs
  else vbs (f * 8 + kd) ++ bs ++ vbs (f * 8 + 4)

/-- What reading a record that was put gives. -/
theorem put_next (f kd u : Nat) (bs r : List Nat) (h1 : 1 ≤ f) (h2 : f ≤ 536870911) (h3 : kd ≤ 5) (h4 : kd ≠ 4) (hu : u < 18446744073709551616) (hb : bs.length < 18446744073709551616) (hg : kd = 3 → (chk 31 bs).2 = 0) :
    nextF 32 (putF f kd u bs ++ r) = (f, kd, (if kd = 0 ∨ kd = 1 then u else if kd = 5 then u % 4294967296 else 0), (if kd = 2 ∨ kd = 3 then bs else []), (putF f kd u bs).length, 0) := by
  have c1 : ¬ (0 : Nat) ≠ 0 := by omega
  match kd, h3, h4 with
  | 0, _, _ =>
    have hx := tg_tag f 0 (vbs u ++ r) h1 h2 (by omega)
    have e : putF f 0 u bs ++ r = vbs (f * 8 + 0) ++ (vbs u ++ r) := by simp [putF]
    rw [e, nextF_step 32 _ f 0 _ 0 u [] (vbs u).length 0 hx (fun _ => by rw [List.drop_left, bodyF_eq]; unfold flat; rw [if_pos rfl, vbs_uvA u r hu])]
    rw [if_neg c1, if_neg c1]; simp [putF]
  | 1, _, _ =>
    have hx := tg_tag f 1 (leB 8 u ++ r) h1 h2 (by omega)
    have e : putF f 1 u bs ++ r = vbs (f * 8 + 1) ++ (leB 8 u ++ r) := by simp [putF]
    rw [e, nextF_step 32 _ f 1 _ 0 u [] 8 0 hx (fun _ => by rw [List.drop_left, bodyF_eq]; unfold flat; rw [if_neg (by omega), if_pos rfl, ufx_leB, Nat.mod_eq_of_lt (show u < 256 ^ 8 from hu)])]
    rw [if_neg c1, if_neg c1]; simp [putF, leB_len]
  | 2, _, _ =>
    have hx := tg_tag f 2 (vbs bs.length ++ (bs ++ r)) h1 h2 (by omega)
    have e : putF f 2 u bs ++ r = vbs (f * 8 + 2) ++ (vbs bs.length ++ (bs ++ r)) := by simp [putF]
    rw [e, nextF_step 32 _ f 2 _ 0 0 bs ((vbs bs.length).length + bs.length) 0 hx (fun _ => by rw [List.drop_left, bodyF_eq]; unfold flat; rw [if_neg (by omega), if_neg (by omega), if_pos rfl, rb_put bs r hb])]
    rw [if_neg c1, if_neg c1]; simp [putF]
  | 3, _, _ =>
    have hx := tg_tag f 3 (bs ++ (vbs (f * 8 + 4) ++ r)) h1 h2 (by omega)
    have e : putF f 3 u bs ++ r = vbs (f * 8 + 3) ++ (bs ++ (vbs (f * 8 + 4) ++ r)) := by simp [putF]
    have hgp := group_put 31 f bs (vbs (f * 8 + 4) ++ r) _ (tg_tag f 4 r h1 h2 (by omega)) (bs.length + 1) 0 ((bs ++ (vbs (f * 8 + 4) ++ r)).length + 1) (Nat.zero_le _) (by omega) (by omega) (hg rfl)
    rw [e, nextF_step 32 _ f 3 _ 0 0 bs (bs.length + (vbs (f * 8 + 4)).length) 0 hx (fun _ => by rw [List.drop_left, bodyF_eq]; unfold flat; rw [if_neg (by omega), if_neg (by omega), if_neg (by omega), if_pos rfl]; exact hgp)]
    rw [if_neg c1, if_neg c1]; simp [putF]
  | 5, _, _ =>
    have hx := tg_tag f 5 (leB 4 u ++ r) h1 h2 (by omega)
    have e : putF f 5 u bs ++ r = vbs (f * 8 + 5) ++ (leB 4 u ++ r) := by simp [putF]
    rw [e, nextF_step 32 _ f 5 _ 0 (u % 4294967296) [] 4 0 hx (fun _ => by rw [List.drop_left, bodyF_eq]; unfold flat; rw [if_neg (by omega), if_neg (by omega), if_neg (by omega), if_neg (by omega), if_neg (by omega), ufx_leB])]
    rw [if_neg c1, if_neg c1]; simp [putF, leB_len]

theorem vbs_pos (u : Nat) : 1 ≤ (vbs u).length := (vb_len 9 u).1

theorem putF_pos (f kd u : Nat) (bs : List Nat) : 1 ≤ (putF f kd u bs).length := by
  have := vbs_pos (f * 8 + kd)
  unfold putF
  repeat' split
  all_goals (simp only [List.length_append]; omega)

/-- A record that was put is records and nothing else. -/
theorem put_chk (f kd u : Nat) (bs : List Nat) (h1 : 1 ≤ f) (h2 : f ≤ 536870911) (h3 : kd ≤ 5) (h4 : kd ≠ 4) (hu : u < 18446744073709551616) (hb : bs.length < 18446744073709551616) (hg : kd = 3 → (chk 31 bs).2 = 0) :
    chk 32 (putF f kd u bs) = (0, 0) := by
  have hn := put_next f kd u bs [] h1 h2 h3 h4 hu hb hg
  rw [List.append_nil] at hn
  have hp := putF_pos f kd u bs
  unfold chk
  obtain ⟨m, hm⟩ : ∃ m, (putF f kd u bs).length = m + 1 := ⟨(putF f kd u bs).length - 1, by omega⟩
  rw [hm]
  unfold faultF
  rw [if_neg (by omega), List.drop_zero, hn]
  simp only
  rw [if_neg (by omega), hm]
  unfold faultF
  rw [if_pos (by omega)]

end W
end Go.Proofs.YthipecjjmboecaaDoor
