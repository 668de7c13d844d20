/-
Which errors a record's reader may answer.
-/
import Derived.Test.YtnejachdacakcaaDoorWerrs
import Derived.Test.YtnejachdacakcaaDoorWmathd
namespace Go.Proofs.YtnejachdacakcaaDoor
open Go.RowKit

theorem good_tg (l : List Nat) : Good (W.tg l).2.2.2 := by
  unfold W.tg
  split
  · exact good_uv l
  · split
    · exact good_untag _
    · exact Or.inl rfl

theorem good_rb (l : List Nat) : Good (W.rb l).2.2.2 := by
  unfold W.rb
  split
  · exact good_uv l
  · split
    · exact Or.inr (Or.inl rfl)
    · exact Or.inl rfl

theorem good_flat (k : Nat) (l : List Nat) (g : Nat × List Nat × Nat × Nat) (hg : Good g.2.2.2) : Good (W.flat k l g).2.2.2 := by
  unfold W.flat
  split
  · exact good_uv l
  split
  · exact good_ufx 8 l
  split
  · exact good_rb l
  split
  · exact hg
  split
  · exact Or.inr (Or.inr (Or.inr (Or.inr (Or.inl rfl))))
  · exact good_ufx 4 l

theorem good_loop (body : Nat → List Nat → Nat → Nat × List Nat × Nat × Nat) (hf : ∀ k l f, W.Fits l (body k l f)) (hb : ∀ k l f, Good (body k l f).2.2.2) (field : Nat) (l : List Nat) :
    ∀ n at_, at_ ≤ l.length → l.length + 1 ≤ n + at_ → Good (W.loopF body field l n at_).2.2.2
  | 0, at_ => by intro _ _; omega
  | n + 1, at_ => by
    intro hat hn
    obtain ⟨f, k, s, e, hx⟩ : ∃ f k s e, W.tg (l.drop at_) = (f, k, s, e) := ⟨_, _, _, _, rfl⟩
    rw [W.loopF_step body field l n at_ f k s e hx]
    by_cases he : e = 0
    · subst he
      rw [if_neg (by omega)]
      have hs := W.tg_ok (l := l.drop at_) (by rw [hx])
      rw [hx, List.length_drop] at hs
      simp only at hs
      split
      · exact Or.inl rfl
      · split
        · exact hb _ _ _
        · rename_i h0
          have hfit := hf k (l.drop (at_ + s)) f (by omega)
          rw [List.length_drop] at hfit
          exact good_loop body hf hb field l n _ (by omega) (by omega)
    · rw [if_pos he]
      have := good_tg (l.drop at_)
      rw [hx] at this
      exact this

theorem good_body : ∀ (lv k : Nat) (l : List Nat) (f : Nat), Good (W.bodyF lv k l f).2.2.2 := by
  intro lv
  induction lv with
  | zero =>
    intro k l f
    rw [W.bodyF_eq]
    exact good_flat k l _ (Or.inr (Or.inr (Or.inr (Or.inr (Or.inr (Or.inl rfl))))))
  | succ lv ih =>
    intro k l f
    rw [W.bodyF_eq]
    exact good_flat k l _ (good_loop (W.bodyF lv) (W.bodyF_fits lv) ih f l _ 0 (Nat.zero_le _) (by omega))

theorem good_next (lv : Nat) (l : List Nat) : Good (W.nextF lv l).2.2.2.2.2 := by
  unfold W.nextF
  split
  · exact good_tg l
  · split
    · exact good_body _ _ _ _
    · exact Or.inl rfl

theorem good_fault (lv : Nat) (l : List Nat) : ∀ n at_, Good (W.faultF lv l n at_).2
  | 0, _ => Or.inl rfl
  | n + 1, at_ => by
    unfold W.faultF
    split
    · exact Or.inl rfl
    · split
      · exact good_next lv _
      · exact good_fault lv l n _

theorem good_chk (lv : Nat) (l : List Nat) : Good (W.chk lv l).2 := good_fault lv l _ _

/-- Which of the thirty a place that is an error is. -/
theorem good_succ {k : Nat} (h : Good (k + 1)) : ∃ i, i < 30 ∧ ix (k + 1) = some i := by
  cases hi : ix (k + 1) with
  | some i => exact ⟨i, ix_lt _ _ hi, rfl⟩
  | none =>
    exfalso
    have h1 := cd_ix h
    rw [hi] at h1
    have : cd (k + 1) ≠ 0 := by
      unfold cd
      rw [if_neg (by omega)]
      repeat' split
      all_goals decide
    exact this h1
end Go.Proofs.YtnejachdacakcaaDoor
