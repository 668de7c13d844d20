/-
Chapter 1's errors and the thirty: what parleysee.Is says of one of them; what Fixed, Unfixed and Tag answer, and the reference, whatever is asked of them.
-/
import Derived.Test.YtoihbpclfmlokaaDoorGis
import Derived.Test.YtoihbpclfmlokaaDoorWrefb
import Derived.Test.YtoihbpclfmlokaaDoorWrefc
import Derived.Test.YtoihbpclfmlokaaDoorWrefe
import Derived.Test.YtoihbpclfmlokaaDoorWnum
namespace Go.Proofs.YtoihbpclfmlokaaDoor
open Go.RowKit

theorem errs_of_all {w : World} {E : Nat → Addr} (h : ErrsAll w E egs) : Errs w E :=
  ⟨egs_cell h 1 (by omega), egs_cell h 0 (by omega), egs_cell h 19 (by omega), egs_cell h 2 (by omega), egs_cell h 3 (by omega), egs_cell h 4 (by omega)⟩

/-- Which of the thirty a place is. -/
def ix (k : Nat) : Option Nat := if k = 0 then none else if k = 1 + 1 then some 0 else if k = 0 + 1 then some 1 else if k = 3 + 1 then some 2 else if k = 4 + 1 then some 3 else if k = 8 + 1 then some 4 else some 19
/-- The places that chapter 1 answers. -/
def Good (k : Nat) : Prop := k = 0 ∨ k = 1 + 1 ∨ k = 0 + 1 ∨ k = 3 + 1 ∨ k = 4 + 1 ∨ k = 8 + 1 ∨ k = 2 + 1

theorem er_ix {E : Nat → Addr} {k : Nat} (h : Good k) : er E k = oV E (ix k) := by
  rcases h with rfl | rfl | rfl | rfl | rfl | rfl | rfl <;> rfl
theorem cd_ix {k : Nat} (h : Good k) : cd k = oC (ix k) := by
  rcases h with rfl | rfl | rfl | rfl | rfl | rfl | rfl <;> rfl
theorem ix_lt (k : Nat) : ∀ i, ix k = some i → i < 30 := by
  intro i h
  unfold ix at h
  repeat' split at h
  all_goals (cases h <;> omega)

/-- Is, asked of an error of chapter 1 and of its own number. -/
theorem is_er {E : Nat → Addr} {k : Nat} (h : Good k) (w : World) (hE : ErrsAll w E egs) :
    Calls Tryd.prog 30 #[er E k, .int .i64 (cd k)] w fun e w' => e = .returned (.bool true) ∧ Below w.heap.size w w' := by
  rw [er_ix h, cd_ix h]
  refine (Is_any (ix k) _ w hE (ix_lt k)).mono ?_
  rintro e w' ⟨rfl, hb⟩
  exact ⟨by rw [decide_eq_true rfl], hb⟩

theorem good_uv (l : List Nat) : Good (W.uvA l).2.2 := by
  by_cases h : (W.uvA l).2.2 = 0
  · exact Or.inl h
  · obtain ⟨_, _, h3⟩ := W.uv_err l 0 0 h
    rcases h3 with h3 | h3
    · exact Or.inr (Or.inr (Or.inl h3))
    · exact Or.inr (Or.inl h3)
theorem good_ufx (m : Nat) (l : List Nat) : Good (W.ufx m l).2.2 := by
  unfold W.ufx
  split
  · exact Or.inr (Or.inl rfl)
  · exact Or.inl rfl
theorem good_untag (u : Nat) : Good (W.untag u).2.2 := by
  unfold W.untag
  split
  · exact Or.inr (Or.inr (Or.inr (Or.inl rfl)))
  · exact Or.inl rfl

theorem isFixed_no (m : Int) (w : World) (h4 : m ≠ 4) (h8 : m ≠ 8) : Calls Tryd.prog 60 #[.int .i64 m] w fun e w' => e = .returned (.bool false) ∧ w = w' := by
  go_enter Tryd.func60, Tryd.ntmps60
  go_wp2
  go_ret
  refine ⟨?_, rfl⟩
  show Ending.returned (Value.bool (m == 4 || m == 8)) = _
  rw [beq_eq_false_iff_ne.2 h4, beq_eq_false_iff_ne.2 h8]
  rfl

theorem fixed_bad {B2 : Nat} (a : Option Addr) (len cap : Nat) (l : List Nat) (u : Nat) (m : Int) (w : World) (h4 : m ≠ 4) (h8 : m ≠ 8) (hl : l.length = len) (hr : Rd B2 w a l) (hsz : len + 20 ≤ 140737488355328) :
    Calls Tryd.prog 22 #[.slice a len cap, .int .u64 u, .int .i64 m] w (OwnPost w.heap.size l w) := by
  have Hr := Lib.hid hr
  have Hl := Lib.hid hl
  have H4 := Lib.hid h4
  have H8 := Lib.hid h8
  clear hr hl h4 h8
  go_enter Tryd.func22, Tryd.ntmps22
  go_wp2_with (first
    | (go_at_call 60; refine (isFixed_no m _ H4.out H8.out).mono ?_; rintro e w1 ⟨rfl, rfl⟩)
    | (go_at_call 59; refine (show Calls _ _ #[_, .int .i64 ((0 : Nat) : Int)] _ _ from fresh_any a len cap l 0 _ Hl.out Hr.out (by omega)).mono ?_; rintro e w2 ⟨v, rfl, hv, hb⟩; have HV := Lib.hid hv; have HB := Lib.hid hb; clear hv hb))
  go_ret
  exact ⟨_, rfl, HV.out, HB.out⟩

theorem unfixed_bad (a : Option Addr) (len cap : Nat) (m : Int) (E : Nat → Addr) (w : World) (h4 : m ≠ 4) (h8 : m ≠ 8) (hE : Errs w E) :
    Calls Tryd.prog 24 #[.slice a len cap, .int .i64 m] w fun e w' => e = .returned (uvV E (0, 0, 2 + 1)) ∧ ∃ q, w' = w.drewN q := by
  have h0 := hE.number
  generalize hE0 : E 2 = E0 at h0
  have HE0 := Lib.hid hE0
  have H4 := Lib.hid h4
  have H8 := Lib.hid h8
  clear hE hE0 h4 h8
  go_enter Tryd.func24, Tryd.ntmps24
  go_wp2_with (go_at_call 60; refine (isFixed_no m _ H4.out H8.out).mono ?_; rintro e w1 ⟨rfl, rfl⟩)
  go_quiet (fail)
  go_wp2
  go_ret3
  refine ⟨?_, _, rfl⟩
  rw [← HE0.out]
  rfl

theorem refFixed_bad (u : Nat) (m : Int) (w : World) (h4 : m ≠ 4) (h8 : m ≠ 8) :
    Calls Tryd.prog 23 #[.int .u64 u, .int .i64 m] w fun e w' => e = .returned (.slice none 0 0) ∧ w = w' := by
  have q4 : (m == 4) = false := beq_eq_false_iff_ne.2 h4
  have q8 : (m == 8) = false := beq_eq_false_iff_ne.2 h8
  go_enter Tryd.func23, Tryd.ntmps23
  go_wp2
  go_loop [5, 6] (fun o i => i = .int .i64 0 ∧ o = .slice none 0 0) (fun _ _ => 0)
  case atStart => exact ⟨rfl, rfl⟩
  case round =>
    obtain ⟨rfl, rfl⟩ := hrel
    by_cases h0 : 0 < m
    · go_wp2
      go_ret
      exact ⟨rfl, rfl⟩
    · go_wp2
      go_ret
      exact ⟨rfl, rfl⟩

/-- Fixed, whatever number of bytes is asked. -/
theorem fixed_all (u : Nat) (hu : Hid (u < 18446744073709551616)) (m : Int) : ∃ fb : List Nat, fb.length ≤ 8 ∧ (∀ x ∈ fb, x < 256) ∧
    (∀ (B2 : Nat) (a : Option Addr) (len cap : Nat) (l : List Nat) (w : World), l.length = len → Rd B2 w a l → len + 20 ≤ 140737488355328 → Calls Tryd.prog 22 #[.slice a len cap, .int .u64 u, .int .i64 m] w (OwnPost w.heap.size (l ++ fb) w)) ∧
    (∀ w, Calls Tryd.prog 23 #[.int .u64 u, .int .i64 m] w fun e w' => ∃ a cp, e = .returned (.slice a fb.length cp) ∧ Rd w'.heap.size w' a fb ∧ Below w.heap.size w w') := by
  have key : ∀ k : Nat, k = 4 ∨ k = 8 → (∀ w, Calls Tryd.prog 23 #[.int .u64 u, .int .i64 k] w fun e w' => ∃ a cp, e = .returned (.slice a (W.leB k u).length cp) ∧ Rd w'.heap.size w' a (W.leB k u) ∧ Below w.heap.size w w') := by
    intro k hk w
    have h : Calls Tryd.prog 23 #[.int .u64 u, .int .i64 k] w (OwnPost w.heap.size (W.leB k u) w) := by
      rcases hk with rfl | rfl
      · exact refFixed4 u w hu
      · exact refFixed8 u w hu
    refine h.mono ?_
    rintro e w' ⟨v, rfl, hv, hb⟩
    obtain ⟨g, cp, rfl⟩ := hv.2
    exact ⟨_, cp, rfl, (own_rd hv rfl (W.leB_lt k u)).1, hb⟩
  by_cases h4 : m = 4
  · subst h4
    exact ⟨W.leB 4 u, by rw [W.leB_len]; omega, W.leB_lt 4 u, fun B2 a len cap l w hl hr hs => fixed_any a len cap l u 4 w (Or.inl rfl) hl hr hu hs, key 4 (Or.inl rfl)⟩
  · by_cases h8 : m = 8
    · subst h8
      exact ⟨W.leB 8 u, by rw [W.leB_len]; omega, W.leB_lt 8 u, fun B2 a len cap l w hl hr hs => fixed_any a len cap l u 8 w (Or.inr rfl) hl hr hu hs, key 8 (Or.inr rfl)⟩
    · refine ⟨[], by simp, by simp, fun B2 a len cap l w hl hr hs => ?_, fun w => (refFixed_bad u m w h4 h8).mono ?_⟩
      · rw [List.append_nil]
        exact fixed_bad a len cap l u m w h4 h8 hl hr hs
      · rintro e w' ⟨rfl, rfl⟩
        exact ⟨none, 0, rfl, Rd.nil _ _ _, Below.refl _ _⟩

/-- Unfixed, whatever number of bytes is asked. -/
theorem unfixed_all (m : Int) (l : List Nat) (hn : l.length ≤ 9223372036854775807) : ∃ x : Nat × Nat × Nat, Good x.2.2 ∧
    (∀ (E : Nat → Addr) (B : Nat) (a : Option Addr) (cap : Nat) (w : World), l.length ≤ cap → Rd B w a l → Errs w E → Calls Tryd.prog 24 #[.slice a l.length cap, .int .i64 m] w fun e w' => e = .returned (uvV E x) ∧ ∃ q, w' = w.drewN q) ∧
    (∀ (B : Nat) (a : Option Addr) (cap : Nat) (w : World), Rd B w a l → Calls Tryd.prog 25 #[.slice a l.length cap, .int .i64 m] w fun e w' => e = .returned (refV x) ∧ w = w') := by
  by_cases h4 : m = 4
  · subst h4
    exact ⟨W.ufx 4 l, good_ufx 4 l, fun E B a cap w hc hr hE => unfixed_any a cap l 4 (Or.inl rfl) E w hn hc hr hE, fun B a cap w hr => refUnf4 a cap l w hr hn⟩
  · by_cases h8 : m = 8
    · subst h8
      exact ⟨W.ufx 8 l, good_ufx 8 l, fun E B a cap w hc hr hE => unfixed_any a cap l 8 (Or.inr rfl) E w hn hc hr hE, fun B a cap w hr => refUnf8 a cap l w hr hn⟩
    · exact ⟨(0, 0, 2 + 1), Or.inr (Or.inr (Or.inr (Or.inr (Or.inr (Or.inr rfl))))), fun E B a cap w _ _ hE => unfixed_bad a l.length cap m E w h4 h8 hE, fun B a cap w _ => refUnf_bad a l.length cap m w h4 h8⟩

/-- Tag, whatever is asked. -/
theorem tag_all (f kd : Int) : ∃ (T : Int) (c : Nat), Good c ∧
    (∀ (E : Nat → Addr) (w : World), Errs w E → Calls Tryd.prog 26 #[.int .i64 f, .int .i64 kd] w fun e w' => e = .returned (.tuple #[.int .u64 T, er E c]) ∧ ∃ q, w' = w.drewN q) ∧
    (∀ (w : World), Calls Tryd.prog 27 #[.int .i64 f, .int .i64 kd] w fun e w' => e = .returned (.tuple #[.int .u64 T, .int .i64 (cd c)]) ∧ w = w') := by
  by_cases h : f < 1 ∨ 536870911 < f ∨ kd < 0 ∨ 5 < kd
  · exact ⟨0, 3 + 1, Or.inr (Or.inr (Or.inr (Or.inl rfl))), fun E w hE => tag_no f kd E w hE h, fun w => refTag_no f kd w h⟩
  · obtain ⟨F, rfl⟩ : ∃ F : Nat, f = F := ⟨f.toNat, by omega⟩
    obtain ⟨K, rfl⟩ : ∃ K : Nat, kd = K := ⟨kd.toNat, by omega⟩
    refine ⟨(F : Int) * 8 + K, 0, Or.inl rfl, fun E w _ => (tag_ok F K w (by omega) (by omega) (by omega)).mono ?_, fun w => refTag_yes F K w h⟩
    rintro e w' ⟨rfl, rfl⟩
    exact ⟨by push_cast; rfl, 0, rfl⟩

/-- Untag of the reference, as the program's. -/
theorem refUntag_all (u : Nat) (w : World) (hu : u < 18446744073709551616) :
    Calls Tryd.prog 29 #[.int .u64 u] w fun e w' => e = .returned (.tuple #[.int .i64 ((W.untag u).1 : Nat), .int .i64 ((W.untag u).2.1 : Nat), .int .i64 (cd (W.untag u).2.2)]) ∧ w = w' := by
  refine (refUntag_any u w hu).mono ?_
  rintro e w' ⟨rfl, rfl⟩
  refine ⟨?_, rfl⟩
  unfold W.untag
  split <;> rfl
end Go.Proofs.YtoihbpclfmlokaaDoor
