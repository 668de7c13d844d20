/-
The walks of parleyref1's writers.
-/
import Derived.Test.YtnejachdacakcaaDoorWapp
namespace Go.Proofs.YtnejachdacakcaaDoor
open Go.RowKit

theorem vbs_10 (u : Nat) : (W.vbs u).length ≤ 10 := (W.vb_len 9 u).2

theorem and127_8 (u : Nat) : bits .or .u8 ((u : Int) % 128) 128 = (u : Int) % 128 + 128 := by
  have h := u8_or_nat (u % 128) 128 (by omega) (by omega)
  have e : u % 128 ||| 128 = u % 128 + 128 := by
    have := Nat.two_pow_add_eq_or_of_lt (i := 7) (show u % 128 < 2 ^ 7 by omega) 1
    rw [Nat.or_comm, show (128 : Nat) = 2 ^ 7 * 1 from rfl, ← this]; omega
  rw [e] at h
  have e2 : ((u % 128 : Nat) : Int) = (u : Int) % 128 := by omega
  rw [e2] at h
  rw [show ((u : Int) % 128 + 128) = ((u % 128 + 128 : Nat) : Int) by omega]
  exact h

set_option maxRecDepth 100000 in
theorem refVarint_any (u : Nat) (w : World) (hu : Hid (u < 18446744073709551616)) :
    Calls Tryd.prog 43 #[.int .u64 u] w (OwnPost w.heap.size (W.vbs u) w) := by
  obtain ⟨i0, hi, hz0, hz1, hz2⟩ := info_parts info5
  obtain ⟨B, hB⟩ : ∃ B, B = w.heap.size := ⟨_, rfl⟩
  rw [← hB]
  have hBw : B ≤ w.heap.size := by omega
  clear hB
  go_enter Tryd.func43, Tryd.ntmps43
  go_wp2
  go_loopw [0, 3] (fun y x wr => ∃ (a : Option Addr) (cp u' f : Nat) (l' : List Nat), x = .slice a l'.length cp ∧ y = .int .u64 u' ∧ Hid (u' < 128 ^ (f + 1)) ∧ Hid (u' < 18446744073709551616) ∧ f ≤ 9 ∧ l'.length + f = 9 ∧ Hid (l' ++ W.vb f u' = W.vbs u) ∧
      wr.ownsRow B 5 1 (.slice a l'.length cp) l'.length (vals l') ∧ Hid (Below B w wr) ∧ w.heap.size ≤ wr.heap.size) (fun _ x _ => (match x with | .slice _ n _ => 10 - n | _ => 0))
  case atStart => exact ⟨none, 0, u, 9, [], rfl, rfl, Nat.lt_of_lt_of_le hu.out (by decide), hu, by omega, rfl, rfl, World.ownsRow_nil _ _ _ _, Below.refl _ _, Nat.le_refl _⟩
  case round =>
    obtain ⟨a, cp, u', f, l', rfl, rfl, Hf, Hu, hf9, hlf, HL, hown, HB, hsz2⟩ := hrel
    have hbk : ∀ k, (Value.slice a l'.length cp).ownBlock = some k → B ≤ k := by
      intro k e
      rcases hown.2 with ⟨e1, _⟩ | ⟨g, cap, cur, e1, _⟩
      · simp only [Value.slice.injEq] at e1; obtain ⟨rfl, _, _⟩ := e1; cases e
      · simp only [Value.slice.injEq] at e1; obtain ⟨rfl, _, _⟩ := e1; cases e; exact (hown.lt g rfl).1
    have ea := and127 u' Hu.out
    have eo := and127_8 u'
    by_cases hlt : u' < 128
    · have hone := Rd.one wr u' 5 (by omega)
      have HS : Hid (W.vb f u' = [u']) := by
        show W.vb f u' = _
        cases f <;> simp [W.vb, hlt]
      go_wp2_with (at_builtin; refine wpList_app1 _ rfl _ _ 22 rfl B _ 5 i0 (.int .u8 0) Tryd.underlying22 hi hz0 hz1 hz2 rfl _ l'.length (vals l') rfl (hown.alloc _) _ 1 1 [u'] rfl rfl (by omega) hone ?_ ?_ ?_; omega; (simp; omega); intro g2 cp2 w2 hown2 hgrow2)
      go_ret
      refine ⟨_, rfl, ?_, ?_⟩
      · have h := HL.out
        rw [HS.out] at h
        rw [← h]
        refine ⟨?_, g2, cp2, ?_⟩
        · rw [vals_append, List.length_append]; exact hown2
        · rw [List.length_append]; rfl
      · exact (HB.out.alloc (by omega) _).grown hgrow2 (by simp; omega) hbk
    · have hone := Rd.one wr (u' % 128 + 128) 5 (by omega)
      rw [show ((u' % 128 + 128 : Nat) : Int) = (u' : Int) % 128 + 128 from by omega] at hone
      have hf1 : 1 ≤ f := by
        rcases Nat.eq_zero_or_pos f with h0 | h0
        · subst h0; have := Hf.out; simp at this; omega
        · exact h0
      obtain ⟨f, rfl⟩ : ∃ m, f = m + 1 := ⟨f - 1, by omega⟩
      have HS : Hid (W.vb (f + 1) u' = (u' % 128 + 128) :: W.vb f (u' / 128)) := by
        show W.vb (f + 1) u' = _
        simp [W.vb, hlt]
      go_wp2_with (at_builtin; refine wpList_app1 _ rfl _ _ 22 rfl B _ 5 i0 (.int .u8 0) Tryd.underlying22 hi hz0 hz1 hz2 rfl _ l'.length (vals l') rfl (hown.alloc _) _ 1 1 [u' % 128 + 128] rfl rfl (by omega) hone ?_ ?_ ?_; omega; (simp; omega); intro g2 cp2 w2 hown2 hgrow2)
      go_roundw
      case rel =>
        refine ⟨some ⟨g2, 0, none⟩, cp2, u' / 128, f, l' ++ [u' % 128 + 128], ?_, ?_, ?_, ?_, by omega, ?_, ?_, ?_, ?_, ?_⟩
        · rw [List.length_append]; rfl
        · first | rfl | (congr 1)
        · have h := Hf.out
          rw [Nat.pow_succ] at h
          exact Nat.div_lt_of_lt_mul (by rw [Nat.mul_comm]; exact h)
        · have := Hu.out; show u' / 128 < _; omega
        · simp; omega
        · show _ = _
          rw [← HL.out, HS.out]; simp
        · rw [vals_append, List.length_append]; exact hown2
        · exact (HB.out.alloc (by omega) _).grown hgrow2 (by simp; omega) hbk
        · have := hgrow2.size; simp at this; omega
      case measure => simp; omega
end Go.Proofs.YtnejachdacakcaaDoor
