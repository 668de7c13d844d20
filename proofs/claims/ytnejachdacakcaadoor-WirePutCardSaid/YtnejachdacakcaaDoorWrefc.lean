/-
The walk of parleyref1.Fixed.
-/
import Derived.Test.YtnejachdacakcaaDoorWref
import Derived.Test.YtnejachdacakcaaDoorWmathp
namespace Go.Proofs.YtnejachdacakcaaDoor
open Go.RowKit

set_option maxRecDepth 100000 in
theorem refFixed4 (u : Nat) (w : World) (_hu : Hid (u < 18446744073709551616)) :
    Calls Tryd.prog 44 #[.int .u64 u, .int .i64 4] w (OwnPost w.heap.size (W.leB 4 u) w) := by
  obtain ⟨i0, hi, hz0, hz1, hz2⟩ := info_parts info5
  obtain ⟨B, hB⟩ : ∃ B, B = w.heap.size := ⟨_, rfl⟩
  rw [← hB]
  have hBw : B ≤ w.heap.size := by omega
  clear hB
  go_enter Tryd.func44, Tryd.ntmps44
  go_wp2
  go_loopw [5, 6] (fun x i wr => ∃ (a : Option Addr) (cp k : Nat) (l' : List Nat), x = .slice a l'.length cp ∧ i = .int .i64 k ∧ k ≤ 4 ∧ l'.length = k ∧ Hid (l' ++ W.leB (4 - k) (u / 256 ^ k) = W.leB 4 u) ∧ (a = none → k = 0) ∧
      wr.ownsRow B 5 1 (.slice a l'.length cp) l'.length (vals l') ∧ Hid (Below B w wr) ∧ w.heap.size ≤ wr.heap.size) (fun _ i _ => 4 - (intOf i).toNat)
  case atStart => exact ⟨none, 0, 0, [], rfl, rfl, by omega, rfl, by show _ = _; simp, fun _ => rfl, World.ownsRow_nil _ _ _ _, Below.refl _ _, Nat.le_refl _⟩
  case round =>
    obtain ⟨a, cp, k, l', rfl, rfl, hk, hlk, HL, hak, hown, HB, hsz2⟩ := hrel
    have hbk : ∀ k, (Value.slice a l'.length cp).ownBlock = some k → B ≤ k := by
      intro k e
      rcases hown.2 with ⟨e1, _⟩ | ⟨g, cap, cur, e1, _⟩
      · simp only [Value.slice.injEq] at e1; obtain ⟨rfl, _, _⟩ := e1; cases e
      · simp only [Value.slice.injEq] at e1; obtain ⟨rfl, _, _⟩ := e1; cases e; exact (hown.lt g rfl).1
    have hpw : 256 ^ k = 2 ^ (8 * k) := by rw [Nat.pow_mul]
    have hone := Rd.one wr (u / 2 ^ (8 * k) % 256) 5 (by omega)
    rw [show ((u / 2 ^ (8 * k) % 256 : Nat) : Int) = (u : Int) / 2 ^ (8 * k) % 256 from by push_cast; rfl] at hone
    have HP := Lib.hid hpw
    clear hpw
    by_cases hlt : k < 4
    · have HS : Hid (W.leB (4 - k) (u / 256 ^ k) = (u / 2 ^ (8 * k) % 256) :: W.leB (4 - (k + 1)) (u / 256 ^ (k + 1))) := by
        show _ = _
        rw [show 4 - k = (4 - (k + 1)) + 1 by omega, W.leB, HP.out, Nat.pow_succ, ← Nat.div_div_eq_div_mul, HP.out]
      go_wp2_with (at_builtin; refine wpList_app1 _ rfl _ _ 22 rfl B _ 5 i0 (.int .u8 0) Tryd.underlying22 hi hz0 hz1 hz2 rfl _ l'.length (vals l') (by rw [hlk]; rfl) (hown.alloc _) _ 1 1 [u / 2 ^ (8 * k) % 256] rfl rfl (by omega) hone ?_ ?_ ?_; omega; (simp; omega); intro g2 cp2 w2 hown2 hgrow2)
      go_roundw
      case rel =>
        refine ⟨some ⟨g2, 0, none⟩, cp2, k + 1, l' ++ [u / 2 ^ (8 * k) % 256], ?_, by go_num, by omega, ?_, ?_, ?_, ?_, ?_, ?_⟩
        · rw [List.length_append, hlk]; rfl
        · simp; omega
        · show _ = _
          rw [← HL.out, HS.out]; simp
        · intro h; cases h
        · rw [vals_append, List.length_append]; exact hown2
        · exact (HB.out.alloc (by omega) _).grown hgrow2 (by simp; omega) hbk
        · have := hgrow2.size; simp at this; omega
      case measure => simp [intOf]; omega
    · obtain rfl : k = 4 := by omega
      rcases hown.2 with ⟨e1, _⟩ | ⟨g, cap, cur, e1, _⟩
      · simp only [Value.slice.injEq] at e1
        have := hak e1.1
        omega
      · simp only [Value.slice.injEq] at e1
        obtain ⟨rfl, -, rfl⟩ := e1
        have h := HL.out
        have h : l' ++ [] = _ := h
        rw [List.append_nil] at h
        go_wp2
        go_ret
        refine ⟨_, rfl, ?_, HB.out⟩
        rw [← h]
        exact ⟨hown, g, _, rfl⟩

set_option maxRecDepth 100000 in
theorem refFixed8 (u : Nat) (w : World) (_hu : Hid (u < 18446744073709551616)) :
    Calls Tryd.prog 44 #[.int .u64 u, .int .i64 8] w (OwnPost w.heap.size (W.leB 8 u) w) := by
  obtain ⟨i0, hi, hz0, hz1, hz2⟩ := info_parts info5
  obtain ⟨B, hB⟩ : ∃ B, B = w.heap.size := ⟨_, rfl⟩
  rw [← hB]
  have hBw : B ≤ w.heap.size := by omega
  clear hB
  go_enter Tryd.func44, Tryd.ntmps44
  go_wp2
  go_loopw [5, 6] (fun x i wr => ∃ (a : Option Addr) (cp k : Nat) (l' : List Nat), x = .slice a l'.length cp ∧ i = .int .i64 k ∧ k ≤ 8 ∧ l'.length = k ∧ Hid (l' ++ W.leB (8 - k) (u / 256 ^ k) = W.leB 8 u) ∧ (a = none → k = 0) ∧
      wr.ownsRow B 5 1 (.slice a l'.length cp) l'.length (vals l') ∧ Hid (Below B w wr) ∧ w.heap.size ≤ wr.heap.size) (fun _ i _ => 8 - (intOf i).toNat)
  case atStart => exact ⟨none, 0, 0, [], rfl, rfl, by omega, rfl, by show _ = _; simp, fun _ => rfl, World.ownsRow_nil _ _ _ _, Below.refl _ _, Nat.le_refl _⟩
  case round =>
    obtain ⟨a, cp, k, l', rfl, rfl, hk, hlk, HL, hak, hown, HB, hsz2⟩ := hrel
    have hbk : ∀ k, (Value.slice a l'.length cp).ownBlock = some k → B ≤ k := by
      intro k e
      rcases hown.2 with ⟨e1, _⟩ | ⟨g, cap, cur, e1, _⟩
      · simp only [Value.slice.injEq] at e1; obtain ⟨rfl, _, _⟩ := e1; cases e
      · simp only [Value.slice.injEq] at e1; obtain ⟨rfl, _, _⟩ := e1; cases e; exact (hown.lt g rfl).1
    have hpw : 256 ^ k = 2 ^ (8 * k) := by rw [Nat.pow_mul]
    have hone := Rd.one wr (u / 2 ^ (8 * k) % 256) 5 (by omega)
    rw [show ((u / 2 ^ (8 * k) % 256 : Nat) : Int) = (u : Int) / 2 ^ (8 * k) % 256 from by push_cast; rfl] at hone
    have HP := Lib.hid hpw
    clear hpw
    by_cases hlt : k < 8
    · have HS : Hid (W.leB (8 - k) (u / 256 ^ k) = (u / 2 ^ (8 * k) % 256) :: W.leB (8 - (k + 1)) (u / 256 ^ (k + 1))) := by
        show _ = _
        rw [show 8 - k = (8 - (k + 1)) + 1 by omega, W.leB, HP.out, Nat.pow_succ, ← Nat.div_div_eq_div_mul, HP.out]
      go_wp2_with (at_builtin; refine wpList_app1 _ rfl _ _ 22 rfl B _ 5 i0 (.int .u8 0) Tryd.underlying22 hi hz0 hz1 hz2 rfl _ l'.length (vals l') (by rw [hlk]; rfl) (hown.alloc _) _ 1 1 [u / 2 ^ (8 * k) % 256] rfl rfl (by omega) hone ?_ ?_ ?_; omega; (simp; omega); intro g2 cp2 w2 hown2 hgrow2)
      go_roundw
      case rel =>
        refine ⟨some ⟨g2, 0, none⟩, cp2, k + 1, l' ++ [u / 2 ^ (8 * k) % 256], ?_, by go_num, by omega, ?_, ?_, ?_, ?_, ?_, ?_⟩
        · rw [List.length_append, hlk]; rfl
        · simp; omega
        · show _ = _
          rw [← HL.out, HS.out]; simp
        · intro h; cases h
        · rw [vals_append, List.length_append]; exact hown2
        · exact (HB.out.alloc (by omega) _).grown hgrow2 (by simp; omega) hbk
        · have := hgrow2.size; simp at this; omega
      case measure => simp [intOf]; omega
    · obtain rfl : k = 8 := by omega
      rcases hown.2 with ⟨e1, _⟩ | ⟨g, cap, cur, e1, _⟩
      · simp only [Value.slice.injEq] at e1
        have := hak e1.1
        omega
      · simp only [Value.slice.injEq] at e1
        obtain ⟨rfl, -, rfl⟩ := e1
        have h := HL.out
        have h : l' ++ [] = _ := h
        rw [List.append_nil] at h
        go_wp2
        go_ret
        refine ⟨_, rfl, ?_, HB.out⟩
        rw [← h]
        exact ⟨hown, g, _, rfl⟩
end Go.Proofs.YtnejachdacakcaaDoor
