/-
The walks of parleyref2's small functions and of its Codes.
-/
import Derived.Test.YtoihbpclfmlokaaDoorHbits
import Derived.Test.YtoihbpclfmlokaaDoorGapp
import Derived.Test.YtoihbpclfmlokaaDoorGblk
import Derived.Test.YtoihbpclfmlokaaDoorHsmall
namespace Go.Proofs.YtoihbpclfmlokaaDoor
open Go.RowKit

/-- The letters: a for five bits. -/
def LetS (S : ByteArray) : Prop := S.size = 257 ∧ ∀ i (h : i < S.size), S[i].toNat = 92 + H.b i

set_option maxRecDepth 100000 in
set_option maxHeartbeats 1000000 in
theorem lengths_ex : ∃ S, LetS S ∧ ∀ w, Calls Tryd.prog 79 #[] w fun e w' => e = .returned (.string S) ∧ w = w' := by
  apply Exists.intro
  apply And.intro
  rotate_left
  · intro w
    go_enter Tryd.func79, Tryd.ntmps79
    go_wp2
    go_ret
    exact ⟨rfl, rfl⟩
  · unfold LetS
    decide +kernel

theorem rBits_yes (i : Nat) (w : World) (hi : i < 257) : Calls Tryd.prog 50 #[.int .i64 i] w fun e w' => e = .returned (.int .i64 (H.b i)) ∧ w = w' := by
  obtain ⟨S, hS, hL⟩ := lengths_ex
  have HL := Lib.hid hL
  clear hL
  have h1 : 257 ≤ S.size := by rw [hS.1]; exact Nat.le_refl _
  have h2 := hS.2 i (by omega)
  have hb := H.b_bounds i
  have Hy := Lib.hid h2
  have hy1 : 97 ≤ S[i].toNat := by omega
  have hy2 : S[i].toNat ≤ 122 := by omega
  clear h2 hS
  have hd : decide (256 < (i : Int)) = false := by simp; omega
  go_enter Tryd.func50, Tryd.ntmps50
  go_wp2_with (go_at_call 79; refine (HL.out _).mono ?_; rintro e w1 ⟨rfl, rfl⟩)
  go_ret
  refine ⟨?_, rfl⟩
  refine congrArg (fun n => Ending.returned (Value.int IntKind.i64 n)) ?_
  have := Hy.out
  omega

theorem rBits_no (n : Int) (w : World) (h : ¬ (0 ≤ n ∧ n < 257)) : Calls Tryd.prog 50 #[.int .i64 n] w fun e w' => e = .returned (.int .i64 0) ∧ w = w' := by
  by_cases h0 : n < 0
  · go_enter Tryd.func50, Tryd.ntmps50
    go_wp2
    go_ret
    exact ⟨rfl, rfl⟩
  · have h1 : 256 < n := by omega
    clear h
    go_enter Tryd.func50, Tryd.ntmps50
    go_wp2
    go_ret
    exact ⟨rfl, rfl⟩

set_option maxHeartbeats 400000 in
theorem rSize_any (s : ByteArray) (w : World) (hs : s.size ≤ 140737488355328) : Calls Tryd.prog 55 #[.string s] w fun e w' => e = .returned (.int .i64 (H.sz (by_ s))) ∧ w = w' := by
  obtain ⟨S, hS, hL⟩ := lengths_ex
  have HL := Lib.hid hL
  have h1 : 257 ≤ S.size := by rw [hS.1]; exact Nat.le_refl _
  have HS := Lib.hid hS
  clear hL hS
  go_enter Tryd.func55, Tryd.ntmps55
  go_wp2_with (go_at_call 79; refine (HL.out _).mono ?_; rintro e w1 ⟨rfl, rfl⟩)
  go_loop [3, 5] (fun n i => ∃ k : Nat, k ≤ s.size ∧ i = .int .i64 k ∧ n = .int .i64 ((H.eb ((by_ s).take k)).length : Nat)) (fun _ i => s.size - (intOf i).toNat)
  case atStart => exact ⟨0, Nat.zero_le _, rfl, rfl⟩
  case round =>
    obtain ⟨k, hk, rfl, rfl⟩ := hrel
    have hbd := (H.eb_bounds ((by_ s).take k)).2
    have hl : ((by_ s).take k).length ≤ k := List.length_take_le _ _
    have hbd2 : (H.eb ((by_ s).take k)).length ≤ 30 * k := by omega
    by_cases hlt : k < s.size
    · have hSc := eb_take_succ (by_ s) k (by rw [by_len]; exact hlt)
      rw [by_get s k hlt] at hSc
      have Hc := Lib.hid hSc
      have hc : s[k].toNat < 256 := s[k].toNat_lt
      have h2 := HS.out.2 s[k].toNat (by omega)
      have hb := H.b_bounds s[k].toNat
      have Hy := Lib.hid h2
      have hy1 : 97 ≤ S[s[k].toNat].toNat := by omega
      have hy2 : S[s[k].toNat].toNat ≤ 122 := by omega
      generalize (H.eb ((by_ s).take k)).length = L at *
      clear hbd hl h2 hSc
      go_wp2
      go_round
      case rel =>
        refine ⟨k + 1, by omega, by go_num, ?_⟩
        rw [Hc.out]
        refine congrArg (fun n => Value.int IntKind.i64 n) ?_
        have := Hy.out
        omega
      case measure => simp [intOf]; omega
    · obtain rfl : k = s.size := by omega
      go_wp2
      go_ret
      refine ⟨?_, rfl⟩
      rw [List.take_of_length_le (by rw [by_len]; exact Nat.le_refl _)]
      refine congrArg (fun n => Ending.returned (Value.int IntKind.i64 n)) ?_
      unfold H.sz
      omega

def zc32 : List Value := List.replicate 257 (.int .u32 0)
theorem run_make_codes (w : World) : (Instr.makeSlice 122 (.int .i64 257) (.int .i64 257)).run Tryd.prog w = .ok (.slice (some ⟨w.heap.size, 0, none⟩) 257 257) (w.alloc (.cells zc32.toArray 81)) := by kernel_rfl
end Go.Proofs.YtoihbpclfmlokaaDoor
