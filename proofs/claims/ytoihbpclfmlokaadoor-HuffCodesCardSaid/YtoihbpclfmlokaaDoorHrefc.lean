/-
The walk of parleyref2's Code.
-/
import Derived.Test.YtoihbpclfmlokaaDoorHrefb
namespace Go.Proofs.YtoihbpclfmlokaaDoor
open Go.RowKit

theorem rCode_no (n : Int) (w : World) (h : ¬ (0 ≤ n ∧ n < 257)) : Calls Tryd.prog 51 #[.int .i64 n] w fun e w' => e = .returned (.tuple #[.int .u32 0, .bool false]) ∧ w = w' := by
  go_enter Tryd.func51, Tryd.ntmps51
  go_wp2_with (go_at_call 50; refine (rBits_no _ _ h).mono ?_; rintro e w1 ⟨rfl, rfl⟩)
  go_ret2
  exact ⟨rfl, rfl⟩

/-- How many of the first k symbols that stand ahead of i have n bits. -/
def cc (n i k : Nat) : Nat := H.cnt n (min k i)
theorem cc_succ (n i k : Nat) : cc n i (k + 1) = cc n i k + if H.b k = n ∧ k < i then 1 else 0 := by
  unfold cc
  by_cases h : k < i
  · rw [show min (k + 1) i = k + 1 from by omega, show min k i = k from by omega]
    show H.cnt n k + (if H.b k = n then 1 else 0) = _
    by_cases e : H.b k = n
    · rw [if_pos e, if_pos ⟨e, h⟩]
    · rw [if_neg e, if_neg fun h2 => e h2.1]
  · rw [show min (k + 1) i = i from by omega, show min k i = i from by omega, if_neg fun h2 => h h2.2]
    rfl

set_option maxRecDepth 100000 in
set_option maxHeartbeats 1000000 in
theorem rCode_yes (i : Nat) (w : World) (hi : i < 257) : Calls Tryd.prog 51 #[.int .i64 i] w fun e w' => e = .returned (.tuple #[.int .u32 (H.cod i), .bool true]) ∧ w = w' := by
  obtain ⟨S, hS, hL⟩ := lengths_ex
  have HL := Lib.hid hL
  have h1 : 257 ≤ S.size := by rw [hS.1]; exact Nat.le_refl _
  have HS := Lib.hid hS
  clear hL hS
  have hb := H.b_bounds i
  have HC : Hid (∀ w, Calls Tryd.prog 50 #[.int .i64 i] w fun e w' => e = .returned (.int .i64 (H.b i)) ∧ w = w') := fun w => rBits_yes i w hi
  have Hcod : Hid (H.cod i = H.first (H.b i) + H.cnt (H.b i) i) := rfl
  have hcl := H.cod_lt32 i hi
  generalize H.b i = n at *
  have hn0 : ((n : Int) == 0) = false := by simp; omega
  go_enter Tryd.func51, Tryd.ntmps51
  go_wp2_with (first | (go_at_call 79; refine (HL.out _).mono ?_; rintro e w1 ⟨rfl, rfl⟩) | (go_at_call 50; refine (HC.out _).mono ?_; rintro e w1 ⟨rfl, rfl⟩))
  go_loop [6, 7] (fun c b => ∃ m f : Nat, 4 ≤ m ∧ m ≤ n ∧ b = .int .i64 ((m : Int) + 1) ∧ c = .int .i64 (f : Nat) ∧ f ≤ 1073741824 ∧ Hid (f = if m = n then H.cod i else H.first m + H.cnt m 257)) (fun _ b => 31 - (intOf b).toNat)
  case atStart => exact ⟨4, 0, by omega, by omega, rfl, rfl, by omega, by show _ = _; rw [if_neg (by omega), H.first5 4 (by omega)]⟩
  case round =>
    obtain ⟨m, f, hm4, hm, rfl, rfl, hf, HF⟩ := hrel
    by_cases hlt : m < n
    · have hfirst : Hid (H.first (m + 1) = f * 2) := by
        have := HF.out
        rw [if_neg (by omega)] at this
        show (H.first m + H.cnt m 257) * 2 = _
        rw [this]
      clear HF
      have hd9 : decide ((m : Int) + 1 ≤ (n : Int)) = true := by simp; omega
      by_cases hmn : m + 1 = n
      · have hq : ((m : Int) + 1 == (n : Int)) = true := by simp; omega
        go_wp2
        go_loop [6, 8] (fun c b => ∃ k : Nat, k ≤ 257 ∧ b = .int .i64 k ∧ c = .int .i64 ((f * 2 + cc n i k : Nat) : Int)) (fun _ b => 257 - (intOf b).toNat)
        case atStart => exact ⟨0, by omega, rfl, by simp [cc, H.cnt]⟩
        case round =>
          obtain ⟨k, hk, rfl, rfl⟩ := hrel
          have hcn : cc n i k ≤ 300 := Nat.le_trans (H.cnt_le n _) (by omega)
          by_cases hk2 : k < 257
          · have h2 := HS.out.2 k (by omega)
            have hb := H.b_bounds k
            have Hy := Lib.hid h2
            have hy1 : 97 ≤ S[k].toNat := by omega
            have hy2 : S[k].toNat ≤ 122 := by omega
            have hcs := Lib.hid (cc_succ n i k)
            by_cases heq : H.b k = n
            · have he : (S[k].toNat : Int) = (m : Int) + 93 := by omega
              by_cases hki : k < i
              · rw [if_pos ⟨heq, hki⟩] at hcs
                have hd : decide ((i : Int) ≤ (k : Int)) = false := by simp; omega
                generalize cc n i k = q at *
                clear h2
                go_wp2
                go_round
                case rel => exact ⟨k + 1, by omega, by go_num, by rw [hcs.out]; go_num⟩
                case measure => simp [intOf]; omega
              · rw [if_neg (fun h => hki h.2)] at hcs
                have hd : decide ((i : Int) ≤ (k : Int)) = true := by simp; omega
                generalize cc n i k = q at *
                clear h2
                go_wp2
                go_round
                case rel => exact ⟨k + 1, by omega, by go_num, by rw [hcs.out]; rfl⟩
                case measure => simp [intOf]; omega
            · rw [if_neg (fun h => heq h.1)] at hcs
              have hne : ((S[k].toNat : Int) - 97 + 5 != (m : Int) + 1) = true := by simp; omega
              generalize cc n i k = q at *
              clear h2
              go_wp2
              go_round
              case rel => exact ⟨k + 1, by omega, by go_num, by rw [hcs.out]; rfl⟩
              case measure => simp [intOf]; omega
          · obtain rfl : k = 257 := by omega
            have he : Hid (H.cod i = f * 2 + cc n i 257) := by
              show _ = _
              unfold cc
              rw [show min 257 i = i from by omega, Hcod.out, ← hfirst.out, hmn]
            generalize cc n i 257 = q at *
            go_wp2
            go_round
            case rel =>
              refine ⟨m + 1, f * 2 + q, by omega, by omega, by go_num, by go_num, by have := he.out; omega, ?_⟩
              show _ = _
              rw [if_pos hmn, he.out]
            case measure => simp [intOf]; omega
      · have hq : ((m : Int) + 1 == (n : Int)) = false := by simp; omega
        go_wp2
        go_loop [6, 8] (fun c b => ∃ k : Nat, k ≤ 257 ∧ b = .int .i64 k ∧ c = .int .i64 ((f * 2 + H.cnt (m + 1) k : Nat) : Int)) (fun _ b => 257 - (intOf b).toNat)
        case atStart => exact ⟨0, by omega, rfl, by simp [H.cnt]⟩
        case round =>
          obtain ⟨k, hk, rfl, rfl⟩ := hrel
          have hcn : H.cnt (m + 1) k ≤ 300 := Nat.le_trans (H.cnt_le (m + 1) _) (by omega)
          by_cases hk2 : k < 257
          · have h2 := HS.out.2 k (by omega)
            have hb := H.b_bounds k
            have Hy := Lib.hid h2
            have hy1 : 97 ≤ S[k].toNat := by omega
            have hy2 : S[k].toNat ≤ 122 := by omega
            have hcs : Hid (H.cnt (m + 1) (k + 1) = H.cnt (m + 1) k + if H.b k = m + 1 then 1 else 0) := rfl
            by_cases heq : H.b k = m + 1
            · have he : (S[k].toNat : Int) = (m : Int) + 93 := by omega
              rw [if_pos heq] at hcs
              generalize H.cnt (m + 1) k = q at *
              clear h2
              go_wp2
              go_round
              case rel => exact ⟨k + 1, by omega, by go_num, by rw [hcs.out]; go_num⟩
              case measure => simp [intOf]; omega
            · rw [if_neg heq] at hcs
              have hne : ((S[k].toNat : Int) - 97 + 5 != (m : Int) + 1) = true := by simp; omega
              generalize H.cnt (m + 1) k = q at *
              clear h2
              go_wp2
              go_round
              case rel => exact ⟨k + 1, by omega, by go_num, by rw [hcs.out]; rfl⟩
              case measure => simp [intOf]; omega
          · obtain rfl : k = 257 := by omega
            have he : Hid (H.first (m + 1) + H.cnt (m + 1) 257 = f * 2 + H.cnt (m + 1) 257) := by
              show _ = _
              rw [hfirst.out]
            have hfc := H.first_cnt (m + 1) (by omega)
            have h2 : 2 ^ (m + 1) ≤ 2 ^ 30 := Nat.pow_le_pow_right (by omega) (by omega)
            have e : (2 : Nat) ^ 30 = 1073741824 := by decide
            have hle : f * 2 + H.cnt (m + 1) 257 ≤ 1073741824 := by rw [← he.out]; omega
            clear hfc h2 e
            generalize hq9 : H.cnt (m + 1) 257 = q at *
            have Hq9 := Lib.hid hq9
            clear hq9
            go_wp2
            go_round
            case rel =>
              refine ⟨m + 1, f * 2 + q, by omega, by omega, by go_num, by go_num, hle, ?_⟩
              show _ = _
              rw [if_neg hmn, Hq9.out, ← he.out]
            case measure => simp [intOf]; omega
    · obtain rfl : m = n := by omega
      have hd9 : decide ((m : Int) + 1 ≤ (m : Int)) = false := by simp; omega
      rw [if_pos rfl] at HF
      have hF := HF.out
      subst hF
      go_wp2
      go_ret2
      exact ⟨rfl, rfl⟩
end Go.Proofs.YtoihbpclfmlokaaDoor
