/-
The walk of parleyref2's Codes.
-/
import Derived.Test.YtoihbpclfmlokaaDoorHref
namespace Go.Proofs.YtoihbpclfmlokaaDoor
open Go.RowKit

/-- What Codes hands back: a slice of its own of all codes. -/
def CodesOut (w : World) (e : Ending) (w' : World) : Prop := ∃ g, e = .returned (.slice (some ⟨g, 0, none⟩) 257 257) ∧ w.heap.size ≤ g ∧ Blk w' g 257 (fun j => .int .u32 (H.cod j : Nat)) ∧ Below w.heap.size w w'

def cF (m i : Nat) (j : Nat) : Value := .int .u32 ((if H.b j < m ∨ (H.b j = m ∧ j < i) then H.cod j else 0 : Nat) : Int)

theorem cF_hit {m k : Nat} (h : H.b k = m) (j : Nat) : (if j = k then Value.int .u32 (H.cod k : Nat) else cF m k j) = cF m (k + 1) j := by
  unfold cF
  by_cases e : j = k
  · rw [if_pos e, e, if_pos (Or.inr ⟨h, by omega⟩)]
  · rw [if_neg e]
    by_cases e2 : H.b j < m ∨ (H.b j = m ∧ j < k)
    · rw [if_pos e2, if_pos (by omega)]
    · rw [if_neg e2, if_neg (by omega)]
theorem cF_miss {m k : Nat} (h : H.b k ≠ m) (j : Nat) : cF m k j = cF m (k + 1) j := by
  unfold cF
  by_cases e2 : H.b j < m ∨ (H.b j = m ∧ j < k)
  · rw [if_pos e2, if_pos (by omega)]
  · rw [if_neg e2, if_neg fun h3 => e2 (by
      rcases h3 with h3 | ⟨h3, h4⟩
      · exact Or.inl h3
      · refine Or.inr ⟨h3, ?_⟩
        rcases Nat.lt_or_ge j k with h5 | h5
        · exact h5
        · obtain rfl : j = k := by omega
          exact absurd h3 h)]
theorem cF_next (m j : Nat) (hj : j < 257) : cF m 257 j = cF (m + 1) 0 j := by
  unfold cF
  by_cases e : H.b j < m ∨ (H.b j = m ∧ j < 257)
  · rw [if_pos e, if_pos (by omega)]
  · rw [if_neg e, if_neg (by omega)]
theorem cF_all (j : Nat) : cF 31 0 j = .int .u32 (H.cod j : Nat) := by
  unfold cF
  rw [if_pos (Or.inl (by have := (H.b_bounds j).2; omega))]

set_option maxRecDepth 100000 in
set_option maxHeartbeats 1000000 in
theorem codes_any (w : World) : Calls Tryd.prog 81 #[] w (CodesOut w) := by
  obtain ⟨S, hS, hL⟩ := lengths_ex
  have HL := Lib.hid hL
  have h1 : 257 ≤ S.size := by rw [hS.1]; exact Nat.le_refl _
  have HS := Lib.hid hS
  clear hL hS
  go_enter Tryd.func81, Tryd.ntmps81
  go_upto_region 1 with (fail)
  go_step
  refine wpList_make_big rfl 122 _ _ rfl _ _ (run_make_codes w) ?_
  have hnew := Blk.new w zc32.toArray 81 (cF 5 0) (fun j hj => by
    have hj2 : j < 257 := by simpa [zc32] using hj
    rw [List.getElem?_toArray, zc32, List.getElem?_replicate, if_pos hj2]
    unfold cF
    rw [if_neg (by have := (H.b_bounds j).1; omega)]
    rfl)
  rw [show zc32.toArray.size = 257 from by simp [zc32]] at hnew
  have HN := Lib.hid hnew
  have HB : Hid (Below w.heap.size w (w.alloc (.cells zc32.toArray 81))) := (Below.refl _ _).alloc (Nat.le_refl _) _
  clear hnew
  generalize w.alloc (.cells zc32.toArray 81) = w1 at *
  generalize hg : w.heap.size = g at *
  have Hg := Lib.hid hg
  clear hg
  go_wp2_with (go_at_call 79; refine (HL.out _).mono ?_; rintro e w1 ⟨rfl, rfl⟩)
  go_loopw [3, 4] (fun c i wr => ∃ m : Nat, 4 ≤ m ∧ m ≤ 30 ∧ i = .int .i64 ((m : Int) + 1) ∧ c = .int .u32 ((H.first m + H.cnt m 257 : Nat) : Int) ∧ Hid (Blk wr g 257 (cF (m + 1) 0)) ∧ Hid (Below g w wr)) (fun _ i _ => 31 - (intOf i).toNat)
  case atStart => exact ⟨4, by omega, by omega, rfl, by rw [H.first5 4 (by omega)]; rfl, HN, HB⟩
  case round =>
    obtain ⟨m, hm4, hm, rfl, rfl, HN, HB⟩ := hrel
    have hfc := H.first_cnt m hm
    by_cases hlt : m < 30
    · have hfirst : Hid (H.first (m + 1) = (H.first m + H.cnt m 257) * 2) := rfl
      have hle : (H.first m + H.cnt m 257) * 2 + 300 < 4294967296 := by
        have h2 : 2 ^ m ≤ 2 ^ 30 := Nat.pow_le_pow_right (by omega) (by omega)
        have e : (2 : Nat) ^ 30 = 1073741824 := by decide
        omega
      generalize H.first m + H.cnt m 257 = f at *
      clear hfc
      have hd9 : decide ((m : Int) + 1 ≤ 30) = true := by simp; omega
      go_wp2
      go_loopw [3, 5] (fun c i wr => ∃ k : Nat, k ≤ 257 ∧ i = .int .i64 k ∧ c = .int .u32 ((f * 2 + H.cnt (m + 1) k : Nat) : Int) ∧ Hid (Blk wr g 257 (cF (m + 1) k)) ∧ Hid (Below g w wr)) (fun _ i _ => 257 - (intOf i).toNat)
      case atStart => exact ⟨0, by omega, rfl, by simp [H.cnt], HN, HB⟩
      case round =>
        clear HN HB
        obtain ⟨k, hk, rfl, rfl, HN, HB⟩ := hrel
        by_cases hk2 : k < 257
        · have h2 := HS.out.2 k (by omega)
          have hb := H.b_bounds k
          have Hy := Lib.hid h2
          have hy1 : 97 ≤ S[k].toNat := by omega
          have hy2 : S[k].toNat ≤ 122 := by omega
          have hcn := H.cnt_le (m + 1) k
          have hcs : Hid (H.cnt (m + 1) (k + 1) = H.cnt (m + 1) k + if H.b k = m + 1 then 1 else 0) := rfl
          obtain ⟨c1, c2⟩ := HN.out k hk2
          by_cases heq : H.b k = m + 1
          · have hcod : Hid (H.cod k = f * 2 + H.cnt (m + 1) k) := by
              show H.first (H.b k) + H.cnt (H.b k) k = _
              rw [heq, hfirst.out]
            have he : (S[k].toNat : Int) = (m : Int) + 93 := by omega
            rw [if_pos heq] at hcs
            generalize H.cnt (m + 1) k = q at *
            clear h2
            go_wp2
            go_roundw
            case rel =>
              refine ⟨k + 1, by omega, by go_num, ?_, ?_, ?_⟩
              · rw [hcs.out]
                refine congrArg (fun n => Value.int IntKind.u32 n) ?_
                omega
              · rw [show ((f : Int) * 2 + q) = ((f * 2 + q : Nat) : Int) from by omega, ← hcod.out]
                exact (HN.out.set hk2 _).ext fun j _ => cF_hit heq j
              · exact HB.out.setCell (by exact Nat.le_refl _) _
            case measure => simp [intOf]; omega
          · have he : ¬ (S[k].toNat : Int) = (m : Int) + 93 := by omega
            rw [if_neg heq] at hcs
            have hne : ((S[k].toNat : Int) - 97 + 5 == (m : Int) + 1) = false := by simp; omega
            generalize H.cnt (m + 1) k = q at *
            clear h2 c1 c2
            go_wp2
            go_roundw
            case rel =>
              refine ⟨k + 1, by omega, by go_num, ?_, ?_, HB⟩
              · rw [hcs.out]; rfl
              · exact HN.out.ext fun j _ => cF_miss heq j
            case measure => simp [intOf]; omega
        · obtain rfl : k = 257 := by omega
          have HN2 : Hid (Blk wr g 257 (cF (m + 1 + 1) 0)) := HN.out.ext fun j hj => cF_next (m + 1) j hj
          clear HN
          have hcn := H.cnt_le (m + 1) 257
          go_wp2
          go_roundw
          case rel =>
            refine ⟨m + 1, by omega, by omega, by go_num, ?_, HN2, HB⟩
            rw [hfirst.out]
          case measure => simp [intOf]; omega
    · obtain rfl : m = 30 := by omega
      have HN2 : Hid (Blk wr g 257 (fun j => .int .u32 (H.cod j : Nat))) := HN.out.ext fun j _ => cF_all j
      clear HN
      go_wp2
      go_ret
      exact ⟨g, rfl, by rw [Hg.out]; exact Nat.le_refl _, HN2.out, by rw [Hg.out]; exact HB.out⟩
end Go.Proofs.YtoihbpclfmlokaaDoor
