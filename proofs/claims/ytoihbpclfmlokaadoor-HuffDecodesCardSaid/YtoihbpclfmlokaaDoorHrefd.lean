/-
The walks of parleyref2's symbol and Encode.
-/
import Derived.Test.YtoihbpclfmlokaaDoorHrefb
import Derived.Test.YtoihbpclfmlokaaDoorHnum
import Derived.Deep.CutBlock
namespace Go.Proofs.YtoihbpclfmlokaaDoor
open Go.RowKit

def rsymV : Option Nat → Int
  | none => -1
  | some i => (i : Nat)

set_option maxRecDepth 100000 in
set_option maxHeartbeats 400000 in
theorem rsymbol_any (S : ByteArray) (hS : LetS S) (g c n : Nat) (w : World) (hB : Blk w g 257 (fun j => .int .u32 (H.cod j : Nat))) (hn : n ≤ 4294967296) :
    Calls Tryd.prog 83 #[.slice (some ⟨g, 0, none⟩) 257 257, .string S, .int .u32 c, .int .i64 n] w fun e w' => e = .returned (.int .i64 (rsymV (H.sym c n))) ∧ w = w' := by
  have h1 : 257 ≤ S.size := by rw [hS.1]; exact Nat.le_refl _
  have HS := Lib.hid hS
  have HB := Lib.hid hB
  clear hS hB
  go_enter Tryd.func83, Tryd.ntmps83
  go_wp2
  go_loop [9] (fun i => ∃ k : Nat, k ≤ 257 ∧ i = .int .i64 k ∧ Hid (∀ j, j < k → ¬ (H.b j = n ∧ H.cod j = c))) (fun i => 257 - (intOf i).toNat)
  case atStart => exact ⟨0, by omega, rfl, fun j hj => by omega⟩
  case round =>
    obtain ⟨k, hk, rfl, HN⟩ := hrel
    by_cases hlt : k < 257
    · have c1 : w.cell? ⟨g, k, none⟩ = some (.int .u32 (H.cod k : Nat)) := (HB.out k hlt).1
      have h2 := HS.out.2 k (by omega)
      have hb := H.b_bounds k
      have Hy := Lib.hid h2
      have hy1 : 97 ≤ S[k].toNat := by omega
      have hy2 : S[k].toNat ≤ 122 := by omega
      by_cases hc : H.cod k = c
      · have hq : ((H.cod k : Int) == (c : Int)) = true := by simp; omega
        by_cases heq : H.b k = n
        · have HV : Hid (H.sym c n = some k) := by
            show _ = _
            rw [← hc, ← heq]
            exact H.sym_mk hlt
          have he : ((S[k].toNat : Int) - 97 + 5 == (n : Int)) = true := by simp; omega
          clear h2 hc heq
          generalize H.cod k = d at *
          go_wp2
          go_ret
          refine ⟨?_, rfl⟩
          rw [HV.out]
          rfl
        · have he : ((S[k].toNat : Int) - 97 + 5 == (n : Int)) = false := by simp; omega
          have HN2 : Hid (∀ j, j < k + 1 → ¬ (H.b j = n ∧ H.cod j = c)) := fun j hj h => by
            rcases Nat.lt_or_ge j k with h5 | h5
            · exact HN.out j h5 h
            · obtain rfl : j = k := by omega
              exact heq h.1
          clear h2 hc
          generalize H.cod k = d at *
          go_wp2
          go_round
          case rel => exact ⟨k + 1, by omega, by go_num, HN2⟩
          case measure => simp [intOf]; omega
      · have hq : ((H.cod k : Int) == (c : Int)) = false := by simp; omega
        have HN2 : Hid (∀ j, j < k + 1 → ¬ (H.b j = n ∧ H.cod j = c)) := fun j hj h => by
          rcases Nat.lt_or_ge j k with h5 | h5
          · exact HN.out j h5 h
          · obtain rfl : j = k := by omega
            exact hc h.2
        clear h2 hc
        generalize H.cod k = d at *
        go_wp2
        go_round
        case rel => exact ⟨k + 1, by omega, by go_num, HN2⟩
        case measure => simp [intOf]; omega
    · obtain rfl : k = 257 := by omega
      have HV : Hid (H.sym c n = none) := by
        show _ = _
        cases hs : H.sym c n with
        | none => rfl
        | some j =>
          obtain ⟨a, b, d⟩ := H.sym_some hs
          exact absurd ⟨b, d⟩ (HN.out j a)
      go_wp2
      go_ret
      refine ⟨?_, rfl⟩
      rw [HV.out]
      rfl
end Go.Proofs.YtoihbpclfmlokaaDoor
