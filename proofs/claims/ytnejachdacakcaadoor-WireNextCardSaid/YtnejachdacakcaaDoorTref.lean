/-
The walk of parleyref1.Text.
-/
import Derived.Test.YtnejachdacakcaaDoorGbase
import Derived.Test.YtnejachdacakcaaDoorTmathb
import Derived.Deep.LoopGhost
import Derived.IntWalk
namespace Go.Proofs.YtnejachdacakcaaDoor
open Go.RowKit

theorem andI31 : ∀ X : Fin 256, bits .and .i64 ((X.val : Nat) : Int) 31 = ((X.val % 32 : Nat) : Int) := by decide +kernel
theorem andI15 : ∀ X : Fin 256, bits .and .i64 ((X.val : Nat) : Int) 15 = ((X.val % 16 : Nat) : Int) := by decide +kernel
theorem andI7 : ∀ X : Fin 256, bits .and .i64 ((X.val : Nat) : Int) 7 = ((X.val % 8 : Nat) : Int) := by decide +kernel
theorem and192 : ∀ X : Fin 256, bits .and .u8 ((X.val : Nat) : Int) 192 = ((X.val / 64 * 64 : Nat) : Int) := by decide +kernel
theorem and63 : ∀ X : Fin 256, bits .and .u8 ((X.val : Nat) : Int) 63 = ((X.val % 64 : Nat) : Int) := by decide +kernel

theorem i64_or_nat (a b : Nat) (ha : a < 4611686018427387904) (hb : b < 4611686018427387904) : bits .or .i64 (a : Int) (b : Int) = ((a ||| b : Nat) : Int) := by
  have hx : a ||| b < 2 ^ 62 := Nat.or_lt_two_pow (by omega) (by omega)
  show IntKind.i64.wrap ((BitVec.ofInt 64 (a : Int) ||| BitVec.ofInt 64 (b : Int)).toNat : Int) = _
  rw [BitVec.toNat_or, ofInt_u64 a (by omega), ofInt_u64 b (by omega)]
  exact IntWalk.i64_in _ (by omega)

theorem orI (V r : Nat) (hV : V < 1000000) (hr : r < 64) : bits .or .i64 ((V : Int) * 64) (r : Int) = ((V * 64 + r : Nat) : Int) := by
  have h := i64_or_nat (V * 64) r (by omega) (by omega)
  have e : V * 64 ||| r = V * 64 + r := by
    have := Nat.two_pow_add_eq_or_of_lt (i := 6) (show r < 2 ^ 6 by omega) V
    rw [Nat.mul_comm V 64, show (64 : Nat) = 2 ^ 6 from rfl, ← this]
  rw [e] at h
  rw [← h]
  push_cast
  rfl

set_option maxRecDepth 1000000 in
set_option maxHeartbeats 8000000 in
theorem refText_any {B : Nat} (a : Option Addr) (cap : Nat) (l : List Nat) (w : World) (hn : l.length ≤ 140737488355328) (hr : Rd B w a l) :
    Calls Tryd.prog 19 #[.slice a l.length cap] w fun e w' => e = .returned (.bool (T.tx l)) ∧ w = w' := by
  obtain ⟨ANS, hANS⟩ : ∃ A, T.tx l = A := ⟨_, rfl⟩
  rw [hANS]
  have Hr := Lib.hid hr
  have HA := Lib.hid hANS
  clear hr hANS
  go_enter Tryd.func19, Tryd.ntmps19
  go_wp2
  go_loopg [3] (l.length + 1) (fun gk s3 wx => wx = w ∧ ∃ p : Nat, s3 = .int .i64 p ∧ p ≤ l.length ∧ Hid (ANS = T.tx (l.drop p)) ∧ l.length - p < gk)
  case atStart => exact ⟨rfl, 0, rfl, by omega, HA.out.symm, by omega⟩
  case round =>
    obtain ⟨rfl, p, rfl, hp, HP, hg⟩ := hrel
    obtain ⟨L, hL⟩ : ∃ L, l.drop p = L := ⟨_, rfl⟩
    have HL := Lib.hid hL
    have hLn : L.length = l.length - p := by rw [← hL, List.length_drop]
    rw [hL] at HP
    have HX : Hid (T.tx L = ANS) := HP.out.symm
    have HLn := Lib.hid hLn
    clear hL hLn HP HA
    by_cases hend : l.length ≤ p
    · obtain rfl : p = l.length := by omega
      have HF : Hid (ANS = true) := by show _ = _; rw [← HX.out]; exact T.tx_nil (by rw [HLn.out]; omega)
      go_wp2
      go_ret
      rw [HF.out]
      exact ⟨rfl, rfl⟩
    obtain ⟨g', rfl⟩ : ∃ g', gk = g' + 1 := ⟨gk - 1, by omega⟩
    have hlt : ∀ j, L.getD j 0 < 256 := fun j => by rw [← HL.out, T.getD_drop]; exact Hr.out.lt _
    have hc256 := hlt 0
    have hne : L.length ≠ 0 := by rw [HLn.out]; omega
    obtain ⟨b, o, rfl, hcell⟩ := Hr.out.cell (j := p) (by omega)
    have e0 : l.getD p 0 = L.getD 0 0 := by rw [← HL.out, T.getD_drop]; rfl
    rw [e0] at hcell
    clear e0
    have hsb := World.block_lt_of_cell? _ _ hcell
    simp only at hsb
    by_cases hc : L.getD 0 0 < 128
    · as_aux_lemma =>
        have hq := T.q1 hne hc
        rw [HX.out] at hq
        have HQ := Lib.hid hq
        generalize L.getD 0 0 = c at *
        clear hq
        go_wp2
        go_loopg [6, 7] (1) (fun gi cv kv wx => wx = wr ∧ (((kv = .int .i64 1 ∧ cv = .int .i64 c) ∧ 1 - 1 < gi)))
        case atStart => exact ⟨rfl, ⟨⟨rfl, rfl⟩, by omega⟩⟩
        case round =>
          obtain ⟨rfl, hst⟩ := hrel
          obtain ⟨⟨rfl, rfl⟩, hgi⟩ := hst
          have t1 : ¬ ((c : Int) < 0) := by omega
          have t2 : ¬ (1114111 < (c : Int)) := by omega
          have t3 : ¬ (55296 ≤ (c : Int)) := by omega
          go_wp2
          go_roundg g'
          case measure => omega
          case rel => exact ⟨rfl, p + 1, by push_cast; rfl, by omega, by show _ = _; rw [HQ.out, ← HL.out, List.drop_drop], by omega⟩
    by_cases hc4 : L.getD 0 0 < 192 ∨ 248 ≤ L.getD 0 0
    · have HF : Hid (ANS = false) := by show _ = _; rw [← HX.out]; exact T.q0 hne (by omega) hc4
      clear HX hlt
      generalize L.getD 0 0 = c at *
      rcases hc4 with hc4 | hc4
      · have d1 : ¬ 192 ≤ c := by omega
        have d2 : ¬ 224 ≤ c := by omega
        have d3 : ¬ 240 ≤ c := by omega
        go_wp2
        go_ret
        rw [HF.out]
        exact ⟨rfl, rfl⟩
      · have d1 : ¬ c < 224 := by omega
        have d2 : ¬ c < 240 := by omega
        have d3 : ¬ c < 248 := by omega
        go_wp2
        go_ret
        rw [HF.out]
        exact ⟨rfl, rfl⟩
    have hc5 : 192 ≤ L.getD 0 0 := by omega
    have hc6 : L.getD 0 0 < 248 := by omega
    clear hc4
    by_cases hc2 : L.getD 0 0 < 224
    · as_aux_lemma =>
        have hc := hc5
        have hq := T.q2 hne hc hc2
        rw [HX.out] at hq
        have HQ := Lib.hid hq
        have em := andI31 ⟨L.getD 0 0, hc256⟩
        simp only at em
        obtain ⟨V1, hV1⟩ : ∃ V, L.getD 0 0 % 32 = V := ⟨_, rfl⟩
        have b1 : V1 < 32 := by rw [← hV1]; omega
        rw [hV1] at em
        have HV1 := Lib.hid hV1
        obtain ⟨y, hy⟩ : ∃ v, L.getD 1 0 = v := ⟨_, rfl⟩
        have Hy := Lib.hid hy
        have ly : y < 256 := by rw [← hy]; exact hlt 1
        have a1 := and192 ⟨y, ly⟩
        have g1 := and63 ⟨y, ly⟩
        simp only at a1 g1
        obtain ⟨M1, hM1⟩ : ∃ M, y / 64 * 64 = M := ⟨_, rfl⟩
        obtain ⟨R1, hR1⟩ : ∃ R, y % 64 = R := ⟨_, rfl⟩
        have lR1 : R1 < 64 := by rw [← hR1]; omega
        have HC1 : Hid (T.Co y ↔ M1 = 128) := by rw [← hM1]; exact T.co_div y ly
        rw [hM1] at a1
        rw [hR1] at g1
        have HR1 := Lib.hid hR1
        obtain ⟨V2, hV2⟩ : ∃ V, V1 * 64 + R1 = V := ⟨_, rfl⟩
        have b2 : V2 < 2048 := by omega
        have o1 := orI V1 R1 (by omega) lR1
        rw [hV2] at o1
        have HV2 := Lib.hid hV2
        clear hy hM1 hR1 hV2
        clear hV1
        have HOK : Hid ((T.Co y ∧ T.Ok 128 V2 → ANS = T.tx (L.drop 2)) ∧ (¬ (T.Co y ∧ T.Ok 128 V2) → ANS = false)) := by
          have h := HQ.out
          rw [Hy.out, HV1.out, HR1.out, HV2.out] at h
          exact h
        generalize L.getD 0 0 = c at *
        clear hq HQ HV1 HR1 HV2
        by_cases hend : l.length < p + 2
        · have HF : Hid (ANS = false) := by
            refine HOK.out.2 ?_
            have h0 : y = 0 := by rw [← Hy.out]; exact T.getD_out (by rw [HLn.out]; omega)
            subst h0
            unfold T.Co
            omega
          clear HOK HX
          go_wp2
          go_ret
          rw [HF.out]
          exact ⟨rfl, rfl⟩
        have k1 : wr.cell? ⟨b, o + (p + 1), none⟩ = some (.int .u8 (y : Nat)) := by
          obtain ⟨b', o', e', h'⟩ := Hr.out.cell (j := p + 1) (by omega)
          cases e'
          rw [← T.getD_drop, HL.out, Hy.out] at h'
          exact h'
        go_wp2
        go_loopg [6, 7] (2) (fun gi cv kv wx => wx = wr ∧ (((kv = .int .i64 1 ∧ cv = .int .i64 V1) ∧ 2 - 1 < gi) ∨ ((kv = .int .i64 2 ∧ cv = .int .i64 V2 ∧ T.Co y) ∧ 2 - 2 < gi)))
        case atStart => exact ⟨rfl, Or.inl ⟨⟨rfl, rfl⟩, by omega⟩⟩
        case round =>
          obtain ⟨rfl, hst⟩ := hrel
          rcases hst with ⟨⟨rfl, rfl⟩, hgi⟩ | ⟨⟨rfl, rfl, hc1⟩, hgi⟩
          · skip
            obtain ⟨gj, rfl⟩ : ∃ gj, gk = gj + 1 := ⟨gk - 1, by omega⟩
            by_cases hm : M1 = 128
            · have hmb : ((M1 : Int) != 128) = false := by simp [hm]
              have hco := HC1.out.2 hm
              have HCO := Lib.hid hco
              clear hco
              go_wp2
              go_roundg gj
              case measure => omega
              case rel => exact ⟨rfl, Or.inr (⟨⟨rfl, rfl, HCO.out⟩, by omega⟩)⟩
            · have hmb : ((M1 : Int) != 128) = true := by simp; omega
              have HF : Hid (ANS = false) := HOK.out.2 (fun h => hm (HC1.out.1 h.1))
              go_wp2
              go_ret
              rw [HF.out]
              exact ⟨rfl, rfl⟩
          · skip
            by_cases hok : T.Ok 128 V2
            · have HN : Hid (ANS = T.tx (L.drop 2)) := HOK.out.1 ⟨hc1, hok⟩
              have hok' := hok
              unfold T.Ok at hok'
              have t1 : ¬ ((V2 : Int) < 128) := by omega
              have t2 : ¬ (1114111 < (V2 : Int)) := by omega
              have HK := Lib.hid hok'
              clear hok hok' HOK
              try clear a1
              try clear g1
              try clear o1
              try clear em
              try clear HC1
              try clear hc1
              try clear hcell
              try clear hsb
              try clear hlt
              try clear hc5
              try clear hc6
              try clear hc7
              try clear hc3
              try clear hc2
              try clear hc
              try clear k1
              try clear lR1
              try clear b1
              try clear hc256
              have t3 : ¬ 55296 ≤ V2 := by omega
              have t3b : decide (55296 ≤ (V2 : Int)) = false := by simp; omega
              · go_wp2
                go_roundg g'
                case measure => omega
                case rel => exact ⟨rfl, p + 2, by push_cast; rfl, by omega, by show _ = _; rw [HN.out, ← HL.out, List.drop_drop], by omega⟩
            · have HF : Hid (ANS = false) := HOK.out.2 (fun h => hok h.2)
              have HNO := Lib.hid hok
              clear hok HOK
              have t1 : V2 < 128 := by have h := HNO.out; unfold T.Ok at h; omega
              go_wp2
              go_ret
              rw [HF.out]
              exact ⟨rfl, rfl⟩
    have hc7 : 224 ≤ L.getD 0 0 := by omega
    by_cases hc3 : L.getD 0 0 < 240
    · as_aux_lemma =>
        have hc2 := hc3
        have hc := hc7
        have hq := T.q3 hne hc hc2
        rw [HX.out] at hq
        have HQ := Lib.hid hq
        have em := andI15 ⟨L.getD 0 0, hc256⟩
        simp only at em
        obtain ⟨V1, hV1⟩ : ∃ V, L.getD 0 0 % 16 = V := ⟨_, rfl⟩
        have b1 : V1 < 16 := by rw [← hV1]; omega
        rw [hV1] at em
        have HV1 := Lib.hid hV1
        obtain ⟨y, hy⟩ : ∃ v, L.getD 1 0 = v := ⟨_, rfl⟩
        have Hy := Lib.hid hy
        have ly : y < 256 := by rw [← hy]; exact hlt 1
        have a1 := and192 ⟨y, ly⟩
        have g1 := and63 ⟨y, ly⟩
        simp only at a1 g1
        obtain ⟨M1, hM1⟩ : ∃ M, y / 64 * 64 = M := ⟨_, rfl⟩
        obtain ⟨R1, hR1⟩ : ∃ R, y % 64 = R := ⟨_, rfl⟩
        have lR1 : R1 < 64 := by rw [← hR1]; omega
        have HC1 : Hid (T.Co y ↔ M1 = 128) := by rw [← hM1]; exact T.co_div y ly
        rw [hM1] at a1
        rw [hR1] at g1
        have HR1 := Lib.hid hR1
        obtain ⟨V2, hV2⟩ : ∃ V, V1 * 64 + R1 = V := ⟨_, rfl⟩
        have b2 : V2 < 2048 := by omega
        have o1 := orI V1 R1 (by omega) lR1
        rw [hV2] at o1
        have HV2 := Lib.hid hV2
        clear hy hM1 hR1 hV2
        obtain ⟨z, hz⟩ : ∃ v, L.getD 2 0 = v := ⟨_, rfl⟩
        have Hz := Lib.hid hz
        have lz : z < 256 := by rw [← hz]; exact hlt 2
        have a2 := and192 ⟨z, lz⟩
        have g2 := and63 ⟨z, lz⟩
        simp only at a2 g2
        obtain ⟨M2, hM2⟩ : ∃ M, z / 64 * 64 = M := ⟨_, rfl⟩
        obtain ⟨R2, hR2⟩ : ∃ R, z % 64 = R := ⟨_, rfl⟩
        have lR2 : R2 < 64 := by rw [← hR2]; omega
        have HC2 : Hid (T.Co z ↔ M2 = 128) := by rw [← hM2]; exact T.co_div z lz
        rw [hM2] at a2
        rw [hR2] at g2
        have HR2 := Lib.hid hR2
        obtain ⟨V3, hV3⟩ : ∃ V, V2 * 64 + R2 = V := ⟨_, rfl⟩
        have b3 : V3 < 131072 := by omega
        have o2 := orI V2 R2 (by omega) lR2
        rw [hV3] at o2
        have HV3 := Lib.hid hV3
        clear hz hM2 hR2 hV3
        clear hV1
        have HOK : Hid ((T.Co y ∧ T.Co z ∧ T.Ok 2048 V3 → ANS = T.tx (L.drop 3)) ∧ (¬ (T.Co y ∧ T.Co z ∧ T.Ok 2048 V3) → ANS = false)) := by
          have h := HQ.out
          rw [Hy.out, Hz.out, HV1.out, HR1.out, HV2.out, HR2.out, HV3.out] at h
          exact h
        generalize L.getD 0 0 = c at *
        clear hq HQ HV1 HR1 HV2 HR2 HV3
        by_cases hend : l.length < p + 3
        · have HF : Hid (ANS = false) := by
            refine HOK.out.2 ?_
            have h0 : z = 0 := by rw [← Hz.out]; exact T.getD_out (by rw [HLn.out]; omega)
            subst h0
            unfold T.Co
            omega
          clear HOK HX
          go_wp2
          go_ret
          rw [HF.out]
          exact ⟨rfl, rfl⟩
        have k1 : wr.cell? ⟨b, o + (p + 1), none⟩ = some (.int .u8 (y : Nat)) := by
          obtain ⟨b', o', e', h'⟩ := Hr.out.cell (j := p + 1) (by omega)
          cases e'
          rw [← T.getD_drop, HL.out, Hy.out] at h'
          exact h'
        have k2 : wr.cell? ⟨b, o + (p + 2), none⟩ = some (.int .u8 (z : Nat)) := by
          obtain ⟨b', o', e', h'⟩ := Hr.out.cell (j := p + 2) (by omega)
          cases e'
          rw [← T.getD_drop, HL.out, Hz.out] at h'
          exact h'
        go_wp2
        go_loopg [6, 7] (3) (fun gi cv kv wx => wx = wr ∧ (((kv = .int .i64 1 ∧ cv = .int .i64 V1) ∧ 3 - 1 < gi) ∨ ((kv = .int .i64 2 ∧ cv = .int .i64 V2 ∧ T.Co y) ∧ 3 - 2 < gi) ∨ ((kv = .int .i64 3 ∧ cv = .int .i64 V3 ∧ T.Co y ∧ T.Co z) ∧ 3 - 3 < gi)))
        case atStart => exact ⟨rfl, Or.inl ⟨⟨rfl, rfl⟩, by omega⟩⟩
        case round =>
          obtain ⟨rfl, hst⟩ := hrel
          rcases hst with ⟨⟨rfl, rfl⟩, hgi⟩ | ⟨⟨rfl, rfl, hc1⟩, hgi⟩ | ⟨⟨rfl, rfl, hc1, hc2⟩, hgi⟩
          · skip
            obtain ⟨gj, rfl⟩ : ∃ gj, gk = gj + 1 := ⟨gk - 1, by omega⟩
            by_cases hm : M1 = 128
            · have hmb : ((M1 : Int) != 128) = false := by simp [hm]
              have hco := HC1.out.2 hm
              have HCO := Lib.hid hco
              clear hco
              go_wp2
              go_roundg gj
              case measure => omega
              case rel => exact ⟨rfl, Or.inr (Or.inl (⟨⟨rfl, rfl, HCO.out⟩, by omega⟩))⟩
            · have hmb : ((M1 : Int) != 128) = true := by simp; omega
              have HF : Hid (ANS = false) := HOK.out.2 (fun h => hm (HC1.out.1 h.1))
              go_wp2
              go_ret
              rw [HF.out]
              exact ⟨rfl, rfl⟩
          · skip
            obtain ⟨gj, rfl⟩ : ∃ gj, gk = gj + 1 := ⟨gk - 1, by omega⟩
            by_cases hm : M2 = 128
            · have hmb : ((M2 : Int) != 128) = false := by simp [hm]
              have hco := HC2.out.2 hm
              have HCO := Lib.hid hco
              clear hco
              go_wp2
              go_roundg gj
              case measure => omega
              case rel => exact ⟨rfl, Or.inr (Or.inr (⟨⟨rfl, rfl, hc1, HCO.out⟩, by omega⟩))⟩
            · have hmb : ((M2 : Int) != 128) = true := by simp; omega
              have HF : Hid (ANS = false) := HOK.out.2 (fun h => hm (HC2.out.1 h.2.1))
              go_wp2
              go_ret
              rw [HF.out]
              exact ⟨rfl, rfl⟩
          · skip
            by_cases hok : T.Ok 2048 V3
            · have HN : Hid (ANS = T.tx (L.drop 3)) := HOK.out.1 ⟨hc1, hc2, hok⟩
              have hok' := hok
              unfold T.Ok at hok'
              have t1 : ¬ ((V3 : Int) < 2048) := by omega
              have t2 : ¬ (1114111 < (V3 : Int)) := by omega
              have HK := Lib.hid hok'
              clear hok hok' HOK
              try clear a1
              try clear a2
              try clear g1
              try clear g2
              try clear o1
              try clear o2
              try clear em
              try clear HC1
              try clear HC2
              try clear hc1
              try clear hc2
              try clear hcell
              try clear hsb
              try clear hlt
              try clear hc5
              try clear hc6
              try clear hc7
              try clear hc3
              try clear hc2
              try clear hc
              try clear k1
              try clear k2
              try clear lR1
              try clear lR2
              try clear b1
              try clear b2
              try clear hc256
              by_cases t3 : 55296 ≤ V3
              · have t4 : 57343 < V3 := by have := HK.out; omega
                have t3b : decide (55296 ≤ (V3 : Int)) = true := by simp; omega
                have t4b : decide ((V3 : Int) ≤ 57343) = false := by simp; omega
                go_wp2
                go_roundg g'
                case measure => omega
                case rel => exact ⟨rfl, p + 3, by push_cast; rfl, by omega, by show _ = _; rw [HN.out, ← HL.out, List.drop_drop], by omega⟩
              · have t3b : decide (55296 ≤ (V3 : Int)) = false := by simp; omega
                go_wp2
                go_roundg g'
                case measure => omega
                case rel => exact ⟨rfl, p + 3, by push_cast; rfl, by omega, by show _ = _; rw [HN.out, ← HL.out, List.drop_drop], by omega⟩
            · have HF : Hid (ANS = false) := HOK.out.2 (fun h => hok h.2.2)
              have HNO := Lib.hid hok
              clear hok HOK
              by_cases t1 : V3 < 2048
              · go_wp2
                go_ret
                rw [HF.out]
                exact ⟨rfl, rfl⟩
              have t3 : 55296 ≤ V3 := by have h := HNO.out; unfold T.Ok at h; omega
              have t4 : V3 ≤ 57343 := by have h := HNO.out; unfold T.Ok at h; omega
              go_wp2
              go_ret
              rw [HF.out]
              exact ⟨rfl, rfl⟩
    as_aux_lemma =>
      have hc : 240 ≤ L.getD 0 0 := by omega
      have hc2 := hc6
      have hq := T.q4 hne hc hc2
      rw [HX.out] at hq
      have HQ := Lib.hid hq
      have em := andI7 ⟨L.getD 0 0, hc256⟩
      simp only at em
      obtain ⟨V1, hV1⟩ : ∃ V, L.getD 0 0 % 8 = V := ⟨_, rfl⟩
      have b1 : V1 < 8 := by rw [← hV1]; omega
      rw [hV1] at em
      have HV1 := Lib.hid hV1
      obtain ⟨y, hy⟩ : ∃ v, L.getD 1 0 = v := ⟨_, rfl⟩
      have Hy := Lib.hid hy
      have ly : y < 256 := by rw [← hy]; exact hlt 1
      have a1 := and192 ⟨y, ly⟩
      have g1 := and63 ⟨y, ly⟩
      simp only at a1 g1
      obtain ⟨M1, hM1⟩ : ∃ M, y / 64 * 64 = M := ⟨_, rfl⟩
      obtain ⟨R1, hR1⟩ : ∃ R, y % 64 = R := ⟨_, rfl⟩
      have lR1 : R1 < 64 := by rw [← hR1]; omega
      have HC1 : Hid (T.Co y ↔ M1 = 128) := by rw [← hM1]; exact T.co_div y ly
      rw [hM1] at a1
      rw [hR1] at g1
      have HR1 := Lib.hid hR1
      obtain ⟨V2, hV2⟩ : ∃ V, V1 * 64 + R1 = V := ⟨_, rfl⟩
      have b2 : V2 < 2048 := by omega
      have o1 := orI V1 R1 (by omega) lR1
      rw [hV2] at o1
      have HV2 := Lib.hid hV2
      clear hy hM1 hR1 hV2
      obtain ⟨z, hz⟩ : ∃ v, L.getD 2 0 = v := ⟨_, rfl⟩
      have Hz := Lib.hid hz
      have lz : z < 256 := by rw [← hz]; exact hlt 2
      have a2 := and192 ⟨z, lz⟩
      have g2 := and63 ⟨z, lz⟩
      simp only at a2 g2
      obtain ⟨M2, hM2⟩ : ∃ M, z / 64 * 64 = M := ⟨_, rfl⟩
      obtain ⟨R2, hR2⟩ : ∃ R, z % 64 = R := ⟨_, rfl⟩
      have lR2 : R2 < 64 := by rw [← hR2]; omega
      have HC2 : Hid (T.Co z ↔ M2 = 128) := by rw [← hM2]; exact T.co_div z lz
      rw [hM2] at a2
      rw [hR2] at g2
      have HR2 := Lib.hid hR2
      obtain ⟨V3, hV3⟩ : ∃ V, V2 * 64 + R2 = V := ⟨_, rfl⟩
      have b3 : V3 < 131072 := by omega
      have o2 := orI V2 R2 (by omega) lR2
      rw [hV3] at o2
      have HV3 := Lib.hid hV3
      clear hz hM2 hR2 hV3
      obtain ⟨u, hu⟩ : ∃ v, L.getD 3 0 = v := ⟨_, rfl⟩
      have Hu := Lib.hid hu
      have lu : u < 256 := by rw [← hu]; exact hlt 3
      have a3 := and192 ⟨u, lu⟩
      have g3 := and63 ⟨u, lu⟩
      simp only at a3 g3
      obtain ⟨M3, hM3⟩ : ∃ M, u / 64 * 64 = M := ⟨_, rfl⟩
      obtain ⟨R3, hR3⟩ : ∃ R, u % 64 = R := ⟨_, rfl⟩
      have lR3 : R3 < 64 := by rw [← hR3]; omega
      have HC3 : Hid (T.Co u ↔ M3 = 128) := by rw [← hM3]; exact T.co_div u lu
      rw [hM3] at a3
      rw [hR3] at g3
      have HR3 := Lib.hid hR3
      obtain ⟨V4, hV4⟩ : ∃ V, V3 * 64 + R3 = V := ⟨_, rfl⟩
      have b4 : V4 < 8388608 := by omega
      have o3 := orI V3 R3 (by omega) lR3
      rw [hV4] at o3
      have HV4 := Lib.hid hV4
      clear hu hM3 hR3 hV4
      clear hV1
      have HOK : Hid ((T.Co y ∧ T.Co z ∧ T.Co u ∧ T.Ok 65536 V4 → ANS = T.tx (L.drop 4)) ∧ (¬ (T.Co y ∧ T.Co z ∧ T.Co u ∧ T.Ok 65536 V4) → ANS = false)) := by
        have h := HQ.out
        rw [Hy.out, Hz.out, Hu.out, HV1.out, HR1.out, HV2.out, HR2.out, HV3.out, HR3.out, HV4.out] at h
        exact h
      generalize L.getD 0 0 = c at *
      clear hq HQ HV1 HR1 HV2 HR2 HV3 HR3 HV4
      by_cases hend : l.length < p + 4
      · have HF : Hid (ANS = false) := by
          refine HOK.out.2 ?_
          have h0 : u = 0 := by rw [← Hu.out]; exact T.getD_out (by rw [HLn.out]; omega)
          subst h0
          unfold T.Co
          omega
        clear HOK HX
        go_wp2
        go_ret
        rw [HF.out]
        exact ⟨rfl, rfl⟩
      have k1 : wr.cell? ⟨b, o + (p + 1), none⟩ = some (.int .u8 (y : Nat)) := by
        obtain ⟨b', o', e', h'⟩ := Hr.out.cell (j := p + 1) (by omega)
        cases e'
        rw [← T.getD_drop, HL.out, Hy.out] at h'
        exact h'
      have k2 : wr.cell? ⟨b, o + (p + 2), none⟩ = some (.int .u8 (z : Nat)) := by
        obtain ⟨b', o', e', h'⟩ := Hr.out.cell (j := p + 2) (by omega)
        cases e'
        rw [← T.getD_drop, HL.out, Hz.out] at h'
        exact h'
      have k3 : wr.cell? ⟨b, o + (p + 3), none⟩ = some (.int .u8 (u : Nat)) := by
        obtain ⟨b', o', e', h'⟩ := Hr.out.cell (j := p + 3) (by omega)
        cases e'
        rw [← T.getD_drop, HL.out, Hu.out] at h'
        exact h'
      go_wp2
      go_loopg [6, 7] (4) (fun gi cv kv wx => wx = wr ∧ (((kv = .int .i64 1 ∧ cv = .int .i64 V1) ∧ 4 - 1 < gi) ∨ ((kv = .int .i64 2 ∧ cv = .int .i64 V2 ∧ T.Co y) ∧ 4 - 2 < gi) ∨ ((kv = .int .i64 3 ∧ cv = .int .i64 V3 ∧ T.Co y ∧ T.Co z) ∧ 4 - 3 < gi) ∨ ((kv = .int .i64 4 ∧ cv = .int .i64 V4 ∧ T.Co y ∧ T.Co z ∧ T.Co u) ∧ 4 - 4 < gi)))
      case atStart => exact ⟨rfl, Or.inl ⟨⟨rfl, rfl⟩, by omega⟩⟩
      case round =>
        obtain ⟨rfl, hst⟩ := hrel
        rcases hst with ⟨⟨rfl, rfl⟩, hgi⟩ | ⟨⟨rfl, rfl, hc1⟩, hgi⟩ | ⟨⟨rfl, rfl, hc1, hc2⟩, hgi⟩ | ⟨⟨rfl, rfl, hc1, hc2, hc3⟩, hgi⟩
        · skip
          obtain ⟨gj, rfl⟩ : ∃ gj, gk = gj + 1 := ⟨gk - 1, by omega⟩
          by_cases hm : M1 = 128
          · have hmb : ((M1 : Int) != 128) = false := by simp [hm]
            have hco := HC1.out.2 hm
            have HCO := Lib.hid hco
            clear hco
            go_wp2
            go_roundg gj
            case measure => omega
            case rel => exact ⟨rfl, Or.inr (Or.inl (⟨⟨rfl, rfl, HCO.out⟩, by omega⟩))⟩
          · have hmb : ((M1 : Int) != 128) = true := by simp; omega
            have HF : Hid (ANS = false) := HOK.out.2 (fun h => hm (HC1.out.1 h.1))
            go_wp2
            go_ret
            rw [HF.out]
            exact ⟨rfl, rfl⟩
        · skip
          obtain ⟨gj, rfl⟩ : ∃ gj, gk = gj + 1 := ⟨gk - 1, by omega⟩
          by_cases hm : M2 = 128
          · have hmb : ((M2 : Int) != 128) = false := by simp [hm]
            have hco := HC2.out.2 hm
            have HCO := Lib.hid hco
            clear hco
            go_wp2
            go_roundg gj
            case measure => omega
            case rel => exact ⟨rfl, Or.inr (Or.inr (Or.inl (⟨⟨rfl, rfl, hc1, HCO.out⟩, by omega⟩)))⟩
          · have hmb : ((M2 : Int) != 128) = true := by simp; omega
            have HF : Hid (ANS = false) := HOK.out.2 (fun h => hm (HC2.out.1 h.2.1))
            go_wp2
            go_ret
            rw [HF.out]
            exact ⟨rfl, rfl⟩
        · skip
          obtain ⟨gj, rfl⟩ : ∃ gj, gk = gj + 1 := ⟨gk - 1, by omega⟩
          by_cases hm : M3 = 128
          · have hmb : ((M3 : Int) != 128) = false := by simp [hm]
            have hco := HC3.out.2 hm
            have HCO := Lib.hid hco
            clear hco
            go_wp2
            go_roundg gj
            case measure => omega
            case rel => exact ⟨rfl, Or.inr (Or.inr (Or.inr (⟨⟨rfl, rfl, hc1, hc2, HCO.out⟩, by omega⟩)))⟩
          · have hmb : ((M3 : Int) != 128) = true := by simp; omega
            have HF : Hid (ANS = false) := HOK.out.2 (fun h => hm (HC3.out.1 h.2.2.1))
            go_wp2
            go_ret
            rw [HF.out]
            exact ⟨rfl, rfl⟩
        · skip
          by_cases hok : T.Ok 65536 V4
          · have HN : Hid (ANS = T.tx (L.drop 4)) := HOK.out.1 ⟨hc1, hc2, hc3, hok⟩
            have hok' := hok
            unfold T.Ok at hok'
            have t1 : ¬ ((V4 : Int) < 65536) := by omega
            have t2 : ¬ (1114111 < (V4 : Int)) := by omega
            have HK := Lib.hid hok'
            clear hok hok' HOK
            try clear a1
            try clear a2
            try clear a3
            try clear g1
            try clear g2
            try clear g3
            try clear o1
            try clear o2
            try clear o3
            try clear em
            try clear HC1
            try clear HC2
            try clear HC3
            try clear hc1
            try clear hc2
            try clear hc3
            try clear hcell
            try clear hsb
            try clear hlt
            try clear hc5
            try clear hc6
            try clear hc7
            try clear hc3
            try clear hc2
            try clear hc
            try clear k1
            try clear k2
            try clear k3
            try clear lR1
            try clear lR2
            try clear lR3
            try clear b1
            try clear b2
            try clear b3
            try clear hc256
            by_cases t3 : 55296 ≤ V4
            · have t4 : 57343 < V4 := by have := HK.out; omega
              have t3b : decide (55296 ≤ (V4 : Int)) = true := by simp; omega
              have t4b : decide ((V4 : Int) ≤ 57343) = false := by simp; omega
              go_wp2
              go_roundg g'
              case measure => omega
              case rel => exact ⟨rfl, p + 4, by push_cast; rfl, by omega, by show _ = _; rw [HN.out, ← HL.out, List.drop_drop], by omega⟩
            · have t3b : decide (55296 ≤ (V4 : Int)) = false := by simp; omega
              go_wp2
              go_roundg g'
              case measure => omega
              case rel => exact ⟨rfl, p + 4, by push_cast; rfl, by omega, by show _ = _; rw [HN.out, ← HL.out, List.drop_drop], by omega⟩
          · have HF : Hid (ANS = false) := HOK.out.2 (fun h => hok h.2.2.2)
            have HNO := Lib.hid hok
            clear hok HOK
            by_cases t1 : V4 < 65536
            · go_wp2
              go_ret
              rw [HF.out]
              exact ⟨rfl, rfl⟩
            by_cases t2 : 1114111 < V4
            · go_wp2
              go_ret
              rw [HF.out]
              exact ⟨rfl, rfl⟩
            have t3 : 55296 ≤ V4 := by have h := HNO.out; unfold T.Ok at h; omega
            have t4 : V4 ≤ 57343 := by have h := HNO.out; unfold T.Ok at h; omega
            exfalso
            omega
end Go.Proofs.YtnejachdacakcaaDoor
