/-
The walk of parleylaw1.WireDeep: it returns true for every number and either answer.
-/
import Derived.Test.YtmpbobfaceakmaaDoorWfirst
namespace Go.Proofs.YtmpbobfaceakmaaDoor
open Go.RowKit

def deepL (m : Nat) (f : Bool) : List Nat := List.replicate m 11 ++ (if f then [16, 5] else []) ++ List.replicate m 12

theorem deep_ok : ∀ (m : Fin 33) (f : Bool), W.chk 32 (deepL m.val f) = (0, 0) := by decide +kernel
theorem deep_no : ∀ (m : Fin 31) (f : Bool), W.chk 32 (deepL (33 + m.val) f) = (0, 7 + 1) ∧ W.nextF 32 (deepL (33 + m.val) f) = (0, 0, 0, [], 0, 7 + 1) := by decide +kernel

theorem i64_and63 (n : Int) : bits .and .i64 n 63 = n % 64 := by
  have h : (BitVec.ofInt 64 63).toNat = 2 ^ 6 - 1 := by decide
  have key : (BitVec.ofInt 64 n &&& BitVec.ofInt 64 63).toNat = (n % ((2 ^ 64 : Nat) : Int)).toNat % 2 ^ 6 := by
    rw [BitVec.toNat_and, BitVec.toNat_ofInt, h, Nat.and_two_pow_sub_one_eq_mod]
  show IntKind.i64.wrap ((BitVec.ofInt 64 n &&& BitVec.ofInt 64 63).toNat : Nat) = n % 64
  rw [key, IntKind.wrap_i64]
  omega

set_option maxRecDepth 100000 in
set_option maxHeartbeats 2000000 in
theorem deep_law (n : Int) (f : Bool) (E : Nat → Addr) (w : World) (hE : Errs w E) :
    Calls Tryd.prog 9 #[.int .i64 n, .bool f] w (TruePost w) := by
  obtain ⟨i0, hi, hz0, hz1, hz2⟩ := info_parts info5
  have HE := Lib.hid hE
  clear hE
  have ha := i64_and63 n
  obtain ⟨m, hm, hm64⟩ : ∃ m : Nat, n % 64 = (m : Int) ∧ m < 64 := ⟨(n % 64).toNat, by omega, by omega⟩
  rw [hm] at ha
  clear hm
  have hb2 : Hid (i0.bytes * 200 ≤ 281474976710656) := by show _ ≤ _; rw [hz2]; omega
  go_enter Tryd.func9, Tryd.ntmps9
  go_wp2_with fail
  refine (first_any E w HE.out).mono ?_
  rintro e w1 ⟨rfl, hb1⟩
  have HB1 := Lib.hid hb1
  have hs1 := hb1.size
  clear hb1
  go_wp2_with (at_make; refine wpList_make_own _ rfl _ _ 23 rfl w.heap.size 5 i0 (.int .u8 0) 1 Tryd.underlying23 hi hz0 hz1 .i64 .i64 _ 200 rfl rfl rfl hb2.out ?_ hs1 ?_; unfold maxLen; omega; intro w2 hown hgrow)
  have HB2 : Hid (Below w.heap.size w w2) := HB1.out.grown hgrow hs1 (fun k e => by cases e)
  have hs2 := HB2.out.size
  clear HB1 hgrow hb2
  go_loopw [6, 7] (fun x i wr => ∃ (k g cp : Nat), k ≤ m ∧ x = .slice (some ⟨g, 0, none⟩) k cp ∧ i = .int .i64 k ∧ wr.ownsRow w.heap.size 5 1 (.slice (some ⟨g, 0, none⟩) k cp) k (vals (List.replicate k 11)) ∧ Hid (Below w.heap.size w wr) ∧ w.heap.size ≤ wr.heap.size) (fun _ i _ => m - (intOf i).toNat)
  case atStart => exact ⟨0, w1.heap.size, 200, by omega, rfl, rfl, hown, HB2, hs2⟩
  case round =>
    obtain ⟨k, g, cp, hk, rfl, rfl, hownr, HBr, hsr⟩ := hrel
    by_cases hlt : k < m
    · have hone := Rd.one wr 11 5 (by omega)
      go_wp2_with (at_builtin; refine wpList_app _ rfl _ _ 23 rfl w.heap.size _ 5 i0 (.int .u8 0) Tryd.underlying23 hi hz0 hz1 hz2 rfl _ k _ rfl (hownr.alloc _) (by intro e; cases e) _ 1 1 [11] rfl rfl hone ?_ ?_ ?_; omega; (simp; omega); intro g2 cp2 w3 hown2 hgrow2)
      go_roundw
      case rel =>
        refine ⟨k + 1, g2, cp2, by omega, rfl, by go_num, ?_, ?_, ?_⟩
        · rw [List.replicate_succ', vals_append]; exact hown2
        · exact (HBr.out.alloc hsr _).grown hgrow2 (by simp; omega) (fun k e => by cases e; exact (hownr.lt g rfl).1)
        · have := hgrow2.size; simp at this; omega
      case measure => simp [intOf]; omega
    · obtain rfl : k = m := by omega
      obtain ⟨wo, rfl⟩ : ∃ wo : World, wo = wr := ⟨_, rfl⟩
      obtain ⟨L0, hL0⟩ : ∃ L0, L0 = List.replicate k 11 ++ (if f then [16, 5] else []) := ⟨_, rfl⟩
      have HL0 := Lib.hid hL0
      clear hL0
      have hone : Rd (wo.heap.size + 1) (wo.alloc (.cells #[.int .u8 16, .int .u8 5] 5)) (some ⟨wo.heap.size, 0, none⟩) [16, 5] := Rd.lit wo _ _ [16, 5] (by decide) rfl
      cases f
      · go_wp2
        have hOL : Hid (wo.ownsRow w.heap.size 5 1 (.slice (some ⟨g, 0, none⟩) (k) cp) (k) (vals L0)) := by
          show World.ownsRow _ _ _ _ _ _ _
          rw [HL0.out]
          simpa using hownr
        have hlen : Hid (L0.length = k) := by show _ = _; rw [HL0.out]; simp
        have HBs := HBr
        have hss := hsr
        go_loopw [6, 8] (fun x i wr2 => ∃ (j g4 cp4 : Nat), j ≤ k ∧ x = .slice (some ⟨g4, 0, none⟩) (k + j) cp4 ∧ i = .int .i64 j ∧ wr2.ownsRow w.heap.size 5 1 (.slice (some ⟨g4, 0, none⟩) (k + j) cp4) (k + j) (vals (L0 ++ List.replicate j 12)) ∧ Hid (Below w.heap.size w wr2) ∧ w.heap.size ≤ wr2.heap.size) (fun _ i _ => k - (intOf i).toNat)
        case atStart => exact ⟨0, g, cp, by omega, rfl, rfl, by have h := hOL.out; simpa using h, HBs, hss⟩
        case round =>
          obtain ⟨j, g4, cp4, hj, rfl, rfl, hownq, HBq, hsq⟩ := hrel
          by_cases hlt2 : j < k
          · have hone2 := Rd.one wr 12 5 (by omega)
            go_wp2_with (at_builtin; refine wpList_app _ rfl _ _ 23 rfl w.heap.size _ 5 i0 (.int .u8 0) Tryd.underlying23 hi hz0 hz1 hz2 rfl _ (k + j) _ rfl (hownq.alloc _) (by intro e; cases e) _ 1 1 [12] rfl rfl hone2 ?_ ?_ ?_; omega; (simp; omega); intro g5 cp5 w5 hown5 hgrow5)
            go_roundw
            case rel =>
              refine ⟨j + 1, g5, cp5, by omega, rfl, by go_num, ?_, ?_, ?_⟩
              · rw [List.replicate_succ', ← List.append_assoc, vals_append]; exact hown5
              · exact (HBq.out.alloc hsq _).grown hgrow5 (by simp; omega) (fun k e => by cases e; exact (hownq.lt g4 rfl).1)
              · have := hgrow5.size; simp at this; omega
            case measure => simp [intOf]; omega
          · obtain rfl : k = j := by omega
            have HD : Hid (L0 ++ List.replicate k 12 = deepL k false) := by show _ = _; rw [HL0.out]; rfl
            rw [HD.out] at hownq
            have hDL : Hid ((deepL k false).length = k + k) := by show _ = _; rw [← HD.out, List.length_append, hlen.out]; simp
            have hO : Own w.heap.size wr (.slice (some ⟨g4, 0, none⟩) (k + k) cp4) (deepL k false) := ⟨by rw [hDL.out]; exact hownq, g4, cp4, by rw [hDL.out]⟩
            obtain ⟨a6, c6, h6, hc6, hr6⟩ := hO.rd (by
              intro x hx
              unfold deepL at hx
              simp at hx
              omega)
            rw [hDL.out] at h6 hc6
            cases h6
            have HR6 := Lib.hid hr6
            clear hr6 hO hownq
            have HN : Hid (k + k ≤ 140737488355328) := by show _ ≤ _; omega
            go_wp2_with fail
            refine (check_any (B := wr.heap.size) _ (k + k) cp4 (deepL k false) E wr hDL.out hc6 (by omega) (Nat.le_refl _) HR6.out (HE.out.below HBq.out)).mono ?_
            rintro e w6 ⟨hb6, hcase⟩
            have HB6 := Lib.hid hb6
            have HT6 : Hid (Below w.heap.size w w6) := HBq.out.trans (hb6.mono hsq)
            have hs6 := HT6.out.size
            clear hb6
            by_cases hk32 : k ≤ 32
            · have hch : W.chk 32 (deepL k false) = (0, 0) := deep_ok ⟨k, by omega⟩ false
              rw [hch] at hcase
              rcases hcase with ⟨_, rfl⟩ | ⟨g, k', h, _⟩
              · clear hch
                go_wp2
                go_ret
                exact ⟨rfl, HT6.out⟩
              · simp at h
            · have hch := deep_no ⟨k - 33, by omega⟩ false
              rw [show 33 + (⟨k - 33, by omega⟩ : Fin 31).val = k from by show 33 + (k - 33) = k; omega] at hch
              rw [hch.1] at hcase
              have HX := Lib.hid hch.2
              clear hch
              rcases hcase with ⟨h, _⟩ | ⟨gg, k', _, rfl, _, _, _⟩
              · simp at h
              · go_wp2_with fail
                refine (Next_any (B := wr.heap.size) _ (k + k) cp4 (deepL k false) E w6 hDL.out hc6 HN.out HB6.out.size (HR6.out.below HB6.out) (HE.out.below HT6.out)).mono ?_
                rintro e w7 ⟨v7, he, _, hv7, hb7⟩
                subst he
                rw [HX.out] at hv7 ⊢
                simp only at hv7 ⊢
                have hv7 : v7 = .slice none 0 0 := hv7 (by simp)
                subst hv7
                have HT7 : Hid (Below w.heap.size w w7) := HT6.out.trans (hb7.mono hs6)
                have hs7 := HT7.out.size
                clear hb7
                unfold er
                go_wp2
                go_ret
                exact ⟨rfl, HT7.out.alloc hs7 _⟩
      · go_wp2_with (at_builtin; refine wpList_app _ rfl _ _ 23 rfl w.heap.size _ 5 i0 (.int .u8 0) Tryd.underlying23 hi hz0 hz1 hz2 rfl _ k _ rfl (hownr.alloc _) (by intro e; cases e) _ 2 2 [16, 5] rfl rfl hone ?_ ?_ ?_; omega; (simp; omega); intro g2 cp2 w3 hown2 hgrow2)
        have hOL : Hid (w3.ownsRow w.heap.size 5 1 (.slice (some ⟨g2, 0, none⟩) (k + 2) cp2) (k + 2) (vals L0)) := by
          show World.ownsRow _ _ _ _ _ _ _
          rw [HL0.out]
          rw [if_pos (by trivial), vals_append]; exact hown2
        have hlen : Hid (L0.length = k + 2) := by show _ = _; rw [HL0.out]; simp
        have HBs : Hid (Below w.heap.size w w3) := (HBr.out.alloc hsr _).grown hgrow2 (by simp; omega) (fun k e => by cases e; exact (hownr.lt g rfl).1)
        have hss := HBs.out.size
        go_loopw [6, 8] (fun x i wr2 => ∃ (j g4 cp4 : Nat), j ≤ k ∧ x = .slice (some ⟨g4, 0, none⟩) (k + 2 + j) cp4 ∧ i = .int .i64 j ∧ wr2.ownsRow w.heap.size 5 1 (.slice (some ⟨g4, 0, none⟩) (k + 2 + j) cp4) (k + 2 + j) (vals (L0 ++ List.replicate j 12)) ∧ Hid (Below w.heap.size w wr2) ∧ w.heap.size ≤ wr2.heap.size) (fun _ i _ => k - (intOf i).toNat)
        case atStart => exact ⟨0, g2, cp2, by omega, rfl, rfl, by have h := hOL.out; simpa using h, HBs, hss⟩
        case round =>
          obtain ⟨j, g4, cp4, hj, rfl, rfl, hownq, HBq, hsq⟩ := hrel
          by_cases hlt2 : j < k
          · have hone2 := Rd.one wr 12 5 (by omega)
            go_wp2_with (at_builtin; refine wpList_app _ rfl _ _ 23 rfl w.heap.size _ 5 i0 (.int .u8 0) Tryd.underlying23 hi hz0 hz1 hz2 rfl _ (k + 2 + j) _ rfl (hownq.alloc _) (by intro e; cases e) _ 1 1 [12] rfl rfl hone2 ?_ ?_ ?_; omega; (simp; omega); intro g5 cp5 w5 hown5 hgrow5)
            go_roundw
            case rel =>
              refine ⟨j + 1, g5, cp5, by omega, rfl, by go_num, ?_, ?_, ?_⟩
              · rw [List.replicate_succ', ← List.append_assoc, vals_append]; exact hown5
              · exact (HBq.out.alloc hsq _).grown hgrow5 (by simp; omega) (fun k e => by cases e; exact (hownq.lt g4 rfl).1)
              · have := hgrow5.size; simp at this; omega
            case measure => simp [intOf]; omega
          · obtain rfl : k = j := by omega
            have HD : Hid (L0 ++ List.replicate k 12 = deepL k true) := by show _ = _; rw [HL0.out]; rfl
            rw [HD.out] at hownq
            have hDL : Hid ((deepL k true).length = k + 2 + k) := by show _ = _; rw [← HD.out, List.length_append, hlen.out]; simp
            have hO : Own w.heap.size wr (.slice (some ⟨g4, 0, none⟩) (k + 2 + k) cp4) (deepL k true) := ⟨by rw [hDL.out]; exact hownq, g4, cp4, by rw [hDL.out]⟩
            obtain ⟨a6, c6, h6, hc6, hr6⟩ := hO.rd (by
              intro x hx
              unfold deepL at hx
              simp at hx
              omega)
            rw [hDL.out] at h6 hc6
            cases h6
            have HR6 := Lib.hid hr6
            clear hr6 hO hownq
            have HN : Hid (k + 2 + k ≤ 140737488355328) := by show _ ≤ _; omega
            go_wp2_with fail
            refine (check_any (B := wr.heap.size) _ (k + 2 + k) cp4 (deepL k true) E wr hDL.out hc6 (by omega) (Nat.le_refl _) HR6.out (HE.out.below HBq.out)).mono ?_
            rintro e w6 ⟨hb6, hcase⟩
            have HB6 := Lib.hid hb6
            have HT6 : Hid (Below w.heap.size w w6) := HBq.out.trans (hb6.mono hsq)
            have hs6 := HT6.out.size
            clear hb6
            by_cases hk32 : k ≤ 32
            · have hch : W.chk 32 (deepL k true) = (0, 0) := deep_ok ⟨k, by omega⟩ true
              rw [hch] at hcase
              rcases hcase with ⟨_, rfl⟩ | ⟨g, k', h, _⟩
              · clear hch
                go_wp2
                go_ret
                exact ⟨rfl, HT6.out⟩
              · simp at h
            · have hch := deep_no ⟨k - 33, by omega⟩ true
              rw [show 33 + (⟨k - 33, by omega⟩ : Fin 31).val = k from by show 33 + (k - 33) = k; omega] at hch
              rw [hch.1] at hcase
              have HX := Lib.hid hch.2
              clear hch
              rcases hcase with ⟨h, _⟩ | ⟨gg, k', _, rfl, _, _, _⟩
              · simp at h
              · go_wp2_with fail
                refine (Next_any (B := wr.heap.size) _ (k + 2 + k) cp4 (deepL k true) E w6 hDL.out hc6 HN.out HB6.out.size (HR6.out.below HB6.out) (HE.out.below HT6.out)).mono ?_
                rintro e w7 ⟨v7, he, _, hv7, hb7⟩
                subst he
                rw [HX.out] at hv7 ⊢
                simp only at hv7 ⊢
                have hv7 : v7 = .slice none 0 0 := hv7 (by simp)
                subst hv7
                have HT7 : Hid (Below w.heap.size w w7) := HT6.out.trans (hb7.mono hs6)
                have hs7 := HT7.out.size
                clear hb7
                unfold er
                go_wp2
                go_ret
                exact ⟨rfl, HT7.out.alloc hs7 _⟩
end Go.Proofs.YtmpbobfaceakmaaDoor
