/-
The walk of the reference's Find.
-/
import Derived.Test.YtplajeboeckhhaaDoorBrtr
import Derived.Test.YtplajeboeckhhaaDoorBfind
namespace Go.Proofs.YtplajeboeckhhaaDoor
open Go.RowKit

theorem B.num_cons (i k : Nat) (l : List B.HD) (x : B.HD) (hx : l[k]? = some x) : B.num i (l.drop k) = ((i : Int), x) :: B.num (i + 1) (l.drop (k + 1)) := by
  obtain ⟨hk, e⟩ := List.getElem?_eq_some_iff.1 hx
  rw [List.drop_eq_getElem_cons hk, e]; rfl
theorem nmF_at (j : Nat) (hj : 1 ≤ j) : nmF j = (B.stL.getD (j - 1) (⟨#[]⟩, ⟨#[]⟩)).1 := by unfold nmF; rw [if_neg (by omega)]
theorem vlF_at (j : Nat) (hj : 1 ≤ j) : vlF j = (B.stL.getD (j - 1) (⟨#[]⟩, ⟨#[]⟩)).2 := by unfold vlF; rw [if_neg (by omega)]

set_option maxRecDepth 100000 in
set_option maxHeartbeats 2000000 in
theorem refFind_any (K gx M : Nat) (L : List B.HD) (nm vl : ByteArray) (w : World) (hR : Rx w K gx L.reverse M) (hL : L.length ≤ 1048576) :
    Calls Tryd.prog 29 #[.pointer (some ⟨gx, 0, none⟩), .string nm, .string vl] w fun e w' => e = .returned (.tuple #[.int .i64 (B.fnd nm.toList vl.toList 0 (B.allL L)).1, .bool (B.fnd nm.toList vl.toList 0 (B.allL L)).2]) ∧ Below w.heap.size w w' := by
  obtain ⟨ANS, hANS⟩ : ∃ ANS, ANS = B.fnd nm.toList vl.toList 0 (B.allL L) := ⟨_, rfl⟩
  rw [← hANS]
  have HA := Lib.hid hANS
  have HR := Lib.hid hR
  obtain ⟨ln, hln⟩ : ∃ ln, ln = L.length := ⟨_, rfl⟩
  have HLn := Lib.hid hln
  rw [← hln] at hL
  clear hANS hR hln
  go_enter Tryd.func29, Tryd.ntmps29
  go_wp2_with fail
  refine (names_any w).mono ?_
  rintro e w1 ⟨g1, rfl, hg1, hk1, hb1⟩
  have HB1 := Lib.hid hb1
  clear hb1
  go_wp2_with fail
  refine (values_any w1).mono ?_
  rintro e w2 ⟨g2, rfl, hg2, hk2, hb2⟩
  have HK1 := Lib.hid (hk1.below hb2)
  have HK2 := Lib.hid hk2
  have HB2 := Lib.hid (HB1.out.trans (hb2.mono HB1.out.size))
  have HR2 := Lib.hid (HR.out.below HB2.out)
  clear hk1 hk2 hb2 HB1 HR
  go_wp2
  go_loop [10, 11] (fun c i => ∃ (k : Nat) (cc : Int), (1 ≤ k ∧ k ≤ 62) ∧ i = .int .i64 k ∧ c = .int .i64 cc ∧ Hid (ANS = B.fnd nm.toList vl.toList cc (B.num k (B.stL.drop (k - 1)) ++ B.num 62 L.reverse))) (fun _ i => 62 - (intOf i).toNat)
  case atStart => exact ⟨1, 0, by omega, rfl, rfl, HA⟩
  case round =>
    obtain ⟨k, cc, ⟨hk1, hk⟩, rfl, rfl, HC⟩ := hrel
    by_cases hlt : k < 62
    · obtain ⟨x, hx⟩ : ∃ x, x = B.stL.getD (k - 1) (⟨#[]⟩, ⟨#[]⟩) := ⟨_, rfl⟩
      have hxx : B.stL[k - 1]? = some x := by
        rw [hx, List.getD_eq_getElem?_getD, List.getElem?_eq_getElem (by rw [B.stL_len]; omega)]; rfl
      have HCC : Hid (ANS = B.fnd nm.toList vl.toList cc (((k : Int), x) :: (B.num (k + 1) (B.stL.drop k) ++ B.num 62 L.reverse))) := by
        have h := HC.out
        rw [B.num_cons k (k - 1) B.stL x hxx, show k - 1 + 1 = k by omega] at h
        exact h
      have n0 := blk62 HK1.out hlt (by rw [nmF_at k hk1, ← hx])
      have v0 := blk62 HK2.out hlt (by rw [vlF_at k hk1, ← hx])
      clear hx hxx HC
      obtain ⟨xn, xv⟩ := x
      simp only at n0 v0
      have q0 : (0 : Int) ≤ (k : Int) := by omega
      have q1 : (k : Int) < 62 := by omega
      go_wp2
      · rename_i h1
        go_round
        case rel => exact ⟨k + 1, cc, by omega, by rw [Int.natCast_add]; rfl, rfl, HCC.out.trans (fnd_ne h1)⟩
        case measure => simp [intOf]; omega
      · have HE := Lib.hid (HCC.out.trans (fnd_hit (by assumption) (by assumption)))
        go_ret2
        exact ⟨by rw [HE.out]; rfl, HB2.out⟩
      · rename_i h1 h2 h3
        go_round
        case rel => exact ⟨k + 1, k, by omega, by rw [Int.natCast_add]; rfl, rfl, HCC.out.trans ((fnd_nm h1 h2).trans (by rw [if_pos (eq_of_beq h3)]; rfl))⟩
        case measure => simp [intOf]; omega
      · rename_i h1 h2 h3
        go_round
        case rel => exact ⟨k + 1, cc, by omega, by rw [Int.natCast_add]; rfl, rfl, HCC.out.trans ((fnd_nm h1 h2).trans (by rw [if_neg (fun e => by rw [e] at h3; cases h3)]; rfl))⟩
        case measure => simp [intOf]; omega
    · obtain rfl : k = 62 := by omega
      have HC2 : Hid (ANS = B.fnd nm.toList vl.toList cc (B.num 62 L.reverse)) := by
        have h := HC.out
        rw [List.drop_of_length_le (by rw [B.stL_len]; exact Nat.le_refl _)] at h
        exact h
      clear HC
      have hg := HR2.out.lt
      obtain ⟨v, ⟨c0, _⟩, _, hO, _⟩ := id HR2.out
      obtain ⟨a, cp, rfl, _, hrd⟩ := hO.form
      rw [List.length_reverse, ← HLn.out] at c0
      have HRd' := Lib.hid hrd
      clear hO hrd
      go_wp2
      go_loop [10, 12] (fun c i => ∃ (k : Nat) (cc : Int), k ≤ ln ∧ i = .int .i64 k ∧ c = .int .i64 cc ∧ Hid (ANS = B.fnd nm.toList vl.toList cc (B.num (62 + k) (L.reverse.drop k)))) (fun _ i => ln - (intOf i).toNat)
      case atStart => exact ⟨0, cc, by omega, rfl, rfl, HC2⟩
      case round =>
        clear HC2
        obtain ⟨k, cc, hk, rfl, rfl, HC⟩ := hrel
        by_cases hlt : k < ln
        · obtain ⟨x, hx⟩ : ∃ x, L.reverse[k]? = some x := ⟨_, List.getElem?_eq_getElem (by rw [List.length_reverse, ← HLn.out]; exact hlt)⟩
          obtain ⟨b, o, rfl, n0, v0, _⟩ := HRd'.out k x hx
          have HCC : Hid (ANS = B.fnd nm.toList vl.toList cc (((62 : Int) + (k : Int), x) :: B.num (62 + k + 1) (L.reverse.drop (k + 1)))) := by
            have h := HC.out
            rw [B.num_cons (62 + k) k L.reverse x hx, Int.natCast_add] at h
            exact h
          clear hx HC
          obtain ⟨xn, xv⟩ := x
          simp only at n0 v0
          have q0 : (0 : Int) ≤ (k : Int) := by omega
          have q1 : (k : Int) < (ln : Int) := by omega
          have q2 : IntKind.i64.wrap ((62 : Int) + (k : Int)) = 62 + (k : Int) := by rw [IntKind.wrap_i64]; omega
          go_wp2
          · rename_i h1
            go_round
            case rel => exact ⟨k + 1, cc, by omega, by rw [Int.natCast_add]; rfl, rfl, HCC.out.trans (fnd_ne h1)⟩
            case measure => simp [intOf]; omega
          · have HE := Lib.hid (HCC.out.trans (fnd_hit (by assumption) (by assumption)))
            go_ret2
            exact ⟨by rw [HE.out]; rfl, HB2.out⟩
          · rename_i h1 h2 h3
            go_round
            case rel => exact ⟨k + 1, 62 + (k : Int), by omega, by rw [Int.natCast_add]; rfl, rfl, HCC.out.trans ((fnd_nm h1 h2).trans (by rw [if_pos (eq_of_beq h3)]; rfl))⟩
            case measure => simp [intOf]; omega
          · rename_i h1 h2 h3
            go_round
            case rel => exact ⟨k + 1, cc, by omega, by rw [Int.natCast_add]; rfl, rfl, HCC.out.trans ((fnd_nm h1 h2).trans (by rw [if_neg (fun e => by rw [e] at h3; cases h3)]; rfl))⟩
            case measure => simp [intOf]; omega
        · obtain rfl : k = ln := by omega
          have q1 : ¬ (k : Int) < (k : Int) := by omega
          have HE : Hid (ANS = (cc, false)) := by
            have h := HC.out
            rw [List.drop_of_length_le (by rw [List.length_reverse, HLn.out]; exact Nat.le_refl _)] at h
            exact h
          go_wp2
          go_ret2
          exact ⟨by rw [HE.out]; rfl, HB2.out⟩
end Go.Proofs.YtplajeboeckhhaaDoor
