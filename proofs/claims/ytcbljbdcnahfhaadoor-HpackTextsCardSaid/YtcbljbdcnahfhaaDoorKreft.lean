/-
The walk of the reference's Text.
-/
import Derived.Test.YtcbljbdcnahfhaaDoorMkf
import Derived.Test.YtcbljbdcnahfhaaDoorMhr
import Derived.Test.YtcbljbdcnahfhaaDoorMga
import Derived.Test.YtcbljbdcnahfhaaDoorMka
namespace Go.Proofs.YtcbljbdcnahfhaaDoor
open Go.RowKit

/-- What the reference's Text hands back. -/
def getTR (r : List Nat × Nat × Option Nat) : Value := .tuple #[.string (strOf r.1), .int .i64 (r.2.1 : Nat), .int .i64 (codeR r.2.2)]

set_option maxRecDepth 100000 in
set_option maxHeartbeats 1000000 in
theorem refText_any {B : Nat} (a : Option Addr) (len cap : Nat) (l : List Nat) (w : World) (hl : l.length = len) (hcap : len ≤ cap) (hlen : len ≤ 1000000000) (hr : Rd B w a l) :
    Calls Tryd.prog 21 #[.slice a len cap] w fun e w' => e = .returned (getTR (P.getT l)) ∧ Below w.heap.size w w' := by
  have HI := Lib.hid (refInt_b 7 a len cap l w (by omega) (by omega) hl (by omega) hr)
  have hes : strOf [] = ⟨#[]⟩ := rfl
  have Hes := Lib.hid hes
  clear hes
  by_cases hl0 : len = 0
  · have HT : Hid (P.getT l = ([], 0, some 0)) := by
      have : l = [] := List.length_eq_zero_iff.1 (by omega)
      subst this
      rfl
    have q : ((len : Int) == 0) = true := by simp; omega
    clear HI hr
    subst hl0
    go_enter Tryd.func21, Tryd.ntmps21
    go_wp2
    go_ret3
    refine ⟨?_, Below.refl _ _⟩
    rw [HT.out]
    unfold getTR
    rw [Hes.out]
    rfl
  have hl0' : ((len : Int) == 0) = false := by simp; omega
  obtain ⟨n, k, e, hg⟩ : ∃ n k e, P.get 7 l = (n, k, e) := ⟨_, _, _, rfl⟩
  have hok := P.get_ok (b := 7) (l := l) (by omega)
  have herr := P.get_err (b := 7) (l := l)
  rw [hg] at hok herr HI
  simp only [getR] at HI
  cases e with
  | some i =>
    have HT : Hid (P.getT l = ([], 0, some i)) := by
      show _ = _
      unfold P.getT
      rw [hg]
    obtain ⟨e1, e2, e3⟩ := herr (by simp)
    simp only at e1 e2 e3
    subst e1
    subst e2
    clear hok herr hg hr
    unfold codeR at HI
    have hc : ((101 + (i : Int)) == 0) = false := by simp; omega
    go_enter Tryd.func21, Tryd.ntmps21
    go_wp2_with fail
    refine (show Calls _ _ #[_, .int .i64 7] _ _ from HI.out).mono ?_
    rintro e w1 ⟨rfl, rfl⟩
    go_wp2
    go_ret3
    refine ⟨?_, Below.refl _ _⟩
    rw [HT.out]
    unfold getTR
    rw [Hes.out]
    rfl
  | none =>
    obtain ⟨k1, k2, k3⟩ := hok rfl
    simp only at k1 k2 k3
    rw [hl] at k2
    unfold codeR at HI
    have HT : Hid (P.getT l = if 16384 < n then ([], 0, some 1) else if len - k < n then ([], 0, some 0) else if l.headD 0 < 128 then ((l.drop k).take n, k + n, none) else match H.decB ((l.drop k).take n) with
      | none => ([], 0, some 6)
      | some t => (t, k + n, none)) := by
      show _ = _
      unfold P.getT
      rw [hg, hl]
      rfl
    clear herr hg
    by_cases hbig : 16384 < n
    · rw [if_pos hbig] at HT
      have q1 : (16384 : Int) < (n : Int) := by omega
      clear hr
      go_enter Tryd.func21, Tryd.ntmps21
      go_wp2_with fail
      refine (show Calls _ _ #[_, .int .i64 7] _ _ from HI.out).mono ?_
      rintro e w1 ⟨rfl, rfl⟩
      go_wp2
      go_ret3
      refine ⟨?_, Below.refl _ _⟩
      rw [HT.out]
      unfold getTR
      rw [Hes.out]
      rfl
    rw [if_neg hbig] at HT
    have q1 : ¬ (16384 : Int) < (n : Int) := by omega
    by_cases hend : len - k < n
    · rw [if_pos hend] at HT
      have q2 : (len : Int) - (k : Int) < (n : Int) := by omega
      clear hr
      go_enter Tryd.func21, Tryd.ntmps21
      go_wp2_with fail
      refine (show Calls _ _ #[_, .int .i64 7] _ _ from HI.out).mono ?_
      rintro e w1 ⟨rfl, rfl⟩
      go_wp2
      go_ret3
      refine ⟨?_, Below.refl _ _⟩
      rw [HT.out]
      unfold getTR
      rw [Hes.out]
      rfl
    rw [if_neg hend] at HT
    have q2 : ¬ (len : Int) - (k : Int) < (n : Int) := by omega
    have hne : l ≠ [] := by
      intro h
      rw [h] at hl
      simp at hl
      omega
    have hR : Hid (Rd B w (cutA a cap k) ((l.drop k).take n)) := (hr.drop (by rw [hl]; exact hcap)).take n
    obtain ⟨bb, o, rfl, hbB, hcell⟩ := hr.ptr hne
    have hc0 := hcell 0 (List.length_pos_iff.2 hne)
    have hhd : l.headD 0 = l.getD 0 0 := by cases l <;> rfl
    rw [hhd] at HT
    have hc8 := hr.lt 0
    rw [Nat.add_zero] at hc0
    generalize l.getD 0 0 = c at *
    have q3 : 0 < len := by omega
    have hmid := run_mid (some ⟨bb, o, none⟩) len cap k n k (k + n) rfl rfl (by omega)
    have hl3 : ((l.drop k).take n).length = n := by rw [List.length_take, List.length_drop, hl]; omega
    generalize cutA (some ⟨bb, o, none⟩) cap k = a3 at *
    generalize (l.drop k).take n = R3 at *
    have Hl3 := Lib.hid hl3
    clear hr hne hcell hhd hl3 hl
    by_cases hc : c < 128
    · rw [if_pos hc] at HT
      have q4 : (c : Int) < 128 := by omega
      have hst : (convert 22 9 (.slice a3 n (cap - k))).run Tryd.prog w = .ok (.string (strOf R3)) w := by
        have := run_str a3 (cap - k) R3 w hR.out
        rw [Hl3.out] at this
        exact this
      go_enter Tryd.func21, Tryd.ntmps21
      go_wp2_with fail
      refine (show Calls _ _ #[_, .int .i64 7] _ _ from HI.out).mono ?_
      rintro e w1 ⟨rfl, rfl⟩
      go_wp2
      go_ret3
      refine ⟨?_, Below.refl _ _⟩
      rw [HT.out]
      unfold getTR
      simp only [Int.natCast_add]
      rfl
    · rw [if_neg hc] at HT
      have q4 : ¬ (c : Int) < 128 := by omega
      have HD := Lib.hid (rDecode_any a3 n (cap - k) R3 w Hl3.out (by omega) hR.out)
      unfold RDecOut at HD
      cases hdec : H.decB R3 with
      | none =>
        rw [hdec] at HT HD
        go_enter Tryd.func21, Tryd.ntmps21
        go_wp2_with fail
        refine (show Calls _ _ #[_, .int .i64 7] _ _ from HI.out).mono ?_
        rintro e w1 ⟨rfl, rfl⟩
        go_wp2_with fail
        refine HD.out.mono ?_
        rintro e w2 ⟨hb2, rfl⟩
        have HB2 := Lib.hid hb2
        clear hb2
        go_wp2
        go_ret3
        refine ⟨?_, HB2.out⟩
        rw [HT.out]
        unfold getTR
        rw [Hes.out]
        rfl
      | some t =>
        rw [hdec] at HT HD
        go_enter Tryd.func21, Tryd.ntmps21
        go_wp2_with fail
        refine (show Calls _ _ #[_, .int .i64 7] _ _ from HI.out).mono ?_
        rintro e w1 ⟨rfl, rfl⟩
        go_wp2_with fail
        refine HD.out.mono ?_
        rintro e w2 ⟨hb2, rfl⟩
        have HB2 := Lib.hid hb2
        clear hb2
        go_wp2
        go_ret3
        refine ⟨?_, HB2.out⟩
        rw [HT.out]
        unfold getTR
        simp only [Int.natCast_add]
        rfl
end Go.Proofs.YtcbljbdcnahfhaaDoor
