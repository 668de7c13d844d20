/-
The walk of hpack's Text.
-/
import Derived.Test.YthdgcakbeiocgaaDoorKget
import Derived.Test.YthdgcakbeiocgaaDoorKput
namespace Go.Proofs.YthdgcakbeiocgaaDoor
open Go.RowKit

/-- What Text hands back. -/
def getTV (E : Nat → Addr) (r : List Nat × Nat × Option Nat) : Value := .tuple #[.string (strOf r.1), .int .i64 (r.2.1 : Nat), oV E r.2.2]

set_option maxRecDepth 100000 in
set_option maxHeartbeats 1000000 in
theorem Text_any {B : Nat} (a : Option Addr) (len cap : Nat) (l : List Nat) (E : Nat → Addr) (w : World) (hl : l.length = len) (hcap : len ≤ cap) (hlen : len ≤ 1000000000) (hr : Rd B w a l) (hE : ErrsAll w E egs) :
    Calls Tryd.prog 20 #[.slice a len cap] w fun e w' => e = .returned (getTV E (P.getT l)) ∧ Below w.heap.size w w' := by
  have h0 : w.cell? ⟨3, 0, none⟩ = some (eV E 3) := egs_cell hE 0 (by omega)
  have h1 : w.cell? ⟨2, 0, none⟩ = some (eV E 2) := egs_cell hE 1 (by omega)
  have h6 : w.cell? ⟨4, 0, none⟩ = some (eV E 4) := egs_cell hE 6 (by omega)
  unfold eV at h0 h1 h6
  have H6 := Lib.hid h6
  have HI := Lib.hid (Int_b 7 a len cap l E w (by omega) (by omega) hl (by omega) hr hE)
  have hes : strOf [] = ⟨#[]⟩ := rfl
  have Hes := Lib.hid hes
  clear h6 hes
  obtain ⟨n, k, e, hg⟩ : ∃ n k e, P.get 7 l = (n, k, e) := ⟨_, _, _, rfl⟩
  have hok := P.get_ok (b := 7) (l := l) (by omega)
  have herr := P.get_err (b := 7) (l := l)
  rw [hg] at hok herr HI
  simp only [getV] at HI
  cases e with
  | some i =>
    have HT : Hid (P.getT l = ([], 0, some i)) := by
      show _ = _
      unfold P.getT
      rw [hg]
    obtain ⟨e1, e2, e3⟩ := herr (by simp)
    simp only at e1 e2 e3
    subst e1
    subst e2
    clear hok herr hg hr hE
    unfold oV eV at HI
    go_enter Tryd.func20, Tryd.ntmps20
    go_wp2_with fail
    refine (show Calls _ _ #[_, .int .i64 7] _ _ from HI.out).mono ?_
    rintro e w1 ⟨rfl, q, rfl⟩
    go_wp2
    go_ret3
    refine ⟨?_, below_q (Below.refl _ _) _⟩
    rw [HT.out]
    unfold getTV
    rw [Hes.out]
    rfl
  | none =>
    obtain ⟨k1, k2, k3⟩ := hok rfl
    simp only at k1 k2 k3
    rw [hl] at k2
    unfold oV at HI
    have HT : Hid (P.getT l = if 16384 < n then ([], 0, some 1) else if len - k < n then ([], 0, some 0) else if l.headD 0 < 128 then ((l.drop k).take n, k + n, none) else match H.decB ((l.drop k).take n) with
      | none => ([], 0, some 6)
      | some t => (t, k + n, none)) := by
      show _ = _
      unfold P.getT
      rw [hg, hl]
      rfl
    have hrf := run_from a len cap k k2
    have hR : Hid (Rd B w (cutA a cap k) (l.drop k)) := hr.drop (by rw [hl]; exact hcap)
    generalize cutA a cap k = a2 at hrf hR
    clear herr hg
    by_cases hbig : 16384 < n
    · rw [if_pos hbig] at HT
      have q1 : (16384 : Int) < (n : Int) := by omega
      clear hr hE
      go_enter Tryd.func20, Tryd.ntmps20
      go_wp2_with fail
      refine (show Calls _ _ #[_, .int .i64 7] _ _ from HI.out).mono ?_
      rintro e w1 ⟨rfl, q, rfl⟩
      go_wp2
      go_quiet (fail)
      go_wp2
      go_ret3
      refine ⟨?_, below_q (below_q (Below.refl _ _) _) _⟩
      rw [HT.out]
      unfold getTV
      rw [Hes.out]
      rfl
    rw [if_neg hbig] at HT
    have q1 : ¬ (16384 : Int) < (n : Int) := by omega
    by_cases hend : len - k < n
    · rw [if_pos hend] at HT
      have q2 : ((len - k : Nat) : Int) < (n : Int) := by omega
      clear hr hE
      go_enter Tryd.func20, Tryd.ntmps20
      go_wp2_with fail
      refine (show Calls _ _ #[_, .int .i64 7] _ _ from HI.out).mono ?_
      rintro e w1 ⟨rfl, q, rfl⟩
      go_wp2
      go_quiet (fail)
      go_wp2
      go_ret3
      refine ⟨?_, below_q (below_q (Below.refl _ _) _) _⟩
      rw [HT.out]
      unfold getTV
      rw [Hes.out]
      rfl
    rw [if_neg hend] at HT
    have q2 : ¬ ((len - k : Nat) : Int) < (n : Int) := by omega
    have hne : l ≠ [] := by
      intro h
      rw [h] at hl
      simp at hl
      omega
    obtain ⟨bb, o, rfl, hbB, hcell⟩ := hr.ptr hne
    have hc0 := hcell 0 (List.length_pos_iff.2 hne)
    have hhd : l.headD 0 = l.getD 0 0 := by cases l <;> rfl
    rw [hhd] at HT
    have hc8 := hr.lt 0
    rw [Nat.add_zero] at hc0
    generalize l.getD 0 0 = c at *
    have q3 : 0 < len := by omega
    have hrt := run_to .i64 a2 (len - k) (cap - k) n (by omega)
    have hR3 : Hid (Rd B w (cutA a2 (cap - k) 0) ((l.drop k).take n)) := (hR.out.take n).cut0
    have hlt3 := Nat.le_trans (List.length_take_le n (l.drop k)) (Nat.le_refl n)
    have hl3 : ((l.drop k).take n).length = n := by rw [List.length_take, List.length_drop, hl]; omega
    generalize cutA a2 (cap - k) 0 = a3 at *
    generalize (l.drop k).take n = R3 at *
    have Hl3 := Lib.hid hl3
    clear hr hE hne hcell hhd hl3 hlt3 hl
    by_cases hc : c < 128
    · rw [if_pos hc] at HT
      have q4 : (c : Int) < 128 := by omega
      have hst : ∀ q, (convert 22 9 (.slice a3 n (cap - k))).run Tryd.prog (w.drewN q) = .ok (.string (strOf R3)) (w.drewN q) := fun q => by
        have := run_str a3 (cap - k) R3 (w.drewN q) (hR3.out.drewN q)
        rw [Hl3.out] at this
        exact this
      go_enter Tryd.func20, Tryd.ntmps20
      go_wp2_with fail
      refine (show Calls _ _ #[_, .int .i64 7] _ _ from HI.out).mono ?_
      rintro e w1 ⟨rfl, q, rfl⟩
      go_wp2
      go_ret3
      refine ⟨?_, below_q (Below.refl _ _) _⟩
      rw [HT.out]
      unfold getTV
      simp only [Int.natCast_add]
      rfl
    · rw [if_neg hc] at HT
      have q4 : ¬ (c : Int) < 128 := by omega
      have HD := Lib.hid (fun q => decode_any a3 n (cap - k) R3 (E 4) (w.drewN q) Hl3.out (by omega) (hR3.out.drewN q) H6.out)
      cases hdec : H.decB R3 with
      | none =>
        rw [hdec] at HT
        go_enter Tryd.func20, Tryd.ntmps20
        go_wp2_with fail
        refine (show Calls _ _ #[_, .int .i64 7] _ _ from HI.out).mono ?_
        rintro e w1 ⟨rfl, q, rfl⟩
        go_wp2_with fail
        refine (HD.out q).mono ?_
        rintro e w2 ⟨hb2, rfl⟩
        rw [hdec]
        have HB2 := Lib.hid ((below_q (Below.refl w.heap.size w) q).trans hb2)
        clear hb2
        go_wp2
        go_ret3
        refine ⟨?_, HB2.out⟩
        rw [HT.out]
        unfold getTV
        rw [Hes.out]
        rfl
      | some t =>
        rw [hdec] at HT
        go_enter Tryd.func20, Tryd.ntmps20
        go_wp2_with fail
        refine (show Calls _ _ #[_, .int .i64 7] _ _ from HI.out).mono ?_
        rintro e w1 ⟨rfl, q, rfl⟩
        go_wp2_with fail
        refine (HD.out q).mono ?_
        rintro e w2 ⟨hb2, rfl⟩
        rw [hdec]
        have HB2 := Lib.hid ((below_q (Below.refl w.heap.size w) q).trans hb2)
        clear hb2
        go_wp2
        go_ret3
        refine ⟨?_, HB2.out⟩
        rw [HT.out]
        unfold getTV
        simp only [Int.natCast_add]
        rfl
end Go.Proofs.YthdgcakbeiocgaaDoor
