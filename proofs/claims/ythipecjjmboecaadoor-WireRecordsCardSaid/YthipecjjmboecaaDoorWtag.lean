/-
The walks of wire.Untag, wire.Tag, wire.Zig and wire.readTag.
-/
import Derived.Test.YthipecjjmboecaaDoorWuv
namespace Go.Proofs.YthipecjjmboecaaDoor
open Go.RowKit

theorem and7 (u : Nat) (h : u < 18446744073709551616) : bits .and .u64 (u : Int) 7 = ((u % 8 : Nat) : Int) := by
  have h : bits .and .u64 (u : Int) 7 = (u : Int) % 8 := bits_mask .u64 64 (by decide) (fun n h0 h1 => by rw [IntKind.wrap_u64]; omega) 3 (by decide) u (by omega) (by omega)
  rw [h]; simp

/-- what Untag hands back -/
def untagV (E : Nat → Addr) (r : Nat × Nat × Nat) : Value := .tuple #[.int .i64 (r.1 : Nat), .int .i64 (r.2.1 : Nat), er E r.2.2]

theorem untag_any (u : Nat) (E : Nat → Addr) (w : World) (hu : Hid (u < 18446744073709551616)) (hE : Errs w E) :
    Calls Tryd.prog 80 #[.int .u64 u] w fun e w' => e = .returned (untagV E (W.untag u)) ∧ ∃ q, w' = w.drewN q := by
  have h0 := hE.tag
  generalize hE0 : E 3 = E0 at h0
  have HE0 := Lib.hid hE0
  clear hE hE0
  have ha := and7 u hu.out
  by_cases hf : u / 8 < 1 ∨ 536870911 < u / 8 ∨ 5 < u % 8
  · have HF := Lib.hid hf
    have hd : (decide ((u : Int) / 8 < 1) || decide (536870911 < (u : Int) / 8) || decide (5 < (u : Int) % 8)) = true := by
      simp only [Bool.or_eq_true, decide_eq_true_eq]; omega
    clear hf
    go_enter Tryd.func80, Tryd.ntmps80
    go_wp2
    all_goals
      first
      | (exfalso; have := HF.out; omega)
      | (go_quiet (fail)
         go_wp2
         go_ret3
         refine ⟨?_, _, rfl⟩
         unfold W.untag
         rw [if_pos HF.out, ← HE0.out]
         rfl)
  · have HF := Lib.hid hf
    go_enter Tryd.func80, Tryd.ntmps80
    go_wp2
    go_ret3
    refine ⟨?_, 0, rfl⟩
    unfold W.untag
    rw [if_neg HF.out]
    simp [untagV, er]

/-- what readTag hands back -/
def tgV (E : Nat → Addr) (r : Nat × Nat × Nat × Nat) : Value := .tuple #[.int .i64 (r.1 : Nat), .int .i64 (r.2.1 : Nat), .int .i64 (r.2.2.1 : Nat), er E r.2.2.2]

set_option maxRecDepth 100000 in
theorem tg_any {B : Nat} (a : Option Addr) (cap : Nat) (l : List Nat) (E : Nat → Addr) (w : World) (hn : l.length ≤ 9223372036854775807) (hr : Rd B w a l) (hE : Errs w E) :
    Calls Tryd.prog 69 #[.slice a l.length cap] w fun e w' => e = .returned (tgV E (W.tg l)) ∧ ∃ q, w' = w.drewN q := by
  obtain ⟨u, n, k, hx⟩ : ∃ u n k, W.uvA l = (u, n, k) := ⟨_, _, _, rfl⟩
  have hu := W.uvA_lt l
  have HU := Lib.hid hu
  have HX := Lib.hid hx
  clear hu hx
  have Hr := Lib.hid hr
  have HE := Lib.hid hE
  clear hr hE
  go_enter Tryd.func69, Tryd.ntmps69
  go_wp2_with fail
  refine (uv_any a cap l E w hn Hr.out HE.out).mono ?_
  rintro e w1 ⟨rfl, q, rfl⟩
  rw [HX.out]
  unfold uvV
  cases k with
  | succ k =>
    have HT : Hid (W.tg l = (0, 0, 0, k + 1)) := by
      show W.tg l = _
      unfold W.tg
      rw [HX.out, if_pos (by simp)]
    have HZ : Hid (u = 0 ∧ n = 0) := by
      have h := W.uvA_err (l := l) (k := k) (by rw [HX.out])
      rw [HX.out] at h
      cases h; exact ⟨rfl, rfl⟩
    obtain ⟨rfl, rfl⟩ := HZ.out
    unfold er
    go_wp2
    refine bodyPost_ret (v := tgV E (0, 0, 0, k + 1)) (by simp [results, Tryd.results69, go_sem, tgV, er]) rfl ⟨?_, _, rfl⟩
    rw [HT.out]
  | zero =>
    unfold er
    obtain ⟨f, d, k, ht⟩ : ∃ f d k, W.untag u = (f, d, k) := ⟨_, _, _, rfl⟩
    have HT := Lib.hid ht
    clear ht
    go_wp2_with fail
    refine (untag_any u E _ (by have := HU.out; rw [HX.out] at this; exact this) (HE.out.drewN q)).mono ?_
    rintro e w2 ⟨rfl, q2, rfl⟩
    rw [HT.out]
    unfold untagV
    have hG : W.tg l = if k ≠ 0 then (0, 0, 0, k) else (f, d, n, 0) := by
      unfold W.tg
      rw [HX.out]
      simp only [ne_eq, not_true_eq_false, if_false, HT.out]
    have HG := Lib.hid hG
    clear hG
    cases k with
    | succ k =>
      unfold er
      go_wp2
      refine bodyPost_ret (v := tgV E (0, 0, 0, k + 1)) (by simp [results, Tryd.results69, go_sem, tgV, er]) rfl ⟨?_, _, rfl⟩
      rw [HG.out]
      rfl
    | zero =>
      unfold er
      go_wp2
      refine bodyPost_ret (v := tgV E (f, d, n, 0)) (by simp [results, Tryd.results69, go_sem, tgV, er]) rfl ⟨?_, _, rfl⟩
      rw [HG.out]
      rfl
end Go.Proofs.YthipecjjmboecaaDoor
