/-
The walks of wire.readEnd, readVarint, Unfixed, fixedReader's closure and readBytes.
-/
import Derived.Test.YthipecjjmboecaaDoorWtag
namespace Go.Proofs.YthipecjjmboecaaDoor
open Go.RowKit

/-- What a reader of bodies hands back: number, bytes, size, error; the bytes lie in old memory. -/
def BodyPost (B : Nat) (E : Nat → Addr) (capM : Nat) (r : Nat × List Nat × Nat × Nat) (w : World) (e : Ending) (w' : World) : Prop :=
  ∃ a' cap', e = .returned (.tuple #[.agg #[.int .u64 (r.1 : Nat), .slice a' r.2.1.length cap', .int .i64 (r.2.2.1 : Nat)], er E r.2.2.2]) ∧ Rd B w' a' r.2.1 ∧ r.2.1.length ≤ cap' ∧ cap' ≤ capM ∧ Below w.heap.size w w'

theorem readEnd_any {B : Nat} (a : Option Addr) (n cap : Nat) (x y : Int) (E : Nat → Addr) (w : World) (hE : Errs w E) :
    Calls Tryd.prog 68 #[.slice a n cap, .int .i64 x, .int .i64 y] w (BodyPost B E cap (0, [], 0, 5 + 1) w) := by
  have h0 := hE.group
  generalize hE0 : E 5 = E0 at h0
  have HE0 := Lib.hid hE0
  clear hE hE0
  have hs := World.block_lt_of_cell? w _ h0
  simp only at hs
  go_enter Tryd.func68, Tryd.ntmps68
  go_wp2
  go_region
  go_wp2
  refine bodyPost_ret (v := .tuple #[.agg #[.int .u64 0, .slice none 0 0, .int .i64 0], .iface 124 (.pointer (some E0))]) (by simp [results, Tryd.results68, go_sem]) rfl ?_
  refine ⟨none, 0, ?_, Rd.nil _ _ _, Nat.le_refl _, Nat.zero_le _, ((Below.refl _ _).alloc (Nat.le_refl _) _).drew⟩
  rw [← HE0.out]
  rfl

set_option maxRecDepth 100000 in
theorem readVarint_any {B : Nat} (a : Option Addr) (cap : Nat) (l : List Nat) (x y : Int) (E : Nat → Addr) (w : World) (hn : l.length ≤ 9223372036854775807) (hr : Rd B w a l) (hE : Errs w E) :
    Calls Tryd.prog 63 #[.slice a l.length cap, .int .i64 x, .int .i64 y] w (BodyPost B E cap ((W.uvA l).1, [], (W.uvA l).2.1, (W.uvA l).2.2) w) := by
  obtain ⟨u, n, k, hx⟩ : ∃ u n k, W.uvA l = (u, n, k) := ⟨_, _, _, rfl⟩
  have HX := Lib.hid hx
  clear hx
  have Hr := Lib.hid hr
  have HE := Lib.hid hE
  clear hr hE
  go_enter Tryd.func63, Tryd.ntmps63
  go_wp2_with fail
  refine (uv_any a cap l E _ hn (Hr.out.below ((Below.refl _ _).alloc (Nat.le_refl _) _)) (HE.out.below ((Below.refl _ _).alloc (Nat.le_refl _) _))).mono ?_
  rintro e w1 ⟨rfl, q, rfl⟩
  rw [HX.out]
  unfold uvV
  simp only
  generalize hk : er E k = ek
  have HK := Lib.hid hk
  clear hk
  go_wp2
  refine bodyPost_ret (v := .tuple #[.agg #[.int .u64 u, .slice none 0 0, .int .i64 n], ek]) (by simp [results, Tryd.results63, go_sem]) rfl ?_
  refine ⟨none, 0, ?_, Rd.nil _ _ _, Nat.le_refl _, Nat.zero_le _, by repeat (first | with_reducible exact Below.refl _ _ | with_reducible refine Below.drew ?_ | with_reducible refine below_q ?_ _ | with_reducible refine Below.setCell ?_ (by first | (simp; done) | (simp; omega)) _ | with_reducible refine Below.alloc ?_ (by first | (simp; done) | (simp; omega)) _)⟩
  rw [← HK.out, HX.out]
  rfl

theorem isFixed_yes (m : Nat) (hm : m = 4 ∨ m = 8) (w : World) : Calls Tryd.prog 81 #[.int .i64 m] w fun e w' => e = .returned (.bool true) ∧ w = w' := by
  rcases hm with rfl | rfl
  · go_enter Tryd.func81, Tryd.ntmps81
    go_wp2
    go_ret
    exact ⟨rfl, rfl⟩
  · go_enter Tryd.func81, Tryd.ntmps81
    go_wp2
    go_ret
    exact ⟨rfl, rfl⟩

set_option maxRecDepth 100000 in
theorem unfixed_any {B : Nat} (a : Option Addr) (cap : Nat) (l : List Nat) (m : Nat) (hm : m = 4 ∨ m = 8) (E : Nat → Addr) (w : World) (_hn : l.length ≤ 9223372036854775807) (hcap : l.length ≤ cap) (hr : Rd B w a l) (hE : Errs w E) :
    Calls Tryd.prog 79 #[.slice a l.length cap, .int .i64 m] w fun e w' => e = .returned (uvV E (W.ufx m l)) ∧ ∃ q, w' = w.drewN q := by
  have h1 := hE.fin
  generalize hE1 : E 2 = E1 at h1
  have HE1 := Lib.hid hE1
  clear hE hE1
  have Hr := Lib.hid hr
  clear hr
  have Hm := Lib.hid hm
  have hm8 : m ≤ 8 := by omega
  clear hm
  by_cases hlt : l.length < m
  · have HF : Hid (W.ufx m l = (0, 0, 2 + 1)) := by
      show W.ufx m l = _
      unfold W.ufx
      rw [if_pos hlt]
    go_enter Tryd.func79, Tryd.ntmps79
    go_wp2_with fail
    refine (isFixed_yes m Hm.out w).mono ?_
    rintro e w1 ⟨rfl, rfl⟩
    go_wp2
    go_quiet (fail)
    go_wp2
    go_ret3
    refine ⟨?_, _, rfl⟩
    rw [HF.out, ← HE1.out]
    rfl
  · have HF : Hid (W.ufx m l = (W.le (l.take m), m, 0)) := by
      show W.ufx m l = _
      unfold W.ufx
      rw [if_neg hlt]
    have hrt := run_to .i64 a l.length cap m (by omega)
    have Hr2 : Hid (Rd B w (cutA a cap 0) l) := Hr.out.cut0
    clear Hr
    generalize cutA a cap 0 = a2 at hrt Hr2
    go_enter Tryd.func79, Tryd.ntmps79
    go_wp2_with fail
    refine (isFixed_yes m Hm.out w).mono ?_
    rintro e w1 ⟨rfl, rfl⟩
    go_wp2
    go_loop [7, 8, 9, 23] (fun u _ _ i => ∃ (k : Nat) (X : Nat), k ≤ m ∧ i = .int .i64 k ∧ u = .int .u64 X ∧ Hid (X = W.le (l.take k))) (fun _ _ _ i => m - (intOf i).toNat)
    case atStart => exact ⟨0, 0, by omega, rfl, rfl, rfl⟩
    case round =>
      obtain ⟨k, X, hk, rfl, rfl, HX⟩ := hrel
      by_cases hlt2 : k < m
      · obtain ⟨b, o, rfl, hcell⟩ := Hr2.out.cell (j := k) (by omega)
        have hb := Hr2.out.lt k
        have HS : Hid (l.take (k + 1) = l.take k ++ [l.getD k 0]) := by
          show l.take (k + 1) = _
          rw [List.take_succ_eq_append_getElem (by omega), List.getD_eq_getElem?_getD, List.getElem?_eq_getElem (by omega)]; rfl
        have HL : Hid (X < 2 ^ (8 * k)) := by
          show X < _
          rw [HX.out]
          have := W.le_lt (l.take k) (fun x hx => Hr2.out.1 x (List.mem_of_mem_take hx))
          rwa [List.length_take, Nat.min_eq_left (by omega)] at this
        generalize l.getD k 0 = c at hcell hb HS
        go_wp2
        go_round
        case rel =>
          refine ⟨k + 1, X + c * 2 ^ (8 * k), by omega, by go_num, ?_, ?_⟩
          · rw [or_step8 X k c (by omega) HL.out hb]
          · show _ = _
            rw [HS.out, W.le_snoc, ← HX.out, List.length_take, Nat.min_eq_left (by omega)]
        case measure => simp [intOf]; omega
      · obtain rfl : k = m := by omega
        go_wp2
        go_ret3
        refine ⟨?_, 0, rfl⟩
        rw [HF.out, HX.out]
        rfl

set_option maxRecDepth 100000 in
theorem readFixed_any {B : Nat} (p : Addr) (a : Option Addr) (cap : Nat) (l : List Nat) (m : Nat) (hm : m = 4 ∨ m = 8) (x y : Int) (E : Nat → Addr) (w : World) (hn : l.length ≤ 9223372036854775807) (hcap : l.length ≤ cap) (hr : Rd B w a l) (hE : Errs w E)
    (hp : w.cell? p = some (.int .i64 m)) :
    Calls Tryd.prog 78 #[.slice a l.length cap, .int .i64 x, .int .i64 y, .pointer (some p)] w (BodyPost B E cap ((W.ufx m l).1, [], (W.ufx m l).2.1, (W.ufx m l).2.2) w) := by
  obtain ⟨u, n, k, hx⟩ : ∃ u n k, W.ufx m l = (u, n, k) := ⟨_, _, _, rfl⟩
  have HX := Lib.hid hx
  clear hx
  have Hr := Lib.hid hr
  have HE := Lib.hid hE
  have Hm := Lib.hid hm
  clear hr hE hm
  have hps := World.block_lt_of_cell? w _ hp
  go_enter Tryd.func78, Tryd.ntmps78
  go_wp2_with fail
  refine (unfixed_any a cap l m Hm.out E _ hn hcap (Hr.out.below ((Below.refl _ _).alloc (Nat.le_refl _) _)) (HE.out.below ((Below.refl _ _).alloc (Nat.le_refl _) _))).mono ?_
  rintro e w1 ⟨rfl, q, rfl⟩
  rw [HX.out]
  unfold uvV
  simp only
  generalize hk : er E k = ek
  have HK := Lib.hid hk
  clear hk
  go_wp2
  refine bodyPost_ret (v := .tuple #[.agg #[.int .u64 u, .slice none 0 0, .int .i64 n], ek]) (by simp [results, Tryd.results78, go_sem]) rfl ?_
  refine ⟨none, 0, ?_, Rd.nil _ _ _, Nat.le_refl _, Nat.zero_le _, by repeat (first | with_reducible exact Below.refl _ _ | with_reducible refine Below.drew ?_ | with_reducible refine below_q ?_ _ | with_reducible refine Below.setCell ?_ (by first | (simp; done) | (simp; omega)) _ | with_reducible refine Below.alloc ?_ (by first | (simp; done) | (simp; omega)) _)⟩
  rw [← HK.out, HX.out]
  rfl

set_option maxRecDepth 100000 in
theorem readBytes_any {B : Nat} (a : Option Addr) (cap : Nat) (l : List Nat) (x y : Int) (E : Nat → Addr) (w : World) (hn : l.length ≤ 9223372036854775807) (hcap : l.length ≤ cap) (hr : Rd B w a l) (hE : Errs w E) :
    Calls Tryd.prog 65 #[.slice a l.length cap, .int .i64 x, .int .i64 y] w (BodyPost B E cap (W.rb l) w) := by
  obtain ⟨u, n, k, hx⟩ : ∃ u n k, W.uvA l = (u, n, k) := ⟨_, _, _, rfl⟩
  have hB : W.rb l = if k ≠ 0 then (0, [], 0, k) else if l.length - n < u then (0, [], 0, 2 + 1) else (0, (l.drop n).take u, n + u, 0) := by
    unfold W.rb; rw [hx]
  have hnl : k = 0 → 0 < n ∧ n ≤ l.length := fun h => by
    have := W.uvA_ok (l := l) (by rw [hx]; exact h)
    rw [hx] at this; exact this
  have HX := Lib.hid hx
  have HB := Lib.hid hB
  clear hx hB
  have h1 := hE.fin
  have hs := World.block_lt_of_cell? w _ h1
  simp only at hs
  generalize hE1 : E 2 = E1 at h1
  have HE1 := Lib.hid hE1
  have Hr := Lib.hid hr
  have HE := Lib.hid hE
  clear hr hE hE1
  go_enter Tryd.func65, Tryd.ntmps65
  go_wp2_with fail
  refine (uv_any a cap l E _ hn (Hr.out.below ((Below.refl _ _).alloc (Nat.le_refl _) _)) (HE.out.below ((Below.refl _ _).alloc (Nat.le_refl _) _))).mono ?_
  rintro e w1 ⟨rfl, q, rfl⟩
  rw [HX.out]
  unfold uvV
  simp only
  cases k with
  | succ k =>
    unfold er
    go_wp2
    refine bodyPost_ret (v := .tuple #[.agg #[.int .u64 0, .slice none 0 0, .int .i64 0], er E (k + 1)]) (by simp [results, Tryd.results65, go_sem, er]) rfl ?_
    refine ⟨none, 0, ?_, ?_⟩
    · rw [HB.out]; rfl
    · rw [HB.out]
      exact ⟨Rd.nil _ _ _, Nat.le_refl _, Nat.zero_le _, by repeat (first | with_reducible exact Below.refl _ _ | with_reducible refine Below.drew ?_ | with_reducible refine below_q ?_ _ | with_reducible refine Below.setCell ?_ (by first | (simp; done) | (simp; omega)) _ | with_reducible refine Below.alloc ?_ (by first | (simp; done) | (simp; omega)) _)⟩
  | zero =>
    have hnn := hnl rfl
    clear hnl
    have hrf := run_from a l.length cap n hnn.2
    have Hr2 : Hid (Rd B w (cutA a cap n) (l.drop n)) := Hr.out.drop hcap
    clear Hr
    generalize cutA a cap n = a2 at hrf Hr2
    have hsub : ((l.length - n : Nat) : Int) = (l.length : Int) - n := by omega
    by_cases hlt : l.length - n < u
    · have hd : Hid (W.rb l = (0, [], 0, 2 + 1)) := by
        show _ = _
        rw [HB.out, if_neg (by simp), if_pos hlt]
      unfold er
      go_wp2
      go_region
      go_wp2
      refine bodyPost_ret (v := .tuple #[.agg #[.int .u64 0, .slice none 0 0, .int .i64 0], .iface 124 (.pointer (some E1))]) (by simp [results, Tryd.results65, go_sem]) rfl ?_
      refine ⟨none, 0, ?_, ?_⟩
      · rw [hd.out, ← HE1.out]; rfl
      · rw [hd.out]
        exact ⟨Rd.nil _ _ _, Nat.le_refl _, Nat.zero_le _, by repeat (first | with_reducible exact Below.refl _ _ | with_reducible refine Below.drew ?_ | with_reducible refine below_q ?_ _ | with_reducible refine Below.setCell ?_ (by first | (simp; done) | (simp; omega)) _ | with_reducible refine Below.alloc ?_ (by first | (simp; done) | (simp; omega)) _)⟩
    · have hd : Hid (W.rb l = (0, (l.drop n).take u, n + u, 0)) := by
        show _ = _
        rw [HB.out, if_neg (by simp), if_neg hlt]
      have hrt := run_to .u64 a2 (l.length - n) (cap - n) u (by omega)
      have Hr3 : Hid (Rd B w (cutA a2 (cap - n) 0) ((l.drop n).take u)) := (Hr2.out.take u).cut0
      clear Hr2
      generalize cutA a2 (cap - n) 0 = a3 at hrt Hr3
      have hu : u ≤ 9223372036854775807 := by omega
      have hun : n + u ≤ 9223372036854775807 := by omega
      unfold er
      go_wp2
      refine bodyPost_ret (v := .tuple #[.agg #[.int .u64 0, .slice a3 u (cap - n), .int .i64 ((n + u : Nat) : Int)], .nilIface]) (by simp [results, Tryd.results65, go_sem]) rfl ?_
      refine ⟨a3, cap - n, ?_, ?_⟩
      · rw [hd.out]
        simp only [List.length_take, List.length_drop]
        rw [Nat.min_eq_left (by omega)]
        rfl
      · rw [hd.out]
        exact ⟨Hr3.out.below (by repeat (first | with_reducible exact Below.refl _ _ | with_reducible refine Below.drew ?_ | with_reducible refine below_q ?_ _ | with_reducible refine Below.setCell ?_ (by first | (simp; done) | (simp; omega)) _ | with_reducible refine Below.alloc ?_ (by first | (simp; done) | (simp; omega)) _)), by simp only [List.length_take, List.length_drop]; omega, by omega, by repeat (first | with_reducible exact Below.refl _ _ | with_reducible refine Below.drew ?_ | with_reducible refine below_q ?_ _ | with_reducible refine Below.setCell ?_ (by first | (simp; done) | (simp; omega)) _ | with_reducible refine Below.alloc ?_ (by first | (simp; done) | (simp; omega)) _)⟩
end Go.Proofs.YthipecjjmboecaaDoor
