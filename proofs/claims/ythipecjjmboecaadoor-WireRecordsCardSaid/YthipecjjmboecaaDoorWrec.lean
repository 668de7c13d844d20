/-
The walk of wire.next, out of the contract of groups.
-/
import Derived.Test.YthipecjjmboecaaDoorWnext
namespace Go.Proofs.YthipecjjmboecaaDoor
open Go.RowKit

/-- What wire.next hands back. -/
def NextPost (B : Nat) (E : Nat → Addr) (capM : Nat) (r : Nat × Nat × Nat × List Nat × Nat × Nat) (w : World) (e : Ending) (w' : World) : Prop :=
  ∃ a' cap', e = .returned (.tuple #[.agg #[.int .i64 (r.1 : Nat), .int .i64 (r.2.1 : Nat), .int .u64 (r.2.2.1 : Nat), .slice a' r.2.2.2.1.length cap'], .int .i64 (r.2.2.2.2.1 : Nat), er E r.2.2.2.2.2]) ∧ Rd B w' a' r.2.2.2.1 ∧ r.2.2.2.1.length ≤ cap' ∧ cap' ≤ capM ∧ Below w.heap.size w w'

set_option maxRecDepth 100000 in
set_option maxHeartbeats 4000000 in
theorem next_any {B lv : Nat} (hG : GroupOK lv) (_hlv : lv ≤ 32) (bm : Nat) (a : Option Addr) (len cap : Nat) (l : List Nat) (d : Int) (E : Nat → Addr) (w : World) (hlen : l.length = len) (hn : len ≤ 9223372036854775807) (hcap : len ≤ cap) (hBw : B ≤ w.heap.size) (hr : Rd B w a l) (hE : Errs w E) (hB : ByAt w bm) (hd : d = 32 - lv) :
    Calls Tryd.prog 46 #[.map (some bm), .slice a len cap, .int .i64 d] w (NextPost B E cap (W.nextF lv l) w) := by
  obtain ⟨f, kd, s, k, hx⟩ : ∃ f kd s k, W.tg l = (f, kd, s, k) := ⟨_, _, _, _, rfl⟩
  obtain ⟨u, bs, sz, k2, hb2⟩ : ∃ u bs sz k2, W.bodyF lv kd (l.drop s) f = (u, bs, sz, k2) := ⟨_, _, _, _, rfl⟩
  have hst := W.nextF_step lv l f kd s k u bs sz k2 hx (fun _ => hb2)
  have htok := fun h => W.tg_ok (l := l) (show (W.tg l).2.2.2 = 0 by rw [hx]; exact h)
  rw [hx, hlen] at htok
  simp only at htok
  have hft := W.bodyF_fits lv kd (l.drop s) f
  unfold W.Fits at hft
  rw [hb2, List.length_drop, hlen] at hft
  simp only at hft
  have HX := Lib.hid hx
  have HB2 := Lib.hid hb2
  have HST := Lib.hid hst
  have Hft := Lib.hid hft
  have Hd := Lib.hid hd
  have HG := Lib.hid hG
  have Hr := Lib.hid hr
  have HE := Lib.hid hE
  have HB := Lib.hid hB
  have Hl := Lib.hid hlen
  clear hx hb2 hst hft hd hG hr hE hB hlen
  go_enter Tryd.func46, Tryd.ntmps46
  go_wp2_with fail
  refine (tg_len a len cap l E _ Hl.out hn (Hr.out.below ((Below.refl _ _).alloc (Nat.le_refl _) _)) (HE.out.below ((Below.refl _ _).alloc (Nat.le_refl _) _))).mono ?_
  rintro e w1 ⟨rfl, q, rfl⟩
  rw [HX.out]
  unfold tgV
  simp only
  cases k with
  | succ k =>
    clear htok
    have hd : Hid (W.nextF lv l = (0, 0, 0, [], 0, k + 1)) := by
      show _ = _
      rw [HST.out, if_pos (by omega)]
    unfold er
    go_wp2
    refine bodyPost_ret (v := .tuple #[.agg #[.int .i64 0, .int .i64 0, .int .u64 0, .slice none 0 0], .int .i64 0, er E (k + 1)]) (by simp [results, Tryd.results46, go_sem, er]) rfl ?_
    rw [hd.out]
    refine ⟨none, 0, rfl, Rd.nil _ _ _, Nat.le_refl _, Nat.zero_le _, ?_⟩
    repeat (first | with_reducible exact Below.refl _ _ | with_reducible refine Below.drew ?_ | with_reducible refine below_q ?_ _ | with_reducible refine Below.setCell ?_ (by first | (simp; done) | (simp; omega)) _ | with_reducible refine Below.alloc ?_ (by first | (simp; done) | (simp; omega)) _)
  | zero =>
    obtain ⟨ht1, ht2, ht3, ht4, ht5⟩ := htok rfl
    clear htok
    unfold er
    generalize hw1 : w.alloc (.cells #[.int .i64 0, .int .i64 0, .int .u64 0, .slice none 0 0] 29) = w1
    have hbw : Below w1.heap.size (w.alloc (.cells #[.int .i64 0, .int .i64 0, .int .u64 0, .slice none 0 0] 29)) w1 := by rw [hw1]; exact Below.refl _ _
    have hbw' : Below (w.alloc (.cells #[.int .i64 0, .int .i64 0, .int .u64 0, .slice none 0 0] 29)).heap.size (w.alloc (.cells #[.int .i64 0, .int .i64 0, .int .u64 0, .slice none 0 0] 29)) w1 := by rw [hw1]; exact Below.refl _ _
    obtain ⟨⟨c0, c1, c2, c3⟩, ⟨f0, f1, f2, f3⟩, hs1⟩ := cells4 hbw'
    have HBr := Lib.hid hbw'
    have HBw := Lib.hid (below_over hbw')
    clear hbw hbw' hw1
    obtain ⟨fn, cp, hcall, hok, hlk⟩ := found HG.out (HE.out.below HBw.out) (HB.out.below HBw.out) kd ht5
    have HOK := Lib.hid hok
    have hl1 := fun q => hlk (w1.drewN q) (below_q (Below.refl _ _) q)
    have hl2 := fun q => hlk ((w1.alloc (.cells #[.int .u64 0, .slice none 0 0, .int .i64 0] 108)).drewN q) (below_q ((Below.refl _ _).alloc (Nat.le_refl _) _) q)
    clear hok hlk
    have hrf := run_from a len cap s (by omega)
    have hR : Hid (Rd B w1 (cutA a cap s) (l.drop s)) := (Hr.out.below HBw.out).drop (by rw [Hl.out]; exact hcap)
    generalize cutA a cap s = a2 at hrf hR
    have hBle : B ≤ w1.heap.size := by omega
    have hC : ∀ ww, Below w1.heap.size w1 ww → Calls Tryd.prog fn (#[.slice a2 (len - s) (cap - s), .int .i64 f, .int .i64 d] ++ cp) ww (FoundPost B E (cap - s) (u, bs, sz, k2) w1 ww) := fun ww hb =>
      (HOK.out B ww a2 (len - s) (cap - s) (l.drop s) f d (u, bs, sz, k2) hb (by rw [List.length_drop, Hl.out]) (by omega) (by omega) (Nat.le_trans hBle hb.size) (hR.out.below hb) Hd.out HB2.out).mono
        (fun e w' ⟨a', cap', h1, h2, h3, h4, h5⟩ => ⟨a', cap', h1, h2, h3, h4, hb.trans (h5.mono hb.size), h5⟩)
    have HC := Lib.hid hC
    clear hC HOK hR
    have hal : ∀ (q : Nat) (o : Obj), (w1.drewN q).alloc o = (w1.alloc o).drewN q := fun _ _ => rfl
    go_wp2
    go_region_with ((with_reducible refine (HC.out _ (by repeat (first | with_reducible exact Below.refl _ _ | with_reducible refine Below.drew ?_ | with_reducible refine below_q ?_ _ | with_reducible refine Below.setCell ?_ (by first | (simp; done) | (simp; omega)) _ | with_reducible refine Below.alloc ?_ (by first | (simp; done) | (simp; omega)) _))).mono ?_); rintro e w2 ⟨a3, cap3, he, h1, h2, h3, h4, h5⟩; subst he; obtain ⟨hc2, hf2, hz2⟩ := bcell h5; simp only [World.heap_drewN, World.size_alloc] at hz2; have H4 := Lib.hid h4; have H1 := Lib.hid h1; clear h4 h5 h1)
    all_goals
      have hbase : Hid (Below (w.alloc (.cells #[.int .i64 0, .int .i64 0, .int .u64 0, .slice none 0 0] 29)).heap.size (w.alloc (.cells #[.int .i64 0, .int .i64 0, .int .u64 0, .slice none 0 0] 29)) w2) :=
        HBr.out.trans (H4.out.mono (by simp; omega))
      obtain ⟨⟨d0, d1, d2, d3⟩, ⟨e0, e1, e2, e3⟩, hs2⟩ := cells4 hbase.out
      clear hl1 hl2 hcall hrf HC
      cases k2 with
      | zero =>
        have hsz := Hft.out rfl
        unfold er
        have hd : Hid (W.nextF lv l = (f, kd, u, bs, s + sz, 0)) := by
          show _ = _
          rw [HST.out, if_neg (by omega), if_neg (by omega)]
        have hsum : s + sz ≤ 9223372036854775807 := by omega
        go_wp2
        go_region
        all_goals
          go_wp2
          refine bodyPost_ret (v := .tuple #[.agg #[.int .i64 f, .int .i64 kd, .int .u64 u, .slice a3 bs.length cap3], .int .i64 ((s + sz : Nat) : Int), er E 0]) (by simp [results, Tryd.results46, go_sem, er, d0, d1, d2, d3, hs2]) rfl ?_
          rw [hd.out]
          refine ⟨a3, cap3, rfl, ?_, h2, by omega, ?_⟩
          · refine H1.out.belowB (Below.mono (B := w.heap.size) ?_ hBw)
            have hov := Below.refl w.heap.size w2
            repeat (first | with_reducible exact hov | with_reducible refine Below.drew ?_ | with_reducible refine below_q ?_ _ | with_reducible refine Below.setCell ?_ (by first | (simp; done) | (simp; omega)) _ | with_reducible refine Below.alloc ?_ (by first | (simp; done) | (simp; omega)) _)
          · have hov := below_over hbase.out
            repeat (first | with_reducible exact hov | with_reducible refine Below.drew ?_ | with_reducible refine below_q ?_ _ | with_reducible refine Below.setCell ?_ (by first | (simp; done) | (simp; omega)) _ | with_reducible refine Below.alloc ?_ (by first | (simp; done) | (simp; omega)) _)
      | succ k2 =>
        have hd : Hid (W.nextF lv l = (0, 0, 0, [], 0, k2 + 1)) := by
          show _ = _
          rw [HST.out, if_neg (by omega), if_pos (by omega)]
        unfold er
        go_wp2
        refine bodyPost_ret (v := .tuple #[.agg #[.int .i64 0, .int .i64 0, .int .u64 0, .slice none 0 0], .int .i64 0, er E (k2 + 1)]) (by simp [results, Tryd.results46, go_sem, er, d0, d1, d2, d3, hs2]) rfl ?_
        rw [hd.out]
        refine ⟨none, 0, rfl, Rd.nil _ _ _, Nat.le_refl _, Nat.zero_le _, ?_⟩
        have hov := below_over hbase.out
        repeat (first | with_reducible exact hov | with_reducible refine Below.drew ?_ | with_reducible refine below_q ?_ _ | with_reducible refine Below.setCell ?_ (by first | (simp; done) | (simp; omega)) _ | with_reducible refine Below.alloc ?_ (by first | (simp; done) | (simp; omega)) _)
end Go.Proofs.YthipecjjmboecaaDoor
