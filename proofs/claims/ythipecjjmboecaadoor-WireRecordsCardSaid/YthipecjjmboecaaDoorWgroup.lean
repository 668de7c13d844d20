/-
The walk of wire.readGroup, by induction on the levels of groups that are left.
-/
import Derived.Test.YthipecjjmboecaaDoorWnext
namespace Go.Proofs.YthipecjjmboecaaDoor
open Go.RowKit

set_option maxRecDepth 100000 in
theorem group_zero : GroupOK 0 := by
  rintro B bm a len cap l f d E w hlen hn hcap hBw hr hE hB hd
  have h0 := hE.deep
  have hs := World.block_lt_of_cell? w _ h0
  simp only at hs
  generalize hE0 : E 4 = E0 at h0
  have HE0 := Lib.hid hE0
  clear hE hE0 hr hB hlen
  have hd1 : 32 ≤ d := by rw [hd]; simp
  clear hd
  go_enter Tryd.func67, Tryd.ntmps67
  go_wp2
  go_region
  go_wp2
  refine bodyPost_ret (v := .tuple #[.agg #[.int .u64 0, .slice none 0 0, .int .i64 0], .iface 124 (.pointer (some E0))]) (by simp [results, Tryd.results67, go_sem]) rfl ?_
  refine ⟨none, 0, ?_, Rd.nil _ _ _, Nat.le_refl _, Nat.zero_le _, by repeat (first | with_reducible exact Below.refl _ _ | with_reducible refine Below.drew ?_ | with_reducible refine below_q ?_ _ | with_reducible refine Below.setCell ?_ (by first | (simp; done) | (simp; omega)) _ | with_reducible refine Below.alloc ?_ (by first | (simp; done) | (simp; omega)) _)⟩
  rw [← HE0.out]
  rfl

set_option maxRecDepth 100000 in
set_option maxHeartbeats 4000000 in
theorem group_succ {lv : Nat} (hlv : lv + 1 ≤ 32) (hG : GroupOK lv) : GroupOK (lv + 1) := by
  rintro B bm a len cap l f d E w hlen hn hcap hBw hr hE hB hd
  have hd1 : d < 32 := by rw [hd]; push_cast; omega
  have hd0 : 0 ≤ d := by rw [hd]; push_cast; omega
  have Hd : Hid (d + 1 = 32 - lv) := by show _ = _; rw [hd]; push_cast; omega
  clear hd
  have HG := Lib.hid hG
  have Hr := Lib.hid hr
  have HE := Lib.hid hE
  have HB := Lib.hid hB
  have Hl := Lib.hid hlen
  clear hG hr hE hB hlen
  show Calls _ _ _ _ (BodyPost B E cap (W.loopF (W.bodyF lv) f l (l.length + 1) 0) w)
  go_enter Tryd.func67, Tryd.ntmps67
  go_wp2
  go_loopw [10] (fun i wr => ∃ at_ n : Nat, at_ ≤ len ∧ i = .int .i64 at_ ∧ len + 1 ≤ n + at_ ∧ Hid (W.loopF (W.bodyF lv) f l (l.length + 1) 0 = W.loopF (W.bodyF lv) f l n at_) ∧
      Hid (Below (w.alloc (.cells #[.int .u64 0, .slice none 0 0, .int .i64 0] 108)).heap.size (w.alloc (.cells #[.int .u64 0, .slice none 0 0, .int .i64 0] 108)) wr)) (fun i _ => len - (intOf i).toNat)
  case atStart => exact ⟨0, l.length + 1, by omega, rfl, by rw [Hl.out]; omega, rfl, Below.refl _ _⟩
  case round =>
    obtain ⟨at_, n, hat, rfl, hna, HL, HBr⟩ := hrel
    obtain ⟨⟨c0, c1, c2⟩, ⟨f0, f1, f2⟩, hs1⟩ := cells3 HBr.out
    have HBw := Lib.hid (below_over HBr.out)
    obtain ⟨n, rfl⟩ : ∃ m, n = m + 1 := ⟨n - 1, by omega⟩
    obtain ⟨fi, kd, s, k, hx⟩ : ∃ fi kd s k, W.tg (l.drop at_) = (fi, kd, s, k) := ⟨_, _, _, _, rfl⟩
    have hst := W.loopF_step (W.bodyF lv) f l n at_ fi kd s k hx
    have htok := fun h => W.tg_ok (l := l.drop at_) (show (W.tg (l.drop at_)).2.2.2 = 0 by rw [hx]; exact h)
    rw [hx, List.length_drop, Hl.out] at htok
    simp only at htok
    have HX := Lib.hid hx
    have HST : Hid (W.loopF (W.bodyF lv) f l (l.length + 1) 0 = _) := HL.out.trans hst
    clear hst hx HL
    have hrf := run_from a len cap at_ hat
    go_wp2_with fail
    refine (tg_len (cutA a cap at_) (len - at_) (cap - at_) (l.drop at_) E wr (by rw [List.length_drop, Hl.out]) (by omega) ((Hr.out.below HBw.out).drop (by rw [Hl.out]; exact hcap)) (HE.out.below HBw.out)).mono ?_
    rintro e w1 ⟨rfl, q, rfl⟩
    rw [HX.out]
    unfold tgV
    simp only
    clear hrf
    cases k with
    | succ k =>
      clear htok
      have hd : Hid (W.loopF (W.bodyF lv) f l (l.length + 1) 0 = (0, [], 0, k + 1)) := by
        show _ = _
        rw [HST.out, if_pos (by omega)]
      unfold er
      go_wp2
      refine bodyPost_ret (v := .tuple #[.agg #[.int .u64 0, .slice none 0 0, .int .i64 0], er E (k + 1)]) (by simp [results, Tryd.results67, go_sem, er, c0, c1, c2]) rfl ?_
      rw [hd.out]
      refine ⟨none, 0, rfl, Rd.nil _ _ _, Nat.le_refl _, Nat.zero_le _, ?_⟩
      exact (((below_q HBw.out q).setCell (by simp) _).setCell (by simp) _).setCell (by simp) _
    | zero =>
      obtain ⟨ht1, ht2, ht3, ht4, ht5⟩ := htok rfl
      clear htok
      unfold er
      have dk : ((kd : Int) == 4) = decide (kd = 4) := by rw [Bool.eq_iff_iff]; simp; omega
      have df : ((fi : Int) == (f : Int)) = decide (fi = f) := by rw [Bool.eq_iff_iff]; simp; omega
      by_cases hend : kd = 4 ∧ fi = f
      · obtain ⟨rfl, rfl⟩ := hend
        have hd : Hid (W.loopF (W.bodyF lv) fi l (l.length + 1) 0 = (0, l.take at_, at_ + s, 0)) := by
          show _ = _
          rw [HST.out, if_neg (by omega), if_pos ⟨rfl, rfl⟩]
        have hrt := run_to .i64 a len cap at_ (by omega)
        have hR : Hid (Rd B wr (cutA a cap 0) (l.take at_)) := ((Hr.out.below HBw.out).take at_).cut0
        generalize cutA a cap 0 = a2 at hrt hR
        clear df dk
        have hws : at_ + s ≤ 9223372036854775807 := by omega
        go_wp2
        refine bodyPost_ret (v := .tuple #[.agg #[.int .u64 0, .slice a2 at_ cap, .int .i64 ((at_ + s : Nat) : Int)], .nilIface]) (by simp [results, Tryd.results67, go_sem, c0, c1, c2]) rfl ?_
        rw [hd.out]
        refine ⟨a2, cap, ?_, ?_, ?_, Nat.le_refl _, ?_⟩
        · simp only [List.length_take]
          rw [Nat.min_eq_left (by rw [Hl.out]; omega)]
          rfl
        · exact (hR.out.drewN q).belowB ((((Below.refl _ _).setCell hBw _).setCell hBw _).setCell hBw _)
        · simp only [List.length_take]; omega
        · exact (((below_q HBw.out q).setCell (by simp) _).setCell (by simp) _).setCell (by simp) _
      · have hne : (decide (kd = 4) && decide (fi = f)) = false := by simpa using hend
        obtain ⟨u, bs, sz, k2, hb2⟩ : ∃ u bs sz k2, W.bodyF lv kd (l.drop (at_ + s)) fi = (u, bs, sz, k2) := ⟨_, _, _, _, rfl⟩
        have hft := W.bodyF_fits lv kd (l.drop (at_ + s)) fi
        unfold W.Fits at hft
        rw [hb2, List.length_drop, Hl.out] at hft
        simp only at hft
        have HST2 : Hid (W.loopF (W.bodyF lv) f l (l.length + 1) 0 = if k2 ≠ 0 then (0, [], 0, k2) else W.loopF (W.bodyF lv) f l n (at_ + (s + sz))) := by
          show _ = _
          rw [HST.out, if_neg (by omega), if_neg hend, hb2]
        have HB2 := Lib.hid hb2
        have Hft := Lib.hid hft
        have Hend := Lib.hid hend
        clear HST hb2 hft hend
        obtain ⟨fn, cp, hcall, hok, hlk⟩ := found HG.out (HE.out.below HBw.out) (HB.out.below HBw.out) kd ht5
        have HOK := Lib.hid hok
        have hl1 := fun q => hlk (wr.drewN q) (below_q (Below.refl _ _) q)
        have hl2 := fun q => hlk ((wr.alloc (.cells #[.int .u64 0, .slice none 0 0, .int .i64 0] 108)).drewN q) (below_q ((Below.refl _ _).alloc (Nat.le_refl _) _) q)
        clear hok hlk
        have hrf := run_from a len cap (at_ + s) (by omega)
        rw [show ((at_ + s : Nat) : Int) = (at_ : Int) + s from by push_cast; rfl] at hrf
        have hR : Hid (Rd B wr (cutA a cap (at_ + s)) (l.drop (at_ + s))) := (Hr.out.below HBw.out).drop (by rw [Hl.out]; exact hcap)
        generalize cutA a cap (at_ + s) = a2 at hrf hR
        have hws : IntKind.i64.wrap ((at_ : Int) + s) = (at_ : Int) + s := IntWalk.i64_in _ (by omega)
        have hwd : IntKind.i64.wrap (d + 1) = d + 1 := IntWalk.i64_in _ (by omega)
        obtain ⟨c4, h4, hc4⟩ : ∃ c4 : Bool, ((kd : Int) == 4) = c4 ∧ Hid (c4 = decide (kd = 4)) := ⟨_, dk, rfl⟩
        obtain ⟨cf, hf, hcf⟩ : ∃ cf : Bool, ((fi : Int) == (f : Int)) = cf ∧ Hid (cf = decide (fi = f)) := ⟨_, df, rfl⟩
        have hnot : ¬ (c4 = true ∧ cf = true) := by
          rintro ⟨rfl, rfl⟩
          have e1 := hc4.out.symm; have e2 := hcf.out.symm
          exact Hend.out ⟨of_decide_eq_true e1, of_decide_eq_true e2⟩
        clear dk df hne hc4 hcf
        have hBle : B ≤ wr.heap.size := by omega
        have hC : ∀ ww, Below wr.heap.size wr ww → Calls Tryd.prog fn (#[.slice a2 (len - (at_ + s)) (cap - (at_ + s)), .int .i64 fi, .int .i64 (d + 1)] ++ cp) ww (FoundPost B E (cap - (at_ + s)) (u, bs, sz, k2) wr ww) := fun ww hb =>
          (HOK.out B ww a2 (len - (at_ + s)) (cap - (at_ + s)) (l.drop (at_ + s)) fi (d + 1) (u, bs, sz, k2) hb (by rw [List.length_drop, Hl.out]) (by omega) (by omega) (Nat.le_trans hBle hb.size) (hR.out.below hb) Hd.out HB2.out).mono
            (fun e w' ⟨a', cap', h1, h2, h3, h4, h5⟩ => ⟨a', cap', h1, h2, h3, h4, hb.trans (h5.mono hb.size), h5⟩)
        have HC := Lib.hid hC
        clear hC HOK hR
        have hal : ∀ (q : Nat) (o : Obj), (wr.drewN q).alloc o = (wr.alloc o).drewN q := fun _ _ => rfl
        cases c4 <;> cases cf
        case true.true => exact absurd ⟨rfl, rfl⟩ hnot
        all_goals
          go_wp2
          go_region_with ((with_reducible refine (HC.out _ (by repeat (first | with_reducible exact Below.refl _ _ | with_reducible refine Below.drew ?_ | with_reducible refine below_q ?_ _ | with_reducible refine Below.setCell ?_ (by first | (simp; done) | (simp; omega)) _ | with_reducible refine Below.alloc ?_ (by first | (simp; done) | (simp; omega)) _))).mono ?_); rintro e w2 ⟨a3, cap3, he, h1, h2, h3, h4, h5⟩; subst he; obtain ⟨hc2, hf2, hz2⟩ := bcell h5; simp only [World.heap_drewN, World.size_alloc] at hz2; have H4 := Lib.hid h4; have H1 := Lib.hid h1; clear h4 h5 h1)
          all_goals
            have hbase : Hid (Below (w.alloc (.cells #[.int .u64 0, .slice none 0 0, .int .i64 0] 108)).heap.size (w.alloc (.cells #[.int .u64 0, .slice none 0 0, .int .i64 0] 108)) w2) :=
              HBr.out.trans (H4.out.mono (by simp; omega))
            obtain ⟨⟨d0, d1, d2⟩, ⟨e0, e1, e2⟩, hs2⟩ := cells3 hbase.out
            clear hl1 hl2 hcall hrf HC hws hwd
            cases k2 with
            | zero =>
              have hsz := Hft.out rfl
              have hsum : at_ + (s + sz) ≤ len := by omega
              unfold er
              go_wp2
              go_roundw
              case rel =>
                refine ⟨at_ + (s + sz), n, hsum, by push_cast; rfl, by omega, ?_, ?_⟩
                · show _ = _
                  rw [HST2.out, if_neg (by omega)]
                · show Below _ _ _
                  repeat (first | with_reducible exact hbase.out | with_reducible refine Below.drew ?_ | with_reducible refine below_q ?_ _ | with_reducible refine Below.setCell ?_ (by first | (simp; done) | (simp; omega)) _ | with_reducible refine Below.alloc ?_ (by first | (simp; done) | (simp; omega)) _)
              case measure => simp [intOf]; omega
            | succ k2 =>
              have hd : Hid (W.loopF (W.bodyF lv) f l (l.length + 1) 0 = (0, [], 0, k2 + 1)) := by
                show _ = _
                rw [HST2.out, if_pos (by omega)]
              unfold er
              go_wp2
              refine bodyPost_ret (v := .tuple #[.agg #[.int .u64 0, .slice none 0 0, .int .i64 0], er E (k2 + 1)]) (by simp [results, Tryd.results67, go_sem, er, d0, d1, d2, hs2]) rfl ?_
              rw [hd.out]
              refine ⟨none, 0, rfl, Rd.nil _ _ _, Nat.le_refl _, Nat.zero_le _, ?_⟩
              have hov := below_over hbase.out
              repeat (first | with_reducible exact hov | with_reducible refine Below.drew ?_ | with_reducible refine below_q ?_ _ | with_reducible refine Below.setCell ?_ (by first | (simp; done) | (simp; omega)) _ | with_reducible refine Below.alloc ?_ (by first | (simp; done) | (simp; omega)) _)

theorem group_all : ∀ lv, lv ≤ 32 → GroupOK lv
  | 0, _ => group_zero
  | lv + 1, h => group_succ h (group_all lv (by omega))
end Go.Proofs.YthipecjjmboecaaDoor
