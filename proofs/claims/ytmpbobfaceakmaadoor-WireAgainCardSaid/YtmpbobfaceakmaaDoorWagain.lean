/-
The walk of parleylaw1.WireAgain: it returns true for any two rows of bytes.
-/
import Derived.Test.YtmpbobfaceakmaaDoorWputd
import Derived.Test.YtmpbobfaceakmaaDoorWread
import Derived.Test.YtmpbobfaceakmaaDoorWmathq
namespace Go.Proofs.YtmpbobfaceakmaaDoor
open Go.RowKit

/-- Put of what may be put. -/
theorem put_good {B Bb : Nat} (f kd : Nat) (u : Nat) (a ab : Option Addr) (len cap nb cb : Nat) (l bs : List Nat) (E : Nat → Addr) (w : World) (h1 : 1 ≤ f) (h2 : f ≤ 536870911) (h3 : kd ≤ 5) (h4 : kd ≠ 4) (h5 : kd = 3 → (W.chk 31 bs).2 = 0) (hu : Hid (u < 18446744073709551616)) (hl : l.length = len) (hb : bs.length = nb) (hcb : nb ≤ cb) (hsz : len + nb + 60 ≤ 140737488355328) (hr : Rd B w a l) (hrb : Rd Bb w ab bs) (hBw : Bb ≤ w.heap.size) (hE : Errs w E) :
    Calls Tryd.prog 41 #[.slice a len cap, .agg #[.int .i64 f, .int .i64 kd, .int .u64 u, .slice ab nb cb]] w (PutOk (l ++ W.putF f kd u bs) w) := by
  match kd, h3 with
  | 0, _ => exact put0 f u a ab len cap nb cb l bs w h1 h2 hu hl (by omega) hr
  | 1, _ => exact put1 f u a ab len cap nb cb l bs w h1 h2 hu hl (by omega) hr
  | 2, _ => exact put2 f u a ab len cap nb cb l bs w h1 h2 hl hb (by omega) hr hrb
  | 3, _ =>
    refine (put3 f u a ab len cap nb cb l bs E w h1 h2 hl hb hcb hsz hr hrb hBw hE).mono fun e w' hp => ?_
    unfold GroupOut at hp
    rw [if_pos (h5 rfl)] at hp
    exact hp
  | 4, _ => exact absurd rfl h4
  | 5, _ => exact put5 f u a ab len cap nb cb l bs w h1 h2 hu hl (by omega) hr

theorem putF_lt' (f kd u : Nat) (bs : List Nat) (h2 : f ≤ 536870911) (h3 : kd ≤ 5) (hu : u < 18446744073709551616) (hb : bs.length < 18446744073709551616) (hbs : ∀ x ∈ bs, x < 256) : ∀ x ∈ W.putF f kd u bs, x < 256 := by
  have a := W.vbs_lt (f * 8 + kd) (by omega)
  have b := W.vbs_lt u hu
  have c := W.vbs_lt bs.length hb
  have d := W.vbs_lt (f * 8 + 4) (by omega)
  unfold W.putF
  repeat' split
  · exact lt_app a b
  · exact lt_app a (W.leB_lt 8 u)
  · exact lt_app a (W.leB_lt 4 u)
  · exact lt_app (lt_app a c) hbs
  · exact lt_app (lt_app a hbs) d

set_option maxRecDepth 100000 in
set_option maxHeartbeats 8000000 in
theorem again_law (aa ab : Option Addr) (na ca nb cb : Nat) (la lb : List Nat) (E : Nat → Addr) (w : World)
    (ha : la.length = na) (hca : na ≤ ca) (hb : lb.length = nb) (hcb : nb ≤ cb) (hra : Rd w.heap.size w aa la) (hrb : Rd w.heap.size w ab lb) (hE : Errs w E) :
    Calls Tryd.prog 8 #[.slice aa na ca, .slice ab nb cb] w (TruePost w) := by
  obtain ⟨i0, hi, hz0, hz1, hz2⟩ := info_parts info5
  have HE := Lib.hid hE
  have HRa := Lib.hid hra
  have HRb := Lib.hid hrb
  have Ha := Lib.hid ha
  have Hb := Lib.hid hb
  obtain ⟨f, kd, u, bs, sz, k, hx⟩ : ∃ f kd u bs sz k, W.nextF 32 la = (f, kd, u, bs, sz, k) := ⟨_, _, _, _, _, _, rfl⟩
  have HX := Lib.hid hx
  clear hE hra hrb ha hb hx
  go_enter Tryd.func8, Tryd.ntmps8
  go_wp2_with fail
  refine (first_any E w HE.out).mono ?_
  rintro e w1 ⟨rfl, hb1⟩
  have HB1 := Lib.hid hb1
  have hs1 := hb1.size
  clear hb1
  by_cases hna : 16384 < na
  · go_wp2
    go_ret
    exact ⟨rfl, HB1.out⟩
  by_cases hnb : 16384 < nb
  · go_wp2
    go_ret
    exact ⟨rfl, HB1.out⟩
  go_wp2_with fail
  refine (Next_any aa na ca la E w1 Ha.out hca (by omega) hs1 (HRa.out.below HB1.out) (HE.out.below HB1.out)).mono ?_
  rintro e w2 ⟨v, rfl, h1, h2, h3⟩
  rw [HX.out] at h1 h2 ⊢
  simp only at h1 h2 ⊢
  have HB2 := Lib.hid (HB1.out.trans (h3.mono hs1))
  cases k with
  | succ k =>
    obtain rfl := h2 (by omega)
    unfold er
    clear h1 h2 h3 HB1
    have HBt : Hid (Below w.heap.size w (w2.alloc (.cells #[.int .i64 f, .int .i64 kd, .int .u64 u, .slice none 0 0] 53))) := HB2.out.alloc HB2.out.size _
    go_wp2_with fail
    refine (bytes_any aa na ca la _ Ha.out (HRa.out.below HBt.out) (by omega)).mono ?_
    rintro e x1 ⟨v1, rfl, hv1, hc1⟩
    obtain ⟨gx, cx, rfl⟩ := hv1.2
    have HX1 := Lib.hid (HBt.out.trans (hc1.mono HBt.out.size))
    have HVx := Lib.hid (hv1.mono HBt.out.size)
    clear hv1 hc1 HBt
    go_wp2_with (at_builtin; refine wpList_app _ rfl _ _ 23 rfl w.heap.size w.heap.size 5 i0 (.int .u8 0) Tryd.underlying23 hi hz0 hz1 hz2 rfl _ la.length (vals la) rfl HVx.out.1 (by intro e; cases e) ab nb cb lb rfl Hb.out (HRb.out.below HX1.out) ?_ HX1.out.size ?_; (have := Ha.out; omega); intro gy cy x2 howny hgrowy)
    have hgr : x1.grownBy x2 (Value.slice (some ⟨gx, 0, none⟩) la.length cx).ownBlock := hgrowy
    have HX2 := Lib.hid (HX1.out.grown hgr HX1.out.size (fun k e => by cases e; exact (HVx.out.1.lt gx rfl).1))
    obtain ⟨hrx, hcx⟩ := own_rd (own_app Hb.out howny) (by rw [List.length_append, Hb.out]) (lt_app HRa.out.all HRb.out.all)
    have HRx := Lib.hid hrx
    clear hgr hgrowy howny HVx HX1 hrx
    refine (check_any aa na ca la E x2 Ha.out hca (by omega) HX2.out.size (HRa.out.below HX2.out) (HE.out.below HX2.out)).mono ?_
    rintro e x3 ⟨hc3, hd3⟩
    have HX3 := Lib.hid (HX2.out.trans (hc3.mono HX2.out.size))
    have HC3 := Lib.hid hc3
    clear hc3
    rcases hd3 with ⟨hk3, rfl⟩ | ⟨g3, k3, hk3, rfl, _⟩
    · have HK3 := Lib.hid hk3
      clear hk3
      go_wp2_with fail
      refine (check_any ab nb cb lb E x3 Hb.out hcb (by omega) HX3.out.size (HRb.out.below HX3.out) (HE.out.below HX3.out)).mono ?_
      rintro e x4 ⟨hc4, hd4⟩
      have HX4 := Lib.hid (HX3.out.trans (hc4.mono HX3.out.size))
      have HC4 := Lib.hid (HC3.out.trans (hc4.mono HC3.out.size))
      clear hc4
      rcases hd4 with ⟨hk4, rfl⟩ | ⟨g4, k4, hk4, rfl, _⟩
      · have HK4 := Lib.hid hk4
        clear hk4
        go_wp2_with fail
        refine (check_any (some ⟨gy, 0, none⟩) (la.length + nb) cy (la ++ lb) E x4 (by rw [List.length_append, Hb.out]) hcx (by have := Ha.out; omega) HC4.out.size (HRx.out.below HC4.out) (HE.out.below HX4.out)).mono ?_
        rintro e x5 ⟨hc5, hd5⟩
        have HX5 := Lib.hid (HX4.out.trans (hc5.mono HX4.out.size))
        clear hc5
        rcases hd5 with ⟨_, rfl⟩ | ⟨g5, k5, hk5, _⟩
        · go_wp2
          go_ret
          exact ⟨rfl, HX5.out⟩
        · have := W.chk_join 32 la lb HK3.out HK4.out
          omega
      · clear hk4
        go_wp2
        go_ret
        exact ⟨rfl, HX4.out⟩
    · clear hk3
      go_wp2
      go_ret
      exact ⟨rfl, HX3.out⟩
  | zero =>
    have ho := (h1 rfl).mono hs1
    obtain ⟨g2, cp2, rfl⟩ := ho.2
    obtain ⟨q1, q2, q3, q4, q5, q6, q7, q8, q9⟩ := W.again_next la HRa.out.all f kd u bs sz HX.out
    have hszl := W.nextF_ok (lv := 32) (l := la) (by rw [HX.out])
    rw [HX.out] at hszl
    simp only at hszl
    have hbl := W.nextF_bytes 32 la
    rw [HX.out] at hbl
    simp only at hbl
    have hmem := W.nextF_mem 32 la
    rw [HX.out] at hmem
    have hblt : ∀ x ∈ bs, x < 256 := fun x hx => HRa.out.all x (hmem x hx)
    obtain ⟨hr2, hc2⟩ := own_rd ho rfl hblt
    have HPN := Lib.hid (W.put_next f kd u bs [] q1 q2 q3 q4 q5 (by have := Ha.out; omega) q6)
    rw [q8, q9, List.append_nil] at HPN
    have hPlt := putF_lt' f kd u bs q2 q3 q5 (by have := Ha.out; omega) hblt
    have HPG := Lib.hid (put_good (B := 0) (Bb := w2.heap.size) f kd u none (some ⟨g2, 0, none⟩) 0 0 bs.length cp2 [] bs E (w2.alloc (.cells #[.int .i64 f, .int .i64 kd, .int .u64 u, .slice (some ⟨g2, 0, none⟩) bs.length cp2] 53)) q1 q2 q3 q4 q6 q5 rfl rfl hc2 (by have := Ha.out; omega) (Rd.nil 0 _ _) (hr2.below ((Below.refl _ _).alloc (Nat.le_refl _) _)) (by simp) (HE.out.below (HB2.out.alloc HB2.out.size _)))
    rw [List.nil_append] at HPG
    have HR2 := Lib.hid hr2
    have hPl : (W.putF f kd u bs).length ≤ sz := q7
    generalize W.putF f kd u bs = P at *
    have HPlt := Lib.hid hPlt
    have HAl : Hid (la.length = na) := Ha.out
    have hP2 : P.length ≤ na := by have := Ha.out; omega
    have hsz2 : sz ≤ na := by have := Ha.out; omega
    have hbs2 : bs.length ≤ na := by have := Ha.out; omega
    unfold er
    clear h1 h2 h3 HB1 ho hr2 hPlt q1 q2 q3 q4 q5 q6 q7 q8 q9 hbl hszl hmem
    go_wp2_with fail
    refine HPG.out.mono ?_
    rintro e w3 ⟨v3, rfl, hv3, hb3⟩
    obtain ⟨g3, cp3, rfl⟩ := hv3.2
    obtain ⟨⟨c0, c1, c2, c3⟩, ⟨f0, f1, f2, f3⟩, hs3⟩ := cells4 hb3
    have HB3 := Lib.hid ((HB2.out.alloc HB2.out.size (.cells #[.int .i64 f, .int .i64 kd, .int .u64 u, .slice (some ⟨g2, 0, none⟩) bs.length cp2] 53)).trans (hb3.mono (HB2.out.alloc HB2.out.size (.cells #[.int .i64 f, .int .i64 kd, .int .u64 u, .slice (some ⟨g2, 0, none⟩) bs.length cp2] 53)).size))
    have HC3 := Lib.hid hb3
    have HV3 := Lib.hid hv3
    clear hb3 hv3 HPG
    go_wp2_with fail
    refine (next_read (B0 := w3.heap.size) (w0 := w3) E f kd u P.length bs HV3.out rfl HPlt.out (by omega) (HE.out.below HB3.out) (Below.refl _ _) (Nat.le_refl _) HPN.out).mono ?_
    rintro e w4 ⟨g4, cp4, rfl, hv4, hb4⟩
    have HB4 := Lib.hid (HB3.out.trans (hb4.mono HB3.out.size))
    have HC4 := Lib.hid (HC3.out.trans (hb4.mono HC3.out.size))
    obtain ⟨hr4, hc4⟩ := own_rd hv4 rfl hblt
    have HR4 := Lib.hid hr4
    clear c0 c1 c2 c3 f0 f1 f2 f3 hb4 hv4 hr4 HV3 HPN
    obtain ⟨⟨c0, c1, c2, c3⟩, ⟨f0, f1, f2, f3⟩, hs4⟩ := cells4 HC4.out
    have HA1s : w2.heap.size ≤ w4.heap.size := by omega
    go_wp2_with fail
    have HA2 := Lib.hid (HR2.out.below (((Below.refl w2.heap.size w2).alloc (Nat.le_refl _) (.cells #[.int .i64 f, .int .i64 kd, .int .u64 u, .slice (some ⟨g2, 0, none⟩) bs.length cp2] 53)).trans ((HC4.out.mono (by simp)).alloc HA1s (.cells #[.int .i64 f, .int .i64 kd, .int .u64 u, .slice (some ⟨g4, 0, none⟩) bs.length cp4] 53))))
    have HA4 := Lib.hid (HR4.out.below ((Below.refl w4.heap.size w4).alloc (Nat.le_refl _) (.cells #[.int .i64 f, .int .i64 kd, .int .u64 u, .slice (some ⟨g4, 0, none⟩) bs.length cp4] 53)))
    refine (same_any (some ⟨g2, 0, none⟩) (some ⟨g4, 0, none⟩) bs.length bs.length cp2 cp4 bs bs _ rfl rfl HA2.out HA4.out).mono ?_
    rintro e w5 ⟨rfl, rfl⟩
    rw [show decide (bs = bs) = true from decide_eq_true rfl]
    have HBt : Hid (Below w.heap.size w (w4.alloc (.cells #[.int .i64 f, .int .i64 kd, .int .u64 u, .slice (some ⟨g4, 0, none⟩) bs.length cp4] 53))) := HB4.out.alloc HB4.out.size _
    clear HA2 HA4 HR2 HR4 HC4 HC3 HB4 HB3 HB2
    go_wp2_with fail
    refine (bytes_any aa na ca la _ Ha.out (HRa.out.below HBt.out) (by omega)).mono ?_
    rintro e x1 ⟨v1, rfl, hv1, hc1⟩
    obtain ⟨gx, cx, rfl⟩ := hv1.2
    have HX1 := Lib.hid (HBt.out.trans (hc1.mono HBt.out.size))
    have HVx := Lib.hid (hv1.mono HBt.out.size)
    clear hv1 hc1 HBt
    go_wp2_with (at_builtin; refine wpList_app _ rfl _ _ 23 rfl w.heap.size w.heap.size 5 i0 (.int .u8 0) Tryd.underlying23 hi hz0 hz1 hz2 rfl _ la.length (vals la) rfl HVx.out.1 (by intro e; cases e) ab nb cb lb rfl Hb.out (HRb.out.below HX1.out) ?_ HX1.out.size ?_; (have := Ha.out; omega); intro gy cy x2 howny hgrowy)
    have hgr : x1.grownBy x2 (Value.slice (some ⟨gx, 0, none⟩) la.length cx).ownBlock := hgrowy
    have HX2 := Lib.hid (HX1.out.grown hgr HX1.out.size (fun k e => by cases e; exact (HVx.out.1.lt gx rfl).1))
    obtain ⟨hrx, hcx⟩ := own_rd (own_app Hb.out howny) (by rw [List.length_append, Hb.out]) (lt_app HRa.out.all HRb.out.all)
    have HRx := Lib.hid hrx
    clear hgr hgrowy howny HVx HX1 hrx
    refine (check_any aa na ca la E x2 Ha.out hca (by omega) HX2.out.size (HRa.out.below HX2.out) (HE.out.below HX2.out)).mono ?_
    rintro e x3 ⟨hc3, hd3⟩
    have HX3 := Lib.hid (HX2.out.trans (hc3.mono HX2.out.size))
    have HC3 := Lib.hid hc3
    clear hc3
    rcases hd3 with ⟨hk3, rfl⟩ | ⟨g3, k3, hk3, rfl, _⟩
    · have HK3 := Lib.hid hk3
      clear hk3
      go_wp2_with fail
      refine (check_any ab nb cb lb E x3 Hb.out hcb (by omega) HX3.out.size (HRb.out.below HX3.out) (HE.out.below HX3.out)).mono ?_
      rintro e x4 ⟨hc4, hd4⟩
      have HX4 := Lib.hid (HX3.out.trans (hc4.mono HX3.out.size))
      have HC4 := Lib.hid (HC3.out.trans (hc4.mono HC3.out.size))
      clear hc4
      rcases hd4 with ⟨hk4, rfl⟩ | ⟨g4, k4, hk4, rfl, _⟩
      · have HK4 := Lib.hid hk4
        clear hk4
        go_wp2_with fail
        refine (check_any (some ⟨gy, 0, none⟩) (la.length + nb) cy (la ++ lb) E x4 (by rw [List.length_append, Hb.out]) hcx (by have := Ha.out; omega) HC4.out.size (HRx.out.below HC4.out) (HE.out.below HX4.out)).mono ?_
        rintro e x5 ⟨hc5, hd5⟩
        have HX5 := Lib.hid (HX4.out.trans (hc5.mono HX4.out.size))
        clear hc5
        rcases hd5 with ⟨_, rfl⟩ | ⟨g5, k5, hk5, _⟩
        · go_wp2
          go_ret
          exact ⟨rfl, HX5.out⟩
        · have := W.chk_join 32 la lb HK3.out HK4.out
          omega
      · clear hk4
        go_wp2
        go_ret
        exact ⟨rfl, HX4.out⟩
    · clear hk3
      go_wp2
      go_ret
      exact ⟨rfl, HX3.out⟩
end Go.Proofs.YtmpbobfaceakmaaDoor
