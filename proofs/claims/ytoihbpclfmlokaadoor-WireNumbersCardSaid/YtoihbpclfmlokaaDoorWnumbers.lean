/-
The walk of parleylaw1.WireNumbers: it returns true whatever is asked.
-/
import Derived.Test.YtoihbpclfmlokaaDoorWerr
import Derived.Test.YtoihbpclfmlokaaDoorWfirst
namespace Go.Proofs.YtoihbpclfmlokaaDoor
open Go.RowKit

theorem Own.below {B : Nat} {w w' : World} {v : Value} {l : List Nat} (h : Own B w v l) (hb : Below w.heap.size w w') : Own B w' v l := by
  obtain ⟨h1, g, cp, rfl⟩ := h
  have hlt := (h1.lt g rfl).2
  refine ⟨⟨h1.1, ?_⟩, g, cp, rfl⟩
  rcases h1.2 with hn | ⟨g', cap, cur, hv, hB, hg, rest⟩
  · exact .inl hn
  · cases hv
    exact .inr ⟨g, cp, cur, rfl, hB, by rw [hb.block _ hlt]; exact hg, rest⟩

theorem vbs_10 (u : Nat) : (W.vbs u).length ≤ 10 := (W.vb_len 9 u).2

set_option maxRecDepth 100000 in
set_option maxHeartbeats 2000000 in
theorem wireNumbers_law (E : Nat → Addr) (u : Nat) (n f kd m : Int) (a : Option Addr) (len cap : Nat) (l : List Nat) (w : World) (hu : u < 18446744073709551616) (hn0 : -9223372036854775808 ≤ n) (hn1 : n ≤ 9223372036854775807)
    (hl : l.length = len) (hr : Rd w.heap.size w a l) (hE : ErrsAll w E egs) :
    Calls Tryd.prog 3 #[.int .u64 u, .int .i64 n, .int .i64 f, .int .i64 kd, .int .i64 m, .slice a len cap] w (TruePost w) := by
  have HE := Lib.hid hE
  have HR := Lib.hid hr
  subst hl
  clear hE hr
  by_cases h : 16384 < l.length
  · go_enter Tryd.func3, Tryd.ntmps3
    go_wp2_with (go_at_call 15; refine (first_any E _ (errs_of_all HE.out)).mono ?_; rintro e w1 ⟨rfl, hb1⟩; have HB1 := Lib.hid hb1; clear hb1)
    go_ret
    exact ⟨rfl, HB1.out⟩
  have hd : decide (16384 < (l.length : Int)) = false := by simp; omega
  have HU : Hid (u < 18446744073709551616) := hu
  obtain ⟨fb, hfb, hfl, HF1, HF2⟩ := fixed_all u HU m
  obtain ⟨x3, hx3, HU1, HU2⟩ := unfixed_all m l (by omega)
  obtain ⟨T, c, hc, HT1, HT2⟩ := tag_all f kd
  obtain ⟨p1, j1, k1, h1⟩ : ∃ p j k, W.uvA l = (p, j, k) := ⟨_, _, _, rfl⟩
  obtain ⟨p4, j4, k4, h4⟩ : ∃ p j k, W.untag u = (p, j, k) := ⟨_, _, _, rfl⟩
  obtain ⟨p3, j3, k3⟩ := x3
  have K1 : Hid (∀ (B : Nat) (a : Option Addr) (cap : Nat) (w : World), Rd B w a l → Errs w E → Calls Tryd.prog 20 #[.slice a l.length cap] w fun e w' => e = .returned (.tuple #[.int .u64 (p1 : Nat), .int .i64 (j1 : Nat), er E k1]) ∧ ∃ q, w' = w.drewN q) := fun B a cap w g1 g2 => by
    have := uv_any a cap l E w (by omega) g1 g2
    rw [h1] at this
    exact this
  have K2 : Hid (∀ (B : Nat) (a : Option Addr) (cap : Nat) (w : World), Rd B w a l → Calls Tryd.prog 21 #[.slice a l.length cap] w fun e w' => e = .returned (.tuple #[.int .u64 (p1 : Nat), .int .i64 (j1 : Nat), .int .i64 (cd k1)]) ∧ w = w') := fun B a cap w g1 => by
    have := refUv_any a cap l w (by omega) g1
    rw [h1] at this
    exact this
  have K3 : Hid (∀ (B : Nat) (a : Option Addr) (cap : Nat) (w : World), l.length ≤ cap → Rd B w a l → Errs w E → Calls Tryd.prog 24 #[.slice a l.length cap, .int .i64 m] w fun e w' => e = .returned (.tuple #[.int .u64 (p3 : Nat), .int .i64 (j3 : Nat), er E k3]) ∧ ∃ q, w' = w.drewN q) := fun B a cap w g0 g1 g2 => HU1 E B a cap w g0 g1 g2
  have K4 : Hid (∀ (B : Nat) (a : Option Addr) (cap : Nat) (w : World), Rd B w a l → Calls Tryd.prog 25 #[.slice a l.length cap, .int .i64 m] w fun e w' => e = .returned (.tuple #[.int .u64 (p3 : Nat), .int .i64 (j3 : Nat), .int .i64 (cd k3)]) ∧ w = w') := fun B a cap w g1 => HU2 B a cap w g1
  have K5 : Hid (∀ (w : World), Errs w E → Calls Tryd.prog 28 #[.int .u64 u] w fun e w' => e = .returned (.tuple #[.int .i64 (p4 : Nat), .int .i64 (j4 : Nat), er E k4]) ∧ ∃ q, w' = w.drewN q) := fun w g1 => by
    have := untag_any u E w HU g1
    rw [h4] at this
    exact this
  have K6 : Hid (∀ (w : World), Calls Tryd.prog 29 #[.int .u64 u] w fun e w' => e = .returned (.tuple #[.int .i64 (p4 : Nat), .int .i64 (j4 : Nat), .int .i64 (cd k4)]) ∧ w = w') := fun w => by
    have := refUntag_all u w hu
    rw [h4] at this
    exact this
  have G1 : Hid (Good k1) := by have := good_uv l; rw [h1] at this; exact this
  have G3 : Hid (Good k3) := hx3
  have G4 : Hid (Good k4) := by have := good_untag u; rw [h4] at this; exact this
  clear h1 h4 HU1 HU2 hx3
  have HF1 := Lib.hid HF1
  have HF2 := Lib.hid HF2
  have HT1 := Lib.hid HT1
  have HT2 := Lib.hid HT2
  have Hc := Lib.hid hc
  have Hfl := Lib.hid hfl
  have Hvl := Lib.hid (W.vbs_lt u hu)
  have hv10 := vbs_10 u
  have HN := Lib.hid (And.intro hn0 hn1)
  clear hc hfl hn0 hn1 hu
  obtain ⟨i0, hi, hz0, hz1b, hz2⟩ := info_parts info5
  have Hz2 := Lib.hid hz2
  clear hz2
  go_enter Tryd.func3, Tryd.ntmps3
  go_wp2_with fail
  refine (first_any E _ (errs_of_all HE.out)).mono ?_
  rintro e w1 ⟨rfl, hb1⟩
  have HB1 := Lib.hid hb1
  have hs1 := hb1.size
  clear hb1
  go_wp2_with fail
  refine (bytes_any a l.length cap l w1 rfl (HR.out.below HB1.out) (by omega)).mono ?_
  rintro e w2 ⟨v2, rfl, hv2, hb2⟩
  obtain ⟨g2, cp2, rfl⟩ := hv2.2
  have HV2 := Lib.hid hv2
  have HB2 := Lib.hid (HB1.out.trans (hb2.mono hs1))
  have hs2 := HB2.out.size
  have Hlit := Lib.hid (Rd.lit w2 #[.int .u8 47, .int .u8 11] 5 [47, 11] (by decide) rfl)
  have hs12 := hb2.size
  clear hb2 hv2
  go_upto_region 5 with (at_builtin; refine wpList_app _ rfl _ _ 23 rfl w1.heap.size _ 5 i0 (.int .u8 0) Tryd.underlying23 hi hz0 hz1b Hz2.out rfl _ l.length (vals l) rfl (HV2.out.1.alloc _) (by intro e; cases e) _ 2 2 [47, 11] rfl rfl Hlit.out ?_ ?_ ?_; omega; (simp; omega); intro g3 cp3 w3 hown3 hgrow3)
  have hlt3 : ∀ x ∈ l ++ [47, 11], x < 256 := lt_app HR.out.1 (by decide)
  have HLt := Lib.hid hlt3
  have hv3 := own_app (l := l) (bs := [47, 11]) rfl hown3
  obtain ⟨hr3, hcp3⟩ := own_rd hv3 (by simp) hlt3
  have hb3 : Below w.heap.size w w3 := (HB2.out.alloc hs2 (.cells #[.int .u8 47, .int .u8 11] 5)).grown hgrow3 (by simp; omega) (fun k e => by cases e; have := (HV2.out.1.lt g2 rfl).1; show w.heap.size ≤ g2; omega)
  have HB3 := Lib.hid hb3
  have HR3 := Lib.hid hr3
  have hs3 := hb3.size
  have hr3l := hr3.take l.length
  rw [List.take_left] at hr3l
  have HM := Lib.hid hr3l
  have HA := Lib.hid (HR.out.below hb3)
  have HE3 := Lib.hid (HE.out.below hb3)
  have hcp : l.length + 2 ≤ cp3 := by simpa using hcp3
  clear hown3 hgrow3 hv3 hb3 hr3 hr3l hs12 HV2 Hlit hcp3 HE HR HB1 HB2 hlt3 hs1 hs2
  go_wp2_with fail
  refine (varint_any (some ⟨g3, 0, none⟩) l.length cp3 l u w3 rfl HM.out HU (by omega)).mono ?_
  rintro e w4 ⟨v4, rfl, hv4, hb4⟩
  obtain ⟨g4, cp4, rfl⟩ := hv4.2
  have HR4 := Lib.hid (own_rd hv4 rfl (lt_app HM.out.1 Hvl.out)).1
  have H4 := Lib.hid hb4
  clear hb4 hv4
  go_wp2_with fail
  refine (bytes_any a l.length cap l w4 rfl (HA.out.below H4.out) (by omega)).mono ?_
  rintro e w5 ⟨v5, rfl, hv5, hb5⟩
  obtain ⟨g5, cp5, rfl⟩ := hv5.2
  have HV5 := Lib.hid hv5
  have X5 := Lib.hid hb5
  clear hb5 hv5
  go_wp2_with fail
  refine (refVarint_any u w5 HU).mono ?_
  rintro e w6 ⟨v6, rfl, hv6, hb6⟩
  obtain ⟨g6, cp6, rfl⟩ := hv6.2
  have HR6 := Lib.hid (own_rd hv6 rfl Hvl.out).1
  have HV6 := Lib.hid (HV5.out.below hb6)
  have X6 := Lib.hid (X5.out.trans (hb6.mono X5.out.size))
  clear hb6 hv6 HV5 X5
  go_wp2_with (at_builtin; refine wpList_app _ rfl _ _ 23 rfl w4.heap.size _ 5 i0 (.int .u8 0) Tryd.underlying23 hi hz0 hz1b Hz2.out rfl _ l.length (vals l) rfl HV6.out.1 (by intro e; cases e) _ (W.vbs u).length cp6 (W.vbs u) rfl rfl HR6.out ?_ ?_ ?_; omega; exact X6.out.size; intro g7 cp7 w7 hown7 hgrow7)
  have hv7 := own_app (l := l) (bs := W.vbs u) rfl hown7
  have HR7 := Lib.hid (own_rd hv7 (by simp) (lt_app HA.out.1 Hvl.out)).1
  have X7 := X6.out.grown hgrow7 X6.out.size (fun k e => by cases e; exact (HV6.out.1.lt g5 rfl).1)
  have H7 := Lib.hid (H4.out.trans (X7.mono H4.out.size))
  have HR4b := Lib.hid (HR4.out.below X7)
  clear hown7 hgrow7 hv7 X7 HR4 HV6 HR6 X6 H4
  refine (same_any _ _ _ _ _ _ (l ++ W.vbs u) (l ++ W.vbs u) _ (by simp) (by simp) HR4b.out HR7.out).mono ?_
  rintro e w8 ⟨rfl, rfl⟩
  rw [decide_eq_true rfl]
  clear HR4b HR7
  go_wp2_with fail
  refine (K1.out _ _ _ _ (HM.out.below H7.out) (errs_of_all (HE3.out.below H7.out))).mono ?_
  rintro e w8 ⟨rfl, q8, rfl⟩
  have H8 := Lib.hid (below_q H7.out q8)
  clear H7
  go_wp2_with fail
  refine (K2.out _ _ _ _ (HA.out.below H8.out)).mono ?_
  rintro e w9 ⟨rfl, rfl⟩
  generalize w7.drewN q8 = w8 at *
  go_wp2_with fail
  refine (HF1.out _ (some ⟨g3, 0, none⟩) l.length cp3 l w8 rfl (HM.out.below H8.out) (by omega)).mono ?_
  rintro e w9 ⟨v9, rfl, hv9, hb9⟩
  obtain ⟨g9, cp9, rfl⟩ := hv9.2
  have HR9 := Lib.hid (own_rd hv9 rfl (lt_app HM.out.1 Hfl.out)).1
  have H9 := Lib.hid (H8.out.trans (hb9.mono H8.out.size))
  clear hb9 hv9 H8
  go_wp2_with fail
  refine (bytes_any a l.length cap l w9 rfl (HA.out.below H9.out) (by omega)).mono ?_
  rintro e w10 ⟨v10, rfl, hv10, hb10⟩
  obtain ⟨g10, cp10, rfl⟩ := hv10.2
  have HV10 := Lib.hid hv10
  have X10 := Lib.hid hb10
  clear hb10 hv10
  go_wp2_with fail
  refine (HF2.out w10).mono ?_
  rintro e w11 ⟨a11, cp11, rfl, hr11, hb11⟩
  have HR11 := Lib.hid hr11
  have HV11 := Lib.hid (HV10.out.below hb11)
  have X11 := Lib.hid (X10.out.trans (hb11.mono X10.out.size))
  clear hb11 hr11 HV10 X10
  go_wp2_with (at_builtin; refine wpList_app _ rfl _ _ 23 rfl w9.heap.size _ 5 i0 (.int .u8 0) Tryd.underlying23 hi hz0 hz1b Hz2.out rfl _ l.length (vals l) rfl HV11.out.1 (by intro e; cases e) _ fb.length cp11 fb rfl rfl HR11.out ?_ ?_ ?_; omega; exact X11.out.size; intro g12 cp12 w12 hown12 hgrow12)
  have hv12 := own_app (l := l) (bs := fb) rfl hown12
  have HR12 := Lib.hid (own_rd hv12 (by simp) (lt_app HA.out.1 Hfl.out)).1
  have X12 := X11.out.grown hgrow12 X11.out.size (fun k e => by cases e; exact (HV11.out.1.lt g10 rfl).1)
  have H12 := Lib.hid (H9.out.trans (X12.mono H9.out.size))
  have HR9b := Lib.hid (HR9.out.below X12)
  clear hown12 hgrow12 hv12 X12 HR9 HV11 HR11 X11 H9
  refine (same_any _ _ _ _ _ _ (l ++ fb) (l ++ fb) _ (by simp) (by simp) HR9b.out HR12.out).mono ?_
  rintro e w13 ⟨rfl, rfl⟩
  rw [decide_eq_true rfl]
  clear HR9b HR12
  go_wp2_with fail
  refine (K3.out _ _ _ _ (by omega) (HM.out.below H12.out) (errs_of_all (HE3.out.below H12.out))).mono ?_
  rintro e w13 ⟨rfl, q13, rfl⟩
  have H13 := Lib.hid (below_q H12.out q13)
  clear H12
  go_wp2_with fail
  refine (K4.out _ _ _ _ (HA.out.below H13.out)).mono ?_
  rintro e w14 ⟨rfl, rfl⟩
  generalize w12.drewN q13 = w13 at *
  go_wp2_with fail
  refine (HT1.out E w13 (errs_of_all (HE3.out.below H13.out))).mono ?_
  rintro e w14 ⟨rfl, q14, rfl⟩
  have H14 := Lib.hid (below_q H13.out q14)
  clear H13
  generalize w13.drewN q14 = w14 at *
  go_wp2_with fail
  refine (HT2.out _).mono ?_
  rintro e w15 ⟨rfl, rfl⟩
  go_wp2_with fail
  refine (K5.out w14 (errs_of_all (HE3.out.below H14.out))).mono ?_
  rintro e w15 ⟨rfl, q15, rfl⟩
  have H15 := Lib.hid (below_q H14.out q15)
  clear H14
  generalize w14.drewN q15 = w15 at *
  go_wp2_with fail
  refine (K6.out _).mono ?_
  rintro e w16 ⟨rfl, rfl⟩
  go_wp2_with fail
  refine (is_er G1.out w15 (HE3.out.below H15.out)).mono ?_
  rintro e w16 ⟨rfl, hb16⟩
  have H16 := Lib.hid (H15.out.trans (hb16.mono H15.out.size))
  clear hb16 H15
  go_wp2_with fail
  refine (is_er G3.out w16 (HE3.out.below H16.out)).mono ?_
  rintro e w17 ⟨rfl, hb17⟩
  have H17 := Lib.hid (H16.out.trans (hb17.mono H16.out.size))
  clear hb17 H16
  go_wp2_with fail
  refine (is_er Hc.out w17 (HE3.out.below H17.out)).mono ?_
  rintro e w18 ⟨rfl, hb18⟩
  have H18 := Lib.hid (H17.out.trans (hb18.mono H17.out.size))
  clear hb18 H17
  go_wp2_with fail
  refine (is_er G4.out w18 (HE3.out.below H18.out)).mono ?_
  rintro e w19 ⟨rfl, hb19⟩
  have H19 := Lib.hid (H18.out.trans (hb19.mono H18.out.size))
  clear hb19 H18
  go_wp2_with fail
  refine (bytes_any a l.length cap l w19 rfl (HA.out.below H19.out) (by omega)).mono ?_
  rintro e w20 ⟨v20, rfl, hv20, hb20⟩
  obtain ⟨g20, cp20, rfl⟩ := hv20.2
  have HV20 := Lib.hid hv20
  have X20 := Lib.hid hb20
  have Hlit20 := Lib.hid (Rd.lit w20 #[.int .u8 47, .int .u8 11] 5 [47, 11] (by decide) rfl)
  have hs20 := hb20.size
  clear hb20 hv20
  go_wp2_with (at_builtin; refine wpList_app _ rfl _ _ 23 rfl w19.heap.size _ 5 i0 (.int .u8 0) Tryd.underlying23 hi hz0 hz1b Hz2.out rfl _ l.length (vals l) rfl (HV20.out.1.alloc _) (by intro e; cases e) _ 2 2 [47, 11] rfl rfl Hlit20.out ?_ ?_ ?_; omega; (simp; omega); intro g21 cp21 w21 hown21 hgrow21)
  have hv21 := own_app (l := l) (bs := [47, 11]) rfl hown21
  have HR21 := Lib.hid (own_rd hv21 (by simp) HLt.out).1
  have X21 : Below w19.heap.size w19 w21 := (X20.out.alloc hs20 (.cells #[.int .u8 47, .int .u8 11] 5)).grown hgrow21 (by simp; omega) (fun k e => by cases e; exact (HV20.out.1.lt g20 rfl).1)
  have H21 := Lib.hid (H19.out.trans (X21.mono H19.out.size))
  clear hown21 hgrow21 hv21 X21 HV20 Hlit20 X20 H19
  refine (same_any _ _ _ _ _ _ (l ++ [47, 11]) (l ++ [47, 11]) _ (by simp) (by simp) (HR3.out.below H21.out) HR21.out).mono ?_
  rintro e w22 ⟨rfl, rfl⟩
  rw [decide_eq_true rfl]
  clear HR21
  go_wp2_with fail
  refine (zig_any n _ HN.out.1 HN.out.2).mono ?_
  rintro e w22 ⟨rfl, rfl⟩
  go_wp2_with fail
  refine (refZig_any n _ HN.out.1 HN.out.2).mono ?_
  rintro e w22 ⟨rfl, rfl⟩
  go_wp2_with fail
  refine (zag_any u _ HU.out).mono ?_
  rintro e w22 ⟨rfl, rfl⟩
  go_wp2_with fail
  refine (show Calls _ _ _ _ fun e w' => e = .returned (.int .i64 (zagN u)) ∧ w21 = w' from refZag_any u _ HU.out).mono ?_
  rintro e w22 ⟨rfl, rfl⟩
  go_wp2_with fail
  refine (sizeX u _ HU).mono ?_
  rintro e w22 ⟨rfl, rfl⟩
  go_wp2_with fail
  refine (refVarint_any u _ HU).mono ?_
  rintro e w23 ⟨v23, rfl, hv23, hb23⟩
  obtain ⟨g23, cp23, rfl⟩ := hv23.2
  have H23 := Lib.hid (H21.out.trans (hb23.mono H21.out.size))
  clear hv23 hb23
  go_wp2_with fail
  go_ret
  exact ⟨rfl, HB3.out.trans (H23.out.mono hs3)⟩
end Go.Proofs.YtoihbpclfmlokaaDoor
