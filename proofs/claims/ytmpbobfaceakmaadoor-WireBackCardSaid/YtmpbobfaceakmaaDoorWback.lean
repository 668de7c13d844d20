/-
The walk of parleylaw1.WireBack: it returns true for every number, field, kind and any two rows of bytes.
-/
import Derived.Test.YtmpbobfaceakmaaDoorWputd
import Derived.Test.YtmpbobfaceakmaaDoorWread
namespace Go.Proofs.YtmpbobfaceakmaaDoor
open Go.RowKit

theorem putF_lt (f kd u : Nat) (bs : List Nat) (h2 : f ≤ 536870911) (h3 : kd ≤ 5) (hu : u < 18446744073709551616) (hb : bs.length < 18446744073709551616) (hbs : ∀ x ∈ bs, x < 256) : ∀ x ∈ W.putF f kd u bs, x < 256 := by
  have a := W.vbs_lt (f * 8 + kd) (by omega)
  have b := W.vbs_lt u hu
  have c := W.vbs_lt bs.length hb
  have d := W.vbs_lt (f * 8 + 4) (by omega)
  unfold W.putF
  repeat' split
  · exact lt_app a b
  · exact lt_app a (W.leB_lt 8 u)
  · exact lt_app a (W.leB_lt 4 u)
  · exact lt_app (lt_app a c) hbs
  · exact lt_app (lt_app a hbs) d

theorem check_rd {B B0 : Nat} {w0 w : World} {a : Option Addr} {n cp : Nat} {L : List Nat} (E : Nat → Addr) (hr : Rd B w a L) (hBw : B ≤ w.heap.size) (hn : L.length = n) (hc : n ≤ cp) (hs : n ≤ 140737488355328) (hE : Errs w E) (hb : Below B0 w0 w) (h0 : B0 ≤ w.heap.size)
    (hX : W.chk 32 L = (0, 0)) :
    Calls Tryd.prog 35 #[.slice a n cp] w fun e w' => e = .returned .nilIface ∧ Below B0 w0 w' := by
  refine (check_any _ n cp L E w hn hc (by omega) hBw hr hE).mono ?_
  rintro e w' ⟨h1, h2⟩
  rw [hX] at h2
  rcases h2 with ⟨_, rfl⟩ | ⟨g', k, h3, _⟩
  · exact ⟨rfl, hb.trans (h1.mono h0)⟩
  · exact absurd h3 (by simp)

set_option maxRecDepth 100000 in
set_option maxHeartbeats 8000000 in
theorem back_law (u : Nat) (n F K : Int) (ab ah : Option Addr) (nb cb nh ch : Nat) (bs hs : List Nat) (E : Nat → Addr) (w : World) (hu : u < 18446744073709551616) (hn0 : -9223372036854775808 ≤ n) (hn1 : n ≤ 9223372036854775807)
    (hb : bs.length = nb) (hcb : nb ≤ cb) (hh : hs.length = nh) (hch : nh ≤ ch) (hrb : Rd w.heap.size w ab bs) (hrh : Rd w.heap.size w ah hs) (hE : Errs w E) :
    Calls Tryd.prog 7 #[.int .u64 u, .int .i64 n, .int .i64 F, .int .i64 K, .slice ab nb cb, .slice ah nh ch] w (TruePost w) := by
  obtain ⟨i0, hi, hz0, hz1, hz2⟩ := info_parts info5
  have HU : Hid (u < 18446744073709551616) := hu
  have HE := Lib.hid hE
  have HRb := Lib.hid hrb
  have HRh := Lib.hid hrh
  have Hb := Lib.hid hb
  have Hh := Lib.hid hh
  have HhA := Lib.hid hrh.all
  obtain ⟨LV, hLV⟩ : ∃ L, L = W.vbs u := ⟨_, rfl⟩
  obtain ⟨lu, hlu⟩ : ∃ n, n = LV.length := ⟨_, rfl⟩
  have HS : Hid (∀ ww, Calls Tryd.prog 32 #[.int .u64 u] ww fun e w' => e = .returned (.int .i64 lu) ∧ ww = w') := fun ww => by rw [hlu, hLV]; exact sizeX u ww HU
  have HUV : Hid (W.uvA (LV ++ hs) = (u, lu, 0)) := by show _ = _; rw [hlu, hLV]; exact W.vbs_uvA u hs hu
  have HVA : Hid (∀ ww, Calls Tryd.prog 15 #[.slice none 0 0, .int .u64 u] ww (OwnPost ww.heap.size LV ww)) := fun ww => by rw [hLV]; exact varint_any (B2 := 0) none 0 0 [] u ww rfl (Rd.nil 0 ww none) HU (by omega)
  have HVA4 : Hid (∀ ww, Calls Tryd.prog 19 #[.slice none 0 0, .int .u64 u, .int .i64 4] ww (OwnPost ww.heap.size (W.leB 4 u) ww)) := fun ww => fixed_any (B2 := 0) none 0 0 [] u 4 ww (by omega) rfl (Rd.nil 0 ww none) HU (by omega)
  have HVA8 : Hid (∀ ww, Calls Tryd.prog 19 #[.slice none 0 0, .int .u64 u, .int .i64 8] ww (OwnPost ww.heap.size (W.leB 8 u) ww)) := fun ww => fixed_any (B2 := 0) none 0 0 [] u 8 ww (by omega) rfl (Rd.nil 0 ww none) HU (by omega)
  have HU4 : Hid (W.ufx 4 (W.leB 4 u ++ hs) = (u % 4294967296, 4, 0)) := W.ufx_leB 4 u hs
  have HU8 : Hid (W.ufx 8 (W.leB 8 u ++ hs) = (u, 8, 0)) := by
    show _ = _
    rw [W.ufx_leB 8 u hs, show u % 256 ^ 8 = u from Nat.mod_eq_of_lt (by omega)]
  have hVl : lu ≤ 10 := by rw [hlu, hLV]; exact (W.vb_len 9 u).2
  have HVlt : Hid (∀ x ∈ LV, x < 256) := by rw [hLV]; exact W.vbs_lt u hu
  obtain ⟨C4, hC4⟩ : ∃ L, L = W.leB 4 u := ⟨_, rfl⟩
  obtain ⟨C8, hC8⟩ : ∃ L, L = W.leB 8 u := ⟨_, rfl⟩
  have h4l : C4.length = 4 := by rw [hC4]; exact W.leB_len 4 u
  have h8l : C8.length = 8 := by rw [hC8]; exact W.leB_len 8 u
  have H4lt : Hid (∀ x ∈ C4, x < 256) := by rw [hC4]; exact W.leB_lt 4 u
  have H8lt : Hid (∀ x ∈ C8, x < 256) := by rw [hC8]; exact W.leB_lt 8 u
  rw [← hC4] at HVA4 HU4
  rw [← hC8] at HVA8 HU8
  have H4l := Lib.hid h4l
  have H8l := Lib.hid h8l
  have Hlu := Lib.hid hlu
  have HZ := Lib.hid (fun ww => zig_any n ww hn0 hn1)
  have HG : Hid (∀ ww, Calls Tryd.prog 30 #[.int .u64 ((Lib.zigzag n : Nat) : Int)] ww fun e w' => e = .returned (.int .i64 n) ∧ ww = w') := fun ww => by
    have h := zag_any (Lib.zigzag n) ww (Lib.zigzag_lt hn0 hn1)
    rw [zag_zig] at h
    exact h
  generalize Lib.zigzag n = z at *
  have ea : bits .and .u64 (u : Int) 4294967295 = ((u % 4294967296 : Nat) : Int) := by
    have h : bits .and .u64 (u : Int) 4294967295 = (u : Int) % 4294967296 := bits_mask .u64 64 (by decide) (fun n h0 h1 => by rw [IntKind.wrap_u64]; omega) 32 (by decide) u (by omega) (by omega)
    rw [h]; omega
  generalize u % 4294967296 = u4 at *
  clear hE hrb hrh hb hh hLV hlu hC4 hC8 h4l h8l
  go_enter Tryd.func7, Tryd.ntmps7
  go_wp2_with fail
  refine (first_any E w HE.out).mono ?_
  rintro e w1 ⟨rfl, hb1⟩
  have HB1 := Lib.hid hb1
  have hs1 := hb1.size
  clear hb1
  by_cases hnb : 16384 < nb
  · go_wp2
    go_ret
    exact ⟨rfl, HB1.out⟩
  by_cases hnh : 16384 < nh
  · go_wp2
    go_ret
    exact ⟨rfl, HB1.out⟩
  go_wp2_with fail
  refine (HVA.out w1).mono ?_
  rintro e w2 ⟨v2, rfl, hv2, hb2⟩
  obtain ⟨g2, cp2, rfl⟩ := hv2.2
  have HB2 := Lib.hid (HB1.out.trans (hb2.mono hs1))
  have HV2 := Lib.hid (hv2.mono hs1)
  clear hv2 hb2 HB1 hs1
  go_wp2_with (at_builtin; refine wpList_app _ rfl _ _ 23 rfl w.heap.size w.heap.size 5 i0 (.int .u8 0) Tryd.underlying23 hi hz0 hz1 hz2 rfl _ LV.length (vals LV) rfl HV2.out.1 (by intro e; cases e) ah nh ch hs rfl Hh.out (HRh.out.below HB2.out) ?_ HB2.out.size ?_; (have := Hlu.out; omega); intro g3 cp3 w3 hown3 hgrow3)
  have hgr3 : w2.grownBy w3 (Value.slice (some ⟨g2, 0, none⟩) LV.length cp2).ownBlock := hgrow3
  have HO3 := Lib.hid (own_app Hh.out hown3)
  have HB3 := Lib.hid (HB2.out.grown hgr3 HB2.out.size (fun k e => by cases e; exact (HV2.out.1.lt g2 rfl).1))
  clear hgr3 hgrow3 hown3 HV2 HB2
  refine (uv_read E u lu HO3.out (by rw [List.length_append, Hh.out]) (lt_app HVlt.out HhA.out) (by have := Hlu.out; omega) (HE.out.below HB3.out) HB3.out HUV.out).mono ?_
  rintro e w4 ⟨rfl, hb4⟩
  have HB4 := Lib.hid hb4
  clear hb4 HO3 HB3
  go_wp2_with fail
  refine (HVA4.out w4).mono ?_
  rintro e w5 ⟨v5, rfl, hv5, hb5⟩
  obtain ⟨g5, cp5, rfl⟩ := hv5.2
  have HB5 := Lib.hid (HB4.out.trans (hb5.mono HB4.out.size))
  have HV5 := Lib.hid (hv5.mono HB4.out.size)
  clear hv5 hb5 HB4
  go_wp2_with (at_builtin; refine wpList_app _ rfl _ _ 23 rfl w.heap.size w.heap.size 5 i0 (.int .u8 0) Tryd.underlying23 hi hz0 hz1 hz2 rfl _ C4.length (vals C4) rfl HV5.out.1 (by intro e; cases e) ah nh ch hs rfl Hh.out (HRh.out.below HB5.out) ?_ HB5.out.size ?_; (have := H4l.out; omega); intro g6 cp6 w6 hown6 hgrow6)
  have hgr6 : w5.grownBy w6 (Value.slice (some ⟨g5, 0, none⟩) C4.length cp5).ownBlock := hgrow6
  have HO6 := Lib.hid (own_app Hh.out hown6)
  have HB6 := Lib.hid (HB5.out.grown hgr6 HB5.out.size (fun k e => by cases e; exact (HV5.out.1.lt g5 rfl).1))
  clear hgr6 hgrow6 hown6 HV5 HB5
  refine (unf_read E 4 u4 4 (by omega) HO6.out (by rw [List.length_append, Hh.out]) (lt_app H4lt.out HhA.out) (by have := H4l.out; omega) (HE.out.below HB6.out) HB6.out HU4.out).mono ?_
  rintro e w7 ⟨rfl, hb7⟩
  have HB7 := Lib.hid hb7
  clear hb7 HO6 HB6
  go_wp2_with fail
  refine (HVA8.out w7).mono ?_
  rintro e w8 ⟨v8, rfl, hv8, hb8⟩
  obtain ⟨g8, cp8, rfl⟩ := hv8.2
  have HB8 := Lib.hid (HB7.out.trans (hb8.mono HB7.out.size))
  have HV8 := Lib.hid (hv8.mono HB7.out.size)
  clear hv8 hb8 HB7
  go_wp2_with (at_builtin; refine wpList_app _ rfl _ _ 23 rfl w.heap.size w.heap.size 5 i0 (.int .u8 0) Tryd.underlying23 hi hz0 hz1 hz2 rfl _ C8.length (vals C8) rfl HV8.out.1 (by intro e; cases e) ah nh ch hs rfl Hh.out (HRh.out.below HB8.out) ?_ HB8.out.size ?_; (have := H8l.out; omega); intro g9 cp9 w9 hown9 hgrow9)
  have hgr9 : w8.grownBy w9 (Value.slice (some ⟨g8, 0, none⟩) C8.length cp8).ownBlock := hgrow9
  have HO9 := Lib.hid (own_app Hh.out hown9)
  have HB9 := Lib.hid (HB8.out.grown hgr9 HB8.out.size (fun k e => by cases e; exact (HV8.out.1.lt g8 rfl).1))
  clear hgr9 hgrow9 hown9 HV8 HB8
  refine (unf_read E 8 u 8 (by omega) HO9.out (by rw [List.length_append, Hh.out]) (lt_app H8lt.out HhA.out) (by have := H8l.out; omega) (HE.out.below HB9.out) HB9.out HU8.out).mono ?_
  rintro e w10 ⟨rfl, hb10⟩
  have HB10 := Lib.hid hb10
  clear hb10 HO9 HB9
  go_wp2_with fail
  refine (HS.out _).mono ?_
  rintro e w11 ⟨rfl, rfl⟩
  go_wp2_with fail
  refine (HZ.out _).mono ?_
  rintro e w11 ⟨rfl, rfl⟩
  go_wp2_with fail
  refine (HG.out _).mono ?_
  rintro e w11 ⟨rfl, rfl⟩
  clear HS HUV HVA HVA4 HU8 HVA8 H4lt H8lt H4l H8l HZ HG HU4 ea
  go_wp2_with fail
  by_cases htag : F < 1 ∨ 536870911 < F ∨ K < 0 ∨ 5 < K
  · refine (tag_no F K E w10 (HE.out.below HB10.out) htag).mono ?_
    rintro e w11 ⟨rfl, q, rfl⟩
    have HB11 : Hid (Below w.heap.size w (w10.drewN q)) := below_q HB10.out q
    clear HB10
    generalize w10.drewN q = w11 at *
    have HT := Lib.hid htag
    clear htag
    go_wp2_with fail
    refine (untag_zero E (HE.out.below HB11.out) HB11.out).mono ?_
    rintro e w12 ⟨⟨p, rfl⟩, hb12⟩
    have HB12 := Lib.hid hb12
    clear hb12 HB11
    go_wp2_with fail
    refine (put_bad F K u none ab 0 0 nb cb E w12 HT.out (HE.out.below HB12.out)).mono ?_
    rintro e w13 ⟨rfl, hb13⟩
    have HB13 := Lib.hid (HB12.out.trans (hb13.mono HB12.out.size))
    clear hb13 HB12
    go_wp2
    go_ret
    exact ⟨rfl, HB13.out⟩
  obtain ⟨f, rfl⟩ : ∃ f : Nat, F = f := ⟨F.toNat, by omega⟩
  obtain ⟨kd, rfl⟩ : ∃ k : Nat, K = k := ⟨K.toNat, by omega⟩
  have h1 : 1 ≤ f := by omega
  have h2 : f ≤ 536870911 := by omega
  have h3 : kd ≤ 5 := by omega
  clear htag
  refine (tag_ok f kd w10 h1 h2 h3).mono ?_
  rintro e w11 ⟨rfl, rfl⟩
  have HQ := Lib.hid (untag_read E f kd h1 h2 h3 (HE.out.below HB10.out) HB10.out)
  have HTl := Lib.hid (show f * 8 + kd < 18446744073709551616 by omega)
  generalize f * 8 + kd = T at *
  go_wp2_with fail
  refine HQ.out.mono ?_
  rintro e w12 ⟨rfl, hb12⟩
  have HB12 := Lib.hid hb12
  clear hb12 HB10 HQ
  go_wp2_with fail
  refine (put_all (B := 0) (Bb := w.heap.size) f kd u none ab 0 0 nb cb [] bs E w12 HU rfl Hb.out hcb (by omega) (Rd.nil 0 _ _) (HRb.out.below HB12.out) HB12.out.size (HE.out.below HB12.out)).mono ?_
  rintro e w13 hp
  rcases hp with ⟨p, rfl, hb13⟩ | ⟨f', kd', ef, ek, _, _, _, h4, h5, v, rfl, hv, hb13⟩
  · have HB13 := Lib.hid (HB12.out.trans (hb13.mono HB12.out.size))
    clear hb13 HB12
    go_wp2
    go_ret
    exact ⟨rfl, HB13.out⟩
  obtain rfl : f' = f := by omega
  obtain rfl : kd' = kd := by omega
  have HB13 := Lib.hid (HB12.out.trans (hb13.mono HB12.out.size))
  rw [List.nil_append] at hv
  have HN := Lib.hid (W.put_next f' kd' u bs hs h1 h2 h3 h4 hu (by have := Hb.out; omega) h5)
  have HC := Lib.hid (W.put_chk f' kd' u bs h1 h2 h3 h4 hu (by have := Hb.out; omega) h5)
  have hPl := putF_len f' kd' u bs
  rw [Hb.out] at hPl
  have HPlt := Lib.hid (putF_lt f' kd' u bs h2 h3 hu (by have := Hb.out; omega) HRb.out.all)
  generalize W.putF f' kd' u bs = P at *
  generalize (if kd' = 0 ∨ kd' = 1 then u else if kd' = 5 then u % 4294967296 else 0) = u' at *
  generalize (if kd' = 2 ∨ kd' = 3 then bs else []) = bs' at *
  obtain ⟨g13, cp13, rfl⟩ := hv.2
  have HPl := Lib.hid hPl
  obtain ⟨hrp, hcp⟩ := own_rd hv rfl HPlt.out
  have HRp := Lib.hid hrp
  clear hv hb13 HB12 h4 h5 hPl hrp ef ek
  go_wp2_with fail
  refine (bytes_any (some ⟨g13, 0, none⟩) P.length cp13 P w13 rfl HRp.out (by have := HPl.out; omega)).mono ?_
  rintro e w14 ⟨v14, rfl, hv14, hb14⟩
  obtain ⟨g14, cp14, rfl⟩ := hv14.2
  have HB14 := Lib.hid hb14
  have HV14 := Lib.hid hv14
  clear hb14 hv14
  go_wp2_with (at_builtin; refine wpList_app _ rfl _ _ 23 rfl w13.heap.size w.heap.size 5 i0 (.int .u8 0) Tryd.underlying23 hi hz0 hz1 hz2 rfl _ P.length (vals P) rfl HV14.out.1 (by intro e; cases e) ah nh ch hs rfl Hh.out (HRh.out.below (HB13.out.trans (HB14.out.mono HB13.out.size))) ?_ HB14.out.size ?_; (have := HPl.out; omega); intro g15 cp15 w15 hown15 hgrow15)
  have hgr15 : w14.grownBy w15 (Value.slice (some ⟨g14, 0, none⟩) P.length cp14).ownBlock := hgrow15
  have HO15 := Lib.hid (own_app Hh.out hown15)
  have HB15 := Lib.hid (HB14.out.grown hgr15 HB14.out.size (fun k e => by cases e; exact (HV14.out.1.lt g14 rfl).1))
  clear hgr15 hgrow15 hown15 HV14 HB14
  refine (next_read (B0 := w13.heap.size) (w0 := w13) E f' kd' u' P.length bs' HO15.out (by rw [List.length_append, Hh.out]) (lt_app HPlt.out HhA.out) (by have := HPl.out; omega) (HE.out.below (HB13.out.trans (HB15.out.mono HB13.out.size))) HB15.out HB15.out.size HN.out).mono ?_
  rintro e w16 ⟨g16, cp16, rfl, hv16, hb16⟩
  have HB16 := Lib.hid hb16
  clear hb16 hv16 HO15 HB15 HN
  go_wp2_with fail
  have HB17 := Lib.hid (HB16.out.alloc HB16.out.size (.cells #[.int .i64 f', .int .i64 kd', .int .u64 u', .slice (some ⟨g16, 0, none⟩) bs'.length cp16] 53))
  refine (check_rd E (HRp.out.below HB17.out) HB17.out.size rfl hcp (by have := HPl.out; omega) (HE.out.below (HB13.out.trans (HB17.out.mono HB13.out.size))) HB17.out HB17.out.size HC.out).mono ?_
  rintro e w18 ⟨rfl, hb18⟩
  have HB18 := Lib.hid (HB13.out.trans (hb18.mono HB13.out.size))
  clear hb18
  go_wp2
  go_ret
  exact ⟨rfl, HB18.out⟩
end Go.Proofs.YtmpbobfaceakmaaDoor
