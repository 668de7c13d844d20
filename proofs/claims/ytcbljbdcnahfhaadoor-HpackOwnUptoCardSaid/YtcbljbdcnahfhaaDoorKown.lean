/-
HpackOwn: lists and blocks that are answered are new memory, each time.
-/
import Derived.Test.YtcbljbdcnahfhaaDoorKaux
import Derived.Test.YtcbljbdcnahfhaaDoorMga
namespace Go.Proofs.YtcbljbdcnahfhaaDoor
open Go.RowKit

set_option maxRecDepth 100000 in
set_option maxHeartbeats 8000000 in
theorem hpackOwn_law (E : Nat → Addr) (a1 : Option Addr) (n1 c1 : Nat) (l1 : List (B.HD × Bool)) (w : World) (hl1 : l1.length = n1) (hn1 : n1 ≤ 1048576) (hr1 : QRdB w.heap.size w a1 l1) (hs1 : QSz 1048576 l1) (hE : ErrsAll w E kgs) :
    Calls Tryd.prog 9 #[.slice a1 n1 c1] w (TruePost w) := by
  have HF := Lib.hid (kfirst_any E w hE)
  have HE := Lib.hid hE
  have HR := Lib.hid hr1
  have HL := Lib.hid hl1
  have HS := Lib.hid hs1
  clear hr1 hE hl1 hs1
  go_enter Tryd.func9, Tryd.ntmps9
  go_wp2_with fail
  refine HF.out.mono ?_
  rintro e w1 ⟨rfl, hb1⟩
  have HB1 := Lib.hid hb1
  have hz1 := hb1.size
  clear hb1 HF
  go_wp2_with fail
  refine (klight_any a1 n1 c1 l1 w1 HL.out (HR.out.belowB HB1.out (Nat.le_refl _)) hz1 (fun x hx => ⟨Nat.le_trans (HS.out x hx).1 (by decide), Nat.le_trans (HS.out x hx).2 (by decide)⟩)).mono ?_
  rintro e w2 ⟨⟨b, rfl, _⟩, hb2⟩
  have HB2 := Lib.hid (HB1.out.trans (hb2.mono hz1))
  have hz2 := HB2.out.size
  clear hb2 HB1 hz1
  cases b
  · go_wp2
    go_ret
    exact ⟨rfl, HB2.out⟩
  go_wp2_with fail
  refine (ksize_any a1 n1 c1 l1 w2 HL.out hn1 (HR.out.belowB HB2.out (Nat.le_refl _)) hz2 (fun x hx => ⟨Nat.le_trans (HS.out x hx).1 (by decide), Nat.le_trans (HS.out x hx).2 (by decide)⟩)).mono ?_
  rintro e w3 ⟨rfl, hb3⟩
  have HB3 := Lib.hid (HB2.out.trans (hb3.mono hz2))
  have hz3 := HB3.out.size
  clear hb3 HB2 hz2
  by_cases hbig : 16384 < P.totA l1
  · have q : (16384 : Int) < (P.totA l1 : Int) := by omega
    go_wp2
    go_ret
    exact ⟨rfl, HB3.out⟩
  have q : ¬ (16384 : Int) < (P.totA l1 : Int) := by omega
  go_wp2_with fail
  refine (qheaders_any a1 n1 c1 l1 w3 HL.out hn1 (HR.out.belowB HB3.out (Nat.le_refl _)) hz3).mono ?_
  rintro e w4 ⟨v4, rfl, hq4, hb4⟩
  obtain ⟨va, vc, rfl, _, hkr⟩ := hq4.rdB
  obtain ⟨K4, hK4⟩ : ∃ K4, K4 = w4.heap.size := ⟨_, rfl⟩
  rw [← hK4] at hkr
  rw [HL.out]
  have HK := Lib.hid hkr
  have HB4 := Lib.hid (HB3.out.trans (hb4.mono hz3))
  have hz4 : w.heap.size ≤ K4 := by rw [hK4]; exact HB4.out.size
  have hKz4 : K4 ≤ w4.heap.size := Nat.le_of_eq hK4
  clear hq4 hb4 hkr HB3 hz3
  go_wp2_with fail
  refine (show Calls _ _ #[.int .i64 4096] _ _ from NewEncoder_yes 4096 w4 (by omega)).mono ?_
  rintro e w5 ⟨eB, rfl, he5, hc5, ht5, hb5⟩
  obtain ⟨s, hs⟩ : ∃ s, s = w4.heap.size := ⟨_, rfl⟩
  rw [← hs] at he5 hc5 ht5
  have hKs : K4 ≤ s := by omega
  have hel := hc5.lt
  have HC5 := Lib.hid hc5
  have HT5 := Lib.hid ht5
  have HB5 : Hid (Below K4 w4 w5) := hb5.mono (by omega)
  have hz5 := HB5.out.size
  clear hc5 ht5 hb5 hs
  go_wp2_with fail
  refine (show Calls _ _ #[.int .i64 4096] _ _ from NewDecoder_yes 4096 w5 (by omega)).mono ?_
  rintro e w6 ⟨dB, rfl, hd6, hc6, ht6, hb6⟩
  obtain ⟨t, ht⟩ : ∃ t, t = w5.heap.size := ⟨_, rfl⟩
  rw [← ht] at hd6 hc6 ht6
  have hst : eB < t := by omega
  have HC6 := Lib.hid (HC5.out.below hb6)
  have HT6 := Lib.hid (HT5.out.below hb6)
  have hdl := hc6.lt
  have HD6 : Hid (DecC w6 dB (some ⟨t, 0, none⟩) 4096 ([] : List B.HD).length) := hc6
  have HU6 := Lib.hid ht6
  have HB6 := Lib.hid (HB5.out.trans (hb6.mono (by omega)))
  obtain ⟨K7, hK7⟩ : ∃ K7, K7 = w6.heap.size := ⟨_, rfl⟩
  rw [← hK7] at hdl
  have hzK : K7 ≤ w6.heap.size := Nat.le_of_eq hK7
  clear hc6 ht6 hb6 ht hz5 HC5 HT5 HB5 hK7
  have hk512 := P.totA_len l1
  rw [HL.out] at hk512
  have HSz2 : Hid (∀ x ∈ l1, x.1.1.size ≤ 16384 ∧ x.1.2.size ≤ 16384) := fun x hx => by
    have := P.totA_mem hx
    unfold B.sz at this
    omega
  go_wp2
  go_loopw [9] (fun r wr => ∃ (i : Nat) (L : List B.HD), i ≤ 3 ∧ r = .int .i64 i ∧ B.tot L ≤ 4096 ∧ Hid (EncC wr eB s false 0) ∧ Hid (Tab wr s L 4096) ∧ Hid (DecC wr dB (some ⟨t, 0, none⟩) 4096 L.length) ∧ Hid (Tab wr t L 4096) ∧ Hid (Below K4 w4 wr) ∧ K7 ≤ wr.heap.size) (fun r _ => 3 - (intOf r).toNat)
  case atStart => exact ⟨0, [], by omega, rfl, Nat.zero_le _, HC6, HT6, HD6, HU6, HB6, hzK⟩
  case round =>
    clear HC6 HT6 HD6 HU6 HB6 hzK
    obtain ⟨i, L, hi, rfl, htL, HC, HT, HD, HU, HB, hzr⟩ := hrel
    by_cases hlt2 : i < 3
    case neg =>
      have q2 : ¬ (i : Int) < 3 := by omega
      have HSm := Lib.hid (sameHeaders_eq a1 va n1 c1 vc l1 wr HL.out (by omega) (((HR.out.belowB HB4.out (Nat.le_refl _)).belowB HB.out hz4).mono (by omega)) ((HK.out.belowB HB.out (Nat.le_refl _)).mono (by omega)))
      go_wp2_with fail
      refine HSm.out.mono ?_
      rintro e w7 ⟨rfl, hb7⟩
      have HB7 := Lib.hid ((HB4.out.trans (HB.out.mono hz4)).trans (hb7.mono (by have := (HB4.out.trans (HB.out.mono hz4)).size; omega)))
      go_wp2
      go_ret
      exact ⟨rfl, HB7.out⟩
    have q2 : (i : Int) < 3 := by omega
    have hbs := P.enc_lt (m := 4096) (by omega) l1 L htL (fun x hx => ⟨Nat.le_trans (HSz2.out x hx).1 (by decide), Nat.le_trans (HSz2.out x hx).2 (by decide)⟩)
    have hbl := P.enc_len 4096 32768 l1 L (fun x hx => by have := HSz2.out x hx; omega)
    have hbl2 : l1.length * (32768 + 33) ≤ 1000 * (32768 + 33) := Nat.mul_le_mul_right _ (by rw [HL.out]; omega)
    have hblk := P.blk_enc (lim := 4096) (m := 4096) (by omega) l1 L [] 0 htL (by omega)
    have htL' := P.enc_tot (m := 4096) l1 L htL
    rw [List.nil_append] at hblk
    have hNR : NRd (fun b => b < wr.heap.size ∧ b ≠ s ∧ b ≠ eB) wr a1 l1 := fun j x hx => by
      obtain ⟨b, o, e, hbw, c⟩ := ((HR.out.belowB HB4.out (Nat.le_refl _)).belowB HB.out hz4) j x hx
      exact ⟨b, o, e, ⟨by omega, by omega, by omega⟩, c⟩
    have HEn := Lib.hid (Encode_any eB s 4096 L false 0 a1 n1 c1 l1 wr HC.out HT.out (by omega) (by intro h; cases h) HL.out hNR (by omega) (fun x hx => by have := HSz2.out x hx; omega))
    rw [show P.szs false 0 4096 ++ (P.enc 4096 L l1).1 = (P.enc 4096 L l1).1 from rfl] at HEn
    generalize (P.enc 4096 L l1).1 = bs at *
    generalize (P.enc 4096 L l1).2 = L' at *
    have HBs := Lib.hid hbs
    have HBlk := Lib.hid hblk
    have hbl3 : bs.length ≤ 1000000000 := by omega
    clear hbs hblk hbl hbl2 hNR HC HT
    go_wp2_with fail
    refine HEn.out.mono ?_
    rintro e w8 ⟨v8, rfl, hv8, hc8, ht8, ho8⟩
    obtain ⟨ba, bc, rfl, hbc, hbr, hbn⟩ := ownN_rd3 hv8 HBs.out
    obtain ⟨K8, hK8⟩ : ∃ K8, K8 = wr.heap.size := ⟨_, rfl⟩
    rw [← hK8] at hv8 hbn
    have hz8 := ho8.size
    rw [← hK8] at hz8 hzr
    have HC8 := Lib.hid hc8
    have HT8 := Lib.hid ht8
    have HV8 := Lib.hid hv8
    have HD8 := Lib.hid (HD.out.block (ho8.block dB (by omega) (by omega) (by omega)))
    have HU8 := Lib.hid (HU.out.at (ho8.block t (by omega) (by omega) (by omega)))
    have HB8 := Lib.hid (Only2.below HB.out ho8 (by omega) (by omega) (by omega))
    have HBy := Lib.hid (bytes_any ba bs.length bc bs w8 rfl hbr (by omega))
    clear hv8 hc8 ht8 ho8 hbr HEn HD HU HB
    go_wp2_with fail
    refine HBy.out.mono ?_
    rintro e w9 ⟨v9, rfl, hv9, hb9⟩
    obtain ⟨xa, xc, rfl, hxc, hxr⟩ := hv9.rd HBs.out
    obtain ⟨gx, cx, ex⟩ := hv9.2
    have hxn : ∀ ad, xa = some ad → w8.heap.size ≤ ad.block := fun ad e => by
      cases ex
      cases e
      exact (World.ownsRow.lt hv9.1 gx rfl).1
    have hz9 := hb9.size
    have HC9 := Lib.hid (HC8.out.below hb9)
    have HT9 := Lib.hid (HT8.out.below hb9)
    have HV9 := Lib.hid (HV8.out.below hb9)
    have HD9 := Lib.hid (HD8.out.below hb9)
    have HU9 := Lib.hid (HU8.out.below hb9)
    have HB9 := Lib.hid (HB8.out.trans (hb9.mono (by omega)))
    have HBw9 := Lib.hid (HB4.out.trans (HB9.out.mono hz4))
    have HDec := Lib.hid (Decode_any w E dB t 4096 L.length w9.heap.size L 4096 xa bs.length xc bs w9 HD9.out HU9.out (by omega) (by omega) (by omega) ⟨HE.out, fun k hk => HBw9.out.block k hk⟩ ⟨rfl, hxc, hxr, fun ad e _ => by have := hxn ad e; omega⟩ (Nat.le_refl _) hbl3)
    rw [HBlk.out] at HDec
    unfold DecPost at HDec
    simp only at HDec
    clear hv9 hb9 hxr hxn ex HBy HC8 HT8 HV8 HD8 HU8 HB8
    go_wp2_with fail
    refine HDec.out.mono ?_
    rintro e w10 ⟨ho10, lv, rfl, hq10, ht10, hd10⟩
    have hz10 := ho10.size
    have HC10 := Lib.hid (HC9.out.block (ho10.block eB (by omega) (by omega) (by omega)))
    have HT10 := Lib.hid (HT9.out.at (ho10.block s (by omega) (by omega) (by omega)))
    have HV10 := Lib.hid (HV9.out.same (fun g e => by have := World.ownsRow.lt HV9.out g e; exact ho10.block g (by omega) (by omega) (by omega)))
    have HB10 : Hid (Below K4 w4 w10) := HB9.out.trans ⟨ho10.os, ho10.tape, ho10.output, ho10.size, fun i hi => ho10.block i (by omega) (by omega) (by omega)⟩
    have HD10 : Hid (DecC w10 dB (some ⟨t, 0, none⟩) 4096 L'.length) := hd10
    have HU10 := Lib.hid ht10
    have HQ10 := Lib.hid hq10
    have HVb : Hid (∀ g, (Value.slice ba bs.length bc).ownBlock = some g → K8 ≤ g ∧ g < w9.heap.size) := World.ownsRow.lt HV9.out
    obtain ⟨la, lc, rfl, _, hlr⟩ := hq10.rdB
    have HSm := Lib.hid (sameHeaders_eq la va n1 lc vc l1 w10 HL.out (by omega) hlr ((HK.out.belowB HB10.out (Nat.le_refl _)).mono (by omega)))
    rw [HL.out] at HQ10 ⊢
    clear ho10 hq10 ht10 hd10 hlr HDec HC9 HT9 HV9 HD9 HU9 HB9 HBw9
    go_wp2_with fail
    refine HSm.out.mono ?_
    rintro e w11 ⟨rfl, hb11⟩
    have hz11 := hb11.size
    have HC11 := Lib.hid (HC10.out.below hb11)
    have HT11 := Lib.hid (HT10.out.below hb11)
    have HV11 := Lib.hid (HV10.out.below hb11)
    have HD11 := Lib.hid (HD10.out.below hb11)
    have HU11 := Lib.hid (HU10.out.below hb11)
    have HQ11 := Lib.hid (HQ10.out.below hb11)
    have HB11 := Lib.hid (HB10.out.trans (hb11.mono (by omega)))
    have H0 : Hid (Below K8 w11 w11) := Below.refl _ _
    have hz0 : K8 ≤ w11.heap.size := by omega
    clear hb11 HSm HC10 HT10 HV10 HD10 HU10 HQ10 HB10
    go_wp2
    go_loopw [13] (fun j wx => ∃ (k : Nat) (l' : List Nat), k ≤ bs.length ∧ l'.length = bs.length ∧ j = .int .i64 k ∧ Hid (OwnN K8 wx (.slice ba bs.length bc) l') ∧ Hid (QOwn w9.heap.size wx (.slice la n1 lc) l1) ∧ Hid (Below K8 w11 wx) ∧ K8 ≤ wx.heap.size) (fun j _ => bs.length - (intOf j).toNat)
    case atStart => exact ⟨0, bs, by omega, rfl, rfl, HV11, HQ11, H0, hz0⟩
    case round =>
      clear HV11 HQ11 H0 hz0
      obtain ⟨k, l', hk, hl', rfl, HV, HQ, HBx, hzx⟩ := hrel
      by_cases hlt : k < bs.length
      · have q3 : (k : Int) < (bs.length : Int) := by omega
        have q0 : (0 : Int) ≤ (k : Int) := by omega
        rcases HV.out.owned with ⟨_, e0⟩ | ⟨g, cp, e, hgK, hgl⟩
        · rw [e0] at hl'; simp at hl'; omega
        · rw [hl'] at e
          cases e
          have hg9 := HVb.out g rfl
          obtain ⟨v0, hc0⟩ := HV.out.at hl' k hlt
          have hfr := HV.out.free k
          have HVn := Lib.hid (HV.out.stored hl' k 238)
          have HQn : Hid (QOwn w9.heap.size (wr.setCell ⟨g, k, none⟩ (.int .u8 238)) (.slice la n1 lc) l1) := HQ.out.same (fun g' e => Below.heap_setCell _ _ _ _ (by have h9 := HQ.out.lt g' e; intro e2; simp only at e2; omega))
          have HBn : Hid (Below K8 w11 (wr.setCell ⟨g, k, none⟩ (.int .u8 238))) := HBx.out.setCell hgK _
          clear HV HQ HBx
          go_wp2
          go_roundw
          case rel => exact ⟨k + 1, l'.set k 238, by omega, by rw [List.length_set]; exact hl', by rw [Int.natCast_add]; rfl, HVn, HQn, HBn, by simpa using hzx⟩
          case measure => simp [intOf]; omega
      · obtain rfl : k = bs.length := by omega
        have q3 : ¬ (bs.length : Int) < (bs.length : Int) := by omega
        clear HV
        go_wp2
        go_loopw [14] (fun j wy => ∃ (k : Nat) (l' : List (B.HD × Bool)), k ≤ n1 ∧ l'.length = n1 ∧ j = .int .i64 k ∧ Hid (QOwn w9.heap.size wy (.slice la n1 lc) l') ∧ Hid (Below K8 w11 wy) ∧ K8 ≤ wy.heap.size) (fun j _ => n1 - (intOf j).toNat)
        case atStart => exact ⟨0, l1, by omega, HL.out, rfl, HQ, HBx, hzx⟩
        case round =>
          clear HQ HBx hzx
          obtain ⟨k, l', hk, hl', rfl, HQ, HBy, hzy⟩ := hrel
          by_cases hlt : k < n1
          · have q4 : (k : Int) < (n1 : Int) := by omega
            have q0 : (0 : Int) ≤ (k : Int) := by omega
            rcases HQ.out.cases with ⟨_, e0⟩ | ⟨g, cp, e, _, hgK, hgl, hqr⟩
            · rw [e0] at hl'; simp at hl'; omega
            · rw [hl'] at e
              cases e
              obtain ⟨x, hx⟩ : ∃ x, l'[k]? = some x := ⟨_, List.getElem?_eq_getElem (by rw [hl']; exact hlt)⟩
              obtain ⟨b, o, e, c0, c1, c2⟩ := hqr k x hx
              cases e
              rw [Nat.zero_add] at c0 c1 c2
              obtain ⟨m1, hm1, em1⟩ := nvs_set0 l' k ⟨#[115, 112, 111, 105, 108, 116]⟩
              obtain ⟨m2, hm2, em2⟩ := nvs_set1 m1 k ⟨#[115, 112, 111, 105, 108, 116]⟩
              have hq1 := HQ.out.stored hl' (hm1.trans hl') (k * 3) (.string ⟨#[115, 112, 111, 105, 108, 116]⟩) em1
              have hfr := HQ.out.free (k * 3)
              have hfr2 := HQ.out.free (k * 3 + 1)
              have HQn := Lib.hid (hq1.stored (hm1.trans hl') (hm2.trans (hm1.trans hl')) (k * 3 + 1) (.string ⟨#[115, 112, 111, 105, 108, 116]⟩) em2)
              have HBn : Hid (Below K8 w11 ((wr.setCell ⟨g, k * 3, none⟩ (.string ⟨#[115, 112, 111, 105, 108, 116]⟩)).setCell ⟨g, k * 3 + 1, none⟩ (.string ⟨#[115, 112, 111, 105, 108, 116]⟩))) := (HBy.out.setCell (by show K8 ≤ g; omega) _).setCell (by show K8 ≤ g; omega) _
              clear hq1 hqr hx HQ HBy em1 em2
              go_wp2
              go_roundw
              case rel => exact ⟨k + 1, m2, by omega, by omega, by rw [Int.natCast_add]; rfl, HQn, HBn, by simpa using hzy⟩
              case measure => simp [intOf]; omega
          · obtain rfl : k = n1 := by omega
            have q4 : ¬ (k : Int) < (k : Int) := by omega
            have HC12 := Lib.hid (HC11.out.block (HBy.out.block eB (by omega)))
            have HT12 := Lib.hid (HT11.out.at (HBy.out.block s (by omega)))
            have HD12 := Lib.hid (HD11.out.block (HBy.out.block dB (by omega)))
            have HU12 := Lib.hid (HU11.out.at (HBy.out.block t (by omega)))
            have HB12 := Lib.hid (HB11.out.trans (HBy.out.mono (by omega)))
            go_wp2
            go_roundw
            case rel => exact ⟨i + 1, L', by omega, by rw [Int.natCast_add]; rfl, htL', HC12, HT12, HD12, HU12, HB12, by omega⟩
            case measure => simp [intOf]; omega
end Go.Proofs.YtcbljbdcnahfhaaDoor
