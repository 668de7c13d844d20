/-
HpackNever: headers that are Never are told so, and are kept in no table.
-/
import Derived.Test.YtcbljbdcnahfhaaDoorKaux
namespace Go.Proofs.YtcbljbdcnahfhaaDoor
open Go.RowKit

set_option maxRecDepth 100000 in
set_option maxHeartbeats 4000000 in
theorem hpackNever_law (E : Nat → Addr) (a1 : Option Addr) (n1 c1 : Nat) (l1 : List (B.HD × Bool)) (w : World) (hl1 : l1.length = n1) (hn1 : n1 ≤ 1048576) (hr1 : QRdB w.heap.size w a1 l1) (hs1 : QSz 1048576 l1) (hE : ErrsAll w E kgs) :
    Calls Tryd.prog 7 #[.slice a1 n1 c1] w (TruePost w) := by
  have HF := Lib.hid (kfirst_any E w hE)
  have HE := Lib.hid hE
  have HR := Lib.hid hr1
  have HL := Lib.hid hl1
  have HS := Lib.hid hs1
  clear hr1 hE hl1 hs1
  go_enter Tryd.func7, Tryd.ntmps7
  go_wp2_with fail
  refine HF.out.mono ?_
  rintro e w1 ⟨rfl, hb1⟩
  have HB1 := Lib.hid hb1
  have hz1 := hb1.size
  clear hb1 HF
  go_wp2_with fail
  refine (klight_any a1 n1 c1 l1 w1 HL.out (HR.out.belowB HB1.out (Nat.le_refl _)) hz1 (fun x hx => ⟨Nat.le_trans (HS.out x hx).1 (by decide), Nat.le_trans (HS.out x hx).2 (by decide)⟩)).mono ?_
  rintro e w2 ⟨⟨b, rfl, _⟩, hb2⟩
  have HB2 := Lib.hid (HB1.out.trans (hb2.mono hz1))
  have hz2 := HB2.out.size
  clear hb2 HB1 hz1
  cases b
  · go_wp2
    go_ret
    exact ⟨rfl, HB2.out⟩
  go_wp2_with fail
  refine (ksize_any a1 n1 c1 l1 w2 HL.out hn1 (HR.out.belowB HB2.out (Nat.le_refl _)) hz2 (fun x hx => ⟨Nat.le_trans (HS.out x hx).1 (by decide), Nat.le_trans (HS.out x hx).2 (by decide)⟩)).mono ?_
  rintro e w3 ⟨rfl, hb3⟩
  have HB3 := Lib.hid (HB2.out.trans (hb3.mono hz2))
  have hz3 := HB3.out.size
  clear hb3 HB2 hz2
  by_cases hbig : 16384 < P.totA l1
  · have q : (16384 : Int) < (P.totA l1 : Int) := by omega
    go_wp2
    go_ret
    exact ⟨rfl, HB3.out⟩
  have q : ¬ (16384 : Int) < (P.totA l1 : Int) := by omega
  go_wp2_with fail
  refine (show Calls _ _ #[.int .i64 4096] _ _ from NewEncoder_yes 4096 w3 (by omega)).mono ?_
  rintro e w4 ⟨eB, rfl, he4, hc4, ht4, hb4⟩
  obtain ⟨s, hs⟩ : ∃ s, s = w3.heap.size := ⟨_, rfl⟩
  rw [← hs] at he4 hc4 ht4
  have hws : w.heap.size ≤ s := by omega
  have hel := hc4.lt
  have HC4 := Lib.hid hc4
  have HT4 := Lib.hid ht4
  have HB4 := Lib.hid (HB3.out.trans (hb4.mono hz3))
  have hz4 := HB4.out.size
  clear hc4 ht4 hb4 hs HB3 hz3
  go_wp2_with fail
  refine (show Calls _ _ #[.int .i64 4096] _ _ from NewDecoder_yes 4096 w4 (by omega)).mono ?_
  rintro e w5 ⟨dB, rfl, hd5, hc5, ht5, hb5⟩
  obtain ⟨t, ht⟩ : ∃ t, t = w4.heap.size := ⟨_, rfl⟩
  rw [← ht] at hd5 hc5 ht5
  have hst : eB < t := by omega
  have HC5 := Lib.hid (HC4.out.below hb5)
  have HT5 := Lib.hid (HT4.out.below hb5)
  have hdl := hc5.lt
  have HD5 := Lib.hid hc5
  have HU5 := Lib.hid ht5
  have HB5 := Lib.hid (HB4.out.trans (hb5.mono hz4))
  have hz5 := HB5.out.size
  clear hc5 ht5 hb5 ht HB4 hz4 HC4 HT4
  go_wp2_with fail
  refine (qheaders_any a1 n1 c1 l1 w5 HL.out hn1 (HR.out.belowB HB5.out (Nat.le_refl _)) hz5).mono ?_
  rintro e w6 ⟨v6, rfl, hq6, hb6⟩
  obtain ⟨va, vc, rfl⟩ := hq6.form
  obtain ⟨K, hK⟩ : ∃ K, K = w5.heap.size := ⟨_, rfl⟩
  rw [← hK] at hq6 hb6 hdl
  have hKw : w.heap.size ≤ K := by omega
  have HB6 := Lib.hid hb6
  have hz6 := hb6.size
  rw [← hK] at hz6
  rw [HL.out] at hq6 ⊢
  have HQ6 := Lib.hid hq6
  clear hq6 hb6
  go_wp2
  go_loopw [9] (fun i wr => ∃ k : Nat, k ≤ n1 ∧ i = .int .i64 k ∧ Hid (QOwn K wr (.slice va n1 vc) (nvr k l1)) ∧ Hid (Below K w5 wr) ∧ K ≤ wr.heap.size) (fun i _ => n1 - (intOf i).toNat)
  case atStart => exact ⟨0, by omega, rfl, HQ6, HB6, hz6⟩
  case round =>
    obtain ⟨k, hk, rfl, HQ, HB, hzr⟩ := hrel
    clear HQ6 HB6 hz6
    by_cases hlt : k < n1
    · have q1 : (k : Int) < (n1 : Int) := by omega
      have q0 : (0 : Int) ≤ (k : Int) := by omega
      have hlk : (nvr k l1).length = n1 := by rw [nvr_len, HL.out]
      rcases HQ.out.cases with ⟨_, e0⟩ | ⟨g, cp, e, hcp, hgK, hgl, hqr⟩
      · rw [e0] at hlk
        simp at hlk
        omega
      · rw [hlk] at e
        cases e
        obtain ⟨x, hx⟩ : ∃ x, (nvr k l1)[k]? = some x := ⟨_, List.getElem?_eq_getElem (by rw [hlk]; exact hlt)⟩
        obtain ⟨b, o, e, c0, c1, c2⟩ := hqr k x hx
        cases e
        rw [Nat.zero_add] at c0 c1 c2
        have hfr := HQ.out.free (k * 3 + 2)
        have HQ7 : Hid (QOwn K (wr.setCell ⟨g, k * 3 + 2, none⟩ (.bool true)) (.slice (some ⟨g, 0, none⟩) n1 vc) (nvr (k + 1) l1)) := HQ.out.stored hlk (by rw [nvr_len, HL.out]) _ _ (nvr_step k l1 (by rw [HL.out]; exact hlt))
        have HB7 : Hid (Below K w5 (wr.setCell ⟨g, k * 3 + 2, none⟩ (.bool true))) := HB.out.setCell hgK _
        clear hqr hx HQ HB
        go_wp2
        go_roundw
        case rel => exact ⟨k + 1, by omega, by rw [Int.natCast_add]; rfl, HQ7, HB7, by simpa using hzr⟩
        case measure => simp [intOf]; omega
    · obtain rfl : k = n1 := by omega
      have q1 : ¬ (k : Int) < (k : Int) := by omega
      obtain ⟨l2, hl2⟩ : ∃ l2, l2 = nvr k l1 := ⟨_, rfl⟩
      have hln : l2.length = k := by rw [hl2, nvr_len, HL.out]
      have hA2 : P.totA l2 ≤ 16384 := by rw [hl2, nvr_totA]; omega
      have hnv : ∀ x ∈ l2, x.2 = true := by
        have := nvr_all l1
        rw [HL.out, ← hl2] at this
        exact this
      rw [← hl2] at HQ
      clear hl2
      have hk512 := P.totA_len l2
      have hsz2 : ∀ x ∈ l2, x.1.1.size ≤ 16384 ∧ x.1.2.size ≤ 16384 := fun x hx => by
        have := P.totA_mem hx
        unfold B.sz at this
        omega
      have hbs := P.enc_lt (m := 4096) (by omega) l2 [] (Nat.zero_le _) (fun x hx => ⟨Nat.le_trans (hsz2 x hx).1 (by decide), Nat.le_trans (hsz2 x hx).2 (by decide)⟩)
      have hbl := P.enc_len 4096 32768 l2 [] (fun x hx => by have := hsz2 x hx; omega)
      have hbl2 : l2.length * (32768 + 33) ≤ 1000 * (32768 + 33) := Nat.mul_le_mul_right _ (by omega)
      have henv := P.enc_never (m := 4096) l2 [] hnv
      have hblk := P.blk_enc (lim := 4096) (m := 4096) (by omega) l2 [] [] 0 (Nat.zero_le _) (by omega)
      rw [henv, List.nil_append] at hblk
      obtain ⟨bs, hbse⟩ : ∃ bs, bs = (P.enc 4096 [] l2).1 := ⟨_, rfl⟩
      have hEnc : P.szs false 0 4096 ++ (P.enc 4096 [] l2).1 = bs := by rw [hbse]; rfl
      rw [← hbse] at hbs hbl hblk
      have HBs := Lib.hid hbs
      have HBlk := Lib.hid hblk
      have HEnc := Lib.hid hEnc
      have HEnv := Lib.hid henv
      have HSz2 := Lib.hid hsz2
      have hbl3 : bs.length ≤ 1000000000 := by omega
      obtain ⟨K7, hK7⟩ : ∃ K7, K7 = wr.heap.size := ⟨_, rfl⟩
      have hKK : K ≤ K7 := by omega
      have HCr := Lib.hid (HC5.out.block (HB.out.block eB (by omega)))
      have HTr := Lib.hid (HT5.out.at (HB.out.block s (by omega)))
      have HDr := Lib.hid (HD5.out.block (HB.out.block dB (by omega)))
      have HUr := Lib.hid (HU5.out.at (HB.out.block t (by omega)))
      have HBr := Lib.hid (HB5.out.trans (HB.out.mono hKw))
      have hzK : K7 ≤ wr.heap.size := Nat.le_of_eq hK7
      have HQr : Hid (∀ g, (Value.slice va k vc).ownBlock = some g → K ≤ g ∧ g < K7) := fun g e => by rw [hK7]; exact HQ.out.lt g e
      have q1 : ¬ (k : Int) < (k : Int) := by omega
      clear HC5 HT5 HD5 HU5 HB5 HB hbs hblk hEnc henv hsz2 hbl hbl2 hbse hK7 hnv
      go_wp2
      go_loopw [10] (fun r wr => ∃ i : Nat, i ≤ 2 ∧ r = .int .i64 i ∧ Hid (EncC wr eB s false 0) ∧ Hid (Tab wr s [] 4096) ∧ Hid (DecC wr dB (some ⟨t, 0, none⟩) 4096 0) ∧ Hid (Tab wr t [] 4096) ∧ Hid (QOwn K wr (.slice va k vc) l2) ∧ Hid (Below w.heap.size w wr) ∧ K7 ≤ wr.heap.size) (fun r _ => 2 - (intOf r).toNat)
      case atStart => exact ⟨0, by omega, rfl, HCr, HTr, HDr, HUr, HQ, HBr, hzK⟩
      case round =>
        clear HCr HTr HDr HUr HQ HBr hzK
        obtain ⟨i, hi, rfl, HC, HT, HD, HU, HQ, HB, hzr⟩ := hrel
        by_cases hlt2 : i < 2
        case neg =>
          have q2 : ¬ (i : Int) < 2 := by omega
          go_wp2
          go_ret
          exact ⟨rfl, HB.out⟩
        have q2 : (i : Int) < 2 := by omega
        have hNR : NRd (fun b => b < wr.heap.size ∧ b ≠ s ∧ b ≠ eB) wr va l2 := fun j x hx => by
          rcases HQ.out.cases with ⟨_, e0⟩ | ⟨g, cp, e, _, hgK, hgl, hqr⟩
          · rw [e0] at hx; simp at hx
          · cases e
            obtain ⟨b, o, e, c⟩ := hqr j x hx
            cases e
            exact ⟨g, 0, rfl, ⟨hgl, by omega, by omega⟩, c⟩
        have HEn := Lib.hid (Encode_any eB s 4096 [] false 0 va k vc l2 wr HC.out HT.out (by omega) (by intro h; cases h) hln hNR (by omega) (fun x hx => by have := HSz2.out x hx; omega))
        rw [HEnc.out, HEnv.out] at HEn
        clear hNR HC HT
        go_wp2_with fail
        refine HEn.out.mono ?_
        rintro e w8 ⟨v8, rfl, hv8, hc8, ht8, ho8⟩
        obtain ⟨ba, bc, rfl, hbc, hbr, hbn⟩ := ownN_rd3 hv8 HBs.out
        have hz8 := ho8.size
        have HC8 := Lib.hid hc8
        have HT8 := Lib.hid ht8
        have HD8 := Lib.hid (HD.out.block (ho8.block dB (by omega) (by omega) (by omega)))
        have HU8 := Lib.hid (HU.out.at (ho8.block t (by omega) (by omega) (by omega)))
        have HQ8 := Lib.hid (HQ.out.same (fun g e => by have := HQr.out g e; exact ho8.block g (by omega) (by omega) (by omega)))
        have HB8 := Lib.hid (Only2.below HB.out ho8 (by omega) (by omega) (by omega))
        have HDec := Lib.hid (Decode_any w E dB t 4096 0 w8.heap.size [] 4096 ba bs.length bc bs w8 HD8.out HU8.out (by omega) (by omega) (by omega) ⟨HE.out, fun k hk => HB8.out.block k hk⟩ ⟨rfl, hbc, hbr, fun ad e hne => by have := hbn ad e hne; omega⟩ (Nat.le_refl _) hbl3)
        rw [HBlk.out] at HDec
        unfold DecPost at HDec
        simp only at HDec
        clear hv8 hc8 ht8 ho8 hbr hbn HEn HD HU HQ HB
        go_wp2_with fail
        refine HDec.out.mono ?_
        rintro e w9 ⟨ho9, lv, rfl, hq9, ht9, hd9⟩
        have hz9 := ho9.size
        have HC9 := Lib.hid (HC8.out.block (ho9.block eB (by omega) (by omega) (by omega)))
        have HT9 := Lib.hid (HT8.out.at (ho9.block s (by omega) (by omega) (by omega)))
        have HQ9 := Lib.hid (HQ8.out.same (fun g e => by have := HQr.out g e; exact ho9.block g (by omega) (by omega) (by omega)))
        have HB9 : Hid (Below w.heap.size w w9) := HB8.out.trans ⟨ho9.os, ho9.tape, ho9.output, ho9.size, fun i hi => ho9.block i (by omega) (by omega) (by omega)⟩
        have HD9 : Hid (DecC w9 dB (some ⟨t, 0, none⟩) 4096 0) := hd9
        have HU9 := Lib.hid ht9
        obtain ⟨la, lc, rfl, _, hlr⟩ := hq9.rdB
        obtain ⟨va', vc', ev, _, hvr⟩ := HQ9.out.rdB
        rw [hln] at ev
        cases ev
        have HS := Lib.hid (sameHeaders_eq la va k lc vc l2 w9 hln (by omega) hlr hvr)
        rw [hln]
        clear ho9 hq9 ht9 hd9 hlr hvr HDec HC8 HT8 HD8 HU8 HQ8 HB8
        go_wp2_with (first | (go_at_call 30; refine HS.out.mono ?_; rintro e w10 ⟨rfl, hb10⟩; have HC10 := Lib.hid (HC9.out.below hb10); have HT10 := Lib.hid (HT9.out.below hb10); have HD10 := Lib.hid (HD9.out.below hb10); have HU10 := Lib.hid (HU9.out.below hb10); have HQ10 := Lib.hid (HQ9.out.below hb10); have HB10 := Lib.hid (HB9.out.trans (hb10.mono HB9.out.size)); have hz10 := hb10.size; clear hb10) | (go_at_call 36; refine (declen_any dB 0 _ HD10.out.c2.1).mono ?_; rintro e w11 ⟨rfl, rfl⟩))
        go_roundw
        case rel => exact ⟨i + 1, by omega, by rw [Int.natCast_add]; rfl, HC10, HT10, HD10, HU10, HQ10, HB10, by omega⟩
        case measure => simp [intOf]; omega
end Go.Proofs.YtcbljbdcnahfhaaDoor
