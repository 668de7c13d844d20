/-
HpackBack: a decoder is told the lists that an encoder was.
-/
import Derived.Test.YtcbljbdcnahfhaaDoorKaux
import Derived.Test.YtcbljbdcnahfhaaDoorKres
import Derived.Test.YtcbljbdcnahfhaaDoorKblocks
import Derived.Deep.CutRange
import Derived.Deep.QuietTactic
namespace Go.Proofs.YtcbljbdcnahfhaaDoor
open Go.RowKit

/-- What a decoder makes of a list that an encoder wrote, with a size ahead of it or none. -/
theorem blk_back {m m0 : Nat} (asked : Bool) (hm : m ≤ 4096) {lim : Nat} (hlim : m ≤ lim) (L L0 : List B.HD) (h1 : asked = true → L = B.shr m L0) (h0 : asked = false → L = L0 ∧ m = m0) (ht : B.tot L ≤ m) (xs : List (B.HD × Bool)) (hz : P.totA xs ≤ 16384) :
    P.blk lim (P.szs asked m m ++ (P.enc m L xs).1).length ⟨L0, m0, [], 0⟩ (P.szs asked m m ++ (P.enc m L xs).1) = .ok ⟨(P.enc m L xs).2, m, xs, P.totA xs⟩ := by
  cases asked with
  | true =>
    rw [h1 rfl]
    exact P.blk_szs hm hlim m0 xs L0 hz
  | false =>
    obtain ⟨rfl, rfl⟩ := h0 rfl
    have := P.blk_enc (lim := lim) hm xs L [] 0 ht (by omega)
    rw [List.nil_append, Nat.zero_add] at this
    exact this
theorem szs_lt {asked : Bool} {least m : Nat} (h1 : least ≤ 4096) (h2 : m ≤ 4096) : ∀ x ∈ P.szs asked least m, x < 256 := by
  intro x hx
  have f5 : P.full 5 = 31 := by decide
  unfold P.szs at hx
  split at hx
  · rcases List.mem_append.1 hx with hx | hx
    · split at hx
      · exact P.put_lt (by omega) (by omega) x hx
      · cases hx
    · exact P.put_lt (by omega) (by omega) x hx
  · cases hx
theorem szs_len (asked : Bool) (least m : Nat) : (P.szs asked least m).length ≤ 22 := by
  unfold P.szs
  have h1 := (P.put_len 32 5 least).2
  have h2 := (P.put_len 32 5 m).2
  split
  · rw [List.length_append]
    split
    · omega
    · simp only [List.length_nil]; omega
  · simp

set_option maxRecDepth 100000 in
set_option maxHeartbeats 8000000 in
theorem hpackBack_law (E : Nat → Addr) (nn : Int) (a1 : Option Addr) (n1 c1 : Nat) (l1 : List KB) (w : World) (hl1 : l1.length = n1) (hr1 : KRd w.heap.size w a1 l1) (hs1 : KSz 1048576 l1) (hE : ErrsAll w E kgs) :
    Calls Tryd.prog 6 #[.int .i64 nn, .slice a1 n1 c1] w (TruePost w) := by
  have HF := Lib.hid (kfirst_any E w hE)
  have HE := Lib.hid hE
  have HR := Lib.hid hr1
  have HL := Lib.hid hl1
  have HS := Lib.hid hs1
  clear hr1 hE hl1 hs1
  go_enter Tryd.func6, Tryd.ntmps6
  go_wp2_with fail
  refine HF.out.mono ?_
  rintro e w1 ⟨rfl, hb1⟩
  have HB1 := Lib.hid hb1
  have hz1 := hb1.size
  clear hb1 HF
  go_wp2_with fail
  refine (kall_any a1 n1 c1 l1 w1 HL.out (HR.out.belowB HB1.out (Nat.le_refl _)) hz1 HS.out).mono ?_
  rintro e w2 ⟨⟨b, rfl, hb20⟩, hb2⟩
  have HB2 := Lib.hid (HB1.out.trans (hb2.mono hz1))
  have hz2 := HB2.out.size
  clear hb2 HB1 hz1
  cases b
  · go_wp2
    go_ret
    exact ⟨rfl, HB2.out⟩
  have hn20 := (hb20 rfl).1
  clear hb20
  by_cases hm0 : nn < 0
  · go_wp2
    go_ret
    exact ⟨rfl, HB2.out⟩
  by_cases hm1 : 4096 < nn
  · go_wp2
    go_ret
    exact ⟨rfl, HB2.out⟩
  obtain ⟨n, rfl⟩ : ∃ n : Nat, nn = n := ⟨nn.toNat, by omega⟩
  have hn : n ≤ 4096 := by omega
  clear hm0
  go_wp2_with fail
  refine (NewEncoder_yes n w2 hn).mono ?_
  rintro e w4 ⟨eB, rfl, he4, hc4, ht4, hb4⟩
  obtain ⟨s, hs⟩ : ∃ s, s = w2.heap.size := ⟨_, rfl⟩
  rw [← hs] at he4 hc4 ht4
  have hws : w.heap.size ≤ s := by omega
  have hel := hc4.lt
  have HC4 := Lib.hid hc4
  have HT4 := Lib.hid ht4
  have HB4 := Lib.hid (HB2.out.trans (hb4.mono hz2))
  have hz4 := HB4.out.size
  clear hc4 ht4 hb4 hs HB2 hz2
  go_wp2_with fail
  refine (NewDecoder_yes n w4 hn).mono ?_
  rintro e w5 ⟨dB, rfl, hd5, hc5, ht5, hb5⟩
  obtain ⟨t, ht⟩ : ∃ t, t = w4.heap.size := ⟨_, rfl⟩
  rw [← ht] at hd5 hc5 ht5
  have hst : eB < t := by omega
  have HC5 : Hid (EncC w5 eB s false 0) := HC4.out.below hb5
  have HT5 := Lib.hid (HT4.out.below hb5)
  have hdl := hc5.lt
  have HD5 : Hid (DecC w5 dB (some ⟨t, 0, none⟩) n ([] : List B.HD).length) := hc5
  have HU5 := Lib.hid ht5
  have HB5 := Lib.hid (HB4.out.trans (hb5.mono hz4))
  obtain ⟨K7, hK7⟩ : ∃ K7, K7 = w5.heap.size := ⟨_, rfl⟩
  rw [← hK7] at hdl
  have hzK : K7 ≤ w5.heap.size := Nat.le_of_eq hK7
  have hwK : w.heap.size ≤ K7 := by omega
  clear hc5 ht5 hb5 ht HB4 hz4 HC4 HT4 hK7
  go_wp2
  go_loopw [10] (fun r wr => ∃ (i m least : Nat) (L : List B.HD), i ≤ n1 ∧ r = .int .i64 i ∧ m ≤ n ∧ least ≤ 4096 ∧ B.tot L ≤ m ∧ Hid (EncC wr eB s false least) ∧ Hid (Tab wr s L m) ∧ Hid (DecC wr dB (some ⟨t, 0, none⟩) n L.length) ∧ Hid (Tab wr t L m) ∧ Hid (Below w.heap.size w wr) ∧ K7 ≤ wr.heap.size) (fun r _ => n1 - (intOf r).toNat)
  case atStart => exact ⟨0, n, 0, [], by omega, rfl, Nat.le_refl _, Nat.zero_le _, Nat.zero_le _, HC5, HT5, HD5, HU5, HB5, hzK⟩
  case round =>
    clear HC5 HT5 HD5 HU5 HB5 hzK
    obtain ⟨i, m, least, L, hi, rfl, hmn, hll, htL, HC, HT, HD, HU, HB, hzr⟩ := hrel
    by_cases hlt : i < n1
    case neg =>
      obtain rfl : i = n1 := by omega
      have q1 : ¬ (i : Int) < (i : Int) := by omega
      go_wp2
      go_ret
      exact ⟨rfl, HB.out⟩
    obtain ⟨x, hx⟩ : ∃ x, l1[i]? = some x := ⟨_, List.getElem?_eq_getElem (by rw [HL.out]; exact hlt)⟩
    have hsx := HS.out x (List.mem_of_getElem? hx)
    obtain ⟨b, o, rfl, hbK, k0, k1, kq⟩ := HR.out i x hx
    obtain ⟨sz, xa, xc, xl⟩ := x
    simp only at k0 k1 kq hsx
    obtain ⟨hxl, hxs⟩ := hsx
    have HX0 : Hid (∀ ww, Below w.heap.size w ww → ww.cell? ⟨b, o + i * 2, none⟩ = some (.int .i64 sz) ∧ ww.cell? ⟨b, o + i * 2 + 1, none⟩ = some (.slice xa xl.length xc)) := fun ww h => ⟨cell_belowB h hbK k0, cell_belowB h hbK k1⟩
    have HXq := Lib.hid kq
    obtain ⟨d0, d1⟩ := HX0.out wr HB.out
    have q1 : (i : Int) < (n1 : Int) := by omega
    have q0 : (0 : Int) ≤ (i : Int) := by omega
    clear hx k0 k1 kq
    have hzw := HB.out.size
    have HSz := Lib.hid (ksize_any xa xl.length xc xl wr rfl hxl (HXq.out.belowB HB.out (Nat.le_refl _)) hzw (fun y hy => ⟨Nat.le_trans (hxs y hy).1 (by decide), Nat.le_trans (hxs y hy).2 (by decide)⟩))
    go_wp2_with fail
    refine HSz.out.mono ?_
    rintro e w6 ⟨rfl, hb6⟩
    have HC6 := Lib.hid (HC.out.below hb6)
    have HT6 := Lib.hid (HT.out.below hb6)
    have HD6 := Lib.hid (HD.out.below hb6)
    have HU6 := Lib.hid (HU.out.below hb6)
    have HB6 := Lib.hid (HB.out.trans (hb6.mono hzw))
    have hz6 := hb6.size
    clear hb6 HSz d0 d1 HC HT HD HU HB
    by_cases hbig : 16384 < P.totA xl
    · have q : (16384 : Int) < (P.totA xl : Int) := by omega
      go_wp2
      go_ret
      exact ⟨rfl, HB6.out⟩
    have q : ¬ (16384 : Int) < (P.totA xl : Int) := by omega
    obtain ⟨d0, d1⟩ := HX0.out w6 HB6.out
    go_upto_region 13 with (fail)
    go_cut [85] from 48 to 166 (fun v wx => v = .bool false ∧ ∃ (ask : Bool) (m7 least7 : Nat) (L7 : List B.HD), m7 ≤ n ∧ least7 ≤ 4096 ∧ B.tot L7 ≤ m7 ∧ Hid (P.szs ask least7 m7 = P.szs ask m7 m7) ∧ Hid ((ask = true → L7 = B.shr m7 L) ∧ (ask = false → L7 = L ∧ m7 = m)) ∧ Hid (EncC wx eB s ask least7) ∧ Hid (Tab wx s L7 m7) ∧ Hid (DecC wx dB (some ⟨t, 0, none⟩) n L.length) ∧ Hid (Tab wx t L m) ∧ Hid (Below w.heap.size w wx) ∧ K7 ≤ wx.heap.size)
    case first =>
      rcases (by omega : sz < 0 ∨ (0 ≤ sz ∧ (n : Int) < sz) ∨ (0 ≤ sz ∧ sz ≤ (n : Int))) with hc | ⟨hc, hc2⟩ | ⟨hc, hc2⟩
      · have hd : decide (0 ≤ sz) = false := by simp; omega
        go_wp2
        go_meet
        exact ⟨rfl, false, m, least, L, hmn, hll, htL, (by show _ = _; rfl), (by show _ ∧ _; exact ⟨fun h => (by cases h), fun _ => ⟨rfl, rfl⟩⟩), HC6, HT6, HD6, HU6, HB6, by omega⟩
      · have hd : decide (0 ≤ sz) = true := by simp; omega
        have hd2 : decide (sz ≤ (n : Int)) = false := by simp; omega
        go_wp2
        go_meet
        exact ⟨rfl, false, m, least, L, hmn, hll, htL, (by show _ = _; rfl), (by show _ ∧ _; exact ⟨fun h => (by cases h), fun _ => ⟨rfl, rfl⟩⟩), HC6, HT6, HD6, HU6, HB6, by omega⟩
      · have hd : decide (0 ≤ sz) = true := by simp; omega
        have hd2 : decide (sz ≤ (n : Int)) = true := by simp; omega
        obtain ⟨kz, rfl⟩ : ∃ kz : Nat, sz = kz := ⟨sz.toNat, by omega⟩
        have HRs := Lib.hid (kresize_yes eB s m kz L false least w6 HC6.out HT6.out (by omega) (by omega))
        unfold ResPost at HRs
        go_wp2_with (go_at_call 25; refine HRs.out.mono ?_; rintro e w7 ⟨rfl, hc7, ht7, ho7⟩)
        go_meet
        have hc7' : EncC w7 eB s true kz := by simpa using hc7
        have hz7 := ho7.size
        exact ⟨rfl, true, kz, kz, B.shr kz L, by omega, by omega, B.shr_tot _ _, (by show _ = _; rfl), (by show _ ∧ _; exact ⟨fun _ => rfl, fun h => (by cases h)⟩), hc7', ht7, HD6.out.block (ho7.block dB (by omega) (by omega) (by omega)), HU6.out.at (ho7.block t (by omega) (by omega) (by omega)), Only2.below HB6.out ho7 (by omega) (by omega) (by omega), by omega⟩
    case rest =>
      obtain ⟨rfl, ask, m7, least7, L7, hm7, hl7, htL7, HSe, HAs, HC7, HT7, HD7, HU7, HB7, hz7⟩ := hcut
      clear HC6 HT6 HD6 HU6 HB6 hz6 d0 d1
      obtain ⟨d0, d1⟩ := HX0.out wc HB7.out
      have hk512 := P.totA_len xl
      have HSz2 : Hid (∀ x ∈ xl, x.1.1.size ≤ 16384 ∧ x.1.2.size ≤ 16384) := fun x hx => by
        have := P.totA_mem hx
        unfold B.sz at this
        omega
      have hbs0 := P.enc_lt (m := m7) (by omega) xl L7 htL7 (fun x hx => ⟨Nat.le_trans (HSz2.out x hx).1 (by decide), Nat.le_trans (HSz2.out x hx).2 (by decide)⟩)
      have hbs : ∀ x ∈ P.szs ask m7 m7 ++ (P.enc m7 L7 xl).1, x < 256 := fun x hx => by
        rcases List.mem_append.1 hx with h | h
        · exact szs_lt (by omega) (by omega) x h
        · exact hbs0 x h
      have hbl := P.enc_len m7 32768 xl L7 (fun x hx => by have := HSz2.out x hx; omega)
      have hbl2 : xl.length * (32768 + 33) ≤ 1000 * (32768 + 33) := Nat.mul_le_mul_right _ (by omega)
      have hbl3 : (P.szs ask m7 m7 ++ (P.enc m7 L7 xl).1).length ≤ 1000000000 := by
        have := szs_len ask m7 m7
        rw [List.length_append]
        omega
      have hblk := blk_back (m := m7) (m0 := m) ask (by omega) (lim := n) hm7 L7 L HAs.out.1 HAs.out.2 htL7 xl (by omega)
      have htL' := P.enc_tot (m := m7) xl L7 htL7
      have hNR : NRd (fun b => b < wc.heap.size ∧ b ≠ s ∧ b ≠ eB) wc xa xl := fun j x hx => by
        obtain ⟨b, o, e, hbw, c⟩ := (HXq.out.belowB HB7.out (Nat.le_refl _)) j x hx
        exact ⟨b, o, e, ⟨by omega, by omega, by omega⟩, c⟩
      have HEn := Lib.hid (Encode_any eB s m7 L7 ask least7 xa xl.length xc xl wc HC7.out HT7.out (by omega) (fun _ => hl7) rfl hNR (by omega) (fun x hx => by have := HSz2.out x hx; omega))
      rw [HSe.out] at HEn
      generalize P.szs ask m7 m7 ++ (P.enc m7 L7 xl).1 = bs at *
      generalize (P.enc m7 L7 xl).2 = L' at *
      have HBs := Lib.hid hbs
      have HBlk := Lib.hid hblk
      clear hbs hbs0 hblk hbl hbl2 hNR HC7 HT7 HSe HAs
      go_wp2_with fail
      refine HEn.out.mono ?_
      rintro e w8 ⟨v8, rfl, hv8, hc8, ht8, ho8⟩
      obtain ⟨ba, bc, rfl, hbc, hbr, hbn⟩ := ownN_rd3 hv8 HBs.out
      have hz8 := ho8.size
      have HC8 := Lib.hid hc8
      have HT8 := Lib.hid ht8
      have HD8 := Lib.hid (HD7.out.block (ho8.block dB (by omega) (by omega) (by omega)))
      have HU8 := Lib.hid (HU7.out.at (ho8.block t (by omega) (by omega) (by omega)))
      have HB8 := Lib.hid (Only2.below HB7.out ho8 (by omega) (by omega) (by omega))
      have HDec := Lib.hid (Decode_any w E dB t n L.length w8.heap.size L m ba bs.length bc bs w8 HD8.out HU8.out (by omega) hn (by omega) ⟨HE.out, fun k hk => HB8.out.block k hk⟩ ⟨rfl, hbc, hbr, fun ad e hne => by have := hbn ad e hne; omega⟩ (Nat.le_refl _) hbl3)
      rw [HBlk.out] at HDec
      unfold DecPost at HDec
      simp only at HDec
      clear hv8 hc8 ht8 ho8 hbr hbn HEn HD7 HU7 HB7 d0 d1
      go_wp2_with fail
      refine HDec.out.mono ?_
      rintro e w9 ⟨ho9, lv, rfl, hq9, ht9, hd9⟩
      have hz9 := ho9.size
      have HC9 := Lib.hid (HC8.out.block (ho9.block eB (by omega) (by omega) (by omega)))
      have HT9 := Lib.hid (HT8.out.at (ho9.block s (by omega) (by omega) (by omega)))
      have HB9 : Hid (Below w.heap.size w w9) := HB8.out.trans ⟨ho9.os, ho9.tape, ho9.output, ho9.size, fun i hi => ho9.block i (by omega) (by omega) (by omega)⟩
      have HD9 : Hid (DecC w9 dB (some ⟨t, 0, none⟩) n L'.length) := hd9
      have HU9 := Lib.hid ht9
      obtain ⟨la, lc, rfl, _, hlr⟩ := hq9.rdB
      have HLr := Lib.hid hlr
      have hz97 : K7 ≤ w9.heap.size := by omega
      obtain ⟨d0, d1⟩ := HX0.out w9 HB9.out
      clear ho9 hq9 ht9 hd9 hlr HDec HC8 HT8 HD8 HU8 HB8
      go_wp2
      have H0 : Hid (Below w9.heap.size w9 w9) := Below.refl _ _
      clear d0 d1
      go_loopw [14] (fun j wy => ∃ k : Nat, k ≤ xl.length ∧ j = .int .i64 k ∧ Hid (Below w9.heap.size w9 wy)) (fun j _ => xl.length - (intOf j).toNat)
      case atStart => exact ⟨0, Nat.zero_le _, rfl, H0⟩
      case round =>
        clear H0
        obtain ⟨k, hk, rfl, HW⟩ := hrel
        have hzW := HW.out.size
        by_cases hlk : k < xl.length
        · have q3 : (k : Int) < (xl.length : Int) := by omega
          have q4 : (0 : Int) ≤ (k : Int) := by omega
          have hBW := HB9.out.trans (HW.out.mono (by omega))
          obtain ⟨d0, d1⟩ := HX0.out wr hBW
          obtain ⟨x, hx⟩ : ∃ x, xl[k]? = some x := ⟨_, List.getElem?_eq_getElem hlk⟩
          obtain ⟨gb, go, e, _, y0, y1, y2⟩ := (HLr.out.belowB HW.out (Nat.le_refl _)) k x hx
          subst e
          obtain ⟨hb, ho, e, _, z0, z1, z2⟩ := (HXq.out.belowB hBW (Nat.le_refl _)) k x hx
          subst e
          obtain ⟨⟨xn, xv⟩, xb⟩ := x
          simp only at y0 y1 y2 z0 z1 z2
          clear hx hBW
          go_upto_region 22 with (fail)
          go_quiet (fail)
          go_wp2
          go_roundw
          case rel => exact ⟨k + 1, by omega, by rw [Int.natCast_add]; rfl, below_q HW.out _⟩
          case measure => simp [intOf]; omega
        · obtain rfl : k = xl.length := by omega
          have q3 : ¬ (xl.length : Int) < (xl.length : Int) := by omega
          have HC10 := Lib.hid (HC9.out.below HW.out)
          have HT10 := Lib.hid (HT9.out.below HW.out)
          have HD10 := Lib.hid (HD9.out.below HW.out)
          have HU10 := Lib.hid (HU9.out.below HW.out)
          have HB10 := Lib.hid (HB9.out.trans (HW.out.mono (by omega)))
          go_wp2
          go_roundw
          case rel => exact ⟨i + 1, m7, least7, L', by omega, by rw [Int.natCast_add]; rfl, hm7, hl7, htL', HC10, HT10, HD10, HU10, HB10, by omega⟩
          case measure => simp [intOf]; omega
end Go.Proofs.YtcbljbdcnahfhaaDoor
