/-
HpackBound: whatever blocks a decoder is told, its table holds no more than its limit lets it.
-/
import Derived.Test.YtcbljbdcnahfhaaDoorMke
import Derived.Test.YtcbljbdcnahfhaaDoorKlist
import Derived.Test.YtcbljbdcnahfhaaDoorKargs
namespace Go.Proofs.YtcbljbdcnahfhaaDoor
open Go.RowKit

theorem run_neq_same (w : World) (a : Addr) : (binOp .neq 29 (.iface 166 (.pointer (some a))) (.iface 166 (.pointer (some a)))).run Tryd.prog w = .ok (.bool false) w := by
  obtain ⟨i1, hi1, hc⟩ := Option.map_eq_some_iff.1 comp_err
  obtain ⟨j1, hj1, hz⟩ := Option.map_eq_some_iff.1 size_err
  simp only [binOp]
  simp [Op.equal, Op.maxDepth, run_equalIn_iface_ptr_same w 9998 a Tryd.underlying29 Tryd.underlying166 hi1 hc hj1]
/-- A decoder that takes blocks, and its table. -/
def BSt (wr : World) (t dB m : Nat) (gone : Bool) : Prop :=
  (gone = true ∧ ∃ held, held * 32 ≤ m ∧ DecC wr dB none m held) ∨ (gone = false ∧ ∃ L mm, DecC wr dB (some ⟨t, 0, none⟩) m L.length ∧ Tab wr t L mm ∧ B.tot L ≤ mm ∧ mm ≤ m)
/-- A list that was told. -/
theorem size_qown {K : Nat} {w : World} {v : Value} {A : List (B.HD × Bool)} (hQ : QOwn K w v A) (hz : P.totA A ≤ 16384) : Calls Tryd.prog 31 #[v] w fun e w' => e = .returned (.int .i64 (P.totA A : Nat)) ∧ Below w.heap.size w w' := by
  obtain ⟨a, cp, rfl, _, hr⟩ := hQ.rdB
  have hl := P.totA_len A
  exact ksize_any a A.length cp A w rfl (by omega) hr (Nat.le_refl _) (fun x hx => by
    have := P.totA_mem hx
    unfold B.sz at this
    omega)

set_option maxRecDepth 100000 in
set_option maxHeartbeats 4000000 in
theorem hpackBound_law (E : Nat → Addr) (lim : Int) (a1 : Option Addr) (n1 c1 : Nat) (l1 : List BK) (w : World) (hl1 : l1.length = n1) (hr1 : BRd w.heap.size w a1 l1) (hE : ErrsAll w E kgs) :
    Calls Tryd.prog 8 #[.int .i64 lim, .slice a1 n1 c1] w (TruePost w) := by
  have HF := Lib.hid (kfirst_any E w hE)
  have HE := Lib.hid hE
  have HR := Lib.hid hr1
  have HL := Lib.hid hl1
  clear hr1 hE hl1
  go_enter Tryd.func8, Tryd.ntmps8
  go_wp2_with fail
  refine HF.out.mono ?_
  rintro e w1 ⟨rfl, hb1⟩
  have HB1 := Lib.hid hb1
  have hz1 := hb1.size
  clear hb1 HF
  by_cases hn : 20 < n1
  · have q : (20 : Int) < (n1 : Int) := by omega
    go_wp2
    go_ret
    exact ⟨rfl, HB1.out⟩
  have q : ¬ (20 : Int) < (n1 : Int) := by omega
  by_cases hm0 : lim < 0
  · go_wp2
    go_ret
    exact ⟨rfl, HB1.out⟩
  by_cases hm1 : 4096 < lim
  · go_wp2
    go_ret
    exact ⟨rfl, HB1.out⟩
  obtain ⟨m, rfl⟩ : ∃ m : Nat, lim = m := ⟨lim.toNat, by omega⟩
  have hm : m ≤ 4096 := by omega
  clear hm0
  go_wp2_with fail
  refine (NewDecoder_yes m w1 hm).mono ?_
  rintro e w2 ⟨dB, rfl, hd2, hc2, ht2, hb2⟩
  obtain ⟨t, ht⟩ : ∃ t, t = w1.heap.size := ⟨_, rfl⟩
  rw [← ht] at hd2 hc2 ht2
  have hwt : w.heap.size ≤ t := by omega
  have HB2 := Lib.hid (HB1.out.trans (hb2.mono hz1))
  have HS2 : Hid (BSt w2 t dB m false) := .inr ⟨rfl, [], m, hc2, ht2, Nat.zero_le _, Nat.le_refl _⟩
  have hdl := hc2.lt
  have htl := ht2.lt
  obtain ⟨K, hK⟩ : ∃ K, K = w2.heap.size := ⟨_, rfl⟩
  rw [← hK] at hdl htl
  have hKz : K ≤ w2.heap.size := Nat.le_of_eq hK
  have hwK : w.heap.size ≤ K := by omega
  clear hc2 ht2 hb2 ht hK HB1
  go_wp2
  go_loopw [8, 9] (fun gv i wr => ∃ (k : Nat) (gone : Bool), k ≤ n1 ∧ i = .int .i64 k ∧ gv = .bool gone ∧ Hid (BSt wr t dB m gone) ∧ Hid (Below w.heap.size w wr) ∧ K ≤ wr.heap.size) (fun _ i _ => n1 - (intOf i).toNat)
  case atStart => exact ⟨0, false, by omega, rfl, rfl, HS2, HB2, hKz⟩
  case round =>
    obtain ⟨k, gone, hk, rfl, rfl, HS, HB, hKr⟩ := hrel
    clear HS2 HB2 hKz
    have hzr := HB.out.size
    by_cases hlt : k < n1
    case neg =>
      obtain rfl : k = n1 := by omega
      have q1 : ¬ (k : Int) < (k : Int) := by omega
      go_wp2
      go_ret
      exact ⟨rfl, HB.out⟩
    obtain ⟨x, hx⟩ : ∃ x, l1[k]? = some x := ⟨_, List.getElem?_eq_getElem (by rw [HL.out]; exact hlt)⟩
    obtain ⟨b, o, rfl, hbw, d0, hcap, hrd⟩ := HR.out k x hx
    obtain ⟨xa, xc, xs⟩ := x
    simp only at d0 hcap hrd
    clear hx
    replace d0 := (HB.out.cell (p := ⟨b, o + k, none⟩) hbw).trans d0
    have q1 : (k : Int) < (n1 : Int) := by omega
    have q0 : (0 : Int) ≤ (k : Int) := by omega
    by_cases hlen : 300 < xs.length
    · have q2 : (300 : Int) < (xs.length : Int) := by omega
      go_wp2
      go_ret
      exact ⟨rfl, HB.out⟩
    have q2 : ¬ (300 : Int) < (xs.length : Int) := by omega
    have hek : EK w E wr := ⟨HE.out, fun k hk => HB.out.block k hk⟩
    have hKt : t < wr.heap.size := by omega
    have q3 : (4096 : Int) * 32 < 9223372036854775807 := by omega
    rcases HS.out with ⟨rfl, held, hh, hD⟩ | ⟨rfl, L, mm, hD, hT, ht1, ht2⟩
    · have HDec := Lib.hid (Decode_gone dB m held xa xs.length xc E wr hD hek.all)
      have HD := Lib.hid hD
      clear hek hD HS hrd
      go_wp2_with fail
      refine HDec.out.mono ?_
      rintro e w4 ⟨rfl, hb4⟩
      have HB4 := Lib.hid (HB.out.trans (hb4.mono hzr))
      have hz4 := hb4.size
      have HD4 := Lib.hid (HD.out.below hb4)
      have h14 : w4.cell? ⟨1, 0, none⟩ = some (eV E (eg 14)) := kgs_cell (ErrsAll.keep HE.out (fun k hk => HB4.out.block k hk)) 14 (by decide)
      unfold eV at h14 ⊢
      have hneq := run_neq_same w4 (E (eg 14))
      have HLen := Lib.hid (declen_any dB held w4 HD4.out.c2.1)
      have HSz := Lib.hid (size_qown (QOwn.nil w4.heap.size w4) (by decide))
      rw [show P.totA [] = 0 from rfl] at HSz
      have q4 : ¬ (m : Int) < (held : Int) * 32 := by omega
      clear hb4 HDec HD HB
      go_wp2_with (first | (go_at_call 36; refine HLen.out.mono ?_; rintro e w5 ⟨rfl, rfl⟩) | (go_at_call 31; refine HSz.out.mono ?_; rintro e w6 ⟨rfl, hb6⟩; have HB6 := Lib.hid (HB4.out.trans (hb6.mono HB4.out.size)); have HD6 := Lib.hid (HD4.out.below hb6); have hz6 := hb6.size; clear hb6))
      go_roundw
      case rel => exact ⟨k + 1, true, by omega, by rw [Int.natCast_add]; rfl, rfl, .inl ⟨rfl, held, hh, HD6.out⟩, HB6, by omega⟩
      case measure => simp [intOf]; omega
    · have hng : ∀ ad, xa = some ad → xs ≠ [] → ad.block ≠ t := fun ad e hne => by
        obtain ⟨bb, o', e2, hb', _⟩ := hrd.ptr hne
        rw [e] at e2
        cases e2
        simp only
        omega
      have HDec := Lib.hid (Decode_any w E dB t m L.length w.heap.size L mm xa xs.length xc xs wr hD hT (by omega) hm hwt hek ⟨rfl, hcap, hrd.below HB.out, hng⟩ hzr (by omega))
      have HInv : ∀ s', P.blk m xs.length ⟨L, mm, [], 0⟩ xs = .ok s' → P.Inv m s' := fun s' h => P.blk_inv _ _ _ _ h ⟨rfl, Nat.zero_le _, ht1, ht2⟩
      have hLl := B.tot_len L
      have q4 : ¬ (m : Int) < (L.length : Int) * 32 := by omega
      clear hek hD hT HS hrd hng
      cases hblk : P.blk m xs.length ⟨L, mm, [], 0⟩ xs with
      | error i =>
        rw [hblk] at HDec
        unfold DecPost at HDec
        simp only at HDec
        unfold eV at HDec
        clear HInv hblk
        go_wp2_with fail
        refine HDec.out.mono ?_
        rintro e w4 ⟨ho4, rfl, hD4⟩
        have HB4 : Hid (Below w.heap.size w w4) := HB.out.trans ⟨ho4.os, ho4.tape, ho4.output, ho4.size, fun i hi => ho4.block i (by omega) (by omega) (by omega)⟩
        have hz4 := ho4.size
        have HD4 := Lib.hid hD4
        have HLen := Lib.hid (declen_any dB L.length w4 hD4.c2.1)
        have HSz := Lib.hid (size_qown (QOwn.nil w4.heap.size w4) (by decide))
        rw [show P.totA [] = 0 from rfl] at HSz
        clear ho4 hD4 HDec HB
        go_wp2_with (first | (go_at_call 36; refine HLen.out.mono ?_; rintro e w5 ⟨rfl, rfl⟩) | (go_at_call 31; refine HSz.out.mono ?_; rintro e w6 ⟨rfl, hb6⟩; have HB6 := Lib.hid (HB4.out.trans (hb6.mono HB4.out.size)); have HD6 := Lib.hid (HD4.out.below hb6); have hz6 := hb6.size; clear hb6))
        go_roundw
        case rel => exact ⟨k + 1, true, by omega, by rw [Int.natCast_add]; rfl, rfl, .inl ⟨rfl, L.length, by omega, HD6.out⟩, HB6, by omega⟩
        case measure => simp [intOf]; omega
      | ok s' =>
        obtain ⟨i1, i2, i3, i4⟩ := HInv s' hblk
        have hA : P.totA s'.A ≤ 16384 := by omega
        have hLl' := B.tot_len s'.L
        have q5 : ¬ (m : Int) < (s'.L.length : Int) * 32 := by omega
        have q6 : ¬ (16384 : Int) < (P.totA s'.A : Int) := by omega
        rw [hblk] at HDec
        unfold DecPost at HDec
        simp only at HDec
        clear HInv hblk i1
        go_wp2_with fail
        refine HDec.out.mono ?_
        rintro e w4 ⟨ho4, lv, rfl, hq4, hT4, hD4⟩
        have HB4 : Hid (Below w.heap.size w w4) := HB.out.trans ⟨ho4.os, ho4.tape, ho4.output, ho4.size, fun i hi => ho4.block i (by omega) (by omega) (by omega)⟩
        have hz4 := ho4.size
        have HD4 := Lib.hid hD4
        have HT4 := Lib.hid hT4
        have HLen := Lib.hid (declen_any dB s'.L.length w4 hD4.c2.1)
        have HSz := Lib.hid (size_qown hq4 hA)
        obtain ⟨la, lc, rfl⟩ := hq4.form
        clear ho4 hD4 hT4 hq4 HDec HB
        go_wp2_with (first | (go_at_call 36; refine HLen.out.mono ?_; rintro e w5 ⟨rfl, rfl⟩) | (go_at_call 31; refine HSz.out.mono ?_; rintro e w6 ⟨rfl, hb6⟩; have HB6 := Lib.hid (HB4.out.trans (hb6.mono HB4.out.size)); have HD6 := Lib.hid (HD4.out.below hb6); have HT6 := Lib.hid (HT4.out.below hb6); have hz6 := hb6.size; clear hb6))
        go_roundw
        case rel => exact ⟨k + 1, false, by omega, by rw [Int.natCast_add]; rfl, rfl, .inr ⟨rfl, s'.L, s'.m, HD6.out, HT6.out, i3, i4⟩, HB6, by omega⟩
        case measure => simp [intOf]; omega
end Go.Proofs.YtcbljbdcnahfhaaDoor
