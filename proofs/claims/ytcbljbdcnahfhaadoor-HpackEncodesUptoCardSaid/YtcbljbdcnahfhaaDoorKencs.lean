/-
HpackEncodes: an encoder writes any lists, one behind the other, with any sizes between, as the reference does.
-/
import Derived.Test.YtcbljbdcnahfhaaDoorKxen
import Derived.Test.YtcbljbdcnahfhaaDoorKencw
import Derived.Test.YtcbljbdcnahfhaaDoorKrsz
import Derived.Test.YtcbljbdcnahfhaaDoorKres
import Derived.Test.YtcbljbdcnahfhaaDoorKblocks
namespace Go.Proofs.YtcbljbdcnahfhaaDoor
open Go.RowKit

theorem run_eql_same (w : World) (a : Addr) : (binOp .eql 29 (.iface 166 (.pointer (some a))) (.iface 166 (.pointer (some a)))).run Tryd.prog w = .ok (.bool true) w := by
  obtain ⟨i1, hi1, hc⟩ := Option.map_eq_some_iff.1 comp_err
  obtain ⟨j1, hj1, hz⟩ := Option.map_eq_some_iff.1 size_err
  exact run_eql_iface_ptr_same w a Tryd.underlying29 Tryd.underlying166 hi1 hc hj1
theorem szs_lt2 {asked : Bool} {least m : Nat} (h1 : asked = true → least ≤ 4096) (h2 : m ≤ 4096) : ∀ x ∈ P.szs asked least m, x < 256 := by
  intro x hx
  have f5 : P.full 5 = 31 := by decide
  unfold P.szs at hx
  split at hx
  · rename_i ha
    have := h1 ha
    rcases List.mem_append.1 hx with hx | hx
    · split at hx
      · exact P.put_lt (by omega) (by omega) x hx
      · cases hx
    · exact P.put_lt (by omega) (by omega) x hx
  · cases hx
theorem Rx.two {w w' : World} {K gx M p q : Nat} {A : List B.HD} (h : Rx w K gx A M) (ho : Only2 w.heap.size p q w w') (h1 : gx ≠ p) (h2 : gx ≠ q) (hp : p < K) (hq : q < K) : Rx w' K gx A M :=
  h.same (ho.block gx h.lt h1 h2) (fun i v hc e => by
    obtain ⟨v', h0, _, hO, _⟩ := h
    rw [h0.1] at hc
    cases hc
    have := hO.lt i e
    exact ho.block i this.2 (by omega) (by omega))
theorem xNew_at (m : Nat) (w : World) : Calls Tryd.prog 24 #[.int .i64 (m : Nat)] w fun e w' =>
    ∃ xB gx K, e = .returned (.pointer (some ⟨xB, 0, none⟩)) ∧ gx = w.heap.size ∧ xB = gx + 1 ∧ K = gx + 2 ∧ ExC w' xB gx false 0 0 ∧ Rx w' K gx [] m ∧ K ≤ w'.heap.size ∧ Below w.heap.size w w' :=
  (xNew_any m w).mono fun e w' ⟨h1, h2, h3, h4, h5⟩ => ⟨w.heap.size + 1, w.heap.size, w.heap.size + 2, h1, rfl, rfl, rfl, h2, h3, by omega, h5⟩
/-- The two encoders, of the same table. -/
def TwoE (wr : World) (eB s xB gx K m least lx last : Nat) (asked : Bool) (L : List B.HD) : Prop :=
  EncC wr eB s asked least ∧ Tab wr s L m ∧ ExC wr xB gx asked lx last ∧ Rx wr K gx L.reverse m ∧ B.tot L ≤ m ∧ m ≤ 4096 ∧ (asked = true → last = m ∧ lx = least ∧ least ≤ 4096)

set_option maxRecDepth 100000 in
set_option maxHeartbeats 8000000 in
theorem hpackEncodes_law (E : Nat → Addr) (nn : Int) (a1 : Option Addr) (n1 c1 : Nat) (l1 : List KB) (w : World) (hl1 : l1.length = n1) (hr1 : KRd w.heap.size w a1 l1) (hs1 : KSz 1048576 l1) (hE : ErrsAll w E kgs) :
    Calls Tryd.prog 5 #[.int .i64 nn, .slice a1 n1 c1] w (TruePost w) := by
  have HF := Lib.hid (kfirst_any E w hE)
  have HE := Lib.hid hE
  have HR := Lib.hid hr1
  have HL := Lib.hid hl1
  have HS := Lib.hid hs1
  clear hr1 hE hl1 hs1
  go_enter Tryd.func5, Tryd.ntmps5
  go_wp2_with fail
  refine HF.out.mono ?_
  rintro e w1 ⟨rfl, hb1⟩
  have HB1 := Lib.hid hb1
  have hz1 := hb1.size
  clear hb1 HF
  go_wp2_with fail
  refine (kall_any a1 n1 c1 l1 w1 HL.out (HR.out.belowB HB1.out (Nat.le_refl _)) hz1 HS.out).mono ?_
  rintro e w2 ⟨⟨b, rfl, hb20⟩, hb2⟩
  have HB2 := Lib.hid (HB1.out.trans (hb2.mono hz1))
  have hz2 := HB2.out.size
  clear hb2 HB1 hz1
  cases b
  · go_wp2
    go_ret
    exact ⟨rfl, HB2.out⟩
  have hn20 := (hb20 rfl).1
  have H60 := Lib.hid (hb20 rfl).2
  clear hb20
  have HTE : Hid (∀ ww, Below w.heap.size w ww → ww.cell? ⟨0, 0, none⟩ = some (eV E (eg 8))) := fun ww h => kgs_cell (ErrsAll.keep HE.out (fun k hk => h.block k hk)) 8 (by decide)
  unfold eV at HTE
  by_cases hm01 : ¬ (0 ≤ nn ∧ nn ≤ 4096)
  · have HN := Lib.hid (NewEncoder_no nn (E (eg 8)) w2 hm01 (HTE.out w2 HB2.out))
    go_wp2_with fail
    refine HN.out.mono ?_
    rintro e w3 ⟨rfl, hb3⟩
    have HB3 := Lib.hid (HB2.out.trans (hb3.mono hz2))
    have heq := run_eql_same w3 (E (eg 8))
    have hc := HTE.out w3 HB3.out
    clear hb3 HN
    rcases (by omega : nn < 0 ∨ (¬ nn < 0 ∧ 4096 < nn)) with h | ⟨h, h2⟩
    · go_wp2
      go_ret
      exact ⟨rfl, HB3.out⟩
    · go_wp2
      go_ret
      exact ⟨rfl, HB3.out⟩
  have hm01 : 0 ≤ nn ∧ nn ≤ 4096 := Classical.byContradiction hm01
  obtain ⟨n, rfl⟩ : ∃ n : Nat, nn = n := ⟨nn.toNat, by omega⟩
  have hn : n ≤ 4096 := by omega
  have hnn0 : ¬ (n : Int) < 0 := by omega
  have hnn1 : ¬ (4096 : Int) < (n : Int) := by omega
  clear hm01
  go_wp2_with fail
  refine (NewEncoder_yes n w2 hn).mono ?_
  rintro e w4 ⟨eB, rfl, he4, hc4, ht4, hb4⟩
  obtain ⟨s, hs⟩ : ∃ s, s = w2.heap.size := ⟨_, rfl⟩
  rw [← hs] at he4 hc4 ht4
  have hws : w.heap.size ≤ s := by omega
  have hel := hc4.lt
  have HC4 := Lib.hid hc4
  have HT4 := Lib.hid ht4
  have HB4 := Lib.hid (HB2.out.trans (hb4.mono hz2))
  have hz4 := HB4.out.size
  clear hc4 ht4 hb4 hs HB2 hz2
  go_wp2_with fail
  refine (xNew_at n w4).mono ?_
  rintro e w5 ⟨xB, gx, K, rfl, hgx, hxB, hK, hx5, hr5, hzK, hb5⟩
  have f0 : w.heap.size ≤ gx := by omega
  have f1 : eB < gx := by omega
  have f2 : s < gx := by omega
  have f3 : gx < xB := by omega
  have f4 : xB < K := by omega
  clear hgx hxB hK
  have HW5 : Hid (TwoE w5 eB s xB gx K n 0 0 0 false []) := ⟨HC4.out.below hb5, HT4.out.below hb5, hx5, hr5, Nat.zero_le _, hn, fun h => by cases h⟩
  have HB5 := Lib.hid (HB4.out.trans (hb5.mono hz4))
  clear hx5 hr5 hb5 HC4 HT4 HB4
  go_wp2
  go_loopw [9] (fun r wr => ∃ (i m least lx last : Nat) (asked : Bool) (L : List B.HD), i ≤ n1 ∧ r = .int .i64 i ∧ Hid (TwoE wr eB s xB gx K m least lx last asked L) ∧ Hid (Below w.heap.size w wr) ∧ K ≤ wr.heap.size) (fun r _ => n1 - (intOf r).toNat)
  case atStart => exact ⟨0, n, 0, 0, 0, false, [], by omega, rfl, HW5, HB5, hzK⟩
  case round =>
    clear HW5 HB5 hzK
    obtain ⟨i, m, least, lx, last, asked, L, hi, rfl, HW, HB, hzr⟩ := hrel
    by_cases hlt : i < n1
    case neg =>
      obtain rfl : i = n1 := by omega
      have q1 : ¬ (i : Int) < (i : Int) := by omega
      go_wp2
      go_ret
      exact ⟨rfl, HB.out⟩
    obtain ⟨x, hx⟩ : ∃ x, l1[i]? = some x := ⟨_, List.getElem?_eq_getElem (by rw [HL.out]; exact hlt)⟩
    have hsx := HS.out x (List.mem_of_getElem? hx)
    have h60 := H60.out x (List.mem_of_getElem? hx)
    obtain ⟨b, o, rfl, hbK, k0, k1, kq⟩ := HR.out i x hx
    obtain ⟨sz, xa, xc, xl⟩ := x
    simp only at k0 k1 kq hsx h60
    obtain ⟨hxl, hxs⟩ := hsx
    have HX0 : Hid (∀ ww, Below w.heap.size w ww → ww.cell? ⟨b, o + i * 2, none⟩ = some (.int .i64 sz) ∧ ww.cell? ⟨b, o + i * 2 + 1, none⟩ = some (.slice xa xl.length xc)) := fun ww h => ⟨cell_belowB h hbK k0, cell_belowB h hbK k1⟩
    have HXq := Lib.hid kq
    obtain ⟨d0, d1⟩ := HX0.out wr HB.out
    have q1 : (i : Int) < (n1 : Int) := by omega
    have q0 : (0 : Int) ≤ (i : Int) := by omega
    clear hx k0 k1 kq
    have hzw := HB.out.size
    obtain ⟨can, hcan0⟩ : ∃ can, can = decide (0 ≤ sz ∧ sz ≤ 4096) := ⟨_, rfl⟩
    have hcan := Lib.hid hcan0
    clear hcan0
    go_upto_region 13 with (fail)
    go_cut [10] from 49 to 146 (fun v wx => v = .bool can ∧ wr = wx)
    case first =>
      rcases (by omega : sz < 0 ∨ (0 ≤ sz ∧ 4096 < sz) ∨ (0 ≤ sz ∧ sz ≤ 4096)) with hc | ⟨hc, hc2⟩ | ⟨hc, hc2⟩
      · have hd : decide (0 ≤ sz) = false := by simp; omega
        have hcf : can = false := by rw [hcan.out]; simp; omega
        go_wp2
        go_meet
        exact ⟨by rw [hcf], rfl⟩
      · have hd : decide (0 ≤ sz) = true := by simp; omega
        have hd2 : decide (sz ≤ 4096) = false := by simp; omega
        have hcf : can = false := by rw [hcan.out]; simp; omega
        go_wp2
        go_meet
        exact ⟨by rw [hcf], rfl⟩
      · have hd : decide (0 ≤ sz) = true := by simp; omega
        have hd2 : decide (sz ≤ 4096) = true := by simp; omega
        have hcf : can = true := by rw [hcan.out]; simp; omega
        go_wp2
        go_meet
        exact ⟨by rw [hcf], rfl⟩
    case rest =>
      obtain ⟨rfl, rfl⟩ := hcut
      obtain ⟨hEc, hTb, hXc, hRx, htL, hm4, hlk⟩ := HW.out
      have HEc := Lib.hid hEc
      have HTb := Lib.hid hTb
      have HXc := Lib.hid hXc
      have HRx := Lib.hid hRx
      have HLk := Lib.hid hlk
      obtain ⟨kz, hkz0⟩ : ∃ kz, kz = sz.toNat := ⟨_, rfl⟩
      have hkz := Lib.hid hkz0
      clear hkz0
      clear hEc hTb hXc hRx hlk HW
      go_upto_region 14 with (fail)
      go_cut [86] from 49 to 146 (fun v wx => v = .bool false ∧ ∃ (m1 least1 : Nat) (ask1 : Bool) (L1 : List B.HD), Hid (EncC wx eB s ask1 least1 ∧ Tab wx s L1 m1) ∧ Hid (ExC wx xB gx asked lx last ∧ Rx wx K gx L.reverse m) ∧ Hid (Below w.heap.size w wx) ∧ K ≤ wx.heap.size ∧ Hid ((can = true → ask1 = true ∧ least1 = (if asked = false ∨ kz < least then kz else least) ∧ L1 = B.shr kz L ∧ m1 = kz ∧ sz = kz ∧ kz ≤ 4096) ∧ (can = false → ask1 = asked ∧ least1 = least ∧ L1 = L ∧ m1 = m)))
      case first =>
        by_cases hneg : sz = -1
        · obtain rfl : can = false := by rw [hcan.out]; simp; omega
          subst hneg
          go_wp2
          go_meet
          exact ⟨rfl, m, least, asked, L, ⟨HEc.out, HTb.out⟩, ⟨HXc.out, HRx.out⟩, HB, hzr, (by show _ ∧ _; exact ⟨fun h => (by cases h), fun _ => ⟨rfl, rfl, rfl, rfl⟩⟩)⟩
        · have hnb : (sz != -1) = true := by simp; omega
          by_cases hc : 0 ≤ sz ∧ sz ≤ 4096
          · obtain rfl : can = true := by rw [hcan.out]; simp; omega
            obtain rfl : sz = (kz : Int) := by have := hkz.out; omega
            have hkz4 : kz ≤ 4096 := by omega
            have HRs := Lib.hid (kresize_yes eB s m kz L asked least wr HEc.out HTb.out (by omega) hkz4)
            unfold ResPost at HRs
            go_wp2_with (go_at_call 25; refine HRs.out.mono ?_; rintro e w7 ⟨rfl, hc7, ht7, ho7⟩)
            go_meet
            have hz7 := ho7.size
            refine ⟨rfl, kz, if asked = false ∨ kz < least then kz else least, true, B.shr kz L, ⟨by simpa using hc7, ht7⟩, ⟨HXc.out.block (ho7.block xB (by have := HXc.out.lt; omega) (by omega) (by omega)), HRx.out.two ho7 (by omega) (by omega) (by omega) (by omega)⟩, Only2.below HB.out ho7 (by omega) (by omega) (by omega), by omega, (by show _ ∧ _; exact ⟨fun _ => ⟨by trivial, by trivial, by trivial, by trivial, by trivial, hkz4⟩, fun h => (by cases h)⟩)⟩
          · obtain rfl : can = false := by rw [hcan.out]; simp; omega
            have HRs := Lib.hid (kresize_no eB s sz asked least (E (eg 8)) wr HEc.out hc (HTE.out wr HB.out))
            go_wp2_with (go_at_call 25; refine HRs.out.mono ?_; rintro e w7 ⟨rfl, rfl⟩)
            go_meet
            exact ⟨rfl, m, least, asked, L, ⟨HEc.out, HTb.out⟩, ⟨HXc.out, HRx.out⟩, HB, hzr, (by show _ ∧ _; exact ⟨fun h => (by cases h), fun _ => ⟨rfl, rfl, rfl, rfl⟩⟩)⟩
      case rest =>
        obtain ⟨rfl, m1, least1, ask1, L1, HE1, HX1, HB1, hz1, HL1⟩ := hcut
        clear HEc HTb HXc HRx HB hzr d0 d1 hzw
        obtain ⟨d0, d1⟩ := HX0.out wc HB1.out
        have hzw := HB1.out.size
        go_upto_if 87 with (fail)
        go_cut [10] from 49 to 146 (fun v wx => v = .bool can ∧ ∃ (m least lx last : Nat) (asked : Bool) (L : List B.HD), Hid (TwoE wx eB s xB gx K m least lx last asked L) ∧ Hid (Below w.heap.size w wx) ∧ K ≤ wx.heap.size)
        case first =>
          cases can
          · obtain ⟨rfl, rfl, rfl, rfl⟩ := HL1.out.2 rfl
            go_wp2
            go_meet
            exact ⟨rfl, _, _, lx, last, _, _, ⟨HE1.out.1, HE1.out.2, HX1.out.1, HX1.out.2, htL, hm4, HLk.out⟩, HB1, hz1⟩
          · obtain ⟨rfl, hl1', rfl, rfl, rfl, hkz4⟩ := HL1.out.1 rfl
            have hl1 := Lib.hid hl1'
            clear hl1'
            have HRs := Lib.hid (xResize_any K xB gx m1 m L.reverse asked lx last wc hz1 (by omega) (by omega) HX1.out.1 HX1.out.2 (by rw [B.tot_rev]; omega))
            unfold XResPost at HRs
            rw [B.rm_shr] at HRs
            go_wp2_with fail
            refine HRs.out.mono ?_
            rintro e w7 ⟨rfl, hx7, hr7, ho7⟩
            have hz7 := ho7.size
            have HX7 := Lib.hid hx7
            have HR7 := Lib.hid hr7
            have HE7 := Lib.hid (HE1.out.1.block (ho7.block eB (by have := HE1.out.1.lt; omega) (by omega) (by omega)))
            have HT7 := Lib.hid (HE1.out.2.at (ho7.block s (by have := HE1.out.2.lt; omega) (by omega) (by omega)))
            have HB7 := Lib.hid (Only2.below HB1.out ho7 (by omega) (by omega) (by omega))
            clear hx7 hr7 ho7 HRs
            go_wp2
            go_meet
            refine ⟨rfl, m1, least1, if asked = false ∨ m1 < lx then m1 else lx, m1, true, B.shr m1 L, ⟨HE7.out, HT7.out, HX7.out, HR7.out, B.shr_tot _ _, hkz4, fun _ => ⟨rfl, ?_, ?_⟩⟩, HB7, by omega⟩
            · rw [hl1.out]
              cases asked with
              | false => simp
              | true =>
                obtain ⟨_, e, _⟩ := HLk.out rfl
                rw [e]
            · rw [hl1.out]
              split
              · exact hkz4
              · rename_i h
                have ha : asked = true := by
                  cases asked with
                  | true => rfl
                  | false => exact absurd (Or.inl rfl) h
                exact (HLk.out ha).2.2
        case rest =>
          obtain ⟨rfl, m, least, lx, last, asked, L, HW, HB, hzr⟩ := hcut
          clear HE1 HX1 HB1 hz1 HL1 HLk d0 d1 hzw
          obtain ⟨d0, d1⟩ := HX0.out _ HB.out
          by_cases hm3 : i % 3 = 2
          · have hmv : ((i : Int) % 3 == 2) = true := by simp; omega
            go_wp2
            go_roundw
            case rel => exact ⟨i + 1, m, least, lx, last, asked, L, by omega, by rw [Int.natCast_add]; rfl, HW, HB, hzr⟩
            case measure => simp [intOf]; omega
          · have hmv : ((i : Int) % 3 == 2) = false := by simp; omega
            obtain ⟨hEc, hTb, hXc, hRx, htL, hm4, hlk⟩ := HW.out
            have HEc := Lib.hid hEc
            have HTb := Lib.hid hTb
            have HXc := Lib.hid hXc
            have HRx := Lib.hid hRx
            have HLk := Lib.hid hlk
            have hzw := HB.out.size
            clear hEc hTb hXc hRx hlk HW
            have HSz2 : Hid (∀ x ∈ xl, x.1.1.size ≤ 1048576 ∧ x.1.2.size ≤ 1048576) := hxs
            have hbs0 := P.enc_lt (m := m) hm4 xl L htL (fun x hx => ⟨Nat.le_trans (HSz2.out x hx).1 (by decide), Nat.le_trans (HSz2.out x hx).2 (by decide)⟩)
            have hbs : ∀ x ∈ P.szs asked least m ++ (P.enc m L xl).1, x < 256 := fun x hx => by
              rcases List.mem_append.1 hx with h | h
              · exact szs_lt2 (fun ha => (HLk.out ha).2.2) hm4 x h
              · exact hbs0 x h
            have htL' := P.enc_tot (m := m) xl L htL
            have hsw : P.szs asked lx m = P.szs asked least m := by
              cases asked with
              | false => rfl
              | true =>
                obtain ⟨_, e, _⟩ := HLk.out rfl
                rw [e]
            go_wp2_with fail
            refine (qheaders_any xa xl.length xc xl _ rfl hxl (HXq.out.belowB HB.out (Nat.le_refl _)) hzw).mono ?_
            rintro e w6 ⟨v6, rfl, hq6, hb6⟩
            obtain ⟨ka, kc, rfl⟩ := hq6.form
            have HQ6 := Lib.hid hq6
            have HE6 := Lib.hid (HEc.out.below hb6)
            have HT6 := Lib.hid (HTb.out.below hb6)
            have HX6 := Lib.hid (HXc.out.below hb6)
            have HR6 := Lib.hid (HRx.out.below hb6)
            have HB6 := Lib.hid (HB.out.trans (hb6.mono hzw))
            have hz6 := hb6.size
            have HkL : Hid (∀ g, (Value.slice ka xl.length kc).ownBlock = some g → K ≤ g ∧ g < w6.heap.size) := fun g e => by have := hq6.lt g e; omega
            clear hq6 hb6 HEc HTb HXc HRx HB d0 d1
            obtain ⟨d0, d1⟩ := HX0.out w6 HB6.out
            have hNR : NRd (fun b => b < w6.heap.size ∧ b ≠ s ∧ b ≠ eB) w6 xa xl := fun j x hx => by
              obtain ⟨b, o, e, hbw, c⟩ := (HXq.out.belowB HB6.out (Nat.le_refl _)) j x hx
              exact ⟨b, o, e, ⟨by omega, by omega, by omega⟩, c⟩
            have HEn := Lib.hid (Encode_big eB s m L asked least xa xl.length xc xl w6 HE6.out HT6.out (by omega) (fun ha => (HLk.out ha).2.2) rfl hNR (by omega) (fun x hx => by have := HSz2.out x hx; omega))
            generalize hbse : P.szs asked least m ++ (P.enc m L xl).1 = bs at *
            generalize hLe : (P.enc m L xl).2 = L' at *
            have HBs := Lib.hid hbs
            have HBe := Lib.hid hbse
            have HLe := Lib.hid hLe
            have HSw := Lib.hid hsw
            clear hbs hbs0 hbse hLe hNR HE6 HT6 hsw
            go_wp2_with fail
            refine HEn.out.mono ?_
            rintro e w7 ⟨v7, rfl, hv7, hc7, ht7, ho7⟩
            obtain ⟨ba, bc, rfl, hbr⟩ := ownN_rd2 hv7 HBs.out
            have hz7 := ho7.size
            have HE7 := Lib.hid hc7
            have HT7 := Lib.hid ht7
            have HX7 := Lib.hid (HX6.out.block (ho7.block xB (by have := HX6.out.lt; omega) (by omega) (by omega)))
            have HR7 := Lib.hid (HR6.out.two ho7 (by omega) (by omega) (by omega) (by omega))
            have HQ7 := Lib.hid (HQ6.out.same (fun g e => by have := HkL.out g e; exact ho7.block g (by omega) (by omega) (by omega)))
            have HB7 := Lib.hid (Only2.below HB6.out ho7 (by omega) (by omega) (by omega))
            have HV7 := Lib.hid hv7
            have HVb := Lib.hid (World.ownsRow.lt hv7)
            clear hv7 hc7 ht7 ho7 HEn HX6 HR6 HQ6 HB6 d0 d1
            obtain ⟨d0, d1⟩ := HX0.out w7 HB7.out
            have hNR : NRd (fun b => b < w7.heap.size ∧ b ≠ gx ∧ b ≠ xB) w7 xa xl := fun j x hx => by
              obtain ⟨b, o, e, hbw, c⟩ := (HXq.out.belowB HB7.out (Nat.le_refl _)) j x hx
              exact ⟨b, o, e, ⟨by omega, by omega, by omega⟩, c⟩
            have HXn := Lib.hid (xEncode_any K xB gx m L asked lx last xa xl.length xc xl w7 (by omega) (by omega) (by omega) HX7.out (fun ha => (HLk.out ha).1) (fun ha => by obtain ⟨_, e, h⟩ := HLk.out ha; omega) HR7.out htL hm4 rfl hNR (by omega) HSz2.out)
            rw [HSw.out, HBe.out, HLe.out] at HXn
            clear hNR HX7 HR7
            go_wp2_with fail
            refine HXn.out.mono ?_
            rintro e w8 ⟨v8, rfl, hv8, hx8, hr8, ho8⟩
            obtain ⟨ya, yc, rfl, hyr⟩ := ownN_rd2 hv8 HBs.out
            have hz8 := ho8.size
            have HE8 := Lib.hid (HE7.out.block (ho8.block eB (by have := HE7.out.lt; omega) (by omega) (by omega)))
            have HT8 := Lib.hid (HT7.out.at (ho8.block s (by have := HT7.out.lt; omega) (by omega) (by omega)))
            have HX8 := Lib.hid hx8
            have HR8 := Lib.hid hr8
            have HQ8 := Lib.hid (HQ7.out.same (fun g e => by have := HkL.out g e; exact ho8.block g (by omega) (by omega) (by omega)))
            have HB8 := Lib.hid (Only2.below HB7.out ho8 (by omega) (by omega) (by omega))
            have hv78 : OwnN w6.heap.size w8 (.slice ba bs.length bc) bs := OwnN.same HV7.out (fun g e => by have := HVb.out g e; exact ho8.block g (by omega) (by omega) (by omega))
            obtain ⟨ba', bc', e7, hbr8⟩ := ownN_rd2 hv78 HBs.out
            cases e7
            have HSB := Lib.hid (same_any ba ya bs.length bs.length bc yc bs bs w8 rfl rfl hbr8 hyr)
            rw [decide_eq_true rfl] at HSB
            clear hv8 hx8 hr8 ho8 hyr hv78 hbr8 HXn HE7 HT7 HQ7 HB7 HV7 d0 d1
            obtain ⟨d0, d1⟩ := HX0.out w8 HB8.out
            go_wp2_with fail
            refine HSB.out.mono ?_
            rintro e w9 ⟨rfl, rfl⟩
            obtain ⟨ka', kc', ek, _, hkr⟩ := HQ8.out.rdB
            cases ek
            have hxr8 : QRdB w8.heap.size w8 xa xl := (HXq.out.belowB HB8.out (Nat.le_refl _)).mono (by have := HB8.out.size; omega)
            have HSH : Hid (∀ ww, Below w8.heap.size w8 ww → Calls Tryd.prog 30 #[.slice xa xl.length xc, .slice ka xl.length kc] ww (TruePost ww)) := fun ww h => sameHeaders_eq xa ka xl.length xc kc xl ww rfl (by omega) ((hxr8.belowB h (Nat.le_refl _)).mono h.size) ((hkr.belowB h (Nat.le_refl _)).mono h.size)
            have HS1 : Hid (∀ ww, Below w8.heap.size w8 ww → Calls Tryd.prog 31 #[.slice xa xl.length xc] ww fun e w' => e = .returned (.int .i64 (P.totA xl : Nat)) ∧ Below ww.heap.size ww w') := fun ww h => ksize_any xa xl.length xc xl ww rfl hxl (hxr8.belowB h (Nat.le_refl _)) h.size (fun y hy => ⟨Nat.le_trans (HSz2.out y hy).1 (by decide), Nat.le_trans (HSz2.out y hy).2 (by decide)⟩)
            have HS2 : Hid (∀ ww, Below w8.heap.size w8 ww → Calls Tryd.prog 32 #[.slice xa xl.length xc] ww fun e w' => e = .returned (.int .i64 (P.totA xl : Nat)) ∧ Below ww.heap.size ww w') := fun ww h => rsize_any xa xl.length xc xl ww rfl hxl (hxr8.belowB h (Nat.le_refl _)) h.size (fun y hy => ⟨Nat.le_trans (HSz2.out y hy).1 (by decide), Nat.le_trans (HSz2.out y hy).2 (by decide)⟩)
            have hS0 : Hid (w8.cell? ⟨b, o + i * 2 + 1, none⟩ = some (.slice xa xl.length xc)) := d1
            generalize P.totA xl = T at *
            clear hkr hxr8 HSB d0 d1
            go_upto_region 22 with (fail)
            go_region_held3 (fun ww => ww.cell? ⟨b, o + i * 2 + 1, none⟩ = some (.slice xa xl.length xc)) (first | exact hS0.out | exact HSa.out | exact HSb.out | exact HSc.out) (first
              | (go_at_call 30; refine (HSH.out w8.drew (below_drew' w8)).mono ?_; rintro e wA ⟨rfl, hbA⟩; have HBA : Hid (Below w8.heap.size w8 wA) := (below_drew' w8).trans hbA; clear hbA; have HSa : Hid (wA.cell? ⟨b, o + i * 2 + 1, none⟩ = some (.slice xa xl.length xc)) := cell_below HBA.out hS0.out)
              | (go_at_call 31; refine (HS1.out wA HBA.out).mono ?_; rintro e wB ⟨rfl, hbB⟩; have HBB : Hid (Below w8.heap.size w8 wB) := HBA.out.trans (hbB.mono HBA.out.size); clear hbB; have HSb : Hid (wB.cell? ⟨b, o + i * 2 + 1, none⟩ = some (.slice xa xl.length xc)) := cell_below HBB.out hS0.out)
              | (go_at_call 32; refine (HS2.out wB HBB.out).mono ?_; rintro e wC ⟨rfl, hbC⟩; have HBC : Hid (Below w8.heap.size w8 wC) := HBB.out.trans (hbC.mono HBB.out.size); clear hbC; have HSc : Hid (wC.cell? ⟨b, o + i * 2 + 1, none⟩ = some (.slice xa xl.length xc)) := cell_below HBC.out hS0.out))
            all_goals
              have HW9 : Hid (TwoE wC eB s xB gx K m least lx last false L') := ⟨HE8.out.below HBC.out, HT8.out.below HBC.out, HX8.out.below HBC.out, HR8.out.below HBC.out, htL', hm4, fun h => (by cases h)⟩
              have HB9 := Lib.hid (HB8.out.trans (HBC.out.mono (by have := HB8.out.size; omega)))
              have hz9 := HBC.out.size
              go_wp2
              go_roundw
              case rel => exact ⟨i + 1, m, least, lx, last, false, L', by omega, by rw [Int.natCast_add]; rfl, HW9, HB9, by omega⟩
              case measure => simp [intOf]; omega
end Go.Proofs.YtcbljbdcnahfhaaDoor
