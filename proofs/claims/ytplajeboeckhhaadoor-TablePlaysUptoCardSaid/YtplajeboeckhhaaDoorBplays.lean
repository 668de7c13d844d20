/-
The walk of parleylaw3.TablePlays: it returns true whatever is asked.
-/
import Derived.Test.YtplajeboeckhhaaDoorBempt
import Derived.Test.YtplajeboeckhhaaDoorBis
import Derived.Test.YtplajeboeckhhaaDoorBrtf
import Derived.LaidEql
namespace Go.Proofs.YtplajeboeckhhaaDoor
open Go.RowKit

theorem TE.under {B : Nat} {w w' : World} {e0 : Addr} (h : TE w e0) (hb : Below B w w') (hB : B = w.heap.size) : TE w' e0 := by
  subst hB
  exact cell_below hb h
theorem Rx.only {w w' : World} {K g gx M : Nat} {A : List B.HD} (h : Rx w K gx A M) (hg : Only g w w') (hne : gx ≠ g) (hK : g < K) : Rx w' K gx A M := by
  have hlt := h.lt
  obtain ⟨v, h0, h1, h2, h3⟩ := h
  have e : w'.heap[gx]? = w.heap[gx]? := World.grownBy.block hg gx hlt (fun e => hne (by cases e; rfl))
  exact ⟨v, ⟨(World.cell?_of_block (a := ⟨gx, 0, none⟩) e).trans h0.1, (World.frozen?_of_block (a := ⟨gx, 0, none⟩) e).trans h0.2⟩, ⟨(World.cell?_of_block (a := ⟨gx, 1, none⟩) e).trans h1.1, (World.frozen?_of_block (a := ⟨gx, 1, none⟩) e).trans h1.2⟩, h2.only hg (fun e => by have := (h2.lt g e).1; omega), h3⟩

theorem compE : (Tryd.prog.info? 124).map (·.comparable) = some true := by kernel_rfl
theorem sizeE : (Tryd.prog.info? 141).map (·.size) = some 1 := by kernel_rfl
theorem run_eqlE (e0 : Addr) (w : World) : (binOp .eql 39 (.iface 124 (.pointer (some e0))) (.iface 124 (.pointer (some e0)))).run Tryd.prog w = .ok (.bool true) w := by
  obtain ⟨i1, hi1, hc⟩ := Option.map_eq_some_iff.1 compE
  obtain ⟨j1, hj1, _⟩ := Option.map_eq_some_iff.1 sizeE
  exact run_eql_iface_ptr_same w e0 Tryd.underlying39 Tryd.underlying124 hi1 hc hj1

set_option maxRecDepth 100000 in
set_option maxHeartbeats 8000000 in
theorem tablePlays_law (e0 : Addr) (n : Int) (a1 : Option Addr) (n1 c1 : Nat) (l1 : List CL) (ask : Int) (nm vl : ByteArray) (w : World) (hl1 : l1.length = n1) (hn1 : n1 ≤ 1048576) (hr1 : CRd w.heap.size w a1 l1) (hs1 : CSz 140737488355328 l1) (hask : ask ≤ 9223372036854775807) (hE : TE w e0) :
    Calls Tryd.prog 5 #[.int .i64 n, .slice a1 n1 c1, .int .i64 ask, .string nm, .string vl] w (TruePost w) := by
  have HL1 := Lib.hid hl1
  have HR1 := Lib.hid hr1
  have HS1 := Lib.hid hs1
  have HE := Lib.hid hE
  have HAsk := Lib.hid hask
  clear hl1 hr1 hs1 hE hask
  go_enter Tryd.func5, Tryd.ntmps5
  go_wp2_with fail
  refine (bfirst_any w).mono ?_
  rintro e w1 ⟨rfl, hb1⟩
  have HB1 := Lib.hid hb1
  have hz1 := hb1.size
  clear hb1
  go_wp2_with fail
  refine (light_any a1 n1 c1 l1 w1 HL1.out (HR1.out.below HB1.out) HS1.out).mono ?_
  rintro e w3 ⟨⟨b1, rfl⟩, hb2⟩
  have HB3 := Lib.hid (HB1.out.trans (hb2.mono hz1))
  have hz3 := HB3.out.size
  clear hb2 HB1 hz1
  cases b1
  · go_wp2_with fail
    go_ret
    exact ⟨rfl, HB3.out⟩
  by_cases hnm : (20000 : Int) < (nm.size : Int)
  · go_wp2_with fail
    go_ret
    exact ⟨rfl, HB3.out⟩
  by_cases hvl : (20000 : Int) < (vl.size : Int)
  · go_wp2_with fail
    go_ret
    exact ⟨rfl, HB3.out⟩
  by_cases hn : 0 ≤ n ∧ n ≤ 4096
  case neg =>
    go_wp2_with fail
    refine (new_no n e0 w3 hn (TE.under HE.out HB3.out rfl)).mono ?_
    rintro e w4 ⟨rfl, hb4⟩
    have HB4 := Lib.hid (HB3.out.trans (hb4.mono hz3))
    have HC := can_any n w4
    rw [decide_eq_false hn] at HC
    clear hb4
    go_wp2_with fail
    refine HC.mono ?_
    rintro e w5 ⟨rfl, rfl⟩
    have cE : w4.cell? ⟨0, 0, none⟩ = some (.iface 124 (.pointer (some e0))) := TE.under HE.out HB4.out rfl
    clear HC
    go_wp2
    rw [run_eqlE]
    go_wp2
    go_ret
    exact ⟨by simp, HB4.out⟩
  obtain ⟨m, rfl⟩ : ∃ m : Nat, n = m := ⟨n.toNat, by omega⟩
  have hm : m ≤ 4096 := by omega
  go_wp2_with fail
  refine (new_yes m w3 hm).mono ?_
  rintro e w4 ⟨rfl, hT4, hb4⟩
  have HC := can_any (m : Int) w4
  rw [decide_eq_true hn] at HC
  clear hn
  obtain ⟨g, hg⟩ : ∃ g, g = w3.heap.size := ⟨_, rfl⟩
  rw [← hg] at hT4 ⊢
  have HT4 := Lib.hid hT4
  have HB4 := Lib.hid (HB3.out.trans (hb4.mono hz3))
  have hz4 := HB4.out.size
  have hgw : w.heap.size ≤ g := by omega
  have hg4 : g < w4.heap.size := HT4.out.lt
  clear hT4 hb4 hg HB3 hz3
  go_wp2_with fail
  refine HC.mono ?_
  rintro e w5 ⟨rfl, rfl⟩
  clear HC
  go_wp2_with fail
  obtain ⟨gx, hgx⟩ : ∃ gx, gx = w4.heap.size := ⟨_, rfl⟩
  refine (refNew_any (gx + 1) m w4).mono ?_
  rintro e w5 ⟨rfl, hR5, hb5⟩
  rw [← hgx] at hR5 ⊢
  have HR5 := Lib.hid hR5
  have HT5 := Lib.hid (HT4.out.below hb5)
  have HB5 := Lib.hid (HB4.out.trans (hb5.mono hz4))
  have hgg : g < gx := by omega
  have hgxw : w.heap.size ≤ gx := by omega
  have hK5 : gx + 1 ≤ w5.heap.size := HR5.out.lt
  clear hR5 hb5 hgx HB4 HT4 hz4 hg4
  clear hnm hvl
  go_wp2
  go_loopw [15] (fun i wr => ∃ k : Nat, k ≤ n1 ∧ i = .int .i64 k ∧ (∃ L m, Hid (Tab wr g L m) ∧ Hid (Rx wr (gx + 1) gx L.reverse m)) ∧ Hid (Below w.heap.size w wr) ∧ gx + 1 ≤ wr.heap.size) (fun i _ => n1 - (intOf i).toNat)
  case atStart => exact ⟨0, by omega, rfl, ⟨[], m, HT5, HR5⟩, HB5, hK5⟩
  case round =>
    clear HT5 HR5 HB5 hK5
    obtain ⟨k, hk, rfl, ⟨L, m, HTr, HXr⟩, HBr, hKr⟩ := hrel
    have hzr := HBr.out.size
    by_cases hlt : k < n1
    · obtain ⟨x, hx⟩ : ∃ x, l1[k]? = some x := ⟨_, List.getElem?_eq_getElem (by rw [HL1.out]; exact hlt)⟩
      obtain ⟨b, o, rfl, hbw, d0, d1, d2, d3, d4⟩ := HR1.out k x hx
      obtain ⟨z1, z2⟩ := HS1.out x (List.mem_of_getElem? hx)
      obtain ⟨kd, nn, ⟨hn, hv⟩, bb⟩ := x
      simp only at d0 d1 d2 d3 d4 z1 z2
      clear hx
      have H34 : Hid ((w.cell? ⟨b, o + k * 5 + 2, none⟩ = some (.string hn) ∧ w.cell? ⟨b, o + k * 5 + 3, none⟩ = some (.string hv) ∧ w.cell? ⟨b, o + k * 5 + 4, none⟩ = some (.bool bb)) ∧ w.cell? ⟨b, o + k * 5 + 1, none⟩ = some (.int .i64 nn)) := ⟨⟨d2, d3, d4⟩, d1⟩
      have d0 := (HBr.out.cell (p := ⟨b, o + k * 5, none⟩) hbw).trans d0
      clear d1 d2 d3 d4
      obtain ⟨hl128, htm, hm4⟩ := HTr.out.le
      have htr : B.tot L.reverse ≤ 1048576 := by rw [B.tot_rev]; omega
      clear hl128 htm
      go_upto_if 74 with (fail)
      go_cut [] from 63 to 117 (fun wx => ∃ L m, Hid (Tab wx g L m) ∧ Hid (Rx wx (gx + 1) gx L.reverse m) ∧ Hid (Below w.heap.size w wx) ∧ gx + 1 ≤ wx.heap.size)
      case first =>
        by_cases h1 : kd = 1
        · subst h1
          have HA := Lib.hid (add_any g L m hn hv bb wr z1 z2 HTr.out)
          have HA2 := Lib.hid (fun w hk hw => refAdd_any (gx + 1) gx m L.reverse hn hv bb w hk z1 z2 hw htr hm4)
          have HRM := Lib.hid (B.rm_add m L (hn, hv))
          have HCW := Lib.hid (fun (wq : World) (hb : Below w.heap.size w wq) => And.intro ((hb.cell (p := ⟨b, o + k * 5 + 2, none⟩) hbw).trans H34.out.1.1) (And.intro ((hb.cell (p := ⟨b, o + k * 5 + 3, none⟩) hbw).trans H34.out.1.2.1) ((hb.cell (p := ⟨b, o + k * 5 + 4, none⟩) hbw).trans H34.out.1.2.2)))
          obtain ⟨d2, d3, d4⟩ := HCW.out wr HBr.out
          go_wp2_with fail
          refine HA.out.mono ?_
          rintro e w6 ⟨rfl, hT6, hO6⟩
          have HT6 := Lib.hid hT6
          have HB6 := Lib.hid (Below.only_trans HBr.out hO6 hzr hgw)
          have HX6 := Lib.hid (HXr.out.only hO6 (by omega) (by omega))
          have hK6 := Nat.le_trans hKr hO6.size
          have hz6 := HB6.out.size
          clear hT6 hO6 HA HTr HXr HBr d2 d3 d4 hKr hzr
          obtain ⟨d2, d3, d4⟩ := HCW.out w6 HB6.out
          go_wp2_with fail
          refine (HA2.out w6 hK6 HX6.out).mono ?_
          rintro e w7 ⟨rfl, hX7, hO7⟩
          rw [← HRM.out] at hX7
          have HX7 := Lib.hid hX7
          have HT7 := Lib.hid (hO7.tab (by omega) HT6.out)
          have HB7 := Lib.hid (Below.only_trans HB6.out hO7 hz6 hgxw)
          have hK7 := Nat.le_trans hK6 hO7.size
          clear hX7 hO7 HA2 HRM d2 d3 d4 HT6 HB6 HX6
          go_wp2
          go_meet
          exact ⟨_, m, HT7, HX7, HB7, hK7⟩
        · have h1b : (kd == 1) = false := by simp [h1]
          have HCW := Lib.hid (fun (wq : World) (hb : Below w.heap.size w wq) => (hb.cell (p := ⟨b, o + k * 5 + 1, none⟩) hbw).trans H34.out.2)
          have d1 := HCW.out wr HBr.out
          by_cases hN : 0 ≤ nn ∧ nn ≤ 4096
          · obtain ⟨N, rfl⟩ : ∃ N : Nat, nn = N := ⟨nn.toNat, by omega⟩
            have HC := can_any (N : Int) wr
            rw [decide_eq_true hN] at HC
            go_wp2_with fail
            refine HC.mono ?_
            rintro e wA ⟨rfl, rfl⟩
            clear HC
            have HA := Lib.hid (resize_yes g L m N wr (by omega) HTr.out)
            clear hN
            go_wp2_with fail
            refine HA.out.mono ?_
            rintro e w6 ⟨rfl, hT6, hO6⟩
            have HT6 := Lib.hid hT6
            have HB6 := Lib.hid (Below.only_trans HBr.out hO6 hzr hgw)
            have HX6 := Lib.hid (HXr.out.only hO6 (by omega) (by omega))
            have hK6 := Nat.le_trans hKr hO6.size
            have hz6 := HB6.out.size
            clear hT6 hO6 HA HTr HXr HBr d1 hKr hzr
            have d1 := HCW.out w6 HB6.out
            go_wp2_with fail
            refine (refResize_any (gx + 1) gx m N L.reverse w6 hK6 HX6.out htr).mono ?_
            rintro e w7 ⟨rfl, hX7, hO7⟩
            rw [B.rm_shr] at hX7
            have HX7 := Lib.hid hX7
            have HT7 := Lib.hid (hO7.tab (by omega) HT6.out)
            have HB7 := Lib.hid (Below.only_trans HB6.out hO7 hz6 hgxw)
            have hK7 := Nat.le_trans hK6 hO7.size
            clear hX7 hO7 d1 HT6 HB6 HX6
            go_wp2
            go_meet
            exact ⟨_, N, HT7, HX7, HB7, hK7⟩
          · have HC := can_any nn wr
            rw [decide_eq_false hN] at HC
            go_wp2_with fail
            refine HC.mono ?_
            rintro e wA ⟨rfl, rfl⟩
            clear HC
            have HA := Lib.hid (resize_no g nn e0 wr hN (TE.under HE.out HBr.out rfl))
            clear hN
            go_wp2_with fail
            refine HA.out.mono ?_
            rintro e w6 ⟨rfl, rfl⟩
            go_wp2
            go_meet
            exact ⟨L, m, HTr, HXr, HBr, hKr⟩
      case rest =>
        clear HTr HXr HBr hKr htr hm4 d0 hzr
        obtain ⟨L1, m1, HT, HX, HB, hK⟩ := hcut
        have hzw := HB.out.size
        go_wp2_with fail
        refine (is_any (gx + 1) g gx m1 L1 ask wc HAsk.out HT.out HX.out).mono ?_
        rintro e w7 ⟨rfl, hb7⟩
        have HT7 := Lib.hid (HT.out.below hb7)
        have HX7 := Lib.hid (HX.out.below hb7)
        have HB7 := Lib.hid (HB.out.trans (hb7.mono hzw))
        have hK7 := Nat.le_trans hK hb7.size
        clear hb7
        go_wp2
        go_roundw
        case rel => exact ⟨k + 1, by omega, by rw [Int.natCast_add]; rfl, ⟨L1, m1, HT7, HX7⟩, HB7, hK7⟩
        case measure => simp [intOf]; omega
    · have q1 : ¬ (k : Int) < (n1 : Int) := by omega
      have hl128 := HTr.out.le.1
      have HF := Lib.hid (find_any g m L nm vl wr HTr.out)
      have HF2 := Lib.hid (fun w hw => refFind_any (gx + 1) gx m L nm vl w hw (by omega))
      generalize B.fnd nm.toList vl.toList 0 (B.allL L) = z at *
      obtain ⟨z1, z2⟩ := z
      go_wp2_with fail
      refine HF.out.mono ?_
      rintro e w6 ⟨rfl, hb6⟩
      have HX6 := Lib.hid (HXr.out.below hb6)
      have HB6 := Lib.hid (HBr.out.trans (hb6.mono hzr))
      have hz6 := HB6.out.size
      clear hb6 HF HXr HBr
      go_wp2_with fail
      refine (HF2.out w6 HX6.out).mono ?_
      rintro e w7 ⟨rfl, hb7⟩
      have HB7 := Lib.hid (HB6.out.trans (hb7.mono hz6))
      clear hb7 HF2
      go_wp2
      go_ret
      exact ⟨by simp, HB7.out⟩
end Go.Proofs.YtplajeboeckhhaaDoor
