/-
The walk of parleylaw3.TableEmptied: it returns true whatever is asked.
-/
import Derived.Test.YtplajeboeckhhaaDoorBlight
import Derived.Test.YtplajeboeckhhaaDoorBref
import Derived.Test.YtplajeboeckhhaaDoorBfirst
import Derived.Test.YtplajeboeckhhaaDoorBkeep
namespace Go.Proofs.YtplajeboeckhhaaDoor
open Go.RowKit

theorem can_any (m : Int) (w : World) : Calls Tryd.prog 21 #[.int .i64 m] w fun e w' => e = .returned (.bool (decide (0 ≤ m ∧ m ≤ 4096))) ∧ w = w' := by
  by_cases h : 0 ≤ m
  · go_enter Tryd.func21, Tryd.ntmps21
    go_wp2
    go_ret
    exact ⟨by simp [h], rfl⟩
  · have h1 : m < 0 := by omega
    go_enter Tryd.func21, Tryd.ntmps21
    go_wp2
    go_ret
    exact ⟨by simp; omega, rfl⟩

theorem Only.tab {g b m : Nat} {w w' : World} {L : List B.HD} (h : Only g w w') (hne : b ≠ g) (ht : Tab w b L m) : Tab w' b L m :=
  Kq.tab (Kq.of_only (Q := fun k => k = b) h (fun e => hne e.symm)) rfl ht

set_option maxRecDepth 100000 in
set_option maxHeartbeats 4000000 in
theorem tableEmptied_law (n : Int) (a1 a2 : Option Addr) (n1 c1 n2 c2 : Nat) (l1 l2 : List CL) (ask : Int) (w : World) (hl1 : l1.length = n1) (hl2 : l2.length = n2) (hn1 : n1 ≤ 1048576) (hn2 : n2 ≤ 1048576) (hr1 : CRd w.heap.size w a1 l1) (hr2 : CRd w.heap.size w a2 l2) (hs1 : CSz 140737488355328 l1) (hs2 : CSz 140737488355328 l2) (hask : ask ≤ 9223372036854775807) :
    Calls Tryd.prog 9 #[.int .i64 n, .slice a1 n1 c1, .slice a2 n2 c2, .int .i64 ask] w (TruePost w) := by
  have HL1 := Lib.hid hl1
  have HL2 := Lib.hid hl2
  have HR1 := Lib.hid hr1
  have HR2 := Lib.hid hr2
  have HS1 := Lib.hid hs1
  have HS2 := Lib.hid hs2
  clear hl1 hl2 hr1 hr2 hs1 hs2
  go_enter Tryd.func9, Tryd.ntmps9
  go_wp2_with fail
  refine (bfirst_any w).mono ?_
  rintro e w1 ⟨rfl, hb1⟩
  have HB1 := Lib.hid hb1
  have hz1 := hb1.size
  clear hb1
  go_wp2_with fail
  refine (light_any a1 n1 c1 l1 w1 HL1.out (HR1.out.below HB1.out) HS1.out).mono ?_
  rintro e w2 ⟨⟨b1, rfl⟩, hb2⟩
  have HB2 := Lib.hid (HB1.out.trans (hb2.mono hz1))
  have hz2 := HB2.out.size
  clear hb2 HB1 hz1
  cases b1
  · go_wp2_with fail
    go_ret
    exact ⟨rfl, HB2.out⟩
  go_wp2_with fail
  refine (light_any a2 n2 c2 l2 w2 HL2.out (HR2.out.below HB2.out) HS2.out).mono ?_
  rintro e w3 ⟨⟨b2, rfl⟩, hb3⟩
  have HB3 := Lib.hid (HB2.out.trans (hb3.mono hz2))
  have hz3 := HB3.out.size
  clear hb3 HB2 hz2
  cases b2
  · go_wp2_with fail
    go_ret
    exact ⟨rfl, HB3.out⟩
  by_cases hn : 0 ≤ n ∧ n ≤ 4096
  case neg =>
    have HC := can_any n w3
    rw [decide_eq_false hn] at HC
    go_wp2_with fail
    refine HC.mono ?_
    rintro e w4 ⟨rfl, rfl⟩
    go_wp2_with fail
    go_ret
    exact ⟨rfl, HB3.out⟩
  have HC := can_any n w3
  rw [decide_eq_true hn] at HC
  obtain ⟨m, rfl⟩ : ∃ m : Nat, n = m := ⟨n.toNat, by omega⟩
  have hm : m ≤ 4096 := by omega
  clear hn
  go_wp2_with fail
  refine HC.mono ?_
  rintro e w4 ⟨rfl, rfl⟩
  clear HC
  go_wp2_with fail
  refine (new_yes m w3 hm).mono ?_
  rintro e w4 ⟨rfl, hT4, hb4⟩
  obtain ⟨g, hg⟩ : ∃ g, g = w3.heap.size := ⟨_, rfl⟩
  rw [← hg] at hT4 ⊢
  have HTa := Lib.hid hT4
  have HB4 := Lib.hid (HB3.out.trans (hb4.mono hz3))
  have hgw : w.heap.size ≤ g := by omega
  have hz4 : g < w4.heap.size := HTa.out.lt
  clear hT4 hb4 hg HB3 hz3
  go_wp2_with fail
  refine (new_yes m w4 hm).mono ?_
  rintro e w5 ⟨rfl, hT5, hb5⟩
  obtain ⟨g2, hg2⟩ : ∃ g2, g2 = w4.heap.size := ⟨_, rfl⟩
  rw [← hg2] at hT5 ⊢
  have HTb := Lib.hid hT5
  have HTa5 := Lib.hid (HTa.out.below hb5)
  have HB5 := Lib.hid (HB4.out.trans (hb5.mono (by omega)))
  have hgg : g < g2 := by omega
  clear hT5 hb5 hg2 HB4 HTa hz4
  go_wp2
  go_loopw [14] (fun i wr => ∃ k : Nat, k ≤ n1 ∧ i = .int .i64 k ∧ (∃ L, Hid (Tab wr g L m)) ∧ Hid (Tab wr g2 [] m) ∧ Hid (Below w.heap.size w wr)) (fun i _ => n1 - (intOf i).toNat)
  case atStart => exact ⟨0, by omega, rfl, ⟨[], HTa5⟩, HTb, HB5⟩
  case round =>
    obtain ⟨k, hk, rfl, ⟨L, HTr⟩, HTs, HBr⟩ := hrel
    clear HTa5 HTb HB5
    have hzr := HBr.out.size
    by_cases hlt : k < n1
    · obtain ⟨x, hx⟩ : ∃ x, l1[k]? = some x := ⟨_, List.getElem?_eq_getElem (by rw [HL1.out]; exact hlt)⟩
      obtain ⟨b, o, rfl, _, d0, _, d2, d3, d4⟩ := (HR1.out.belowB HBr.out) k x hx
      obtain ⟨z1, z2⟩ := HS1.out x (List.mem_of_getElem? hx)
      obtain ⟨kd, nn, ⟨hn, hv⟩, bb⟩ := x
      simp only at d0 d2 d3 d4 z1 z2
      clear hx
      have HA := Lib.hid (add_any g L m hn hv bb wr z1 z2 HTr.out)
      by_cases h1 : kd = 1
      · subst h1
        go_wp2_with (go_at_call 23; refine HA.out.mono ?_; rintro e w6 ⟨rfl, hT6, hO6⟩; have HT6 := Lib.hid hT6; have HO6 := Lib.hid hO6; clear hT6 hO6)
        go_roundw
        case rel => exact ⟨k + 1, by omega, by rw [Int.natCast_add]; rfl, ⟨_, HT6⟩, HO6.out.tab (by omega) HTs.out, Below.only_trans HBr.out HO6.out hzr hgw⟩
        case measure => simp [intOf]; omega
      · have h1b : (kd == 1) = false := by simp [h1]
        go_wp2
        go_roundw
        case rel => exact ⟨k + 1, by omega, by rw [Int.natCast_add]; rfl, ⟨_, HTr⟩, HTs, HBr⟩
        case measure => simp [intOf]; omega
    · go_wp2_with fail
      have HR0 : Calls Tryd.prog 25 #[.pointer (some ⟨g, 0, none⟩), .int .i64 0] wr fun e w' => e = .returned .nilIface ∧ Tab w' g (B.shr 0 L) 0 ∧ Only g wr w' := resize_yes g L m 0 wr (by omega) HTr.out
      rw [B.shr_zero] at HR0
      refine HR0.mono ?_
      rintro e w6 ⟨rfl, hT6, hO6⟩
      have HT6 := Lib.hid hT6
      have HTs6 := Lib.hid (hO6.tab (by omega) HTs.out)
      have HB6 := Lib.hid (Below.only_trans HBr.out hO6 hzr hgw)
      have cn := (by obtain ⟨R, o, _, h2, _⟩ := hT6; exact h2.n.1 : w6.cell? ⟨g, 385, none⟩ = some (.int .i64 0))
      have cz := (by obtain ⟨R, o, _, h2, _⟩ := hT6; exact h2.s.1 : w6.cell? ⟨g, 386, none⟩ = some (.int .i64 0))
      have hz6 := HB6.out.size
      clear HR0 hT6 hO6 HTr HTs HBr
      go_wp2_with fail
      refine (show Calls _ _ _ _ fun e w' => e = .returned (.int .i64 0) ∧ _ from len_any w6 g 0 cn).mono ?_
      rintro e w7 ⟨rfl, rfl⟩
      go_wp2_with fail
      refine (show Calls _ _ _ _ fun e w' => e = .returned (.int .i64 0) ∧ _ from sizeM_any w6 g 0 cz).mono ?_
      rintro e w7 ⟨rfl, rfl⟩
      have HR1b := resize_yes g [] 0 m w6 hm HT6.out
      rw [show B.shr m [] = [] from rfl] at HR1b
      go_wp2_with fail
      refine HR1b.mono ?_
      rintro e w7 ⟨rfl, hT7, hO7⟩
      have HT7 := Lib.hid hT7
      have HTs7 := Lib.hid (hO7.tab (by omega) HTs6.out)
      have HB7 := Lib.hid (Below.only_trans HB6.out hO7 hz6 hgw)
      clear HR1b hT7 hO7 HTs6 HB6 HT6 cn cz hz6 hzr
      go_wp2
      go_loopw [15] (fun i wr => ∃ k : Nat, k ≤ n2 ∧ i = .int .i64 k ∧ (∃ L, Hid (Tab wr g L m) ∧ Hid (Tab wr g2 L m)) ∧ Hid (Below w.heap.size w wr)) (fun i _ => n2 - (intOf i).toNat)
      case atStart => exact ⟨0, by omega, rfl, ⟨[], HT7, HTs7⟩, HB7⟩
      case round =>
        clear HT7 HTs7 HB7
        obtain ⟨k, hk, rfl, ⟨L, HTr, HTs⟩, HBr⟩ := hrel
        have hzr := HBr.out.size
        by_cases hlt : k < n2
        · obtain ⟨x, hx⟩ : ∃ x, l2[k]? = some x := ⟨_, List.getElem?_eq_getElem (by rw [HL2.out]; exact hlt)⟩
          obtain ⟨b, o, rfl, hbw, d0, _, d2, d3, d4⟩ := (HR2.out.belowB HBr.out) k x hx
          obtain ⟨z1, z2⟩ := HS2.out x (List.mem_of_getElem? hx)
          obtain ⟨kd, nn, ⟨hn, hv⟩, bb⟩ := x
          simp only at d0 d2 d3 d4 z1 z2
          clear hx
          have HA := Lib.hid (add_any g L m hn hv bb wr z1 z2 HTr.out)
          by_cases h1 : kd = 1
          · subst h1
            go_wp2_with fail
            refine HA.out.mono ?_
            rintro e w8 ⟨rfl, hT8, hO8⟩
            have HT8 := Lib.hid hT8
            have HTs8 := Lib.hid (hO8.tab (b := g2) (by omega) HTs.out)
            have HB8 := Lib.hid (Below.only_trans HBr.out hO8 hzr hgw)
            have hz8 := HB8.out.size
            have e2 := hO8.cell (b := b) (by omega) d2
            have e3 := hO8.cell (b := b) (by omega) d3
            have e4 := hO8.cell (b := b) (by omega) d4
            clear hT8 hO8 d0 d2 d3 d4 HA HTr HTs
            have HA2 := add_any g2 L m hn hv bb w8 z1 z2 HTs8.out
            go_wp2_with fail
            refine HA2.mono ?_
            rintro e w9 ⟨rfl, hT9, hO9⟩
            have HTs9 := Lib.hid hT9
            have HT9 := Lib.hid (hO9.tab (b := g) (by omega) HT8.out)
            have HB9 := Lib.hid (Below.only_trans HB8.out hO9 hz8 (by omega))
            clear hT9 hO9 HA2 HT8 HTs8 HB8 e2 e3 e4
            go_wp2
            go_roundw
            case rel => exact ⟨k + 1, by omega, by rw [Int.natCast_add]; rfl, ⟨_, HT9, HTs9⟩, HB9⟩
            case measure => simp [intOf]; omega
          · have h1b : (kd == 1) = false := by simp [h1]
            go_wp2
            go_roundw
            case rel => exact ⟨k + 1, by omega, by rw [Int.natCast_add]; rfl, ⟨_, HTr, HTs⟩, HBr⟩
            case measure => simp [intOf]; omega
        · have HG := Lib.hid (fun w hw => get_any g L m ask w hask hw)
          have HG2 := Lib.hid (fun w hw => get_any g2 L m ask w hask hw)
          generalize B.get L ask = x at *
          obtain ⟨xn, xv⟩ := x
          simp only at HG HG2
          generalize B.has L ask = hs at *
          go_wp2_with fail
          refine (HG.out wr HTr.out).mono ?_
          rintro e w8 ⟨rfl, hb8⟩
          have HB8 := Lib.hid (HBr.out.trans (hb8.mono hzr))
          have HTr8 := Lib.hid (HTr.out.below hb8)
          have HTs8 := Lib.hid (HTs.out.below hb8)
          have hz8 := HB8.out.size
          clear hb8 HTr HTs HBr
          have hba : Below w8.heap.size w8 (w8.alloc (.cells #[.string xn, .string xv, .bool false] 51)) := (Below.refl _ _).alloc (Nat.le_refl _) _
          have HTsa := Lib.hid (HTs8.out.below hba)
          clear hba
          go_wp2_with fail
          refine (HG2.out _ HTsa.out).mono ?_
          rintro e w9 ⟨rfl, hb9⟩
          obtain ⟨⟨x0, x1, x2⟩, _, hz9⟩ := cells3 hb9
          have hb89 := below_over hb9
          have HB9 := Lib.hid (HB8.out.trans (hb89.mono hz8))
          have HTr9 := Lib.hid (HTr8.out.below hb89)
          have HTs9 := Lib.hid (HTs8.out.below hb89)
          clear hb9 hb89 HTr8 HTs8 HTsa HB8
          go_wp2_with fail
          refine (sameHeader_eq xn xv false _).mono ?_
          rintro e wA ⟨rfl, hbA⟩
          have hb9A := below_over hbA
          have HBA := Lib.hid (HB9.out.trans (hb9A.mono (by omega)))
          have HTrA := HTr9.out.below hb9A
          have HTsA := HTs9.out.below hb9A
          have cn := (by obtain ⟨R, o, _, h2, _⟩ := HTrA; exact h2.n.1 : wA.cell? ⟨g, 385, none⟩ = some (.int .i64 L.length))
          have cz := (by obtain ⟨R, o, _, h2, _⟩ := HTrA; exact h2.s.1 : wA.cell? ⟨g, 386, none⟩ = some (.int .i64 (B.tot L)))
          have cn2 := (by obtain ⟨R, o, _, h2, _⟩ := HTsA; exact h2.n.1 : wA.cell? ⟨g2, 385, none⟩ = some (.int .i64 L.length))
          have cz2 := (by obtain ⟨R, o, _, h2, _⟩ := HTsA; exact h2.s.1 : wA.cell? ⟨g2, 386, none⟩ = some (.int .i64 (B.tot L)))
          clear hbA hb9A HTrA HTsA HTr9 HTs9 HB9 x0 x1 x2
          have ehs : (hs == hs) = true := by simp
          go_wp2_with fail
          refine (len_any wA g L.length cn).mono ?_
          rintro e wB ⟨rfl, rfl⟩
          go_wp2_with fail
          refine (len_any wA g2 L.length cn2).mono ?_
          rintro e wB ⟨rfl, rfl⟩
          go_wp2_with fail
          refine (sizeM_any wA g (B.tot L) cz).mono ?_
          rintro e wB ⟨rfl, rfl⟩
          go_wp2_with fail
          refine (sizeM_any wA g2 (B.tot L) cz2).mono ?_
          rintro e wB ⟨rfl, rfl⟩
          go_wp2
          go_ret
          exact ⟨by simp, HBA.out⟩
end Go.Proofs.YtplajeboeckhhaaDoor
