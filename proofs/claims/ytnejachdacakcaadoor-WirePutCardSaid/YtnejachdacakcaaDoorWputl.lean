/-
The walk of parleylaw1.WirePut: it returns true whatever is asked.
-/
import Derived.Test.YtnejachdacakcaaDoorWrefp
import Derived.Test.YtnejachdacakcaaDoorGsame
import Derived.Test.YtnejachdacakcaaDoorWfirst
import Derived.Test.YtnejachdacakcaaDoorGappg
namespace Go.Proofs.YtnejachdacakcaaDoor
open Go.RowKit

/-- What Put hands back, by its error's place. -/
def WPut (c : Nat) (L : List Nat) (E : Nat → Addr) (w : World) (e : Ending) (w' : World) : Prop := if c = 0 then PutOk L w e w' else PutNo (E (c - 1)) w e w'

/-- Put and the reference's Put, whatever is asked. -/
theorem put_both (F K : Int) (u : Nat) (bs : List Nat) (hu : Hid (u < 18446744073709551616)) (hnb : bs.length ≤ 100000) (hbs : ∀ x ∈ bs, x < 256) : ∃ (c : Nat) (P : List Nat), Good c ∧ (∀ x ∈ P, x < 256) ∧ P.length ≤ bs.length + 20 ∧
    (∀ (B Bb : Nat) (a ab : Option Addr) (len cap cb : Nat) (l : List Nat) (E : Nat → Addr) (w : World), l.length = len → len ≤ 100000 → bs.length ≤ cb → Rd B w a l → Rd Bb w ab bs → Bb ≤ w.heap.size → Errs w E →
      Calls Tryd.prog 20 #[.slice a len cap, .agg #[.int .i64 F, .int .i64 K, .int .u64 u, .slice ab bs.length cb]] w (WPut c (l ++ P) E w)) ∧
    (∀ (Bb : Nat) (ab : Option Addr) (cb : Nat) (w : World), bs.length ≤ cb → Rd Bb w ab bs → Bb ≤ w.heap.size →
      Calls Tryd.prog 21 #[.agg #[.int .i64 F, .int .i64 K, .int .u64 u, .slice ab bs.length cb]] w (RefPut c P w)) := by
  have ok0 : ∀ {L : List Nat} {E : Nat → Addr} {w : World} (e : Ending) (w' : World), PutOk L w e w' → WPut 0 L E w e w' := fun e w' h => by unfold WPut; rw [if_pos rfl]; exact h
  by_cases h : F < 1 ∨ 536870911 < F ∨ K < 0 ∨ 5 < K
  · refine ⟨3 + 1, [], Or.inr (Or.inr (Or.inr (Or.inl rfl))), by simp, by simp, ?_, ?_⟩
    · intro B Bb a ab len cap cb l E w _ _ _ _ _ _ hE
      exact (put_bad F K u a ab len cap bs.length cb E w h hE).mono fun e w' hp => by unfold WPut; rw [if_neg (by omega)]; exact hp
    · intro Bb ab cb w _ _ _
      exact refPut_bad F K u ab bs.length cb w h
  obtain ⟨f, rfl⟩ : ∃ f : Nat, F = f := ⟨F.toNat, by omega⟩
  obtain ⟨kd, rfl⟩ : ∃ k : Nat, K = k := ⟨K.toNat, by omega⟩
  have h1 : 1 ≤ f := by omega
  have h2 : f ≤ 536870911 := by omega
  have h3 : kd ≤ 5 := by omega
  clear h
  have hlt : ∀ kd, kd ≤ 5 → ∀ x ∈ W.putF f kd u bs, x < 256 := fun kd hk => putF_lt f kd u bs h2 hk hu.out (by omega) hbs
  match kd, h3 with
  | 0, _ => exact ⟨0, W.putF f 0 u bs, Or.inl rfl, hlt 0 (by omega), putF_len f 0 u bs, fun B Bb a ab len cap cb l E w hl hn _ hr _ _ _ => (put0 f u a ab len cap bs.length cb l bs w h1 h2 hu hl (by omega) hr).mono ok0, fun Bb ab cb w _ _ _ => refPut0 f u ab bs.length cb bs w h1 h2 hu⟩
  | 1, _ => exact ⟨0, W.putF f 1 u bs, Or.inl rfl, hlt 1 (by omega), putF_len f 1 u bs, fun B Bb a ab len cap cb l E w hl hn _ hr _ _ _ => (put1 f u a ab len cap bs.length cb l bs w h1 h2 hu hl (by omega) hr).mono ok0, fun Bb ab cb w _ _ _ => refPut1 f u ab bs.length cb bs w h1 h2 hu⟩
  | 2, _ => exact ⟨0, W.putF f 2 u bs, Or.inl rfl, hlt 2 (by omega), putF_len f 2 u bs, fun B Bb a ab len cap cb l E w hl hn _ hr hrb _ _ => (put2 f u a ab len cap bs.length cb l bs w h1 h2 hl rfl (by omega) hr hrb).mono ok0, fun Bb ab cb w _ hrb _ => refPut2 f u ab bs.length cb bs w h1 h2 rfl (by omega) hrb⟩
  | 3, _ =>
    by_cases hk : (W.chk 31 bs).2 = 0
    · refine ⟨0, W.putF f 3 u bs, Or.inl rfl, hlt 3 (by omega), putF_len f 3 u bs, fun B Bb a ab len cap cb l E w hl hn hcb hr hrb hB hE => ?_, fun Bb ab cb w hcb hrb hB => refPut3_ok f u ab bs.length cb bs w h1 h2 rfl hcb (by omega) hB hrb hk⟩
      exact (put3 f u a ab len cap bs.length cb l bs E w h1 h2 hl rfl hcb (by omega) hr hrb hB hE).mono fun e w' hp => by unfold GroupOut at hp; rw [if_pos hk] at hp; exact ok0 e w' hp
    · refine ⟨0 + 1, [], Or.inr (Or.inr (Or.inr (Or.inr (Or.inl rfl)))), by simp, by simp, fun B Bb a ab len cap cb l E w hl hn hcb hr hrb hB hE => ?_, fun Bb ab cb w hcb hrb hB => refPut3_no f u ab bs.length cb bs w h1 h2 rfl hcb (by omega) hB hrb hk⟩
      exact (put3 f u a ab len cap bs.length cb l bs E w h1 h2 hl rfl hcb (by omega) hr hrb hB hE).mono fun e w' hp => by unfold GroupOut at hp; rw [if_neg hk] at hp; unfold WPut; rw [if_neg (by omega)]; exact hp
  | 4, _ => exact ⟨0 + 1, [], Or.inr (Or.inr (Or.inr (Or.inr (Or.inl rfl)))), by simp, by simp, fun B Bb a ab len cap cb l E w _ _ _ _ _ _ hE => (put4 f u a ab len cap bs.length cb E w h1 h2 hE).mono fun e w' hp => by unfold WPut; rw [if_neg (by omega)]; exact hp, fun Bb ab cb w _ _ _ => refPut4 f u ab bs.length cb w h1 h2⟩
  | 5, _ => exact ⟨0, W.putF f 5 u bs, Or.inl rfl, hlt 5 (by omega), putF_len f 5 u bs, fun B Bb a ab len cap cb l E w hl hn _ hr _ _ _ => (put5 f u a ab len cap bs.length cb l bs w h1 h2 hu hl (by omega) hr).mono ok0, fun Bb ab cb w _ _ _ => refPut5 f u ab bs.length cb bs w h1 h2 hu⟩

set_option maxRecDepth 100000 in
set_option maxHeartbeats 2000000 in
theorem wirePut_law (E : Nat → Addr) (a ab : Option Addr) (len cap nb cb : Nat) (F K : Int) (u : Nat) (l bs : List Nat) (w : World) (hu : u < 18446744073709551616)
    (hl : l.length = len) (hb : bs.length = nb) (hcb : nb ≤ cb) (hr : Rd w.heap.size w a l) (hrb : Rd w.heap.size w ab bs) (hE : ErrsAll w E egs) :
    Calls Tryd.prog 4 #[.slice a len cap, .int .i64 F, .int .i64 K, .int .u64 u, .slice ab nb cb] w (TruePost w) := by
  have HE := Lib.hid hE
  have HR := Lib.hid hr
  have HRb := Lib.hid hrb
  subst hl hb
  clear hE hr hrb
  by_cases h : 16384 < l.length
  · go_enter Tryd.func4, Tryd.ntmps4
    go_wp2_with (go_at_call 8; refine (first_any E _ (errs_of_all HE.out)).mono ?_; rintro e w1 ⟨rfl, hb1⟩; have HB1 := Lib.hid hb1; clear hb1)
    go_ret
    exact ⟨rfl, HB1.out⟩
  have hd : decide (16384 < (l.length : Int)) = false := by simp; omega
  by_cases h2 : 16384 < bs.length
  · go_enter Tryd.func4, Tryd.ntmps4
    go_wp2_with (go_at_call 8; refine (first_any E _ (errs_of_all HE.out)).mono ?_; rintro e w1 ⟨rfl, hb1⟩; have HB1 := Lib.hid hb1; clear hb1)
    go_ret
    exact ⟨rfl, HB1.out⟩
  have hd2 : decide (16384 < (bs.length : Int)) = false := by simp; omega
  obtain ⟨c, P, hc, hPl, hPn, HW, HF⟩ := put_both F K u bs hu (by omega) HRb.out.1
  have HC := Lib.hid hc
  have HPl := Lib.hid hPl
  have HW := Lib.hid HW
  have HF := Lib.hid HF
  clear hc hPl hu
  obtain ⟨i0, hi, hz0, hz1b, hz2⟩ := info_parts info5
  have Hz2 := Lib.hid hz2
  clear hz2
  go_enter Tryd.func4, Tryd.ntmps4
  go_wp2_with fail
  refine (first_any E _ (errs_of_all HE.out)).mono ?_
  rintro e w1 ⟨rfl, hb1⟩
  have HB1 := Lib.hid hb1
  have hs1 := hb1.size
  clear hb1
  go_wp2_with fail
  refine (HW.out w.heap.size w.heap.size a ab l.length cap cb l E w1 rfl (by omega) hcb (HR.out.below HB1.out) (HRb.out.below HB1.out) hs1 (errs_of_all (HE.out.below HB1.out))).mono ?_
  rintro e w2 hp2
  unfold WPut at hp2
  by_cases hc0 : c = 0
  · subst hc0
    rw [if_pos rfl] at hp2
    obtain ⟨v2, rfl, hv2, hb2⟩ := hp2
    obtain ⟨g2, cp2, rfl⟩ := hv2.2
    have HB2 := Lib.hid (HB1.out.trans (hb2.mono hs1))
    have hs2 := HB2.out.size
    have HR2 := Lib.hid (own_rd hv2 rfl (lt_app HR.out.1 HPl.out)).1
    clear hb2 hv2
    go_wp2_with fail
    refine (HF.out w.heap.size ab cb w2 hcb (HRb.out.below HB2.out) hs2).mono ?_
    rintro e w3 hp3
    unfold RefPut at hp3
    rw [if_pos rfl] at hp3
    obtain ⟨v3, rfl, hv3, hb3⟩ := hp3
    obtain ⟨g3, cp3, rfl⟩ := hv3.2
    have HB3 := Lib.hid (HB2.out.trans (hb3.mono hs2))
    have HR3 := Lib.hid (own_rd hv3 rfl HPl.out).1
    have HR23 := Lib.hid (HR2.out.below hb3)
    clear hb3 hv3 HR2
    go_wp2_with fail
    refine (bytes_any a l.length cap l w3 rfl (HR.out.below HB3.out) (by omega)).mono ?_
    rintro e w5 ⟨v5, rfl, hv5, hb5⟩
    obtain ⟨g5, cp5, rfl⟩ := hv5.2
    have HV5 := Lib.hid hv5
    have X5 := Lib.hid hb5
    have HR5 := Lib.hid (HR3.out.below hb5)
    clear hb5 hv5 HR3
    go_wp2_with (at_builtin; refine wpList_appg _ rfl _ _ 22 rfl w3.heap.size _ 5 i0 (.int .u8 0) Tryd.underlying22 hi hz0 hz1b Hz2.out rfl _ l.length (vals l) rfl HV5.out.1 (by intro e; cases e) _ P.length cp3 P rfl rfl HR5.out ?_ ?_ ?_; omega; exact X5.out.size; intro g7 cp7 w7 hown7 hgrow7)
    have hv7 := own_app (l := l) (bs := P) rfl hown7
    have HR7 := Lib.hid (own_rd hv7 (by simp) (lt_app HR.out.1 HPl.out)).1
    have X7 := X5.out.grown hgrow7 X5.out.size (fun k e => by cases e; exact (HV5.out.1.lt g5 rfl).1)
    have H7 := Lib.hid (HB3.out.trans (X7.mono HB3.out.size))
    have HR4b := Lib.hid (HR23.out.below X7)
    clear hown7 hgrow7 hv7 X7
    refine (same_any _ _ _ _ _ _ (l ++ P) (l ++ P) _ (by simp) (by simp) HR4b.out HR7.out).mono ?_
    rintro e w8 ⟨rfl, rfl⟩
    rw [decide_eq_true rfl]
    go_wp2
    go_ret
    exact ⟨rfl, H7.out⟩
  · rw [if_neg hc0] at hp2
    obtain ⟨rfl, hb2⟩ := hp2
    have HB2 := Lib.hid (HB1.out.trans (hb2.mono hs1))
    have hs2 := HB2.out.size
    clear hb2
    go_wp2_with fail
    refine (HF.out w.heap.size ab cb w2 hcb (HRb.out.below HB2.out) hs2).mono ?_
    rintro e w3 hp3
    unfold RefPut at hp3
    rw [if_neg hc0] at hp3
    obtain ⟨rfl, hb3⟩ := hp3
    have HB3 := Lib.hid (HB2.out.trans (hb3.mono hs2))
    have hs3 := HB3.out.size
    clear hb3
    obtain ⟨k, rfl⟩ : ∃ k, c = k + 1 := ⟨c - 1, by omega⟩
    have hne : (cd (k + 1) != 0) = true := by simpa using cd_succ k
    go_wp2_with fail
    refine (show Calls _ _ #[er E (k + 1), _] _ _ from is_er HC.out w3 (HE.out.below HB3.out)).mono ?_
    rintro e w4 ⟨rfl, hb4⟩
    have HB4 := Lib.hid (HB3.out.trans (hb4.mono hs3))
    clear hb4
    go_wp2
    go_ret
    exact ⟨rfl, HB4.out⟩
end Go.Proofs.YtnejachdacakcaaDoor
