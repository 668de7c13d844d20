/-
The walks of wire.Text and of parleylaw1.WireTexts: it returns true whatever is asked.
-/
import Derived.Test.YtnejachdacakcaaDoorTvalid
import Derived.Test.YtnejachdacakcaaDoorGbytes
import Derived.Test.YtnejachdacakcaaDoorWfirst
namespace Go.Proofs.YtnejachdacakcaaDoor
open Go.RowKit

theorem text_any {B : Nat} (a : Option Addr) (len cap : Nat) (l : List Nat) (w : World) (hlen : l.length = len) (hcap : len ≤ cap) (hn : len ≤ 140737488355328) (hr : Rd B w a l) (hT : Lib.Utf8Tabs 4 5 w) :
    Calls Tryd.prog 18 #[.slice a len cap] w fun e w' => e = .returned (.bool (T.tx l)) ∧ Below w.heap.size w w' := by
  have HV := Lib.hid (valid_any a len cap l w hlen hcap hn hr hT)
  clear hlen hr hT
  generalize T.tx l = t at *
  go_enter Tryd.func18, Tryd.ntmps18
  go_wp2_with fail
  refine HV.out.mono ?_
  rintro e w1 ⟨rfl, hb⟩
  have HB := Lib.hid hb
  clear hb
  go_wp2
  go_ret
  exact ⟨rfl, HB.out⟩

set_option maxRecDepth 100000 in
set_option maxHeartbeats 2000000 in
theorem wireTexts_law (E : Nat → Addr) (a b : Option Addr) (len cap n cb : Nat) (l k : List Nat) (w : World) (hl : l.length = len) (hk : k.length = n) (hc : len ≤ cap) (hcb : n ≤ cb) (hr : Rd w.heap.size w a l) (hrb : Rd w.heap.size w b k) (hE : Errs w E)
    (hT : Lib.Utf8Tabs 4 5 w) :
    Calls Tryd.prog 6 #[.slice a len cap, .slice b n cb] w (TruePost w) := by
  have HE := Lib.hid hE
  have HR := Lib.hid hr
  have HRb := Lib.hid hrb
  have HT := Lib.hid hT
  subst hl hk
  clear hE hr hrb hT
  by_cases h : 16384 < l.length
  · go_enter Tryd.func6, Tryd.ntmps6
    go_wp2_with (go_at_call 8; refine (first_any E _ HE.out).mono ?_; rintro e w1 ⟨rfl, hb1⟩; have HB1 := Lib.hid hb1; clear hb1)
    go_ret
    exact ⟨rfl, HB1.out⟩
  have hd : decide (16384 < (l.length : Int)) = false := by simp; omega
  by_cases h2 : 16384 < k.length
  · go_enter Tryd.func6, Tryd.ntmps6
    go_wp2_with (go_at_call 8; refine (first_any E _ HE.out).mono ?_; rintro e w1 ⟨rfl, hb1⟩; have HB1 := Lib.hid hb1; clear hb1)
    go_ret
    exact ⟨rfl, HB1.out⟩
  have hd2 : decide (16384 < (k.length : Int)) = false := by simp; omega
  obtain ⟨x, hx⟩ : ∃ x, T.tx l = x := ⟨_, rfl⟩
  obtain ⟨y, hy⟩ : ∃ y, T.tx k = y := ⟨_, rfl⟩
  obtain ⟨z, hz⟩ : ∃ z, T.tx (l ++ k) = z := ⟨_, rfl⟩
  have h1 : Hid (x = true → z = y) := fun h => by rw [← hz, ← hy]; exact T.tx_app _ l k (Nat.le_refl _) (by rw [hx]; exact h)
  have h0 : Hid (x = false → y = true → z = false) := fun h h' => by rw [← hz]; exact T.tx_not _ l k (Nat.le_refl _) (by rw [hx]; exact h) (by rw [hy]; exact h')
  have HX := Lib.hid hx
  have HY := Lib.hid hy
  have HZ := Lib.hid hz
  clear hx hy hz
  obtain ⟨i0, hi, hz0, hz1b, hz2⟩ := info_parts info5
  have Hz2 := Lib.hid hz2
  clear hz2
  go_enter Tryd.func6, Tryd.ntmps6
  go_wp2_with fail
  refine (first_any E _ HE.out).mono ?_
  rintro e w1 ⟨rfl, hb1⟩
  have HB1 := Lib.hid hb1
  have hs1 := hb1.size
  clear hb1
  go_wp2_with fail
  refine (bytes_any a l.length cap l w1 rfl (HR.out.below HB1.out) (by omega)).mono ?_
  rintro e w2 ⟨v2, rfl, hv2, hb2⟩
  obtain ⟨g2, cp2, rfl⟩ := hv2.2
  have HV2 := Lib.hid hv2
  have HB2 := Lib.hid (HB1.out.trans (hb2.mono hs1))
  have hs2 := HB2.out.size
  have hs12 := hb2.size
  have HRb2 := Lib.hid (HRb.out.below HB2.out)
  clear hb2 hv2
  go_wp2_with (at_builtin; refine wpList_app _ rfl _ _ 22 rfl w1.heap.size _ 5 i0 (.int .u8 0) Tryd.underlying22 hi hz0 hz1b Hz2.out rfl _ l.length (vals l) rfl HV2.out.1 (by intro e; cases e) b k.length cb k rfl rfl HRb2.out ?_ ?_ ?_; omega; omega; intro g3 cp3 w3 hown3 hgrow3)
  have hv3 := own_app (l := l) (bs := k) rfl hown3
  obtain ⟨hr3, hcp3⟩ := own_rd hv3 (by simp) (lt_app HR.out.1 HRb.out.1)
  have hb3 : Below w.heap.size w w3 := HB2.out.grown hgrow3 hs2 (fun k e => by cases e; have := (HV2.out.1.lt g2 rfl).1; show w.heap.size ≤ g2; omega)
  have HB3 := Lib.hid hb3
  have HR3 := Lib.hid hr3
  have hs3 := hb3.size
  have hcp : l.length + k.length ≤ cp3 := hcp3
  clear hown3 hgrow3 hv3 hb3 hr3 hcp3 HV2 HB2 hs2 hs12 HRb2
  refine (text_any (B := w3.heap.size) _ (l.length + k.length) cp3 (l ++ k) w3 (by simp) hcp (by omega) HR3.out (tabs_below HT.out HB3.out)).mono ?_
  rintro e w4 ⟨rfl, hb4⟩
  have HB4 := Lib.hid (HB3.out.trans (hb4.mono hs3))
  have hs4 := HB4.out.size
  clear hb4
  rw [HZ.out]
  go_wp2_with fail
  refine (text_any (B := w.heap.size) a l.length cap l w4 rfl hc (by omega) (HR.out.below HB4.out) (tabs_below HT.out HB4.out)).mono ?_
  rintro e w5 ⟨rfl, hb5⟩
  have HB5 := Lib.hid (HB4.out.trans (hb5.mono hs4))
  have hs5 := HB5.out.size
  clear hb5
  rw [HX.out]
  cases x with
  | true =>
    have hzy := h1.out rfl
    subst hzy
    clear h1 h0
    go_wp2_with fail
    refine (text_any (B := w.heap.size) b k.length cb k w5 rfl hcb (by omega) (HRb.out.below HB5.out) (tabs_below HT.out HB5.out)).mono ?_
    rintro e w6 ⟨rfl, hb6⟩
    have HB6 := Lib.hid (HB5.out.trans (hb6.mono hs5))
    clear hb6
    rw [HY.out]
    clear HX HY HZ
    cases z
    all_goals
      go_wp2
      go_ret
      exact ⟨rfl, HB6.out⟩
  | false =>
    cases z with
    | false =>
      go_wp2
      go_ret
      exact ⟨rfl, HB5.out⟩
    | true =>
      have hyf : y = false := by
        cases y with
        | false => rfl
        | true => exact absurd (h0.out rfl rfl) (by simp)
      subst hyf
      go_wp2_with fail
      refine (text_any (B := w.heap.size) b k.length cb k w5 rfl hcb (by omega) (HRb.out.below HB5.out) (tabs_below HT.out HB5.out)).mono ?_
      rintro e w6 ⟨rfl, hb6⟩
      have HB6 := Lib.hid (HB5.out.trans (hb6.mono hs5))
      clear hb6
      rw [HY.out]
      go_wp2
      go_ret
      exact ⟨rfl, HB6.out⟩
end Go.Proofs.YtnejachdacakcaaDoor
