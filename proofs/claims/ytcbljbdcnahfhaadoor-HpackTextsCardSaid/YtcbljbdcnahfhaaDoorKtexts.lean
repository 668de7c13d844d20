/-
HpackTexts: texts are written and read as the reference says, and read back.
-/
import Derived.Test.YtcbljbdcnahfhaaDoorKints
import Derived.Test.YtcbljbdcnahfhaaDoorMkg
import Derived.Test.YtcbljbdcnahfhaaDoorKreft
namespace Go.Proofs.YtcbljbdcnahfhaaDoor
open Go.RowKit

theorem getT_err {l : List Nat} {i : Nat} (h : (P.getT l).2.2 = some i) : i < 30 := by
  obtain ⟨n, k, e, hg⟩ : ∃ n k e, P.get 7 l = (n, k, e) := ⟨_, _, _, rfl⟩
  unfold P.getT at h
  rw [hg] at h
  cases e with
  | some e =>
    have := (P.get_err (b := 7) (l := l) (by rw [hg]; simp)).2.2
    rw [hg] at this
    simp only [Option.some.injEq] at h this
    omega
  | none =>
    simp only at h
    split at h
    · simp at h; omega
    · split at h
      · simp at h; omega
      · split at h
        · simp at h
        · split at h
          · simp at h; omega
          · simp at h

set_option maxRecDepth 100000 in
set_option maxHeartbeats 2000000 in
theorem hpackTexts_law (E : Nat → Addr) (a : Option Addr) (len cap : Nat) (l : List Nat) (s : ByteArray) (w : World) (hl : l.length = len) (hcap : len ≤ cap) (hr : Rd w.heap.size w a l) (hE : ErrsAll w E egs) :
    Calls Tryd.prog 4 #[.slice a len cap, .string s] w (TruePost w) := by
  subst hl
  obtain ⟨i0, hi, hz0, hz1, hz2⟩ := info_parts info5
  have Hz2 := Lib.hid hz2
  clear hz2
  have HF := Lib.hid (kfirst_any E w hE.kgs)
  have HE := Lib.hid hE
  have HR := Lib.hid hr
  clear hr hE
  go_enter Tryd.func4, Tryd.ntmps4
  go_wp2_with fail
  refine HF.out.mono ?_
  rintro e w1 ⟨rfl, hb1⟩
  have hw1 := hb1.size
  have HB1 := Lib.hid hb1
  clear hb1 HF
  by_cases hlen : 300 < l.length
  · have q : (300 : Int) < (l.length : Int) := by omega
    go_wp2
    go_ret
    exact ⟨rfl, HB1.out⟩
  have q : ¬ (300 : Int) < (l.length : Int) := by omega
  by_cases hsl : 3000 < s.size
  · have q2 : (3000 : Int) < (s.size : Int) := by omega
    go_wp2
    go_ret
    exact ⟨rfl, HB1.out⟩
  have q2 : ¬ (3000 : Int) < (s.size : Int) := by omega
  go_wp2_with fail
  refine (PutText_any (B2 := 0) none 0 0 [] s w1 rfl (Rd.nil _ _ _) (by omega) (by omega)).mono ?_
  rintro e w2 ⟨v2, rfl, hv2, hb2⟩
  rw [List.nil_append] at hv2
  have hlt := putT_lt (by_ s) (by_lt s) (by rw [by_len]; omega)
  have hul := P.putT_len (by_ s)
  rw [by_len] at hul
  have hget := P.getT_putT (by_ s) l (by_lt s) (by rw [by_len]; omega)
  have HRP := Lib.hid (fun w => refPutT_any s w (by omega))
  obtain ⟨u, hu⟩ : ∃ u, u = P.putT (by_ s) := ⟨_, rfl⟩
  rw [← hu] at hv2 hlt hul hget HRP
  obtain ⟨g2, cp2, rfl⟩ := hv2.2
  have HV2 := Lib.hid hv2.1
  have HLT := Lib.hid hlt
  have HGET := Lib.hid hget
  have hz2 := hb2.size
  have HB2 := Lib.hid (HB1.out.trans (hb2.mono HB1.out.size))
  clear hv2 hb2 hlt hget hu HB1
  go_wp2_with fail
  refine (HRP.out _).mono ?_
  rintro e w3 ⟨v3, rfl, hv3, hb3⟩
  obtain ⟨a3, cp3, rfl, hr3⟩ := ownN_rd2 hv3 HLT.out
  have HV3 := Lib.hid (OwnN.below HV2.out hb3)
  obtain ⟨a2, cp2', e2, hr2⟩ := ownN_rd2 HV3.out HLT.out
  cases e2
  have HSB := Lib.hid (same_any (some ⟨g2, 0, none⟩) a3 u.length u.length cp2 cp3 u u w3 rfl rfl hr2 hr3)
  rw [decide_eq_true rfl] at HSB
  have hz3 := hb3.size
  have HB3 := Lib.hid (HB2.out.trans (hb3.mono HB2.out.size))
  clear hv3 hb3 hr3 hr2 HV2 HB2 HRP
  go_wp2_with fail
  refine HSB.out.mono ?_
  rintro e w4 ⟨rfl, rfl⟩
  have hek := HE.out.keep (w' := w3) (fun k hk => HB3.out.block k hk)
  have HT := Lib.hid (Text_any a l.length cap l E w3 rfl hcap (by omega) (HR.out.below HB3.out) hek.kgs)
  obtain ⟨x, k, o, hg⟩ : ∃ x k o, P.getT l = (x, k, o) := ⟨_, _, _, rfl⟩
  have ho30 : ∀ i, o = some i → i < 30 := fun i hi => getT_err (l := l) (by rw [hg]; exact hi)
  rw [hg] at HT
  have HG := Lib.hid hg
  have HO30 := Lib.hid ho30
  clear hek HSB hg ho30
  go_wp2_with fail
  refine HT.out.mono ?_
  rintro e w5 ⟨rfl, hb5⟩
  have hz5 := hb5.size
  have HV5 := Lib.hid (OwnN.below HV3.out hb5)
  have HB5 := Lib.hid (HB3.out.trans (hb5.mono HB3.out.size))
  clear hb5 HT HV3 HB3
  have HT2 := Lib.hid (refText_any a l.length cap l w5 rfl hcap (by omega) (HR.out.below HB5.out))
  rw [HG.out] at HT2
  simp only [getTV]
  go_wp2_with fail
  refine HT2.out.mono ?_
  rintro e w6 ⟨rfl, hb6⟩
  have hz6 := hb6.size
  have HV6 : Hid (w6.ownsRow w1.heap.size 5 1 (.slice (some ⟨g2, 0, none⟩) u.length cp2) u.length (vals u)) := OwnN.below HV5.out hb6
  have HB6 := Lib.hid (HB5.out.trans (hb6.mono HB5.out.size))
  have HR6 := Lib.hid (HR.out.below HB6.out)
  clear hb6 HT2 HV5 HB5
  simp only [getTR]
  go_wp2_with (at_builtin; refine wpList_app _ rfl _ _ 22 rfl w1.heap.size _ 5 i0 (.int .u8 0) Tryd.underlying22 hi hz0 hz1 Hz2.out rfl _ u.length (vals u) rfl HV6.out (by intro e; cases e) _ l.length cap l rfl rfl HR6.out ?_ ?_ ?_; omega; omega; intro g7 cp7 w7 hown7 hgrow7)
  have hb7 : Below w1.heap.size w6 w7 := (Below.refl _ _).grown hgrow7 (by omega) (fun k e => by cases e; exact (HV6.out.lt g2 rfl).1)
  have HB7 := Lib.hid (HB6.out.trans (hb7.mono hw1))
  have ho7 : OwnN w1.heap.size w7 (.slice (some ⟨g7, 0, none⟩) (u ++ l).length cp7) (u ++ l) := by
    show World.ownsRow _ _ _ _ _ _ _
    rw [vals_append, List.length_append]; exact hown7
  obtain ⟨a7, cp7', e7, hr7⟩ := ownN_rd2 ho7 (fun x hx => by rcases List.mem_append.1 hx with h | h; exact HLT.out x h; exact HR.out.1 x h)
  cases e7
  have hek := HE.out.keep (w' := w7) (fun k hk => HB7.out.block k hk)
  have hcp7 : (u ++ l).length ≤ cp7 := by
    have ho : Own w1.heap.size w7 (.slice (some ⟨g7, 0, none⟩) (u ++ l).length cp7) (u ++ l) := ⟨ho7, _, _, rfl⟩
    obtain ⟨_, _, e, hle, _⟩ := ho.rd (fun x hx => by rcases List.mem_append.1 hx with h | h; exact HLT.out x h; exact HR.out.1 x h)
    cases e
    exact hle
  have HT3 := Lib.hid (Text_any (some ⟨g7, 0, none⟩) (u ++ l).length cp7 (u ++ l) E w7 rfl hcp7 (by rw [List.length_append]; omega) hr7 hek.kgs)
  rw [HGET.out, List.length_append] at HT3
  clear hek hr7 ho7 hown7 hgrow7 hb7 hcp7 HGET HR6 HV6 HB6
  refine HT3.out.mono ?_
  rintro e w8 ⟨rfl, hb8⟩
  have HB8 := Lib.hid (HB7.out.trans (hb8.mono HB7.out.size))
  have hek := HE.out.keep (w' := w8) (fun k hk => HB8.out.block k hk)
  have HIs := Lib.hid (Is_any o (codeR o) w8 hek HO30.out)
  have hoc : oC o = codeR o := by cases o <;> rfl
  rw [decide_eq_true hoc] at HIs
  clear hek hoc hb8 HT3 HB7 HG HO30
  simp only [getTV]
  rw [strOf_by]
  generalize codeR o = co at *
  generalize oV E o = vo at *
  simp only [oV]
  generalize strOf x = xs at *
  go_wp2_with (go_at_call 17; refine HIs.out.mono ?_; rintro e w9 ⟨rfl, hb9⟩; have HB9 := Lib.hid (HB8.out.trans (hb9.mono HB8.out.size)); clear hb9 HIs HB8)
  go_ret
  exact ⟨rfl, HB9.out⟩
end Go.Proofs.YtcbljbdcnahfhaaDoor
