/-
HpackInts: numbers with a prefix are written and read as the reference says, and read back.
-/
import Derived.Test.YtcbljbdcnahfhaaDoorMke
import Derived.Test.YtcbljbdcnahfhaaDoorMkf
import Derived.Test.YtcbljbdcnahfhaaDoorMga
import Derived.Test.YtcbljbdcnahfhaaDoorMge
namespace Go.Proofs.YtcbljbdcnahfhaaDoor
open Go.RowKit

theorem ownN_rd2 {B : Nat} {w : World} {v : Value} {l : List Nat} (h : OwnN B w v l) (hb : ∀ x ∈ l, x < 256) : ∃ a cp, v = .slice a l.length cp ∧ Rd w.heap.size w a l := by
  by_cases hl : l = []
  · subst hl
    obtain ⟨a, cp, e⟩ := h.shape
    exact ⟨a, cp, e, Rd.nil _ _ _⟩
  · obtain ⟨g, cp, e, _, _, _, hr⟩ := ownN_rd h hl hb
    exact ⟨_, cp, e, hr⟩
theorem putI_lt (f b n : Int) : ∀ x ∈ P.putI f b n, x < 256 := by
  unfold P.putI
  split
  · rename_i hm
    obtain ⟨m1, m2, m3, m4, m5, m6, m7⟩ := hm
    have hf7 : f.toNat % 2 ^ b.toNat = 0 := by
      have : ((f.toNat % 2 ^ b.toNat : Nat) : Int) = 0 := by push_cast; rw [Int.toNat_of_nonneg m5]; exact m7
      exact_mod_cast this
    refine P.put_lt ?_ (by omega)
    have hp : 2 ^ b.toNat * 2 ^ (8 - b.toNat) = 256 := by rw [← Nat.pow_add, show b.toNat + (8 - b.toNat) = 8 by omega]
    have h1 : f.toNat = 2 ^ b.toNat * (f.toNat / 2 ^ b.toNat) := by have := Nat.div_add_mod f.toNat (2 ^ b.toNat); omega
    have h2 : f.toNat / 2 ^ b.toNat < 2 ^ (8 - b.toNat) := Nat.div_lt_of_lt_mul (by rw [hp]; omega)
    have h3 : 2 ^ b.toNat * (f.toNat / 2 ^ b.toNat + 1) ≤ 2 ^ b.toNat * 2 ^ (8 - b.toNat) := Nat.mul_le_mul_left _ h2
    rw [Nat.mul_add] at h3
    have := Nat.two_pow_pos b.toNat
    unfold P.full
    omega
  · simp
theorem putI_len (f b n : Int) : (P.putI f b n).length ≤ 11 := by
  unfold P.putI
  split
  · exact (P.put_len _ _ _).2
  · simp
/-- What is written without a prefix is read back. -/
theorem putI_get (b n : Int) (r : List Nat) (h : P.putI 0 b n ≠ []) : P.getI b (P.putI 0 b n ++ r) = (n.toNat, (P.putI 0 b n).length, none) ∧ ((n.toNat : Nat) : Int) = n := by
  by_cases hm : P.may 0 b n
  · have hp : P.putI 0 b n = P.put 0 b.toNat n.toNat := by unfold P.putI; rw [if_pos hm]; rfl
    rw [hp]
    obtain ⟨m1, m2, m3, m4, _, _, _⟩ := hm
    refine ⟨?_, by omega⟩
    unfold P.getI
    rw [if_pos ⟨m1, m2⟩]
    exact P.get_put r (by omega) (by omega) (by omega) (Nat.zero_mod _)
  · exact absurd (by unfold P.putI; rw [if_neg hm]) h
theorem getI_err {b : Int} {l : List Nat} {i : Nat} (h : (P.getI b l).2.2 = some i) : i < 30 := by
  unfold P.getI at h
  split at h
  · have := (P.get_err (b := b.toNat) (l := l) (by rw [h]; simp)).2.2
    rw [h] at this
    rcases this with e | e <;> cases e <;> omega
  · cases h; omega

set_option maxRecDepth 100000 in
set_option maxHeartbeats 2000000 in
theorem hpackInts_law (E : Nat → Addr) (f b n : Int) (a : Option Addr) (len cap : Nat) (l : List Nat) (w : World) (hl : l.length = len) (hr : Rd w.heap.size w a l) (hE : ErrsAll w E egs) :
    Calls Tryd.prog 3 #[.slice a len cap, .int .i64 f, .int .i64 b, .int .i64 n] w (TruePost w) := by
  subst hl
  obtain ⟨i0, hi, hz0, hz1, hz2⟩ := info_parts info5
  have Hz2 := Lib.hid hz2
  clear hz2
  have HF := Lib.hid (kfirst_any E w hE.kgs)
  have HE := Lib.hid hE
  have HR := Lib.hid hr
  clear hr hE
  go_enter Tryd.func3, Tryd.ntmps3
  go_wp2_with fail
  refine HF.out.mono ?_
  rintro e w1 ⟨rfl, hb1⟩
  have HB1 := Lib.hid hb1
  clear hb1 HF
  by_cases hlen : 16384 < l.length
  · have q : (16384 : Int) < (l.length : Int) := by omega
    go_wp2
    go_ret
    exact ⟨rfl, HB1.out⟩
  have q : ¬ (16384 : Int) < (l.length : Int) := by omega
  have HR1 := Lib.hid (HR.out.below HB1.out)
  go_wp2_with fail
  refine (PutInt_any a l.length cap l f b n w1 rfl HR1.out (by omega)).mono ?_
  rintro e w2 ⟨v2, rfl, hv2, hb2⟩
  have hp256 := putI_lt f b n
  have hp11 := putI_len f b n
  obtain ⟨p, hp⟩ : ∃ p, p = P.putI f b n := ⟨_, rfl⟩
  rw [← hp] at hv2 hp256 hp11
  have HP := Lib.hid hp
  have HP256 := Lib.hid hp256
  have hall : ∀ x ∈ l ++ p, x < 256 := fun x hx => by rcases List.mem_append.1 hx with h | h; exact HR.out.1 x h; exact HP256.out x h
  obtain ⟨a2, cp2, rfl, _, hr2⟩ := hv2.rd hall
  have HR2 := Lib.hid hr2
  have HB2 := Lib.hid (HB1.out.trans (hb2.mono HB1.out.size))
  clear hv2 hr2 hb2 hp hp256 HR1 HB1 hall
  go_wp2_with fail
  refine (bytes_any a l.length cap l w2 rfl (HR.out.below HB2.out) (by omega)).mono ?_
  rintro e w3 ⟨v3, rfl, hv3, hb3⟩
  obtain ⟨g3, cp3, rfl⟩ := hv3.2
  have HV3 := Lib.hid hv3.1
  have HB23 := Lib.hid hb3
  have hz3 := hb3.size
  clear hv3 hb3
  go_wp2_with fail
  refine (refPut_any f b n w3).mono ?_
  rintro e w4 ⟨v4, rfl, hv4, hb4⟩
  rw [← HP.out] at hv4
  obtain ⟨a4, cp4, rfl, hr4⟩ := ownN_rd2 hv4 HP256.out
  have HR4 := Lib.hid hr4
  have HV34 : Hid (w4.ownsRow w2.heap.size 5 1 (.slice (some ⟨g3, 0, none⟩) l.length cp3) l.length (vals l)) := OwnN.below HV3.out hb4
  have HB24 := Lib.hid (HB23.out.trans (hb4.mono hz3))
  have hz4 := HB24.out.size
  clear hv4 hb4 hr4 HV3 HB23
  go_wp2_with (at_builtin; refine wpList_app _ rfl _ _ 22 rfl w2.heap.size _ 5 i0 (.int .u8 0) Tryd.underlying22 hi hz0 hz1 Hz2.out rfl _ l.length (vals l) rfl HV34.out (by intro e; cases e) _ p.length cp4 p rfl rfl HR4.out ?_ ?_ ?_; omega; exact hz4; intro g5 cp5 w5 hown5 hgrow5)
  have hb5 : Below w2.heap.size w2 w5 := HB24.out.grown hgrow5 (by omega) (fun k e => by cases e; exact (HV34.out.lt g3 rfl).1)
  have HB5 := Lib.hid (HB2.out.trans (hb5.mono HB2.out.size))
  have ho5 : OwnN w2.heap.size w5 (.slice (some ⟨g5, 0, none⟩) (l ++ p).length cp5) (l ++ p) := by
    show World.ownsRow _ _ _ _ _ _ _
    rw [vals_append, List.length_append]; exact hown5
  obtain ⟨a5, cp5', e5, hr5⟩ := ownN_rd2 ho5 (fun x hx => by rcases List.mem_append.1 hx with h | h; exact HR.out.1 x h; exact HP256.out x h)
  cases e5
  have HSB := Lib.hid (same_any a2 (some ⟨g5, 0, none⟩) (l ++ p).length (l ++ p).length cp2 cp5 (l ++ p) (l ++ p) w5 rfl rfl (HR2.out.below hb5) hr5)
  rw [decide_eq_true rfl] at HSB
  rw [List.length_append] at HSB
  clear hb5 ho5 hr5 hown5 hgrow5 HV34 HB24 HR4 HB2 HR2
  go_wp2_with fail
  refine HSB.out.mono ?_
  rintro e w6 ⟨rfl, rfl⟩
  have hek := HE.out.keep (w' := w5) (fun k hk => HB5.out.block k hk)
  have HI := Lib.hid (Int_any b a l.length cap l E w5 rfl (by omega) (HR.out.below HB5.out) hek.kgs)
  obtain ⟨x, k, o, hg⟩ : ∃ x k o, P.getI b l = (x, k, o) := ⟨_, _, _, rfl⟩
  have ho30 : ∀ i, o = some i → i < 30 := fun i hi => getI_err (b := b) (l := l) (by rw [hg]; exact hi)
  rw [hg] at HI
  have HG := Lib.hid hg
  have HO30 := Lib.hid ho30
  clear hek HSB hg ho30
  go_wp2_with fail
  refine HI.out.mono ?_
  rintro e w7 ⟨rfl, qq, rfl⟩
  obtain ⟨w7, hw7⟩ : ∃ w7, w7 = w5.drewN qq := ⟨_, rfl⟩
  have hb7 : Below w5.heap.size w5 w7 := by rw [hw7]; exact ⟨rfl, rfl, rfl, Nat.le_refl _, fun _ _ => rfl⟩
  rw [← hw7]
  have HB7 := Lib.hid (HB5.out.trans (hb7.mono HB5.out.size))
  clear hw7 hb7 HI HB5
  have HI2 := Lib.hid (refInt_any b a l.length cap l w7 rfl (by omega) (HR.out.below HB7.out))
  rw [HG.out] at HI2
  simp only [getV]
  go_wp2_with fail
  refine HI2.out.mono ?_
  rintro e w8 ⟨rfl, rfl⟩
  have hek := HE.out.keep (w' := w7) (fun k hk => HB7.out.block k hk)
  have HIs := Lib.hid (Is_any o (codeR o) w7 hek HO30.out)
  have hoc : oC o = codeR o := by cases o <;> rfl
  rw [decide_eq_true hoc] at HIs
  clear hek hoc HI2 HG HO30
  simp only [getR]
  generalize codeR o = co at *
  generalize oV E o = vo at *
  go_wp2_with (go_at_call 17; refine HIs.out.mono ?_; rintro e w9 ⟨rfl, hb9⟩; have HB9 := Lib.hid (HB7.out.trans (hb9.mono HB7.out.size)); have hz9 := HB9.out.size; clear hb9 HIs HB7)
  have hp11' := putI_len 0 b n
  have hp256' := putI_lt 0 b n
  have HGet := Lib.hid (putI_get b n l)
  refine (PutInt_any (B2 := 0) none 0 0 [] 0 b n w9 rfl (Rd.nil _ _ _) (by omega)).mono ?_
  rintro e w10 ⟨v10, rfl, hv10, hb10⟩
  rw [List.nil_append] at hv10
  obtain ⟨u, hu⟩ : ∃ u, u = P.putI 0 b n := ⟨_, rfl⟩
  rw [← hu] at hp11' hp256' HGet hv10
  obtain ⟨g10, cp10, rfl⟩ := hv10.2
  have HV10 := Lib.hid hv10.1
  have HP256' := Lib.hid hp256'
  have HB10 := Lib.hid (HB9.out.trans (hb10.mono HB9.out.size))
  have hz10 := hb10.size
  clear hv10 hb10 hu hp256' HB9
  by_cases hu0 : u = []
  · subst hu0
    go_wp2
    go_ret
    exact ⟨rfl, HB10.out⟩
  · have hul : ((u.length : Int) == 0) = false := by
      have : u.length ≠ 0 := fun e => hu0 (List.length_eq_zero_iff.1 e)
      simp; omega
    have hul2 : ¬ (u.length : Int) = 0 := by
      have : u.length ≠ 0 := fun e => hu0 (List.length_eq_zero_iff.1 e)
      omega
    obtain ⟨hge, hn⟩ := HGet.out hu0
    have HGe := Lib.hid hge
    have HN := Lib.hid hn
    have HR10 := Lib.hid (HR.out.below HB10.out)
    clear hge hn HGet
    go_wp2_with (at_builtin; refine wpList_app _ rfl _ _ 22 rfl w9.heap.size _ 5 i0 (.int .u8 0) Tryd.underlying22 hi hz0 hz1 Hz2.out rfl _ u.length (vals u) rfl HV10.out (by intro e; cases e) _ l.length cap l rfl rfl HR10.out ?_ ?_ ?_; omega; exact hz10; intro g11 cp11 w11 hown11 hgrow11)
    have hb11 : Below w9.heap.size w10 w11 := (Below.refl _ _).grown hgrow11 (by omega) (fun k e => by cases e; exact (HV10.out.lt g10 rfl).1)
    have hw9 : w.heap.size ≤ w9.heap.size := by assumption
    have HB11 := Lib.hid (HB10.out.trans (hb11.mono hw9))
    have ho11 : OwnN w9.heap.size w11 (.slice (some ⟨g11, 0, none⟩) (u ++ l).length cp11) (u ++ l) := by
      show World.ownsRow _ _ _ _ _ _ _
      rw [vals_append, List.length_append]; exact hown11
    obtain ⟨a11, cp11', e11, hr11⟩ := ownN_rd2 ho11 (fun x hx => by rcases List.mem_append.1 hx with h | h; exact HP256'.out x h; exact HR.out.1 x h)
    cases e11
    have hek := HE.out.keep (w' := w11) (fun k hk => HB11.out.block k hk)
    have HI := Lib.hid (Int_any b (some ⟨g11, 0, none⟩) (u ++ l).length cp11 (u ++ l) E w11 rfl (by rw [List.length_append]; omega) hr11 hek.kgs)
    rw [HGe.out, List.length_append] at HI
    clear hek hr11 ho11 hown11 hgrow11 hb11 HGe HR10 HV10
    go_wp2_with fail
    refine HI.out.mono ?_
    rintro e w12 ⟨rfl, q12, rfl⟩
    simp only [getV, oV]
    rw [HN.out]
    go_wp2
    go_ret
    exact ⟨rfl, HB11.out.trans ⟨rfl, rfl, rfl, Nat.le_refl _, fun _ _ => rfl⟩⟩
end Go.Proofs.YtcbljbdcnahfhaaDoor
