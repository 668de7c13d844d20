/-
The walks of hpack's PutInt, appendText, PutText.
-/
import Derived.Lib.AppendStr
import Derived.Test.YthdgcakbeiocgaaDoorKint
import Derived.Test.YthdgcakbeiocgaaDoorHdec
namespace Go.Proofs.YthdgcakbeiocgaaDoor
open Go.RowKit

/-- What PutInt's test comes to. -/
theorem may_no1 {f b n : Int} (h : ¬ (1 ≤ b ∧ b ≤ 8)) : ¬ P.may f b n := fun x => h ⟨x.1, x.2.1⟩

theorem and_full {b f : Nat} (hb : b ≤ 8) (hf : f < 256) : bits .and .i64 (f : Int) (P.full b : Nat) = ((f % 2 ^ b : Nat) : Int) := by
  have h2 : 0 < 2 ^ b := Nat.two_pow_pos b
  have := bits_mask .i64 63 (by decide) (fun n h0 h1 => by rw [IntKind.wrap_i64]; omega) b (by omega) (f : Int) (by omega) (by omega)
  have e : ((P.full b : Nat) : Int) = 2 ^ b - 1 := by
    unfold P.full
    have e2 : (2 : Int) ^ b = ((2 ^ b : Nat) : Int) := by push_cast; rfl
    rw [e2]
    omega
  rw [e, this]
  push_cast
  rfl

set_option maxRecDepth 100000 in
set_option maxHeartbeats 1000000 in
theorem PutInt_any {B2 : Nat} (a : Option Addr) (len cap : Nat) (l : List Nat) (f b n : Int) (w : World) (hl : l.length = len) (hr : Rd B2 w a l) (hsz : len ≤ 100000000000) :
    Calls Tryd.prog 12 #[.slice a len cap, .int .i64 f, .int .i64 b, .int .i64 n] w (OwnPost w.heap.size (l ++ P.putI f b n) w) := by
  have HP : Hid (∀ w, Calls Tryd.prog 37 #[.int .i64 b] w fun e w' => e = .returned (.bool (decide (1 ≤ b ∧ b ≤ 8))) ∧ w = w') := fun w => isPrefix_any b w
  have HFr : Hid (∀ room : Nat, room ≤ 100 → Calls Tryd.prog 39 #[.slice a len cap, .int .i64 room] w (OwnPost w.heap.size l w)) := fun room hroom => kfresh_any a len cap l room w hl hr (by omega)
  have Hl := Lib.hid hl
  clear hl hr
  by_cases hm : P.may f b n
  · have hput : P.putI f b n = P.put f.toNat b.toNat n.toNat := by unfold P.putI; rw [if_pos hm]
    rw [hput]
    obtain ⟨m1, m2, m3, m4, m5, m6, m7⟩ := hm
    obtain ⟨f, rfl⟩ : ∃ k : Nat, f = (k : Int) := ⟨f.toNat, by omega⟩
    obtain ⟨b, rfl⟩ : ∃ k : Nat, b = (k : Int) := ⟨b.toNat, by omega⟩
    obtain ⟨n, rfl⟩ : ∃ k : Nat, n = (k : Int) := ⟨n.toNat, by omega⟩
    simp only [Int.toNat_natCast] at m7 ⊢
    have hf7 : f % 2 ^ b = 0 := by exact_mod_cast m7
    have ea := and_full (b := b) (f := f) (by omega) (by omega)
    rw [hf7] at ea
    have hff : f + P.full b < 256 := by
      have hp : 2 ^ b * 2 ^ (8 - b) = 256 := by rw [← Nat.pow_add, show b + (8 - b) = 8 by omega]
      have h1 : f = 2 ^ b * (f / 2 ^ b) := by have := Nat.div_add_mod f (2 ^ b); omega
      have h2 : f / 2 ^ b < 2 ^ (8 - b) := Nat.div_lt_of_lt_mul (by rw [hp]; omega)
      have h3 : 2 ^ b * (f / 2 ^ b + 1) ≤ 2 ^ b * 2 ^ (8 - b) := Nat.mul_le_mul_left _ h2
      rw [Nat.mul_add] at h3
      have := Nat.two_pow_pos b
      unfold P.full
      omega
    have HF : Hid (∀ w, Calls Tryd.prog 38 #[.int .i64 b] w fun e w' => e = .returned (.int .i64 (P.full b : Nat)) ∧ w = w') := fun w => full_any b w (by omega)
    have HA : Hid (∀ (g cp : Nat) (ww : World), OwnN w.heap.size ww (.slice (some ⟨g, 0, none⟩) l.length cp) l → w.heap.size ≤ ww.heap.size → Calls Tryd.prog 40 #[.slice (some ⟨g, 0, none⟩) l.length cp, .int .i64 f, .int .i64 b, .int .i64 n] ww (OwnPostN w.heap.size (l ++ P.put f b n) ww)) := fun g cp ww h1 h2 => appendInt_any w.heap.size _ cp l f b n ww h1 (by omega) (by omega) hf7 hff (by omega) (by rw [Hl.out]; exact hsz) h2
    rw [decide_eq_true (by omega)] at HP
    clear m7 hf7 hff hput
    generalize P.full b = F at *
    generalize P.put f b n = bs at *
    go_enter Tryd.func12, Tryd.ntmps12
    go_wp2_with (first | (go_at_call 37; refine (HP.out _).mono ?_; rintro e w1 ⟨rfl, rfl⟩) | (go_at_call 38; refine (HF.out _).mono ?_; rintro e w1 ⟨rfl, rfl⟩))
    refine (HFr.out 6 (by omega)).mono ?_
    rintro e w2 ⟨v2, rfl, hv2, hb2⟩
    obtain ⟨g2, cp2, rfl⟩ := hv2.2
    have HV2 := Lib.hid hv2.1
    have HB2 := Lib.hid hb2
    have hs2 := hb2.size
    clear hv2 hb2
    go_wp2_with fail
    refine (HA.out g2 cp2 _ HV2.out hs2).mono ?_
    rintro e w3 ⟨v3, rfl, hv3, hb3, _⟩
    have HV3 := Lib.hid hv3
    have HB3 := Lib.hid (HB2.out.trans hb3)
    clear hv3 hb3
    go_wp2
    go_ret
    exact ⟨_, rfl, HV3.out, HB3.out⟩
  · have hput : P.putI f b n = [] := by unfold P.putI; rw [if_neg hm]
    rw [hput, List.append_nil]
    clear hput
    have HFr0 := Lib.hid (HFr.out 0 (by omega))
    clear HFr
    have fin : ∀ (e : Ending) (w' : World), OwnPost w.heap.size l w e w' → OwnPost w.heap.size l w e w' := fun _ _ h => h
    by_cases hbb : 1 ≤ b ∧ b ≤ 8
    · rw [decide_eq_true hbb] at HP
      by_cases hn0 : n < 0
      · go_enter Tryd.func12, Tryd.ntmps12
        go_wp2_with (go_at_call 37; refine (HP.out _).mono ?_; rintro e w1 ⟨rfl, rfl⟩)
        refine HFr0.out.mono ?_
        rintro e w2 ⟨v2, rfl, hv2, hb2⟩
        go_wp2
        go_ret
        exact ⟨_, rfl, hv2, hb2⟩
      by_cases hn1 : 2147483647 < n
      · go_enter Tryd.func12, Tryd.ntmps12
        go_wp2_with (go_at_call 37; refine (HP.out _).mono ?_; rintro e w1 ⟨rfl, rfl⟩)
        refine HFr0.out.mono ?_
        rintro e w2 ⟨v2, rfl, hv2, hb2⟩
        go_wp2
        go_ret
        exact ⟨_, rfl, hv2, hb2⟩
      by_cases hf0 : f < 0
      · go_enter Tryd.func12, Tryd.ntmps12
        go_wp2_with (go_at_call 37; refine (HP.out _).mono ?_; rintro e w1 ⟨rfl, rfl⟩)
        refine HFr0.out.mono ?_
        rintro e w2 ⟨v2, rfl, hv2, hb2⟩
        go_wp2
        go_ret
        exact ⟨_, rfl, hv2, hb2⟩
      by_cases hf1 : 255 < f
      · go_enter Tryd.func12, Tryd.ntmps12
        go_wp2_with (go_at_call 37; refine (HP.out _).mono ?_; rintro e w1 ⟨rfl, rfl⟩)
        refine HFr0.out.mono ?_
        rintro e w2 ⟨v2, rfl, hv2, hb2⟩
        go_wp2
        go_ret
        exact ⟨_, rfl, hv2, hb2⟩
      obtain ⟨f, rfl⟩ : ∃ k : Nat, f = (k : Int) := ⟨f.toNat, by omega⟩
      obtain ⟨b, rfl⟩ : ∃ k : Nat, b = (k : Int) := ⟨b.toNat, by omega⟩
      have ea := and_full (b := b) (f := f) (by omega) (by omega)
      have HF : Hid (∀ w, Calls Tryd.prog 38 #[.int .i64 b] w fun e w' => e = .returned (.int .i64 (P.full b : Nat)) ∧ w = w') := fun w => full_any b w (by omega)
      have hr0 : f % 2 ^ b ≠ 0 := fun e => hm ⟨by omega, by omega, by omega, by omega, by omega, by omega, by rw [Int.toNat_natCast]; exact_mod_cast e⟩
      clear hm
      generalize f % 2 ^ b = r at *
      generalize P.full b = F at *
      have hne : ((r : Int) != 0) = true := by simp; omega
      go_enter Tryd.func12, Tryd.ntmps12
      go_wp2_with (first | (go_at_call 37; refine (HP.out _).mono ?_; rintro e w1 ⟨rfl, rfl⟩) | (go_at_call 38; refine (HF.out _).mono ?_; rintro e w1 ⟨rfl, rfl⟩))
      refine HFr0.out.mono ?_
      rintro e w2 ⟨v2, rfl, hv2, hb2⟩
      go_wp2
      go_ret
      exact ⟨_, rfl, hv2, hb2⟩
    · rw [decide_eq_false hbb] at HP
      clear hm
      go_enter Tryd.func12, Tryd.ntmps12
      go_wp2_with (go_at_call 37; refine (HP.out _).mono ?_; rintro e w1 ⟨rfl, rfl⟩)
      refine HFr0.out.mono ?_
      rintro e w2 ⟨v2, rfl, hv2, hb2⟩
      go_wp2
      go_ret
      exact ⟨_, rfl, hv2, hb2⟩

theorem strCells_by (s : ByteArray) : Go.Lib.strCells s = vals (by_ s) := by
  unfold Go.Lib.strCells vals by_
  rw [List.map_map]
  rfl

set_option maxRecDepth 100000 in
set_option maxHeartbeats 1000000 in
theorem appendText_any (B : Nat) (a : Option Addr) (cp : Nat) (l : List Nat) (s : ByteArray) (w : World) (hv : OwnN B w (.slice a l.length cp) l) (hs : s.size ≤ 100000000) (hsz : l.length ≤ 100000000000) (hB : B ≤ w.heap.size) :
    Calls Tryd.prog 43 #[.slice a l.length cp, .string s] w (OwnPostN B (l ++ P.putT (by_ s)) w) := by
  obtain ⟨i0, hi, hz0, hz1, hz2⟩ := info_parts info5
  have Hz2 := Lib.hid hz2
  clear hz2
  have hszb := (H.eb_bounds (by_ s)).2
  rw [by_len] at hszb
  have hszd : H.sz (by_ s) ≤ 4 * s.size := by unfold H.sz; omega
  have hel : (H.enc (by_ s)).length = H.sz (by_ s) := H.enc_len _
  have HLt := Lib.hid (H.enc_lt (by_ s))
  have HO := Lib.hid hv
  clear hv hszb
  have HS : Hid (∀ w, Calls Tryd.prog 63 #[.string s] w fun e w' => e = .returned (.int .i64 (H.sz (by_ s))) ∧ w = w') := fun w => hsize_any s w (by omega)
  have HE : Hid (∀ w, Calls Tryd.prog 64 #[.string s] w (OwnPost w.heap.size (H.enc (by_ s)) w)) := fun w => encode_any s w (by omega)
  have HPT : Hid (P.putT (by_ s) = if H.sz (by_ s) < s.size then P.put 128 7 (H.sz (by_ s)) ++ H.enc (by_ s) else P.put 0 7 s.size ++ by_ s) := by
    show _ = _
    unfold P.putT
    rw [by_len]
  have HA1 : Hid (Calls Tryd.prog 40 #[.slice a l.length cp, .int .i64 128, .int .i64 7, .int .i64 (H.sz (by_ s))] w (OwnPostN B (l ++ P.put 128 7 (H.sz (by_ s))) w)) := appendInt_any B a cp l 128 7 _ w HO.out (by omega) (by omega) (by decide) (by decide) (by omega) hsz hB
  have HA2 : Hid (Calls Tryd.prog 40 #[.slice a l.length cp, .int .i64 0, .int .i64 7, .int .i64 s.size] w (OwnPostN B (l ++ P.put 0 7 s.size) w)) := appendInt_any B a cp l 0 7 _ w HO.out (by omega) (by omega) (by decide) (by decide) (by omega) hsz hB
  have hp1 := (P.put_len 128 7 (H.sz (by_ s))).2
  have hp2 := (P.put_len 0 7 s.size).2
  rw [← hel] at HS HPT HA1 hp1 hszd
  generalize H.enc (by_ s) = c at *
  generalize hq1 : P.put 128 7 c.length = q1 at *
  generalize hq2 : P.put 0 7 s.size = q2 at *
  clear hel hq1 hq2
  obtain ⟨L1, hL1⟩ : ∃ L1, L1 = l ++ q1 := ⟨_, rfl⟩
  have hl1 : L1.length ≤ l.length + 11 := by rw [hL1]; simp; omega
  obtain ⟨L2, hL2⟩ : ∃ L2, L2 = l ++ q2 := ⟨_, rfl⟩
  have hl2 : L2.length ≤ l.length + 11 := by rw [hL2]; simp; omega
  rw [← hL1] at HA1
  rw [← hL2] at HA2
  have HL1 := Lib.hid hL1
  have HL2 := Lib.hid hL2
  clear hL1 hL2
  by_cases h : c.length < s.size
  · rw [if_pos h] at HPT
    go_enter Tryd.func43, Tryd.ntmps43
    go_wp2_with (go_at_call 63; refine (HS.out _).mono ?_; rintro e w1 ⟨rfl, rfl⟩)
    refine HA1.out.mono ?_
    rintro e w2 ⟨v2, rfl, hv2, hb2, hn2⟩
    obtain ⟨g2, cp2, rfl⟩ := hv2.2
    have HV2 := Lib.hid hv2
    have HB2 := Lib.hid hb2
    have HN2 := Lib.hid hn2
    have hs2 := hb2.size
    clear hv2 hb2 hn2
    go_wp2_with fail
    refine (HE.out _).mono ?_
    rintro e w3 ⟨v3, rfl, hv3, hb3⟩
    obtain ⟨a3, cp3, e3, hle3, hr3⟩ := hv3.rd HLt.out
    obtain ⟨g3, _, rfl⟩ := hv3.2
    cases e3
    have HR3 := Lib.hid hr3
    have HB3 := Lib.hid hb3
    have hs3 := hb3.size
    have HV3 := Lib.hid (HV2.out.below hb3)
    have HN3 := Lib.hid (HN2.out.trans (NoB.below hb3))
    clear hv3 hb3 hr3
    go_wp2_with (at_builtin; refine wpList_app _ rfl _ _ 22 rfl B w3.heap.size 5 i0 (.int .u8 0) Tryd.underlying22 hi hz0 hz1 Hz2.out rfl _ L1.length (vals L1) rfl HV3.out.1 (by intro e; cases e) (some ⟨g3, 0, none⟩) c.length cp3 c rfl rfl HR3.out ?_ ?_ ?_; omega; omega; intro g4 cp4 w4 hown4 hgrow4)
    go_ret
    refine ⟨_, rfl, ?_, ?_, HN3.out.trans (NoB.grown HV3.out.1 hgrow4)⟩
    · rw [HPT.out, ← List.append_assoc, ← HL1.out]
      refine ⟨?_, g4, cp4, ?_⟩
      · rw [vals_append, List.length_append]; exact hown4
      · rw [List.length_append]; rfl
    · exact (HB2.out.trans (HB3.out.mono (by omega))).grown hgrow4 (by omega) (fun k e => by cases e; exact (HV3.out.1.lt g2 rfl).1)
  · rw [if_neg h] at HPT
    have hus : Tryd.prog.underlying 9 = some .string := Tryd.underlying9
    go_enter Tryd.func43, Tryd.ntmps43
    go_wp2_with (go_at_call 63; refine (HS.out _).mono ?_; rintro e w1 ⟨rfl, rfl⟩)
    refine HA2.out.mono ?_
    rintro e w2 ⟨v2, rfl, hv2, hb2, hn2⟩
    obtain ⟨g2, cp2, rfl⟩ := hv2.2
    have HV2 := Lib.hid hv2
    have HB2 := Lib.hid hb2
    have HN2 := Lib.hid hn2
    have hs2 := hb2.size
    clear hv2 hb2 hn2
    go_wp2_with (at_builtin; refine Go.Lib.wpList_append_own_string _ rfl _ _ 22 9 rfl B 5 i0 Tryd.underlying22 hus hi hz0 hz1 Hz2.out _ L2.length (vals L2) rfl HV2.out.1 s rfl ?_ ?_ ?_ ?_; (unfold maxLen; omega); omega; omega; intro v4 w4 hown4 hgrow4 hnn4)
    go_ret
    refine ⟨_, rfl, ?_, ?_, HN2.out.trans (NoB.grown HV2.out.1 hgrow4)⟩
    · rw [HPT.out, ← List.append_assoc, ← HL2.out]
      rw [strCells_by] at hown4
      refine ⟨?_, ?_⟩
      · rw [vals_append, List.length_append, by_len]; exact hown4
      · rcases hown4.2 with ⟨e1, _⟩ | ⟨g, cp', cur, e1, _⟩
        · exact absurd (hnn4.1 e1).1 (by intro h; cases h)
        · exact ⟨g, cp', by rw [List.length_append, by_len]; exact e1⟩
    · exact HB2.out.grown hgrow4 (by omega) (fun k e => by cases e; exact (HV2.out.1.lt g2 rfl).1)

set_option maxRecDepth 100000 in
theorem PutText_any {B2 : Nat} (a : Option Addr) (len cap : Nat) (l : List Nat) (s : ByteArray) (w : World) (hl : l.length = len) (hr : Rd B2 w a l) (hs : s.size ≤ 100000000) (hsz : len ≤ 100000000) :
    Calls Tryd.prog 18 #[.slice a len cap, .string s] w (OwnPost w.heap.size (l ++ P.putT (by_ s)) w) := by
  have HFr : Hid (Calls Tryd.prog 39 #[.slice a len cap, .int .i64 ((6 : Int) + s.size)] w (OwnPost w.heap.size l w)) := by
    have := kfresh_any a len cap l (6 + s.size) w hl hr (by omega)
    rw [Int.natCast_add] at this
    exact this
  have Hl := Lib.hid hl
  clear hl hr
  go_enter Tryd.func18, Tryd.ntmps18
  go_wp2_with fail
  refine HFr.out.mono ?_
  rintro e w2 ⟨v2, rfl, hv2, hb2⟩
  obtain ⟨g2, cp2, rfl⟩ := hv2.2
  have HV2 := Lib.hid hv2.1
  have HB2 := Lib.hid hb2
  have hs2 := hb2.size
  clear hv2 hb2
  go_wp2_with fail
  refine (appendText_any w.heap.size _ cp2 l s _ HV2.out hs (by rw [Hl.out]; omega) hs2).mono ?_
  rintro e w3 ⟨v3, rfl, hv3, hb3, _⟩
  go_wp2
  go_ret
  exact ⟨_, rfl, hv3, HB2.out.trans hb3⟩
end Go.Proofs.YthdgcakbeiocgaaDoor
