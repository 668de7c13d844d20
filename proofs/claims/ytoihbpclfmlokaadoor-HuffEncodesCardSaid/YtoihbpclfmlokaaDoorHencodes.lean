/-
The walk of parleylaw2.HuffEncodes: it returns true for every string.
-/
import Derived.Test.YtoihbpclfmlokaaDoorHfirst
import Derived.Test.YtoihbpclfmlokaaDoorHrefe
import Derived.Test.YtoihbpclfmlokaaDoorGownblk
namespace Go.Proofs.YtoihbpclfmlokaaDoor
open Go.RowKit

set_option maxRecDepth 100000 in
set_option maxHeartbeats 1000000 in
theorem huffEncodes_law (e0 : Addr) (s : ByteArray) (w : World) (hs : s.size ≤ 140737488355328) (hE : HE w e0) : Calls Tryd.prog 13 #[.string s] w (TruePost w) := by
  have HE := Lib.hid hE
  clear hE
  by_cases h : 2000 < s.size
  · go_enter Tryd.func13, Tryd.ntmps13
    go_wp2_with (go_at_call 47; refine (hfirst_any e0 _ HE.out).mono ?_; rintro e w1 ⟨rfl, hb1⟩; have HB1 := Lib.hid hb1; clear hb1)
    go_ret
    exact ⟨rfl, HB1.out⟩
  · have hs2 : s.size ≤ 1000000000 := by omega
    have hd : decide (2000 < (s.size : Int)) = false := by simp; omega
    have hL := H.enc_lt (by_ s)
    have HS1 : Hid (∀ w, Calls Tryd.prog 54 #[.string s] w fun e w' => e = .returned (.int .i64 (H.sz (by_ s))) ∧ w = w') := fun w => size_any s w hs
    have HS2 : Hid (∀ w, Calls Tryd.prog 55 #[.string s] w fun e w' => e = .returned (.int .i64 (H.sz (by_ s))) ∧ w = w') := fun w => rSize_any s w hs
    have HE1 : Hid (∀ w, Calls Tryd.prog 52 #[.string s] w (OwnPost w.heap.size (H.enc (by_ s)) w)) := fun w => encode_any s w hs2
    have HE2 : Hid (∀ w, Calls Tryd.prog 53 #[.string s] w (ReadPost (H.enc (by_ s)) w)) := fun w => rEncode_any s w hs2
    have HLt := Lib.hid hL
    have hlen : (H.enc (by_ s)).length ≤ 1000000000 := by
      rw [H.enc_len]
      have h1 := (H.eb_bounds (by_ s)).2
      rw [by_len] at h1
      unfold H.sz
      omega
    clear hL
    generalize H.enc (by_ s) = l at *
    generalize H.sz (by_ s) = sz at *
    go_enter Tryd.func13, Tryd.ntmps13
    go_wp2_with (first
      | (go_at_call 47; refine (hfirst_any e0 _ HE.out).mono ?_; rintro e w1 ⟨rfl, hb1⟩; have HB1 := Lib.hid hb1; have hs1 := hb1.size; clear hb1)
      | (go_at_call 52; refine (HE1.out _).mono ?_; rintro e w2 ⟨v2, rfl, hv2, hb2⟩; obtain ⟨g2, cp2, rfl⟩ := hv2.2; have HV2 := Lib.hid hv2; have HB2 := Lib.hid (HB1.out.trans (hb2.mono hs1)); have hs2 := HB2.out.size; clear hb2 hv2)
      | (go_at_call 53; refine (HE2.out _).mono ?_; rintro e w3 ⟨a3, cp3, rfl, hr3, hcp3, hb3⟩; have HR3 := Lib.hid hr3; have HX3 := Lib.hid hb3; have HB3 := Lib.hid (HB2.out.trans (hb3.mono hs2)); have hs3 := HB3.out.size; clear hb3 hr3)
      | (go_at_call 17; refine (same_any _ _ _ _ _ _ l l _ rfl rfl ((own_rd HV2.out rfl HLt.out).1.below HX3.out) HR3.out).mono ?_; rintro e w4 ⟨rfl, rfl⟩; rw [decide_eq_true rfl]))
    have hblk : Blk w3 g2 l.length (fun j => .int .u8 (l.getD j 0 : Nat)) := Blk.below (own_blk HV2.out) HX3.out
    have hg2 : w.heap.size ≤ g2 := Nat.le_trans hs1 (HV2.out.1.lt g2 rfl).1
    have HBlk : Hid (∃ f, Blk w3 g2 l.length f) := ⟨_, hblk⟩
    clear hblk HV2 HX3 HR3 HB1 HB2
    go_loopw [6] (fun i wr => ∃ k : Nat, k ≤ l.length ∧ i = .int .i64 k ∧ Hid (∃ f, Blk wr g2 l.length f) ∧ Hid (Below w.heap.size w wr)) (fun i _ => l.length - (intOf i).toNat)
    case atStart => exact ⟨0, Nat.zero_le _, rfl, HBlk, HB3⟩
    case round =>
      clear HBlk HB3
      obtain ⟨k, hk, rfl, HBlk, HB⟩ := hrel
      by_cases hlt : k < l.length
      · obtain ⟨f, hf⟩ := HBlk.out
        obtain ⟨c1, c2⟩ := hf k hlt
        have HF := Lib.hid hf
        clear hf HBlk
        go_wp2
        go_roundw
        case rel => exact ⟨k + 1, by omega, by go_num, ⟨_, HF.out.set hlt _⟩, HB.out.setCell (by exact hg2) _⟩
        case measure => simp [intOf]; omega
      · obtain rfl : k = l.length := by omega
        have hsr := HB.out.size
        clear HBlk hs2 hs3
        go_wp2_with (first
          | (go_at_call 54; refine (HS1.out _).mono ?_; rintro e w4 ⟨rfl, rfl⟩)
          | (go_at_call 55; refine (HS2.out _).mono ?_; rintro e w4 ⟨rfl, rfl⟩)
          | (go_at_call 52; refine (HE1.out _).mono ?_; rintro e w5 ⟨v5, rfl, hv5, hb5⟩; obtain ⟨g5, cp5, rfl⟩ := hv5.2; have HV5 := Lib.hid hv5; have HB5 := Lib.hid (HB.out.trans (hb5.mono hsr)); have hs5 := HB5.out.size; clear hb5 hv5)
          | (go_at_call 53; refine (HE2.out _).mono ?_; rintro e w6 ⟨a6, cp6, rfl, hr6, hcp6, hb6⟩; have HR6 := Lib.hid hr6; have HX6 := Lib.hid hb6; have HB6 := Lib.hid (HB5.out.trans (hb6.mono hs5)); clear hb6 hr6)
          | (go_at_call 17; refine (same_any _ _ _ _ _ _ l l _ rfl rfl ((own_rd HV5.out rfl HLt.out).1.below HX6.out) HR6.out).mono ?_; rintro e w7 ⟨rfl, rfl⟩; rw [decide_eq_true rfl]))
        go_ret
        exact ⟨rfl, HB6.out⟩
end Go.Proofs.YtoihbpclfmlokaaDoor
