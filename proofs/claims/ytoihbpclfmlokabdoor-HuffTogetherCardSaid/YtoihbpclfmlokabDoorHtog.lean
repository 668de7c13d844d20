/-
The walk of parleylaw2.HuffTogether: it returns true for every two texts.
-/
import Derived.Test.YtoihbpclfmlokabDoorHfirst
import Derived.Test.YtoihbpclfmlokabDoorHstr
namespace Go.Proofs.YtoihbpclfmlokabDoor
open Go.RowKit

set_option maxRecDepth 100000 in
set_option maxHeartbeats 1000000 in
theorem huffTogether_law (e0 : Addr) (s t : ByteArray) (w : World) (hs : s.size ≤ 140737488355328) (ht : t.size ≤ 140737488355328) (hE : HE w e0) :
    Calls Tryd.prog 5 #[.string s, .string t] w (TruePost w) := by
  have HX := Lib.hid hE
  clear hE
  by_cases h : 2000 < s.size + t.size
  · have hd : decide (2000 < (s.size : Int) + (t.size : Int)) = true := by simp; omega
    go_enter Tryd.func5, Tryd.ntmps5
    go_wp2_with (go_at_call 6; refine (hfirst_any e0 _ HX.out).mono ?_; rintro e w1 ⟨rfl, hb1⟩; have HB1 := Lib.hid hb1; clear hb1)
    go_ret
    exact ⟨rfl, HB1.out⟩
  have hd : decide (2000 < (s.size : Int) + (t.size : Int)) = false := by simp; omega
  have hd2 : decide (2000 < (s.size : Int)) = false := by simp; omega
  go_enter Tryd.func5, Tryd.ntmps5
  go_wp2_with (go_at_call 6; refine (hfirst_any e0 _ HX.out).mono ?_; rintro e w1 ⟨rfl, hb1⟩; have HB1 := Lib.hid hb1; have hs1 := hb1.size; clear hb1)
  go_loopw [6, 7, 8, 9, 10, 11] (fun l m i _ _ _ wr => ∃ k : Nat, k ≤ s.size + t.size ∧ i = .int .i64 k ∧ l = .int .i64 ((H.eb ((by_ s).take k)).length : Nat) ∧ m = .int .i64 ((H.eb ((by_ s ++ by_ t).take k)).length : Nat) ∧ wr = w1) (fun _ _ i _ _ _ _ => s.size + t.size - (intOf i).toNat)
  case atStart => exact ⟨0, Nat.zero_le _, rfl, rfl, rfl, rfl⟩
  case round =>
    obtain ⟨k, hk, rfl, rfl, rfl, rfl⟩ := hrel
    have hbd := (H.eb_bounds ((by_ s).take k)).2
    have hbd2 := (H.eb_bounds ((by_ s ++ by_ t).take k)).2
    have hl : ((by_ s).take k).length ≤ k := List.length_take_le _ _
    have hl2 : ((by_ s ++ by_ t).take k).length ≤ k := List.length_take_le _ _
    have hL : (H.eb ((by_ s).take k)).length ≤ 60000 := by omega
    have hM : (H.eb ((by_ s ++ by_ t).take k)).length ≤ 60000 := by omega
    clear hbd hbd2 hl hl2
    by_cases hlt : k < s.size + t.size
    · by_cases hls : k < s.size
      · have HS := Lib.hid (eb_take_succ (by_ s) k (by rw [by_len]; exact hls))
        have HT := Lib.hid (eb_take_succ (by_ s ++ by_ t) k (by rw [List.length_append, by_len, by_len]; exact hlt))
        have HG := Lib.hid (by_get s k hls)
        have HG2 : Hid ((by_ s ++ by_ t).getD k 0 = s[k].toNat) := by
          show _ = _
          rw [← by_get s k hls, List.getD_eq_getElem?_getD, List.getElem?_append_left (by rw [by_len]; exact hls), List.getD_eq_getElem?_getD]
        have hc : s[k].toNat < 256 := s[k].toNat_lt
        have hb := H.b_bounds s[k].toNat
        have hB : Hid (∀ w, Calls Tryd.prog 11 #[.int .i64 (s[k].toNat : Int)] w fun e w' => e = .returned (.tuple #[.int .i64 (H.b s[k].toNat), .bool true]) ∧ w = w') := fun w => Bits_yes _ w (by omega)
        have hd3 : decide ((k : Int) < (s.size : Int)) = true := by simp; omega
        generalize (H.eb ((by_ s).take k)).length = L at *
        generalize (H.eb ((by_ s ++ by_ t).take k)).length = M at *
        go_wp2_with (go_at_call 11; refine (hB.out _).mono ?_; rintro e w2 ⟨rfl, rfl⟩)
        go_roundw
        case rel => exact ⟨k + 1, by omega, by go_num, by rw [HS.out, HG.out]; go_num, by rw [HT.out, HG2.out]; go_num, trivial⟩
        case measure => simp [intOf]; omega
      · obtain ⟨d, hdk⟩ : ∃ d, k = s.size + d := ⟨k - s.size, by omega⟩
        have hdt : d < t.size := by omega
        have HT := Lib.hid (eb_take_succ (by_ s ++ by_ t) k (by rw [List.length_append, by_len, by_len]; exact hlt))
        have HS : Hid ((H.eb ((by_ s).take (k + 1))).length = (H.eb ((by_ s).take k)).length) := by
          show _ = _
          rw [List.take_of_length_le (by rw [by_len]; omega), List.take_of_length_le (by rw [by_len]; omega)]
        have HG2 : Hid ((by_ s ++ by_ t).getD k 0 = t[d].toNat) := by
          show _ = _
          rw [← by_get t d hdt, List.getD_eq_getElem?_getD, List.getElem?_append_right (by rw [by_len]; omega), List.getD_eq_getElem?_getD, by_len, show k - s.size = d by omega]
        have hc : t[d].toNat < 256 := t[d].toNat_lt
        have hb := H.b_bounds t[d].toNat
        have hB : Hid (∀ w, Calls Tryd.prog 11 #[.int .i64 (t[d].toNat : Int)] w fun e w' => e = .returned (.tuple #[.int .i64 (H.b t[d].toNat), .bool true]) ∧ w = w') := fun w => Bits_yes _ w (by omega)
        have hd3 : decide ((k : Int) < (s.size : Int)) = false := by simp; omega
        have hkd : (k : Int) - (s.size : Int) = (d : Int) := by omega
        generalize (H.eb ((by_ s).take k)).length = L at *
        generalize (H.eb ((by_ s ++ by_ t).take k)).length = M at *
        have hd4 : decide ((s.size : Int) + (d : Int) < (s.size : Int)) = false := by simp; omega
        go_wp2_with (go_at_call 11; refine (hB.out _).mono ?_; rintro e w2 ⟨rfl, rfl⟩)
        go_roundw
        case rel => exact ⟨s.size + d + 1, by omega, by go_num, by rw [← hdk, HS.out], by rw [← hdk, HT.out, HG2.out]; go_num, trivial⟩
        case measure => simp [intOf]; omega
    · obtain rfl : k = s.size + t.size := by omega
      have e1 : (by_ s).take (s.size + t.size) = by_ s := List.take_of_length_le (by rw [by_len]; omega)
      have e2 : (by_ s ++ by_ t).take (s.size + t.size) = by_ s ++ by_ t := List.take_of_length_le (by rw [List.length_append, by_len, by_len]; omega)
      rw [e1] at hL
      rw [e2] at hM
      rw [e1, e2]
      clear e1 e2
      have HE1 : Hid (∀ w, Calls Tryd.prog 8 #[.string s] w (OwnPost w.heap.size (H.enc (by_ s)) w)) := fun w => encode_any s w (by omega)
      have HE2 : Hid (∀ w, Calls Tryd.prog 8 #[.string (s ++ t)] w (OwnPost w.heap.size (H.enc (by_ s ++ by_ t)) w)) := fun w => by
        rw [← by_app]
        exact encode_any (s ++ t) w (by rw [ByteArray.size_append]; omega)
      have HLt := Lib.hid (H.enc_lt (by_ s))
      have HLt2 := Lib.hid (H.enc_lt (by_ s ++ by_ t))
      have HTk := Lib.hid (H.enc_take (by_ s) (by_ t))
      have el : (H.enc (by_ s)).length = ((H.eb (by_ s)).length + 7) / 8 := H.enc_len _
      have em : (H.enc (by_ s ++ by_ t)).length = ((H.eb (by_ s ++ by_ t)).length + 7) / 8 := H.enc_len _
      have hle : (H.eb (by_ s)).length ≤ (H.eb (by_ s ++ by_ t)).length := by rw [H.eb_app, List.length_append]; omega
      generalize H.enc (by_ s ++ by_ t) = q at *
      generalize H.enc (by_ s) = p at *
      generalize (H.eb (by_ s)).length = L at *
      generalize (H.eb (by_ s ++ by_ t)).length = M at *
      go_upto_region 20 with (go_at_call 8; refine (HE1.out _).mono ?_; rintro e w2 ⟨v2, rfl, hv2, hb2⟩; obtain ⟨g2, cp2, rfl⟩ := hv2.2; have HB2 := Lib.hid (HB1.out.trans (hb2.mono hs1)); have hs2 := HB2.out.size; have HR2 := Lib.hid (own_rd hv2 rfl HLt.out).1; have hc2 := (own_rd hv2 rfl HLt.out).2; clear hb2 hv2)
      go_wp2_with fail
      refine (HE2.out _).mono ?_
      rintro e w3 ⟨v3, rfl, hv3, hb3⟩
      obtain ⟨g3, cp3, rfl⟩ := hv3.2
      have HR3 := Lib.hid (own_rd hv3 rfl HLt2.out).1
      have hc3 := (own_rd hv3 rfl HLt2.out).2
      have HR2b := Lib.hid (HR2.out.below hb3)
      have HB3 := Lib.hid (HB2.out.trans (hb3.mono hs2))
      clear hb3 hv3 HR2
      go_upto_region 23 with (fail)
      have hD2 : L / 8 ≤ cp2 := by omega
      have hD3 : L / 8 ≤ cp3 := by omega
      have hI2 : (L : Int) / 8 ≤ cp2 := by omega
      have hI3 : (L : Int) / 8 ≤ cp3 := by omega
      have hI0 : 0 ≤ (L : Int) / 8 := by omega
      have hlp : (p.take (L / 8)).length = L / 8 := by rw [List.length_take, el]; omega
      have hlq : (q.take (L / 8)).length = L / 8 := by rw [List.length_take, em]; omega
      have HC : Hid (∀ k, Calls Tryd.prog 10 #[.slice (some ⟨g2, 0, none⟩) (L / 8) cp2, .slice (some ⟨g3, 0, none⟩) (L / 8) cp3] (w3.drewN k) fun e w' => e = .returned (.bool true) ∧ w' = w3.drewN k) := fun k =>
        (same_any _ _ _ _ _ _ (p.take (L / 8)) (q.take (L / 8)) _ hlp hlq ((HR2b.out.take (L / 8)).drewN k) ((HR3.out.take (L / 8)).drewN k)).mono fun e w' ⟨h1, h2⟩ => ⟨by rw [h1, decide_eq_true HTk.out], h2.symm⟩
      clear hlp hlq
      go_quiet ((go_at_call 10; refine Calls.quiet_of_same (HC.out _)))
      go_wp2
      go_ret
      exact ⟨rfl, below_q HB3.out _⟩
end Go.Proofs.YtoihbpclfmlokabDoor
