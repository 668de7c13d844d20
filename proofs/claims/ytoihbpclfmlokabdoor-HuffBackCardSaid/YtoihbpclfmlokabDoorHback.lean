/-
The walk of parleylaw2.HuffBack: it returns true for every text and every bytes.
-/
import Derived.Test.YtoihbpclfmlokabDoorHfirst
import Derived.Test.YtoihbpclfmlokabDoorHstr
namespace Go.Proofs.YtoihbpclfmlokabDoor
open Go.RowKit

set_option maxRecDepth 100000 in
set_option maxHeartbeats 1000000 in
theorem huffBack_law (e0 : Addr) (s : ByteArray) (a : Option Addr) (n cap : Nat) (l : List Nat) (w : World) (hl : l.length = n) (hr : Rd w.heap.size w a l) (hE : HE w e0) :
    Calls Tryd.prog 3 #[.string s, .slice a n cap] w (TruePost w) := by
  have HX := Lib.hid hE
  have HR := Lib.hid hr
  clear hE hr
  by_cases h : 2000 < s.size
  · go_enter Tryd.func3, Tryd.ntmps3
    go_wp2_with (go_at_call 6; refine (hfirst_any e0 _ HX.out).mono ?_; rintro e w1 ⟨rfl, hb1⟩; have HB1 := Lib.hid hb1; clear hb1)
    go_ret
    exact ⟨rfl, HB1.out⟩
  by_cases h2 : 2000 < n
  · go_enter Tryd.func3, Tryd.ntmps3
    go_wp2_with (go_at_call 6; refine (hfirst_any e0 _ HX.out).mono ?_; rintro e w1 ⟨rfl, hb1⟩; have HB1 := Lib.hid hb1; clear hb1)
    go_ret
    exact ⟨rfl, HB1.out⟩
  have hs2 : s.size ≤ 1000000000 := by omega
  have hlen : (H.enc (by_ s)).length ≤ 1000000000 := by
    rw [H.enc_len]
    have h1 := (H.eb_bounds (by_ s)).2
    rw [by_len] at h1
    unfold H.sz
    omega
  have hdec : H.decB (H.enc (by_ s)) = some (by_ s) := H.dec_enc _ (by_lt s)
  have hel : (H.enc (by_ s)).length = H.sz (by_ s) := H.enc_len _
  have HS1 : Hid (∀ w, Calls Tryd.prog 9 #[.string s] w fun e w' => e = .returned (.int .i64 (H.sz (by_ s))) ∧ w = w') := fun w => size_any s w (by omega)
  have HE1 : Hid (∀ w, Calls Tryd.prog 8 #[.string s] w (OwnPost w.heap.size (H.enc (by_ s)) w)) := fun w => encode_any s w hs2
  have HLt := Lib.hid (H.enc_lt (by_ s))
  have HD1 : Hid (∀ a cap B ww, Rd B ww a (H.enc (by_ s)) → HE ww e0 → Calls Tryd.prog 7 #[.slice a (H.enc (by_ s)).length cap] ww fun e w' => e = .returned (.tuple #[.string s, .nilIface]) ∧ Below ww.heap.size ww w') := fun a cap B ww h1 h2 => (decode_any a _ cap _ e0 ww rfl hlen h1 h2).mono fun e w' ⟨h3, h4⟩ => ⟨by rw [h4, hdec]; simp only [strOf_by], h3⟩
  rw [← hel] at HS1
  clear hel hdec
  generalize H.enc (by_ s) = c at *
  clear hs2
  go_enter Tryd.func3, Tryd.ntmps3
  go_wp2_with fail
  refine (hfirst_any e0 _ HX.out).mono ?_
  rintro e w1 ⟨rfl, hb1⟩
  have HB1 := Lib.hid hb1
  have hs1 := hb1.size
  clear hb1
  go_wp2_with fail
  refine (HE1.out _).mono ?_
  rintro e w2 ⟨v2, rfl, hv2, hb2⟩
  obtain ⟨g2, cp2, rfl⟩ := hv2.2
  have HB2 := Lib.hid (HB1.out.trans (hb2.mono hs1))
  have hs2 := HB2.out.size
  have HR2 := Lib.hid (own_rd hv2 rfl HLt.out).1
  clear hb2 hv2
  go_wp2_with fail
  refine (HD1.out _ _ _ _ HR2.out (cell_below HB2.out HX.out)).mono ?_
  rintro e w3 ⟨rfl, hb3⟩
  have HB3 := Lib.hid (HB2.out.trans (hb3.mono hs2))
  have hs3 := HB3.out.size
  clear hb3 HR2
  go_wp2_with fail
  refine (HE1.out _).mono ?_
  rintro e w4 ⟨v4, rfl, hv4, hb4⟩
  obtain ⟨g4, cp4, rfl⟩ := hv4.2
  have HB4 := Lib.hid (HB3.out.trans (hb4.mono hs3))
  have hs4 := HB4.out.size
  clear hb4 hv4
  go_wp2_with fail
  refine (HS1.out _).mono ?_
  rintro e w5 ⟨rfl, rfl⟩
  cases hdl : H.decB l with
  | none =>
    go_wp2_with fail
    refine (decode_any a n cap l e0 w4 hl (by omega) (HR.out.below HB4.out) (cell_below HB4.out HX.out)).mono ?_
    rintro e w6 ⟨hb6, rfl⟩
    rw [hdl]
    have HB6 := Lib.hid (HB4.out.trans (hb6.mono hs4))
    clear hb6
    go_wp2_with fail
    go_ret
    exact ⟨rfl, HB6.out⟩
  | some u =>
    have hul : u.length ≤ 1000000000 := by
      have := H.dec_len HR.out.1 hdl
      omega
    have heu : H.enc u = l := H.enc_dec HR.out.1 hdl
    have hE2 : Hid (∀ w, Calls Tryd.prog 8 #[.string (strOf u)] w (OwnPost w.heap.size l w)) := fun w => by
      have := encode_any (strOf u) w (by rw [strOf_size]; exact hul)
      rw [by_strOf u (H.decB_lt hdl), heu] at this
      exact this
    have HD2 : Hid (Calls Tryd.prog 7 #[.slice a n cap] w4 fun e w' => e = .returned (.tuple #[.string (strOf u), .nilIface]) ∧ Below w4.heap.size w4 w') := (decode_any a n cap l e0 w4 hl (by omega) (HR.out.below HB4.out) (cell_below HB4.out HX.out)).mono fun e w' ⟨h3, h4⟩ => ⟨by rw [h4, hdl], h3⟩
    clear heu
    generalize strOf u = us at *
    go_wp2_with fail
    refine HD2.out.mono ?_
    rintro e w6 ⟨rfl, hb6⟩
    have HB6 := Lib.hid (HB4.out.trans (hb6.mono hs4))
    have hs6 := HB6.out.size
    clear hb6
    go_wp2_with fail
    refine (hE2.out _).mono ?_
    rintro e w7 ⟨v7, rfl, hv7, hb7⟩
    obtain ⟨g7, cp7, rfl⟩ := hv7.2
    have HB7 := Lib.hid (HB6.out.trans (hb7.mono hs6))
    have HR7 := Lib.hid (own_rd hv7 rfl HR.out.1).1
    have HR7b := Lib.hid (HR.out.below HB7.out)
    clear hb7 hv7
    go_wp2_with fail
    refine (same_any _ _ _ _ _ _ l l _ hl hl HR7.out HR7b.out).mono ?_
    rintro e w8 ⟨rfl, rfl⟩
    rw [decide_eq_true rfl]
    go_wp2_with fail
    go_ret
    exact ⟨rfl, HB7.out⟩
end Go.Proofs.YtoihbpclfmlokabDoor
