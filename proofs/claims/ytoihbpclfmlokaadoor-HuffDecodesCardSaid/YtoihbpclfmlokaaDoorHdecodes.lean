/-
The walk of parleylaw2.HuffDecodes: it returns true for every slice of bytes.
-/
import Derived.Test.YtoihbpclfmlokaaDoorHfirst
import Derived.Test.YtoihbpclfmlokaaDoorHreff
import Derived.Test.YtoihbpclfmlokaaDoorGbytes
import Derived.Test.YtoihbpclfmlokaaDoorGis
namespace Go.Proofs.YtoihbpclfmlokaaDoor
open Go.RowKit

theorem he_of {w : World} {E : Nat → Addr} (h : ErrsAll w E egs) : HE w (E 5) := egs_cell h 6 (by omega)

set_option maxRecDepth 100000 in
set_option maxHeartbeats 1000000 in
theorem huffDecodes_law (E : Nat → Addr) (a : Option Addr) (n cap : Nat) (l : List Nat) (w : World) (hl : l.length = n) (hr : Rd w.heap.size w a l) (hE : ErrsAll w E egs) : Calls Tryd.prog 14 #[.slice a n cap] w (TruePost w) := by
  have HE := Lib.hid hE
  have HR := Lib.hid hr
  subst hl
  clear hE hr
  by_cases h : 300 < l.length
  · go_enter Tryd.func14, Tryd.ntmps14
    go_wp2_with (go_at_call 47; refine (hfirst_any _ _ (he_of HE.out)).mono ?_; rintro e w1 ⟨rfl, hb1⟩; have HB1 := Lib.hid hb1; clear hb1)
    go_ret
    exact ⟨rfl, HB1.out⟩
  · have hd : decide (300 < (l.length : Int)) = false := by simp; omega
    obtain ⟨i0, hi, hz0, hz1b, hz2⟩ := info_parts info5
    have Hz2 := Lib.hid hz2
    clear hz2
    go_enter Tryd.func14, Tryd.ntmps14
    go_wp2_with fail
    refine (hfirst_any _ _ (he_of HE.out)).mono ?_
    rintro e w1 ⟨rfl, hb1⟩
    have HB1 := Lib.hid hb1
    have hs1 := hb1.size
    clear hb1
    go_wp2_with fail
    refine (bytes_any a l.length cap l w1 rfl (HR.out.below HB1.out) (by omega)).mono ?_
    rintro e w2 ⟨v2, rfl, hv2, hb2⟩
    obtain ⟨g2, cp2, rfl⟩ := hv2.2
    have HV2 := Lib.hid hv2
    have HB2 := Lib.hid (HB1.out.trans (hb2.mono hs1))
    have hs2 := HB2.out.size
    have Hlit := Lib.hid (Rd.lit w2 #[.int .u8 255, .int .u8 255] 5 [255, 255] (by decide) rfl)
    have hs12 := hb2.size
    clear hb2 hv2
    go_upto_region 5 with (at_builtin; refine wpList_app _ rfl _ _ 23 rfl w1.heap.size _ 5 i0 (.int .u8 0) Tryd.underlying23 hi hz0 hz1b Hz2.out rfl _ l.length (vals l) rfl (HV2.out.1.alloc _) (by intro e; cases e) _ 2 2 [255, 255] rfl rfl Hlit.out ?_ ?_ ?_; omega; (simp; omega); intro g3 cp3 w3 hown3 hgrow3)
    have hlt3 : ∀ x ∈ l ++ [255, 255], x < 256 := lt_app HR.out.1 (by decide)
    have HLt := Lib.hid hlt3
    have hv3 := own_app (l := l) (bs := [255, 255]) rfl hown3
    obtain ⟨hr3, hcp3⟩ := own_rd hv3 (by simp) hlt3
    have hb3 : Below w.heap.size w w3 := (HB2.out.alloc hs2 (.cells #[.int .u8 255, .int .u8 255] 5)).grown hgrow3 (by simp; omega) (fun k e => by cases e; have := (HV2.out.1.lt g2 rfl).1; show w.heap.size ≤ g2; omega)
    have HB3 := Lib.hid hb3
    have HR3 := Lib.hid hr3
    have hs3 := hb3.size
    have hr3l := hr3.take l.length
    rw [List.take_left] at hr3l
    have HR3L := Lib.hid hr3l
    clear hown3 hgrow3 hv3 hb3 hr3 hr3l hs12 HV2 Hlit
    obtain ⟨v, hv, hvL⟩ : ∃ o : Option (List Nat), H.decB l = o ∧ True := ⟨_, rfl, trivial⟩
    have HDec : Hid (Calls Tryd.prog 56 #[.slice (some ⟨g3, 0, none⟩) l.length cp3] w3 fun e w' => Below w3.heap.size w3 w' ∧ e = .returned (.tuple #[.string (strOf (v.getD [])), oV E (if v.isSome then none else some 6)])) :=
      (decode_any (some ⟨g3, 0, none⟩) l.length cp3 l (E 5) w3 rfl (by omega) HR3L.out (he_of (HE.out.below HB3.out))).mono fun e w' ⟨h1, h2⟩ => ⟨h1, by
        rw [h2, hv]
        cases v <;> rfl⟩
    have HRef : Hid (∀ w B, Rd B w a l → Calls Tryd.prog 57 #[.slice a l.length cap] w fun e w' => Below w.heap.size w w' ∧ e = .returned (.tuple #[.string (strOf (v.getD [])), .int .i64 (oC (if v.isSome then none else some 6))])) := fun w B hr =>
      (rDecode_any a l.length cap l w rfl (by omega) hr).mono fun e w' ⟨h1, h2⟩ => ⟨h1, by
        rw [h2, hv]
        cases v <;> rfl⟩
    have HO : Hid (∀ i, (if v.isSome then none else some 6 : Option Nat) = some i → i < 30) := by
      intro i hi
      cases v <;> simp at hi
      omega
    clear hv hvL
    generalize (if v.isSome then none else some 6 : Option Nat) = o at *
    generalize strOf (v.getD []) = st at *
    go_wp2_with fail
    refine HDec.out.mono ?_
    rintro e w4 ⟨hb4, rfl⟩
    have HX4 := Lib.hid hb4
    have HB4 := Lib.hid (HB3.out.trans (hb4.mono hs3))
    have hs4 := HB4.out.size
    clear hb4
    go_wp2_with fail
    refine (HRef.out _ _ (HR.out.below HB4.out)).mono ?_
    rintro e w5 ⟨hb5, rfl⟩
    have HR5 := Lib.hid ((HR3.out.below HX4.out).below hb5)
    have HB5 := Lib.hid (HB4.out.trans (hb5.mono hs4))
    have hs5 := HB5.out.size
    clear hb5 HX4
    go_wp2_with fail
    refine (bytes_any a l.length cap l w5 rfl (HR.out.below HB5.out) (by omega)).mono ?_
    rintro e w6 ⟨v6, rfl, hv6, hb6⟩
    obtain ⟨g6, cp6, rfl⟩ := hv6.2
    have HV6 := Lib.hid hv6
    have HX6 := Lib.hid hb6
    have HB6 := Lib.hid (HB5.out.trans (hb6.mono hs5))
    have hs6 := HB6.out.size
    have Hlit6 := Lib.hid (Rd.lit w6 #[.int .u8 255, .int .u8 255] 5 [255, 255] (by decide) rfl)
    have hs56 := hb6.size
    clear hb6 hv6
    go_wp2_with (at_builtin; refine wpList_app _ rfl _ _ 23 rfl w5.heap.size _ 5 i0 (.int .u8 0) Tryd.underlying23 hi hz0 hz1b Hz2.out rfl _ l.length (vals l) rfl (HV6.out.1.alloc _) (by intro e; cases e) _ 2 2 [255, 255] rfl rfl Hlit6.out ?_ ?_ ?_; omega; (simp; omega); intro g7 cp7 w7 hown7 hgrow7)
    have hv7 := own_app (l := l) (bs := [255, 255]) rfl hown7
    obtain ⟨hr7, hcp7⟩ := own_rd hv7 (by simp) HLt.out
    have hb7 : Below w5.heap.size w5 w7 := (HX6.out.alloc hs56 (.cells #[.int .u8 255, .int .u8 255] 5)).grown hgrow7 (by simp; omega) (fun k e => by cases e; exact (HV6.out.1.lt g6 rfl).1)
    have hr5 := HR5.out.below hb7
    have HB7 := Lib.hid (HB5.out.trans (hb7.mono hs5))
    clear hown7 hgrow7 hv7 hb7 hs56 HV6 Hlit6
    refine (same_any _ _ _ _ _ _ (l ++ [255, 255]) (l ++ [255, 255]) _ (by simp) (by simp) hr5 hr7).mono ?_
    rintro e w8 ⟨rfl, rfl⟩
    rw [decide_eq_true rfl]
    clear hr5 hr7
    have HIs : Hid (Calls Tryd.prog 30 #[oV E o, .int .i64 (oC o)] w7 fun e w' => e = .returned (.bool true) ∧ Below w7.heap.size w7 w') := (Is_any o (oC o) w7 (HE.out.below HB7.out) HO.out).mono fun e w' ⟨h1, h2⟩ => ⟨by rw [h1, decide_eq_true rfl], h2⟩
    go_wp2_with fail
    refine HIs.out.mono ?_
    rintro e w9 ⟨rfl, hb9⟩
    have HB9 := Lib.hid (HB7.out.trans (hb9.mono HB7.out.size))
    clear hb9
    go_wp2_with fail
    go_ret
    exact ⟨rfl, HB9.out⟩
end Go.Proofs.YtoihbpclfmlokaaDoor
