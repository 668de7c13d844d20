/-
The walk of parleylaw2.first: the chapter's examples hold, whatever stands in memory.
-/
import Derived.Test.YtoihbpclfmlokaaDoorHdec
import Derived.Test.YtoihbpclfmlokaaDoorGsame
import Derived.WideLaws
namespace Go.Proofs.YtoihbpclfmlokaaDoor
open Go.RowKit

theorem ex_enc : H.enc [119, 119, 119, 46, 101, 120, 97, 109, 112, 108, 101, 46, 99, 111, 109] = [241, 227, 194, 229, 242, 58, 107, 160, 171, 144, 244, 255] := by decide +kernel
theorem ex_dec : H.decB [7] = some [48] := by decide +kernel
theorem ex_cod : H.cod 97 = 3 := by decide +kernel
theorem ex_b : H.b 48 = 5 := by decide +kernel
theorem ex_str : strOf [48] = ⟨#[48]⟩ := by kernel_rfl

/-- What ErrHuff's variable holds. -/
def HE (w : World) (e0 : Addr) : Prop := w.cell? ⟨5, 0, none⟩ = some (.iface 153 (.pointer (some e0)))

set_option maxRecDepth 100000 in
set_option maxHeartbeats 1000000 in
theorem hfirst_any (e0 : Addr) (w : World) (hE : HE w e0) : Calls Tryd.prog 47 #[] w (TruePost w) := by
  have HE := Lib.hid hE
  clear hE
  go_enter Tryd.func47, Tryd.ntmps47
  go_wp2_with fail
  refine (encode_any _ w (by decide)).mono ?_
  rintro e w1 ⟨v, rfl, hv, hb1⟩
  rw [show by_ ⟨#[119, 119, 119, 46, 101, 120, 97, 109, 112, 108, 101, 46, 99, 111, 109]⟩ = [119, 119, 119, 46, 101, 120, 97, 109, 112, 108, 101, 46, 99, 111, 109] from rfl, ex_enc] at hv
  obtain ⟨a1, c1, rfl, _, hr1⟩ := hv.rd (by decide)
  have HB1 := Lib.hid hb1
  have HR1 := Lib.hid hr1
  have hs1 := hb1.size
  clear hb1 hr1 hv
  go_wp2_with fail
  have hr2 := Rd.lit w1 #[.int .u8 241, .int .u8 227, .int .u8 194, .int .u8 229, .int .u8 242, .int .u8 58, .int .u8 107, .int .u8 160, .int .u8 171, .int .u8 144, .int .u8 244, .int .u8 255] 5 [241, 227, 194, 229, 242, 58, 107, 160, 171, 144, 244, 255] (by decide) rfl
  have hr1 := HR1.out.below ((Below.refl w1.heap.size w1).alloc (Nat.le_refl _) (.cells #[.int .u8 241, .int .u8 227, .int .u8 194, .int .u8 229, .int .u8 242, .int .u8 58, .int .u8 107, .int .u8 160, .int .u8 171, .int .u8 144, .int .u8 244, .int .u8 255] 5))
  have hb2 := HB1.out.alloc hs1 (.cells #[.int .u8 241, .int .u8 227, .int .u8 194, .int .u8 229, .int .u8 242, .int .u8 58, .int .u8 107, .int .u8 160, .int .u8 171, .int .u8 144, .int .u8 244, .int .u8 255] 5)
  generalize w1.alloc (.cells #[.int .u8 241, .int .u8 227, .int .u8 194, .int .u8 229, .int .u8 242, .int .u8 58, .int .u8 107, .int .u8 160, .int .u8 171, .int .u8 144, .int .u8 244, .int .u8 255] 5) = w2 at *
  refine (same_any a1 (some ⟨w1.heap.size, 0, none⟩) 12 12 c1 12 _ _ w2 rfl rfl hr1 hr2).mono ?_
  rintro e w3 ⟨rfl, rfl⟩
  rw [decide_eq_true rfl]
  have HB2 := Lib.hid hb2
  clear hb2 hr1 hr2 HR1 HB1
  go_wp2_with fail
  have hcode := Code_yes 97 w2 (by omega)
  rw [ex_cod] at hcode
  refine hcode.mono ?_
  rintro e w3 ⟨rfl, hb3⟩
  have HB3 := Lib.hid (HB2.out.trans (hb3.mono HB2.out.size))
  clear hb3 hcode HB2
  go_wp2_with fail
  have hbits := Bits_yes 48 w3 (by omega)
  rw [ex_b] at hbits
  refine hbits.mono ?_
  rintro e w4 ⟨rfl, rfl⟩
  clear hbits
  go_wp2_with fail
  have hr3 := Rd.lit w3 #[.int .u8 7] 5 [7] (by decide) rfl
  have hs3 := HB3.out.size
  have hb4 := HB3.out.alloc hs3 (.cells #[.int .u8 7] 5)
  generalize w3.alloc (.cells #[.int .u8 7] 5) = w4 at *
  have hdec := decode_any (some ⟨w3.heap.size, 0, none⟩) 1 1 [7] e0 w4 rfl (by omega) hr3 (cell_below hb4 HE.out)
  refine hdec.mono ?_
  rintro e w5 ⟨hb5, rfl⟩
  rw [ex_dec]
  simp only [ex_str]
  have HB5 := Lib.hid (hb4.trans (hb5.mono hb4.size))
  clear hb5 hb4 hr3 hdec
  go_wp2
  go_ret
  exact ⟨rfl, HB5.out⟩
end Go.Proofs.YtoihbpclfmlokaaDoor
