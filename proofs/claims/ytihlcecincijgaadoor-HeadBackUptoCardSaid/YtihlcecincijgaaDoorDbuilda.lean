/-
The walk of head.BuildAnswer; what a number's digits say.
-/
import Derived.Test.YtihlcecincijgaaDoorDbuild
import Derived.Test.YtihlcecincijgaaDoorDitoa
import Derived.Lib.LaidTab
import Derived.Lib.AppendIntMem
import Derived.Lib.ItoaLen
namespace Go.Proofs.YtihlcecincijgaaDoor
open Go.RowKit

theorem digs_app (l : List UInt8) (c : UInt8) (n : Nat) : D.digs (l ++ [c]) n = (D.digs l n).bind fun m => D.digs [c] m := by
  induction l generalizing n with
  | nil => rfl
  | cons x t ih =>
    by_cases h : 48 ≤ x.toNat ∧ x.toNat ≤ 57
    · rw [List.cons_append, digs_some h, digs_some h, ih]
    · rw [List.cons_append, digs_none h, digs_none h]; rfl
theorem digs_dec (u : Nat) : D.digs (Lib.decDigits u) 0 = some u := by
  induction u using Nat.strongRecOn with
  | _ u ih =>
    have hd : ∀ d, d < 10 → ∀ m, D.digs [UInt8.ofNat (48 + d)] m = some (m * 10 + d) := by
      intro d hd m
      have e : (UInt8.ofNat (48 + d)).toNat = 48 + d := by simp; omega
      rw [digs_some (by rw [e]; omega), e]
      simp only [D.digs]
      congr 1
      omega
    rw [Lib.decDigits]
    by_cases h : u < 10
    · rw [dif_pos h, hd u h]
      simp
    · rw [dif_neg h, digs_app, ih (u / 10) (by omega)]
      show D.digs _ _ = _
      rw [hd _ (by omega)]
      congr 1
      omega
/-- What a number's text says, where it says one. -/
theorem dec_itoa (n : Int) (a b k : Nat) (h : D.dec ⟨(Lib.itoa n).toArray⟩ a b = some k) : n = (k : Int) := by
  unfold D.dec at h
  split at h
  · unfold Lib.itoa at h
    by_cases hn : n < 0
    · rw [if_pos hn] at h
      simp only at h
      rw [digs_none (by decide)] at h
      cases h
    · rw [if_neg hn] at h
      simp only at h
      rw [digs_dec] at h
      have := Option.some.inj h
      omega
  · cases h
namespace D
def frS (n : Int) : List HB := [((kStatus, ⟨(Lib.itoa n).toArray⟩), false)]
def bldA (n : Int) (rest : List HB) : Option (List HB) := if okA (frS n) then (if rest.all plainH then some (frS n ++ rest) else none) else none
end D

theorem tabIs_below {n : String} {g : Nat} {k : IntKind} {zs : List Int} {w w' : World} (hg : Tryd.prog.globalNamed n = some g) (h : Lib.TabIs Tryd.prog w n k zs) (hb : Below w.heap.size w w') : Lib.TabIs Tryd.prog w' n k zs := by
  unfold Lib.TabIs World.var? at h ⊢
  rw [hg] at h ⊢
  simp only [Option.bind_some] at h ⊢
  have hlt : g < w.heap.size := by
    rcases Nat.lt_or_ge g w.heap.size with h' | h'
    · exact h'
    · rw [Array.getElem?_eq_none h'] at h; cases h
  rw [hb.block g hlt]
  exact h
/-- The table of the tens. -/
def Tens (w : World) : Prop := Lib.TabIs Tryd.prog w "internal/strconv.uint64pow10" .u64 Lib.pow10Tab
theorem Tens.below {w w' : World} (h : Tens w) (hb : Below w.heap.size w w') : Tens w' := tabIs_below (g := 4) (by kernel_rfl) h hb
theorem itoa_any (n : Int) (w : World) (h0 : -9223372036854775808 ≤ n) (h1 : n ≤ 9223372036854775807) (ht : Tens w) : Calls Tryd.prog 49 #[.int .i64 n] w fun e w' => e = .returned (.string ⟨(Lib.itoa n).toArray⟩) ∧ Below w.heap.size w w' := by
  refine (Any.strconv_Itoa laysM171 n h0 h1 w ht).mono ?_
  rintro e w' ⟨rfl, k, os, rfl⟩
  exact ⟨rfl, Lib.below_grow _ _ (Nat.le_refl _) _ _⟩

set_option maxRecDepth 100000 in
set_option maxHeartbeats 4000000 in
theorem BuildAnswer_any {K0 : Nat} (st : Int) (ra : Option Addr) (n c : Nat) (l : List (B.HD × Bool)) (p : Addr) (w : World) (hl : l.length = n) (hn : n ≤ 1000000) (hr : QRdB K0 w ra l) (hK0 : K0 ≤ w.heap.size) (hs : QSz 1048576 l) (hE : EH w p) (hT : Tens w)
    (b0 : -9223372036854775808 ≤ st) (b1 : st ≤ 9223372036854775807) :
    Calls Tryd.prog 31 #[.agg #[.int .i64 st, .slice ra n c]] w (JoinOut w.heap.size p (D.bldA st l) w) := by
  obtain ⟨i0, hi, hz0, hz1, hz2⟩ := info_parts infoQ
  obtain ⟨w0, hw0⟩ : ∃ w0, w0 = w.alloc (.cells #[.int .i64 st, .slice ra n c] 36) := ⟨_, rfl⟩
  have hb0 : Below w.heap.size w w0 := by rw [hw0]; exact (Below.refl _ _).alloc (Nat.le_refl _) _
  have HX0 : Hid (BA 36 w0 w.heap.size #[.int .i64 st, .slice ra n c]) := by rw [hw0]; exact heap_alloc_new w _
  have hzw : w.heap.size + 1 ≤ w0.heap.size := by rw [hw0]; simp
  have hgE := World.block_lt_of_cell? _ _ hE
  simp only at hgE
  have Hw0 := Lib.hid hw0
  have HB0 := Lib.hid hb0
  have HE0 := Lib.hid (hE.below hb0)
  have HQ0 := Lib.hid (hr.belowB hb0 hK0)
  have HT0 := Lib.hid (hT.below hb0)
  have HL := Lib.hid hl
  have HS := Lib.hid hs
  have hC : Hid (∀ ww, Below (w.heap.size + 1) w0 ww → ww.cell? ⟨w.heap.size, 0, none⟩ = some (.int .i64 st) ∧ ww.cell? ⟨w.heap.size, 1, none⟩ = some (.slice ra n c)) := fun ww h => by
    have hx := HX0.out.belowB h (by omega)
    exact ⟨hx.cell rfl, hx.cell rfl⟩
  have hB2 : Hid (i0.bytes * (1 + n) ≤ 281474976710656) := by show _ ≤ _; rw [hz2]; omega
  have he4 : (1 : Int) + (n : Int) = ((1 + n : Nat) : Int) := by omega
  have HE4 := Lib.hid he4
  obtain ⟨c0, c1⟩ := hC.out w0 (Below.refl _ _)
  clear hw0 hb0 hE hr hl hs he4 hT
  go_enter Tryd.func31, Tryd.ntmps31
  go_upto_region 1 with (fail)
  rw [← Hw0.out]
  go_upto_region 2 with (at_make; refine wpList_make_own _ rfl _ _ 22 rfl (w.heap.size + 1) 54 i0 _ 3 Tryd.underlying22 hi hz0 hz1 .i64 .i64 _ (1 + n) rfl rfl HE4.out hB2.out (by unfold maxLen; omega) hzw ?_; intro w1 hO hgr; have HO1 : Hid (QOwn (w.heap.size + 1) w1 (.slice (some ⟨w0.heap.size, 0, none⟩) 0 (1 + n)) []) := hO; have HB1' : Hid (Below w0.heap.size w0 w1) := grown_below hgr; have hzz1 := hgr.size; clear hO hgr)
  have HB1 : Hid (Below (w.heap.size + 1) w0 w1) := HB1'.out.mono hzw
  have HT1 := Lib.hid (HT0.out.below HB1'.out)
  clear c0 c1
  obtain ⟨c0, c1⟩ := hC.out w1 HB1.out
  have HI := Lib.hid (itoa_any st w1 b0 b1 HT1.out)
  go_wp2_with fail
  refine HI.out.mono ?_
  rintro e w2 ⟨rfl, hb2⟩
  have HB2 := Lib.hid (HB1.out.trans (hb2.mono (by omega)))
  have HO2 := Lib.hid (HO1.out.below hb2)
  have hz2' := hb2.size
  clear hb2 c0 c1 HI HT1
  obtain ⟨it, hit⟩ : ∃ it : ByteArray, it = ⟨(Lib.itoa st).toArray⟩ := ⟨_, rfl⟩
  have Hfs : Hid (D.frS st = [((D.kStatus, it), false)]) := by show _ = _; rw [hit]; rfl
  have hitl : it.size ≤ 1048576 := by
    have h := Lib.itoa_length_le st b0 b1
    have e : it.size = (Lib.itoa st).length := by rw [hit, Lib.size_eq]
    omega
  rw [← hit]
  clear hit
  have HQ2 : Hid (QRd (w2.alloc (.cells #[.string ⟨#[58, 115, 116, 97, 116, 117, 115]⟩, .string it, .bool false] 54)) (some ⟨w2.heap.size, 0, none⟩) [((D.kStatus, it), false)]) := QRd.one _ _ _ _
  have HO2' : Hid (QOwn (w.heap.size + 1) (w2.alloc (.cells #[.string ⟨#[58, 115, 116, 97, 116, 117, 115]⟩, .string it, .bool false] 54)) (.slice (some ⟨w0.heap.size, 0, none⟩) 0 (1 + n)) []) := HO2.out.below ((Below.refl _ _).alloc (Nat.le_refl _) _)
  have HB2' : Hid (Below (w.heap.size + 1) w0 (w2.alloc (.cells #[.string ⟨#[58, 115, 116, 97, 116, 117, 115]⟩, .string it, .bool false] 54))) := HB2.out.alloc (by omega) _
  go_upto_region 3 with (at_builtin; refine wpList_appQ2 _ rfl _ _ rfl rfl (w.heap.size + 1) _ [] rfl HO2'.out (some ⟨w2.heap.size, 0, none⟩) 1 1 [((D.kStatus, it), false)] rfl rfl HQ2.out (by decide) (by simp; omega) ?_; intro v4 w4 hO hgr; rw [List.nil_append, ← Hfs.out] at hO; obtain ⟨x4, y4, rfl⟩ := hO.form; have HO4 := Lib.hid hO; have HB4 := Lib.hid (HB2'.out.grown hgr (by simp; omega) (fun r e => (HO2'.out.lt r e).1)); clear hO hgr)
  have hs4 : QSz 1048576 (D.frS st) := fun x hx => by
    rw [Hfs.out] at hx
    rcases List.mem_cons.1 hx with rfl | hx
    · exact ⟨by show D.kStatus.size ≤ 1048576; decide, hitl⟩
    · cases hx
  have hl4 : (D.frS st).length = 1 := rfl
  have HBl : Hid (D.bldA st l = if D.okA (D.frS st) then (if l.all D.plainH then some (D.frS st ++ l) else none) else none) := rfl
  obtain ⟨L4, hL4⟩ : ∃ L4, L4 = D.frS st := ⟨_, rfl⟩
  rw [← hL4] at HO4 hl4 hs4 HBl ⊢
  rw [hl4] at HO4 ⊢
  have Hl4 := Lib.hid hl4
  clear hL4 HO1 HB1 HB1' HO2 HB2 HQ2 HO2' HB2' hl4
  obtain ⟨q1, q2, q3⟩ := HO4.out.rdB'
  have hz4 : w0.heap.size ≤ w4.heap.size := HB4.out.size
  have HOp := Lib.hid ((OpenAnswer_any x4 1 y4 L4 p w4 Hl4.out (by omega) q2 q3 (Nat.le_refl _) hs4 (HE0.out.belowB HB4.out (by omega))).mono fun _ _ ho => ho.form)
  clear q1 q2 q3
  rw [show (D.opnA L4).isSome = D.okA L4 from rfl] at HOp
  have hqn := run_neN p
  have hgd := run_gdN p
  go_wp2_with fail
  refine HOp.out.mono ?_
  rintro e w5 ⟨k5, x5, n5, y5, rfl, hb⟩
  have hba : Below w4.heap.size w4 (w5.alloc (.cells #[.int .i64 (k5 : Nat), .slice x5 n5 y5] 36)) := hb.alloc hb.size _
  have HB5 := Lib.hid (HB4.out.trans (hba.mono (by omega)))
  have HO5 := Lib.hid (HO4.out.below hba)
  have hz5 := hba.size
  clear hb hba HOp HO4
  cases hok : D.okA L4
  · rw [hok] at HBl
    clear hok
    go_wp2
    go_ret2
    rw [HBl.out]
    exact ⟨.slice none 0 0, by simp [ehV], QOwn.nil _ _, HB0.out.trans (HB5.out.mono (by omega))⟩
  · rw [hok] at HBl
    clear hok
    obtain ⟨c0, c1⟩ := hC.out _ HB5.out
    have HJ := Lib.hid (join_any (K := w.heap.size + 1) (.slice x4 1 y4) L4 ra n c l p _ HO5.out HL.out (by omega) (by have := Hl4.out; omega) ((HQ0.out.belowB HB5.out (by omega)).mono (by omega)) (by omega) HS.out (HE0.out.belowB HB5.out (by omega)))
    go_wp2_with fail
    refine HJ.out.mono ?_
    rintro e w7 hj
    have HFin : Hid (JoinOut w.heap.size p (D.bldA st l) w e w7) := by
      obtain ⟨v7, he, hO7, hb7⟩ := hj
      show JoinOut _ _ _ _ _ _
      rw [HBl.out]
      exact ⟨v7, he, hO7.mono (by omega), HB0.out.trans ((HB5.out.mono (by omega)).trans (hb7.mono (by omega)))⟩
    obtain ⟨v7, ev, rfl⟩ := hj.form
    go_wp2
    go_ret2
    exact HFin.out
end Go.Proofs.YtihlcecincijgaaDoor
