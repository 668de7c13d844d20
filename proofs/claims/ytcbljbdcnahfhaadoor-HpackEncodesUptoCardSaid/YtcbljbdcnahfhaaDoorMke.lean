/-
The chapter's example of header compression, in plain functions.
-/
import Derived.Test.YtcbljbdcnahfhaaDoorMkd
import Derived.Test.YtcbljbdcnahfhaaDoorKdecb
import Derived.Test.YtcbljbdcnahfhaaDoorMkb
import Derived.Test.YtcbljbdcnahfhaaDoorMga
/- Kex -/
namespace Go.Proofs.YtcbljbdcnahfhaaDoor
namespace P
open B (HD)
def exA : HD := (⟨#[97]⟩, ⟨#[98]⟩)
def exL : List (HD × Bool) := [((⟨#[58, 109, 101, 116, 104, 111, 100]⟩, ⟨#[71, 69, 84]⟩), false), ((⟨#[58, 112, 97, 116, 104]⟩, ⟨#[47]⟩), false), ((⟨#[97]⟩, ⟨#[98]⟩), false)]
theorem ex_enc1 : enc 4096 [] exL = ([130, 132, 64, 1, 97, 1, 98], [exA]) := by kernel_rfl
theorem ex_enc2 : enc 4096 [exA] exL = ([130, 132, 190], [exA]) := by kernel_rfl
theorem ex_int : getI 5 [31, 154, 10] = (1337, 3, none) := by kernel_rfl
theorem ex_blk : blk 4096 7 ⟨[], 4096, [], 0⟩ [130, 132, 64, 1, 97, 1, 98] = .ok ⟨[exA], 4096, exL, 114⟩ := by kernel_rfl
end P
end Go.Proofs.YtcbljbdcnahfhaaDoor
/- Kfirst -/
namespace Go.Proofs.YtcbljbdcnahfhaaDoor
open Go.RowKit

theorem ownN_rd {B : Nat} {w : World} {v : Value} {l : List Nat} (h : OwnN B w v l) (hl : l ≠ []) (hb : ∀ x ∈ l, x < 256) : ∃ g cp, v = .slice (some ⟨g, 0, none⟩) l.length cp ∧ l.length ≤ cp ∧ B ≤ g ∧ g < w.heap.size ∧ Rd w.heap.size w (some ⟨g, 0, none⟩) l := by
  rcases h.2 with ⟨_, e2⟩ | ⟨g, cp, cur, e1, h1, h2, _⟩
  · exact absurd (List.length_eq_zero_iff.1 e2) hl
  · have ho : Own B w v l := ⟨h, g, cp, e1⟩
    obtain ⟨a, cp', e, hle, hr⟩ := ho.rd hb
    rw [e1] at e
    cases e
    exact ⟨g, cp, e1, hle, h1, (Array.getElem?_eq_some_iff.1 h2).1, hr⟩
/-- Bytes in block g, where that block is as it was. -/
theorem rd_block {K g : Nat} {w w' : World} {l : List Nat} (h : Rd K w (some ⟨g, 0, none⟩) l) (hb : w'.heap[g]? = w.heap[g]?) : Rd K w' (some ⟨g, 0, none⟩) l :=
  ⟨h.1, fun j hj => by
    obtain ⟨b, o, e, hK, hc⟩ := h.2 j hj
    simp only [Option.some.injEq, Addr.mk.injEq] at e
    obtain ⟨rfl, rfl, _⟩ := e
    exact ⟨_, _, rfl, hK, (World.cell?_of_block (a := ⟨g, 0 + j, none⟩) hb).trans hc⟩⟩
theorem rd_kb {K K' g : Nat} {w : World} {l : List Nat} (h : Rd K w (some ⟨g, 0, none⟩) l) (hg : g < K') : Rd K' w (some ⟨g, 0, none⟩) l :=
  ⟨h.1, fun j hj => by
    obtain ⟨b, o, e, hK, hc⟩ := h.2 j hj
    simp only [Option.some.injEq, Addr.mk.injEq] at e
    obtain ⟨rfl, rfl, _⟩ := e
    exact ⟨_, _, rfl, hg, hc⟩⟩

/-- The example's list, in its block. -/
def ExL (w : World) (g : Nat) : Prop := w.heap[g]? = some (.cells #[.string ⟨#[58, 109, 101, 116, 104, 111, 100]⟩, .string ⟨#[71, 69, 84]⟩, .bool false, .string ⟨#[58, 112, 97, 116, 104]⟩, .string ⟨#[47]⟩, .bool false, .string ⟨#[97]⟩, .string ⟨#[98]⟩, .bool false] 66 (0, 0))
theorem ExL.cells {w : World} {g : Nat} (h : ExL w g) (j : Nat) (x : B.HD × Bool) (hx : P.exL[j]? = some x) : w.cell? ⟨g, 0 + j * 3, none⟩ = some (.string x.1.1) ∧ w.cell? ⟨g, 0 + j * 3 + 1, none⟩ = some (.string x.1.2) ∧ w.cell? ⟨g, 0 + j * 3 + 2, none⟩ = some (.bool x.2) := by
  have hc : ∀ o, w.cell? ⟨g, o, none⟩ = _ := fun o => cell_of_row w g o _ _ _ h
  match j, hx with
  | 0, hx => cases hx; exact ⟨by rw [hc]; rfl, by rw [hc]; rfl, by rw [hc]; rfl⟩
  | 1, hx => cases hx; exact ⟨by rw [hc]; rfl, by rw [hc]; rfl, by rw [hc]; rfl⟩
  | 2, hx => cases hx; exact ⟨by rw [hc]; rfl, by rw [hc]; rfl, by rw [hc]; rfl⟩
  | n + 3, hx => cases hx

set_option maxRecDepth 100000 in
set_option maxHeartbeats 2000000 in
theorem kfirst_any (E : Nat → Addr) (w : World) (hE : ErrsAll w E kgs) : Calls Tryd.prog 10 #[] w (TruePost w) := by
  have HE := Lib.hid hE
  clear hE
  go_enter Tryd.func10, Tryd.ntmps10
  go_wp2_with fail
  refine (show Calls _ _ #[.int .i64 4096] _ _ from NewEncoder_yes 4096 w (by omega)).mono ?_
  rintro e w1 ⟨eB, rfl, he1, hc1, ht1, hb1⟩
  have hl1 := hc1.lt
  obtain ⟨s, hs⟩ : ∃ s, s = w.heap.size := ⟨_, rfl⟩
  rw [← hs] at he1 ht1 hc1
  have hws : w.heap.size ≤ s := Nat.le_of_eq hs.symm
  have HB1 := Lib.hid hb1
  have HC1 := Lib.hid hc1
  have HT1 := Lib.hid ht1
  clear hb1 hc1 ht1 hs
  go_wp2_with fail
  refine (show Calls _ _ #[.int .i64 4096] _ _ from NewDecoder_yes 4096 w1 (by omega)).mono ?_
  rintro e w2 ⟨dB, rfl, hd2, hc2, ht2, hb2⟩
  have hl2 := hc2.lt
  have hz2 := hb2.size
  have HB2 := Lib.hid (HB1.out.trans (hb2.mono (by omega)))
  have HC2 := Lib.hid (HC1.out.below hb2)
  have HT2 := Lib.hid (HT1.out.below hb2)
  have HD2 := Lib.hid hc2
  have HU2 := Lib.hid ht2
  obtain ⟨t, ht⟩ : ∃ t, t = w1.heap.size := ⟨_, rfl⟩
  rw [← ht] at hd2 HD2 HU2
  have hst : eB < t := by omega
  clear hb2 hc2 ht2 HB1 HC1 HT1
  go_wp2_with fail
  obtain ⟨w3, hw3⟩ : ∃ w3, w3 = w2.alloc (.cells #[.string ⟨#[58, 109, 101, 116, 104, 111, 100]⟩, .string ⟨#[71, 69, 84]⟩, .bool false, .string ⟨#[58, 112, 97, 116, 104]⟩, .string ⟨#[47]⟩, .bool false, .string ⟨#[97]⟩, .string ⟨#[98]⟩, .bool false] 66) := ⟨_, rfl⟩
  have hb3 : Below w2.heap.size w2 w3 := by rw [hw3]; exact (Below.refl _ _).alloc (Nat.le_refl _) _
  have hx3 : ExL w3 w2.heap.size := by rw [hw3]; exact heap_alloc_new w2 _
  rw [← hw3]
  have hlt3 : w2.heap.size < w3.heap.size := (Array.getElem?_eq_some_iff.1 hx3).1
  have HB3 := Lib.hid (HB2.out.trans (hb3.mono (by omega)))
  have HX3 := Lib.hid hx3
  have HD3 := Lib.hid (HD2.out.below hb3)
  have HU3 := Lib.hid (HU2.out.below hb3)
  have HEn := Lib.hid (Encode_any eB s 4096 [] false 0 (some ⟨w2.heap.size, 0, none⟩) 3 3 P.exL w3 (HC2.out.below hb3) (HT2.out.below hb3) (by omega) (by intro h; cases h) rfl (fun j x hx => ⟨_, _, rfl, ⟨hlt3, by omega, by omega⟩, hx3.cells j x hx⟩) (by omega) (by decide))
  have e1 : P.szs false 0 4096 ++ (P.enc 4096 [] P.exL).1 = [130, 132, 64, 1, 97, 1, 98] := by rw [P.ex_enc1]; rfl
  rw [e1, P.ex_enc1] at HEn
  clear hb3 hx3 hw3 e1 HC2 HT2 HD2 HU2 HB2
  refine HEn.out.mono ?_
  rintro e w4 ⟨v4, rfl, hv4, hc4, ht4, ho4⟩
  obtain ⟨g4, cp4, rfl, hcp4, hg4, hg4', hr4⟩ := ownN_rd hv4 (by simp) (by decide)
  have hz4 := ho4.size
  have hX4 : ExL w4 w2.heap.size := (ho4.block _ hlt3 (by omega) (by omega)).trans HX3.out
  have HX4 := Lib.hid hX4
  have HB4 := Lib.hid (Only2.below HB3.out ho4 (by omega) (by omega) (by omega))
  have HD4 := Lib.hid (HD3.out.block (ho4.block dB (by omega) (by omega) (by omega)))
  have HU4 : Hid (Tab w4 t [] 4096) := by
    obtain ⟨R, o, h1, h2, h3⟩ := HU3.out
    have hq := ho4.block t (by omega) (by omega) (by omega)
    exact ⟨R, o, h1, fun j hj => ⟨(World.cell?_of_block (a := ⟨t, j, none⟩) hq).trans (h2 j hj).1, (World.frozen?_of_block (a := ⟨t, j, none⟩) hq).trans (h2 j hj).2⟩, h3⟩
  have HR4 := Lib.hid hr4
  have HEn2 := Lib.hid (Encode_any eB s 4096 [P.exA] false 0 (some ⟨w2.heap.size, 0, none⟩) 3 3 P.exL w4 hc4 ht4 (by omega) (by intro h; cases h) rfl (fun j x hx => ⟨_, _, rfl, ⟨by omega, by omega, by omega⟩, hX4.cells j x hx⟩) (by omega) (by decide))
  have e2 : P.szs false 0 4096 ++ (P.enc 4096 [P.exA] P.exL).1 = [130, 132, 190] := by rw [P.ex_enc2]; rfl
  rw [e2, P.ex_enc2] at HEn2
  clear hv4 hc4 ht4 ho4 hr4 hX4 e2 HEn HX3 HB3 HD3 HU3
  go_wp2_with fail
  refine HEn2.out.mono ?_
  rintro e w5 ⟨v5, rfl, hv5, hc5, ht5, ho5⟩
  obtain ⟨g5, cp5, rfl, hcp5, hg5, hg5', hr5⟩ := ownN_rd hv5 (by simp) (by decide)
  have hz5 := ho5.size
  have HX5 : Hid (ExL w5 w2.heap.size) := (ho5.block _ (by omega) (by omega) (by omega)).trans HX4.out
  have HB5 := Lib.hid (Only2.below HB4.out ho5 (by omega) (by omega) (by omega))
  have HD5 := Lib.hid (HD4.out.block (ho5.block dB (by omega) (by omega) (by omega)))
  have HU5 : Hid (Tab w5 t [] 4096) := by
    obtain ⟨R, o, h1, h2, h3⟩ := HU4.out
    have hq := ho5.block t (by omega) (by omega) (by omega)
    exact ⟨R, o, h1, fun j hj => ⟨(World.cell?_of_block (a := ⟨t, j, none⟩) hq).trans (h2 j hj).1, (World.frozen?_of_block (a := ⟨t, j, none⟩) hq).trans (h2 j hj).2⟩, h3⟩
  have HR45 := Lib.hid (rd_block HR4.out (ho5.block g4 (by omega) (by omega) (by omega)))
  have HR5 := Lib.hid hr5
  clear hv5 hc5 ht5 ho5 hr5 HEn2 HX4 HB4 HD4 HU4 HR4
  go_wp2_with fail
  have hb6 : Below w5.heap.size w5 (w5.alloc (.cells #[.int .u8 31, .int .u8 154, .int .u8 10] 5)) := (Below.refl _ _).alloc (Nat.le_refl _) _
  have hr6 : Rd (w5.alloc (.cells #[.int .u8 31, .int .u8 154, .int .u8 10] 5)).heap.size (w5.alloc (.cells #[.int .u8 31, .int .u8 154, .int .u8 10] 5)) (some ⟨w5.heap.size, 0, none⟩) [31, 154, 10] := by
    have ho : OwnN w5.heap.size (w5.alloc (.cells #[.int .u8 31, .int .u8 154, .int .u8 10] 5)) (.slice (some ⟨w5.heap.size, 0, none⟩) 3 3) [31, 154, 10] := World.ownsRow_lit w5 #[.int .u8 31, .int .u8 154, .int .u8 10] 3 (Nat.le_refl _) (by decide) rfl
    obtain ⟨g, cp, e, _, _, _, hr⟩ := ownN_rd ho (by simp) (by decide)
    cases e
    exact hr
  have HB6 := Lib.hid (HB5.out.trans (hb6.mono (by omega)))
  have hek6 : EK w E (w5.alloc (.cells #[.int .u8 31, .int .u8 154, .int .u8 10] 5)) := ⟨HE.out, fun k hk => HB6.out.block k hk⟩
  have HI := Lib.hid (Int_any 5 (some ⟨w5.heap.size, 0, none⟩) 3 3 [31, 154, 10] E _ rfl (by omega) hr6 hek6.all)
  rw [P.ex_int] at HI
  clear hr6 hek6
  refine (show Calls _ _ #[_, .int .i64 5] _ _ from HI.out).mono ?_
  rintro e w7 ⟨rfl, q, rfl⟩
  obtain ⟨w7, hw7⟩ : ∃ w7, w7 = (w5.alloc (.cells #[.int .u8 31, .int .u8 154, .int .u8 10] 5)).drewN q := ⟨_, rfl⟩
  have hb7 : Below w5.heap.size w5 w7 := by rw [hw7]; exact hb6.trans ⟨rfl, rfl, rfl, Nat.le_refl _, fun _ _ => rfl⟩
  rw [← hw7]
  clear hw7 hb6 HI HB6
  have hz7 := hb7.size
  have HB7 := Lib.hid (HB5.out.trans (hb7.mono (by omega)))
  have HX7 : Hid (ExL w7 w2.heap.size) := (hb7.block _ (by omega)).trans HX5.out
  have HR47 := Lib.hid (rd_block HR45.out (hb7.block g4 (by omega)))
  have HR57 := Lib.hid (rd_block HR5.out (hb7.block g5 (by omega)))
  have HDec := Lib.hid (Decode_any w E dB t 4096 0 w7.heap.size [] 4096 (some ⟨g4, 0, none⟩) 7 cp4 [130, 132, 64, 1, 97, 1, 98] w7 (HD5.out.below hb7) (HU5.out.below hb7) (by omega) (by omega) (by omega) ⟨HE.out, fun k hk => HB7.out.block k hk⟩ ⟨rfl, hcp4, rd_kb HR47.out (by omega), fun ad e _ => by cases e; simp only; omega⟩ (Nat.le_refl _) (by omega))
  rw [show ([130, 132, 64, 1, 97, 1, 98] : List Nat).length = 7 from rfl, P.ex_blk] at HDec
  clear hb7 HX5 HR45 HR5 HD5 HU5 HB5
  simp only [getV, oV]
  go_wp2_with fail
  refine HDec.out.mono ?_
  rintro e w8 ⟨ho8, lv, rfl, hq8, _, hd8⟩
  have hz8 := ho8.size
  have HX8 : Hid (ExL w8 w2.heap.size) := (ho8.block _ (by omega) (by omega) (by omega)).trans HX7.out
  have HR58 := Lib.hid (rd_block HR57.out (ho8.block g5 (by omega) (by omega) (by omega)))
  have HB8 : Hid (Below w.heap.size w w8) := HB7.out.trans ⟨ho8.os, ho8.tape, ho8.output, ho8.size, fun i hi => ho8.block i (by omega) (by omega) (by omega)⟩
  have HD8 := Lib.hid hd8
  clear ho8 hd8 HDec HX7 HR57 HB7 HR47
  rcases hq8.cases with ⟨_, e0⟩ | ⟨gl, cpl, rfl, _, hgl, hgl', hql⟩
  · exact absurd e0 (by decide)
  have HS := Lib.hid (sameHeaders_eq (some ⟨gl, 0, none⟩) (some ⟨w2.heap.size, 0, none⟩) 3 cpl 3 P.exL w8 rfl (by omega) (fun j x hx => by
      obtain ⟨b, o, e, c0, c1, c2⟩ := hql j x hx
      exact ⟨b, o, e, World.block_lt_of_cell? _ _ c0, c0, c1, c2⟩) (fun j x hx => ⟨_, _, rfl, by omega, HX8.out.cells j x hx⟩))
  clear hq8 hql
  go_wp2_with fail
  refine (show Calls _ _ #[.slice (some ⟨gl, 0, none⟩) 3 cpl, _] _ _ from HS.out).mono ?_
  rintro e w9 ⟨rfl, hb9⟩
  have HR59 := Lib.hid (rd_block HR58.out (hb9.block g5 (by omega)))
  have HD9 := Lib.hid (HD8.out.below hb9)
  have hz9 := hb9.size
  have HB9 := Lib.hid (HB8.out.trans (hb9.mono (by omega)))
  clear hb9 HS HX8 HR58 HD8 HB8
  have hb10 : Below w9.heap.size w9 (w9.alloc (.cells #[.int .u8 130, .int .u8 132, .int .u8 190] 5)) := (Below.refl _ _).alloc (Nat.le_refl _) _
  obtain ⟨w10, hw10⟩ : ∃ w10, w10 = w9.alloc (.cells #[.int .u8 130, .int .u8 132, .int .u8 190] 5) := ⟨_, rfl⟩
  have hr10 : Rd w10.heap.size w10 (some ⟨w9.heap.size, 0, none⟩) [130, 132, 190] := by
    have ho : OwnN w9.heap.size w10 (.slice (some ⟨w9.heap.size, 0, none⟩) 3 3) [130, 132, 190] := by rw [hw10]; exact World.ownsRow_lit w9 #[.int .u8 130, .int .u8 132, .int .u8 190] 3 (Nat.le_refl _) (by decide) rfl
    obtain ⟨g, cp, e, _, _, _, hr⟩ := ownN_rd ho (by simp) (by decide)
    cases e
    exact hr
  rw [← hw10] at hb10
  have HSB := Lib.hid (same_any (some ⟨g5, 0, none⟩) (some ⟨w9.heap.size, 0, none⟩) 3 3 cp5 3 [130, 132, 190] [130, 132, 190] w10 rfl rfl (rd_block HR59.out (hb10.block g5 (by omega))) hr10)
  rw [decide_eq_true rfl] at HSB
  have HLen := Lib.hid (declen_any dB _ w10 (HD9.out.below hb10).c2.1)
  have HB10 := Lib.hid (HB9.out.trans (hb10.mono (by omega)))
  clear hr10 hb10 HR59 HD9 HB9
  go_wp2_with (first
    | (go_at_call 11; rw [← hw10]; clear hw10; refine (show Calls _ _ #[.slice (some ⟨g5, 0, none⟩) 3 cp5, _] _ _ from HSB.out).mono ?_; rintro e w11 ⟨rfl, rfl⟩)
    | (go_at_call 36; refine (show Calls _ _ _ _ fun e w' => e = .returned (.int .i64 1) ∧ _ from HLen.out).mono ?_; rintro e w12 ⟨rfl, rfl⟩))
  go_ret
  exact ⟨rfl, HB10.out⟩
end Go.Proofs.YtcbljbdcnahfhaaDoor
