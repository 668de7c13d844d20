/-
Proved: parleylaw4.HpackInts returns true for every slice of bytes and every three numbers, and leaves its arguments and all old memory as they were. Its one condition: the listed error variables hold what the program's own initialiser lays (the card ties it to the program's text).
-/
import Derived.Test.YthdgcakbeiocgaaDoorKdecb
import Derived.Test.YthdgcakbeiocgaaDoorKra
import Derived.Test.YthdgcakbeiocgaaDoorGsame
import Derived.Test.YthdgcakbeiocgaaDoorGis
import Derived.Test.YthdgcakbeiocgaaDoorGargs
import Derived.Test.YthdgcakbeiocgaaDoorGerrl
/- Kfirst -/
namespace Go.Proofs.YthdgcakbeiocgaaDoor
open Go.RowKit

theorem ownN_rd {B : Nat} {w : World} {v : Value} {l : List Nat} (h : OwnN B w v l) (hl : l ≠ []) (hb : ∀ x ∈ l, x < 256) : ∃ g cp, v = .slice (some ⟨g, 0, none⟩) l.length cp ∧ l.length ≤ cp ∧ B ≤ g ∧ g < w.heap.size ∧ Rd w.heap.size w (some ⟨g, 0, none⟩) l := by
  rcases h.2 with ⟨_, e2⟩ | ⟨g, cp, cur, e1, h1, h2, _⟩
  · exact absurd (List.length_eq_zero_iff.1 e2) hl
  · have ho : Own B w v l := ⟨h, g, cp, e1⟩
    obtain ⟨a, cp', e, hle, hr⟩ := ho.rd hb
    rw [e1] at e
    cases e
    exact ⟨g, cp, e1, hle, h1, (Array.getElem?_eq_some_iff.1 h2).1, hr⟩
/-- Bytes in block g, where that block is as it was. -/
theorem rd_block {K g : Nat} {w w' : World} {l : List Nat} (h : Rd K w (some ⟨g, 0, none⟩) l) (hb : w'.heap[g]? = w.heap[g]?) : Rd K w' (some ⟨g, 0, none⟩) l :=
  ⟨h.1, fun j hj => by
    obtain ⟨b, o, e, hK, hc⟩ := h.2 j hj
    simp only [Option.some.injEq, Addr.mk.injEq] at e
    obtain ⟨rfl, rfl, _⟩ := e
    exact ⟨_, _, rfl, hK, (World.cell?_of_block (a := ⟨g, 0 + j, none⟩) hb).trans hc⟩⟩
theorem rd_kb {K K' g : Nat} {w : World} {l : List Nat} (h : Rd K w (some ⟨g, 0, none⟩) l) (hg : g < K') : Rd K' w (some ⟨g, 0, none⟩) l :=
  ⟨h.1, fun j hj => by
    obtain ⟨b, o, e, hK, hc⟩ := h.2 j hj
    simp only [Option.some.injEq, Addr.mk.injEq] at e
    obtain ⟨rfl, rfl, _⟩ := e
    exact ⟨_, _, rfl, hg, hc⟩⟩

/-- The example's list, in its block. -/
def ExL (w : World) (g : Nat) : Prop := w.heap[g]? = some (.cells #[.string ⟨#[58, 109, 101, 116, 104, 111, 100]⟩, .string ⟨#[71, 69, 84]⟩, .bool false, .string ⟨#[58, 112, 97, 116, 104]⟩, .string ⟨#[47]⟩, .bool false, .string ⟨#[97]⟩, .string ⟨#[98]⟩, .bool false] 66 (0, 0))
theorem ExL.cells {w : World} {g : Nat} (h : ExL w g) (j : Nat) (x : B.HD × Bool) (hx : P.exL[j]? = some x) : w.cell? ⟨g, 0 + j * 3, none⟩ = some (.string x.1.1) ∧ w.cell? ⟨g, 0 + j * 3 + 1, none⟩ = some (.string x.1.2) ∧ w.cell? ⟨g, 0 + j * 3 + 2, none⟩ = some (.bool x.2) := by
  have hc : ∀ o, w.cell? ⟨g, o, none⟩ = _ := fun o => cell_of_row w g o _ _ _ h
  match j, hx with
  | 0, hx => cases hx; exact ⟨by rw [hc]; rfl, by rw [hc]; rfl, by rw [hc]; rfl⟩
  | 1, hx => cases hx; exact ⟨by rw [hc]; rfl, by rw [hc]; rfl, by rw [hc]; rfl⟩
  | 2, hx => cases hx; exact ⟨by rw [hc]; rfl, by rw [hc]; rfl, by rw [hc]; rfl⟩
  | n + 3, hx => cases hx

set_option maxRecDepth 100000 in
set_option maxHeartbeats 2000000 in
theorem kfirst_any (E : Nat → Addr) (w : World) (hE : ErrsAll w E egs) : Calls Tryd.prog 10 #[] w (TruePost w) := by
  have HE := Lib.hid hE
  clear hE
  go_enter Tryd.func10, Tryd.ntmps10
  go_wp2_with fail
  refine (show Calls _ _ #[.int .i64 4096] _ _ from NewEncoder_yes 4096 w (by omega)).mono ?_
  rintro e w1 ⟨eB, rfl, he1, hc1, ht1, hb1⟩
  have hl1 := hc1.lt
  obtain ⟨s, hs⟩ : ∃ s, s = w.heap.size := ⟨_, rfl⟩
  rw [← hs] at he1 ht1 hc1
  have hws : w.heap.size ≤ s := Nat.le_of_eq hs.symm
  have HB1 := Lib.hid hb1
  have HC1 := Lib.hid hc1
  have HT1 := Lib.hid ht1
  clear hb1 hc1 ht1 hs
  go_wp2_with fail
  refine (show Calls _ _ #[.int .i64 4096] _ _ from NewDecoder_yes 4096 w1 (by omega)).mono ?_
  rintro e w2 ⟨dB, rfl, hd2, hc2, ht2, hb2⟩
  have hl2 := hc2.lt
  have hz2 := hb2.size
  have HB2 := Lib.hid (HB1.out.trans (hb2.mono (by omega)))
  have HC2 := Lib.hid (HC1.out.below hb2)
  have HT2 := Lib.hid (HT1.out.below hb2)
  have HD2 := Lib.hid hc2
  have HU2 := Lib.hid ht2
  obtain ⟨t, ht⟩ : ∃ t, t = w1.heap.size := ⟨_, rfl⟩
  rw [← ht] at hd2 HD2 HU2
  have hst : eB < t := by omega
  clear hb2 hc2 ht2 HB1 HC1 HT1
  go_wp2_with fail
  obtain ⟨w3, hw3⟩ : ∃ w3, w3 = w2.alloc (.cells #[.string ⟨#[58, 109, 101, 116, 104, 111, 100]⟩, .string ⟨#[71, 69, 84]⟩, .bool false, .string ⟨#[58, 112, 97, 116, 104]⟩, .string ⟨#[47]⟩, .bool false, .string ⟨#[97]⟩, .string ⟨#[98]⟩, .bool false] 66) := ⟨_, rfl⟩
  have hb3 : Below w2.heap.size w2 w3 := by rw [hw3]; exact (Below.refl _ _).alloc (Nat.le_refl _) _
  have hx3 : ExL w3 w2.heap.size := by rw [hw3]; exact heap_alloc_new w2 _
  rw [← hw3]
  have hlt3 : w2.heap.size < w3.heap.size := (Array.getElem?_eq_some_iff.1 hx3).1
  have HB3 := Lib.hid (HB2.out.trans (hb3.mono (by omega)))
  have HX3 := Lib.hid hx3
  have HD3 := Lib.hid (HD2.out.below hb3)
  have HU3 := Lib.hid (HU2.out.below hb3)
  have HEn := Lib.hid (Encode_any eB s 4096 [] false 0 (some ⟨w2.heap.size, 0, none⟩) 3 3 P.exL w3 (HC2.out.below hb3) (HT2.out.below hb3) (by omega) (by intro h; cases h) rfl (fun j x hx => ⟨_, _, rfl, ⟨hlt3, by omega, by omega⟩, hx3.cells j x hx⟩) (by omega) (by decide))
  have e1 : P.szs false 0 4096 ++ (P.enc 4096 [] P.exL).1 = [130, 132, 64, 1, 97, 1, 98] := by rw [P.ex_enc1]; rfl
  rw [e1, P.ex_enc1] at HEn
  clear hb3 hx3 hw3 e1 HC2 HT2 HD2 HU2 HB2
  refine HEn.out.mono ?_
  rintro e w4 ⟨v4, rfl, hv4, hc4, ht4, ho4⟩
  obtain ⟨g4, cp4, rfl, hcp4, hg4, hg4', hr4⟩ := ownN_rd hv4 (by simp) (by decide)
  have hz4 := ho4.size
  have hX4 : ExL w4 w2.heap.size := (ho4.block _ hlt3 (by omega) (by omega)).trans HX3.out
  have HX4 := Lib.hid hX4
  have HB4 := Lib.hid (Only2.below HB3.out ho4 (by omega) (by omega) (by omega))
  have HD4 := Lib.hid (HD3.out.block (ho4.block dB (by omega) (by omega) (by omega)))
  have HU4 : Hid (Tab w4 t [] 4096) := by
    obtain ⟨R, o, h1, h2, h3⟩ := HU3.out
    have hq := ho4.block t (by omega) (by omega) (by omega)
    exact ⟨R, o, h1, fun j hj => ⟨(World.cell?_of_block (a := ⟨t, j, none⟩) hq).trans (h2 j hj).1, (World.frozen?_of_block (a := ⟨t, j, none⟩) hq).trans (h2 j hj).2⟩, h3⟩
  have HR4 := Lib.hid hr4
  have HEn2 := Lib.hid (Encode_any eB s 4096 [P.exA] false 0 (some ⟨w2.heap.size, 0, none⟩) 3 3 P.exL w4 hc4 ht4 (by omega) (by intro h; cases h) rfl (fun j x hx => ⟨_, _, rfl, ⟨by omega, by omega, by omega⟩, hX4.cells j x hx⟩) (by omega) (by decide))
  have e2 : P.szs false 0 4096 ++ (P.enc 4096 [P.exA] P.exL).1 = [130, 132, 190] := by rw [P.ex_enc2]; rfl
  rw [e2, P.ex_enc2] at HEn2
  clear hv4 hc4 ht4 ho4 hr4 hX4 e2 HEn HX3 HB3 HD3 HU3
  go_wp2_with fail
  refine HEn2.out.mono ?_
  rintro e w5 ⟨v5, rfl, hv5, hc5, ht5, ho5⟩
  obtain ⟨g5, cp5, rfl, hcp5, hg5, hg5', hr5⟩ := ownN_rd hv5 (by simp) (by decide)
  have hz5 := ho5.size
  have HX5 : Hid (ExL w5 w2.heap.size) := (ho5.block _ (by omega) (by omega) (by omega)).trans HX4.out
  have HB5 := Lib.hid (Only2.below HB4.out ho5 (by omega) (by omega) (by omega))
  have HD5 := Lib.hid (HD4.out.block (ho5.block dB (by omega) (by omega) (by omega)))
  have HU5 : Hid (Tab w5 t [] 4096) := by
    obtain ⟨R, o, h1, h2, h3⟩ := HU4.out
    have hq := ho5.block t (by omega) (by omega) (by omega)
    exact ⟨R, o, h1, fun j hj => ⟨(World.cell?_of_block (a := ⟨t, j, none⟩) hq).trans (h2 j hj).1, (World.frozen?_of_block (a := ⟨t, j, none⟩) hq).trans (h2 j hj).2⟩, h3⟩
  have HR45 := Lib.hid (rd_block HR4.out (ho5.block g4 (by omega) (by omega) (by omega)))
  have HR5 := Lib.hid hr5
  clear hv5 hc5 ht5 ho5 hr5 HEn2 HX4 HB4 HD4 HU4 HR4
  go_wp2_with fail
  have hb6 : Below w5.heap.size w5 (w5.alloc (.cells #[.int .u8 31, .int .u8 154, .int .u8 10] 5)) := (Below.refl _ _).alloc (Nat.le_refl _) _
  have hr6 : Rd (w5.alloc (.cells #[.int .u8 31, .int .u8 154, .int .u8 10] 5)).heap.size (w5.alloc (.cells #[.int .u8 31, .int .u8 154, .int .u8 10] 5)) (some ⟨w5.heap.size, 0, none⟩) [31, 154, 10] := by
    have ho : OwnN w5.heap.size (w5.alloc (.cells #[.int .u8 31, .int .u8 154, .int .u8 10] 5)) (.slice (some ⟨w5.heap.size, 0, none⟩) 3 3) [31, 154, 10] := World.ownsRow_lit w5 #[.int .u8 31, .int .u8 154, .int .u8 10] 3 (Nat.le_refl _) (by decide) rfl
    obtain ⟨g, cp, e, _, _, _, hr⟩ := ownN_rd ho (by simp) (by decide)
    cases e
    exact hr
  have HB6 := Lib.hid (HB5.out.trans (hb6.mono (by omega)))
  have hek6 : EK w E (w5.alloc (.cells #[.int .u8 31, .int .u8 154, .int .u8 10] 5)) := ⟨HE.out, fun k hk => HB6.out.block k hk⟩
  have HI := Lib.hid (Int_any 5 (some ⟨w5.heap.size, 0, none⟩) 3 3 [31, 154, 10] E _ rfl (by omega) hr6 hek6.all)
  rw [P.ex_int] at HI
  clear hr6 hek6
  refine (show Calls _ _ #[_, .int .i64 5] _ _ from HI.out).mono ?_
  rintro e w7 ⟨rfl, q, rfl⟩
  obtain ⟨w7, hw7⟩ : ∃ w7, w7 = (w5.alloc (.cells #[.int .u8 31, .int .u8 154, .int .u8 10] 5)).drewN q := ⟨_, rfl⟩
  have hb7 : Below w5.heap.size w5 w7 := by rw [hw7]; exact hb6.trans ⟨rfl, rfl, rfl, Nat.le_refl _, fun _ _ => rfl⟩
  rw [← hw7]
  clear hw7 hb6 HI HB6
  have hz7 := hb7.size
  have HB7 := Lib.hid (HB5.out.trans (hb7.mono (by omega)))
  have HX7 : Hid (ExL w7 w2.heap.size) := (hb7.block _ (by omega)).trans HX5.out
  have HR47 := Lib.hid (rd_block HR45.out (hb7.block g4 (by omega)))
  have HR57 := Lib.hid (rd_block HR5.out (hb7.block g5 (by omega)))
  have HDec := Lib.hid (Decode_any w E dB t 4096 0 w7.heap.size [] 4096 (some ⟨g4, 0, none⟩) 7 cp4 [130, 132, 64, 1, 97, 1, 98] w7 (HD5.out.below hb7) (HU5.out.below hb7) (by omega) (by omega) (by omega) ⟨HE.out, fun k hk => HB7.out.block k hk⟩ ⟨rfl, hcp4, rd_kb HR47.out (by omega), fun ad e => by cases e; simp only; omega⟩ (Nat.le_refl _) (by omega))
  rw [show ([130, 132, 64, 1, 97, 1, 98] : List Nat).length = 7 from rfl, P.ex_blk] at HDec
  clear hb7 HX5 HR45 HR5 HD5 HU5 HB5
  simp only [getV, oV]
  go_wp2_with fail
  refine HDec.out.mono ?_
  rintro e w8 ⟨ho8, lv, rfl, hq8, _, hd8⟩
  have hz8 := ho8.size
  have HX8 : Hid (ExL w8 w2.heap.size) := (ho8.block _ (by omega) (by omega) (by omega)).trans HX7.out
  have HR58 := Lib.hid (rd_block HR57.out (ho8.block g5 (by omega) (by omega) (by omega)))
  have HB8 : Hid (Below w.heap.size w w8) := HB7.out.trans ⟨ho8.os, ho8.tape, ho8.output, ho8.size, fun i hi => ho8.block i (by omega) (by omega) (by omega)⟩
  have HD8 := Lib.hid hd8
  clear ho8 hd8 HDec HX7 HR57 HB7 HR47
  rcases hq8.cases with ⟨_, e0⟩ | ⟨gl, cpl, rfl, _, hgl, hgl', hql⟩
  · exact absurd e0 (by decide)
  have HS := Lib.hid (sameHeaders_eq (some ⟨gl, 0, none⟩) (some ⟨w2.heap.size, 0, none⟩) 3 cpl 3 P.exL w8 rfl (by omega) (fun j x hx => by
      obtain ⟨b, o, e, c0, c1, c2⟩ := hql j x hx
      exact ⟨b, o, e, World.block_lt_of_cell? _ _ c0, c0, c1, c2⟩) (fun j x hx => ⟨_, _, rfl, by omega, HX8.out.cells j x hx⟩))
  clear hq8 hql
  go_wp2_with fail
  refine (show Calls _ _ #[.slice (some ⟨gl, 0, none⟩) 3 cpl, _] _ _ from HS.out).mono ?_
  rintro e w9 ⟨rfl, hb9⟩
  have HR59 := Lib.hid (rd_block HR58.out (hb9.block g5 (by omega)))
  have HD9 := Lib.hid (HD8.out.below hb9)
  have hz9 := hb9.size
  have HB9 := Lib.hid (HB8.out.trans (hb9.mono (by omega)))
  clear hb9 HS HX8 HR58 HD8 HB8
  have hb10 : Below w9.heap.size w9 (w9.alloc (.cells #[.int .u8 130, .int .u8 132, .int .u8 190] 5)) := (Below.refl _ _).alloc (Nat.le_refl _) _
  obtain ⟨w10, hw10⟩ : ∃ w10, w10 = w9.alloc (.cells #[.int .u8 130, .int .u8 132, .int .u8 190] 5) := ⟨_, rfl⟩
  have hr10 : Rd w10.heap.size w10 (some ⟨w9.heap.size, 0, none⟩) [130, 132, 190] := by
    have ho : OwnN w9.heap.size w10 (.slice (some ⟨w9.heap.size, 0, none⟩) 3 3) [130, 132, 190] := by rw [hw10]; exact World.ownsRow_lit w9 #[.int .u8 130, .int .u8 132, .int .u8 190] 3 (Nat.le_refl _) (by decide) rfl
    obtain ⟨g, cp, e, _, _, _, hr⟩ := ownN_rd ho (by simp) (by decide)
    cases e
    exact hr
  rw [← hw10] at hb10
  have HSB := Lib.hid (same_any (some ⟨g5, 0, none⟩) (some ⟨w9.heap.size, 0, none⟩) 3 3 cp5 3 [130, 132, 190] [130, 132, 190] w10 rfl rfl (rd_block HR59.out (hb10.block g5 (by omega))) hr10)
  rw [decide_eq_true rfl] at HSB
  have HLen := Lib.hid (declen_any dB _ w10 (HD9.out.below hb10).c2.1)
  have HB10 := Lib.hid (HB9.out.trans (hb10.mono (by omega)))
  clear hr10 hb10 HR59 HD9 HB9
  go_wp2_with (first
    | (go_at_call 11; rw [← hw10]; clear hw10; refine (show Calls _ _ #[.slice (some ⟨g5, 0, none⟩) 3 cp5, _] _ _ from HSB.out).mono ?_; rintro e w11 ⟨rfl, rfl⟩)
    | (go_at_call 36; refine (show Calls _ _ _ _ fun e w' => e = .returned (.int .i64 1) ∧ _ from HLen.out).mono ?_; rintro e w12 ⟨rfl, rfl⟩))
  go_ret
  exact ⟨rfl, HB10.out⟩
end Go.Proofs.YthdgcakbeiocgaaDoor
/- Kints -/
namespace Go.Proofs.YthdgcakbeiocgaaDoor
open Go.RowKit

theorem ownN_rd2 {B : Nat} {w : World} {v : Value} {l : List Nat} (h : OwnN B w v l) (hb : ∀ x ∈ l, x < 256) : ∃ a cp, v = .slice a l.length cp ∧ Rd w.heap.size w a l := by
  by_cases hl : l = []
  · subst hl
    obtain ⟨a, cp, e⟩ := h.shape
    exact ⟨a, cp, e, Rd.nil _ _ _⟩
  · obtain ⟨g, cp, e, _, _, _, hr⟩ := ownN_rd h hl hb
    exact ⟨_, cp, e, hr⟩
theorem putI_lt (f b n : Int) : ∀ x ∈ P.putI f b n, x < 256 := by
  unfold P.putI
  split
  · rename_i hm
    obtain ⟨m1, m2, m3, m4, m5, m6, m7⟩ := hm
    have hf7 : f.toNat % 2 ^ b.toNat = 0 := by
      have : ((f.toNat % 2 ^ b.toNat : Nat) : Int) = 0 := by push_cast; rw [Int.toNat_of_nonneg m5]; exact m7
      exact_mod_cast this
    refine P.put_lt ?_ (by omega)
    have hp : 2 ^ b.toNat * 2 ^ (8 - b.toNat) = 256 := by rw [← Nat.pow_add, show b.toNat + (8 - b.toNat) = 8 by omega]
    have h1 : f.toNat = 2 ^ b.toNat * (f.toNat / 2 ^ b.toNat) := by have := Nat.div_add_mod f.toNat (2 ^ b.toNat); omega
    have h2 : f.toNat / 2 ^ b.toNat < 2 ^ (8 - b.toNat) := Nat.div_lt_of_lt_mul (by rw [hp]; omega)
    have h3 : 2 ^ b.toNat * (f.toNat / 2 ^ b.toNat + 1) ≤ 2 ^ b.toNat * 2 ^ (8 - b.toNat) := Nat.mul_le_mul_left _ h2
    rw [Nat.mul_add] at h3
    have := Nat.two_pow_pos b.toNat
    unfold P.full
    omega
  · simp
theorem putI_len (f b n : Int) : (P.putI f b n).length ≤ 11 := by
  unfold P.putI
  split
  · exact (P.put_len _ _ _).2
  · simp
/-- What is written without a prefix is read back. -/
theorem putI_get (b n : Int) (r : List Nat) (h : P.putI 0 b n ≠ []) : P.getI b (P.putI 0 b n ++ r) = (n.toNat, (P.putI 0 b n).length, none) ∧ ((n.toNat : Nat) : Int) = n := by
  by_cases hm : P.may 0 b n
  · have hp : P.putI 0 b n = P.put 0 b.toNat n.toNat := by unfold P.putI; rw [if_pos hm]; rfl
    rw [hp]
    obtain ⟨m1, m2, m3, m4, _, _, _⟩ := hm
    refine ⟨?_, by omega⟩
    unfold P.getI
    rw [if_pos ⟨m1, m2⟩]
    exact P.get_put r (by omega) (by omega) (by omega) (Nat.zero_mod _)
  · exact absurd (by unfold P.putI; rw [if_neg hm]) h
theorem getI_err {b : Int} {l : List Nat} {i : Nat} (h : (P.getI b l).2.2 = some i) : i < 30 := by
  unfold P.getI at h
  split at h
  · have := (P.get_err (b := b.toNat) (l := l) (by rw [h]; simp)).2.2
    rw [h] at this
    rcases this with e | e <;> cases e <;> omega
  · cases h; omega

set_option maxRecDepth 100000 in
set_option maxHeartbeats 2000000 in
theorem hpackInts_law (E : Nat → Addr) (f b n : Int) (a : Option Addr) (len cap : Nat) (l : List Nat) (w : World) (hl : l.length = len) (hr : Rd w.heap.size w a l) (hE : ErrsAll w E egs) :
    Calls Tryd.prog 3 #[.slice a len cap, .int .i64 f, .int .i64 b, .int .i64 n] w (TruePost w) := by
  subst hl
  obtain ⟨i0, hi, hz0, hz1, hz2⟩ := info_parts info5
  have Hz2 := Lib.hid hz2
  clear hz2
  have HF := Lib.hid (kfirst_any E w hE)
  have HE := Lib.hid hE
  have HR := Lib.hid hr
  clear hr hE
  go_enter Tryd.func3, Tryd.ntmps3
  go_wp2_with fail
  refine HF.out.mono ?_
  rintro e w1 ⟨rfl, hb1⟩
  have HB1 := Lib.hid hb1
  clear hb1 HF
  by_cases hlen : 16384 < l.length
  · have q : (16384 : Int) < (l.length : Int) := by omega
    go_wp2
    go_ret
    exact ⟨rfl, HB1.out⟩
  have q : ¬ (16384 : Int) < (l.length : Int) := by omega
  have HR1 := Lib.hid (HR.out.below HB1.out)
  go_wp2_with fail
  refine (PutInt_any a l.length cap l f b n w1 rfl HR1.out (by omega)).mono ?_
  rintro e w2 ⟨v2, rfl, hv2, hb2⟩
  have hp256 := putI_lt f b n
  have hp11 := putI_len f b n
  obtain ⟨p, hp⟩ : ∃ p, p = P.putI f b n := ⟨_, rfl⟩
  rw [← hp] at hv2 hp256 hp11
  have HP := Lib.hid hp
  have HP256 := Lib.hid hp256
  have hall : ∀ x ∈ l ++ p, x < 256 := fun x hx => by rcases List.mem_append.1 hx with h | h; exact HR.out.1 x h; exact HP256.out x h
  obtain ⟨a2, cp2, rfl, _, hr2⟩ := hv2.rd hall
  have HR2 := Lib.hid hr2
  have HB2 := Lib.hid (HB1.out.trans (hb2.mono HB1.out.size))
  clear hv2 hr2 hb2 hp hp256 HR1 HB1 hall
  go_wp2_with fail
  refine (bytes_any a l.length cap l w2 rfl (HR.out.below HB2.out) (by omega)).mono ?_
  rintro e w3 ⟨v3, rfl, hv3, hb3⟩
  obtain ⟨g3, cp3, rfl⟩ := hv3.2
  have HV3 := Lib.hid hv3.1
  have HB23 := Lib.hid hb3
  have hz3 := hb3.size
  clear hv3 hb3
  go_wp2_with fail
  refine (refPut_any f b n w3).mono ?_
  rintro e w4 ⟨v4, rfl, hv4, hb4⟩
  rw [← HP.out] at hv4
  obtain ⟨a4, cp4, rfl, hr4⟩ := ownN_rd2 hv4 HP256.out
  have HR4 := Lib.hid hr4
  have HV34 : Hid (w4.ownsRow w2.heap.size 5 1 (.slice (some ⟨g3, 0, none⟩) l.length cp3) l.length (vals l)) := OwnN.below HV3.out hb4
  have HB24 := Lib.hid (HB23.out.trans (hb4.mono hz3))
  have hz4 := HB24.out.size
  clear hv4 hb4 hr4 HV3 HB23
  go_wp2_with (at_builtin; refine wpList_app _ rfl _ _ 22 rfl w2.heap.size _ 5 i0 (.int .u8 0) Tryd.underlying22 hi hz0 hz1 Hz2.out rfl _ l.length (vals l) rfl HV34.out (by intro e; cases e) _ p.length cp4 p rfl rfl HR4.out ?_ ?_ ?_; omega; exact hz4; intro g5 cp5 w5 hown5 hgrow5)
  have hb5 : Below w2.heap.size w2 w5 := HB24.out.grown hgrow5 (by omega) (fun k e => by cases e; exact (HV34.out.lt g3 rfl).1)
  have HB5 := Lib.hid (HB2.out.trans (hb5.mono HB2.out.size))
  have ho5 : OwnN w2.heap.size w5 (.slice (some ⟨g5, 0, none⟩) (l ++ p).length cp5) (l ++ p) := by
    show World.ownsRow _ _ _ _ _ _ _
    rw [vals_append, List.length_append]; exact hown5
  obtain ⟨a5, cp5', e5, hr5⟩ := ownN_rd2 ho5 (fun x hx => by rcases List.mem_append.1 hx with h | h; exact HR.out.1 x h; exact HP256.out x h)
  cases e5
  have HSB := Lib.hid (same_any a2 (some ⟨g5, 0, none⟩) (l ++ p).length (l ++ p).length cp2 cp5 (l ++ p) (l ++ p) w5 rfl rfl (HR2.out.below hb5) hr5)
  rw [decide_eq_true rfl] at HSB
  rw [List.length_append] at HSB
  clear hb5 ho5 hr5 hown5 hgrow5 HV34 HB24 HR4 HB2 HR2
  go_wp2_with fail
  refine HSB.out.mono ?_
  rintro e w6 ⟨rfl, rfl⟩
  have hek : EK w E w5 := ⟨HE.out, fun k hk => HB5.out.block k hk⟩
  have HI := Lib.hid (Int_any b a l.length cap l E w5 rfl (by omega) (HR.out.below HB5.out) hek.all)
  obtain ⟨x, k, o, hg⟩ : ∃ x k o, P.getI b l = (x, k, o) := ⟨_, _, _, rfl⟩
  have ho30 : ∀ i, o = some i → i < 30 := fun i hi => getI_err (b := b) (l := l) (by rw [hg]; exact hi)
  rw [hg] at HI
  have HG := Lib.hid hg
  have HO30 := Lib.hid ho30
  clear hek HSB hg ho30
  go_wp2_with fail
  refine HI.out.mono ?_
  rintro e w7 ⟨rfl, qq, rfl⟩
  obtain ⟨w7, hw7⟩ : ∃ w7, w7 = w5.drewN qq := ⟨_, rfl⟩
  have hb7 : Below w5.heap.size w5 w7 := by rw [hw7]; exact ⟨rfl, rfl, rfl, Nat.le_refl _, fun _ _ => rfl⟩
  rw [← hw7]
  have HB7 := Lib.hid (HB5.out.trans (hb7.mono HB5.out.size))
  clear hw7 hb7 HI HB5
  have HI2 := Lib.hid (refInt_any b a l.length cap l w7 rfl (by omega) (HR.out.below HB7.out))
  rw [HG.out] at HI2
  simp only [getV]
  go_wp2_with fail
  refine HI2.out.mono ?_
  rintro e w8 ⟨rfl, rfl⟩
  have hek : EK w E w7 := ⟨HE.out, fun k hk => HB7.out.block k hk⟩
  have HIs := Lib.hid (Is_any o (codeR o) w7 hek.all HO30.out)
  have hoc : oC o = codeR o := by cases o <;> rfl
  rw [decide_eq_true hoc] at HIs
  clear hek hoc HI2 HG HO30
  simp only [getR]
  generalize codeR o = co at *
  generalize oV E o = vo at *
  go_wp2_with (go_at_call 17; refine HIs.out.mono ?_; rintro e w9 ⟨rfl, hb9⟩; have HB9 := Lib.hid (HB7.out.trans (hb9.mono HB7.out.size)); have hz9 := HB9.out.size; clear hb9 HIs HB7)
  have hp11' := putI_len 0 b n
  have hp256' := putI_lt 0 b n
  have HGet := Lib.hid (putI_get b n l)
  refine (PutInt_any (B2 := 0) none 0 0 [] 0 b n w9 rfl (Rd.nil _ _ _) (by omega)).mono ?_
  rintro e w10 ⟨v10, rfl, hv10, hb10⟩
  rw [List.nil_append] at hv10
  obtain ⟨u, hu⟩ : ∃ u, u = P.putI 0 b n := ⟨_, rfl⟩
  rw [← hu] at hp11' hp256' HGet hv10
  obtain ⟨g10, cp10, rfl⟩ := hv10.2
  have HV10 := Lib.hid hv10.1
  have HP256' := Lib.hid hp256'
  have HB10 := Lib.hid (HB9.out.trans (hb10.mono HB9.out.size))
  have hz10 := hb10.size
  clear hv10 hb10 hu hp256' HB9
  by_cases hu0 : u = []
  · subst hu0
    go_wp2
    go_ret
    exact ⟨rfl, HB10.out⟩
  · have hul : ((u.length : Int) == 0) = false := by
      have : u.length ≠ 0 := fun e => hu0 (List.length_eq_zero_iff.1 e)
      simp; omega
    have hul2 : ¬ (u.length : Int) = 0 := by
      have : u.length ≠ 0 := fun e => hu0 (List.length_eq_zero_iff.1 e)
      omega
    obtain ⟨hge, hn⟩ := HGet.out hu0
    have HGe := Lib.hid hge
    have HN := Lib.hid hn
    have HR10 := Lib.hid (HR.out.below HB10.out)
    clear hge hn HGet
    go_wp2_with (at_builtin; refine wpList_app _ rfl _ _ 22 rfl w9.heap.size _ 5 i0 (.int .u8 0) Tryd.underlying22 hi hz0 hz1 Hz2.out rfl _ u.length (vals u) rfl HV10.out (by intro e; cases e) _ l.length cap l rfl rfl HR10.out ?_ ?_ ?_; omega; exact hz10; intro g11 cp11 w11 hown11 hgrow11)
    have hb11 : Below w9.heap.size w10 w11 := (Below.refl _ _).grown hgrow11 (by omega) (fun k e => by cases e; exact (HV10.out.lt g10 rfl).1)
    have hw9 : w.heap.size ≤ w9.heap.size := by assumption
    have HB11 := Lib.hid (HB10.out.trans (hb11.mono hw9))
    have ho11 : OwnN w9.heap.size w11 (.slice (some ⟨g11, 0, none⟩) (u ++ l).length cp11) (u ++ l) := by
      show World.ownsRow _ _ _ _ _ _ _
      rw [vals_append, List.length_append]; exact hown11
    obtain ⟨a11, cp11', e11, hr11⟩ := ownN_rd2 ho11 (fun x hx => by rcases List.mem_append.1 hx with h | h; exact HP256'.out x h; exact HR.out.1 x h)
    cases e11
    have hek : EK w E w11 := ⟨HE.out, fun k hk => HB11.out.block k hk⟩
    have HI := Lib.hid (Int_any b (some ⟨g11, 0, none⟩) (u ++ l).length cp11 (u ++ l) E w11 rfl (by rw [List.length_append]; omega) hr11 hek.all)
    rw [HGe.out, List.length_append] at HI
    clear hek hr11 ho11 hown11 hgrow11 hb11 HGe HR10 HV10
    go_wp2_with fail
    refine HI.out.mono ?_
    rintro e w12 ⟨rfl, q12, rfl⟩
    simp only [getV, oV]
    rw [HN.out]
    go_wp2
    go_ret
    exact ⟨rfl, HB11.out.trans ⟨rfl, rfl, rfl, Nat.le_refl _, fun _ _ => rfl⟩⟩
end Go.Proofs.YthdgcakbeiocgaaDoor
/- KintsP -/
namespace Go.Proofs.YthdgcakbeiocgaaDoor
open Go.ChangeShapes Go.WideShapes Go.ChangeAt Go.RowKit

namespace HpackIntsC
set_option maxRecDepth 100000 in
theorem lifted (os : Os) (started : os.Started) (H : Type) (enc : TypeId × Value → H) :
    ReturnsInHanded {} Tryd.checked os 3 .any (fun w args => (Rows.hpackIntsSpec.pre enc Tryd.prog Tryd.f3 [] false w args ∧ laidMetH Tryd.prog Rows.hpackIntsRow.laid w) ∧ sizedMet enc Tryd.prog Tryd.f3 (OpenSpec.ofChange Rows.hpackIntsSpec) false w args)
      (Rows.hpackIntsSpec.post enc Tryd.prog Tryd.f3 false true false false) := by
  refine returnsInHanded_of_change_and (C := Tryd.checked) (X := fun w _ => laidMetH Tryd.prog Rows.hpackIntsRow.laid w) (fun _ _ _ hh h => h.of_heap hh) own started (by kernel_rfl) Tryd.func3
    (ChangeSpec.witness_shaped (enc := enc) (C := Tryd.checked) (os := os) (X := fun w _ => laidMetH Tryd.prog Rows.hpackIntsRow.laid w) false (World.laidAll Tryd.prog os Rows.hpackIntsRow.laid) #[.slice none 0 0, .int .i64 0, .int .i64 0, .int .i64 0] 8 (World.laidAll_os _ _ _)
      (World.shaped_of_ZipB (by kernel_rfl) (by kernel_rfl)) (by kernel_rfl) (by kernel_rfl) (by kernel_rfl)
      (by rw [MakeChecks.laidMetH_plain _ _ _ (by kernel_rfl)]; exact laidMet_laidAll _ (by kernel_rfl) (by kernel_rfl))) ?_
  intro W base args ds gs before hval0 hW _ _ hL0 _
  have hval : ∀ (j : Nat) t v, Tryd.f3.params[j]? = some t → args[j]? = some v → Value.okWide Tryd.prog W .any base t v := hval0
  have hW' := hW
  obtain ⟨p, q, hA0, hV, rfl, _, _⟩ := hW
  have hA : DataW.TrodAll enc Tryd.prog W 0 (fun _ => true) true Tryd.f3.params.toList args.toList ds p := hA0
  rw [Tryd.params3] at hA hval
  obtain ⟨v0, v1, v2, v3, d0, d1, d2, d3, p0, p1, p2, p3, rfl, rfl, rfl, h0, h1, h2, h3⟩ := trodO4 hA
  obtain ⟨rfl, rfl⟩ := trodVars_none hV
  have hlt : ∀ x ∈ p0 ++ (p1 ++ (p2 ++ p3)), x.block < W.heap.size := fun x hx => hW'.lt x (by simpa using hx)
  have l0 : ∀ x ∈ p0, x.block < W.heap.size := fun x hx => hlt x (by simp [hx])
  have l1 : ∀ x ∈ p1, x.block < W.heap.size := fun x hx => hlt x (by simp [hx])
  have l2 : ∀ x ∈ p2, x.block < W.heap.size := fun x hx => hlt x (by simp [hx])
  have l3 : ∀ x ∈ p3, x.block < W.heap.size := fun x hx => hlt x (by simp [hx])
  obtain ⟨a0, n0, c0, e0, rfl, hl0, hc0, hr0⟩ := open_bytes (hval 0 22 v0 rfl rfl) h0 l0
  have k1 := h1
  obtain ⟨x1, rfl, _, _, w1⟩ := open_int Tryd.underlying3 (hval 1 3 v1 rfl rfl) k1
  have b1 := bounds_i64 w1
  have k2 := h2
  obtain ⟨x2, rfl, _, _, w2⟩ := open_int Tryd.underlying3 (hval 2 3 v2 rfl rfl) k2
  have b2 := bounds_i64 w2
  have k3 := h3
  obtain ⟨x3, rfl, _, _, w3⟩ := open_int Tryd.underlying3 (hval 3 3 v3 rfl rfl) k3
  have b3 := bounds_i64 w3
  simp only [List.append_nil] at hW'
  have hL : laidMet Tryd.prog (egn.map layOf ++ []) W := by
    rw [MakeChecks.laidMetH_plain _ _ _ (by kernel_rfl)] at hL0
    exact hL0
  obtain ⟨E, hE⟩ := errsAll_of_laid hL
  refine (hpackInts_law E x1 x2 x3 a0 n0 c0 e0 W hl0 hr0 hE).mono fun e W' ⟨he, hb⟩ => ?_
  subst he
  exact ⟨_, rfl, _, _, _, [], _, [], hW', trodAll_mk1 (shut_bool Tryd.underlying4 _),
    trodM4 (hb.trod lays_out (by kernel_rfl) (of_decide_eq_true (by kernel_rfl)) h0 l0) (hb.trod lays_out (by kernel_rfl) (of_decide_eq_true (by kernel_rfl)) h1 l1) (hb.trod lays_out (by kernel_rfl) (of_decide_eq_true (by kernel_rfl)) h2 l2) (hb.trod lays_out (by kernel_rfl) (of_decide_eq_true (by kernel_rfl)) h3 l3), rfl, hb.frame _, fun h => by cases h⟩

theorem holds : Rows.HpackIntsSaid :=
  OpenClaim.holds_of_wide 3 Tryd.f3 rfl rfl rfl rfl rfl rfl rfl ⟨rfl, rfl, rfl, rfl, rfl⟩ rfl rfl rfl rfl rfl (by kernel_rfl) Tryd.func3 (by kernel_rfl)
    (of_decide_eq_true (by kernel_rfl)) (by unfold Func.isWrapper; first | (rw [if_pos (by decide +kernel)]; kernel_rfl) | (rw [if_neg (by decide +kernel)]; exact ⟨rfl, rfl⟩))
    (fun os started H enc _ => lifted os started H enc)
end HpackIntsC

theorem hpackInts_card : Rows.HpackIntsCardSaid :=
  Claim7.holds_tied_plain_at .later [] Rows.hpackIntsCard.laidKinds true Rows.hpackIntsCard.stood.harness Rows.hpackIntsCard.stood.looks HpackIntsC.holds (fun _ h => by cases h) (by kernel_rfl) (fun _ h => by cases h) hpackInts_row_tie rfl ⟨rfl, rfl⟩ (by kernel_rfl) rfl
    (fun f fn hf hfn => by
      obtain rfl : f = 3 := Option.some.inj ((show Tryd.prog.funcNamed "parley/parleylaw4.HpackInts" = some 3 by kernel_rfl).symm.trans hf) |>.symm
      obtain rfl : fn = Tryd.f3 := (Option.some.inj (Tryd.func3.symm.trans hfn)).symm
      exact ⟨by kernel_rfl, fun j t ht => by
        rw [Tryd.params3] at ht
        have hm : t ∈ [22, 3, 3, 3] := by simpa using Array.mem_of_getElem? ht
        have hall : ([22, 3, 3, 3].all fun u => !Tryd.prog.wantsStandIn u) = true := by kernel_rfl
        exact (show Tryd.prog.wantsStandIn t = false by simpa using List.all_eq_true.1 hall t hm)⟩)
    (by kernel_rfl)
#print axioms hpackInts_card
end Go.Proofs.YthdgcakbeiocgaaDoor
