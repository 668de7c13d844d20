/-
HeadLess: which of two plain headers stands first, and leaving one out, change nothing of whether a list may be.
-/
import Derived.Test.YtihlcecincijgaaDoorDmore
import Derived.Deep.RegionHeld3
import Derived.Deep.CutRange
namespace Go.Proofs.YtihlcecincijgaaDoor
open Go.RowKit

theorem nvs_set (l : List (B.HD × Bool)) (i : Nat) (x : B.HD × Bool) : nvs (l.set i x) = (((nvs l).set (i * 3) (.string x.1.1)).set (i * 3 + 1) (.string x.1.2)).set (i * 3 + 2) (.bool x.2) := by
  induction l generalizing i with
  | nil => simp [nvs]
  | cons a l ih =>
    cases i with
    | zero => rfl
    | succ i =>
      have e : (i + 1) * 3 = i * 3 + 3 := by omega
      simp only [List.set_cons_succ, nvs, ih, e]
/-- A header is stored into a slice of the call's own. -/
theorem QOwn.stored {K : Nat} {w : World} {g n cp : Nat} {l : List (B.HD × Bool)} (h : QOwn K w (.slice (some ⟨g, 0, none⟩) n cp) l) (i : Nat) (x : B.HD × Bool) :
    QOwn K (((w.setCell ⟨g, i * 3, none⟩ (.string x.1.1)).setCell ⟨g, i * 3 + 1, none⟩ (.string x.1.2)).setCell ⟨g, i * 3 + 2, none⟩ (.bool x.2)) (.slice (some ⟨g, 0, none⟩) n cp) (l.set i x) := by
  have hf := h.form
  obtain ⟨a, c, e⟩ := hf
  cases e
  have h' : w.ownsRow K 54 3 (.slice (some ⟨g, 0, none⟩) l.length cp) l.length (nvs l) := h
  show World.ownsRow _ _ _ _ _ _ _
  rw [List.length_set, nvs_set]
  exact (World.ownsRow.stored (World.ownsRow.stored (World.ownsRow.stored h' (i * 3) (.string x.1.1)).1 (i * 3 + 1) (.string x.1.2)).1 (i * 3 + 2) (.bool x.2)).1
theorem QOwn.frozen {K : Nat} {w : World} {g n cp : Nat} {l : List (B.HD × Bool)} (h : QOwn K w (.slice (some ⟨g, 0, none⟩) n cp) l) (j : Nat) : w.frozen? ⟨g, j, none⟩ = false := by
  obtain ⟨a, c, e⟩ := h.form
  cases e
  have h' : w.ownsRow K 54 3 (.slice (some ⟨g, 0, none⟩) l.length cp) l.length (nvs l) := h
  exact World.ownsRow.frozenAt h' j

theorem QOwn.qrd {K : Nat} {w : World} {g n cp : Nat} {l : List (B.HD × Bool)} (h : QOwn K w (.slice (some ⟨g, 0, none⟩) n cp) l) : QRd w (some ⟨g, 0, none⟩) l := by
  rcases h.cases with ⟨e, _⟩ | ⟨_, _, e, _, _, _, hrd⟩
  · cases e
  · cases e
    exact hrd
theorem open_at (a : Option Addr) (n c : Nat) (L : List (B.HD × Bool)) (p : Addr) (w0 : World) (hL : L.length = n) (hn : n ≤ 1048576) (hcap : n ≤ c) (hr : QRdB w0.heap.size w0 a L) (hs : QSz 1048576 L) (hE : EH w0 p) :
    ∀ ww, Below w0.heap.size w0 ww → Calls Tryd.prog 11 #[.slice a n c] ww fun e w' => ∃ m s a q va n vc, e = .returned (.tuple #[.agg #[.string m, .string s, .string a, .string q, .slice va n vc], ehV p (D.okR L)]) ∧ Below ww.heap.size ww w' :=
  fun ww h => (Open_any a n c L p ww hL hn hcap (hr.belowB h (Nat.le_refl _)) h.size hs (hE.below h)).mono fun _ _ ho => ho.form
theorem ans_at (a : Option Addr) (n c : Nat) (L : List (B.HD × Bool)) (p : Addr) (w0 : World) (hL : L.length = n) (hn : n ≤ 1048576) (hcap : n ≤ c) (hr : QRdB w0.heap.size w0 a L) (hs : QSz 1048576 L) (hE : EH w0 p) :
    ∀ ww, Below w0.heap.size w0 ww → Calls Tryd.prog 13 #[.slice a n c] ww fun e w' => ∃ (k : Nat) (va : Option Addr) (n vc : Nat), e = .returned (.tuple #[.agg #[.int .i64 (k : Nat), .slice va n vc], ehV p (D.okA L)]) ∧ Below ww.heap.size ww w' :=
  fun ww h => (OpenAnswer_any a n c L p ww hL hn hcap (hr.belowB h (Nat.le_refl _)) h.size hs (hE.below h)).mono fun _ _ ho => ho.form
theorem trl_at (a : Option Addr) (n c : Nat) (L : List (B.HD × Bool)) (p : Addr) (w0 : World) (hL : L.length = n) (hn : n ≤ 1048576) (hr : QRdB w0.heap.size w0 a L) (hs : QSz 1048576 L) (hE : EH w0 p) :
    ∀ ww, Below w0.heap.size w0 ww → Calls Tryd.prog 15 #[.slice a n c] ww fun e w' => e = .returned (ehV p (D.okT L)) ∧ Below ww.heap.size ww w' :=
  fun ww h => Trailers_any a n c L p ww hL hn (hr.belowB h (Nat.le_refl _)) h.size hs (hE.below h)
/-- The number that a law's index comes to. -/
theorem empty_str (v : ByteArray) : v.toList.isEmpty = decide (v.size = 0) := by
  rw [Lib.toList_data, Lib.size_eq]
  cases v.data.toList <;> simp
theorem idx_eq (x : Int) (n : Nat) (h0 : 0 < n) (_h1 : -9223372036854775808 ≤ x) (_h2 : x ≤ 9223372036854775807) : ∃ i : Nat, i < n ∧ (x.tmod n + n).tmod n = (i : Int) ∧ -(n : Int) < x.tmod n ∧ x.tmod n < n ∧ 0 ≤ x.tmod n + n := by
  have hn : (0 : Int) < n := by omega
  have a := Int.tmod_lt_of_pos x hn
  have b : -(n : Int) < x.tmod n := by
    have := Int.lt_tmod_of_pos x hn
    omega
  have c : 0 ≤ x.tmod n + n := by omega
  have d := Int.tmod_lt_of_pos (x.tmod n + n) hn
  have e := Int.tmod_nonneg (n : Int) c
  exact ⟨((x.tmod n + n).tmod n).toNat, by omega, by omega, b, a, c⟩
set_option maxRecDepth 100000 in
set_option maxHeartbeats 8000000 in
theorem headLess_law (p : Addr) (a : Option Addr) (n c : Nat) (l : List (B.HD × Bool)) (x1 x2 : Int) (w : World) (hl : l.length = n) (hn : n ≤ 1048576) (hcap : n ≤ c) (hr : QRdB w.heap.size w a l) (hs : QSz 1048576 l) (hE : EH w p)
    (b1 : -9223372036854775808 ≤ x1 ∧ x1 ≤ 9223372036854775807) (b2 : -9223372036854775808 ≤ x2 ∧ x2 ≤ 9223372036854775807) :
    Calls Tryd.prog 6 #[.slice a n c, .int .i64 x1, .int .i64 x2] w (TruePost w) := by
  have HF := Lib.hid (first_any p w hE)
  have HE0 := Lib.hid hE
  have HQ0 := Lib.hid hr
  have HL := Lib.hid hl
  have HS := Lib.hid hs
  have hgE0 := World.block_lt_of_cell? _ _ hE
  simp only at hgE0
  clear hE hr hl hs
  go_enter Tryd.func6, Tryd.ntmps6
  go_wp2_with fail
  refine HF.out.mono ?_
  rintro e w1 ⟨rfl, hb1⟩
  have HB1 := Lib.hid hb1
  have HQ1 := Lib.hid (HQ0.out.belowB hb1 (Nat.le_refl _))
  have hz1 := hb1.size
  have HLt := Lib.hid (klight_any a n c l w1 HL.out HQ1.out (by omega) (qsz_up HS.out))
  clear hb1 HF
  go_wp2_with fail
  refine HLt.out.mono ?_
  rintro e w2 ⟨⟨lb, rfl, h60⟩, hb2⟩
  have HB2 := Lib.hid (HB1.out.trans (hb2.mono hz1))
  have hz2 := hb2.size
  have hz2' : w.heap.size ≤ w2.heap.size := by omega
  clear hb2 HLt HQ1 HB1
  cases lb
  · go_wp2
    go_ret
    exact ⟨rfl, HB2.out⟩
  have hn60 := h60 rfl
  clear h60
  by_cases hn0 : n = 0
  · have q1 : ((n : Int) == 0) = true := by simp [hn0]
    go_wp2
    go_ret
    exact ⟨rfl, HB2.out⟩
  have q1 : ((n : Int) == 0) = false := beq_eq_false_iff_ne.2 (by omega)
  have q1' : ¬ (n : Int) = 0 := by omega
  obtain ⟨i, hi, ei, i1, i2, i3⟩ := idx_eq x1 n (by omega) b1.1 b1.2
  obtain ⟨k, hk, ek, k1, k2, k3⟩ := idx_eq x2 n (by omega) b2.1 b2.2
  obtain ⟨x, hx⟩ : ∃ x, l[i]? = some x := ⟨_, List.getElem?_eq_getElem (by rw [HL.out]; exact hi)⟩
  obtain ⟨y, hy⟩ : ∃ y, l[k]? = some y := ⟨_, List.getElem?_eq_getElem (by rw [HL.out]; exact hk)⟩
  have HX := Lib.hid hx
  have HY := Lib.hid hy
  obtain ⟨b, o, rfl, hbK, d0, d1, d2⟩ := (HQ0.out.belowB HB2.out (Nat.le_refl _)) i x hx
  obtain ⟨b', o', e', _, g0, g1, g2⟩ := (HQ0.out.belowB HB2.out (Nat.le_refl _)) k y hy
  cases e'
  clear hx hy
  obtain ⟨⟨xn, xv⟩, xb⟩ := x
  obtain ⟨⟨yn, yv⟩, yb⟩ := y
  simp only at d0 d1 d2 g0 g1 g2
  have w1 : IntKind.i64.wrap (x1.tmod n) = x1.tmod n := IntWalk.i64_in _ (by omega)
  have w2' : IntKind.i64.wrap (x2.tmod n) = x2.tmod n := IntWalk.i64_in _ (by omega)
  have w3 : IntKind.i64.wrap (x1.tmod n + n) = x1.tmod n + n := IntWalk.i64_in _ (by omega)
  have w4 : IntKind.i64.wrap (x2.tmod n + n) = x2.tmod n + n := IntWalk.i64_in _ (by omega)
  have w5 : IntKind.i64.wrap (i : Int) = i := IntWalk.i64_in _ (by omega)
  have w6 : IntKind.i64.wrap (k : Int) = k := IntWalk.i64_in _ (by omega)
  have ib0 : (0 : Int) ≤ (i : Int) := by omega
  have ib1 : (i : Int) < (n : Int) := by omega
  have kb0 : (0 : Int) ≤ (k : Int) := by omega
  have kb1 : (k : Int) < (n : Int) := by omega
  go_upto_region 6 with (fail)
  clear ei ek i1 i2 i3 k1 k2 k3 w1 w2' w3 w4 w5 w6
  have hxe := empty_str xn
  have hye := empty_str yn
  by_cases hx0 : xn.size = 0
  · rw [decide_eq_true hx0] at hxe
    clear hx0
    go_wp2
    go_ret
    exact ⟨rfl, HB2.out⟩
  rw [decide_eq_false hx0] at hxe
  have hx1 : 0 < xn.size := by omega
  obtain ⟨cx, hcx⟩ : ∃ cx : UInt8, xn[0]'hx1 = cx := ⟨_, rfl⟩
  have hcx2 : D.colonN xn = ((cx.toNat : Int) == 58) := by rw [colon_at hx1, hcx]; exact u8_58 cx
  cases hcolx : D.colonN xn
  case true =>
    rw [hcolx] at hcx2
    replace hcx2 := hcx2.symm
    clear hcolx hx0
    go_wp2
    go_ret
    exact ⟨rfl, HB2.out⟩
  rw [hcolx] at hcx2
  replace hcx2 := hcx2.symm
  by_cases hy0 : yn.size = 0
  · rw [decide_eq_true hy0] at hye
    clear hy0 hcolx hx0
    go_wp2
    go_ret
    exact ⟨rfl, HB2.out⟩
  rw [decide_eq_false hy0] at hye
  have hy1 : 0 < yn.size := by omega
  obtain ⟨cy, hcy⟩ : ∃ cy : UInt8, yn[0]'hy1 = cy := ⟨_, rfl⟩
  have hcy2 : D.colonN yn = ((cy.toNat : Int) == 58) := by rw [colon_at hy1, hcy]; exact u8_58 cy
  cases hcoly : D.colonN yn
  case true =>
    rw [hcoly] at hcy2
    replace hcy2 := hcy2.symm
    clear hcolx hcoly hx0 hy0
    go_wp2
    go_ret
    exact ⟨rfl, HB2.out⟩
  rw [hcoly] at hcy2
  replace hcy2 := hcy2.symm
  have HcolX := Lib.hid hcolx
  have HcolY := Lib.hid hcoly
  clear hcolx hcoly hx0 hy0
  have HQ2 := Lib.hid (HQ0.out.belowB HB2.out (Nat.le_refl _))
  have HH := Lib.hid (qheaders_any (some ⟨b, o, none⟩) n c l w2 HL.out hn HQ2.out (by omega))
  go_wp2_with fail
  refine HH.out.mono ?_
  rintro e w3 ⟨v3, rfl, ho3, hb3⟩
  have hl0 : l ≠ [] := fun e => by have := HL.out; rw [e] at this; exact hn0 this.symm
  rcases ho3.cases with ⟨_, e⟩ | ⟨g, cp, rfl, hcp, hgw, hgz, hrd⟩
  · exact absurd e hl0
  have hln := HL.out
  rw [hln] at hcp ho3 ⊢
  obtain ⟨_, _, ee, m0, m1, m2⟩ := hrd i ((xn, xv), xb) HX.out
  cases ee
  obtain ⟨_, _, ee, r0, r1, r2⟩ := hrd k ((yn, yv), yb) HY.out
  cases ee
  simp only [Nat.zero_add] at m0 m1 m2 r0 r1 r2
  clear hcx2 hcy2 hcx hcy hxe hye hrd HH
  have hgb : g ≠ b := by omega
  have hbg : b ≠ g := by omega
  have HO3 := Lib.hid ho3
  have HB3 := Lib.hid (HB2.out.trans (hb3.mono hz2'))
  have hz3 := hb3.size
  have hbw2 : b < w2.heap.size := by omega
  replace d0 := cell_belowB hb3 hbw2 d0
  replace d1 := cell_belowB hb3 hbw2 d1
  replace d2 := cell_belowB hb3 hbw2 d2
  replace g0 := cell_belowB hb3 hbw2 g0
  replace g1 := cell_belowB hb3 hbw2 g1
  replace g2 := cell_belowB hb3 hbw2 g2
  have fz0 := HO3.out.frozen (i * 3)
  have fz1 := HO3.out.frozen (i * 3 + 1)
  have fz2 := HO3.out.frozen (i * 3 + 2)
  obtain ⟨w4, hw4⟩ : ∃ w4, w4 = ((w3.setCell ⟨g, i * 3, none⟩ (.string yn)).setCell ⟨g, i * 3 + 1, none⟩ (.string yv)).setCell ⟨g, i * 3 + 2, none⟩ (.bool yb) := ⟨_, rfl⟩
  have ho4 : QOwn w2.heap.size w4 (.slice (some ⟨g, 0, none⟩) n cp) (l.set i ((yn, yv), yb)) := by rw [hw4]; exact HO3.out.stored i ((yn, yv), yb)
  have HB4 : Hid (Below w.heap.size w w4) := by rw [hw4]; exact ((HB3.out.setCell (show w.heap.size ≤ g by omega) _).setCell (show w.heap.size ≤ g by omega) _).setCell (show w.heap.size ≤ g by omega) _
  have hz4 : w3.heap.size ≤ w4.heap.size := by rw [hw4]; simp
  have Hw4 := Lib.hid hw4
  clear hb3 ho3 hw4
  go_upto_region 11 with (fail)
  rw [← Hw4.out]
  clear d0 d1 d2 g0 g1 g2 m0 m1 m2 r0 r1 r2 fz0 fz1 fz2
  have hls : (l.set i ((yn, yv), yb)).length = n := by rw [List.length_set]; exact hln
  have hrd := ho4.qrd
  have hgk : (l.set i ((yn, yv), yb))[k]? = some ((yn, yv), yb) := by
    rw [List.getElem?_set]
    split
    · rw [if_pos (by omega)]
    · exact HY.out
  obtain ⟨_, _, ee, r0, r1, r2⟩ := hrd k ((yn, yv), yb) hgk
  cases ee
  obtain ⟨_, _, ee, _, d0, d1, d2⟩ := (HQ0.out.belowB HB4.out (Nat.le_refl _)) i ((xn, xv), xb) HX.out
  cases ee
  simp only [Nat.zero_add] at r0 r1 r2 d0 d1 d2
  have fz0 := ho4.frozen (k * 3)
  have fz1 := ho4.frozen (k * 3 + 1)
  have fz2 := ho4.frozen (k * 3 + 2)
  obtain ⟨w5, hw5⟩ : ∃ w5, w5 = ((w4.setCell ⟨g, k * 3, none⟩ (.string xn)).setCell ⟨g, k * 3 + 1, none⟩ (.string xv)).setCell ⟨g, k * 3 + 2, none⟩ (.bool xb) := ⟨_, rfl⟩
  have ho5 : QOwn w2.heap.size w5 (.slice (some ⟨g, 0, none⟩) n cp) ((l.set i ((yn, yv), yb)).set k ((xn, xv), xb)) := by rw [hw5]; exact ho4.stored k ((xn, xv), xb)
  have HB5 : Hid (Below w.heap.size w w5) := by rw [hw5]; exact ((HB4.out.setCell (show w.heap.size ≤ g by omega) _).setCell (show w.heap.size ≤ g by omega) _).setCell (show w.heap.size ≤ g by omega) _
  have hz5 : w4.heap.size ≤ w5.heap.size := by rw [hw5]; simp
  have HO5 := Lib.hid ho5
  have Hw5 := Lib.hid hw5
  clear ho4 hw5 hrd ho5
  go_upto_region 12 with (fail)
  rw [← Hw5.out]
  clear d0 d1 d2 r0 r1 r2 fz0 fz1 fz2
  have hs1 : ∀ ww, (Instr.slice 22 (.slice (some ⟨b, o, none⟩) n c) none (some (.int .i64 (i : Nat))) none).run Tryd.prog ww = .ok (.slice (cutQ (some ⟨b, o, none⟩) c 0) i c) ww := fun ww => run_toQ _ n c i (by omega) ww
  have hs2 : ∀ ww, (Instr.slice 22 (.slice (some ⟨b, o, none⟩) n c) (some (.int .i64 ((i : Int) + 1))) none none).run Tryd.prog ww = .ok (.slice (cutQ (some ⟨b, o, none⟩) c (i + 1)) (n - (i + 1)) (c - (i + 1))) ww := fun ww => by
    have h := run_fromQ (some ⟨b, o, none⟩) n c (i + 1) (by omega) ww
    rw [show (((i + 1 : Nat)) : Int) = (i : Int) + 1 by omega] at h
    exact h
  have hQ5 := HQ0.out.belowB HB5.out (Nat.le_refl _)
  have HQa : Hid (QRdB w.heap.size w5 (cutQ (some ⟨b, o, none⟩) c 0) (l.take i)) := by
    have h := hQ5.cut 0 (show l.length ≤ c by omega)
    rw [List.drop_zero] at h
    exact h.cut2
  have HQb : Hid (QRdB w.heap.size w5 (cutQ (some ⟨b, o, none⟩) c (i + 1)) (l.drop (i + 1))) := hQ5.cut (i + 1) (by omega)
  generalize cutQ (some ⟨b, o, none⟩) c 0 = aa at *
  generalize cutQ (some ⟨b, o, none⟩) c (i + 1) = ab at *
  have HHd : Hid (∀ ww, Below w5.heap.size w5 ww → Calls Tryd.prog 10 #[.slice aa i c] ww (QOut (l.take i) ww)) := fun ww h => qheaders_any aa i c (l.take i) ww (by rw [List.length_take]; omega) (by omega) (HQa.out.belowB h (by omega)) (by have := h.size; omega)
  have hwi : IntKind.i64.wrap ((i : Int) + 1) = (i : Int) + 1 := IntWalk.i64_in _ (by omega)
  have hi1 : (0 : Int) ≤ (i : Int) + 1 := by omega
  have hi2 : (i : Int) + 1 ≤ (n : Int) := by omega
  have hwd : Below w5.heap.size w5 w5.drew := ⟨rfl, rfl, rfl, Nat.le_refl _, fun _ _ => rfl⟩
  have HWd := Lib.hid hwd
  have hln2 : (l.drop (i + 1)).length = n - (i + 1) := by rw [List.length_drop]; omega
  have hln1 : (l.take i).length = i := by rw [List.length_take]; omega
  have HL2 := Lib.hid hln2
  have HL1 := Lib.hid hln1
  have HL3 : Hid ((l.take i ++ l.drop (i + 1)).length = n - 1) := by show _ = _; rw [List.length_append, hln1, hln2]; omega
  clear hQ5 hwd hln1 hln2
  go_cut [10] from 109 to 117 (fun v wx => ∃ va vc, v = .slice va (n - 1) vc ∧ Hid (QOwn w2.heap.size wx (.slice va (n - 1) vc) (l.take i ++ l.drop (i + 1))) ∧ Hid (QOwn w2.heap.size wx (.slice (some ⟨g, 0, none⟩) n cp) ((l.set i ((yn, yv), yb)).set k ((xn, xv), xb))) ∧ Hid (Below w.heap.size w wx) ∧ w2.heap.size ≤ wx.heap.size)
  case first =>
    go_region_law (first
      | (refine step_appQ2 _ rfl _ _ rfl rfl w5.heap.size _ (l.take i) rfl HOh.out ab (n - (i + 1)) (c - (i + 1)) (l.drop (i + 1)) rfl HL2.out (HQb.out.belowB HBh.out (by omega)).rd (by have := HL1.out; omega) (by have := HBh.out.size; omega) ?_; intro v8 w8 hO8 hg8; obtain ⟨va, vc, hv⟩ := hO8.form; rw [HL3.out] at hv; subst hv; have HO8 := Lib.hid hO8; have HB8 := Lib.hid (HBh.out.grown hg8 (by have := HBh.out.size; omega) (fun r e => (HOh.out.lt r e).1)); clear hO8 hg8)
      | (go_simp; refine (HHd.out _ HWd.out).mono ?_; rintro e w7 ⟨v7, rfl, ho7, hb7⟩; obtain ⟨a7, c7, hv⟩ := ho7.form; rw [HL1.out] at hv; subst hv; have ho7' := ho7.mono HWd.out.size; have HOh := Lib.hid ho7'; clear ho7'; have HBh : Hid (Below w5.heap.size w5 w7) := HWd.out.trans hb7; clear ho7 hb7))
    all_goals
      go_wp2
      go_meet
      exact ⟨va, vc, rfl, HO8.out.mono (by omega), (HO5.out.below HB8.out), HB5.out.trans (HB8.out.mono (by omega)), by have := HB8.out.size; omega⟩
  case rest =>
    obtain ⟨va, vc, rfl, HO6, HO7, HB6, hz6⟩ := hcut
    have HBc : Hid (Below wc.heap.size wc wc) := Below.refl _ _
    have hEc : EH wc p := HE0.out.below HB6.out
    obtain ⟨_, _, e6, cap6, rd6⟩ := HO6.out.rdB
    have hl6 : (l.take i ++ l.drop (i + 1)).length = n - 1 := HL3.out
    rw [hl6] at e6 cap6
    cases e6
    obtain ⟨_, _, e7, cap7, rd7⟩ := HO7.out.rdB
    have hl7 : ((l.set i ((yn, yv), yb)).set k ((xn, xv), xb)).length = n := by rw [List.length_set, List.length_set]; exact hln
    rw [hl7] at e7 cap7
    cases e7
    have hsz7 : QSz 1048576 ((l.set i ((yn, yv), yb)).set k ((xn, xv), xb)) := fun z hz => by
      rcases List.mem_or_eq_of_mem_set hz with h | rfl
      · rcases List.mem_or_eq_of_mem_set h with h | rfl
        · exact HS.out z h
        · exact HS.out _ (List.mem_of_getElem? HY.out)
      · exact HS.out _ (List.mem_of_getElem? HX.out)
    have hsz6 : QSz 1048576 (l.take i ++ l.drop (i + 1)) := fun z hz => by
      rcases List.mem_append.1 hz with h | h
      · exact HS.out z (List.mem_of_mem_take h)
      · exact HS.out z (List.mem_of_mem_drop h)
    have rdl : QRdB wc.heap.size wc (some ⟨b, o, none⟩) l := (HQ0.out.belowB HB6.out (Nat.le_refl _)).mono (by omega)
    have COl := Lib.hid (open_at (some ⟨b, o, none⟩) n c l p wc hln hn hcap rdl HS.out hEc)
    have CAl := Lib.hid (ans_at (some ⟨b, o, none⟩) n c l p wc hln hn hcap rdl HS.out hEc)
    have CTl := Lib.hid (trl_at (some ⟨b, o, none⟩) n c l p wc hln hn rdl HS.out hEc)
    have COm := Lib.hid (open_at (some ⟨g, 0, none⟩) n cp _ p wc hl7 hn cap7 rd7 hsz7 hEc)
    have CAm := Lib.hid (ans_at (some ⟨g, 0, none⟩) n cp _ p wc hl7 hn cap7 rd7 hsz7 hEc)
    have CTm := Lib.hid (trl_at (some ⟨g, 0, none⟩) n cp _ p wc hl7 hn rd7 hsz7 hEc)
    have COs := Lib.hid (open_at va (n - 1) vc _ p wc hl6 (by omega) cap6 rd6 hsz6 hEc)
    have CAs := Lib.hid (ans_at va (n - 1) vc _ p wc hl6 (by omega) cap6 rd6 hsz6 hEc)
    have CTs := Lib.hid (trl_at va (n - 1) vc _ p wc hl6 (by omega) rd6 hsz6 hEc)
    have sw := fun fr => D.swap_ok fr l i k ((xn, xv), xb) ((yn, yv), yb) HX.out HY.out HcolX.out HcolY.out
    have ls := fun fr => D.less_ok fr l i ((xn, xv), xb) HX.out HcolX.out
    have sR : D.okR ((l.set i ((yn, yv), yb)).set k ((xn, xv), xb)) = D.okR l := by rw [D.okR_F, D.okR_F, sw]
    have sA : D.okA ((l.set i ((yn, yv), yb)).set k ((xn, xv), xb)) = D.okA l := by rw [D.okA_F, D.okA_F, sw]
    have sT : D.okT ((l.set i ((yn, yv), yb)).set k ((xn, xv), xb)) = D.okT l := by rw [D.okT_F, D.okT_F, sw]
    have LR : Hid (D.okR l = true → D.okR (l.take i ++ l.drop (i + 1)) = true) := fun h => by rw [D.okR_F] at h ⊢; exact ls _ h
    have LA : Hid (D.okA l = true → D.okA (l.take i ++ l.drop (i + 1)) = true) := fun h => by rw [D.okA_F] at h ⊢; exact ls _ h
    have LT : Hid (D.okT l = true → D.okT (l.take i ++ l.drop (i + 1)) = true) := fun h => by rw [D.okT_F] at h ⊢; exact ls _ h
    rw [sR] at COm
    rw [sA] at CAm
    rw [sT] at CTm
    have hqe := run_eqN p
    have hqn := run_neN p
    have hgd := run_gdN p
    clear sR sA sT sw ls rdl hsz6 hsz7 rd6 rd7 hl6 hl7 HO6 HO7 hEc hwi hi1 hi2 hs1 hs2 HHd HQa HQb
    generalize D.okR l = bl at *
    generalize D.okA l = al at *
    generalize D.okT l = tl at *
    generalize D.okR (l.take i ++ l.drop (i + 1)) = bs at *
    generalize D.okA (l.take i ++ l.drop (i + 1)) = az at *
    generalize D.okT (l.take i ++ l.drop (i + 1)) = ts at *
    go_wp2_with fail
    refine (COl.out _ HBc.out).mono ?_
    rintro e w20 ⟨m20, s20, a20, q20, x20, n20, y20, rfl, hb⟩
    have HB20 : Hid (Below wc.heap.size wc (w20.alloc (.cells #[.string m20, .string s20, .string a20, .string q20, .slice x20 n20 y20] 27))) := (HBc.out.trans (hb.mono (HBc.out.size))).alloc (by have := HBc.out.size; have := hb.size; omega) _
    clear hb
    go_wp2_with fail
    refine (COm.out _ HB20.out).mono ?_
    rintro e w21 ⟨m21, s21, a21, q21, x21, n21, y21, rfl, hb⟩
    have HB21 : Hid (Below wc.heap.size wc (w21.alloc (.cells #[.string m21, .string s21, .string a21, .string q21, .slice x21 n21 y21] 27))) := (HB20.out.trans (hb.mono (HB20.out.size))).alloc (by have := HB20.out.size; have := hb.size; omega) _
    clear hb
    go_wp2_with fail
    refine (COs.out _ HB21.out).mono ?_
    rintro e w22 ⟨m22, s22, a22, q22, x22, n22, y22, rfl, hb⟩
    have HB22 : Hid (Below wc.heap.size wc (w22.alloc (.cells #[.string m22, .string s22, .string a22, .string q22, .slice x22 n22 y22] 27))) := (HB21.out.trans (hb.mono (HB21.out.size))).alloc (by have := HB21.out.size; have := hb.size; omega) _
    clear hb
    go_wp2_with fail
    refine (CAl.out _ HB22.out).mono ?_
    rintro e w23 ⟨k23, x23, n23, y23, rfl, hb⟩
    have HB23 : Hid (Below wc.heap.size wc (w23.alloc (.cells #[.int .i64 (k23 : Nat), .slice x23 n23 y23] 36))) := (HB22.out.trans (hb.mono (HB22.out.size))).alloc (by have := HB22.out.size; have := hb.size; omega) _
    clear hb
    go_wp2_with fail
    refine (CAm.out _ HB23.out).mono ?_
    rintro e w24 ⟨k24, x24, n24, y24, rfl, hb⟩
    have HB24 : Hid (Below wc.heap.size wc (w24.alloc (.cells #[.int .i64 (k24 : Nat), .slice x24 n24 y24] 36))) := (HB23.out.trans (hb.mono (HB23.out.size))).alloc (by have := HB23.out.size; have := hb.size; omega) _
    clear hb
    go_wp2_with fail
    refine (CAs.out _ HB24.out).mono ?_
    rintro e w25 ⟨k25, x25, n25, y25, rfl, hb⟩
    have HB25 : Hid (Below wc.heap.size wc (w25.alloc (.cells #[.int .i64 (k25 : Nat), .slice x25 n25 y25] 36))) := (HB24.out.trans (hb.mono (HB24.out.size))).alloc (by have := HB24.out.size; have := hb.size; omega) _
    clear hb
    go_wp2_with fail
    refine (CTl.out _ HB25.out).mono ?_
    rintro e w26 ⟨rfl, hb⟩
    have HB26 : Hid (Below wc.heap.size wc w26) := HB25.out.trans (hb.mono (HB25.out.size))
    clear hb
    go_wp2_with fail
    refine (CTm.out _ HB26.out).mono ?_
    rintro e w27 ⟨rfl, hb⟩
    have HB27 : Hid (Below wc.heap.size wc w27) := HB26.out.trans (hb.mono (HB26.out.size))
    clear hb
    go_wp2_with fail
    refine (CTs.out _ HB27.out).mono ?_
    rintro e w28 ⟨rfl, hb⟩
    have HB28 : Hid (Below wc.heap.size wc w28) := HB27.out.trans (hb.mono (HB27.out.size))
    clear hb
    have HEnd : Hid (Below w.heap.size w w28) := HB6.out.trans (HB28.out.mono (by omega))
    clear HB20 HB21 HB22 HB23 HB24 HB25 HB26 HB27 COl COm COs CAl CAm CAs CTl CTm CTs
    go_upto_region 22 with (fail)
    cases bl
    all_goals cases al
    all_goals cases tl
    all_goals
      try (have := LR.out rfl; subst this)
      try (have := LA.out rfl; subst this)
      try (have := LT.out rfl; subst this)
      go_quiet (fail)
      go_wp2
      go_ret
      exact ⟨rfl, below_q HEnd.out _⟩
end Go.Proofs.YtihlcecincijgaaDoor
