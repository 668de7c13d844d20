/-
The walk of head.Build.
-/
import Derived.Test.YtihlcecincijgaaDoorDmore
namespace Go.Proofs.YtihlcecincijgaaDoor
open Go.RowKit

namespace D
/-- What a request begins with. -/
def fr2 (g : Rq) : List HB := [((kMethod, g.m), false), ((kScheme, g.s), false)]
def frA4 (g : Rq) : List HB := if decide (g.a = ⟨#[]⟩) then [] else [((kAuthority, g.a), false)]
def fr4 (g : Rq) : List HB := fr2 g ++ frA4 g ++ [((kPath, g.p), false)]
def bld (g : Rq) (rest : List HB) : Option (List HB) := if okR (fr4 g) then (if rest.all plainH then some (fr4 g ++ rest) else none) else none
end D

theorem emptyA (v : ByteArray) : v.data.isEmpty = decide (v = ⟨#[]⟩) := by
  have h := bne_empty v
  rw [Lib.toList_data, Array.isEmpty_toList] at h
  cases h1 : v.data.isEmpty <;> cases h2 : decide (v = ⟨#[]⟩) <;> simp_all
theorem emptyD (v : ByteArray) : v.toList.isEmpty = decide (v = ⟨#[]⟩) := by
  rw [Lib.toList_data, Array.isEmpty_toList]
  exact emptyA v
theorem QOwn.rdB' {K : Nat} {w : World} {a : Option Addr} {n c : Nat} {l : List (B.HD × Bool)} (h : QOwn K w (.slice a n c) l) : l.length = n ∧ n ≤ c ∧ QRdB w.heap.size w a l := by
  obtain ⟨a', c', e, h1, h2⟩ := h.rdB
  cases e
  exact ⟨rfl, h1, h2⟩

set_option maxRecDepth 100000 in
set_option maxHeartbeats 4000000 in
theorem Build_any {K0 : Nat} (g : D.Rq) (ra : Option Addr) (n c : Nat) (l : List (B.HD × Bool)) (p : Addr) (w : World) (hl : l.length = n) (hn : n ≤ 1000000) (hr : QRdB K0 w ra l) (hK0 : K0 ≤ w.heap.size) (hs : QSz 1048576 l) (hE : EH w p)
    (hg : g.m.size ≤ 1048576 ∧ g.s.size ≤ 1048576 ∧ g.a.size ≤ 1048576 ∧ g.p.size ≤ 1048576) :
    Calls Tryd.prog 29 #[.agg #[.string g.m, .string g.s, .string g.a, .string g.p, .slice ra n c]] w (JoinOut w.heap.size p (D.bld g l) w) := by
  obtain ⟨i0, hi, hz0, hz1, hz2⟩ := info_parts infoQ
  obtain ⟨gm, gs, ga, gp⟩ := g
  simp only at hg
  obtain ⟨z1, z2, z3, z4⟩ := hg
  obtain ⟨w0, hw0⟩ : ∃ w0, w0 = w.alloc (.cells #[.string gm, .string gs, .string ga, .string gp, .slice ra n c] 27) := ⟨_, rfl⟩
  have hb0 : Below w.heap.size w w0 := by rw [hw0]; exact (Below.refl _ _).alloc (Nat.le_refl _) _
  have HX0 : Hid (BA 27 w0 w.heap.size #[.string gm, .string gs, .string ga, .string gp, .slice ra n c]) := by rw [hw0]; exact heap_alloc_new w _
  have hzw : w.heap.size + 1 ≤ w0.heap.size := by rw [hw0]; simp
  have hgE := World.block_lt_of_cell? _ _ hE
  simp only at hgE
  have Hw0 := Lib.hid hw0
  have HB0 := Lib.hid hb0
  have HE0 := Lib.hid (hE.below hb0)
  have HQ0 := Lib.hid (hr.belowB hb0 hK0)
  have HL := Lib.hid hl
  have HS := Lib.hid hs
  have hC : Hid (∀ ww, Below (w.heap.size + 1) w0 ww → ww.cell? ⟨w.heap.size, 0, none⟩ = some (.string gm) ∧ ww.cell? ⟨w.heap.size, 1, none⟩ = some (.string gs) ∧ ww.cell? ⟨w.heap.size, 2, none⟩ = some (.string ga) ∧ ww.cell? ⟨w.heap.size, 3, none⟩ = some (.string gp) ∧ ww.cell? ⟨w.heap.size, 4, none⟩ = some (.slice ra n c)) := fun ww h => by
    have hx := HX0.out.belowB h (by omega)
    exact ⟨hx.cell rfl, hx.cell rfl, hx.cell rfl, hx.cell rfl, hx.cell rfl⟩
  have hB2 : Hid (i0.bytes * (4 + n) ≤ 281474976710656) := by show _ ≤ _; rw [hz2]; omega
  have hae := emptyD ga
  have had := emptyA ga
  have he4 : (4 : Int) + (n : Int) = ((4 + n : Nat) : Int) := by omega
  have HE4 := Lib.hid he4
  obtain ⟨c0, c1, c2, c3, c4⟩ := hC.out w0 (Below.refl _ _)
  clear hw0 hb0 hE hr hl hs he4
  go_enter Tryd.func29, Tryd.ntmps29
  go_upto_region 1 with (fail)
  rw [← Hw0.out]
  go_upto_region 2 with (at_make; refine wpList_make_own _ rfl _ _ 22 rfl (w.heap.size + 1) 54 i0 _ 3 Tryd.underlying22 hi hz0 hz1 .i64 .i64 _ (4 + n) rfl rfl HE4.out hB2.out (by unfold maxLen; omega) hzw ?_; intro w1 hO hgr; have HO1 : Hid (QOwn (w.heap.size + 1) w1 (.slice (some ⟨w0.heap.size, 0, none⟩) 0 (4 + n)) []) := hO; have HB1 : Hid (Below (w.heap.size + 1) w0 w1) := (grown_below hgr).mono hzw; have hzz1 := hgr.size; clear hO hgr)
  clear c0 c1 c2 c3 c4
  obtain ⟨c0, c1, c2, c3, c4⟩ := hC.out w1 HB1.out
  have HQ1 : Hid (QRdB (w1.heap.size + 1) (w1.alloc (.cells (nvs (D.fr2 ⟨gm, gs, ga, gp⟩)).toArray 54)) (some ⟨w1.heap.size, 0, none⟩) (D.fr2 ⟨gm, gs, ga, gp⟩)) := QRdB.blk (heap_alloc_new w1 _)
  have HO1' : Hid (QOwn (w.heap.size + 1) (w1.alloc (.cells (nvs (D.fr2 ⟨gm, gs, ga, gp⟩)).toArray 54)) (.slice (some ⟨w0.heap.size, 0, none⟩) 0 (4 + n)) []) := HO1.out.below ((Below.refl _ _).alloc (Nat.le_refl _) _)
  have HB1' : Hid (Below (w.heap.size + 1) w0 (w1.alloc (.cells (nvs (D.fr2 ⟨gm, gs, ga, gp⟩)).toArray 54))) := HB1.out.alloc (by omega) _
  go_upto_region 3 with (at_builtin; refine wpList_appQ2 _ rfl _ _ rfl rfl (w.heap.size + 1) _ [] rfl HO1'.out (some ⟨w1.heap.size, 0, none⟩) 2 2 (D.fr2 ⟨gm, gs, ga, gp⟩) rfl rfl HQ1.out.rd (by decide) (by simp; omega) ?_; intro v2 w2 hO hgr; rw [List.nil_append] at hO; obtain ⟨x2, y2, rfl⟩ := hO.form; have HO2 := Lib.hid hO; have HB2 := Lib.hid (HB1'.out.grown hgr (by simp; omega) (fun r e => (HO1'.out.lt r e).1)); clear hO hgr)
  clear c0 c1 c2 c3 c4 HO1 HB1 HQ1 HO1' HB1'
  have hz2' : w0.heap.size ≤ w2.heap.size := HB2.out.size
  obtain ⟨n2, hn2⟩ : ∃ n2, n2 = (D.fr2 ⟨gm, gs, ga, gp⟩).length := ⟨_, rfl⟩
  rw [← hn2] at HO2 ⊢
  obtain ⟨c0, c1, c2, c3, c4⟩ := hC.out w2 HB2.out
  have HFa : Hid (D.frA4 ⟨gm, gs, ga, gp⟩ = if decide (ga = ⟨#[]⟩) then [] else [((D.kAuthority, ga), false)]) := rfl
  clear hn2
  go_upto_if 23 with (fail)
  go_cut [4] from 23 to 29 (fun v wx => ∃ x3 n3 y3, v = .slice x3 n3 y3 ∧ Hid (QOwn (w.heap.size + 1) wx (.slice x3 n3 y3) (D.fr2 ⟨gm, gs, ga, gp⟩ ++ D.frA4 ⟨gm, gs, ga, gp⟩)) ∧ Hid (Below (w.heap.size + 1) w0 wx))
  case first =>
    cases hde : decide (ga = ⟨#[]⟩)
    · rw [hde] at hae had HFa
      clear hde
      have HO2' : Hid (QOwn (w.heap.size + 1) (w2.alloc (.cells #[.string ⟨#[58, 97, 117, 116, 104, 111, 114, 105, 116, 121]⟩, .string ga, .bool false] 54)) (.slice x2 n2 y2) (D.fr2 ⟨gm, gs, ga, gp⟩)) := HO2.out.below ((Below.refl _ _).alloc (Nat.le_refl _) _)
      have HB2' : Hid (Below (w.heap.size + 1) w0 (w2.alloc (.cells #[.string ⟨#[58, 97, 117, 116, 104, 111, 114, 105, 116, 121]⟩, .string ga, .bool false] 54))) := HB2.out.alloc (by omega) _
      go_wp2_with (at_builtin; refine wpList_appQ2 _ rfl _ _ rfl rfl (w.heap.size + 1) _ (D.fr2 ⟨gm, gs, ga, gp⟩) rfl HO2'.out (some ⟨w2.heap.size, 0, none⟩) 1 1 [((D.kAuthority, ga), false)] rfl rfl (QRd.one _ _ _ _) (by show 2 + 1 ≤ 2097152; omega) (by simp; omega) ?_; intro v3 w3 hO hgr; obtain ⟨x3, y3, rfl⟩ := hO.form; have HO3 := Lib.hid hO; have HB3 := Lib.hid (HB2'.out.grown hgr (by simp; omega) (fun r e => (HO2'.out.lt r e).1)); clear hO hgr)
      go_meet
      exact ⟨x3, _, y3, rfl, by rw [HFa.out]; exact HO3.out, HB3⟩
    · rw [hde] at hae had HFa
      clear hde
      go_wp2
      go_meet
      exact ⟨x2, n2, y2, rfl, by rw [HFa.out]; show QOwn _ _ _ (_ ++ []); rw [List.append_nil]; exact HO2.out, HB2⟩
  case rest =>
    obtain ⟨x3, n3, y3, rfl, HO3, HB3⟩ := hcut
    clear c0 c1 c2 c3 c4 HO2 HB2 HFa hae had
    obtain ⟨c0, c1, c2, c3, c4⟩ := hC.out wc HB3.out
    have hzc : w0.heap.size ≤ wc.heap.size := HB3.out.size
    have HO3' : Hid (QOwn (w.heap.size + 1) (wc.alloc (.cells #[.string ⟨#[58, 112, 97, 116, 104]⟩, .string gp, .bool false] 54)) (.slice x3 n3 y3) (D.fr2 ⟨gm, gs, ga, gp⟩ ++ D.frA4 ⟨gm, gs, ga, gp⟩)) := HO3.out.below ((Below.refl _ _).alloc (Nat.le_refl _) _)
    have HB3' : Hid (Below (w.heap.size + 1) w0 (wc.alloc (.cells #[.string ⟨#[58, 112, 97, 116, 104]⟩, .string gp, .bool false] 54))) := HB3.out.alloc (by omega) _
    have hl34 : (D.fr2 ⟨gm, gs, ga, gp⟩ ++ D.frA4 ⟨gm, gs, ga, gp⟩).length ≤ 3 := by
      unfold D.fr2 D.frA4
      cases decide (ga = ⟨#[]⟩) <;> simp
    have HF4 : Hid (D.fr2 ⟨gm, gs, ga, gp⟩ ++ D.frA4 ⟨gm, gs, ga, gp⟩ ++ [((D.kPath, gp), false)] = D.fr4 ⟨gm, gs, ga, gp⟩) := rfl
    go_upto_region 6 with (at_builtin; refine wpList_appQ2 _ rfl _ _ rfl rfl (w.heap.size + 1) _ (D.fr2 ⟨gm, gs, ga, gp⟩ ++ D.frA4 ⟨gm, gs, ga, gp⟩) rfl HO3'.out (some ⟨wc.heap.size, 0, none⟩) 1 1 [((D.kPath, gp), false)] rfl rfl (QRd.one _ _ _ _) (by omega) (by simp; omega) ?_; intro v4 w4 hO hgr; rw [HF4.out] at hO; obtain ⟨x4, y4, rfl⟩ := hO.form; have HO4 := Lib.hid hO; have HB4 := Lib.hid (HB3'.out.grown hgr (by simp; omega) (fun r e => (HO3'.out.lt r e).1)); clear hO hgr)
    have hl4 : (D.fr4 ⟨gm, gs, ga, gp⟩).length ≤ 4 := by
      rw [← HF4.out, List.length_append]
      simp only [List.length_cons, List.length_nil]
      omega
    have hs4 : QSz 1048576 (D.fr4 ⟨gm, gs, ga, gp⟩) := fun x hx => by
      unfold D.fr4 D.fr2 D.frA4 at hx
      rw [List.mem_append, List.mem_append] at hx
      rcases hx with (hx | hx) | hx
      · rcases List.mem_cons.1 hx with rfl | hx
        · exact ⟨by show D.kMethod.size ≤ 1048576; decide, z1⟩
        · rcases List.mem_cons.1 hx with rfl | hx
          · exact ⟨by show D.kScheme.size ≤ 1048576; decide, z2⟩
          · cases hx
      · split at hx
        · cases hx
        · rcases List.mem_cons.1 hx with rfl | hx
          · exact ⟨by show D.kAuthority.size ≤ 1048576; decide, z3⟩
          · cases hx
      · rcases List.mem_cons.1 hx with rfl | hx
        · exact ⟨by show D.kPath.size ≤ 1048576; decide, z4⟩
        · cases hx
    have HBl : Hid (D.bld ⟨gm, gs, ga, gp⟩ l = if D.okR (D.fr4 ⟨gm, gs, ga, gp⟩) then (if l.all D.plainH then some (D.fr4 ⟨gm, gs, ga, gp⟩ ++ l) else none) else none) := rfl
    obtain ⟨L4, hL4⟩ : ∃ L4, L4 = D.fr4 ⟨gm, gs, ga, gp⟩ := ⟨_, rfl⟩
    rw [← hL4] at HO4 hl4 hs4 HBl ⊢
    clear hL4 HF4 hl34 HO3 HB3 HO3' HB3' c0 c1 c2 c3 c4
    obtain ⟨q1, q2, q3⟩ := HO4.out.rdB'
    have hz4 : w0.heap.size ≤ w4.heap.size := HB4.out.size
    have HOp := Lib.hid ((Open_any x4 L4.length y4 L4 p w4 rfl (by omega) q2 q3 (Nat.le_refl _) hs4 (HE0.out.belowB HB4.out (by omega))).mono fun _ _ ho => ho.form)
    clear q1 q2 q3
    obtain ⟨n4, hn4⟩ : ∃ n4, n4 = L4.length := ⟨_, rfl⟩
    rw [← hn4] at HOp HO4 hl4 ⊢
    have Hn4 := Lib.hid hn4
    clear hn4
    rw [show (D.opn L4).isSome = D.okR L4 from rfl] at HOp
    have hqn := run_neN p
    have hgd := run_gdN p
    go_wp2_with fail
    refine HOp.out.mono ?_
    rintro e w5 ⟨m5, s5, a5, q5, x5, n5, y5, rfl, hb⟩
    have hba : Below w4.heap.size w4 (w5.alloc (.cells #[.string m5, .string s5, .string a5, .string q5, .slice x5 n5 y5] 27)) := hb.alloc hb.size _
    have HB5 := Lib.hid (HB4.out.trans (hba.mono (by omega)))
    have HO5 := Lib.hid (HO4.out.below hba)
    have hz5 := hba.size
    clear hb hba HOp HO4
    cases hok : D.okR L4
    · rw [hok] at HBl
      clear hok
      go_wp2
      go_ret2
      rw [HBl.out]
      exact ⟨.slice none 0 0, by simp [ehV], QOwn.nil _ _, HB0.out.trans (HB5.out.mono (by omega))⟩
    · rw [hok] at HBl
      clear hok
      obtain ⟨c0, c1, c2, c3, c4⟩ := hC.out _ HB5.out
      have HJ := Lib.hid (join_any (K := w.heap.size + 1) (.slice x4 n4 y4) L4 ra n c l p _ HO5.out HL.out (by omega) (by have := Hn4.out; omega) ((HQ0.out.belowB HB5.out (by omega)).mono (by omega)) (by omega) HS.out (HE0.out.belowB HB5.out (by omega)))
      go_wp2_with fail
      refine HJ.out.mono ?_
      rintro e w7 hj
      have HFin : Hid (JoinOut w.heap.size p (D.bld ⟨gm, gs, ga, gp⟩ l) w e w7) := by
        obtain ⟨v7, he, hO7, hb7⟩ := hj
        show JoinOut _ _ _ _ _ _
        rw [HBl.out]
        exact ⟨v7, he, hO7.mono (by omega), HB0.out.trans ((HB5.out.mono (by omega)).trans (hb7.mono (by omega)))⟩
      obtain ⟨v7, ev, rfl⟩ := hj.form
      go_wp2
      go_ret2
      exact HFin.out
end Go.Proofs.YtihlcecincijgaaDoor
