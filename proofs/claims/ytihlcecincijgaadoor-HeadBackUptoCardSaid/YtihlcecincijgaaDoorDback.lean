/-
HeadBack: what is built is opened as it was.
-/
import Derived.Test.YtihlcecincijgaaDoorDbuilda
import Derived.Deep.CutRange
namespace Go.Proofs.YtihlcecincijgaaDoor
open Go.RowKit

namespace D
theorem rest_front {rest : List HB} (h : rest.all plainH = true) : rest.takeWhile colon = [] ∧ rest.dropWhile colon = rest := by
  cases rest with
  | nil => exact ⟨rfl, rfl⟩
  | cons x t =>
    rw [List.all_cons, Bool.and_eq_true] at h
    have hc := not_plain_colon h.1
    exact ⟨by rw [List.takeWhile_cons, if_neg (by rw [hc]; simp)], by rw [List.dropWhile_cons, if_neg (by rw [hc]; simp)]⟩
theorem front_app {F rest : List HB} (hF : F.all colon = true) (h : rest.all plainH = true) : front (F ++ rest) = F ∧ back (F ++ rest) = rest := by
  rw [List.all_eq_true] at hF
  obtain ⟨h1, h2⟩ := rest_front h
  unfold front back
  exact ⟨by rw [List.takeWhile_append_of_pos hF, h1, List.append_nil], by rw [List.dropWhile_append_of_pos hF, h2]⟩
theorem fr4_colon (g : Rq) : (fr4 g).all colon = true := by
  unfold fr4 fr2 frA4
  cases decide (g.a = ⟨#[]⟩) <;> rfl
theorem fr4_rq (g : Rq) : rqP (fr4 g) = g := by
  obtain ⟨gm, gs, ga, gp⟩ := g
  unfold fr4 fr2 frA4
  cases h : decide (ga = ⟨#[]⟩)
  · rfl
  · have e := of_decide_eq_true h
    subst e
    rfl
theorem bld_opn {g : Rq} {rest L : List HB} (h : bld g rest = some L) : opn L = some (g, rest) ∧ L = fr4 g ++ rest := by
  unfold bld at h
  cases h1 : okR (fr4 g)
  · rw [h1] at h; cases h
  · rw [h1] at h
    cases h2 : rest.all plainH
    · rw [h2] at h; cases h
    · rw [h2] at h
      have hL : L = fr4 g ++ rest := (Option.some.inj h).symm
      refine ⟨?_, hL⟩
      obtain ⟨e1, e2⟩ := front_app (fr4_colon g) h2
      obtain ⟨e3, e4⟩ := front_app (rest := []) (fr4_colon g) rfl
      rw [List.append_nil] at e3 e4
      unfold okR at h1
      rw [opn_front] at h1 ⊢
      rw [hL, e1, e2]
      rw [e3, e4] at h1
      have hc : good (fr4 g) = true ∧ ([] : List HB).all plainH = true ∧ has 0 (fr4 g) = true ∧ has 1 (fr4 g) = true ∧ has 3 (fr4 g) = true := by
        apply Classical.byContradiction
        intro hn
        rw [if_neg hn] at h1
        cases h1
      rw [if_pos ⟨hc.1, h2, hc.2.2⟩, fr4_rq]
theorem bldA_opn {n : Int} {rest L : List HB} (h : bldA n rest = some L) : (∃ k : Nat, n = k ∧ opnA L = some (k, rest)) ∧ L.length = rest.length + 1 ∧ L = frS n ++ rest := by
  unfold bldA at h
  cases h1 : okA (frS n)
  · rw [h1] at h; cases h
  · rw [h1] at h
    cases h2 : rest.all plainH
    · rw [h2] at h; cases h
    · rw [h2] at h
      have hL : L = frS n ++ rest := (Option.some.inj h).symm
      have hcol : (frS n).all colon = true := rfl
      obtain ⟨e1, e2⟩ := front_app hcol h2
      obtain ⟨e3, e4⟩ := front_app (rest := []) hcol rfl
      rw [List.append_nil] at e3 e4
      rw [okA_eq, e3, e4, Bool.and_eq_true] at h1
      have hst : stOk ⟨(Lib.itoa n).toArray⟩ = true := by
        have := h1.1
        unfold frA frS at this
        simp only [Bool.and_eq_true] at this
        exact this.2
      refine ⟨?_, by rw [hL]; simp [frS], hL⟩
      unfold stOk at hst
      cases hd : dec ⟨(Lib.itoa n).toArray⟩ 3 3 with
      | none => rw [hd] at hst; cases hst
      | some k =>
        refine ⟨k, dec_itoa n 3 3 k hd, ?_⟩
        rw [opnA_eq, hL, e1, e2, if_pos ⟨h1.1, h2⟩]
        show some ((dec ⟨(Lib.itoa n).toArray⟩ 3 3).getD 0, rest) = _
        rw [hd]; rfl
end D

theorem fr4_sz (gm gs ga gp : ByteArray) (z1 : gm.size ≤ 1048576) (z2 : gs.size ≤ 1048576) (z3 : ga.size ≤ 1048576) (z4 : gp.size ≤ 1048576) : QSz 1048576 (D.fr4 ⟨gm, gs, ga, gp⟩) := fun x hx => by
  unfold D.fr4 D.fr2 D.frA4 at hx
  rw [List.mem_append, List.mem_append] at hx
  rcases hx with (hx | hx) | hx
  · rcases List.mem_cons.1 hx with rfl | hx
    · exact ⟨by show D.kMethod.size ≤ 1048576; decide, z1⟩
    · rcases List.mem_cons.1 hx with rfl | hx
      · exact ⟨by show D.kScheme.size ≤ 1048576; decide, z2⟩
      · cases hx
  · split at hx
    · cases hx
    · rcases List.mem_cons.1 hx with rfl | hx
      · exact ⟨by show D.kAuthority.size ≤ 1048576; decide, z3⟩
      · cases hx
  · rcases List.mem_cons.1 hx with rfl | hx
    · exact ⟨by show D.kPath.size ≤ 1048576; decide, z4⟩
    · cases hx
theorem frS_sz (n : Int) (h0 : -9223372036854775808 ≤ n) (h1 : n ≤ 9223372036854775807) : QSz 1048576 (D.frS n) := fun x hx => by
  rcases List.mem_cons.1 hx with rfl | hx
  · exact ⟨by show D.kStatus.size ≤ 1048576; decide, by
      have h := Lib.itoa_length_le n h0 h1
      have e : (ByteArray.mk (Lib.itoa n).toArray).size = (Lib.itoa n).length := by rw [Lib.size_eq]
      show (ByteArray.mk (Lib.itoa n).toArray).size ≤ 1048576
      omega⟩
  · cases hx

theorem JoinOut.none {K : Nat} {p : Addr} {w w' : World} {e : Ending} (h : JoinOut K p none w e w') : ∃ va vc, e = .returned (.tuple #[.slice va 0 vc, ehV p false]) ∧ Below K w w' := by
  obtain ⟨v, he, ho, hb⟩ := h
  obtain ⟨va, vc, hv⟩ := ho.form
  rw [hv] at he
  exact ⟨va, vc, he, hb⟩
theorem JoinOut.some {K : Nat} {p : Addr} {L : List (B.HD × Bool)} {w w' : World} {e : Ending} (h : JoinOut K p (some L) w e w') : ∃ va vc, e = .returned (.tuple #[.slice va L.length vc, ehV p true]) ∧ QOwn K w' (.slice va L.length vc) L ∧ Below K w w' := by
  obtain ⟨v, he, ho, hb⟩ := h
  obtain ⟨va, vc, hv⟩ := ho.form
  rw [hv] at he
  have ho2 : QOwn K w' v L := ho
  rw [hv] at ho2
  exact ⟨va, vc, he, ho2, hb⟩

set_option maxRecDepth 100000 in
set_option maxHeartbeats 8000000 in
theorem headBack_law (p : Addr) (g : D.Rq) (ra : Option Addr) (rn rc : Nat) (lr : List (B.HD × Bool)) (st : Int) (sa : Option Addr) (sn sc : Nat) (ls : List (B.HD × Bool)) (w : World)
    (hlr : lr.length = rn) (hrr : QRdB w.heap.size w ra lr) (hsr : QSz 1048576 lr) (hls : ls.length = sn) (hrs : QRdB w.heap.size w sa ls) (hss : QSz 1048576 ls)
    (hg : g.m.size ≤ 1048576 ∧ g.s.size ≤ 1048576 ∧ g.a.size ≤ 1048576 ∧ g.p.size ≤ 1048576) (hE : EH w p) (hT : Tens w) (b0 : -9223372036854775808 ≤ st) (b1 : st ≤ 9223372036854775807) :
    Calls Tryd.prog 5 #[.agg #[.string g.m, .string g.s, .string g.a, .string g.p, .slice ra rn rc], .agg #[.int .i64 st, .slice sa sn sc]] w (TruePost w) := by
  obtain ⟨w0, hw0⟩ : ∃ w0, w0 = (w.alloc (.cells #[.string g.m, .string g.s, .string g.a, .string g.p, .slice ra rn rc] 32)).alloc (.cells #[.int .i64 st, .slice sa sn sc] 39) := ⟨_, rfl⟩
  have hb0 : Below w.heap.size w w0 := by rw [hw0]; exact ((Below.refl _ _).alloc (Nat.le_refl _) _).alloc (by simp) _
  have HX0 : Hid (BA 32 w0 w.heap.size #[.string g.m, .string g.s, .string g.a, .string g.p, .slice ra rn rc]) := by
    show _ = _
    rw [hw0, heap_alloc_old _ _ (by simp)]
    exact heap_alloc_new w _
  have HY0 : Hid (BA 39 w0 (w.heap.size + 1) #[.int .i64 st, .slice sa sn sc]) := by rw [hw0]; exact alloc_at2 _ (by simp)
  have hzw : w.heap.size + 2 ≤ w0.heap.size := by rw [hw0]; simp
  have Hw0 := Lib.hid hw0
  have HB0 := Lib.hid hb0
  have HE0 := Lib.hid (hE.below hb0)
  have HT0 := Lib.hid (hT.below hb0)
  have HR0 := Lib.hid (hrr.belowB hb0 (Nat.le_refl _))
  have HS0 := Lib.hid (hrs.belowB hb0 (Nat.le_refl _))
  have HLr := Lib.hid hlr
  have HLs := Lib.hid hls
  have HSr := Lib.hid hsr
  have HSs := Lib.hid hss
  have HG := Lib.hid hg
  have HF := Lib.hid (first_any p w0 HE0.out)
  obtain ⟨gm, gs, ga, gp⟩ := g
  simp only at HX0 HG hg
  obtain ⟨z1, z2, z3, z4⟩ := hg
  have hC : Hid (∀ ww, Below w0.heap.size w0 ww → ww.cell? ⟨w.heap.size, 0, none⟩ = some (.string gm) ∧ ww.cell? ⟨w.heap.size, 1, none⟩ = some (.string gs) ∧ ww.cell? ⟨w.heap.size, 2, none⟩ = some (.string ga) ∧ ww.cell? ⟨w.heap.size, 3, none⟩ = some (.string gp) ∧ ww.cell? ⟨w.heap.size, 4, none⟩ = some (.slice ra rn rc) ∧ ww.cell? ⟨w.heap.size + 1, 0, none⟩ = some (.int .i64 st) ∧ ww.cell? ⟨w.heap.size + 1, 1, none⟩ = some (.slice sa sn sc)) := fun ww h => by
    have hx := HX0.out.below h
    have hy := HY0.out.below h
    exact ⟨hx.cell rfl, hx.cell rfl, hx.cell rfl, hx.cell rfl, hx.cell rfl, hy.cell rfl, hy.cell rfl⟩
  clear hw0 hb0 hE hlr hls hsr hss hrr hrs hT
  go_enter Tryd.func5, Tryd.ntmps5
  go_wp2_with fail
  rw [← Hw0.out]
  refine HF.out.mono ?_
  rintro e w1 ⟨rfl, hb1⟩
  have HB1 := Lib.hid hb1
  have hz1 := hb1.size
  have HLt := Lib.hid (klight_any ra rn rc lr w1 HLr.out (HR0.out.belowB hb1 (by omega)) (by omega) (qsz_up HSr.out))
  obtain ⟨c0, c1, c2, c3, c4, c5, c6⟩ := hC.out w1 HB1.out
  clear hb1 HF
  go_wp2_with fail
  refine HLt.out.mono ?_
  rintro e w2 ⟨⟨lb, rfl, h60⟩, hb2⟩
  have HB2 := Lib.hid (HB1.out.trans (hb2.mono hz1))
  have hz2 := HB2.out.size
  clear hb2 HLt HB1 c0 c1 c2 c3 c4 c5 c6
  cases lb
  · go_wp2
    go_ret
    exact ⟨rfl, HB0.out.trans (HB2.out.mono (by omega))⟩
  have hn1 := h60 rfl
  clear h60
  have HLt := Lib.hid (klight_any sa sn sc ls w2 HLs.out (HS0.out.belowB HB2.out (by omega)) (by omega) (qsz_up HSs.out))
  obtain ⟨c0, c1, c2, c3, c4, c5, c6⟩ := hC.out w2 HB2.out
  go_wp2_with fail
  refine HLt.out.mono ?_
  rintro e w3 ⟨⟨lb, rfl, h60⟩, hb3⟩
  have HB3 := Lib.hid (HB2.out.trans (hb3.mono hz2))
  have hz3 := HB3.out.size
  clear hb3 HLt HB2 c0 c1 c2 c3 c4 c5 c6
  cases lb
  · go_wp2
    go_ret
    exact ⟨rfl, HB0.out.trans (HB3.out.mono (by omega))⟩
  have hn2 := h60 rfl
  clear h60
  obtain ⟨c0, c1, c2, c3, c4, c5, c6⟩ := hC.out w3 HB3.out
  by_cases hbig : 3000 < gm.size + gs.size
  · have q1 : (3000 : Int) < (gm.size : Int) + (gs.size : Int) := by omega
    go_wp2
    go_ret
    exact ⟨rfl, HB0.out.trans (HB3.out.mono (by omega))⟩
  have q1 : ¬ (3000 : Int) < (gm.size : Int) + (gs.size : Int) := by omega
  have q1d : decide ((3000 : Int) < (gm.size : Int) + (gs.size : Int)) = false := decide_eq_false q1
  by_cases hbig2 : 3000 < ga.size + gp.size
  · have q2 : (3000 : Int) < (ga.size : Int) + (gp.size : Int) := by omega
    go_wp2
    go_ret
    exact ⟨rfl, HB0.out.trans (HB3.out.mono (by omega))⟩
  have q2 : ¬ (3000 : Int) < (ga.size : Int) + (gp.size : Int) := by omega
  have q2d : decide ((3000 : Int) < (ga.size : Int) + (gp.size : Int)) = false := decide_eq_false q2
  have HBu := Lib.hid (Build_any ⟨gm, gs, ga, gp⟩ ra rn rc lr p w3 HLr.out (by omega) (HR0.out.belowB HB3.out (by omega)) (by omega) HSr.out (HE0.out.below HB3.out) ⟨z1, z2, z3, z4⟩)
  have hqe := run_eqN p
  have hqn := run_neN p
  have hgd := run_gdN p
  go_wp2_with fail
  refine HBu.out.mono ?_
  rintro e w4 ⟨v4, rfl, ho4, hb4⟩
  obtain ⟨va, vc, rfl⟩ := ho4.form
  have HO4 := Lib.hid ho4
  have HB4 := Lib.hid (HB3.out.trans (hb4.mono hz3))
  have hz4 := hb4.size
  clear HBu c0 c1 c2 c3 c4 c5 c6 ho4 hb4 q1 q1d q2 q2d
  obtain ⟨bb, hbb⟩ : ∃ bb, (D.bld ⟨gm, gs, ga, gp⟩ lr).isSome = bb := ⟨_, rfl⟩
  have Hbb := Lib.hid hbb
  rw [hbb]
  clear hbb
  obtain ⟨L, hL⟩ : ∃ L, (D.bld ⟨gm, gs, ga, gp⟩ lr).getD [] = L := ⟨_, rfl⟩
  have HL := Lib.hid hL
  rw [hL] at HO4 ⊢
  clear hL
  obtain ⟨nn, hnn⟩ : ∃ nn, L.length = nn := ⟨_, rfl⟩
  rw [hnn] at HO4 ⊢
  have Hnn := Lib.hid hnn
  clear hnn
  go_upto_if 68 with (fail)
  go_cut [8, 9, 10] from 68 to 112 (fun _ _ _ wx => Hid (Below w0.heap.size w0 wx))
  case first =>
    cases bb
    · go_wp2
      go_meet
      exact HB4.out
    · obtain ⟨ho1, ho2⟩ : D.opn L = some (⟨gm, gs, ga, gp⟩, lr) ∧ L = D.fr4 ⟨gm, gs, ga, gp⟩ ++ lr := by
        cases hb : D.bld ⟨gm, gs, ga, gp⟩ lr with
        | none => have := Hbb.out; rw [hb] at this; cases this
        | some L' => have := HL.out; rw [hb] at this; cases this; exact D.bld_opn hb
      have hLl : L.length = 3 + (if decide (ga = ⟨#[]⟩) then 0 else 1) + rn := by
        rw [ho2, List.length_append, HLr.out]
        unfold D.fr4 D.fr2 D.frA4
        cases decide (ga = ⟨#[]⟩) <;> simp
      have hLn : L.length ≤ 1048576 := by rw [hLl]; split <;> omega
      have hLs : QSz 1048576 L := fun x hx => by
        rw [ho2] at hx
        rcases List.mem_append.1 hx with h | h
        · exact fr4_sz gm gs ga gp z1 z2 z3 z4 x h
        · exact HSr.out x h
      rw [Hnn.out] at hLn hLl
      obtain ⟨_, _, e4, cap4, rd4⟩ := HO4.out.rdB
      rw [Hnn.out] at e4 cap4
      cases e4
      have HOp := Lib.hid (Open_any va nn vc L p w4 Hnn.out hLn cap4 rd4 (Nat.le_refl _) hLs (HE0.out.below HB4.out))
      rw [ho1] at HOp
      clear hLl hLn ho1 ho2 hLs rd4 cap4
      go_wp2_with fail
      refine HOp.out.mono ?_
      rintro e w5 ⟨v5, he, ho5, hb5⟩
      replace he : e = .returned (.tuple #[.agg #[.string gm, .string gs, .string ga, .string gp, v5], ehV p true]) := he
      replace ho5 : QOwn w4.heap.size w5 v5 lr := ho5
      subst he
      obtain ⟨v5a, v5c, rfl⟩ := ho5.form
      rw [HLr.out] at ho5 ⊢
      have HB6 : Hid (Below w0.heap.size w0 (w5.alloc (.cells #[.string gm, .string gs, .string ga, .string gp, .slice v5a rn v5c] 27))) := (HB4.out.trans (hb5.mono (by omega))).alloc (by have := hb5.size; omega) _
      have HO6 : Hid (QOwn w4.heap.size (w5.alloc (.cells #[.string gm, .string gs, .string ga, .string gp, .slice v5a rn v5c] 27)) (.slice v5a rn v5c) lr) := ho5.below ((Below.refl _ _).alloc (Nat.le_refl _) _)
      obtain ⟨c0, c1, c2, c3, c4, c5, c6⟩ := hC.out _ HB6.out
      obtain ⟨_, _, e6, cap6, rd6⟩ := HO6.out.rdB
      rw [HLr.out] at e6
      cases e6
      have HSa := Lib.hid (sameHeaders_eq v5a ra rn v5c rc lr _ HLr.out (by omega) rd6 ((HR0.out.belowB HB6.out (by omega)).mono (by have := HB6.out.size; omega)))
      have hX6 : BA 27 (w5.alloc (.cells #[.string gm, .string gs, .string ga, .string gp, .slice v5a rn v5c] 27)) w5.heap.size #[.string gm, .string gs, .string ga, .string gp, .slice v5a rn v5c] := heap_alloc_new w5 _
      have HX6 := Lib.hid hX6
      clear hX6
      clear ho5 hb5 rd6 cap6 HOp
      go_wp2_with fail
      refine HSa.out.mono ?_
      rintro e w7 ⟨rfl, hb7⟩
      have HB7 := Lib.hid (HB6.out.trans (hb7.mono HB6.out.size))
      have hX7 := HX6.out.below hb7
      have d0 := hX7.cell (i := 0) rfl
      have d1 := hX7.cell (i := 1) rfl
      have d2 := hX7.cell (i := 2) rfl
      have d3 := hX7.cell (i := 3) rfl
      clear hX7 HX6
      clear hb7 HSa HB6 HO6 c0 c1 c2 c3 c4 c5 c6
      obtain ⟨c0, c1, c2, c3, c4, c5, c6⟩ := hC.out _ HB7.out
      go_wp2
      go_meet
      exact HB7.out
  case rest =>
    have HB5 := hcut
    have hz5 := HB5.out.size
    clear HB4 hz4 HO4 HL Hbb
    have HBu := Lib.hid (BuildAnswer_any st sa sn sc ls p wc HLs.out (by omega) (HS0.out.belowB HB5.out (by omega)) (by omega) HSs.out (HE0.out.below HB5.out) (HT0.out.below HB5.out) b0 b1)
    obtain ⟨c0, c1, c2, c3, c4, c5, c6⟩ := hC.out _ HB5.out
    go_wp2_with fail
    refine HBu.out.mono ?_
    rintro e w6 ⟨v6, rfl, ho6, hb6⟩
    obtain ⟨ua, uc, rfl⟩ := ho6.form
    have HO6 := Lib.hid ho6
    have HB6 := Lib.hid (HB5.out.trans (hb6.mono hz5))
    have hz6 := hb6.size
    clear HBu c0 c1 c2 c3 c4 c5 c6 ho6 hb6
    have hqe := run_eqN p
    have hqn := run_neN p
    have hgd := run_gdN p
    cases hbb : D.bldA st ls with
    | none =>
      rw [hbb] at HO6
      have HEnd : Hid (Below w.heap.size w w6) := HB0.out.trans (HB6.out.mono (by omega))
      simp only [Option.isSome_none, Option.getD_none, List.length_nil]
      go_wp2
      go_ret
      exact ⟨rfl, HEnd.out⟩
    | some M =>
      rw [hbb] at HO6
      obtain ⟨⟨k, hk, hop⟩, hlen, hM⟩ := D.bldA_opn hbb
      replace HO6 : Hid (QOwn wc.heap.size w6 (.slice ua M.length uc) M) := HO6
      simp only [Option.isSome_some, Option.getD_some]
      have hMs : QSz 1048576 M := fun x hx => by
        rw [hM] at hx
        rcases List.mem_append.1 hx with h | h
        · exact frS_sz st b0 b1 x h
        · exact HSs.out x h
      obtain ⟨_, _, e4, cap4, rd4⟩ := HO6.out.rdB
      cases e4
      rw [HLs.out] at hlen
      have HOp := Lib.hid (OpenAnswer_any ua M.length uc M p w6 rfl (by omega) cap4 rd4 (Nat.le_refl _) hMs (HE0.out.below HB6.out))
      rw [hop] at HOp
      rw [hlen] at HOp ⊢
      clear hbb hop hM hMs cap4 rd4 hlen HO6
      go_wp2_with fail
      refine HOp.out.mono ?_
      rintro e w7 ⟨v7, he, ho7, hb7⟩
      replace he : e = .returned (.tuple #[.agg #[.int .i64 (k : Nat), v7], ehV p true]) := he
      replace ho7 : QOwn w6.heap.size w7 v7 ls := ho7
      subst he
      obtain ⟨v7a, v7c, rfl⟩ := ho7.form
      rw [HLs.out] at ho7 ⊢
      have HB8 : Hid (Below w0.heap.size w0 (w7.alloc (.cells #[.int .i64 (k : Nat), .slice v7a sn v7c] 36))) := (HB6.out.trans (hb7.mono (by omega))).alloc (by have := hb7.size; omega) _
      have HO8 : Hid (QOwn w6.heap.size (w7.alloc (.cells #[.int .i64 (k : Nat), .slice v7a sn v7c] 36)) (.slice v7a sn v7c) ls) := ho7.below ((Below.refl _ _).alloc (Nat.le_refl _) _)
      obtain ⟨c0, c1, c2, c3, c4, c5, c6⟩ := hC.out _ HB8.out
      obtain ⟨_, _, e8, cap8, rd8⟩ := HO8.out.rdB
      rw [HLs.out] at e8
      cases e8
      have HSa := Lib.hid (sameHeaders_eq v7a sa sn v7c sc ls _ HLs.out (by omega) rd8 ((HS0.out.belowB HB8.out (by omega)).mono (by have := HB8.out.size; omega)))
      have hX8 : BA 36 (w7.alloc (.cells #[.int .i64 (k : Nat), .slice v7a sn v7c] 36)) w7.heap.size #[.int .i64 (k : Nat), .slice v7a sn v7c] := heap_alloc_new w7 _
      have HX8 := Lib.hid hX8
      clear ho7 hb7 rd8 cap8 HOp hX8
      go_wp2_with fail
      refine HSa.out.mono ?_
      rintro e w9 ⟨rfl, hb9⟩
      have HB9 := Lib.hid (HB8.out.trans (hb9.mono HB8.out.size))
      have hX9 := HX8.out.below hb9
      have d0 := hX9.cell (i := 0) rfl
      clear hX9 HX8
      clear hb9 HSa HB8 HO8 c0 c1 c2 c3 c4 c5 c6
      obtain ⟨c0, c1, c2, c3, c4, c5, c6⟩ := hC.out _ HB9.out
      have HEnd : Hid (Below w.heap.size w w9) := HB0.out.trans (HB9.out.mono (by omega))
      subst hk
      go_wp2
      go_ret
      exact ⟨rfl, HEnd.out⟩
end Go.Proofs.YtihlcecincijgaaDoor
