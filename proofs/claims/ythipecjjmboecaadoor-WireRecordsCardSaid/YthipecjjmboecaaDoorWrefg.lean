/-
The walk of parleyref1.group, and with it of next and Next on all levels.
-/
import Derived.Test.YthipecjjmboecaaDoorWrefn
namespace Go.Proofs.YthipecjjmboecaaDoor
open Go.RowKit

theorem loop_next {lv f n at_ : Nat} {L : List Nat} {f2 k2 u : Nat} {bs : List Nat} {sz e2 : Nat} (hN : W.nextF lv (L.drop at_) = (f2, k2, u, bs, sz, e2))
    (hne : ¬ ((W.tg (L.drop at_)).2.2.2 = 0 ∧ (W.tg (L.drop at_)).2.1 = 4 ∧ (W.tg (L.drop at_)).1 = f)) :
    W.loopF (W.bodyF lv) f L (n + 1) at_ = if e2 ≠ 0 then (0, [], 0, e2) else W.loopF (W.bodyF lv) f L n (at_ + sz) := by
  obtain ⟨f', kd, s, e, hx⟩ : ∃ f k s e, W.tg (L.drop at_) = (f, k, s, e) := ⟨_, _, _, _, rfl⟩
  obtain ⟨u', bs', z, e3, hb⟩ : ∃ u bs z e, W.bodyF lv kd ((L.drop at_).drop s) f' = (u, bs, z, e) := ⟨_, _, _, _, rfl⟩
  rw [hx] at hne
  simp only at hne
  rw [W.nextF_step lv _ f' kd s e u' bs' z e3 hx (fun _ => hb)] at hN
  rw [W.loopF_step (W.bodyF lv) f L n at_ f' kd s e hx]
  rw [List.drop_drop] at hb
  by_cases he : e = 0
  · subst he
    rw [if_neg (by omega)] at hN
    rw [if_neg (by omega), if_neg (fun h => hne ⟨rfl, h⟩), hb]
    simp only
    by_cases he3 : e3 = 0
    · subst he3
      rw [if_neg (by omega)] at hN
      cases hN
      rfl
    · rw [if_pos he3] at hN
      cases hN
      rw [if_pos he3, if_pos he3]
  · rw [if_pos he] at hN
    cases hN
    rw [if_pos he, if_pos he]

/-- A group's answer, as the reference gives it. -/
def refG (f start : Nat) (r : Nat × List Nat × Nat × Nat) : Nat × Nat × Nat × List Nat × Nat × Nat :=
  if r.2.2.2 = 0 then (f, 3, 0, r.2.1, start + r.2.2.1, 0) else (0, 0, 0, [], 0, r.2.2.2)

theorem refGroup_zero : RefGroupOK 0 := by
  intro B a len cap l f at_ d w hlen hn hcap hBw hr hat hd
  subst hd
  have b1 : Hid (Below w.heap.size w ((w.alloc (.cells #[.int .i64 f, .int .i64 3, .int .u64 0, .slice none 0 0] 30)).alloc (.cells #[.int .i64 0, .int .i64 0, .int .u64 0, .slice none 0 0] 30))) := ((Below.refl _ _).alloc (Nat.le_refl _) _).alloc (by simp) _
  go_enter Tryd.func74, Tryd.ntmps74
  go_wp2
  refine bodyPost_ret (v := .tuple #[.agg #[.int .i64 0, .int .i64 0, .int .u64 0, .slice none 0 0], .int .i64 0, .int .i64 105]) (by simp [results, Tryd.results74, go_sem]) rfl ?_
  exact ref_none _ rfl b1.out

set_option maxRecDepth 100000 in
set_option maxHeartbeats 4000000 in
theorem refGroup_succ {lv : Nat} (hlv : lv < 32) (hG : RefGroupOK lv) : RefGroupOK (lv + 1) := by
  intro B a len cap l f at0 d w hlen hn hcap hBw hr hat0 hd
  show Calls _ _ _ _ (RefOut (refG f at0 (W.loopF (W.bodyF lv) f (l.drop at0) ((l.drop at0).length + 1) 0)) w)
  have HNX : Hid (∀ (a2 : Option Addr) (len2 cap2 : Nat) (l2 : List Nat) (w2 : World), l2.length = len2 → len2 ≤ 140737488355328 → len2 ≤ cap2 → B ≤ w2.heap.size → Rd B w2 a2 l2 → Calls Tryd.prog 47 #[.slice a2 len2 cap2, .int .i64 (d + 1)] w2 (RefOut (W.nextF lv l2) w2)) :=
    fun a2 len2 cap2 l2 w2 h1 h2 h3 h4 h5 => refNext_of hG a2 len2 cap2 l2 (d + 1) w2 h1 h2 h3 h4 h5 (by omega)
  have Hr := Lib.hid hr
  have Hl := Lib.hid hlen
  have hd1 : d < 32 := by omega
  have hd0 : 0 ≤ d := by omega
  obtain ⟨L, hL⟩ : ∃ L, l.drop at0 = L := ⟨_, rfl⟩
  have HLL := Lib.hid hL
  rw [hL]
  have hLn : L.length = len - at0 := by rw [← hL, List.length_drop, hlen]
  have HLn := Lib.hid hLn
  clear hG hr hlen hd hL hLn
  have b1 : Hid (Below w.heap.size w ((w.alloc (.cells #[.int .i64 f, .int .i64 3, .int .u64 0, .slice none 0 0] 30)).alloc (.cells #[.int .i64 0, .int .i64 0, .int .u64 0, .slice none 0 0] 30))) := ((Below.refl _ _).alloc (Nat.le_refl _) _).alloc (by simp) _
  go_enter Tryd.func74, Tryd.ntmps74
  go_wp2
  go_loopw [2] (fun x wr => ∃ p n : Nat, at0 ≤ p ∧ p ≤ len ∧ x = .int .i64 p ∧ len + 1 ≤ n + p ∧ Hid (W.loopF (W.bodyF lv) f L (L.length + 1) 0 = W.loopF (W.bodyF lv) f L n (p - at0)) ∧
      Hid (Below ((w.alloc (.cells #[.int .i64 f, .int .i64 3, .int .u64 0, .slice none 0 0] 30)).alloc (.cells #[.int .i64 0, .int .i64 0, .int .u64 0, .slice none 0 0] 30)).heap.size ((w.alloc (.cells #[.int .i64 f, .int .i64 3, .int .u64 0, .slice none 0 0] 30)).alloc (.cells #[.int .i64 0, .int .i64 0, .int .u64 0, .slice none 0 0] 30)) wr)) (fun x _ => len - (intOf x).toNat)
  case atStart => exact ⟨at0, len - at0 + 1, Nat.le_refl _, hat0, rfl, by omega, by show _ = _; rw [HLn.out, Nat.sub_self], Below.refl _ _⟩
  case round =>
    obtain ⟨p, n, hp0, hp, rfl, hnp, HS, HBr⟩ := hrel
    obtain ⟨n, rfl⟩ : ∃ m, n = m + 1 := ⟨n - 1, by omega⟩
    have hc1 := cells4 HBr.out
    simp only [World.size_alloc] at hc1
    obtain ⟨⟨d0, d1, d2, d3⟩, ⟨e0, e1, e2, e3⟩, hs1⟩ := hc1
    obtain ⟨⟨c0, c1, c2, c3⟩, ⟨f0, f1, f2, f3⟩, hs0⟩ := cells4 (below_over HBr.out)
    have HBw := Lib.hid (below_over (below_over HBr.out))
    have hrf := run_from a len cap p hp
    have HM : Hid (L.drop (p - at0) = l.drop p) := by
      show _ = _
      rw [← HLL.out, List.drop_drop]; congr 1; omega
    have HR : Hid (Rd B wr (cutA a cap p) (l.drop p)) := (Hr.out.below HBw.out).drop (by rw [Hl.out]; exact hcap)
    have HMl : Hid ((l.drop p).length = len - p) := by show _ = _; rw [List.length_drop, Hl.out]
    obtain ⟨q, j, k, hx⟩ : ∃ q j k, W.uvA (l.drop p) = (q, j, k) := ⟨_, _, _, rfl⟩
    have hq := W.uvA_lt (l.drop p)
    have hj := fun h => W.uvA_ok (l := l.drop p) h
    rw [hx] at hq hj
    rw [HMl.out] at hj
    simp only at hq hj
    have K1 : Hid (∀ (w : World), Rd B w (cutA a cap p) (l.drop p) → Calls Tryd.prog 70 #[.slice (cutA a cap p) (len - p) (cap - p)] w fun e w' => e = .returned (.tuple #[.int .u64 (q : Nat), .int .i64 (j : Nat), .int .i64 (cd k)]) ∧ w = w') := fun w g => by
      have := refUv_any (cutA a cap p) (cap - p) (l.drop p) w (by rw [HMl.out]; omega) g
      rw [hx, HMl.out] at this
      exact this
    have HX := Lib.hid hx
    clear hx
    cases k with
    | succ k =>
      have hN : Hid (W.loopF (W.bodyF lv) f L (L.length + 1) 0 = (0, [], 0, k + 1)) := by
        show _ = _
        rw [HS.out, W.loopF_step (W.bodyF lv) f L n (p - at0) 0 0 0 (k + 1) (by rw [HM.out]; exact tg_e1 HX.out), if_pos (by omega)]
      have hc : (cd (k + 1) != 0) = true := by simpa using cd_succ k
      clear hj HS HNX
      go_wp2_with fail
      refine (K1.out _ HR.out).mono ?_
      rintro e w1 ⟨rfl, rfl⟩
      go_wp2
      refine bodyPost_ret (v := .tuple #[.agg #[.int .i64 0, .int .i64 0, .int .u64 0, .slice none 0 0], .int .i64 0, .int .i64 (cd (k + 1))]) (by simp [results, Tryd.results74, go_sem, d0, d1, d2, d3]) rfl ?_
      rw [hN.out]
      refine ref_none _ rfl ?_
      have hov := HBw.out
      repeat (first | with_reducible exact hov | with_reducible refine Below.setCell ?_ (by first | omega | (simp; done) | (simp; omega)) _)
    | zero =>
      obtain ⟨hj1, hj2⟩ := hj rfl
      clear hj
      obtain ⟨f', kd, k2, hx2⟩ : ∃ f kd k2, W.untag q = (f, kd, k2) := ⟨_, _, _, rfl⟩
      have K2 : Hid (∀ (w : World), Calls Tryd.prog 71 #[.int .u64 q] w fun e w' => e = .returned (.tuple #[.int .i64 (f' : Nat), .int .i64 (kd : Nat), .int .i64 (cd k2)]) ∧ w = w') := fun w => by
        have := refUntag_all q w hq
        rw [hx2] at this
        exact this
      have HX2 := Lib.hid hx2
      clear hx2 hq
      by_cases hend : k2 = 0 ∧ kd = 4 ∧ f' = f
      · obtain ⟨rfl, rfl, rfl⟩ := hend
        have ht := tg_good HX.out HX2.out
        have hN : Hid (W.loopF (W.bodyF lv) f' L (L.length + 1) 0 = (0, L.take (p - at0), p - at0 + j, 0)) := by
          show _ = _
          rw [HS.out, W.loopF_step (W.bodyF lv) f' L n (p - at0) f' 4 j 0 (by rw [HM.out]; exact ht), if_neg (by omega), if_pos ⟨rfl, rfl⟩]
        have hrm := run_mid a len cap at0 (p - at0) at0 p (by omega) (by omega) (by omega)
        have HR2 : Hid (Rd B wr (cutA a cap at0) (L.take (p - at0))) := by
          have := ((Hr.out.below HBw.out).drop (cap := cap) (lo := at0) (by rw [Hl.out]; exact hcap)).take (p - at0)
          rw [HLL.out] at this
          exact this
        have HL2 : Hid ((L.take (p - at0)).length = p - at0) := by
          show _ = _
          rw [List.length_take, HLn.out]; omega
        clear HS HNX ht HX HX2 HM
        generalize L.take (p - at0) = bs at *
        generalize cutA a cap p = a2 at *
        generalize cutA a cap at0 = a3 at *
        go_wp2_with fail
        refine (show Calls _ _ _ _ fun e w' => e = .returned (.tuple #[.int .u64 (q : Nat), .int .i64 (j : Nat), .int .i64 0]) ∧ _ = w' from K1.out _ HR.out).mono ?_
        rintro e w1 ⟨rfl, rfl⟩
        go_wp2_with fail
        refine (show Calls _ _ _ _ fun e w' => e = .returned (.tuple #[.int .i64 (f' : Nat), .int .i64 4, .int .i64 0]) ∧ _ = w' from K2.out _).mono ?_
        rintro e w1 ⟨rfl, rfl⟩
        go_wp2_with fail
        refine (bytes_any a3 (p - at0) (cap - at0) bs _ HL2.out HR2.out (by omega)).mono ?_
        rintro e w2 ⟨v, rfl, hv, hb2⟩
        obtain ⟨g, cp, rfl⟩ := hv.2
        clear d0 d1 d2 d3 e0 e1 e2 e3 c0 c1 c2 c3 f0 f1 f2 f3
        have hb3 := HBr.out.trans (hb2.mono HBr.out.size)
        have hc1 := cells4 hb3
        simp only [World.size_alloc] at hc1
        obtain ⟨⟨d0, d1, d2, d3⟩, ⟨e0, e1, e2, e3⟩, hs2⟩ := hc1
        obtain ⟨⟨c0, c1, c2, c3⟩, ⟨f0, f1, f2, f3⟩, hs3⟩ := cells4 (below_over hb3)
        have HB3 := Lib.hid (below_over (below_over hb3))
        have HV := Lib.hid hv
        clear hb2 hb3 hv
        go_wp2
        refine bodyPost_ret (v := .tuple #[.agg #[.int .i64 f', .int .i64 3, .int .u64 0, .slice (some ⟨g, 0, none⟩) bs.length cp], .int .i64 ((at0 + (p - at0 + j) : Nat) : Int), .int .i64 0]) (by simp [results, Tryd.results74, go_sem, d0, d1, d2, d3]; omega) rfl ?_
        rw [hN.out]
        refine ⟨_, rfl, Or.inr ?_, ?_⟩
        · show Own _ _ _ bs
          have hown := HV.out
          refine Own.mono (B := wr.heap.size) ?_ (by omega)
          repeat (first | with_reducible exact hown | with_reducible refine Own.set ?_ (by first | omega | (simp; done) | (simp; omega)) _)
        · have hov := HB3.out
          repeat (first | with_reducible exact hov | with_reducible refine Below.setCell ?_ (by first | omega | (simp; done) | (simp; omega)) _)
      · obtain ⟨fa, kd2, u2, bs, sz, e9, hNx⟩ : ∃ a b c d e g, W.nextF lv (l.drop p) = (a, b, c, d, e, g) := ⟨_, _, _, _, _, _, rfl⟩
        have hN0 : W.nextF lv (L.drop (p - at0)) = (fa, kd2, u2, bs, sz, e9) := by rw [HM.out]; exact hNx
        have hst := loop_next (lv := lv) (f := f) (n := n) (at_ := p - at0) (L := L) hN0 (by
          rintro ⟨h1, h2, h3⟩
          rw [HM.out] at h1 h2 h3
          cases k2 with
          | succ k => rw [tg_e2 HX.out HX2.out] at h1; exact absurd h1 (by simp)
          | zero => rw [tg_good HX.out HX2.out] at h2 h3; exact hend ⟨rfl, h2, h3⟩)
        rw [← HS.out] at hst
        have HST := Lib.hid hst
        have hsz : e9 = 0 → 0 < sz ∧ sz ≤ len - p := fun h => by
          have := W.nextF_ok (lv := lv) (l := l.drop p) (by rw [hNx]; exact h)
          rw [hNx, HMl.out] at this; exact this
        have HSZ := Lib.hid hsz
        have KN := HNX.out (cutA a cap p) (len - p) (cap - p) (l.drop p) wr HMl.out (by omega) (by omega) (by omega) HR.out
        rw [hNx] at KN
        have KN := Lib.hid KN
        have hmem := W.nextF_mem lv (l.drop p)
        rw [hNx] at hmem
        clear hst hsz hNx hN0 HS HX HX2 HM hmem
        generalize cutA a cap p = a2 at *
        have key : (cd k2 == 0) = false ∨ ((cd k2 == 0) = true ∧ ((kd : Int) == 4) = false) ∨ ((cd k2 == 0) = true ∧ ((kd : Int) == 4) = true ∧ ((f' : Int) == (f : Int)) = false) := by
          cases k2 with
          | succ k => exact Or.inl (by simpa using cd_succ k)
          | zero =>
            refine Or.inr ?_
            by_cases h4 : kd = 4
            · refine Or.inr ⟨rfl, by simp; omega, ?_⟩
              have : f' ≠ f := fun h => hend ⟨rfl, h4, h⟩
              simp; omega
            · exact Or.inl ⟨rfl, by simp; omega⟩
        generalize cd k2 = C at K2 key
        clear hend
        rcases key with hA | ⟨hA, hB⟩ | ⟨hA, hB, hC⟩
        all_goals
          go_wp2_with fail
          refine (show Calls _ _ _ _ fun e w' => e = .returned (.tuple #[.int .u64 (q : Nat), .int .i64 (j : Nat), .int .i64 0]) ∧ _ = w' from K1.out _ HR.out).mono ?_
          rintro e w1 ⟨rfl, rfl⟩
          go_wp2_with fail
          refine (K2.out _).mono ?_
          rintro e w1 ⟨rfl, rfl⟩
          go_wp2_with fail
          refine KN.out.mono ?_
          rintro e w2 ⟨v, rfl, hv, hb2⟩
          obtain ⟨a', cap', rfl⟩ := hv.sl
          clear d0 d1 d2 d3 e0 e1 e2 e3 c0 c1 c2 c3 f0 f1 f2 f3 hv KN K1 K2 HR
          simp only
          have hb3 := HBr.out.trans (hb2.mono HBr.out.size)
          have hc1 := cells4 hb3
          simp only [World.size_alloc] at hc1
          obtain ⟨⟨d0, d1, d2, d3⟩, ⟨e0, e1, e2, e3⟩, hs2⟩ := hc1
          obtain ⟨⟨c0, c1, c2, c3⟩, ⟨f0, f1, f2, f3⟩, hs3⟩ := cells4 (below_over hb3)
          have HB3 := Lib.hid hb3
          clear hb2 hb3 hA
          cases e9 with
          | succ e9 =>
            have hne : (cd (e9 + 1) != 0) = true := by simpa using cd_succ e9
            go_wp2
            refine bodyPost_ret (v := .tuple #[.agg #[.int .i64 0, .int .i64 0, .int .u64 0, .slice none 0 0], .int .i64 0, .int .i64 (cd (e9 + 1))]) (by simp [results, Tryd.results74, go_sem, d0, d1, d2, d3, hs2]) rfl ?_
            rw [HST.out, if_pos (by omega)]
            refine ref_none _ rfl ?_
            have hov := below_over (below_over HB3.out)
            repeat (first | with_reducible exact hov | with_reducible refine Below.setCell ?_ (by first | omega | (simp; done) | (simp; omega)) _ | with_reducible refine Below.alloc ?_ (by first | omega | (simp; done) | (simp; omega)) _)
          | zero =>
            obtain ⟨hz1, hz2⟩ := HSZ.out rfl
            have hcd0 : cd 0 = 0 := rfl
            have hsum : p + sz ≤ len := by omega
            go_wp2
            go_roundw
            case rel =>
              refine ⟨p + sz, n, by omega, hsum, by push_cast; rfl, by omega, ?_, ?_⟩
              · show _ = _
                rw [HST.out, if_neg (by omega)]
                congr 1; omega
              · show Below _ _ _
                have hov := HB3.out
                repeat (first | with_reducible exact hov | with_reducible refine Below.setCell ?_ (by first | omega | (simp; done) | (simp; omega)) _ | with_reducible refine Below.alloc ?_ (by first | omega | (simp; done) | (simp; omega)) _)
            case measure => simp [intOf]; omega

theorem refGroup_all : ∀ lv, lv ≤ 32 → RefGroupOK lv
  | 0, _ => refGroup_zero
  | lv + 1, h => refGroup_succ (by omega) (refGroup_all lv (by omega))
end Go.Proofs.YthipecjjmboecaaDoor
