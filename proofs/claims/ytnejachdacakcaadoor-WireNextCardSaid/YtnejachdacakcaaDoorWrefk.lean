/-
The walks of parleyref1.Next, deep and Check.
-/
import Derived.Test.YtnejachdacakcaaDoorWrefg
namespace Go.Proofs.YtnejachdacakcaaDoor
open Go.RowKit

theorem refNext_all {B : Nat} (a : Option Addr) (len cap : Nat) (l : List Nat) (w : World) (hlen : l.length = len) (hn : len ≤ 140737488355328) (hcap : len ≤ cap) (hBw : B ≤ w.heap.size) (hr : Rd B w a l) :
    Calls Tryd.prog 11 #[.slice a len cap] w (RefOut (W.nextF 32 l) w) := by
  have HN := Lib.hid (refNext_of (refGroup_all 32 (by omega)) a len cap l 0 (w.alloc (.cells #[.int .i64 0, .int .i64 0, .int .u64 0, .slice none 0 0] 32)) hlen hn hcap (by simp; omega) (hr.below ((Below.refl _ _).alloc (Nat.le_refl _) _)) (by simp))
  obtain ⟨f, k, u, bs, sz, e, hx⟩ : ∃ f k u bs sz e, W.nextF 32 l = (f, k, u, bs, sz, e) := ⟨_, _, _, _, _, _, rfl⟩
  rw [hx] at HN ⊢
  clear hx hr hlen
  go_enter Tryd.func11, Tryd.ntmps11
  go_wp2_with fail
  refine HN.out.mono ?_
  rintro e' w2 ⟨v, rfl, hv, hb2⟩
  obtain ⟨a', cap', rfl⟩ := hv.sl
  obtain ⟨⟨c0, c1, c2, c3⟩, ⟨f0, f1, f2, f3⟩, hs2⟩ := cells4 hb2
  have HB2 := Lib.hid (below_over hb2)
  have HV : Hid (Bs (w.heap.size + 1) w2 (.slice a' bs.length cap') bs) := by have := hv; simp only [World.size_alloc] at this; exact this
  clear hv hb2 HN
  simp only
  go_wp2
  refine bodyPost_ret (v := .tuple #[.agg #[.int .i64 f, .int .i64 k, .int .u64 u, .slice a' bs.length cap'], .int .i64 sz, .int .i64 (cd e)]) (by simp [results, Tryd.results11, go_sem, c0, c1, c2, c3]) rfl ?_
  refine ⟨_, rfl, Bs.mono (B := w.heap.size + 1) ?_ (by omega), ?_⟩
  · show Bs _ _ _ bs
    have hown := HV.out
    repeat (first | with_reducible exact hown | with_reducible refine Bs.set ?_ (by first | omega | (simp; done) | (simp; omega)) _)
  · have hov := HB2.out
    repeat (first | with_reducible exact hov | with_reducible refine Below.setCell ?_ (by first | omega | (simp; done) | (simp; omega)) _)

/-- A number, and old memory is as it was. -/
def IntOut (n : Nat) (w : World) (e : Ending) (w' : World) : Prop := e = .returned (.int .i64 (n : Nat)) ∧ Below w.heap.size w w'

/-- deep, of records that lv levels suffice for. -/
def DeepOK (lv : Nat) : Prop :=
  ∀ (B : Nat) (a : Option Addr) (len cap : Nat) (l : List Nat) (w : World), l.length = len → len ≤ 140737488355328 → len ≤ cap → B ≤ w.heap.size → Rd B w a l → (W.chk lv l).2 = 0 →
    Calls Tryd.prog 45 #[.slice a len cap] w (IntOut (W.dp (lv + 1) l) w)

set_option maxRecDepth 100000 in
set_option maxHeartbeats 4000000 in
theorem deep_step (lv : Nat) (hlv : lv ≤ 32) (hD : ∀ lv', lv = lv' + 1 → DeepOK lv') : DeepOK lv := by
  intro B a len cap l w hlen hn hcap hBw hr hc
  have Hr := Lib.hid hr
  have Hl := Lib.hid hlen
  have HD := Lib.hid hD
  have HC := Lib.hid hc
  clear hr hlen hD hc
  go_enter Tryd.func45, Tryd.ntmps45
  go_wp2
  go_loopw [3, 4] (fun y x wr => ∃ p n m : Nat, p ≤ len ∧ x = .int .i64 p ∧ y = .int .i64 m ∧ m ≤ 33 ∧ len + 1 ≤ n + p ∧ Hid ((W.faultF lv l n p).2 = 0) ∧ Hid (W.dp (lv + 1) l = W.dpF (W.dp lv) l n p m) ∧ Hid (Below w.heap.size w wr)) (fun _ x _ => len - (intOf x).toNat)
  case atStart => exact ⟨0, l.length + 1, 0, by omega, rfl, rfl, by omega, by rw [Hl.out]; omega, HC.out, rfl, Below.refl _ _⟩
  case round =>
    obtain ⟨p, n, m, hp, rfl, rfl, hm, hnp, HF, HS, HBr⟩ := hrel
    obtain ⟨n, rfl⟩ : ∃ m, n = m + 1 := ⟨n - 1, by omega⟩
    by_cases hlt : p < len
    · obtain ⟨f, k, u, bs, sz, hN⟩ : ∃ f k u bs sz, W.nextF lv (l.drop p) = (f, k, u, bs, sz, 0) := by
        have h := HF.out
        unfold W.faultF at h
        rw [if_neg (by rw [Hl.out]; omega)] at h
        by_cases hq : (W.nextF lv (l.drop p)).2.2.2.2.2 = 0
        · exact ⟨_, _, _, _, _, Prod.ext rfl (Prod.ext rfl (Prod.ext rfl (Prod.ext rfl (Prod.ext rfl hq))))⟩
        · rw [if_pos hq] at h; exact absurd h hq
      have hN32 := W.nextF_le hN hlv
      have HF2 : Hid ((W.faultF lv l n (p + sz)).2 = 0) := by
        have h := HF.out
        unfold W.faultF at h
        rw [if_neg (by rw [Hl.out]; omega), hN] at h
        simp only at h
        rw [if_neg (by omega)] at h
        exact h
      have HS2 : Hid (W.dp (lv + 1) l = W.dpF (W.dp lv) l n (p + sz) (if k = 3 then max m (W.dp lv bs + 1) else m)) := by
        have h := HS.out
        unfold W.dpF at h
        rw [if_neg (by rw [Hl.out]; omega), hN32] at h
        simp only at h
        rw [if_neg (by omega)] at h
        exact h
      have hsz : 0 < sz ∧ sz ≤ len - p := by
        have := W.nextF_ok (lv := lv) (l := l.drop p) (by rw [hN])
        rw [hN, List.length_drop, Hl.out] at this; exact this
      have hbl : bs.length ≤ len := by
        have := W.nextF_bytes lv (l.drop p)
        rw [hN, List.length_drop, Hl.out] at this
        simp only at this; omega
      have HLT : Hid (∀ x ∈ bs, x < 256) := fun x hx => by
        have := W.nextF_mem lv (l.drop p)
        rw [hN] at this
        exact Hr.out.1 x (List.mem_of_mem_drop (this x hx))
      have h3 : Hid (k = 3 → ∃ lv', lv = lv' + 1 ∧ (W.chk lv' bs).2 = 0 ∧ W.dp (lv' + 1) bs ≤ lv') := fun h => by
        subst h
        obtain ⟨lv', rfl, hc, _⟩ := W.next3 hN
        exact ⟨lv', rfl, hc, (W.dp_iff lv' (by omega) bs hc lv').1 hc⟩
      have hrf := run_from a len cap p hp
      have HR : Hid (Rd B wr (cutA a cap p) (l.drop p)) := (Hr.out.below HBr.out).drop (by rw [Hl.out]; exact hcap)
      have hszr := HBr.out.size
      have KN := refNext_all (B := B) (cutA a cap p) (len - p) (cap - p) (l.drop p) wr (by rw [List.length_drop, Hl.out]) (by omega) (by omega) (by omega) HR.out
      rw [hN32] at KN
      have KN := Lib.hid KN
      clear hN hN32 HF HS
      generalize cutA a cap p = a2 at *
      go_wp2_with fail
      refine KN.out.mono ?_
      rintro e w2 ⟨v, rfl, hv, hb2⟩
      obtain ⟨a', cap', rfl⟩ := hv.sl
      have hrd := hv.rd HLT.out
      have HB2 := Lib.hid (HBr.out.trans (hb2.mono hszr))
      have hs2 := HB2.out.size
      have HRd := Lib.hid hrd.1
      have hcap' := hrd.2.2
      clear hv hb2 hrd KN
      simp only at HRd hcap' ⊢
      have hsum : p + sz ≤ len := by omega
      by_cases hk : k = 3
      · subst hk
        obtain ⟨lv', rfl, hcb, hdp⟩ := h3.out rfl
        have KD := HD.out lv' rfl w2.heap.size a' bs.length cap' bs (w2.alloc (.cells #[.int .i64 f, .int .i64 3, .int .u64 u, .slice a' bs.length cap'] 32)) rfl (by omega) hcap' (by simp) (HRd.out.below ((Below.refl _ _).alloc (Nat.le_refl _) _)) hcb
        have KD := Lib.hid KD
        rw [if_pos rfl] at HS2
        clear h3 hcb HRd
        generalize W.dp (lv' + 1) bs = D at *
        go_wp2_with fail
        refine KD.out.mono ?_
        rintro e w3 ⟨rfl, hb3⟩
        have HB3 := Lib.hid ((HB2.out.alloc hs2 (.cells #[.int .i64 f, .int .i64 3, .int .u64 u, .slice a' bs.length cap'] 32)).trans (hb3.mono (by simp; omega)))
        clear hb3 KD
        go_wp2
        go_roundw
        case rel =>
          refine ⟨p + sz, n, max m (D + 1), hsum, by push_cast; rfl, ?_, by omega, by omega, HF2, HS2, ?_⟩
          · rw [show ((max m (D + 1) : Nat) : Int) = max (m : Int) (D + 1) by omega]
          · exact HB3
        case measure => simp [intOf]; omega
      · have hk3 : ((k : Int) == 3) = false := by simp; omega
        rw [if_neg hk] at HS2
        go_wp2
        go_roundw
        case rel =>
          refine ⟨p + sz, n, m, hsum, by push_cast; rfl, rfl, hm, by omega, HF2, HS2, ?_⟩
          show Below _ _ _
          have hov := HB2.out
          repeat (first | with_reducible exact hov | with_reducible refine Below.setCell ?_ (by first | omega | (simp; done) | (simp; omega)) _ | with_reducible refine Below.alloc ?_ (by first | omega | (simp; done) | (simp; omega)) _)
        case measure => simp [intOf]; omega
    · obtain rfl : p = len := by omega
      have HE : Hid (W.dp (lv + 1) l = m) := by
        show _ = _
        rw [HS.out]
        unfold W.dpF
        rw [if_pos (by rw [Hl.out]; omega)]
      go_wp2
      go_ret
      rw [HE.out]
      exact ⟨rfl, HBr.out⟩

theorem deep_all : ∀ lv, lv ≤ 32 → DeepOK lv
  | 0, h => deep_step 0 h (fun lv' e => by omega)
  | lv + 1, h => deep_step (lv + 1) h (fun lv' e => by obtain rfl : lv' = lv := by omega
                                                       exact deep_all lv' (by omega))

/-- What the reference's Check hands back. -/
def RefChk (r : Nat × Nat) (w : World) (e : Ending) (w' : World) : Prop :=
  ∃ v, e = .returned (fV (cd r.2) 0 0 v) ∧ ((r.2 = 0 ∧ v = .slice none 0 0) ∨ (r.2 ≠ 0 ∧ ∃ g, v = .slice (some ⟨g, 0, none⟩) 1 1 ∧ w'.cell? ⟨g, 0, none⟩ = some (.int .i64 (r.1 : Nat)))) ∧ Below w.heap.size w w'

theorem placed_any (c : Int) (p : Int) (w : World) (hc : (c == 0) = false) :
    Calls Tryd.prog 35 #[.int .i64 c, .int .i64 p] w fun e w' => ∃ g, w.heap.size ≤ g ∧ e = .returned (fV c 0 0 (.slice (some ⟨g, 0, none⟩) 1 1)) ∧ w'.cell? ⟨g, 0, none⟩ = some (.int .i64 p) ∧ Below w.heap.size w w' := by
  go_enter Tryd.func35, Tryd.ntmps35
  go_wp2
  refine bodyPost_ret (v := fV c 0 0 (.slice (some ⟨w.heap.size + 1, 0, none⟩) 1 1)) (by simp [results, Tryd.results35, go_sem, fV]) rfl ⟨w.heap.size + 1, by omega, rfl, by simp, ?_⟩
  repeat (first | with_reducible exact Below.refl _ _ | with_reducible refine Below.setCell ?_ (by first | omega | (simp; done) | (simp; omega)) _ | with_reducible refine Below.alloc ?_ (by first | omega | (simp; done) | (simp; omega)) _)

set_option maxRecDepth 100000 in
set_option maxHeartbeats 4000000 in
theorem refCheck_any {B : Nat} (a : Option Addr) (len cap : Nat) (l : List Nat) (w : World) (hlen : l.length = len) (hn : len ≤ 140737488355328) (hcap : len ≤ cap) (hBw : B ≤ w.heap.size) (hr : Rd B w a l) :
    Calls Tryd.prog 17 #[.slice a len cap] w (RefChk (W.chk 32 l) w) := by
  have Hr := Lib.hid hr
  have Hl := Lib.hid hlen
  clear hr hlen
  go_enter Tryd.func17, Tryd.ntmps17
  go_wp2
  go_loopw [3] (fun x wr => ∃ p n : Nat, p ≤ len ∧ x = .int .i64 p ∧ len + 1 ≤ n + p ∧ Hid (W.chk 32 l = W.faultF 32 l n p) ∧ Hid (Below (w.alloc (.cells #[.int .i64 0, .int .i64 0, .int .i64 0, .slice none 0 0] 42)).heap.size (w.alloc (.cells #[.int .i64 0, .int .i64 0, .int .i64 0, .slice none 0 0] 42)) wr)) (fun x _ => len - (intOf x).toNat)
  case atStart => exact ⟨0, l.length + 1, by omega, rfl, by rw [Hl.out]; omega, rfl, Below.refl _ _⟩
  case round =>
    obtain ⟨p, n, hp, rfl, hnp, HS, HBr⟩ := hrel
    obtain ⟨n, rfl⟩ : ∃ m, n = m + 1 := ⟨n - 1, by omega⟩
    have hszr := HBr.out.size
    by_cases hlt : p < len
    · obtain ⟨f, k, u, bs, sz, e9, hN⟩ : ∃ f k u bs sz e, W.nextF 32 (l.drop p) = (f, k, u, bs, sz, e) := ⟨_, _, _, _, _, _, rfl⟩
      have HS2 : Hid (W.chk 32 l = if e9 ≠ 0 then (p, e9) else W.faultF 32 l n (p + sz)) := by
        have h := HS.out
        unfold W.faultF at h
        rw [if_neg (by rw [Hl.out]; omega), hN] at h
        exact h
      have hsz : e9 = 0 → 0 < sz ∧ sz ≤ len - p := fun h => by
        have := W.nextF_ok (lv := 32) (l := l.drop p) (by rw [hN]; exact h)
        rw [hN, List.length_drop, Hl.out] at this; exact this
      have HSZ := Lib.hid hsz
      have hrf := run_from a len cap p hp
      have HBw := Lib.hid (below_over HBr.out)
      have HR : Hid (Rd B wr (cutA a cap p) (l.drop p)) := (Hr.out.below HBw.out).drop (by rw [Hl.out]; exact hcap)
      have KN := refNext_all (B := B) (cutA a cap p) (len - p) (cap - p) (l.drop p) wr (by rw [List.length_drop, Hl.out]) (by omega) (by omega) (by have := HBw.out.size; omega) HR.out
      rw [hN] at KN
      have KN := Lib.hid KN
      clear hN HS hsz
      generalize cutA a cap p = a2 at *
      go_wp2_with fail
      refine KN.out.mono ?_
      rintro e w2 ⟨v, rfl, hv, hb2⟩
      obtain ⟨a', cap', rfl⟩ := hv.sl
      have HB2 := Lib.hid (HBr.out.trans (hb2.mono hszr))
      have hs2 := HB2.out.size
      have hs2' := hs2
      simp only [World.size_alloc] at hs2'
      clear hv hb2 KN
      simp only
      cases e9 with
      | succ e9 =>
        have hne : (cd (e9 + 1) != 0) = true := by simpa using cd_succ e9
        have hne2 : (cd (e9 + 1) == 0) = false := by simpa using cd_succ e9
        have HNE2 := Lib.hid hne2
        have HCH : Hid (W.chk 32 l = (p, e9 + 1)) := by
          show _ = _
          rw [HS2.out, if_pos (by omega)]
        clear hne2
        go_wp2_with fail
        refine (placed_any _ _ _ HNE2.out).mono ?_
        rintro e w3 ⟨g, hgs, rfl, hg, hb3⟩
        simp only [World.size_alloc] at hgs
        have hb4 := (HB2.out.alloc hs2 (.cells #[.int .i64 f, .int .i64 k, .int .u64 u, .slice a' bs.length cap'] 32)).trans (hb3.mono (by simp; omega))
        obtain ⟨⟨c0, c1, c2, c3⟩, ⟨f0, f1, f2, f3⟩, hs3⟩ := cells4 hb4
        have HB4 := Lib.hid (below_over hb4)
        have HGc := Lib.hid hg
        clear hb3 hb4 hg
        unfold fV
        go_wp2
        refine bodyPost_ret (v := fV (cd (e9 + 1)) 0 0 (.slice (some ⟨g, 0, none⟩) 1 1)) (by simp [results, Tryd.results17, go_sem, fV, c0, c1, c2, c3]) rfl ?_
        rw [HCH.out]
        refine ⟨_, rfl, Or.inr ⟨by simp, g, rfl, ?_⟩, ?_⟩
        · have hgc := HGc.out
          have hgne : w.heap.size ≠ g := by omega
          have far : ∀ (x : World) (o : Nat) (v : Value), (x.setCell ⟨w.heap.size, o, none⟩ v).cell? ⟨g, 0, none⟩ = x.cell? ⟨g, 0, none⟩ := fun x o v => World.cell?_setCell_other (h := fun h => hgne (congrArg Addr.block h)) ..
          rw [far, far, far, far]
          exact hgc
        · have hov := HB4.out
          repeat (first | with_reducible exact hov | with_reducible refine Below.setCell ?_ (by first | omega | (simp; done) | (simp; omega)) _)
      | zero =>
        obtain ⟨hz1, hz2⟩ := HSZ.out rfl
        have hcd0 : cd 0 = 0 := rfl
        have hsum : p + sz ≤ len := by omega
        go_wp2
        go_roundw
        case rel =>
          refine ⟨p + sz, n, hsum, by push_cast; rfl, by omega, ?_, ?_⟩
          · show _ = _
            rw [HS2.out, if_neg (by omega)]
          · show Below _ _ _
            have hov := HB2.out
            repeat (first | with_reducible exact hov | with_reducible refine Below.setCell ?_ (by first | omega | (simp; done) | (simp; omega)) _ | with_reducible refine Below.alloc ?_ (by first | omega | (simp; done) | (simp; omega)) _)
        case measure => simp [intOf]; omega
    · obtain rfl : p = len := by omega
      have HCH : Hid (W.chk 32 l = (0, 0)) := by
        show _ = _
        rw [HS.out]
        unfold W.faultF
        rw [if_pos (by rw [Hl.out]; omega)]
      go_wp2_with fail
      refine (none_any _).mono ?_
      rintro e w3 ⟨rfl, hb3⟩
      have hb4 := HBr.out.trans (hb3.mono hszr)
      obtain ⟨⟨c0, c1, c2, c3⟩, ⟨f0, f1, f2, f3⟩, hs3⟩ := cells4 hb4
      have HB4 := Lib.hid (below_over hb4)
      clear hb3 hb4
      unfold fV
      go_wp2
      refine bodyPost_ret (v := fV 0 0 0 (.slice none 0 0)) (by simp [results, Tryd.results17, go_sem, fV, c0, c1, c2, c3]) rfl ?_
      rw [HCH.out]
      refine ⟨_, rfl, Or.inl ⟨rfl, rfl⟩, ?_⟩
      have hov := HB4.out
      repeat (first | with_reducible exact hov | with_reducible refine Below.setCell ?_ (by first | omega | (simp; done) | (simp; omega)) _)
end Go.Proofs.YtnejachdacakcaaDoor
