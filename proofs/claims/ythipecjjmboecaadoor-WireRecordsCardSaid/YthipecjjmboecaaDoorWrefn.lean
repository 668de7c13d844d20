/-
The walks of parleyref1.next, group, closed and Next: a record of the reference, by induction on the levels of groups that are left.
-/
import Derived.Test.YthipecjjmboecaaDoorWunt
import Derived.Test.YthipecjjmboecaaDoorWtop
import Derived.Test.YthipecjjmboecaaDoorWrefe
import Derived.Test.YthipecjjmboecaaDoorGbytes
import Derived.Test.YthipecjjmboecaaDoorGcells
import Derived.Test.YthipecjjmboecaaDoorGmid
import Derived.Test.YthipecjjmboecaaDoorWmathd
namespace Go.Proofs.YthipecjjmboecaaDoor
open Go.RowKit

/-- Bytes of the call's own, or nil. -/
def Bs (B : Nat) (w : World) (v : Value) (l : List Nat) : Prop := (v = .slice none 0 0 ∧ l = []) ∨ Own B w v l

theorem Bs.sl {B : Nat} {w : World} {v : Value} {l : List Nat} (h : Bs B w v l) : ∃ a cp, v = .slice a l.length cp := by
  rcases h with ⟨rfl, rfl⟩ | h
  · exact ⟨none, 0, rfl⟩
  · obtain ⟨_, g, cp, rfl⟩ := h; exact ⟨_, cp, rfl⟩
theorem Bs.set {B : Nat} {w : World} {v : Value} {l : List Nat} (h : Bs B w v l) {p : Addr} (hp : p.block < B) (u : Value) : Bs B (w.setCell p u) v l := by
  rcases h with h | h
  · exact Or.inl h
  · exact Or.inr (h.set hp u)
theorem Bs.mono {B B' : Nat} {w : World} {v : Value} {l : List Nat} (h : Bs B w v l) (hB : B' ≤ B) : Bs B' w v l := by
  rcases h with h | h
  · exact Or.inl h
  · exact Or.inr (h.mono hB)
theorem Bs.rd {B : Nat} {w : World} {a : Option Addr} {n cp : Nat} {l : List Nat} (h : Bs B w (.slice a n cp) l) (hl : ∀ x ∈ l, x < 256) : Rd w.heap.size w a l ∧ l.length = n ∧ n ≤ cp := by
  rcases h with ⟨h1, rfl⟩ | h
  · cases h1; exact ⟨Rd.nil _ _ _, rfl, Nat.le_refl _⟩
  · obtain ⟨a', cp', e, h1, h2⟩ := h.rd hl
    cases e
    exact ⟨h2, rfl, h1⟩

/-- What the reference's readers of records hand back. -/
def RefOut (r : Nat × Nat × Nat × List Nat × Nat × Nat) (w : World) (e : Ending) (w' : World) : Prop :=
  ∃ v, e = .returned (.tuple #[.agg #[.int .i64 (r.1 : Nat), .int .i64 (r.2.1 : Nat), .int .u64 (r.2.2.1 : Nat), v], .int .i64 (r.2.2.2.2.1 : Nat), .int .i64 (cd r.2.2.2.2.2)]) ∧ Bs w.heap.size w' v r.2.2.2.1 ∧ Below w.heap.size w w'

theorem ref_none {c : Nat} {w w' : World} (e : Ending) (he : e = .returned (.tuple #[.agg #[.int .i64 0, .int .i64 0, .int .u64 0, .slice none 0 0], .int .i64 0, .int .i64 (cd c)])) (hb : Below w.heap.size w w') : RefOut (0, 0, 0, [], 0, c) w e w' :=
  ⟨.slice none 0 0, he, Or.inl ⟨rfl, rfl⟩, hb⟩

theorem cd_succ (k : Nat) : cd (k + 1) ≠ 0 := by
  unfold cd
  rw [if_neg (by omega)]
  repeat' split
  all_goals decide

theorem tg_e1 {l : List Nat} {p j k : Nat} (h : W.uvA l = (p, j, k + 1)) : W.tg l = (0, 0, 0, k + 1) := by
  unfold W.tg
  rw [h, if_pos (by simp)]
theorem tg_e2 {l : List Nat} {p j f kd k : Nat} (h : W.uvA l = (p, j, 0)) (h2 : W.untag p = (f, kd, k + 1)) : W.tg l = (0, 0, 0, k + 1) := by
  unfold W.tg
  rw [h, if_neg (by simp)]
  simp only
  rw [h2, if_pos (by simp)]
theorem tg_good {l : List Nat} {p j f kd : Nat} (h : W.uvA l = (p, j, 0)) (h2 : W.untag p = (f, kd, 0)) : W.tg l = (f, kd, j, 0) := by
  unfold W.tg
  rw [h, if_neg (by simp)]
  simp only
  rw [h2, if_neg (by simp)]

theorem closed_ok (f k u : Int) (a : Option Addr) (m cp : Nat) (n : Int) (w : World) :
    Calls Tryd.prog 72 #[.agg #[.int .i64 f, .int .i64 k, .int .u64 u, .slice a m cp], .int .i64 n, .int .i64 0] w fun e w' => e = .returned (.tuple #[.agg #[.int .i64 f, .int .i64 k, .int .u64 u, .slice a m cp], .int .i64 n, .int .i64 0]) ∧ Below w.heap.size w w' := by
  go_enter Tryd.func72, Tryd.ntmps72
  go_wp2
  refine bodyPost_ret (v := .tuple #[.agg #[.int .i64 f, .int .i64 k, .int .u64 u, .slice a m cp], .int .i64 n, .int .i64 0]) (by simp [results, Tryd.results72, go_sem]) rfl ⟨rfl, ?_⟩
  exact ((Below.refl _ _).alloc (Nat.le_refl _) _).alloc (by simp) _

theorem closed_err (f k u : Int) (a : Option Addr) (m cp : Nat) (n c : Int) (w : World) (hc : (c != 0) = true) :
    Calls Tryd.prog 72 #[.agg #[.int .i64 f, .int .i64 k, .int .u64 u, .slice a m cp], .int .i64 n, .int .i64 c] w fun e w' => e = .returned (.tuple #[.agg #[.int .i64 0, .int .i64 0, .int .u64 0, .slice none 0 0], .int .i64 0, .int .i64 c]) ∧ Below w.heap.size w w' := by
  go_enter Tryd.func72, Tryd.ntmps72
  go_wp2
  refine bodyPost_ret (v := .tuple #[.agg #[.int .i64 0, .int .i64 0, .int .u64 0, .slice none 0 0], .int .i64 0, .int .i64 c]) (by simp [results, Tryd.results72, go_sem]) rfl ⟨rfl, ?_⟩
  exact ((Below.refl _ _).alloc (Nat.le_refl _) _).alloc (by simp) _

/-- closed, of a body's number and size. -/
theorem closed_any (f k u : Int) (n e2 : Nat) (w : World) :
    Calls Tryd.prog 72 #[.agg #[.int .i64 f, .int .i64 k, .int .u64 u, .slice none 0 0], .int .i64 n, .int .i64 (cd e2)] w fun e w' => e = .returned (if e2 = 0 then .tuple #[.agg #[.int .i64 f, .int .i64 k, .int .u64 u, .slice none 0 0], .int .i64 n, .int .i64 0] else .tuple #[.agg #[.int .i64 0, .int .i64 0, .int .u64 0, .slice none 0 0], .int .i64 0, .int .i64 (cd e2)]) ∧ Below w.heap.size w w' := by
  cases e2 with
  | zero => exact closed_ok f k u none 0 0 n w
  | succ e2 => exact closed_err f k u none 0 0 n (cd (e2 + 1)) w (by simpa using cd_succ e2)

/-- The reference's group, lv levels left. -/
def RefGroupOK (lv : Nat) : Prop :=
  ∀ (B : Nat) (a : Option Addr) (len cap : Nat) (l : List Nat) (f at_ : Nat) (d : Int) (w : World), l.length = len → len ≤ 140737488355328 → len ≤ cap → B ≤ w.heap.size → Rd B w a l → at_ ≤ len → d = 32 - lv →
    Calls Tryd.prog 74 #[.slice a len cap, .agg #[.int .i64 f, .int .i64 3, .int .u64 0, .slice none 0 0], .int .i64 at_, .int .i64 d] w
      (RefOut (if (W.groupF lv f (l.drop at_)).2.2.2 = 0 then (f, 3, 0, (W.groupF lv f (l.drop at_)).2.1, at_ + (W.groupF lv f (l.drop at_)).2.2.1, 0) else (0, 0, 0, [], 0, (W.groupF lv f (l.drop at_)).2.2.2)) w)

set_option maxRecDepth 100000 in
set_option maxHeartbeats 4000000 in
theorem refNext_of {B lv : Nat} (hG : RefGroupOK lv) (a : Option Addr) (len cap : Nat) (l : List Nat) (d : Int) (w : World) (hlen : l.length = len) (hn : len ≤ 140737488355328) (hcap : len ≤ cap) (hBw : B ≤ w.heap.size) (hr : Rd B w a l) (hd : d = 32 - lv) :
    Calls Tryd.prog 47 #[.slice a len cap, .int .i64 d] w (RefOut (W.nextF lv l) w) := by
  have Hr := Lib.hid hr
  have Hl := Lib.hid hlen
  have HG := Lib.hid hG
  have Hd := Lib.hid hd
  clear hr hlen hG hd
  obtain ⟨p, j, k, hx⟩ : ∃ p j k, W.uvA l = (p, j, k) := ⟨_, _, _, rfl⟩
  have hp := W.uvA_lt l
  have hj := fun h => W.uvA_ok (l := l) h
  rw [hx] at hp hj
  rw [Hl.out] at hj
  simp only at hp hj
  have K1 : Hid (∀ (w : World), Rd B w a l → Calls Tryd.prog 70 #[.slice a len cap] w fun e w' => e = .returned (.tuple #[.int .u64 (p : Nat), .int .i64 (j : Nat), .int .i64 (cd k)]) ∧ w = w') := fun w g => by
    have := refUv_any a cap l w (by rw [Hl.out]; omega) g
    rw [hx, Hl.out] at this
    exact this
  have HX := Lib.hid hx
  clear hx
  have b0 : Hid (Below w.heap.size w (w.alloc (.cells #[.int .i64 0, .int .i64 0, .int .u64 0, .slice none 0 0] 30))) := (Below.refl _ _).alloc (Nat.le_refl _) _
  cases k with
  | succ k =>
    have hN : Hid (W.nextF lv l = (0, 0, 0, [], 0, k + 1)) := by
      show _ = _
      rw [W.nextF_step lv l 0 0 0 (k + 1) 0 [] 0 0 (tg_e1 HX.out) (fun h => absurd h (by omega)), if_pos (by omega)]
    have hc : (cd (k + 1) != 0) = true := by simpa using cd_succ k
    rw [hN.out]
    obtain ⟨c, hcd⟩ : ∃ c, cd (k + 1) = c := ⟨_, rfl⟩
    rw [hcd] at K1 hc
    have HC := Lib.hid hcd
    clear hcd hj
    go_enter Tryd.func47, Tryd.ntmps47
    go_wp2_with fail
    refine (K1.out _ (Hr.out.below b0.out)).mono ?_
    rintro e w1 ⟨rfl, rfl⟩
    go_wp2
    refine bodyPost_ret (v := .tuple #[.agg #[.int .i64 0, .int .i64 0, .int .u64 0, .slice none 0 0], .int .i64 0, .int .i64 c]) (by simp [results, Tryd.results47, go_sem]) rfl ?_
    refine ref_none _ ?_ b0.out
    rw [← HC.out]
  | zero =>
    obtain ⟨hj1, hj2⟩ := hj rfl
    clear hj
    obtain ⟨f, kd, k2, hx2⟩ : ∃ f kd k2, W.untag p = (f, kd, k2) := ⟨_, _, _, rfl⟩
    have K2 : Hid (∀ (w : World), Calls Tryd.prog 71 #[.int .u64 p] w fun e w' => e = .returned (.tuple #[.int .i64 (f : Nat), .int .i64 (kd : Nat), .int .i64 (cd k2)]) ∧ w = w') := fun w => by
      have := refUntag_all p w hp
      rw [hx2] at this
      exact this
    have HX2 := Lib.hid hx2
    clear hx2 hp
    cases k2 with
    | succ k =>
      have hN : Hid (W.nextF lv l = (0, 0, 0, [], 0, k + 1)) := by
        show _ = _
        rw [W.nextF_step lv l 0 0 0 (k + 1) 0 [] 0 0 (tg_e2 HX.out HX2.out) (fun h => absurd h (by omega)), if_pos (by omega)]
      have hc : (cd (k + 1) != 0) = true := by simpa using cd_succ k
      rw [hN.out]
      obtain ⟨c, hcd⟩ : ∃ c, cd (k + 1) = c := ⟨_, rfl⟩
      rw [hcd] at K2 hc
      have HC := Lib.hid hcd
      clear hcd
      go_enter Tryd.func47, Tryd.ntmps47
      go_wp2_with fail
      refine (show Calls _ _ _ _ fun e w' => e = .returned (.tuple #[.int .u64 (p : Nat), .int .i64 (j : Nat), .int .i64 0]) ∧ _ = w' from K1.out _ (Hr.out.below b0.out)).mono ?_
      rintro e w1 ⟨rfl, rfl⟩
      go_wp2_with fail
      refine (K2.out _).mono ?_
      rintro e w1 ⟨rfl, rfl⟩
      go_wp2
      refine bodyPost_ret (v := .tuple #[.agg #[.int .i64 0, .int .i64 0, .int .u64 0, .slice none 0 0], .int .i64 0, .int .i64 c]) (by simp [results, Tryd.results47, go_sem]) rfl ?_
      refine ref_none _ ?_ b0.out
      rw [← HC.out]
    | zero =>
      have ht := tg_good HX.out HX2.out
      have hk5 := (W.tg_ok (l := l) (by rw [ht])).2.2.2.2
      rw [ht] at hk5
      simp only at hk5
      have HT := Lib.hid ht
      clear ht HX HX2
      have hrf := run_from a len cap j hj2
      have HR : Hid (Rd B w (cutA a cap j) (l.drop j)) := Hr.out.drop (by rw [Hl.out]; exact hcap)
      have HLd : Hid ((l.drop j).length = len - j) := by show _ = _; rw [List.length_drop, Hl.out]
      have hst := fun u bs sz e2 hb => W.nextF_step lv l f kd j 0 u bs sz e2 HT.out (fun _ => hb)
      have HST := Lib.hid hst
      clear hst HT
      go_enter Tryd.func47, Tryd.ntmps47
      go_wp2_with fail
      refine (show Calls _ _ _ _ fun e w' => e = .returned (.tuple #[.int .u64 (p : Nat), .int .i64 (j : Nat), .int .i64 0]) ∧ _ = w' from K1.out _ (Hr.out.below b0.out)).mono ?_
      rintro e w1 ⟨rfl, rfl⟩
      go_wp2_with fail
      refine (show Calls _ _ _ _ fun e w' => e = .returned (.tuple #[.int .i64 (f : Nat), .int .i64 (kd : Nat), .int .i64 0]) ∧ _ = w' from K2.out _).mono ?_
      rintro e w1 ⟨rfl, rfl⟩
      have b1 : Hid (Below w.heap.size w ((w.alloc (.cells #[.int .i64 0, .int .i64 0, .int .u64 0, .slice none 0 0] 30)).alloc (.cells #[.int .i64 f, .int .i64 kd, .int .u64 0, .slice none 0 0] 30))) := b0.out.alloc (by simp) _
      have hne : ∀ k : Nat, (cd (k + 1) != 0) = true := fun k => by simpa using cd_succ k
      have HNE := Lib.hid hne
      clear hne
      match kd, hk5 with
      | 0, _ =>
        obtain ⟨u, z, e2, hu⟩ : ∃ u z e, W.uvA (l.drop j) = (u, z, e) := ⟨_, _, _, rfl⟩
        have hz : z ≤ len - j := by
          rcases Nat.eq_zero_or_pos e2 with h | h
          · have := (W.uvA_ok (l := l.drop j) (by rw [hu]; exact h)).2
            rw [hu, HLd.out] at this; exact this
          · obtain ⟨e3, rfl⟩ : ∃ e3, e2 = e3 + 1 := ⟨e2 - 1, by omega⟩
            have := W.uvA_err (l := l.drop j) (k := e3) (by rw [hu])
            rw [hu] at this; cases this; omega
        have hN := HST.out u [] z e2 (by rw [W.bodyF_eq]; simp only [W.flat, if_pos]; rw [hu])
        have KU : Hid (∀ (w : World), Rd B w (cutA a cap j) (l.drop j) → Calls Tryd.prog 70 #[.slice (cutA a cap j) (len - j) (cap - j)] w fun e w' => e = .returned (.tuple #[.int .u64 (u : Nat), .int .i64 (z : Nat), .int .i64 (cd e2)]) ∧ w = w') := fun w g => by
          have := refUv_any (cutA a cap j) (cap - j) (l.drop j) w (by rw [HLd.out]; omega) g
          rw [hu, HLd.out] at this
          exact this
        have HN := Lib.hid hN
        clear hu hN HST
        generalize cutA a cap j = a2 at *
        cases e2 with
        | zero =>
          go_wp2_with fail
          refine (show Calls _ _ _ _ fun e w' => e = .returned (.tuple #[.int .u64 (u : Nat), .int .i64 (z : Nat), .int .i64 0]) ∧ _ = w' from KU.out _ (HR.out.below b1.out)).mono ?_
          rintro e w1 ⟨rfl, rfl⟩
          go_wp2_with fail
          refine (closed_ok _ _ _ _ _ _ _ _).mono ?_
          rintro e w2 ⟨rfl, hb2⟩
          obtain ⟨⟨c0, c1, c2, c3⟩, ⟨f0, f1, f2, f3⟩, hs2⟩ := cells4 (below_over hb2)
          have HB2 := Lib.hid (below_over (below_over hb2))
          clear hb2
          go_wp2
          refine bodyPost_ret (v := .tuple #[.agg #[.int .i64 f, .int .i64 0, .int .u64 u, .slice none 0 0], .int .i64 ((j + z : Nat) : Int), .int .i64 0]) (by simp [results, Tryd.results47, go_sem, c0, c1, c2, c3]) rfl ?_
          rw [HN.out, if_neg (by omega), if_neg (by omega)]
          refine ⟨_, rfl, Or.inl ⟨rfl, rfl⟩, ?_⟩
          have hov := HB2.out
          repeat (first | with_reducible exact hov | with_reducible refine Below.setCell ?_ (by first | omega | (simp; done) | (simp; omega)) _)
        | succ e3 =>
          go_wp2_with fail
          refine (KU.out _ (HR.out.below b1.out)).mono ?_
          rintro e w1 ⟨rfl, rfl⟩
          go_wp2_with fail
          refine (closed_err _ _ _ _ _ _ _ _ _ (HNE.out e3)).mono ?_
          rintro e w2 ⟨rfl, hb2⟩
          obtain ⟨⟨c0, c1, c2, c3⟩, ⟨f0, f1, f2, f3⟩, hs2⟩ := cells4 (below_over hb2)
          have HB2 := Lib.hid (below_over (below_over hb2))
          clear hb2
          go_wp2
          refine bodyPost_ret (v := .tuple #[.agg #[.int .i64 0, .int .i64 0, .int .u64 0, .slice none 0 0], .int .i64 0, .int .i64 (cd (e3 + 1))]) (by simp [results, Tryd.results47, go_sem, c0, c1, c2, c3]) rfl ?_
          rw [HN.out, if_neg (by omega), if_pos (by omega)]
          refine ⟨_, rfl, Or.inl ⟨rfl, rfl⟩, ?_⟩
          have hov := HB2.out
          repeat (first | with_reducible exact hov | with_reducible refine Below.setCell ?_ (by first | omega | (simp; done) | (simp; omega)) _)
      | 1, _ =>
        obtain ⟨u, z, e2, hu⟩ : ∃ u z e, W.ufx 8 (l.drop j) = (u, z, e) := ⟨_, _, _, rfl⟩
        have hz : z ≤ len - j := by
          rcases Nat.eq_zero_or_pos e2 with h | h
          · have := W.ufx_fits 8 (l.drop j) (by rw [hu]; exact h)
            rw [hu, HLd.out] at this; exact this
          · have h2 := hu
            unfold W.ufx at h2
            split at h2
            · cases h2; omega
            · cases h2; omega
        have hN := HST.out u [] z e2 (by rw [W.bodyF_eq]; simp [W.flat]; rw [hu]; exact ⟨rfl, rfl, rfl⟩)
        have KU : Hid (∀ (w : World), Rd B w (cutA a cap j) (l.drop j) → Calls Tryd.prog 73 #[.slice (cutA a cap j) (len - j) (cap - j), .int .i64 8] w fun e w' => e = .returned (.tuple #[.int .u64 (u : Nat), .int .i64 (z : Nat), .int .i64 (cd e2)]) ∧ w = w') := fun w g => by
          have := refUnf8 (cutA a cap j) (cap - j) (l.drop j) w g (by rw [HLd.out]; omega)
          rw [hu, HLd.out] at this
          exact this
        have HN := Lib.hid hN
        clear hu hN HST
        generalize cutA a cap j = a2 at *
        cases e2 with
        | zero =>
          go_wp2_with fail
          refine (show Calls _ _ _ _ fun e w' => e = .returned (.tuple #[.int .u64 (u : Nat), .int .i64 (z : Nat), .int .i64 0]) ∧ _ = w' from KU.out _ (HR.out.below b1.out)).mono ?_
          rintro e w1 ⟨rfl, rfl⟩
          go_wp2_with fail
          refine (closed_ok _ _ _ _ _ _ _ _).mono ?_
          rintro e w2 ⟨rfl, hb2⟩
          obtain ⟨⟨c0, c1, c2, c3⟩, ⟨f0, f1, f2, f3⟩, hs2⟩ := cells4 (below_over hb2)
          have HB2 := Lib.hid (below_over (below_over hb2))
          clear hb2
          go_wp2
          refine bodyPost_ret (v := .tuple #[.agg #[.int .i64 f, .int .i64 1, .int .u64 u, .slice none 0 0], .int .i64 ((j + z : Nat) : Int), .int .i64 0]) (by simp [results, Tryd.results47, go_sem, c0, c1, c2, c3]) rfl ?_
          rw [HN.out, if_neg (by omega), if_neg (by omega)]
          refine ⟨_, rfl, Or.inl ⟨rfl, rfl⟩, ?_⟩
          have hov := HB2.out
          repeat (first | with_reducible exact hov | with_reducible refine Below.setCell ?_ (by first | omega | (simp; done) | (simp; omega)) _)
        | succ e3 =>
          go_wp2_with fail
          refine (KU.out _ (HR.out.below b1.out)).mono ?_
          rintro e w1 ⟨rfl, rfl⟩
          go_wp2_with fail
          refine (closed_err _ _ _ _ _ _ _ _ _ (HNE.out e3)).mono ?_
          rintro e w2 ⟨rfl, hb2⟩
          obtain ⟨⟨c0, c1, c2, c3⟩, ⟨f0, f1, f2, f3⟩, hs2⟩ := cells4 (below_over hb2)
          have HB2 := Lib.hid (below_over (below_over hb2))
          clear hb2
          go_wp2
          refine bodyPost_ret (v := .tuple #[.agg #[.int .i64 0, .int .i64 0, .int .u64 0, .slice none 0 0], .int .i64 0, .int .i64 (cd (e3 + 1))]) (by simp [results, Tryd.results47, go_sem, c0, c1, c2, c3]) rfl ?_
          rw [HN.out, if_neg (by omega), if_pos (by omega)]
          refine ⟨_, rfl, Or.inl ⟨rfl, rfl⟩, ?_⟩
          have hov := HB2.out
          repeat (first | with_reducible exact hov | with_reducible refine Below.setCell ?_ (by first | omega | (simp; done) | (simp; omega)) _)
      | 2, _ =>
        obtain ⟨u, z, e2, hu⟩ : ∃ u z e, W.uvA (l.drop j) = (u, z, e) := ⟨_, _, _, rfl⟩
        have hrb : W.bodyF lv 2 (l.drop j) f = if e2 ≠ 0 then (0, [], 0, e2) else if len - j - z < u then (0, [], 0, 2 + 1) else (0, ((l.drop j).drop z).take u, z + u, 0) := by
          rw [W.bodyF_eq]
          show W.rb (l.drop j) = _
          unfold W.rb
          rw [hu, HLd.out]
        have KU : Hid (∀ (w : World), Rd B w (cutA a cap j) (l.drop j) → Calls Tryd.prog 70 #[.slice (cutA a cap j) (len - j) (cap - j)] w fun e w' => e = .returned (.tuple #[.int .u64 (u : Nat), .int .i64 (z : Nat), .int .i64 (cd e2)]) ∧ w = w') := fun w g => by
          have := refUv_any (cutA a cap j) (cap - j) (l.drop j) w (by rw [HLd.out]; omega) g
          rw [hu, HLd.out] at this
          exact this
        cases e2 with
        | succ e3 =>
          rw [if_pos (by omega)] at hrb
          have HN := Lib.hid (HST.out _ _ _ _ hrb)
          clear hu hrb HST
          generalize cutA a cap j = a2 at *
          have hne := HNE.out e3
          go_wp2_with fail
          refine (KU.out _ (HR.out.below b1.out)).mono ?_
          rintro e w1 ⟨rfl, rfl⟩
          go_wp2
          refine bodyPost_ret (v := .tuple #[.agg #[.int .i64 0, .int .i64 0, .int .u64 0, .slice none 0 0], .int .i64 0, .int .i64 (cd (e3 + 1))]) (by simp [results, Tryd.results47, go_sem]) rfl ?_
          rw [HN.out, if_neg (by omega), if_pos (by omega)]
          exact ⟨_, rfl, Or.inl ⟨rfl, rfl⟩, b1.out⟩
        | zero =>
          rw [if_neg (by omega)] at hrb
          have hz : z ≤ len - j := by
            have := (W.uvA_ok (l := l.drop j) (by rw [hu])).2
            rw [hu, HLd.out] at this; exact this
          have hu64 : u < 18446744073709551616 := by have := W.uvA_lt (l.drop j); rw [hu] at this; exact this
          by_cases hlt : len - j - z < u
          · rw [if_pos hlt] at hrb
            have HN := Lib.hid (HST.out _ _ _ _ hrb)
            clear hu hrb HST
            generalize cutA a cap j = a2 at *
            go_wp2_with fail
            refine (show Calls _ _ _ _ fun e w' => e = .returned (.tuple #[.int .u64 (u : Nat), .int .i64 (z : Nat), .int .i64 0]) ∧ _ = w' from KU.out _ (HR.out.below b1.out)).mono ?_
            rintro e w1 ⟨rfl, rfl⟩
            have hlt2 : (len : Int) - (j + z) < u := by omega
            have h0 : 0 ≤ (len : Int) - (j + z) := by omega
            go_wp2
            refine bodyPost_ret (v := .tuple #[.agg #[.int .i64 0, .int .i64 0, .int .u64 0, .slice none 0 0], .int .i64 0, .int .i64 101]) (by simp [results, Tryd.results47, go_sem]) rfl ?_
            rw [HN.out, if_neg (by omega), if_pos (by omega)]
            exact ⟨_, rfl, Or.inl ⟨rfl, rfl⟩, b1.out⟩
          · rw [if_neg hlt] at hrb
            have HN := Lib.hid (HST.out _ _ _ _ hrb)
            have hrm := run_mid a len cap (j + z) u (j + z) (j + z + u) (by omega) (by omega) (by omega)
            have HR2 : Hid (Rd B w (cutA a cap (j + z)) (((l.drop j).drop z).take u)) := by
              have := (Hr.out.drop (cap := cap) (lo := j + z) (by rw [Hl.out]; exact hcap)).take u
              rw [List.drop_drop]; exact this
            have HL2 : Hid ((((l.drop j).drop z).take u).length = u) := by
              show _ = _
              rw [List.length_take, List.length_drop, HLd.out]; omega
            clear hu hrb HST
            generalize cutA a cap j = a2 at *
            generalize cutA a cap (j + z) = a3 at *
            generalize ((l.drop j).drop z).take u = bs at *
            go_wp2_with fail
            refine (show Calls _ _ _ _ fun e w' => e = .returned (.tuple #[.int .u64 (u : Nat), .int .i64 (z : Nat), .int .i64 0]) ∧ _ = w' from KU.out _ (HR.out.below b1.out)).mono ?_
            rintro e w1 ⟨rfl, rfl⟩
            have hlt2 : ¬ (len : Int) - (j + z) < u := by omega
            have h0 : 0 ≤ (len : Int) - (j + z) := by omega
            have hb47 : u ≤ 140737488355328 := by omega
            have hsum : j + z + u ≤ 140737488355328 := by omega
            go_wp2_with fail
            refine (bytes_any a3 u (cap - (j + z)) bs _ HL2.out (HR2.out.below b1.out) (by omega)).mono ?_
            rintro e w2 ⟨v, rfl, hv, hb2⟩
            obtain ⟨g, cp, rfl⟩ := hv.2
            have hc1 := cells4 hb2
            simp only [World.size_alloc] at hc1
            obtain ⟨⟨d0, d1, d2, d3⟩, ⟨e0, e1, e2, e3⟩, hs1⟩ := hc1
            obtain ⟨⟨c0, c1, c2, c3⟩, ⟨f0, f1, f2, f3⟩, hs2⟩ := cells4 (below_over hb2)
            have HB2 := Lib.hid (below_over (below_over hb2))
            have HV := Lib.hid hv
            clear hb2 hv
            go_wp2
            refine bodyPost_ret (v := .tuple #[.agg #[.int .i64 f, .int .i64 2, .int .u64 0, .slice (some ⟨g, 0, none⟩) bs.length cp], .int .i64 ((j + (z + u) : Nat) : Int), .int .i64 0]) (by simp [results, Tryd.results47, go_sem, c0, c1, c2, c3]; omega) rfl ?_
            rw [HN.out, if_neg (by omega), if_neg (by omega)]
            have hown : Own (w.heap.size + 1 + 1) w2 (.slice (some ⟨g, 0, none⟩) bs.length cp) bs := by have := HV.out; simpa only [World.size_alloc] using this
            refine ⟨_, rfl, Or.inr (Own.mono (B := w.heap.size + 1 + 1) ?_ (by omega)), ?_⟩
            · repeat (first | with_reducible exact hown | with_reducible refine Own.set ?_ (by first | omega | (simp; done) | (simp; omega)) _)
            · have hov := HB2.out
              repeat (first | with_reducible exact hov | with_reducible refine Below.setCell ?_ (by first | omega | (simp; done) | (simp; omega)) _)
      | 3, _ =>
        obtain ⟨u, bs, z, e2, hg⟩ : ∃ u bs z e, W.groupF lv f (l.drop j) = (u, bs, z, e) := ⟨_, _, _, _, rfl⟩
        have hu0 : e2 = 0 → u = 0 := fun h => by
          subst h
          obtain ⟨_, _, _, _, h, _⟩ := W.group_ok hg
          exact h
        have HN := Lib.hid (HST.out _ _ _ _ (show W.bodyF lv 3 (l.drop j) f = (u, bs, z, e2) by rw [W.body3, hg]))
        have KG := HG.out B a len cap l f j d ((w.alloc (.cells #[.int .i64 0, .int .i64 0, .int .u64 0, .slice none 0 0] 30)).alloc (.cells #[.int .i64 f, .int .i64 3, .int .u64 0, .slice none 0 0] 30)) Hl.out hn hcap (Nat.le_trans hBw b1.out.size) (Hr.out.below b1.out) hj2 Hd.out
        rw [hg] at KG
        simp only at KG
        clear hg HST
        by_cases he : e2 = 0
        · subst he
          obtain rfl := hu0 rfl
          rw [if_pos rfl] at KG
          have KG := Lib.hid KG
          go_wp2_with fail
          refine KG.out.mono ?_
          rintro e w2 ⟨v, rfl, hv, hb2⟩
          obtain ⟨a', cap', rfl⟩ := hv.sl
          obtain ⟨⟨c0, c1, c2, c3⟩, ⟨f0, f1, f2, f3⟩, hs2⟩ := cells4 (below_over hb2)
          have HB2 := Lib.hid (below_over (below_over hb2))
          have HV : Hid (Bs (w.heap.size + 1 + 1) w2 (.slice a' bs.length cap') bs) := by have := hv; simp only [World.size_alloc] at this; exact this
          clear hb2 hv KG
          simp only
          go_wp2
          refine bodyPost_ret (v := .tuple #[.agg #[.int .i64 f, .int .i64 3, .int .u64 0, .slice a' bs.length cap'], .int .i64 ((j + z : Nat) : Int), .int .i64 0]) (by simp [results, Tryd.results47, go_sem, c0, c1, c2, c3, cd]) rfl ?_
          rw [HN.out, if_neg (by omega), if_neg (by omega)]
          refine ⟨_, rfl, Bs.mono (B := w.heap.size + 1 + 1) ?_ (by omega), ?_⟩
          · have hown := HV.out
            repeat (first | with_reducible exact hown | with_reducible refine Bs.set ?_ (by first | omega | (simp; done) | (simp; omega)) _)
          · have hov := HB2.out
            repeat (first | with_reducible exact hov | with_reducible refine Below.setCell ?_ (by first | omega | (simp; done) | (simp; omega)) _)
        · rw [if_neg he] at KG
          have KG := Lib.hid KG
          have he' : (0 : Nat) < e2 := by omega
          go_wp2_with fail
          refine KG.out.mono ?_
          rintro e w2 ⟨v, rfl, hv, hb2⟩
          obtain ⟨a', cap', rfl⟩ := hv.sl
          obtain ⟨⟨c0, c1, c2, c3⟩, ⟨f0, f1, f2, f3⟩, hs2⟩ := cells4 (below_over hb2)
          have HB2 := Lib.hid (below_over (below_over hb2))
          have HV : Hid (Bs (w.heap.size + 1 + 1) w2 (.slice a' 0 cap') []) := by have := hv; simp only [World.size_alloc] at this; exact this
          clear hb2 hv KG
          simp only
          go_wp2
          refine bodyPost_ret (v := .tuple #[.agg #[.int .i64 0, .int .i64 0, .int .u64 0, .slice a' 0 cap'], .int .i64 0, .int .i64 (cd e2)]) (by simp [results, Tryd.results47, go_sem, c0, c1, c2, c3]) rfl ?_
          rw [HN.out, if_neg (by omega), if_pos he]
          refine ⟨_, rfl, Bs.mono (B := w.heap.size + 1 + 1) ?_ (by omega), ?_⟩
          · have hown := HV.out
            repeat (first | with_reducible exact hown | with_reducible refine Bs.set ?_ (by first | omega | (simp; done) | (simp; omega)) _)
          have hov := HB2.out
          repeat (first | with_reducible exact hov | with_reducible refine Below.setCell ?_ (by first | omega | (simp; done) | (simp; omega)) _)
      | 4, _ =>
        have HN := Lib.hid (HST.out _ _ _ _ (show W.bodyF lv 4 (l.drop j) f = (0, [], 0, 5 + 1) by rw [W.bodyF_eq]; rfl))
        clear HST
        go_wp2
        refine bodyPost_ret (v := .tuple #[.agg #[.int .i64 0, .int .i64 0, .int .u64 0, .slice none 0 0], .int .i64 0, .int .i64 104]) (by simp [results, Tryd.results47, go_sem]) rfl ?_
        rw [HN.out, if_neg (by omega), if_pos (by omega)]
        exact ⟨_, rfl, Or.inl ⟨rfl, rfl⟩, b1.out⟩
      | 5, _ =>
        obtain ⟨u, z, e2, hu⟩ : ∃ u z e, W.ufx 4 (l.drop j) = (u, z, e) := ⟨_, _, _, rfl⟩
        have hz : z ≤ len - j := by
          rcases Nat.eq_zero_or_pos e2 with h | h
          · have := W.ufx_fits 4 (l.drop j) (by rw [hu]; exact h)
            rw [hu, HLd.out] at this; exact this
          · have h2 := hu
            unfold W.ufx at h2
            split at h2
            · cases h2; omega
            · cases h2; omega
        have hN := HST.out u [] z e2 (by rw [W.bodyF_eq]; simp [W.flat]; rw [hu]; exact ⟨rfl, rfl, rfl⟩)
        have KU : Hid (∀ (w : World), Rd B w (cutA a cap j) (l.drop j) → Calls Tryd.prog 73 #[.slice (cutA a cap j) (len - j) (cap - j), .int .i64 4] w fun e w' => e = .returned (.tuple #[.int .u64 (u : Nat), .int .i64 (z : Nat), .int .i64 (cd e2)]) ∧ w = w') := fun w g => by
          have := refUnf4 (cutA a cap j) (cap - j) (l.drop j) w g (by rw [HLd.out]; omega)
          rw [hu, HLd.out] at this
          exact this
        have HN := Lib.hid hN
        clear hu hN HST
        generalize cutA a cap j = a2 at *
        cases e2 with
        | zero =>
          go_wp2_with fail
          refine (show Calls _ _ _ _ fun e w' => e = .returned (.tuple #[.int .u64 (u : Nat), .int .i64 (z : Nat), .int .i64 0]) ∧ _ = w' from KU.out _ (HR.out.below b1.out)).mono ?_
          rintro e w1 ⟨rfl, rfl⟩
          go_wp2_with fail
          refine (closed_ok _ _ _ _ _ _ _ _).mono ?_
          rintro e w2 ⟨rfl, hb2⟩
          obtain ⟨⟨c0, c1, c2, c3⟩, ⟨f0, f1, f2, f3⟩, hs2⟩ := cells4 (below_over hb2)
          have HB2 := Lib.hid (below_over (below_over hb2))
          clear hb2
          go_wp2
          refine bodyPost_ret (v := .tuple #[.agg #[.int .i64 f, .int .i64 5, .int .u64 u, .slice none 0 0], .int .i64 ((j + z : Nat) : Int), .int .i64 0]) (by simp [results, Tryd.results47, go_sem, c0, c1, c2, c3]) rfl ?_
          rw [HN.out, if_neg (by omega), if_neg (by omega)]
          refine ⟨_, rfl, Or.inl ⟨rfl, rfl⟩, ?_⟩
          have hov := HB2.out
          repeat (first | with_reducible exact hov | with_reducible refine Below.setCell ?_ (by first | omega | (simp; done) | (simp; omega)) _)
        | succ e3 =>
          go_wp2_with fail
          refine (KU.out _ (HR.out.below b1.out)).mono ?_
          rintro e w1 ⟨rfl, rfl⟩
          go_wp2_with fail
          refine (closed_err _ _ _ _ _ _ _ _ _ (HNE.out e3)).mono ?_
          rintro e w2 ⟨rfl, hb2⟩
          obtain ⟨⟨c0, c1, c2, c3⟩, ⟨f0, f1, f2, f3⟩, hs2⟩ := cells4 (below_over hb2)
          have HB2 := Lib.hid (below_over (below_over hb2))
          clear hb2
          go_wp2
          refine bodyPost_ret (v := .tuple #[.agg #[.int .i64 0, .int .i64 0, .int .u64 0, .slice none 0 0], .int .i64 0, .int .i64 (cd (e3 + 1))]) (by simp [results, Tryd.results47, go_sem, c0, c1, c2, c3]) rfl ?_
          rw [HN.out, if_neg (by omega), if_pos (by omega)]
          refine ⟨_, rfl, Or.inl ⟨rfl, rfl⟩, ?_⟩
          have hov := HB2.out
          repeat (first | with_reducible exact hov | with_reducible refine Below.setCell ?_ (by first | omega | (simp; done) | (simp; omega)) _)
end Go.Proofs.YthipecjjmboecaaDoor
