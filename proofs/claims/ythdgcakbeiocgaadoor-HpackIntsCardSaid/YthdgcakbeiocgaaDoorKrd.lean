/-
The walks of hpack's reader: check, number, text, header.
-/
import Derived.WalkLawsBesides
import Derived.Test.YthdgcakbeiocgaaDoorKenc
namespace Go.Proofs.YthdgcakbeiocgaaDoor
open Go.RowKit

/-- The way out by a fault: the i-th of the errors, in a panic. -/
def Pan (E : Nat → Addr) (i : Nat) : Ending := .panicked [{ v := .iface 102 (.agg #[eV E (eg i)]), recovered := false }]

theorem check_no (E : Nat → Addr) (i : Nat) (p : Value) (w : World) : Calls Tryd.prog 105 #[p, eV E (eg i)] w fun e w' => e = Pan E i ∧ w = w' := by
  unfold Pan eV
  generalize E (eg i) = p0
  go_enter Tryd.func105, Tryd.ntmps105
  go_wp2
  exact ⟨rfl, rfl, rfl⟩
theorem check_yes (p : Value) (w : World) : Calls Tryd.prog 105 #[p, .nilIface] w fun e w' => e = .returned (.tuple #[]) ∧ w = w' := by
  go_enter Tryd.func105, Tryd.ntmps105
  go_wp2
  go_end0
  exact ⟨rfl, rfl⟩

/-- A reader's cells. -/
structure RC (w : World) (rB g lim : Nat) (a : Option Addr) (n c : Nat) (lv : Value) (z : Nat) : Prop where
  c0 : w.cell? ⟨rB, 0, none⟩ = some (.slice a n c) ∧ w.frozen? ⟨rB, 0, none⟩ = false
  c1 : w.cell? ⟨rB, 1, none⟩ = some (.pointer (some ⟨g, 0, none⟩))
  c2 : w.cell? ⟨rB, 2, none⟩ = some (.int .i64 (lim : Nat))
  c3 : w.cell? ⟨rB, 3, none⟩ = some lv ∧ w.frozen? ⟨rB, 3, none⟩ = false
  c4 : w.cell? ⟨rB, 4, none⟩ = some (.int .i64 (z : Nat)) ∧ w.frozen? ⟨rB, 4, none⟩ = false
theorem RC.lt {w : World} {rB g lim : Nat} {a : Option Addr} {n c : Nat} {lv : Value} {z : Nat} (h : RC w rB g lim a n c lv z) : rB < w.heap.size := World.block_lt_of_cell? _ _ h.c1
theorem RC.block {w w' : World} {rB g lim : Nat} {a : Option Addr} {n c : Nat} {lv : Value} {z : Nat} (h : RC w rB g lim a n c lv z) (hb : w'.heap[rB]? = w.heap[rB]?) : RC w' rB g lim a n c lv z :=
  have kc : ∀ (o : Nat) (v : Value), w.cell? ⟨rB, o, none⟩ = some v → w'.cell? ⟨rB, o, none⟩ = some v := fun o _ hc => (World.cell?_of_block (a := ⟨rB, o, none⟩) hb).trans hc
  have kf : ∀ (o : Nat), w.frozen? ⟨rB, o, none⟩ = false → w'.frozen? ⟨rB, o, none⟩ = false := fun o hc => (World.frozen?_of_block (a := ⟨rB, o, none⟩) hb).trans hc
  ⟨⟨kc _ _ h.c0.1, kf _ h.c0.2⟩, kc _ _ h.c1, kc _ _ h.c2, ⟨kc _ _ h.c3.1, kf _ h.c3.2⟩, ⟨kc _ _ h.c4.1, kf _ h.c4.2⟩⟩
theorem RC.below {w w' : World} {rB g lim : Nat} {a : Option Addr} {n c : Nat} {lv : Value} {z : Nat} (h : RC w rB g lim a n c lv z) (hb : Below w.heap.size w w') : RC w' rB g lim a n c lv z := h.block (hb.block rB h.lt)
theorem RC.only {w w' : World} {rB g g' lim : Nat} {a : Option Addr} {n c : Nat} {lv : Value} {z : Nat} (h : RC w rB g lim a n c lv z) (ho : Only g' w w') (hne : rB ≠ g') : RC w' rB g lim a n c lv z := by
  have ho' : w.grownBy w' (some g') := ho
  exact h.block (ho'.block rB h.lt (fun e => hne (Option.some.inj e)))
theorem RC.rest {w : World} {rB g lim : Nat} {a : Option Addr} {n c : Nat} {lv : Value} {z : Nat} (h : RC w rB g lim a n c lv z) (a' : Option Addr) (n' c' : Nat) : RC (w.setCell ⟨rB, 0, none⟩ (.slice a' n' c')) rB g lim a' n' c' lv z :=
  have kc : ∀ (o : Nat) (v : Value), o ≠ 0 → w.cell? ⟨rB, o, none⟩ = some v → (w.setCell ⟨rB, 0, none⟩ (.slice a' n' c')).cell? ⟨rB, o, none⟩ = some v := fun o _ ho hc => (World.cell?_setCell_other _ _ _ _ (addr_ne (Ne.symm ho))).trans hc
  have kf : ∀ (o : Nat), w.frozen? ⟨rB, o, none⟩ = false → (w.setCell ⟨rB, 0, none⟩ (.slice a' n' c')).frozen? ⟨rB, o, none⟩ = false := fun o hc => by rw [World.frozen?_setCell]; exact hc
  ⟨⟨World.cell?_setCell_same _ _ _ h.c0.1, kf _ h.c0.2⟩, kc _ _ (by omega) h.c1, kc _ _ (by omega) h.c2, ⟨kc _ _ (by omega) h.c3.1, kf _ h.c3.2⟩, ⟨kc _ _ (by omega) h.c4.1, kf _ h.c4.2⟩⟩

set_option maxRecDepth 100000 in
theorem number_yes {B : Nat} (E : Nat → Addr) (b rB g lim : Nat) (a : Option Addr) (n c : Nat) (lv : Value) (z : Nat) (l : List Nat) (v k : Nat) (w : World) (hb1 : 1 ≤ b) (hb : b ≤ 8) (hC : RC w rB g lim a n c lv z) (hl : l.length = n) (hlen : n ≤ 140737488355328) (hr : Rd B w a l) (hE : ErrsAll w E egs) (hg : P.get b l = (v, k, none)) :
    Calls Tryd.prog 103 #[.pointer (some ⟨rB, 0, none⟩), .int .i64 (b : Nat)] w fun e w' => e = .returned (.int .i64 (v : Nat)) ∧ RC w' rB g lim (cutA a c k) (n - k) (c - k) lv z ∧ Only rB w w' := by
  have hok := (P.get_ok (b := b) (l := l) hb (by rw [hg])).2.1
  rw [hg] at hok
  simp only at hok
  rw [hl] at hok
  have HI := Int_b b a n c l E w hb1 hb hl hlen hr hE
  rw [hg] at HI
  simp only [getV, oV] at HI
  have HI := Lib.hid HI
  have HC := Lib.hid hC
  have hrf := run_from a n c k hok
  obtain ⟨⟨c0, f0⟩, _, _, _, _⟩ := hC
  generalize cutA a c k = a2 at *
  clear hr hE hg hl
  go_enter Tryd.func103, Tryd.ntmps103
  go_wp2_with fail
  refine HI.out.mono ?_
  rintro e w1 ⟨rfl, q, rfl⟩
  go_wp2_with (go_at_call 105; refine (check_yes _ _).mono ?_; rintro e w2 ⟨rfl, rfl⟩)
  go_ret
  exact ⟨rfl, (HC.out.below (below_q (Below.refl _ _) q)).rest _ _ _, ((Only.refl rB w).drewN q).set _ _⟩

set_option maxRecDepth 100000 in
theorem number_no {B : Nat} (E : Nat → Addr) (b rB g lim : Nat) (a : Option Addr) (n c : Nat) (lv : Value) (z : Nat) (l : List Nat) (i : Nat) (w : World) (hb1 : 1 ≤ b) (hb : b ≤ 8) (hC : RC w rB g lim a n c lv z) (hl : l.length = n) (hlen : n ≤ 140737488355328) (hr : Rd B w a l) (hE : ErrsAll w E egs) (hg : (P.get b l).2.2 = some i) :
    Calls Tryd.prog 103 #[.pointer (some ⟨rB, 0, none⟩), .int .i64 (b : Nat)] w fun e w' => e = Pan E i ∧ Below w.heap.size w w' := by
  obtain ⟨v, k, hgg⟩ : ∃ v k, P.get b l = (v, k, some i) := ⟨_, _, by rw [← hg]⟩
  have HI := Int_b b a n c l E w hb1 hb hl hlen hr hE
  rw [hgg] at HI
  simp only [getV, oV] at HI
  have HI := Lib.hid HI
  obtain ⟨⟨c0, f0⟩, _, _, _, _⟩ := hC
  have HK := Lib.hid (fun p w => check_no E i p w)
  generalize eV E (eg i) = ev at *
  clear hr hE hg hl hgg
  go_enter Tryd.func103, Tryd.ntmps103
  go_wp2_with fail
  refine HI.out.mono ?_
  rintro e w1 ⟨rfl, q, rfl⟩
  go_wp2_with fail
  refine (HK.out _ _).mono ?_
  rintro e w2 ⟨rfl, rfl⟩
  unfold Pan
  go_wp2
  exact ⟨rfl, rfl, below_q (Below.refl _ _) q⟩

set_option maxRecDepth 100000 in
theorem text_yes {B : Nat} (E : Nat → Addr) (rB g lim : Nat) (a : Option Addr) (n c : Nat) (lv : Value) (z : Nat) (l : List Nat) (t : List Nat) (k : Nat) (w : World) (hC : RC w rB g lim a n c lv z) (hl : l.length = n) (hcap : n ≤ c) (hlen : n ≤ 1000000000) (hr : Rd B w a l) (hE : ErrsAll w E egs) (hg : P.getT l = (t, k, none)) :
    Calls Tryd.prog 111 #[.pointer (some ⟨rB, 0, none⟩)] w fun e w' => e = .returned (.string (strOf t)) ∧ RC w' rB g lim (cutA a c k) (n - k) (c - k) lv z ∧ Only rB w w' := by
  have hok := (P.getT_ok (l := l) (by rw [hg])).2
  rw [hg] at hok
  simp only at hok
  rw [hl] at hok
  have HI := Text_any a n c l E w hl hcap hlen hr hE
  rw [hg] at HI
  simp only [getTV, oV] at HI
  have HI := Lib.hid HI
  have HC := Lib.hid hC
  have hrf := run_from a n c k hok
  obtain ⟨⟨c0, f0⟩, _, _, _, _⟩ := hC
  generalize cutA a c k = a2 at *
  generalize strOf t = st at *
  clear hr hE hg hl
  go_enter Tryd.func111, Tryd.ntmps111
  go_wp2_with fail
  refine HI.out.mono ?_
  rintro e w1 ⟨rfl, hb⟩
  have HB := Lib.hid hb
  have HC1 := Lib.hid (HC.out.below hb)
  clear hb c0 f0
  obtain ⟨⟨c0, f0⟩, _, _, _, _⟩ := HC1.out
  go_wp2_with (go_at_call 105; refine (check_yes _ _).mono ?_; rintro e w2 ⟨rfl, rfl⟩)
  go_ret
  exact ⟨rfl, HC1.out.rest _ _ _, (Below.only HB.out).set _ _⟩

set_option maxRecDepth 100000 in
theorem text_no {B : Nat} (E : Nat → Addr) (rB g lim : Nat) (a : Option Addr) (n c : Nat) (lv : Value) (z : Nat) (l : List Nat) (i : Nat) (w : World) (hC : RC w rB g lim a n c lv z) (hl : l.length = n) (hcap : n ≤ c) (hlen : n ≤ 1000000000) (hr : Rd B w a l) (hE : ErrsAll w E egs) (hg : (P.getT l).2.2 = some i) :
    Calls Tryd.prog 111 #[.pointer (some ⟨rB, 0, none⟩)] w fun e w' => e = Pan E i ∧ Below w.heap.size w w' := by
  obtain ⟨t, k, hgg⟩ : ∃ t k, P.getT l = (t, k, some i) := ⟨_, _, by rw [← hg]⟩
  have HI := Text_any a n c l E w hl hcap hlen hr hE
  rw [hgg] at HI
  simp only [getTV, oV] at HI
  have HI := Lib.hid HI
  obtain ⟨⟨c0, f0⟩, _, _, _, _⟩ := hC
  have HK := Lib.hid (fun p w => check_no E i p w)
  generalize eV E (eg i) = ev at *
  clear hr hE hg hl hgg
  go_enter Tryd.func111, Tryd.ntmps111
  go_wp2_with fail
  refine HI.out.mono ?_
  rintro e w1 ⟨rfl, hb⟩
  have HB := Lib.hid hb
  clear hb
  go_wp2_with fail
  refine (HK.out _ _).mono ?_
  rintro e w2 ⟨rfl, rfl⟩
  unfold Pan
  go_wp2
  exact ⟨rfl, rfl, HB.out⟩

set_option maxRecDepth 100000 in
theorem header_yes (rB g lim : Nat) (a : Option Addr) (n c : Nat) (lv : Value) (z : Nat) (L : List B.HD) (m i : Nat) (w : World) (hC : RC w rB g lim a n c lv z) (hT : Tab w g L m) (hi : i ≤ 2147483647) (hh : B.has L (i : Int) = true) :
    Calls Tryd.prog 102 #[.pointer (some ⟨rB, 0, none⟩), .int .i64 (i : Nat)] w fun e w' => e = .returned (.agg #[.string (B.get L i).1, .string (B.get L i).2, .bool false]) ∧ Below w.heap.size w w' := by
  have hb0 : Below w.heap.size w (w.alloc (.cells #[.string ⟨#[]⟩, .string ⟨#[]⟩, .bool false] 66)) := (Below.refl _ _).alloc (Nat.le_refl _) _
  have HG := get_any g L m i _ (by omega) (hT.below hb0)
  rw [hh] at HG
  have HG := Lib.hid HG
  have c1 := cell_below hb0 hC.c1
  generalize B.get L i = x at *
  obtain ⟨xn, xv⟩ := x
  have HB0 := Lib.hid hb0
  clear hC hT hh hb0
  go_enter Tryd.func102, Tryd.ntmps102
  go_wp2_with fail
  refine HG.out.mono ?_
  rintro e w1 ⟨rfl, hb⟩
  obtain ⟨⟨d0, d1, d2⟩, ⟨f0, f1, f2⟩, hz1⟩ := cells3 hb
  have HB := Lib.hid (below_over hb)
  clear hb HG
  simp only
  go_wp2
  refine bodyPost_ret (v := .agg #[.string xn, .string xv, .bool false]) (by simp [results, Tryd.results102, go_sem, d0, d1, d2, hz1]) rfl ⟨rfl, ?_⟩
  exact (((HB.out.setCell (Nat.le_refl _) _).setCell (Nat.le_refl _) _).setCell (Nat.le_refl _) _).alloc (by simp only [World.size_setCell]; omega) _

set_option maxRecDepth 100000 in
theorem header_no (E : Nat → Addr) (rB g lim : Nat) (a : Option Addr) (n c : Nat) (lv : Value) (z : Nat) (L : List B.HD) (m i : Nat) (w : World) (hC : RC w rB g lim a n c lv z) (hT : Tab w g L m) (hi : i ≤ 2147483647) (hE : ErrsAll w E egs) (hh : B.has L (i : Int) = false) :
    Calls Tryd.prog 102 #[.pointer (some ⟨rB, 0, none⟩), .int .i64 (i : Nat)] w fun e w' => e = Pan E 7 ∧ Below w.heap.size w w' := by
  have hb0 : Below w.heap.size w (w.alloc (.cells #[.string ⟨#[]⟩, .string ⟨#[]⟩, .bool false] 66)) := (Below.refl _ _).alloc (Nat.le_refl _) _
  have HG := get_any g L m i _ (by omega) (hT.below hb0)
  rw [hh] at HG
  have HG := Lib.hid HG
  have c1 := cell_below hb0 hC.c1
  have h7 : w.cell? ⟨6, 0, none⟩ = some (eV E (eg 7)) := egs_cell hE 7 (by omega)
  have h7 := cell_below hb0 h7
  generalize B.get L i = x at *
  obtain ⟨xn, xv⟩ := x
  have HB0 := Lib.hid hb0
  clear hC hT hh hb0 hE
  unfold Pan
  unfold eV at h7 ⊢
  generalize E (eg 7) = p0 at *
  go_enter Tryd.func102, Tryd.ntmps102
  go_wp2_with fail
  refine HG.out.mono ?_
  rintro e w1 ⟨rfl, hb⟩
  have h7 := cell_below hb h7
  have hz1 := World.block_lt_of_cell? _ _ h7
  simp only at hz1
  have HB := Lib.hid (below_over hb)
  have hz2 := HB.out.size
  clear hb HG
  simp only
  go_wp2
  exact ⟨rfl, rfl, HB.out.alloc hz2 _⟩
end Go.Proofs.YthdgcakbeiocgaaDoor
