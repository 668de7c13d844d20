/-
What a reader has still to read; the errors over it; the walk of hpack's named.
-/
import Derived.Test.YthdgcakbeiocgaaDoorKrd
import Derived.Test.YthdgcakbeiocgaaDoorKmathc
namespace Go.Proofs.YthdgcakbeiocgaaDoor
open Go.RowKit

/-- What is left to be read, in a block below B that is not block g. -/
structure RdS (B g : Nat) (w : World) (a : Option Addr) (n c : Nat) (l : List Nat) : Prop where
  len : l.length = n
  cap : n ≤ c
  rd : Rd B w a l
  ng : ∀ ad, a = some ad → ad.block ≠ g
theorem RdS.cut {B g : Nat} {w : World} {a : Option Addr} {n c : Nat} {l : List Nat} (h : RdS B g w a n c l) {k : Nat} (hk : k ≤ n) : RdS B g w (cutA a c k) (n - k) (c - k) (l.drop k) :=
  ⟨by rw [List.length_drop, h.len], by have := h.cap; omega, h.rd.drop (by rw [h.len]; exact h.cap), fun ad e => by
    unfold cutA at e
    split at e
    · exact h.ng ad e
    · cases a with
      | none => cases e
      | some ad' =>
        simp only [Option.map_some, Option.some.injEq] at e
        rw [← e]
        have := h.ng ad' rfl
        unfold Addr.add
        split <;> exact this⟩
theorem RdS.below {B g : Nat} {w w' : World} {a : Option Addr} {n c : Nat} {l : List Nat} (h : RdS B g w a n c l) (hb : Below w.heap.size w w') : RdS B g w' a n c l := ⟨h.len, h.cap, h.rd.below hb, h.ng⟩
theorem RdS.only {B g h : Nat} {w w' : World} {a : Option Addr} {n c : Nat} {l : List Nat} (x : RdS B g w a n c l) (ho : Only h w w') (hh : B ≤ h ∨ h = g) : RdS B g w' a n c l :=
  ⟨x.len, x.cap, ⟨x.rd.1, fun j hj => by
    obtain ⟨b, o, e, hb, hc⟩ := x.rd.2 j hj
    have hn := x.ng _ e
    simp only at hn
    exact ⟨b, o, e, hb, ho.cell (by omega) hc⟩⟩, x.ng⟩

/-- The errors lie as they lay in world V. -/
def EK (V : World) (E : Nat → Addr) (w : World) : Prop := ErrsAll V E egs ∧ ∀ k, k < V.heap.size → w.heap[k]? = V.heap[k]?
theorem EK.all {V w : World} {E : Nat → Addr} (h : EK V E w) : ErrsAll w E egs := fun p hp => by
  obtain ⟨h1, s, c, t, h2, h3, h4⟩ := h.1 p hp
  exact ⟨(World.cell?_of_block (h.2 _ (World.block_lt_of_cell? _ _ h1))).trans h1, s, c, t, (World.cell?_of_block (h.2 _ (World.block_lt_of_cell? _ _ h2))).trans h2, h3, (h.2 _ (World.block_lt_of_cell? _ _ h2)).trans h4⟩
theorem EK.only {V w w' : World} {E : Nat → Addr} {g : Nat} (h : EK V E w) (ho : Only g w w') (hg : V.heap.size ≤ g) (hw : V.heap.size ≤ w.heap.size) : EK V E w' :=
  ⟨h.1, fun k hk => by
    have ho' : w.grownBy w' (some g) := ho
    exact (ho'.block k (by omega) (fun e => by cases e; omega)).trans (h.2 k hk)⟩
theorem EK.below {V w w' : World} {E : Nat → Addr} (h : EK V E w) (hb : Below w.heap.size w w') (hw : V.heap.size ≤ w.heap.size) : EK V E w' :=
  ⟨h.1, fun k hk => (hb.block k (by omega)).trans (h.2 k hk)⟩

theorem Tab.onlyR {w w' : World} {g h : Nat} {L : List B.HD} {m : Nat} (x : Tab w g L m) (ho : Only h w w') (hne : g ≠ h) : Tab w' g L m := by
  obtain ⟨R, o, h1, h2, h3⟩ := x
  have ho' : w.grownBy w' (some h) := ho
  exact ⟨R, o, h1, fun j hj => ⟨ho.cell hne (h2 j hj).1, (World.frozen?_of_block (a := ⟨g, j, none⟩) (ho'.block g (World.block_lt_of_cell? _ _ (h2 j hj).1) (fun e => hne (Option.some.inj e)))).trans (h2 j hj).2⟩, h3⟩
theorem HBox.frozen {w : World} {g : Nat} {n v : ByteArray} {b : Bool} (h : HBox w g n v b) (j : Nat) : w.frozen? ⟨g, j, none⟩ = false := by
  unfold HBox at h
  simp [World.frozen?, h]
/-- A header's variable, cell by cell. -/
structure HC3 (w : World) (g : Nat) (n v : ByteArray) (b : Bool) : Prop where
  x0 : w.cell? ⟨g, 0, none⟩ = some (.string n) ∧ w.frozen? ⟨g, 0, none⟩ = false
  x1 : w.cell? ⟨g, 1, none⟩ = some (.string v) ∧ w.frozen? ⟨g, 1, none⟩ = false
  x2 : w.cell? ⟨g, 2, none⟩ = some (.bool b) ∧ w.frozen? ⟨g, 2, none⟩ = false
theorem HBox.c3 {w : World} {g : Nat} {n v : ByteArray} {b : Bool} (h : HBox w g n v b) : HC3 w g n v b := ⟨⟨h.cells.1, h.frozen 0⟩, ⟨h.cells.2.1, h.frozen 1⟩, ⟨h.cells.2.2, h.frozen 2⟩⟩
theorem HC3.lt {w : World} {g : Nat} {n v : ByteArray} {b : Bool} (h : HC3 w g n v b) : g < w.heap.size := World.block_lt_of_cell? _ _ h.x0.1
theorem HC3.block {w w' : World} {g : Nat} {n v : ByteArray} {b : Bool} (h : HC3 w g n v b) (hb : w'.heap[g]? = w.heap[g]?) : HC3 w' g n v b :=
  have k : ∀ (o : Nat) (u : Value), w.cell? ⟨g, o, none⟩ = some u ∧ w.frozen? ⟨g, o, none⟩ = false → w'.cell? ⟨g, o, none⟩ = some u ∧ w'.frozen? ⟨g, o, none⟩ = false := fun o _ h =>
    ⟨(World.cell?_of_block (a := ⟨g, o, none⟩) hb).trans h.1, (World.frozen?_of_block (a := ⟨g, o, none⟩) hb).trans h.2⟩
  ⟨k _ _ h.x0, k _ _ h.x1, k _ _ h.x2⟩
theorem HC3.only {w w' : World} {g h : Nat} {n v : ByteArray} {b : Bool} (x : HC3 w g n v b) (ho : Only h w w') (hne : g ≠ h) : HC3 w' g n v b := by
  have ho' : w.grownBy w' (some h) := ho
  exact x.block (ho'.block g x.lt (fun e => hne (Option.some.inj e)))
theorem HC3.below {w w' : World} {g : Nat} {n v : ByteArray} {b : Bool} (x : HC3 w g n v b) (hb : Below w.heap.size w w') : HC3 w' g n v b := x.block (hb.block g x.lt)
theorem cell_sib {w : World} {b i j : Nat} {v u : Value} (h : i ≠ j) (hc : w.cell? ⟨b, j, none⟩ = some u ∧ w.frozen? ⟨b, j, none⟩ = false) : (w.setCell ⟨b, i, none⟩ v).cell? ⟨b, j, none⟩ = some u ∧ (w.setCell ⟨b, i, none⟩ v).frozen? ⟨b, j, none⟩ = false :=
  ⟨(World.cell?_setCell_other _ _ _ _ (addr_ne h)).trans hc.1, by rw [World.frozen?_setCell]; exact hc.2⟩
theorem cell_own {w : World} {b i : Nat} {v u : Value} (hc : w.cell? ⟨b, i, none⟩ = some u ∧ w.frozen? ⟨b, i, none⟩ = false) : (w.setCell ⟨b, i, none⟩ v).cell? ⟨b, i, none⟩ = some v ∧ (w.setCell ⟨b, i, none⟩ v).frozen? ⟨b, i, none⟩ = false :=
  ⟨World.cell?_setCell_same _ _ _ hc.1, by rw [World.frozen?_setCell]; exact hc.2⟩
theorem HC3.set0 {w : World} {g : Nat} {n v : ByteArray} {b : Bool} (h : HC3 w g n v b) (n' : ByteArray) : HC3 (w.setCell ⟨g, 0, none⟩ (.string n')) g n' v b := ⟨cell_own h.x0, cell_sib (by omega) h.x1, cell_sib (by omega) h.x2⟩
theorem HC3.set1 {w : World} {g : Nat} {n v : ByteArray} {b : Bool} (h : HC3 w g n v b) (v' : ByteArray) : HC3 (w.setCell ⟨g, 1, none⟩ (.string v')) g n v' b := ⟨cell_sib (by omega) h.x0, cell_own h.x1, cell_sib (by omega) h.x2⟩
theorem HC3.set2 {w : World} {g : Nat} {n v : ByteArray} {b : Bool} (h : HC3 w g n v b) (b' : Bool) : HC3 (w.setCell ⟨g, 2, none⟩ (.bool b')) g n v b' := ⟨cell_sib (by omega) h.x0, cell_sib (by omega) h.x1, cell_own h.x2⟩

/-- What named hands back, or the fault. -/
def NamedPost (Kb : Nat) (E : Nat → Addr) (rB g lim : Nat) (lv : Value) (z : Nat) (r : Except Nat (B.HD × List Nat)) (w : World) (e : Ending) (w' : World) : Prop :=
  Only rB w w' ∧ match r with
  | .error i => e = Pan E i
  | .ok (h, l') => e = .returned (.agg #[.string h.1, .string h.2, .bool false]) ∧ ∃ a' n' c', RC w' rB g lim a' n' c' lv z ∧ RdS Kb g w' a' n' c' l'

set_option maxRecDepth 100000 in
set_option maxHeartbeats 2000000 in
theorem named_any {Kb : Nat} (V : World) (E : Nat → Addr) (b rB g lim : Nat) (a : Option Addr) (n c : Nat) (lv : Value) (z : Nat) (l : List Nat) (L : List B.HD) (m : Nat) (w : World) (hb1 : 1 ≤ b) (hb : b ≤ 8) (hC : RC w rB g lim a n c lv z) (hR : RdS Kb g w a n c l) (hlen : n ≤ 1000000000) (hE : EK V E w) (hT : Tab w g L m)
    (hBr : Kb ≤ rB) (hVr : V.heap.size ≤ rB) (hne : rB ≠ g) :
    Calls Tryd.prog 104 #[.pointer (some ⟨rB, 0, none⟩), .int .i64 (b : Nat)] w (NamedPost Kb E rB g lim lv z (P.named L b l) w) := by
  have hrB := hC.lt
  obtain ⟨wa, hwa⟩ : ∃ wa, wa = w.alloc (.cells #[.string ⟨#[]⟩, .string ⟨#[]⟩, .bool false] 66) := ⟨_, rfl⟩
  have hza : wa.heap.size = w.heap.size + 1 := by rw [hwa]; simp
  have hba : Below w.heap.size w wa := by rw [hwa]; exact (Below.refl _ _).alloc (Nat.le_refl _) _
  have hxa : HBox wa w.heap.size ⟨#[]⟩ ⟨#[]⟩ false := by rw [hwa]; exact HBox.new _ _ _ _
  obtain ⟨w0, hw0⟩ : ∃ w0, w0 = wa.alloc (.cells #[.string ⟨#[]⟩, .string ⟨#[]⟩, .bool false] 66) := ⟨_, rfl⟩
  have hbb : Below wa.heap.size wa w0 := by rw [hw0]; exact (Below.refl _ _).alloc (Nat.le_refl _) _
  have hz0 : w0.heap.size = w.heap.size + 2 := by rw [hw0]; simp; omega
  have hxb : HBox w0 (w.heap.size + 1) ⟨#[]⟩ ⟨#[]⟩ false := by rw [hw0, ← hza]; exact HBox.new _ _ _ _
  replace hxa : HBox w0 w.heap.size ⟨#[]⟩ ⟨#[]⟩ false := hxa.noB (NoB.below hbb)
  have hb0 : Below w.heap.size w w0 := hba.trans (hbb.mono (by omega))
  have HC := Lib.hid (hC.below hb0)
  have HR := Lib.hid (hR.below hb0)
  have HE := Lib.hid (hE.below hb0 (by omega))
  have HT := Lib.hid (hT.below hb0)
  have HXa := Lib.hid hxa
  have HXb := Lib.hid hxb
  have HO0 : Hid (Only rB w w0) := Below.only hb0
  have hz02 : w.heap.size + 2 ≤ w0.heap.size := by omega
  clear hC hR hE hT hxa hxb hb0 hba hbb hz0
  have hfd : ∀ (n v : ByteArray) (b : Bool) (w : World), (Instr.field 66 (.agg #[.string n, .string v, .bool b]) 0).run Tryd.prog w = .ok (.string n) w := fun _ _ _ _ => by kernel_rfl
  go_enter Tryd.func104, Tryd.ntmps104
  cases hrn : P.rnum b l with
  | error i =>
    have HP : Hid (P.named L b l = .error i) := by show _ = _; unfold P.named; rw [hrn]
    go_wp2_with fail
    rw [← hwa, ← hw0]
    refine (number_no (B := Kb) E b rB g lim a n c lv z l i w0 hb1 hb HC.out HR.out.len (by omega) HR.out.rd HE.out.all (P.rnum_err hrn)).mono ?_
    rintro e w1 ⟨rfl, hb1'⟩
    unfold Pan
    go_wp2
    refine ⟨rfl, HO0.out.below hb1', ?_⟩
    rw [HP.out]
    rfl
  | ok p =>
    obtain ⟨i, l1⟩ := p
    obtain ⟨hl1, hi, k, hg, rfl⟩ := P.rnum_len hb hrn
    have hkn : k ≤ n := by
      have := (P.get_ok (b := b) (l := l) hb (by rw [hg])).2.1
      rw [hg, HR.out.len] at this
      exact this
    go_wp2_with fail
    rw [← hwa, ← hw0]
    clear hwa hw0
    refine (number_yes (B := Kb) E b rB g lim a n c lv z l i k w0 hb1 hb HC.out HR.out.len (by omega) HR.out.rd HE.out.all hg).mono ?_
    rintro e w1 ⟨rfl, hc1, ho1⟩
    have HC1 := Lib.hid hc1
    have HR1 := Lib.hid ((HR.out.only ho1 (Or.inl hBr)).cut hkn)
    have HE1 := Lib.hid (HE.out.only ho1 hVr (by omega))
    have HXa1 := Lib.hid (HXa.out.only ho1 (by omega))
    have HXb1 := Lib.hid (HXb.out.only ho1 (by omega))
    have HO1 := Lib.hid (HO0.out.trans ho1)
    have hz1 := ho1.size
    have HT1 := Lib.hid (HT.out.onlyR ho1 (fun e => hne e.symm))
    have HA1 := Lib.hid HXa1.out.c3
    have HB1 := Lib.hid HXb1.out.c3
    clear hc1 ho1 HC HR HE HXa HXb HO0
    have hlen1 : n - k ≤ 1000000000 := by omega
    by_cases hi0 : 0 < i
    · have q1 : (0 : Int) < (i : Int) := by omega
      cases hh : B.has L (i : Int) with
      | false =>
        have HP : Hid (P.named L b l = .error 7) := by show _ = _; unfold P.named; rw [hrn]; simp only; rw [if_pos hi0, if_neg (by rw [hh]; simp)]
        go_wp2_with fail
        refine (header_no E rB g lim _ _ _ lv z L m i w1 HC1.out HT1.out hi HE1.out.all hh).mono ?_
        rintro e w2 ⟨rfl, hb2⟩
        unfold Pan
        go_wp2
        refine ⟨rfl, HO1.out.below hb2, ?_⟩
        rw [HP.out]
        rfl
      | true =>
      go_wp2_with fail
      refine (header_yes rB g lim _ _ _ lv z L m i w1 HC1.out HT1.out hi hh).mono ?_
      rintro e w2 ⟨rfl, hb2⟩
      have HC2 := Lib.hid (HC1.out.below hb2)
      have HR2 := Lib.hid (HR1.out.below hb2)
      have HE2 := Lib.hid (HE1.out.below hb2 (by omega))
      have HA2 := Lib.hid (HA1.out.below hb2)
      have HB2 := Lib.hid (HB1.out.below hb2)
      have HO2 := Lib.hid (HO1.out.below hb2)
      have hz2 := hb2.size
      clear hb2 HC1 HR1 HE1 HA1 HB1 HO1 HXa1 HXb1
      obtain ⟨gx, hgx⟩ : ∃ gx, gx = B.get L (i : Int) := ⟨_, rfl⟩
      rw [← hgx]
      obtain ⟨gn, gv⟩ := gx
      simp only
      -- the value
      have HCx := Lib.hid (HC2.out.only ((Only.refl (w.heap.size + 1) w2).set 0 (.string gn)) (by omega))
      have HRx := Lib.hid (HR2.out.only ((Only.refl (w.heap.size + 1) w2).set 0 (.string gn)) (Or.inl (by omega)))
      have HEx := Lib.hid (HE2.out.only ((Only.refl (w.heap.size + 1) w2).set 0 (.string gn)) (by omega) (by omega))
      have HAx := Lib.hid (HA2.out.only ((Only.refl (w.heap.size + 1) w2).set 0 (.string gn)) (by omega))
      have HBx := Lib.hid (HB2.out.set0 gn)
      have HOx := Lib.hid (HO2.out.setNew (show w.heap.size ≤ w.heap.size + 1 by omega) 0 (.string gn))
      obtain ⟨z0, _, _⟩ := HB2.out
      obtain ⟨z0, y0⟩ := z0
      obtain ⟨w3, hw3⟩ : ∃ w3, w3 = w2.setCell ⟨w.heap.size + 1, 0, none⟩ (.string gn) := ⟨_, rfl⟩
      have hz3 : w2.heap.size = w3.heap.size := by rw [hw3]; simp
      rw [← hw3] at HCx HRx HEx HAx HBx HOx
      clear HC2 HR2 HE2 HA2 HB2 HO2
      cases hrv : P.rtxt (l.drop k) with
      | error j =>
        have HP : Hid (P.named L b l = .error j) := by show _ = _; unfold P.named; rw [hrn]; simp only; rw [if_pos hi0, if_pos hh, hrv]
        go_wp2_with fail
        rw [← hw3]
        clear hw3 z0 y0
        refine (text_no (B := Kb) E rB g lim (cutA a c k) (n - k) (c - k) lv z (l.drop k) j w3 HCx.out HRx.out.len HRx.out.cap (by omega) HRx.out.rd HEx.out.all (P.rtxt_err hrv)).mono ?_
        rintro e w4 ⟨rfl, hb4⟩
        unfold Pan
        go_wp2
        refine ⟨rfl, HOx.out.below hb4, ?_⟩
        rw [HP.out]
        rfl
      | ok p2 =>
        obtain ⟨vv, l2⟩ := p2
        obtain ⟨hl2, t, k2, hg2, rfl, rfl⟩ := P.rtxt_len hrv
        have HP : Hid (P.named L b l = .ok ((gn, strOf t), ((l.drop k)).drop k2)) := by show _ = _; unfold P.named; rw [hrn]; simp only; rw [if_pos hi0, if_pos hh, hrv, ← hgx]
        have hk2 : k2 ≤ (n - k) := by
          have := (P.getT_ok (l := (l.drop k)) (by rw [hg2])).2
          rw [hg2, HRx.out.len] at this
          exact this
        go_wp2_with fail
        rw [← hw3]
        clear hw3 z0 y0
        refine (text_yes (B := Kb) E rB g lim (cutA a c k) (n - k) (c - k) lv z (l.drop k) t k2 w3 HCx.out HRx.out.len HRx.out.cap (by omega) HRx.out.rd HEx.out.all hg2).mono ?_
        rintro e w4 ⟨rfl, hc4, ho4⟩
        have HC4 := Lib.hid hc4
        have HR4 := Lib.hid ((HRx.out.only ho4 (Or.inl hBr)).cut hk2)
        have HA4 := Lib.hid (HAx.out.only ho4 (by omega))
        have HB4 := Lib.hid (HBx.out.only ho4 (by omega))
        have HO4 := Lib.hid (HOx.out.trans ho4)
        clear hc4 ho4 HCx HRx HEx HAx HBx HOx hg2
        generalize strOf t = tv at *
        obtain ⟨⟨x0, u0⟩, ⟨x1, u1⟩, x2, u2⟩ := HB4.out
        obtain ⟨⟨a0, e0⟩, ⟨a1, e1⟩, a2', e2⟩ := HA4.out
        have hn12 : w.heap.size + 1 ≠ w.heap.size := by omega
        have HC5 := Lib.hid ((((HC4.out.only ((Only.refl (w.heap.size + 1) w4).set 1 (.string tv)) (by omega)).only ((Only.refl w.heap.size _).set 0 (.string gn)) (by omega)).only ((Only.refl w.heap.size _).set 1 (.string tv)) (by omega)).only ((Only.refl w.heap.size _).set 2 (.bool false)) (by omega))
        have HR5 := Lib.hid ((((HR4.out.only ((Only.refl (w.heap.size + 1) w4).set 1 (.string tv)) (Or.inl (by omega))).only ((Only.refl w.heap.size _).set 0 (.string gn)) (Or.inl (by omega))).only ((Only.refl w.heap.size _).set 1 (.string tv)) (Or.inl (by omega))).only ((Only.refl w.heap.size _).set 2 (.bool false)) (Or.inl (by omega)))
        have HO5 := Lib.hid ((((HO4.out.setNew (show w.heap.size ≤ w.heap.size + 1 by omega) 1 (.string tv)).setNew (Nat.le_refl _) 0 (.string gn)).setNew (Nat.le_refl _) 1 (.string tv)).setNew (Nat.le_refl _) 2 (.bool false))
        clear HC4 HR4 HO4 HA4 HB4
        go_wp2
        refine bodyPost_ret (v := .agg #[.string gn, .string tv, .bool false]) (by simp [results, Tryd.results104, go_sem, a0, a1, a2']) rfl ⟨HO5.out, ?_⟩
        rw [HP.out]
        exact ⟨rfl, _, _, _, HC5.out, HR5.out⟩
    · obtain rfl : i = 0 := by omega
      cases hrt : P.rtxt (l.drop k) with
      | error j =>
        have HP : Hid (P.named L b l = .error j) := by show _ = _; unfold P.named; rw [hrn]; simp only; rw [if_neg (by omega), hrt]
        go_wp2_with fail
        refine (text_no (B := Kb) E rB g lim (cutA a c k) (n - k) (c - k) lv z (l.drop k) j w1 HC1.out HR1.out.len HR1.out.cap (by omega) HR1.out.rd HE1.out.all (P.rtxt_err hrt)).mono ?_
        rintro e w4 ⟨rfl, hb4⟩
        unfold Pan
        go_wp2
        refine ⟨rfl, HO1.out.below hb4, ?_⟩
        rw [HP.out]
        rfl
      | ok p1 =>
      obtain ⟨tn, lx⟩ := p1
      obtain ⟨hlx, t1, k1, hg1, htn, rfl⟩ := P.rtxt_len hrt
      have hk1 : k1 ≤ n - k := by
        have := (P.getT_ok (l := l.drop k) (by rw [hg1])).2
        rw [hg1, HR1.out.len] at this
        exact this
      go_wp2_with fail
      refine (text_yes (B := Kb) E rB g lim (cutA a c k) (n - k) (c - k) lv z (l.drop k) t1 k1 w1 HC1.out HR1.out.len HR1.out.cap (by omega) HR1.out.rd HE1.out.all hg1).mono ?_
      rintro e w2 ⟨rfl, hc2, ho2⟩
      rw [← htn]
      have HC2 := Lib.hid hc2
      have HR2 := Lib.hid ((HR1.out.only ho2 (Or.inl hBr)).cut hk1)
      have HE2 := Lib.hid (HE1.out.only ho2 hVr (by omega))
      have HA2 := Lib.hid (HA1.out.only ho2 (by omega))
      have HB2 := Lib.hid (HB1.out.only ho2 (by omega))
      have HO2 := Lib.hid (HO1.out.trans ho2)
      have hz2 := ho2.size
      clear hc2 ho2 HC1 HR1 HE1 HA1 HB1 HO1 HXa1 HXb1 hg1 htn
      -- the value
      have HCx := Lib.hid (HC2.out.only ((Only.refl (w.heap.size + 1) w2).set 0 (.string tn)) (by omega))
      have HRx := Lib.hid (HR2.out.only ((Only.refl (w.heap.size + 1) w2).set 0 (.string tn)) (Or.inl (by omega)))
      have HEx := Lib.hid (HE2.out.only ((Only.refl (w.heap.size + 1) w2).set 0 (.string tn)) (by omega) (by omega))
      have HAx := Lib.hid (HA2.out.only ((Only.refl (w.heap.size + 1) w2).set 0 (.string tn)) (by omega))
      have HBx := Lib.hid (HB2.out.set0 tn)
      have HOx := Lib.hid (HO2.out.setNew (show w.heap.size ≤ w.heap.size + 1 by omega) 0 (.string tn))
      obtain ⟨z0, _, _⟩ := HB2.out
      obtain ⟨z0, y0⟩ := z0
      obtain ⟨w3, hw3⟩ : ∃ w3, w3 = w2.setCell ⟨w.heap.size + 1, 0, none⟩ (.string tn) := ⟨_, rfl⟩
      have hz3 : w2.heap.size = w3.heap.size := by rw [hw3]; simp
      rw [← hw3] at HCx HRx HEx HAx HBx HOx
      clear HC2 HR2 HE2 HA2 HB2 HO2
      cases hrv : P.rtxt ((l.drop k).drop k1) with
      | error j =>
        have HP : Hid (P.named L b l = .error j) := by show _ = _; unfold P.named; rw [hrn]; simp only; rw [if_neg (by omega), hrt]; simp only; rw [hrv]
        go_wp2_with fail
        rw [← hw3]
        clear hw3 z0 y0
        refine (text_no (B := Kb) E rB g lim (cutA (cutA a c k) (c - k) k1) (n - k - k1) (c - k - k1) lv z ((l.drop k).drop k1) j w3 HCx.out HRx.out.len HRx.out.cap (by omega) HRx.out.rd HEx.out.all (P.rtxt_err hrv)).mono ?_
        rintro e w4 ⟨rfl, hb4⟩
        unfold Pan
        go_wp2
        refine ⟨rfl, HOx.out.below hb4, ?_⟩
        rw [HP.out]
        rfl
      | ok p2 =>
        obtain ⟨vv, l2⟩ := p2
        obtain ⟨hl2, t, k2, hg2, rfl, rfl⟩ := P.rtxt_len hrv
        have HP : Hid (P.named L b l = .ok ((tn, strOf t), (((l.drop k).drop k1)).drop k2)) := by show _ = _; unfold P.named; rw [hrn]; simp only; rw [if_neg (by omega), hrt]; simp only; rw [hrv]
        have hk2 : k2 ≤ (n - k - k1) := by
          have := (P.getT_ok (l := ((l.drop k).drop k1)) (by rw [hg2])).2
          rw [hg2, HRx.out.len] at this
          exact this
        go_wp2_with fail
        rw [← hw3]
        clear hw3 z0 y0
        refine (text_yes (B := Kb) E rB g lim (cutA (cutA a c k) (c - k) k1) (n - k - k1) (c - k - k1) lv z ((l.drop k).drop k1) t k2 w3 HCx.out HRx.out.len HRx.out.cap (by omega) HRx.out.rd HEx.out.all hg2).mono ?_
        rintro e w4 ⟨rfl, hc4, ho4⟩
        have HC4 := Lib.hid hc4
        have HR4 := Lib.hid ((HRx.out.only ho4 (Or.inl hBr)).cut hk2)
        have HA4 := Lib.hid (HAx.out.only ho4 (by omega))
        have HB4 := Lib.hid (HBx.out.only ho4 (by omega))
        have HO4 := Lib.hid (HOx.out.trans ho4)
        clear hc4 ho4 HCx HRx HEx HAx HBx HOx hg2
        generalize strOf t = tv at *
        obtain ⟨⟨x0, u0⟩, ⟨x1, u1⟩, x2, u2⟩ := HB4.out
        obtain ⟨⟨a0, e0⟩, ⟨a1, e1⟩, a2', e2⟩ := HA4.out
        have hn12 : w.heap.size + 1 ≠ w.heap.size := by omega
        have HC5 := Lib.hid ((((HC4.out.only ((Only.refl (w.heap.size + 1) w4).set 1 (.string tv)) (by omega)).only ((Only.refl w.heap.size _).set 0 (.string tn)) (by omega)).only ((Only.refl w.heap.size _).set 1 (.string tv)) (by omega)).only ((Only.refl w.heap.size _).set 2 (.bool false)) (by omega))
        have HR5 := Lib.hid ((((HR4.out.only ((Only.refl (w.heap.size + 1) w4).set 1 (.string tv)) (Or.inl (by omega))).only ((Only.refl w.heap.size _).set 0 (.string tn)) (Or.inl (by omega))).only ((Only.refl w.heap.size _).set 1 (.string tv)) (Or.inl (by omega))).only ((Only.refl w.heap.size _).set 2 (.bool false)) (Or.inl (by omega)))
        have HO5 := Lib.hid ((((HO4.out.setNew (show w.heap.size ≤ w.heap.size + 1 by omega) 1 (.string tv)).setNew (Nat.le_refl _) 0 (.string tn)).setNew (Nat.le_refl _) 1 (.string tv)).setNew (Nat.le_refl _) 2 (.bool false))
        clear HC4 HR4 HO4 HA4 HB4
        go_wp2
        refine bodyPost_ret (v := .agg #[.string tn, .string tv, .bool false]) (by simp [results, Tryd.results104, go_sem, a0, a1, a2']) rfl ⟨HO5.out, ?_⟩
        rw [HP.out]
        exact ⟨rfl, _, _, _, HC5.out, HR5.out⟩
end Go.Proofs.YthdgcakbeiocgaaDoor
