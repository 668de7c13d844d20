/-
The walk of hpack's tell.
-/
import Derived.Deep.RegionWith
import Derived.Test.YthdgcakbeiocgaaDoorKrow
namespace Go.Proofs.YthdgcakbeiocgaaDoor
open Go.RowKit

theorem frz_below {w w' : World} (h : Below w.heap.size w w') {p : Addr} {v : Value} (hc : w.cell? p = some v) {b : Bool} (hf : w.frozen? p = b) : w'.frozen? p = b :=
  (h.frozen (World.block_lt_of_cell? w p hc)).trans hf
theorem RC.size {w : World} {rB g lim : Nat} {a : Option Addr} {n c : Nat} {lv : Value} {z : Nat} (h : RC w rB g lim a n c lv z) (z' : Nat) : RC (w.setCell ⟨rB, 4, none⟩ (.int .i64 (z' : Nat))) rB g lim a n c lv z' :=
  ⟨cell_sib (by omega) h.c0, (World.cell?_setCell_other _ _ _ _ (addr_ne (by omega))).trans h.c1, (World.cell?_setCell_other _ _ _ _ (addr_ne (by omega))).trans h.c2, cell_sib (by omega) h.c3, cell_own h.c4⟩
theorem RC.list {w : World} {rB g lim : Nat} {a : Option Addr} {n c : Nat} {lv : Value} {z : Nat} (h : RC w rB g lim a n c lv z) (lv' : Value) : RC (w.setCell ⟨rB, 3, none⟩ lv') rB g lim a n c lv' z :=
  ⟨cell_sib (by omega) h.c0, (World.cell?_setCell_other _ _ _ _ (addr_ne (by omega))).trans h.c1, (World.cell?_setCell_other _ _ _ _ (addr_ne (by omega))).trans h.c2, cell_own h.c3, cell_sib (by omega) h.c4⟩

theorem OnlyB.grow {B g : Nat} {a b : World} {v : Value} (h : a.grownBy b v.ownBlock) (hv : ∀ k, v.ownBlock = some k → B ≤ k) (hB : B ≤ a.heap.size) : OnlyB B g a b :=
  ⟨h.os, h.tape, h.output, h.size, fun i hi _ => h.block i (by omega) (fun e => by have := hv i e.symm; omega)⟩
theorem OnlyB.set (B g : Nat) (a : World) (j : Nat) (v : Value) : OnlyB B g a (a.setCell ⟨g, j, none⟩ v) :=
  ⟨rfl, rfl, rfl, by simp, fun _ _ hn => Below.heap_setCell _ _ _ _ hn⟩

/-- All that there was stands, but for two blocks. -/
structure Kp (rB : Nat) (o : Option Nat) (w w' : World) : Prop where
  size : w.heap.size ≤ w'.heap.size
  block : ∀ x, x < w.heap.size → x ≠ rB → o ≠ some x → w'.heap[x]? = w.heap[x]?
theorem Kp.trans {rB : Nat} {o : Option Nat} {a b c : World} (h : Kp rB o a b) (k : Kp rB o b c) : Kp rB o a c :=
  ⟨Nat.le_trans h.size k.size, fun x h1 h2 h3 => (k.block x (Nat.lt_of_lt_of_le h1 h.size) h2 h3).trans (h.block x h1 h2 h3)⟩
theorem Kp.of_below {rB : Nat} {o : Option Nat} {a b : World} (h : Below a.heap.size a b) : Kp rB o a b := ⟨h.size, fun x h1 _ _ => h.block x h1⟩
theorem Kp.grow {rB : Nat} {o : Option Nat} {a b : World} (h : a.grownBy b o) : Kp rB o a b := ⟨h.size, fun x h1 _ h3 => h.block x h1 (fun e => h3 e.symm)⟩
theorem Kp.set (rB : Nat) (o : Option Nat) (a : World) (j : Nat) (v : Value) : Kp rB o a (a.setCell ⟨rB, j, none⟩ v) := ⟨by simp, fun _ _ hn _ => Below.heap_setCell _ _ _ _ hn⟩

/-- What tell hands back, or the fault. -/
def TellPost (Kl : Nat) (E : Nat → Addr) (rB g lim : Nat) (a : Option Addr) (n c : Nat) (lv : Value) (z s : Nat) (A : List (B.HD × Bool)) (h : B.HD × Bool) (w : World) (e : Ending) (w' : World) : Prop :=
  OnlyB Kl rB w w' ∧ Kp rB lv.ownBlock w w' ∧ if 16384 < z + s then e = Pan E 9 else e = .returned (.tuple #[]) ∧ ∃ lv', RC w' rB g lim a n c lv' (z + s) ∧ QOwn Kl w' lv' (A ++ [h])

set_option maxRecDepth 100000 in
set_option maxHeartbeats 4000000 in
theorem tell_any (Kl : Nat) (V : World) (E : Nat → Addr) (rB g lim : Nat) (a : Option Addr) (n c : Nat) (lv : Value) (z : Nat) (A : List (B.HD × Bool)) (hn hv : ByteArray) (nv : Bool) (w : World) (hC : RC w rB g lim a n c lv z) (hQ : QOwn Kl w lv A) (hE : EK V E w) (hV : V.heap.size ≤ rB) (hKl : rB < Kl) (hKw : Kl ≤ w.heap.size)
    (hz : z ≤ 16384) (hzA : A.length * 32 ≤ z) (hsn : hn.size ≤ 100000000) (hsv : hv.size ≤ 100000000) :
    Calls Tryd.prog 101 #[.pointer (some ⟨rB, 0, none⟩), .agg #[.string hn, .string hv, .bool nv]] w (TellPost Kl E rB g lim a n c lv z (B.sz (hn, hv)) A ((hn, hv), nv) w) := by
  have hrB := hC.lt
  obtain ⟨w0, hw0⟩ : ∃ w0, w0 = w.alloc (.cells #[.string hn, .string hv, .bool nv] 66) := ⟨_, rfl⟩
  have hb0 : Below w.heap.size w w0 := by rw [hw0]; exact (Below.refl _ _).alloc (Nat.le_refl _) _
  have hx : HBox w0 w.heap.size hn hv nv := by rw [hw0]; exact HBox.new _ _ _ _
  have hz0 : w.heap.size < w0.heap.size := by rw [hw0]; simp
  have HC := Lib.hid (hC.below hb0)
  have HQ := Lib.hid (hQ.below hb0)
  have HE := Lib.hid (hE.below hb0 (by omega))
  have HX := Lib.hid hx
  have HO0 : Hid (OnlyB Kl rB w w0) := OnlyB.of_below (hb0.mono hKw)
  have HK0 : Hid (Kp rB lv.ownBlock w w0) := Kp.of_below hb0
  have HSz := Lib.hid (fun w => size_any hn hv nv w (by omega) (by omega))
  have hsz0 : B.sz (hn, hv) ≤ 1000000000 := by unfold B.sz; simp only; omega
  obtain ⟨s, hs⟩ : ∃ s, s = B.sz (hn, hv) := ⟨_, rfl⟩
  rw [← hs] at HSz hsz0 ⊢
  obtain ⟨c0, c1, c2, c3, c4, f4⟩ := HC.out
  obtain ⟨x0, x1, x2⟩ := hx.cells
  clear hC hQ hE hb0 hx hs c0 c1 c2 c3
  go_enter Tryd.func101, Tryd.ntmps101
  go_upto_region 1 with (fail)
  rw [← hw0]
  clear hw0
  go_region_with (first | (go_at_call 56; refine (HSz.out _).mono ?_; rintro e w1 ⟨rfl, hb1⟩; have HB1 : Hid (Below w0.heap.size w0 w1) := (below_drew' w0).trans hb1; clear hb1; have d4 := cell_below HB1.out c4; have k4 := frz_below HB1.out c4 f4))
  all_goals
    have ew : IntKind.i64.wrap ((z : Int) + (s : Int)) = ((z + s : Nat) : Int) := by rw [IntKind.wrap_i64]; omega
    rw [ew]
    have HC2 := Lib.hid ((HC.out.below HB1.out).size (z + s))
    have HO2 : Hid (OnlyB Kl rB w (w1.setCell ⟨rB, 4, none⟩ (.int .i64 ((z + s : Nat) : Int)))) := (HO0.out.trans (OnlyB.of_below (HB1.out.mono (by omega)))).trans (OnlyB.set _ _ _ _ _)
    have HK2 : Hid (Kp rB lv.ownBlock w (w1.setCell ⟨rB, 4, none⟩ (.int .i64 ((z + s : Nat) : Int)))) := (HK0.out.trans (Kp.of_below HB1.out)).trans (Kp.set _ _ _ _ _)
    have HQ2 : Hid (QOwn Kl (w1.setCell ⟨rB, 4, none⟩ (.int .i64 ((z + s : Nat) : Int))) lv A) := (HQ.out.below HB1.out).only ((Only.refl rB w1).set _ _) (fun e => by have := (HQ.out.lt rB e).1; omega)
    have HE2 : Hid (EK V E (w1.setCell ⟨rB, 4, none⟩ (.int .i64 ((z + s : Nat) : Int)))) := (HE.out.below HB1.out (by omega)).only ((Only.refl rB w1).set _ _) hV (by have := HB1.out.size; omega)
    have HX2 : Hid (HBox (w1.setCell ⟨rB, 4, none⟩ (.int .i64 ((z + s : Nat) : Int))) w.heap.size hn hv nv) := (HX.out.noB (NoB.below HB1.out)).only ((Only.refl rB w1).set _ _) (by omega)
    have hz2 : w0.heap.size ≤ (w1.setCell ⟨rB, 4, none⟩ (.int .i64 ((z + s : Nat) : Int))).heap.size := by rw [World.size_setCell]; exact HB1.out.size
    clear HC HQ HE HX HO0 HK0 HB1 d4 k4 ew x0 x1 x2 c4 f4 HSz
    generalize w1.setCell ⟨rB, 4, none⟩ (.int .i64 ((z + s : Nat) : Int)) = w2 at *
    obtain ⟨x0, x1, x2⟩ := HX2.out.cells
    obtain ⟨_, _, _, ⟨c3, f3⟩, c4, f4⟩ := HC2.out
    by_cases hbig : 16384 < z + s
    · have h9 : w2.cell? ⟨5, 0, none⟩ = some (eV E (eg 9)) := egs_cell HE2.out.all 9 (by omega)
      have q1 : (16384 : Int) < ((z + s : Nat) : Int) := by omega
      unfold eV at h9
      go_wp2
      refine ⟨rfl, HO2.out, HK2.out, ?_⟩
      rw [if_pos hbig]
      rfl
    · have q1 : ¬ (16384 : Int) < ((z + s : Nat) : Int) := by omega
      obtain ⟨al, cpl, rfl⟩ := HQ2.out.form
      have hlv := fun k e => (HQ2.out.lt k e).1
      have hba : Below w2.drew.heap.size w2.drew (w2.drew.alloc (.cells #[.string hn, .string hv, .bool nv] 66)) := (Below.refl _ _).alloc (Nat.le_refl _) _
      have HQa := Lib.hid ((HQ2.out.below (below_drew' w2)).below hba)
      have HCa := Lib.hid ((HC2.out.below (below_drew' w2)).below hba)
      have HOa : Hid (OnlyB Kl rB w (w2.drew.alloc (.cells #[.string hn, .string hv, .bool nv] 66))) := HO2.out.trans ((OnlyB.of_below ((below_drew' w2).mono (by omega))).trans (OnlyB.of_below (hba.mono (show Kl ≤ w2.heap.size by omega))))
      have HKa : Hid (Kp rB (Value.slice al A.length cpl).ownBlock w (w2.drew.alloc (.cells #[.string hn, .string hv, .bool nv] 66))) := HK2.out.trans ((Kp.of_below (below_drew' w2)).trans (Kp.of_below hba))
      have HRn := Lib.hid (QRd.one w2.drew hn hv nv)
      have hrB2 : rB < w2.heap.size := by omega
      have hAl : A.length + 1 ≤ 2097152 := by omega
      have Hlv := Lib.hid hlv
      clear hlv hba
      go_upto_region 4 with (fail)
      go_region_law (first | (refine step_appQ _ rfl _ _ rfl rfl Kl _ A rfl HQa.out ⟨w2.heap.size, 0, none⟩ 1 1 [((hn, hv), nv)] rfl rfl (by omega) HRn.out hAl (by simp; omega) ?_; intro g7 cp7 w7 hA7 hg7; have HQ7 := Lib.hid hA7; have HO7 : Hid (OnlyB Kl rB w w7) := HOa.out.trans (OnlyB.grow hg7 Hlv.out (by simp; omega)); have HK7 := Lib.hid (HKa.out.trans (Kp.grow hg7)); have HC7 := Lib.hid (HCa.out.block (hg7.block rB (by simp; omega) (fun e => by have := Hlv.out rB e.symm; omega))); obtain ⟨_, _, _, ⟨k3, j3⟩, _, _⟩ := HC7.out; clear hA7 hg7))
      all_goals
        go_end0
        refine ⟨HO7.out.trans (OnlyB.set _ _ _ _ _), HK7.out.trans (Kp.set _ _ _ _ _), ?_⟩
        rw [if_neg hbig]
        exact ⟨rfl, _, HC7.out.list _, HQ7.out.only ((Only.refl rB w7).set _ _) (fun e => by have := (HQ7.out.lt rB e).1; omega)⟩
end Go.Proofs.YthdgcakbeiocgaaDoor
