/-
The walk of hpack's Decode.
-/
import Derived.Deep.Onto
import Derived.Test.YtcbljbdcnahfhaaDoorMkd
namespace Go.Proofs.YtcbljbdcnahfhaaDoor
open Go.RowKit

/-- A decoder that takes nothing more. -/
theorem Decode_gone (dB lim held : Nat) (a : Option Addr) (n c : Nat) (E : Nat → Addr) (w : World) (hD : DecC w dB none lim held) (hE : ErrsAll w E kgs) :
    Calls Tryd.prog 34 #[.pointer (some ⟨dB, 0, none⟩), .slice a n c] w fun e w' => e = .returned (.tuple #[.slice none 0 0, eV E (eg 14)]) ∧ Below w.heap.size w w' := by
  have h14 : w.cell? ⟨1, 0, none⟩ = some (eV E (eg 14)) := kgs_cell hE 14 (by decide)
  unfold eV at h14 ⊢
  have hlt := hD.lt
  have hl14 := World.block_lt_of_cell? _ _ h14
  obtain ⟨⟨c0, _⟩, _, _⟩ := hD
  clear hE
  obtain ⟨w0, hw0⟩ : ∃ w0, w0 = (w.alloc (.cells #[.pointer (some ⟨dB, 0, none⟩)] 60)).alloc (.cells #[.nilIface] 29) := ⟨_, rfl⟩
  have hb0 : Below w.heap.size w w0 := by rw [hw0]; exact ((Below.refl _ _).alloc (Nat.le_refl _) _).alloc (by simp) _
  have k14 := cell_below hb0 h14
  have x1 : w0.cell? ⟨w.heap.size + 1, 0, none⟩ = some .nilIface := by rw [hw0]; simp
  have x1f : w0.frozen? ⟨w.heap.size + 1, 0, none⟩ = false := by rw [hw0]; simp
  have HB0 := Lib.hid hb0
  clear hb0
  have hmf : ∀ (fn : Fn) (first cap : Array Value) (w : World), (Instr.makeFunc fn first cap).run Tryd.prog w = .ok (.func fn first cap) w := fun _ _ _ _ => rfl
  go_enter_defers Tryd.func34, Tryd.ntmps34
  go_upto_region 2 with (fail)
  rw [← hw0]
  clear hw0
  go_region
  all_goals
    go_wp2
    simp only [bodyPostD, Leaves]
    exact ⟨.tuple #[.slice none 0 0, .iface 166 (.pointer (some (E (eg 14))))], by simp [results, Tryd.results34, go_sem, x1], rfl, (HB0.out.setCell (by simp) _).trans ((below_drew' _).mono (by have := HB0.out.size; simp; omega))⟩

/-- What Decode hands back. -/
def DecPost (E : Nat → Addr) (dB g lim held : Nat) (r : Except Nat P.St) (w : World) (e : Ending) (w' : World) : Prop :=
  OnlyT w.heap.size dB g w w' ∧ match r with
  | .error i => e = .returned (.tuple #[.slice none 0 0, eV E (eg i)]) ∧ DecC w' dB none lim held
  | .ok s' => ∃ lv, e = .returned (.tuple #[lv, .nilIface]) ∧ QOwn w.heap.size w' lv s'.A ∧ Tab w' g s'.L s'.m ∧ DecC w' dB (some ⟨g, 0, none⟩) lim s'.L.length

set_option maxRecDepth 100000 in
set_option maxHeartbeats 2000000 in
theorem Decode_any (V : World) (E : Nat → Addr) (dB g lim held Kb : Nat) (L : List B.HD) (m : Nat) (a : Option Addr) (n c : Nat) (l : List Nat) (w : World) (hD : DecC w dB (some ⟨g, 0, none⟩) lim held) (hT : Tab w g L m) (hne : dB ≠ g) (hlim : lim ≤ 4096) (hV : V.heap.size ≤ g) (hE : EK V E w)
    (hR : RdS Kb g w a n c l) (hKb : Kb ≤ w.heap.size) (hn : n ≤ 1000000000) :
    Calls Tryd.prog 34 #[.pointer (some ⟨dB, 0, none⟩), .slice a n c] w (DecPost E dB g lim held (P.blk lim l.length ⟨L, m, [], 0⟩ l) w) := by
  have hmf : ∀ (fn : Fn) (first cap : Array Value) (w : World), (Instr.makeFunc fn first cap).run Tryd.prog w = .ok (.func fn first cap) w := fun _ _ _ _ => rfl
  have hg := hT.lt
  have hd := hD.lt
  obtain ⟨w0, hw0⟩ : ∃ w0, w0 = (w.alloc (.cells #[.pointer (some ⟨dB, 0, none⟩)] 60)).alloc (.cells #[.nilIface] 29) := ⟨_, rfl⟩
  have hb0 : Below w.heap.size w w0 := by rw [hw0]; exact ((Below.refl _ _).alloc (Nat.le_refl _) _).alloc (by simp) _
  have HD := Lib.hid (hD.below hb0)
  have hz0 : w.heap.size + 2 ≤ w0.heap.size := by rw [hw0]; simp
  have x0 : w0.cell? ⟨w.heap.size, 0, none⟩ = some (.pointer (some ⟨dB, 0, none⟩)) := by rw [hw0]; simp
  have x1 : w0.cell? ⟨w.heap.size + 1, 0, none⟩ = some .nilIface := by rw [hw0]; simp
  have x1f : w0.frozen? ⟨w.heap.size + 1, 0, none⟩ = false := by rw [hw0]; simp
  have HB0 := Lib.hid hb0
  obtain ⟨⟨c0, c0f⟩, c1, c2, c2f⟩ := HD.out
  obtain ⟨⟨d0, _⟩, d1, _, _⟩ := hD
  have hne1 : dB ≠ w.heap.size := by omega
  have hne2 : dB ≠ w.heap.size + 1 := by omega
  clear hb0
  go_enter_defers Tryd.func34, Tryd.ntmps34
  go_upto_region 4 with (fail)
  rw [← hw0]
  clear hw0
  obtain ⟨w1, hw1⟩ : ∃ w1, w1 = (w0.alloc (.cells #[.slice a n c, .pointer (some ⟨g, 0, none⟩), .int .i64 (lim : Nat), .slice none 0 0, .int .i64 0] 105)).drew := ⟨_, rfl⟩
  have hb1 : Below w0.heap.size w0 w1 := by rw [hw1]; exact ((Below.refl _ _).alloc (Nat.le_refl _) _).trans ((below_drew' _).mono (by simp))
  have hz1 : w0.heap.size < w1.heap.size := by rw [hw1]; simp
  have hRC : RC w1 w0.heap.size g lim a n c (.slice none 0 0) 0 := by rw [hw1]; exact ⟨⟨by simp, by simp⟩, by simp, by simp, ⟨by simp, by simp⟩, ⟨by simp, by simp⟩⟩
  have HW1 := Lib.hid hw1
  clear hw1
  have hb01 : Below w.heap.size w w1 := HB0.out.trans (hb1.mono (by omega))
  obtain ⟨k, hk⟩ : ∃ k : RK, k = { V := V, E := E, Kb := Kb, Kl := w1.heap.size, rB := w0.heap.size, g := g, lim := lim } := ⟨_, rfl⟩
  have hok : k.Ok := by rw [hk]; exact ⟨by simp only; omega, by simp only; omega, hV, by simp only; omega, hz1, by simp only; omega, hlim⟩
  have hS : RSt k ⟨L, m, [], 0⟩ l w1 := by
    rw [hk]
    exact ⟨a, n, c, _, hRC, hR.below hb01, hn, QOwn.nil _ _, hT.below hb01, hE.below hb01 (by omega), by simp, by simp, Nat.le_refl _⟩
  have HBk : Hid (Calls Tryd.prog 59 #[.pointer (some ⟨w0.heap.size, 0, none⟩)] w1 (BlkPost k (P.blk lim l.length ⟨L, m, [], 0⟩ l) w1)) := by
    have := readBlock_any k hok ⟨L, m, [], 0⟩ l w1 hS rfl (by rw [hk])
    rw [hk] at this ⊢
    exact this
  have hx0 := cell_below hb1 x0
  have hx1 := cell_below hb1 x1
  have hx1f := frz_below hb1 x1 x1f
  have HD1 := Lib.hid (HD.out.below hb1)
  have HB01 := Lib.hid hb01
  have hkE : k.E = E ∧ k.rB = w0.heap.size ∧ k.g = g ∧ k.lim = lim := by rw [hk]; exact ⟨rfl, rfl, rfl, rfl⟩
  clear hRC hb01 hok hS hb1 hR hE hT
  go_region
  all_goals
    rw [← HW1.out]
    clear x0 x1 x1f c0 c0f c1 c2 c2f d0 d1 HW1
    go_wp2_with fail
    refine HBk.out.mono ?_
    rintro e w2 ⟨ho2, hp2⟩
    rw [hkE.2.1, hkE.2.2.1] at ho2
    have y0 : w2.cell? ⟨w.heap.size, 0, none⟩ = some (.pointer (some ⟨dB, 0, none⟩)) := (World.cell?_of_block (a := ⟨w.heap.size, 0, none⟩) (ho2.block w.heap.size (by omega) (by omega) (by omega))).trans hx0
    have y1 : w2.cell? ⟨w.heap.size + 1, 0, none⟩ = some .nilIface := (World.cell?_of_block (a := ⟨w.heap.size + 1, 0, none⟩) (ho2.block (w.heap.size + 1) (by omega) (by omega) (by omega))).trans hx1
    have y1f : w2.frozen? ⟨w.heap.size + 1, 0, none⟩ = false := (World.frozen?_of_block (a := ⟨w.heap.size + 1, 0, none⟩) (ho2.block (w.heap.size + 1) (by omega) (by omega) (by omega))).trans hx1f
    have HD2 := Lib.hid (HD1.out.block (ho2.block dB (by omega) (by omega) hne))
    have HO2 : Hid (OnlyT w.heap.size dB g w w2) := (OnlyT.of_below HB01.out).trans ⟨ho2.os, ho2.tape, ho2.output, ho2.size, fun i hi h1 h2 => ho2.block i (by omega) (by omega) h2⟩
    have hz2 := ho2.size
    obtain ⟨⟨c0, c0f⟩, c1, c2, c2f⟩ := HD2.out
    clear hx0 hx1 hx1f HD1 HB01 ho2 HBk
    cases hr : P.blk lim l.length ⟨L, m, [], 0⟩ l with
    | error i =>
      rw [hr] at hp2
      simp only at hp2
      rw [hkE.1] at hp2
      subst hp2
      unfold Pan
      go_wp2
      refine leaves_cons (f := 58) (args := #[.pointer (some ⟨w.heap.size + 1, 0, none⟩), .pointer (some ⟨w.heap.size, 0, none⟩)]) (by simp) (by simp [go_sem]) ?_
      refine (caught E i (w.heap.size + 1) w.heap.size dB _ w2 y1 y1f y0 c0 c0f (by omega) (by omega)).mono ?_
      rintro e u' w'' ⟨rfl, rfl, rfl⟩
      refine (show Leaves _ _ _ _ [] .returning _ from ⟨.tuple #[.slice none 0 0, eV E (eg i)], by unfold eV; simp [results, Tryd.results34, go_sem, y1], ?_, rfl, ?_⟩)
      · exact (HO2.out.setNew (by omega) 0 _).trans ⟨rfl, rfl, rfl, by simp, fun q _ h1 _ => Below.heap_setCell _ _ _ _ h1⟩
      · exact (HD2.out.block (Below.heap_setCell _ _ _ _ (show dB ≠ w.heap.size + 1 by omega))).gone
    | ok s' =>
      rw [hr] at hp2
      simp only at hp2
      obtain ⟨rfl, K, hK, hs'⟩ := hp2
      have hKw : w1.heap.size ≤ K := hK
      obtain ⟨a', n', c', lv, hC, _, _, hQ, hT2, _⟩ : ∃ a' n' c' lv, RC w2 w0.heap.size g lim a' n' c' lv s'.z ∧ True ∧ True ∧ QOwn K w2 lv s'.A ∧ Tab w2 g s'.L s'.m ∧ True := by
        obtain ⟨a', n', c', lv, h1, _, _, h4, h5, _⟩ := hs'
        rw [hk] at h1 h4 h5
        exact ⟨a', n', c', lv, h1, trivial, trivial, h4, h5, trivial⟩
      have hl3 : w2.cell? ⟨g, 385, none⟩ = some (.int .i64 (s'.L.length : Nat)) := by obtain ⟨R, o, _, h2, _⟩ := hT2; exact h2.n.1
      have HLen : Hid (∀ ww : World, ww.cell? ⟨g, 385, none⟩ = some (.int .i64 (s'.L.length : Nat)) → Calls Tryd.prog 60 #[.pointer (some ⟨g, 0, none⟩)] ww fun e w' => e = .returned (.int .i64 (s'.L.length : Nat)) ∧ ww = w') := fun ww h => len_any ww g _ h
      have HQ := Lib.hid hQ
      have HT2 := Lib.hid hT2
      have HOk : Hid (P.blk lim l.length ⟨L, m, [], 0⟩ l = .ok s') := hr
      obtain ⟨_, _, _, ⟨r3, _⟩, _⟩ := hC
      have n1 : w0.heap.size ≠ dB := by omega
      have n2 : w.heap.size ≠ dB := by omega
      have n3 : w.heap.size + 1 ≠ dB := by omega
      have n4 : w0.heap.size ≠ w.heap.size + 1 := by omega
      clear hQ hT2 hs'
      have HFin : Hid (∀ W, Below ((w2.setCell ⟨dB, 2, none⟩ (.int .i64 (s'.L.length : Nat))).setCell ⟨w.heap.size + 1, 0, none⟩ .nilIface).heap.size ((w2.setCell ⟨dB, 2, none⟩ (.int .i64 (s'.L.length : Nat))).setCell ⟨w.heap.size + 1, 0, none⟩ .nilIface) W →
          DecPost E dB g lim held (P.blk lim l.length ⟨L, m, [], 0⟩ l) w (.returned (.tuple #[lv, .nilIface])) W) := fun W hb => by
        have hbw : w.heap.size ≤ ((w2.setCell ⟨dB, 2, none⟩ (.int .i64 (s'.L.length : Nat))).setCell ⟨w.heap.size + 1, 0, none⟩ .nilIface).heap.size := by simp; omega
        refine ⟨((HO2.out.trans (show OnlyT w.heap.size dB g w2 (w2.setCell ⟨dB, 2, none⟩ (.int .i64 (s'.L.length : Nat))) from ⟨rfl, rfl, rfl, by simp, fun q _ h1 _ => Below.heap_setCell _ _ _ _ h1⟩)).setNew (by omega) 0 _).trans (OnlyT.of_below (hb.mono hbw)), ?_⟩
        rw [HOk.out]
        have hown := fun j e => (HQ.out.lt j e).1
        have hq : QOwn K W lv s'.A := ((HQ.out.only ((Only.refl dB w2).set 2 _) (fun e => by have := hown _ e; omega)).only ((Only.refl (w.heap.size + 1) _).set 0 .nilIface) (fun e => by have := hown _ e; omega)).below hb
        exact ⟨lv, rfl, World.ownsRow.mono hq (by omega), ((HT2.out.onlyR ((Only.refl dB w2).set 2 _) (Ne.symm hne)).onlyR ((Only.refl (w.heap.size + 1) _).set 0 .nilIface) (by omega)).below hb, ((HD2.out.held _).block (Below.heap_setCell _ _ _ _ (show dB ≠ w.heap.size + 1 by omega))).below hb⟩
      clear HQ HT2 HD2 HO2 HOk
      generalize s'.L.length = ln at *
      go_upto_region 6 with (fail)
      refine wp_region_noPanic ?_
      go_region_with (first | (go_at_call 60; refine (HLen.out _ (by simpa using hl3)).mono ?_; rintro e w3 ⟨rfl, rfl⟩))
      all_goals
        refine NoPanic.normal ?_
        go_wp2
        refine leaves_cons (f := 58) (args := #[.pointer (some ⟨w.heap.size + 1, 0, none⟩), .pointer (some ⟨w.heap.size, 0, none⟩)]) (by simp) (by simp [go_sem]) ?_
        refine (idle _ _ _).mono ?_
        rintro e u' w'' ⟨rfl, rfl, rfl⟩
        refine (show Leaves _ _ _ _ [] .returning _ from ⟨.tuple #[lv, .nilIface], by simp [results, Tryd.results34, go_sem, y1], ?_⟩)
        exact HFin.out _ (below_drew' _)
end Go.Proofs.YtcbljbdcnahfhaaDoor
