/-
The walk of the encoder's Resize.
-/
import Derived.Test.YtcbljbdcnahfhaaDoorMkb
import Derived.Test.YtcbljbdcnahfhaaDoorMba
import Derived.Test.YtcbljbdcnahfhaaDoorMkd
namespace Go.Proofs.YtcbljbdcnahfhaaDoor
open Go.RowKit

theorem EncC.set2 {w : World} {eB g : Nat} {asked : Bool} {least : Nat} (h : EncC w eB g asked least) (k : Nat) : EncC (w.setCell ⟨eB, 2, none⟩ (.int .i64 (k : Nat))) eB g asked k :=
  ⟨(World.cell?_setCell_other _ _ _ _ (addr_ne (by omega))).trans h.c0, cell_sib (by omega) h.c1, cell_own h.c2⟩
theorem EncC.set1 {w : World} {eB g : Nat} {asked : Bool} {least : Nat} (h : EncC w eB g asked least) (b : Bool) : EncC (w.setCell ⟨eB, 1, none⟩ (.bool b)) eB g b least :=
  ⟨(World.cell?_setCell_other _ _ _ _ (addr_ne (by omega))).trans h.c0, cell_own h.c1, cell_sib (by omega) h.c2⟩
/-- What Resize leaves. -/
def ResPost (eB g : Nat) (L : List B.HD) (asked : Bool) (least k : Nat) (w : World) (e : Ending) (w' : World) : Prop :=
  e = .returned .nilIface ∧ EncC w' eB g true (if asked = false ∨ k < least then k else least) ∧ Tab w' g (B.shr k L) k ∧ Only2 w.heap.size g eB w w'

set_option maxRecDepth 100000 in
set_option maxHeartbeats 1000000 in
theorem kresize_yes (eB g m k : Nat) (L : List B.HD) (asked : Bool) (least : Nat) (w : World) (hE : EncC w eB g asked least) (hT : Tab w g L m) (hne : eB ≠ g) (hk : k ≤ 4096) :
    Calls Tryd.prog 25 #[.pointer (some ⟨eB, 0, none⟩), .int .i64 (k : Nat)] w (ResPost eB g L asked least k w) := by
  have HR := Lib.hid (resize_yes g L m k w hk hT)
  have hel := hE.lt
  have hgl := hT.lt
  have HE := Lib.hid hE
  have c0 := hE.c0
  clear hE hT
  go_enter Tryd.func25, Tryd.ntmps25
  go_wp2_with fail
  refine HR.out.mono ?_
  rintro e w1 ⟨rfl, hT1, ho1⟩
  have ho1' : w.grownBy w1 (some g) := ho1
  have hE1 := HE.out.block (ho1'.block eB hel (fun e => hne (by cases e; rfl)))
  have HT1 := Lib.hid hT1
  have HO1 : Hid (Only2 w.heap.size g eB w w1) := ⟨ho1'.os, ho1'.tape, ho1'.output, ho1'.size, fun i hi h1 _ => ho1'.block i hi (fun e => h1 (by cases e; rfl))⟩
  have HE1 := Lib.hid hE1
  obtain ⟨d0, ⟨d1, d1f⟩, d2, d2f⟩ := hE1
  clear hT1 ho1 ho1' HR HE c0
  have key : ∀ (w2 : World) (lv : Nat), (∀ i, i ≠ eB → w2.heap[i]? = w1.heap[i]?) → w2.heap.size = w1.heap.size → w2.os = w1.os → w2.tape = w1.tape → w2.output = w1.output → EncC w2 eB g true lv → (lv = if asked = false ∨ k < least then k else least) → ResPost eB g L asked least k w (.returned .nilIface) w2 := fun w2 lv h1 h2 h3 h4 h5 h6 h7 => by
    subst h7
    refine ⟨rfl, h6, ?_, HO1.out.trans ⟨h3, h4, h5, by omega, fun i _ _ hi => h1 i hi⟩⟩
    obtain ⟨R, o, t1, t2, t3⟩ := HT1.out
    have hg := h1 g (Ne.symm hne)
    exact ⟨R, o, t1, fun j hj => ⟨(World.cell?_of_block (a := ⟨g, j, none⟩) hg).trans (t2 j hj).1, (World.frozen?_of_block (a := ⟨g, j, none⟩) hg).trans (t2 j hj).2⟩, t3⟩
  have Key := Lib.hid key
  clear key
  by_cases ha : asked = false
  · subst ha
    have hw : Hid (EncC ((w1.setCell ⟨eB, 2, none⟩ (.int .i64 (k : Nat))).setCell ⟨eB, 1, none⟩ (.bool true)) eB g true k) := (HE1.out.set2 k).set1 true
    go_wp2
    go_ret
    exact Key.out _ k (fun i hi => (Below.heap_setCell _ _ _ _ hi).trans (Below.heap_setCell _ _ _ _ hi)) (by simp) rfl rfl rfl hw.out (by simp)
  · have ha' : asked = true := by simpa using ha
    subst ha'
    by_cases hkl : k < least
    · have q : (k : Int) < (least : Int) := by omega
      have hw : Hid (EncC ((w1.setCell ⟨eB, 2, none⟩ (.int .i64 (k : Nat))).setCell ⟨eB, 1, none⟩ (.bool true)) eB g true k) := (HE1.out.set2 k).set1 true
      go_wp2
      go_ret
      exact Key.out _ k (fun i hi => (Below.heap_setCell _ _ _ _ hi).trans (Below.heap_setCell _ _ _ _ hi)) (by simp) rfl rfl rfl hw.out (by simp [hkl])
    · have q : ¬ (k : Int) < (least : Int) := by omega
      have hw : Hid (EncC (w1.setCell ⟨eB, 1, none⟩ (.bool true)) eB g true least) := HE1.out.set1 true
      go_wp2
      go_ret
      exact Key.out _ least (fun i hi => Below.heap_setCell _ _ _ _ hi) (by simp) rfl rfl rfl hw.out (by simp [hkl])

theorem kresize_no (eB g : Nat) (k : Int) (asked : Bool) (least : Nat) (e0 : Addr) (w : World) (hE : EncC w eB g asked least) (hk : ¬ (0 ≤ k ∧ k ≤ 4096)) (hX : TE w e0) :
    Calls Tryd.prog 25 #[.pointer (some ⟨eB, 0, none⟩), .int .i64 k] w fun e w' => e = .returned (.iface 166 (.pointer (some e0))) ∧ w = w' := by
  have HR := Lib.hid (resize_no g k e0 w hk hX)
  have c0 := hE.c0
  clear hE hX
  go_enter Tryd.func25, Tryd.ntmps25
  go_wp2_with fail
  refine HR.out.mono ?_
  rintro e w1 ⟨rfl, rfl⟩
  go_wp2
  go_ret
  exact ⟨rfl, rfl⟩
end Go.Proofs.YtcbljbdcnahfhaaDoor
