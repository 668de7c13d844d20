/-
The reference's encoder: what it is; its NewEncoder, its Resize, its header.
-/
import Derived.Test.YtcbljbdcnahfhaaDoorMrt
import Derived.Test.YtcbljbdcnahfhaaDoorMkg
import Derived.Test.YtcbljbdcnahfhaaDoorMkb
import Derived.Test.YtcbljbdcnahfhaaDoorMkc
import Derived.Deep.RegionHeld3
namespace Go.Proofs.YtcbljbdcnahfhaaDoor
open Go.RowKit

theorem HOwn.same {K : Nat} {w w' : World} {v : Value} {l : List B.HD} (h : HOwn K w v l) (hb : ∀ g, v.ownBlock = some g → w'.heap[g]? = w.heap[g]?) : HOwn K w' v l := by
  refine ⟨h.1, ?_⟩
  rcases h.2 with e | ⟨g, cp, cur, e, h1, h2, h3⟩
  · exact .inl e
  · exact .inr ⟨g, cp, cur, e, h1, (hb g (by rw [e]; rfl)).trans h2, h3⟩
theorem Rx.same {w w' : World} {K gx M : Nat} {A : List B.HD} (h : Rx w K gx A M) (hg : w'.heap[gx]? = w.heap[gx]?) (hb : ∀ i v, w.cell? ⟨gx, 0, none⟩ = some v → v.ownBlock = some i → w'.heap[i]? = w.heap[i]?) : Rx w' K gx A M := by
  obtain ⟨v, h0, h1, h2, h3⟩ := h
  exact ⟨v, ⟨(World.cell?_of_block (a := ⟨gx, 0, none⟩) hg).trans h0.1, (World.frozen?_of_block (a := ⟨gx, 0, none⟩) hg).trans h0.2⟩, ⟨(World.cell?_of_block (a := ⟨gx, 1, none⟩) hg).trans h1.1, (World.frozen?_of_block (a := ⟨gx, 1, none⟩) hg).trans h1.2⟩, h2.same (fun g e => hb g v h0.1 e), h3⟩
/-- A slice of bytes that is owned lies in no block of headers. -/
theorem Rx.apart {w : World} {K gx M Bd g n cp : Nat} {A : List B.HD} {l : List Nat} (h : Rx w K gx A M) (ho : OwnN Bd w (.slice (some ⟨g, 0, none⟩) n cp) l) : ∀ i v, w.cell? ⟨gx, 0, none⟩ = some v → v.ownBlock = some i → i ≠ g := fun i v hc e => by
  obtain ⟨v', h0, h1, h2, h3⟩ := h
  rw [h0.1] at hc
  cases hc
  rcases h2.2 with ⟨e1, _⟩ | ⟨g', cp', cur, rfl, _, hg, _⟩
  · rw [e1] at e; cases e
  · cases e
    rcases ho.2 with ⟨e1, _⟩ | ⟨g2, cp2, cur2, e1, _, hg2, _⟩
    · cases e1
    · cases e1
      intro e2
      subst e2
      rw [hg] at hg2
      simp only [Option.some.injEq, Obj.cells.injEq] at hg2
      exact absurd hg2.2.1 (by decide)
/-- Bytes are added to an owned slice: the table stands. -/
theorem Rx.grown {w w' : World} {K gx M Bd g n cp : Nat} {A : List B.HD} {l : List Nat} (h : Rx w K gx A M) (ho : OwnN Bd w (.slice (some ⟨g, 0, none⟩) n cp) l) (hg : w.grownBy w' (some g)) (hne : gx ≠ g) : Rx w' K gx A M :=
  h.same (hg.block gx h.lt (fun e => hne (by cases e; rfl))) (fun i v hc e => by
    have h1 := h.apart ho i v hc e
    obtain ⟨v', h0, _, h2, _⟩ := h
    rw [h0.1] at hc
    cases hc
    exact hg.block i (h2.lt i e).2 (fun e2 => h1 (by cases e2; rfl)))

/-- The reference's encoder: its table's block, whether sizes were asked for, the least, the last. -/
structure ExC (w : World) (xB gx : Nat) (asked : Bool) (least last : Nat) : Prop where
  c0 : w.cell? ⟨xB, 0, none⟩ = some (.pointer (some ⟨gx, 0, none⟩))
  c1 : w.cell? ⟨xB, 1, none⟩ = some (.bool asked) ∧ w.frozen? ⟨xB, 1, none⟩ = false
  c2 : w.cell? ⟨xB, 2, none⟩ = some (.int .i64 (least : Nat)) ∧ w.frozen? ⟨xB, 2, none⟩ = false
  c3 : w.cell? ⟨xB, 3, none⟩ = some (.int .i64 (last : Nat)) ∧ w.frozen? ⟨xB, 3, none⟩ = false
theorem ExC.block {w w' : World} {xB gx : Nat} {asked : Bool} {least last : Nat} (h : ExC w xB gx asked least last) (hb : w'.heap[xB]? = w.heap[xB]?) : ExC w' xB gx asked least last :=
  ⟨(World.cell?_of_block (a := ⟨xB, 0, none⟩) hb).trans h.c0, ⟨(World.cell?_of_block (a := ⟨xB, 1, none⟩) hb).trans h.c1.1, (World.frozen?_of_block (a := ⟨xB, 1, none⟩) hb).trans h.c1.2⟩, ⟨(World.cell?_of_block (a := ⟨xB, 2, none⟩) hb).trans h.c2.1, (World.frozen?_of_block (a := ⟨xB, 2, none⟩) hb).trans h.c2.2⟩, ⟨(World.cell?_of_block (a := ⟨xB, 3, none⟩) hb).trans h.c3.1, (World.frozen?_of_block (a := ⟨xB, 3, none⟩) hb).trans h.c3.2⟩⟩
theorem ExC.lt {w : World} {xB gx : Nat} {asked : Bool} {least last : Nat} (h : ExC w xB gx asked least last) : xB < w.heap.size := World.block_lt_of_cell? _ _ h.c0
theorem ExC.below {w w' : World} {xB gx : Nat} {asked : Bool} {least last : Nat} (h : ExC w xB gx asked least last) (hb : Below w.heap.size w w') : ExC w' xB gx asked least last := h.block (hb.block xB h.lt)
theorem ExC.set1 {w : World} {xB gx : Nat} {asked : Bool} {least last : Nat} (h : ExC w xB gx asked least last) (b : Bool) : ExC (w.setCell ⟨xB, 1, none⟩ (.bool b)) xB gx b least last :=
  ⟨(World.cell?_setCell_other _ _ _ _ (addr_ne (by omega))).trans h.c0, cell_own h.c1, cell_sib (by omega) h.c2, cell_sib (by omega) h.c3⟩
theorem ExC.set2 {w : World} {xB gx : Nat} {asked : Bool} {least last : Nat} (h : ExC w xB gx asked least last) (k : Nat) : ExC (w.setCell ⟨xB, 2, none⟩ (.int .i64 (k : Nat))) xB gx asked k last :=
  ⟨(World.cell?_setCell_other _ _ _ _ (addr_ne (by omega))).trans h.c0, cell_sib (by omega) h.c1, cell_own h.c2, cell_sib (by omega) h.c3⟩
theorem ExC.set3 {w : World} {xB gx : Nat} {asked : Bool} {least last : Nat} (h : ExC w xB gx asked least last) (k : Nat) : ExC (w.setCell ⟨xB, 3, none⟩ (.int .i64 (k : Nat))) xB gx asked least k :=
  ⟨(World.cell?_setCell_other _ _ _ _ (addr_ne (by omega))).trans h.c0, cell_sib (by omega) h.c1, cell_sib (by omega) h.c2, cell_own h.c3⟩
theorem Rx.setX {w : World} {K gx M : Nat} {A : List B.HD} (h : Rx w K gx A M) {xB : Nat} (hx : xB < K) (hne : xB ≠ gx) (j : Nat) (v : Value) : Rx (w.setCell ⟨xB, j, none⟩ v) K gx A M :=
  h.same (Below.heap_setCell _ _ _ _ (fun e => hne e.symm)) (fun i v' hc e => by
    obtain ⟨v0, h0, _, h2, _⟩ := h
    rw [h0.1] at hc
    cases hc
    have := h2.lt i e
    exact Below.heap_setCell _ _ _ _ (fun e => by simp only at e; omega))

theorem xRefNew_any (m : Int) (w : World) : Calls Tryd.prog 49 #[.int .i64 m] w fun e w' => e = .returned (.pointer (some ⟨w.heap.size, 0, none⟩)) ∧ w.alloc (.cells #[.slice none 0 0, .int .i64 m] 128) = w' := by
  go_enter Tryd.func49, Tryd.ntmps49
  go_wp2
  go_ret
  exact ⟨rfl, rfl⟩
theorem xNew_any (m : Nat) (w : World) : Calls Tryd.prog 24 #[.int .i64 (m : Nat)] w fun e w' =>
    e = .returned (.pointer (some ⟨w.heap.size + 1, 0, none⟩)) ∧ ExC w' (w.heap.size + 1) w.heap.size false 0 0 ∧ Rx w' (w.heap.size + 2) w.heap.size [] m ∧ w'.heap.size = w.heap.size + 2 ∧ Below w.heap.size w w' := by
  go_enter Tryd.func24, Tryd.ntmps24
  go_wp2_with fail
  refine (xRefNew_any m w).mono ?_
  rintro e w1 ⟨rfl, rfl⟩
  go_wp2
  go_ret
  refine ⟨by simp, ⟨by simp, ⟨by simp, by simp⟩, ⟨by simp, by simp⟩, ⟨by simp, by simp⟩⟩, ⟨.slice none 0 0, ⟨by simp, by simp⟩, ⟨by simp, by simp⟩, HOwn.nil _ _, by simp [Value.ownBlock]⟩, by simp, ((Below.refl _ _).alloc (Nat.le_refl _) _).alloc (by simp) _⟩

/-- What the reference's Resize leaves. -/
def XResPost (K xB gx k : Nat) (A : List B.HD) (asked : Bool) (least : Nat) (w : World) (e : Ending) (w' : World) : Prop :=
  e = .returned (.tuple #[]) ∧ ExC w' xB gx true (if asked = false ∨ k < least then k else least) k ∧ Rx w' K gx (B.rm k 0 A) k ∧ Only2 w.heap.size gx xB w w'

set_option maxRecDepth 100000 in
set_option maxHeartbeats 1000000 in
theorem xResize_any (K xB gx k M : Nat) (A : List B.HD) (asked : Bool) (least last : Nat) (w : World) (hK : K ≤ w.heap.size) (hxK : xB < K) (hne : xB ≠ gx) (hE : ExC w xB gx asked least last) (hR : Rx w K gx A M) (ht : B.tot A ≤ 1048576) :
    Calls Tryd.prog 26 #[.pointer (some ⟨xB, 0, none⟩), .int .i64 (k : Nat)] w (XResPost K xB gx k A asked least w) := by
  have HE := Lib.hid hE
  have HR := Lib.hid hR
  obtain ⟨d0, ⟨d1, d1f⟩, ⟨d2, d2f⟩, ⟨d3, d3f⟩⟩ := hE
  have Key : Hid (∀ (w1 : World) (lv : Nat), w1.heap.size = w.heap.size → w1.os = w.os → w1.tape = w.tape → w1.output = w.output → (∀ i, i ≠ xB → w1.heap[i]? = w.heap[i]?) → ExC w1 xB gx true lv k → Rx w1 K gx A M → (lv = if asked = false ∨ k < least then k else least) →
      Calls Tryd.prog 51 #[.pointer (some ⟨gx, 0, none⟩), .int .i64 (k : Nat)] w1 (XResPost K xB gx k A asked least w)) := fun w1 lv h1 h2 h3 h4 h5 h6 h7 h8 => by
    refine (refResize_any K gx M k A w1 (by omega) h7 ht).mono ?_
    rintro e w2 ⟨rfl, hR2, ho2⟩
    have ho2' : w1.grownBy w2 (some gx) := ho2
    subst h8
    refine ⟨rfl, h6.block (ho2'.block xB h6.lt (fun e => hne (by cases e; rfl))), hR2, ⟨ho2'.os.trans h2, ho2'.tape.trans h3, ho2'.output.trans h4, by have := ho2'.size; omega, fun i hi h9 h10 => (ho2'.block i (by omega) (fun e => h9 (by cases e; rfl))).trans (h5 i h10)⟩⟩
  clear hR
  by_cases ha : asked = false
  · subst ha
    have HW : Hid (ExC (((w.setCell ⟨xB, 2, none⟩ (.int .i64 (k : Nat))).setCell ⟨xB, 1, none⟩ (.bool true)).setCell ⟨xB, 3, none⟩ (.int .i64 (k : Nat))) xB gx true k k ∧ Rx (((w.setCell ⟨xB, 2, none⟩ (.int .i64 (k : Nat))).setCell ⟨xB, 1, none⟩ (.bool true)).setCell ⟨xB, 3, none⟩ (.int .i64 (k : Nat))) K gx A M) := ⟨((HE.out.set2 k).set1 true).set3 k, ((HR.out.setX hxK hne 2 _).setX hxK hne 1 _).setX hxK hne 3 _⟩
    have HK2 := Lib.hid (Key.out (((w.setCell ⟨xB, 2, none⟩ (.int .i64 (k : Nat))).setCell ⟨xB, 1, none⟩ (.bool true)).setCell ⟨xB, 3, none⟩ (.int .i64 (k : Nat))) k (by simp) rfl rfl rfl (fun i hi => (Below.heap_setCell _ _ _ _ hi).trans ((Below.heap_setCell _ _ _ _ hi).trans (Below.heap_setCell _ _ _ _ hi))) HW.out.1 HW.out.2 (by simp))
    clear HW Key HE HR
    go_enter Tryd.func26, Tryd.ntmps26
    go_wp2_with fail
    refine HK2.out.mono ?_
    rintro e w2 h
    obtain ⟨rfl, h⟩ := h
    have HH := Lib.hid h
    clear h
    go_wp2
    go_end0
    exact ⟨rfl, HH.out⟩
  · have ha' : asked = true := by simpa using ha
    subst ha'
    by_cases hkl : k < least
    · have q : (k : Int) < (least : Int) := by omega
      have HW : Hid (ExC (((w.setCell ⟨xB, 2, none⟩ (.int .i64 (k : Nat))).setCell ⟨xB, 1, none⟩ (.bool true)).setCell ⟨xB, 3, none⟩ (.int .i64 (k : Nat))) xB gx true k k ∧ Rx (((w.setCell ⟨xB, 2, none⟩ (.int .i64 (k : Nat))).setCell ⟨xB, 1, none⟩ (.bool true)).setCell ⟨xB, 3, none⟩ (.int .i64 (k : Nat))) K gx A M) := ⟨((HE.out.set2 k).set1 true).set3 k, ((HR.out.setX hxK hne 2 _).setX hxK hne 1 _).setX hxK hne 3 _⟩
      have HK2 := Lib.hid (Key.out (((w.setCell ⟨xB, 2, none⟩ (.int .i64 (k : Nat))).setCell ⟨xB, 1, none⟩ (.bool true)).setCell ⟨xB, 3, none⟩ (.int .i64 (k : Nat))) k (by simp) rfl rfl rfl (fun i hi => (Below.heap_setCell _ _ _ _ hi).trans ((Below.heap_setCell _ _ _ _ hi).trans (Below.heap_setCell _ _ _ _ hi))) HW.out.1 HW.out.2 (by simp [hkl]))
      clear HW Key HE HR
      go_enter Tryd.func26, Tryd.ntmps26
      go_wp2_with fail
      refine HK2.out.mono ?_
      rintro e w2 h
      obtain ⟨rfl, h⟩ := h
      have HH := Lib.hid h
      clear h
      go_wp2
      go_end0
      exact ⟨rfl, HH.out⟩
    · have q : ¬ (k : Int) < (least : Int) := by omega
      have HW : Hid (ExC ((w.setCell ⟨xB, 1, none⟩ (.bool true)).setCell ⟨xB, 3, none⟩ (.int .i64 (k : Nat))) xB gx true least k ∧ Rx ((w.setCell ⟨xB, 1, none⟩ (.bool true)).setCell ⟨xB, 3, none⟩ (.int .i64 (k : Nat))) K gx A M) := ⟨(HE.out.set1 true).set3 k, (HR.out.setX hxK hne 1 _).setX hxK hne 3 _⟩
      have HK2 := Lib.hid (Key.out ((w.setCell ⟨xB, 1, none⟩ (.bool true)).setCell ⟨xB, 3, none⟩ (.int .i64 (k : Nat))) least (by simp) rfl rfl rfl (fun i hi => (Below.heap_setCell _ _ _ _ hi).trans (Below.heap_setCell _ _ _ _ hi)) HW.out.1 HW.out.2 (by simp [hkl]))
      clear HW Key HE HR
      go_enter Tryd.func26, Tryd.ntmps26
      go_wp2_with fail
      refine HK2.out.mono ?_
      rintro e w2 h
      obtain ⟨rfl, h⟩ := h
      have HH := Lib.hid h
      clear h
      go_wp2
      go_end0
      exact ⟨rfl, HH.out⟩
end Go.Proofs.YtcbljbdcnahfhaaDoor
