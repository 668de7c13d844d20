/-
What a round over a table's iterators keeps: cells at chosen blocks; rounds at whatever depth.
-/
import Derived.RangeFuncNested
import Derived.RangeFuncBound
import Derived.RangeFuncCalls
import Derived.RangeFuncLeaves
import Derived.RangeFuncBox
import Derived.Test.YthdgcakbeiocgaaDoorBsta
namespace Go.Proofs.YthdgcakbeiocgaaDoor
open Go.RowKit

/-- Where no depth is asked, rounds may be taken from whatever depth. -/
theorem roundIn_any {F : Fence} (hd : F.depth = none) {m m' : Nat} {P : Program} {l : Nat} {f : FuncId} {tmps : Array Value} {assign body : Code} {w : World} {R : Ending → World → Prop}
    (h : RoundIn F m P l f tmps assign body w R) : RoundIn F m' P l f tmps assign body w R := ⟨h.1, fun c cs _ => h.2 c cs (fun _ e => by rw [hd] at e; cases e)⟩
theorem yieldAt_any {F : Fence} (hd : F.depth = none) {m : Nat} (m' : Nat) {P : Program} {l : Nat} {args : Array Value} {W : World} {R : Ending → World → Prop} (h : YieldAt F m P l args W R) : YieldAt F m' P l args W R := by
  obtain ⟨fn, tmps, assign, body, hy, hR⟩ := h
  exact ⟨fn, tmps, assign, body, hy, roundIn_any hd hR⟩

/-- Cells at the blocks that Q names lie as they lay. -/
def Kq (Q : Nat → Prop) (W W' : World) : Prop := W.heap.size ≤ W'.heap.size ∧ ∀ k o, Q k → W.heap[k]? = some o → o.isCells = true → W'.heap[k]? = some o
theorem Kq.refl (Q : Nat → Prop) (W : World) : Kq Q W W := ⟨Nat.le_refl _, fun _ _ _ h _ => h⟩
theorem Kq.trans {Q : Nat → Prop} {A B C : World} (h : Kq Q A B) (k : Kq Q B C) : Kq Q A C := ⟨Nat.le_trans h.1 k.1, fun i o hq hi ho => k.2 i o hq (h.2 i o hq hi ho) ho⟩
theorem Kq.put {Q : Nat → Prop} (W : World) (l : Nat) (o o' : Obj) (h : W.heap[l]? = some o) (ho : o.isCells = false) : Kq Q W (W.putObj l o') :=
  ⟨by simp, fun k x _ hk hx => by
    have hne : k ≠ l := fun e => by subst e; rw [h] at hk; cases hk; rw [ho] at hx; cases hx
    exact (World.putObj_heap_other hne).trans hk⟩
theorem Kq.of_only {Q : Nat → Prop} {W W' : World} {g : Nat} (h : Only g W W') (hg : ¬ Q g) : Kq Q W W' :=
  ⟨h.size, fun k o hq hk _ => by
    have h' : W.grownBy W' (some g) := h
    exact (h'.block k (Array.getElem?_eq_some_iff.1 hk).1 (fun e => hg (by cases e; exact hq))).trans hk⟩
theorem Kq.of_below {Q : Nat → Prop} {W W' : World} (h : Below W.heap.size W W') : Kq Q W W' :=
  ⟨h.size, fun k _o _ hk _ => (h.block k (Array.getElem?_eq_some_iff.1 hk).1).trans hk⟩
theorem Kq.set {Q : Nat → Prop} (W : World) (b j : Nat) (v : Value) (hb : ¬ Q b) : Kq Q W (W.setCell ⟨b, j, none⟩ v) := Kq.of_only ((Only.refl b W).set j v) hb
theorem Kq.mono {Q Q' : Nat → Prop} {W W' : World} (h : Kq Q W W') (hq : ∀ k, Q' k → Q k) : Kq Q' W W' := ⟨h.1, fun k o hk => h.2 k o (hq k hk)⟩
theorem Kq.cell {Q : Nat → Prop} {W W' : World} (h : Kq Q W W') {p : Addr} {v : Value} (hq : Q p.block) (hc : W.cell? p = some v) : W'.cell? p = some v := by
  obtain ⟨o, ho, hx⟩ := cells_of_cell hc
  exact (World.cell?_of_block ((h.2 _ o hq ho hx).trans ho.symm)).trans hc
theorem Kq.blk {Q : Nat → Prop} {W W' : World} (h : Kq Q W W') {g n : Nat} {f : Nat → Value} (hq : Q g) (hb : Blk W g n f) : Blk W' g n f := fun j hj => by
  obtain ⟨o, ho, hx⟩ := cells_of_cell (hb j hj).1
  have e : W'.heap[g]? = W.heap[g]? := (h.2 g o hq ho hx).trans ho.symm
  exact ⟨(World.cell?_of_block (a := ⟨g, j, none⟩) e).trans (hb j hj).1, (World.frozen?_of_block (a := ⟨g, j, none⟩) e).trans (hb j hj).2⟩
theorem Kq.tab {Q : Nat → Prop} {W W' : World} (h : Kq Q W W') {g m : Nat} {L : List B.HD} (hq : Q g) (ht : Tab W g L m) : Tab W' g L m := by
  obtain ⟨R, o, h1, h2, h3⟩ := ht
  exact ⟨R, o, h1, h.blk hq h2, h3⟩
/-- What abides abides what leaves old memory as it was. -/
theorem abides_below {β : Type} {n : Nat} {J : β → World → Prop} (hJ : AbidesFrom n J) {s : β} {W W' : World} (h : J s W) (hb : Below W.heap.size W W') : J s W' :=
  hJ s W W' none h ⟨hb.os, hb.tape, hb.output, hb.size, fun i hi _ => hb.block i hi⟩ (fun r e => by cases e)
end Go.Proofs.YthdgcakbeiocgaaDoor
