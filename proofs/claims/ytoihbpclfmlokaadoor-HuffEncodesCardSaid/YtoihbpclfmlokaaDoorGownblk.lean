/-
The bytes that a slice of the call's own holds, as a block that is known by its places; the walk of storing into them.
-/
import Derived.Test.YtoihbpclfmlokaaDoorGapp
import Derived.Test.YtoihbpclfmlokaaDoorGblk
namespace Go.Proofs.YtoihbpclfmlokaaDoor
open Go.RowKit

theorem own_blk {B : Nat} {w : World} {g cp : Nat} {l : List Nat} (h : Own B w (.slice (some ⟨g, 0, none⟩) l.length cp) l) : Blk w g l.length (fun j => .int .u8 (l.getD j 0 : Nat)) := by
  intro j hj
  refine ⟨?_, ?_⟩
  · have := h.1.cells (g := g) rfl j (.int .u8 (l.getD j 0 : Nat)) (by simp [vals, List.getElem?_eq_getElem hj, List.getD_eq_getElem?_getD])
    have e1 : (⟨g, 0, none⟩ : Addr).add j = ⟨g, j, none⟩ := by unfold Addr.add; split <;> simp_all
    rw [← e1]; exact this
  · rcases h.1.2 with ⟨e, _⟩ | ⟨g', cap, cur, e, _, hgg, _⟩
    · cases e
    · cases e
      simp [World.frozen?, hgg]
end Go.Proofs.YtoihbpclfmlokaaDoor
