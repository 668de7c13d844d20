/-
What the seven errors' variables hold where they are laid.
-/
import Derived.Test.YtcbljbdcnahfhaaDoorGerrl
import Derived.Test.YtcbljbdcnahfhaaDoorMge
namespace Go.Proofs.YtcbljbdcnahfhaaDoor
open Go.ChangeShapes Go.WideShapes Go.ChangeAt Go.RowKit

def kgn : List (String × Nat × List UInt8) := kgi.map fun i => egn.getD i ("", 0, [])
theorem kgn_kgs : kgn.map (fun p => (p.2.1, p.2.2)) = kgs := rfl
theorem kgn_named : (kgn.all fun p => Tryd.prog.globalNamed p.1 == some p.2.1 && ((Tryd.prog.globals[p.2.1]?).map (·.type) == some 29)) = true := by kernel_rfl

set_option maxRecDepth 100000 in
theorem errsK_of_laid {W : World} {r : List (String × DataW Unit)} (h : laidMet Tryd.prog (kgn.map layOf ++ r) W) : ∃ E, ErrsAll W E kgs := by
  refine ⟨fun k => match W.cell? ⟨k, 0, none⟩ with | some (.iface _ (.pointer (some a))) => a | _ => ⟨0, 0, none⟩, ?_⟩
  intro p hp
  rw [← kgn_kgs] at hp
  obtain ⟨q, hq, rfl⟩ := List.mem_map.1 hp
  obtain ⟨a, s, c, t, h1, h2, h3, h4⟩ := laid_all kgn kgn_named h q hq
  unfold eV
  simp only [h1]
  exact ⟨trivial, s, c, t, h2, h3, h4⟩
end Go.Proofs.YtcbljbdcnahfhaaDoor
