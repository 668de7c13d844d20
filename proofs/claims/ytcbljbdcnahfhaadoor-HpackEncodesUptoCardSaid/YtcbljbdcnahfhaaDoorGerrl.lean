/-
From the rows' condition on the thirty errors' variables to what the walks ask.
-/
import Derived.Test.YtcbljbdcnahfhaaDoorGlaid
import Derived.Test.YtcbljbdcnahfhaaDoorMge
namespace Go.Proofs.YtcbljbdcnahfhaaDoor
open Go.ChangeShapes Go.WideShapes Go.ChangeAt Go.RowKit

/-- The thirty: name, number, text. -/
def egn : List (String × Nat × List UInt8) := [
  ("parley/api.ErrEnd", 3, [105, 116, 32, 101, 110, 100, 115, 32, 116, 111, 111, 32, 101, 97, 114, 108, 121]),
  ("parley/api.ErrLong", 2, [116, 111, 111, 32, 108, 111, 110, 103]),
  ("parley/api.ErrTag", 7, [110, 111, 32, 116, 97, 103]),
  ("parley/api.ErrGroup", 8, [110, 111, 32, 115, 117, 99, 104, 32, 103, 114, 111, 117, 112]),
  ("parley/api.ErrDeep", 9, [116, 111, 111, 32, 100, 101, 101, 112]),
  ("parley/api.ErrUTF8", 10, [110, 111, 32, 116, 101, 120, 116]),
  ("parley/api.ErrHuff", 4, [110, 111, 32, 72, 117, 102, 102, 109, 97, 110, 32, 99, 111, 100, 101]),
  ("parley/api.ErrIndex", 6, [116, 104, 101, 114, 101, 32, 105, 115, 32, 110, 111, 110, 101]),
  ("parley/api.ErrTable", 0, [116, 104, 101, 32, 116, 97, 98, 108, 101, 32, 109, 97, 121, 32, 110, 111, 116, 32, 98, 101, 32, 115, 111, 32, 108, 97, 114, 103, 101]),
  ("parley/api.ErrList", 5, [116, 104, 101, 32, 108, 105, 115, 116, 32, 105, 115, 32, 116, 111, 111, 32, 108, 97, 114, 103, 101]),
  ("parley/api.ErrFrame", 11, [110, 111, 32, 102, 114, 97, 109, 101]),
  ("parley/api.ErrHead", 12, [110, 111, 32, 104, 101, 97, 100, 101, 114, 32, 108, 105, 115, 116, 32, 111, 102, 32, 116, 104, 97, 116, 32, 107, 105, 110, 100]),
  ("parley/api.ErrWindow", 13, [116, 104, 101, 32, 119, 105, 110, 100, 111, 119, 32, 105, 115, 32, 112, 97, 115, 115, 101, 100]),
  ("parley/api.ErrRole", 14, [116, 104, 101, 32, 111, 116, 104, 101, 114, 32, 115, 105, 100, 101, 32, 100, 111, 101, 115, 32, 116, 104, 97, 116]),
  ("parley/api.ErrGone", 1, [116, 104, 101, 32, 99, 111, 110, 110, 101, 99, 116, 105, 111, 110, 32, 116, 97, 107, 101, 115, 32, 110, 111, 32, 109, 111, 114, 101]),
  ("parley/api.ErrMany", 15, [116, 111, 111, 32, 109, 97, 110, 121]),
  ("parley/api.ErrStream", 16, [116, 104, 101, 32, 115, 116, 114, 101, 97, 109, 32, 105, 115, 32, 110, 111, 116, 32, 116, 104, 101, 114, 101, 32, 102, 111, 114, 32, 116, 104, 97, 116]),
  ("parley/api.ErrToken", 17, [110, 111, 32, 116, 111, 107, 101, 110]),
  ("parley/api.ErrSyntax", 18, [105, 116, 32, 100, 111, 101, 115, 32, 110, 111, 116, 32, 99, 111, 109, 101, 32, 104, 101, 114, 101]),
  ("parley/api.ErrNumber", 19, [110, 111, 32, 115, 117, 99, 104, 32, 110, 117, 109, 98, 101, 114]),
  ("parley/api.ErrName", 20, [110, 111, 32, 115, 117, 99, 104, 32, 110, 97, 109, 101]),
  ("parley/api.ErrTwice", 21, [105, 116, 32, 105, 115, 32, 116, 104, 101, 114, 101, 32, 97, 108, 114, 101, 97, 100, 121]),
  ("parley/api.ErrType", 22, [110, 111, 32, 115, 117, 99, 104, 32, 116, 121, 112, 101]),
  ("parley/api.ErrCircle", 23, [105, 116, 32, 108, 101, 97, 100, 115, 32, 98, 97, 99, 107, 32, 116, 111, 32, 105, 116, 115, 101, 108, 102]),
  ("parley/api.ErrFile", 24, [110, 111, 32, 115, 117, 99, 104, 32, 102, 105, 108, 101]),
  ("parley/api.ErrValue", 25, [110, 111, 32, 118, 97, 108, 117, 101, 32, 111, 102, 32, 116, 104, 97, 116, 32, 116, 121, 112, 101]),
  ("parley/api.ErrField", 26, [110, 111, 32, 115, 117, 99, 104, 32, 102, 105, 101, 108, 100]),
  ("parley/api.ErrJSON", 27, [110, 111, 32, 74, 83, 79, 78]),
  ("parley/api.ErrStatus", 28, [110, 111, 32, 115, 116, 97, 116, 117, 115]),
  ("parley/api.ErrScript", 29, [110, 111, 32, 115, 116, 101, 112])]
/-- As a row lists one. -/
def layOf (p : String × Nat × List UInt8) : String × DataW Unit := (p.1, .iface "*errors.errorString" (.ptr (.agg [.lit (.string p.2.2)])))

theorem egn_egs : egn.map (fun p => (p.2.1, p.2.2)) = egs := rfl
theorem egn_named : (egn.all fun p => Tryd.prog.globalNamed p.1 == some p.2.1 && ((Tryd.prog.globals[p.2.1]?).map (·.type) == some 29)) = true := by kernel_rfl

set_option maxRecDepth 100000 in
theorem laid_head {n : String} {text : List UInt8} {r : List (String × DataW Unit)} {W : World} {g : Nat}
    (h : laidMet Tryd.prog ((n, .iface "*errors.errorString" (.ptr (.agg [.lit (.string text)]))) :: r) W) (hg : Tryd.prog.globalNamed n = some g) (ht : (Tryd.prog.globals[g]?).map (·.type) = some 29) :
    ∃ (a : Addr) (s : ByteArray) (c : Array Value) (t : TypeId), W.cell? ⟨g, 0, none⟩ = some (.iface 166 (.pointer (some a))) ∧ W.cell? a = some (.string s) ∧ s.data.toList = text ∧ W.heap[a.block]? = some (.cells c t (0, 0)) := by
  obtain ⟨ps, ⟨g0, t0, cs0, f0, p0, q0, hg0, ht0, hv0, hd0, _, e0⟩, _, hrows⟩ := h
  obtain rfl := Option.some.inj (hg.symm.trans hg0)
  obtain rfl := Option.some.inj (ht.symm.trans ht0)
  subst e0
  obtain ⟨l0⟩ := cs0
  have ok0 : ∀ u v, l0 = [.iface u v] → Value.okWide Tryd.prog W .any 0 u v := fun u v e => by
    subst e
    exact (hrows g 0 (by simp [MemPlace.row])).2 u v (by simpa using World.var?_cell hg0 hv0 0)
  obtain ⟨a0, s0, rfl, hc0, hs0, _, rfl⟩ := errorString_of_trod Tryd.underlying29 rowErr Tryd.underlying166 Tryd.underlying181 rfl rfl Tryd.underlying9 cellsErr cellsStr hd0 ok0
  obtain ⟨c0, t0, hb0⟩ := (hrows a0.block a0.off (by simp [MemPlace.row])).1
  exact ⟨a0, s0, c0, t0, by simpa using World.var?_cell hg hv0 0, hc0, hs0, hb0⟩

theorem laid_all {W : World} {r : List (String × DataW Unit)} : ∀ (L : List (String × Nat × List UInt8)),
    (L.all fun p => Tryd.prog.globalNamed p.1 == some p.2.1 && ((Tryd.prog.globals[p.2.1]?).map (·.type) == some 29)) = true → laidMet Tryd.prog (L.map layOf ++ r) W →
    ∀ p ∈ L, ∃ (a : Addr) (s : ByteArray) (c : Array Value) (t : TypeId), W.cell? ⟨p.2.1, 0, none⟩ = some (.iface 166 (.pointer (some a))) ∧ W.cell? a = some (.string s) ∧ s.data.toList = p.2.2 ∧ W.heap[a.block]? = some (.cells c t (0, 0))
  | [], _, _, p, hp => by cases hp
  | q :: L, hn, h, p, hp => by
    rw [List.all_cons, Bool.and_eq_true, Bool.and_eq_true, beq_iff_eq, beq_iff_eq] at hn
    rw [List.map_cons, List.cons_append] at h
    rcases List.mem_cons.1 hp with rfl | hp
    · exact laid_head h hn.1.1 hn.1.2
    · exact laid_all L hn.2 (laidMet.tail h) p hp

set_option maxRecDepth 100000 in
theorem errsAll_of_laid {W : World} {r : List (String × DataW Unit)} (h : laidMet Tryd.prog (egn.map layOf ++ r) W) : ∃ E, ErrsAll W E egs := by
  refine ⟨fun k => match W.cell? ⟨k, 0, none⟩ with | some (.iface _ (.pointer (some a))) => a | _ => ⟨0, 0, none⟩, ?_⟩
  intro p hp
  rw [← egn_egs] at hp
  obtain ⟨q, hq, rfl⟩ := List.mem_map.1 hp
  obtain ⟨a, s, c, t, h1, h2, h3, h4⟩ := laid_all egn egn_named h q hq
  unfold eV
  simp only [h1]
  exact ⟨trivial, s, c, t, h2, h3, h4⟩
end Go.Proofs.YtcbljbdcnahfhaaDoor
