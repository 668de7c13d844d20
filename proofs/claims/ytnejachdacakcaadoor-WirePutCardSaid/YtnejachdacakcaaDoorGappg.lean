/-
An append at an operation that is guarded.
-/
import Derived.Test.YtnejachdacakcaaDoorGapp
namespace Go.Proofs.YtnejachdacakcaaDoor
open Go.RowKit

/-- 'append(own, bytes...)' at an operation whose guard says yes. -/
theorem wpList_appg {P : Program} (w : World) {ops : Array Oper} {rest : List Oper} {o : Oper} {a : Act} {Q : Exit → Act → World → Prop} (hw : Region.wanted o (yielded ops a.tmps) = true) (s x : Operand) (t : TypeId)
    (ho : o.op = .call { callee := .builtin .append, args := #[s, x], argTypes := #[t, t] })
    (B B2 : Nat) (e : TypeId) (i : TypeInfo) (z : Value) (ht : P.underlying t = some (.slice e)) (hi : P.info? e = some i) (hz : i.zero = some z)
    (hsize : i.size = 1) (hby : i.bytes = 1) (hzs : z.cells.size = 1) (v : Value) (n : Nat) (xs : List Value) (hs : a.eval s = v) (hown : w.ownsRow B e 1 v n xs) (hv : v ≠ .slice none 0 0)
    (ad : Option Addr) (m c : Nat) (l : List Nat) (hx : a.eval x = .slice ad m c) (hm : l.length = m) (hr : Rd B2 w ad l) (h63 : n + m ≤ 140737488355328) (hbase : B ≤ w.heap.size)
    (hK : ∀ g cp w', w'.ownsRow B e 1 (.slice (some ⟨g, 0, none⟩) (n + m) cp) (n + m) (xs ++ vals l) → w.grownBy w' v.ownBlock → wpList P ops Q rest (a.put o.dst (.slice (some ⟨g, 0, none⟩) (n + m) cp)) w') :
    wpList P ops Q (o :: rest) a w := by
  subst hm
  refine BigFrame.wpList_want hw fun K' hK' => ?_
  obtain ⟨v', w', hrun, h2, h3, h4⟩ := run_app (P := P) w B B2 t o.type e i z ht hi hz hsize hby hzs v n xs hown hv ad c l hr h63 hbase
  unfold Oper.wp
  simp [execOp, ho, resolve, invoke, builtin, hs, hx, hrun, Result.andThen]
  refine hK' _ _ ?_
  rcases h2.2 with ⟨e1, _⟩ | ⟨g, cp, cur, rfl, _⟩
  · exact absurd e1 h4
  · exact hK g cp w' h2 h3
end Go.Proofs.YtnejachdacakcaaDoor
