/-
The walks of table.New, Add, Resize.
-/
import Derived.Test.YthdgcakbeiocgaaDoorBtab
namespace Go.Proofs.YthdgcakbeiocgaaDoor
open Go.RowKit

/-- A value of many cells is built. -/
theorem wpList_build_big {P : Program} {ops : Array Oper} {rest : List Oper} {op : Oper} {a : Act} {w : World} {Q : Exit → Act → World → Prop} (hgd : op.guard = none) (ty : TypeId) (parts : Array (Nat × Operand)) (ho : op.op = .build ty parts)
    (vs : Array (Nat × Value)) (hvs : (parts.map fun (i, x) => (i, a.eval x)) = vs) (v : Value) (hrun : (Instr.build ty vs).run P w = .ok v w)
    (h : wpList P ops Q rest (a.put op.dst v) w) : wpList P ops Q (op :: rest) a w :=
  wpList_plain hgd fun _ hK => by
    unfold Oper.wp execOp
    simp only [ho, hvs, hrun, Sem.run_bind, Sem.run_pure, Result.andThen_ok]
    exact hK _ _ h
/-- A variable is made of a value of many cells. -/
theorem wpList_box_big {P : Program} {ops : Array Oper} {rest : List Oper} {op : Oper} {a : Act} {w : World} {Q : Exit → Act → World → Prop} (hgd : op.guard = none) (ty : TypeId) (x : Operand) (ho : op.op = .box ty x)
    (u : Value) (hu : a.eval x = u) (v : Value) (w' : World) (hrun : (Instr.box ty u).run P w = .ok v w')
    (h : wpList P ops Q rest (a.put op.dst v) w') : wpList P ops Q (op :: rest) a w :=
  wpList_plain hgd fun _ hK => by
    unfold Oper.wp execOp
    simp only [ho, hu, hrun, Sem.run_bind, Sem.run_pure, Result.andThen_ok]
    exact hK _ _ h

/-- A new table's cells. -/
def newL (m : Nat) : List Value := (List.range 388).map (tbF (fun _ => (⟨#[]⟩, ⟨#[]⟩)) 0 0 0 m)
theorem newL_len (m : Nat) : (newL m).length = 388 := by rw [newL, List.length_map, List.length_range]
theorem newL_get (m j : Nat) (hj : j < 388) : (newL m)[j]? = some (tbF (fun _ => (⟨#[]⟩, ⟨#[]⟩)) 0 0 0 m j) := by
  rw [newL, List.getElem?_map, List.getElem?_range hj]; rfl
theorem run_build_new (m : Nat) (w : World) : (Instr.build 126 #[(4, .int .i64 (m : Nat))]).run Tryd.prog w = .ok (.agg (newL m).toArray) w := by kernel_rfl
theorem run_box_new (m : Nat) (w : World) : (Instr.box 126 (.agg (newL m).toArray)).run Tryd.prog w = .ok (.pointer (some ⟨w.heap.size, 0, none⟩)) (w.alloc (.cells (newL m).toArray 126)) := by kernel_rfl

/-- What ErrTable's variable holds. -/
def TE (w : World) (e0 : Addr) : Prop := w.cell? ⟨0, 0, none⟩ = some (.iface 166 (.pointer (some e0)))

theorem tab_new (w : World) (m : Nat) (hm : m ≤ 4096) : Tab (w.alloc (.cells (newL m).toArray 126)) w.heap.size [] m := by
  refine ⟨fun _ => (⟨#[]⟩, ⟨#[]⟩), 0, ⟨by omega, by simp, fun j hj => by simp at hj⟩, ?_, by simp [B.tot], hm⟩
  have h := Blk.new w (newL m).toArray 126 (tbF (fun _ => (⟨#[]⟩, ⟨#[]⟩)) 0 0 0 m) (fun j hj => by
    rw [List.getElem?_toArray]
    exact newL_get m j (by simpa [newL_len] using hj))
  rw [show (newL m).toArray.size = 388 by simp [newL_len]] at h
  exact h

set_option maxRecDepth 100000 in
theorem new_yes (m : Nat) (w : World) (hm : m ≤ 4096) : Calls Tryd.prog 48 #[.int .i64 m] w fun e w' => e = .returned (.tuple #[.pointer (some ⟨w.heap.size, 0, none⟩), .nilIface]) ∧ Tab w' w.heap.size [] m ∧ Below w.heap.size w w' := by
  have HM : Hid (∀ w, Calls Tryd.prog 71 #[.int .i64 m] w fun e w' => e = .returned (.bool true) ∧ w = w') := fun w => by
    have := mayBe_any m w
    rw [decide_eq_true (by omega)] at this
    exact this
  go_enter Tryd.func48, Tryd.ntmps48
  go_upto_region 3 with (go_at_call 71; refine (HM.out _).mono ?_; rintro e w1 ⟨rfl, rfl⟩)
  go_step
  refine wpList_plain rfl fun K hK => ?_
  go_simp
  refine hK _ _ ?_
  clear hK K
  refine wpList_build_big rfl 126 _ rfl #[(4, .int .i64 m)] (by simp [go_sem]) _ (run_build_new m w) ?_
  refine wpList_box_big rfl 126 (.tmp 9) rfl (.agg (newL m).toArray) rfl _ _ (run_box_new m w) ?_
  have HT := Lib.hid (tab_new w m hm)
  have HB : Hid (Below w.heap.size w (w.alloc (.cells (newL m).toArray 126))) := (Below.refl _ _).alloc (Nat.le_refl _) _
  generalize w.alloc (.cells (newL m).toArray 126) = w1 at *
  generalize (newL m).toArray = C
  go_wp2
  go_ret2
  exact ⟨rfl, HT.out, HB.out⟩

set_option maxRecDepth 100000 in
theorem new_no (m : Int) (e0 : Addr) (w : World) (hm : ¬ (0 ≤ m ∧ m ≤ 4096)) (hE : TE w e0) : Calls Tryd.prog 48 #[.int .i64 m] w fun e w' => e = .returned (.tuple #[.pointer none, .iface 166 (.pointer (some e0))]) ∧ Below w.heap.size w w' := by
  have HM : Hid (∀ w, Calls Tryd.prog 71 #[.int .i64 m] w fun e w' => e = .returned (.bool false) ∧ w = w') := fun w => by
    have := mayBe_any m w
    rw [decide_eq_false hm] at this
    exact this
  unfold TE at hE
  go_enter Tryd.func48, Tryd.ntmps48
  go_upto_region 2 with (go_at_call 71; refine (HM.out _).mono ?_; rintro e w1 ⟨rfl, rfl⟩)
  go_quiet (fail)
  go_wp2
  go_ret2
  exact ⟨rfl, below_q (Below.refl _ _) _⟩
end Go.Proofs.YthdgcakbeiocgaaDoor
