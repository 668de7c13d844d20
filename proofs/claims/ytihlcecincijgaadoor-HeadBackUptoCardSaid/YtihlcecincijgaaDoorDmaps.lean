/-
A map of functions by texts: what a look-up gives, what a put and a delete make of it; the rules of head as such a map.
-/
import Derived.Test.YtihlcecincijgaaDoorDtrail
import Derived.Maps.Own
import Derived.WideMake
import Derived.Laws.EntriesVeiled
namespace Go.Proofs.YtihlcecincijgaaDoor
open Go.RowKit

section
variable {P : Program}
theorem sRun_put (w : World) (mty kt et : TypeId) (r clock : Nat) (es : Array MapEntry) (n : ByteArray) (val : Value) (hm : P.underlying mty = some (.map kt et)) (hk : P.underlying kt = some .string)
    (hb : w.heap[r]? = some (.map es clock)) (hf : Instr.findNow .string (.string n) es.toList 0 = some none) :
    (Instr.mapUpdate mty (.map (some r)) (.string n) val).run P w = .ok () { w with heap := w.heap.setIfInBounds r (.map (es.push { key := .string n, val := val, born := clock }) (clock + 1)) } := by
  have hc : (Instr.checkKey false 10000 kt (.string n)).run P w = .ok () w := MapKept.run_checkKey (k := .string n) hk (by simp [MapKept.IsKey]) false 9999
  simp [Instr.mapUpdate, run_underlying hm, MapKept.run_getObj_map hb, hc, MapKept.run_findKey hk hf, MapKept.run_setObj_map _ hb, Result.andThen]

theorem sRun_get (w : World) (mty kt et : TypeId) (r clock : Nat) (es : Array MapEntry) (n : ByteArray) (i : Nat) (val : Value) (hm : P.underlying mty = some (.map kt et)) (hk : P.underlying kt = some .string)
    (hb : w.heap[r]? = some (.map es clock)) (hf : Instr.findNow .string (.string n) es.toList 0 = some (some (i, val))) :
    (Instr.lookup mty (.map (some r)) (.string n) true).run P w = .ok (.tuple #[val, .bool true]) w := by
  have hc : ∀ b, (Instr.checkKey b 10000 kt (.string n)).run P w = .ok () w := fun b => MapKept.run_checkKey (k := .string n) hk (by simp [MapKept.IsKey]) b 9999
  simp [Instr.lookup, run_underlying hm, MapKept.run_getObj_map hb, hc, MapKept.run_findKey hk hf, Result.andThen]

theorem sRun_none (w : World) (mty kt et : TypeId) (r clock : Nat) (es : Array MapEntry) (n : ByteArray) (z : Value) (hm : P.underlying mty = some (.map kt et)) (hk : P.underlying kt = some .string) (hz : (zeroValue et).run P w = .ok z w)
    (hb : w.heap[r]? = some (.map es clock)) (hf : Instr.findNow .string (.string n) es.toList 0 = some none) :
    (Instr.lookup mty (.map (some r)) (.string n) true).run P w = .ok (.tuple #[z, .bool false]) w := by
  have hc : ∀ b, (Instr.checkKey b 10000 kt (.string n)).run P w = .ok () w := fun b => MapKept.run_checkKey (k := .string n) hk (by simp [MapKept.IsKey]) b 9999
  simp [Instr.lookup, run_underlying hm, MapKept.run_getObj_map hb, hc, MapKept.run_findKey hk hf, hz, Result.andThen]

/-- What is left behind a delete. -/
def delE (es : Array MapEntry) : Option (Nat × Value) → Array MapEntry
  | none => es
  | some (i, _) => es.eraseIdxIfInBounds i
theorem sRun_del (w : World) (mty kt et ty : TypeId) (ats : Array TypeId) (hat : ats[0]? = some mty) (r clock : Nat) (es : Array MapEntry) (n : ByteArray) (f : Option (Nat × Value)) (hm : P.underlying mty = some (.map kt et)) (hk : P.underlying kt = some .string)
    (hb : w.heap[r]? = some (.map es clock)) (hf : Instr.findNow .string (.string n) es.toList 0 = some f) :
    (Builtin.delete_ ats ty #[.map (some r), .string n]).run P w = .ok (.tuple #[]) { w with heap := w.heap.setIfInBounds r (.map (delE es f) clock) } := by
  have hc : ∀ b, (Instr.checkKey b 10000 kt (.string n)).run P w = .ok () w := fun b => MapKept.run_checkKey (k := .string n) hk (by simp [MapKept.IsKey]) b 9999
  cases f with
  | none => simp [Builtin.delete_, hat, run_underlying hm, MapKept.run_getObj_map hb, hc, MapKept.run_findKey hk hf, MapKept.run_setObj_map _ hb, Result.andThen, delE]
  | some p => simp [Builtin.delete_, hat, run_underlying hm, MapKept.run_getObj_map hb, hc, MapKept.run_findKey hk hf, MapKept.run_setObj_map _ hb, Result.andThen, delE]

theorem set_grown {w : World} {b : Nat} {o o' : Obj} (hb : w.heap[b]? = some o) : w.grownBy { w with heap := w.heap.setIfInBounds b o' } (some b) ∧ ({ w with heap := w.heap.setIfInBounds b o' } : World).heap[b]? = some o' := by
  have hlt := (Array.getElem?_eq_some_iff.1 hb).1
  refine ⟨⟨rfl, rfl, rfl, by simp, fun k hk hne => ?_⟩, by simp [hlt]⟩
  have : b ≠ k := fun e => hne (by rw [e])
  simp [this]

theorem sWp_put (w : World) {ops : Array Oper} {rest : List Oper} {o : Oper} {a : Act} {Q : Exit → Act → World → Prop}
    (hg : o.guard = none) (m x v : Operand) (t : TypeId) (hop : o.op = Op.insert t m x v) (kt et : TypeId) (ht : P.underlying t = some (.map kt et)) (hk : P.underlying kt = some .string)
    (b clock : Nat) (es : Array MapEntry) (n : ByteArray) (val : Value) (hm : a.eval m = .map (some b)) (hx : a.eval x = .string n) (hv : a.eval v = val)
    (hb : w.heap[b]? = some (.map es clock)) (hf : Instr.findNow .string (.string n) es.toList 0 = some none)
    (hK : ∀ w', w'.heap[b]? = some (.map (es.push { key := .string n, val := val, born := clock }) (clock + 1)) → w.grownBy w' (some b) → wpList P ops Q rest (a.put o.dst undef) w') :
    wpList P ops Q (o :: rest) a w := by
  refine wpList_plain hg fun K' hK' => ?_
  have hrun := sRun_put (P := P) w t kt et b clock es n val ht hk hb hf
  obtain ⟨s1, s2⟩ := set_grown (o' := .map (es.push { key := .string n, val := val, born := clock }) (clock + 1)) hb
  unfold Oper.wp
  simp [execOp, hop, hm, hx, hv, hrun, Result.andThen]
  exact hK' _ _ (hK _ s2 s1)

theorem sWp_del (w : World) {ops : Array Oper} {rest : List Oper} {o : Oper} {a : Act} {Q : Exit → Act → World → Prop}
    (hg : o.guard = none) (hd : o.dst = none) (m x : Operand) (t kt et : TypeId) (ho : o.op = .call { callee := .builtin .delete, args := #[m, x], argTypes := #[t, kt] }) (ht : P.underlying t = some (.map kt et)) (hk : P.underlying kt = some .string)
    (b clock : Nat) (es : Array MapEntry) (n : ByteArray) (f : Option (Nat × Value)) (hm : a.eval m = .map (some b)) (hx : a.eval x = .string n)
    (hb : w.heap[b]? = some (.map es clock)) (hf : Instr.findNow .string (.string n) es.toList 0 = some f)
    (hK : ∀ w', w'.heap[b]? = some (.map (delE es f) clock) → w.grownBy w' (some b) → wpList P ops Q rest a w') :
    wpList P ops Q (o :: rest) a w := by
  refine wpList_plain hg fun K' hK' => ?_
  have hrun := sRun_del (P := P) w t kt et o.type #[t, kt] rfl b clock es n f ht hk hb hf
  obtain ⟨s1, s2⟩ := set_grown (o' := .map (delE es f) clock) hb
  unfold Oper.wp
  simp [execOp, ho, resolve, invoke, builtin, hm, hx, hrun, Result.andThen]
  refine hK' _ _ ?_
  have := hK _ s2 s1
  rw [hd]
  exact this

/-- 'len' of such a map. -/
theorem sRun_len (w : World) (mty kt et ty : TypeId) (ats : Array TypeId) (hat : ats[0]? = some mty) (r clock : Nat) (es : Array MapEntry) (hm : P.underlying mty = some (.map kt et)) (hb : w.heap[r]? = some (.map es clock)) :
    (Builtin.len_ ats ty #[.map (some r)]).run P w = .ok (.int .i64 (es.size : Nat)) w := by
  simp [Builtin.len_, hat, run_underlying hm, MapKept.run_getObj_map hb, Result.andThen, goInt]
end

/-- Rules as a map of functions: by number a text and a function, which holds the variable in block bx. -/
structure FK (γ : Type) where
  R : D.Rl γ
  fn : Nat → Nat
  bx : Nat
  tb : Nat
  At : γ → World → Prop
variable {γ : Type}
def FK.val (F : FK γ) (k : Nat) : Value := .func (.func (F.fn k)) #[] #[.pointer (some ⟨F.bx, 0, none⟩)]
def FK.ents (F : FK γ) (rem : List Nat) : List MapEntry := rem.map fun k => { key := .string (F.R.key k), val := F.val k, born := k }
def FK.map (F : FK γ) (w : World) (m : Nat) (rem : List Nat) : Prop := ∃ clock, w.heap[m]? = some (.map (F.ents rem).toArray clock)

theorem same_str (a b : ByteArray) : Instr.sameNow .string (.string a) (.string b) = some (decide (b = a)) := by
  simp only [Instr.sameNow]
  by_cases h : b = a
  · subst h
    rw [decide_eq_true rfl]
    exact congrArg some ((MapKept.bytes_beq _ _).2 rfl)
  · rw [decide_eq_false h]
    refine congrArg some ?_
    cases e : a == b with
    | false => rfl
    | true => exact absurd ((MapKept.bytes_beq _ _).1 e).symm h
theorem FK.find (F : FK γ) (n : ByteArray) (rem : List Nat) (i : Nat) :
    Instr.findNow .string (.string n) (F.ents rem) i = some ((rem.findIdx? (fun k => decide (F.R.key k = n))).map fun j => (i + j, F.val (rem.getD j 0))) := by
  induction rem generalizing i with
  | nil => rfl
  | cons k t ih =>
    have e : F.ents (k :: t) = { key := .string (F.R.key k), val := F.val k, born := k } :: F.ents t := rfl
    rw [e, Instr.findNow, same_str, List.findIdx?_cons]
    by_cases h : F.R.key k = n
    · rw [decide_eq_true h]
      simp
    · rw [decide_eq_false h]
      simp only [ih (i + 1)]
      cases t.findIdx? (fun k => decide (F.R.key k = n)) with
      | none => rfl
      | some j =>
        simp only [Option.map_some, Bool.false_eq_true, if_false]
        congr 2
        simp
        omega
theorem map_eraseIdx {α β : Type} (f : α → β) : ∀ (l : List α) (i : Nat), (l.map f).eraseIdx i = (l.eraseIdx i).map f
  | [], i => rfl
  | x :: t, 0 => rfl
  | x :: t, i + 1 => by simp [List.eraseIdx, map_eraseIdx f t i]
theorem arr_erase {α : Type} (l : List α) (i : Nat) : l.toArray.eraseIdxIfInBounds i = (l.eraseIdx i).toArray := by
  unfold Array.eraseIdxIfInBounds
  split
  · simp
  · rename_i h
    rw [List.eraseIdx_of_length_le (by simpa using h)]
theorem FK.erase (F : FK γ) (rem : List Nat) (i : Nat) (v : Value) : delE (F.ents rem).toArray (some (i, v)) = (F.ents (rem.eraseIdx i)).toArray := by
  unfold delE FK.ents
  simp only
  rw [arr_erase, map_eraseIdx]
end Go.Proofs.YtihlcecincijgaaDoor
