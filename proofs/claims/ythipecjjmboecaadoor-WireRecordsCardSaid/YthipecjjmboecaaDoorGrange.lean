/-
A range over a function, taken apart: what the loop's way in and out asks of the iterator's call, and what one round asks of the body. (For iterators that hand memory of the moment to the body: there the laws by 'SeqStopsK' tell the body nothing of that memory.)
-/
import Derived.RangeFuncNested
namespace Go.Proofs.YthipecjjmboecaaDoor
open Go

/-- The loop's record. -/
def Rcd (fn : FuncId) (T : Array Value) (ps : Array Tmp) (assign body : Code) (D : Nat) (st : LoopState) (pe : Option Code) : Obj :=
  .loop { state := st, pending := pe, fn, tmps := T, params := ps, assign, body, defers := D }

theorem Rcd.no_cells {fn : FuncId} {T : Array Value} {ps : Array Tmp} {assign body : Code} {D : Nat} {rc : LoopState → Option Code → Obj} (h : rc = Rcd fn T ps assign body D) (st : LoopState) (pe : Option Code) : (rc st pe).isCells = false := by subst h; rfl

/-- THE WAY IN AND OUT. -/
theorem rangeFunc_by {F : Fence} {n : Nat} {P : Program} {w : World} {g : Operand} {ps : Array Tmp} {assign body : Code} {Q : Exit → Act → World → Prop} {a : Act}
    (hro : F.round = none) (h1 : 1 ≤ n) {gf : Nat} {lb : Array Value} (hg : a.eval g = .func (.func gf) #[] lb) (hFg : F.fn gf) (eg : ∀ args w, (callFunc gf args).run P w = .ok (.enter gf args) w)
    (H : ∀ fn, F.fn fn → ∀ rc, rc = Rcd fn a.tmps ps assign body w.heap.size → CallsIn F (n - 1) P gf (#[.func (.yield (w.heap.size + 1)) #[] #[]] ++ lb) ((w.alloc (.deferred (some []))).alloc (rc .ready none)) fun e W =>
      (∃ v, e = .returned v) ∧ ∃ st pe, st ≠ .busy ∧ W.heap[w.heap.size + 1]? = some (rc st pe) ∧
        match pe with
        | none => Q .normal { a with defers := { target := .collected w.heap.size, args := #[] } :: a.defers } (W.putObj (w.heap.size + 1) (rc .exhausted none))
        | some c => c.wpIn F n P Q { a with defers := { target := .collected w.heap.size, args := #[] } :: a.defers } (W.putObj (w.heap.size + 1) (rc .exhausted (some c)))) :
    (Code.rangeFunc g ps assign body).wpIn F n P Q a w := by
  refine wpIn_rangeFunc fun fn hfn => ?_
  rw [hro]
  have hin : (Instr.enterLoop fn a.tmps ps assign body none).run P w = .ok (w.heap.size + 1, [{ target := .collected w.heap.size, args := #[] }]) ((w.alloc (.deferred (some []))).alloc (Rcd fn a.tmps ps assign body w.heap.size .ready none)) := run_enterLoop_outer _ _ _ _ _
  have hit := H fn hfn _ rfl
  generalize (w.alloc (.deferred (some []))).alloc (Rcd fn a.tmps ps assign body w.heap.size .ready none) = W1 at hin hit
  refine ⟨_, _, W1, { target := .fn (.func gf) lb, args := #[.func (.yield (w.heap.size + 1)) #[] #[]] }, W1, gf, _, W1, hin, ?_, ?_, ?_, fun _ => h1, hit.mono ?_⟩
  · simp only [resolve, hg]
    simp [go_sem]
  · intro f' hf'
    simp [Target.leads] at hf'
    subst hf'
    exact hFg
  · simp [invoke, go_sem, eg]
  · rintro e W ⟨⟨v, rfl⟩, st, pe, hst, hl, hq⟩
    refine ⟨pe, _, run_endLoop hl hst, ?_⟩
    cases pe with
    | none => exact hq
    | some c => exact hq

/-- ONE ROUND: the record lies ready when the body has been assigned to; it lies busy when the body is left. -/
theorem yield_by {F : Fence} {m : Nat} {P : Program} {l D : Nat} {fn : FuncId} {T : Array Value} {ps : Array Tmp} {assign body : Code} {args : Array Value} {W : World} {R : Bool → World → Prop} {rc : LoopState → Option Code → Obj}
    (hrc : rc = Rcd fn T ps assign body D) (hF : F.fn fn) (hl : W.heap[l]? = some (rc .ready none)) (hs : args.size = ps.size)
    (h : assign.wpIn (F.inRound l) m P (Exit.then (fun a₁ W₁ => W₁.heap[l]? = some (rc .ready none) ∧
      body.wpIn (F.inRound l) m P (fun e _ W₂ => W₂.heap[l]? = some (rc .busy none) ∧
        match e with
        | .normal => R true (W₂.putObj l (rc .ready none))
        | .ret => R false (W₂.putObj l (rc .done (some .ret)))
        | .exit id => R false (W₂.putObj l (rc .done (some (.exit id))))
        | .goto t => R false (W₂.putObj l (rc .done (some (.goto t))))
        | _ => False) a₁ (W₁.putObj l (rc .busy none))) (fun _ _ _ => False))
      { tmps := (ps.zip args).foldl (fun t (p, v) => t.setIfInBounds p v) T, defers := [] } W) :
    YieldAt F m P l args W fun e W' => ∃ b, e = .returned (.bool b) ∧ R b W' := by
  subst hrc
  refine ⟨fn, _, assign, body, run_yield hl hs, roundIn_of_wpIn hF (wpIn_mono h ?_)⟩
  rintro e a₁ W₁ hq
  cases e with
  | normal =>
    obtain ⟨hl1, hb⟩ := hq
    refine ⟨_, run_beginRound hl1 rfl, wpIn_mono hb ?_⟩
    rintro e a₂ W₂ ⟨hl2, hr⟩
    cases e with
    | normal => exact ⟨_, _, run_endRound none hl2, true, rfl, hr⟩
    | ret => exact ⟨_, _, run_endRound (some .ret) hl2, false, rfl, hr⟩
    | exit id => exact ⟨_, _, run_endRound (some (.exit id)) hl2, false, rfl, hr⟩
    | goto t => exact ⟨_, _, run_endRound (some (.goto t)) hl2, false, rfl, hr⟩
    | panic c => exact hr.elim
    | outgrown => exact hr.elim
  | ret => exact hq.elim
  | exit id => exact hq.elim
  | goto t => exact hq.elim
  | panic c => exact hq.elim
  | outgrown => exact hq.elim
end Go.Proofs.YthipecjjmboecaaDoor
