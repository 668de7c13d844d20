/-
A scope in which the run jumps to several labels: what holds at each label, and a measure that every pass from a label lowers.
-/
import Derived.Test.YtihlcecincijgaaDoorGbase
import Derived.ScopeJumps
import Derived.WalkMore
namespace Go.Proofs.YtihlcecincijgaaDoor

/-- As Q; by a goto to label l: J l. -/
def jumps (J : Nat → Act → World → Prop) (Q : Exit → Act → World → Prop) : Exit → Act → World → Prop
  | .goto l, a, w => J l a w
  | e, a, w => Q e a w

theorem wp_scope_many {P : Program} {a : Act} {w : World} {Q : Exit → Act → World → Prop} {c : Code} (rest : Nat → Code) (L : Nat → Prop) (J : Nat → Act → World → Prop) (μ : Act → World → Nat)
    (hf : ∀ l, L l → findLabel c l = some (rest l))
    (first : c.wp P (jumps (fun l a w => L l ∧ J l a w) Q) a w)
    (pass : ∀ l a w, L l → J l a w → (rest l).wp P (jumps (fun l' a' w' => L l' ∧ J l' a' w' ∧ μ a' w' < μ a w) Q) a w) : (Code.scope c).wp P Q a w := by
  intro b k cs
  have hg : ∀ l, L l → gotoIn l (.inScope c :: k) = some (.code (rest l) :: .inScope c :: k) := fun l hl => by simp [gotoIn, hf l hl]
  have key : ∀ n l a w, μ a w = n → L l → J l a w → ∃ e a' w', Q e a' w' ∧ Arrives P (lone (b.at a (.code (rest l) :: .inScope c :: k)) cs w) b k cs e a' w' := by
    intro n
    induction n using Nat.strongRecOn with
    | _ n ih =>
      intro l a w hn hL hJ
      obtain ⟨e, a₁, w₁, hq, harr⟩ := pass l a w hL hJ b (.inScope c :: k) cs
      cases e with
      | normal => exact ⟨.normal, a₁, w₁, hq, Steps.trans harr (.one step_inScope)⟩
      | exit id => exact ⟨.exit id, a₁, w₁, hq, fun k' hk => harr k' (by simp [exitTo, hk])⟩
      | goto l' =>
        obtain ⟨hL', hJ', hlt⟩ := hq
        obtain ⟨e₂, a₂, w₂, hq₂, harr₂⟩ := ih _ (by omega) l' a₁ w₁ rfl hL' hJ'
        exact ⟨e₂, a₂, w₂, hq₂, .of_steps (harr _ (hg l' hL')) harr₂⟩
      | ret => exact ⟨_, a₁, w₁, hq, harr⟩
      | panic ch => exact ⟨_, a₁, w₁, hq, harr⟩
      | outgrown => exact ⟨_, a₁, w₁, hq, harr⟩
  obtain ⟨e, a₁, w₁, hq, harr⟩ := first b (.inScope c :: k) cs
  cases e with
  | normal => exact ⟨.normal, a₁, w₁, hq, .head step_scope (Steps.trans harr (.one step_inScope))⟩
  | exit id => exact ⟨.exit id, a₁, w₁, hq, fun k' hk => .head step_scope (harr k' (by simp [exitTo, hk]))⟩
  | goto l' =>
    obtain ⟨hL', hJ'⟩ := hq
    obtain ⟨e₂, a₂, w₂, hq₂, harr₂⟩ := key _ l' a₁ w₁ rfl hL' hJ'
    exact ⟨e₂, a₂, w₂, hq₂, .of_steps (.head step_scope (harr _ (hg l' hL'))) harr₂⟩
  | ret => exact ⟨_, a₁, w₁, hq, .of_steps (.one step_scope) harr⟩
  | panic ch => exact ⟨_, a₁, w₁, hq, .of_steps (.one step_scope) harr⟩
  | outgrown => exact ⟨_, a₁, w₁, hq, .of_steps (.one step_scope) harr⟩

/-- Two labels. -/
theorem wp_scope_two {P : Program} {a : Act} {w : World} {Q : Exit → Act → World → Prop} {c r0 r1 : Code} (l0 l1 : Nat) (J0 J1 : Act → World → Prop) (μ : Act → World → Nat) (h01 : l0 ≠ l1)
    (hf0 : findLabel c l0 = some r0) (hf1 : findLabel c l1 = some r1)
    (first : c.wp P (jumps (fun l a w => (l = l0 ∧ J0 a w) ∨ (l = l1 ∧ J1 a w)) Q) a w)
    (pass0 : ∀ a w, J0 a w → r0.wp P (jumps (fun l a' w' => (l = l0 ∧ J0 a' w' ∧ μ a' w' < μ a w) ∨ (l = l1 ∧ J1 a' w' ∧ μ a' w' < μ a w)) Q) a w)
    (pass1 : ∀ a w, J1 a w → r1.wp P (jumps (fun l a' w' => (l = l0 ∧ J0 a' w' ∧ μ a' w' < μ a w) ∨ (l = l1 ∧ J1 a' w' ∧ μ a' w' < μ a w)) Q) a w) : (Code.scope c).wp P Q a w := by
  have hw : ∀ {x : Code} {a : Act} {w : World} {J J' : Nat → Act → World → Prop}, (∀ l a w, J l a w → J' l a w) → x.wp P (jumps J Q) a w → x.wp P (jumps J' Q) a w := fun h hx => Code.wp_mono (fun e a w h2 => by
    cases e with
    | goto l => exact h l a w h2
    | normal => exact h2
    | exit id => exact h2
    | ret => exact h2
    | panic ch => exact h2
    | outgrown => exact h2) hx
  refine wp_scope_many (fun l => if l = l0 then r0 else r1) (fun l => l = l0 ∨ l = l1) (fun l a w => (l = l0 ∧ J0 a w) ∨ (l = l1 ∧ J1 a w)) μ ?_ (hw ?_ first) ?_
  · rintro l (rfl | rfl)
    · rw [if_pos rfl, hf0]
    · rw [if_neg (Ne.symm h01), hf1]
  · rintro l a w (⟨rfl, h⟩ | ⟨rfl, h⟩)
    · exact ⟨Or.inl rfl, Or.inl ⟨rfl, h⟩⟩
    · exact ⟨Or.inr rfl, Or.inr ⟨rfl, h⟩⟩
  · rintro l a w _ (⟨rfl, h⟩ | ⟨rfl, h⟩)
    · rw [if_pos rfl]
      refine hw ?_ (pass0 a w h)
      rintro l' a' w' (⟨rfl, h1, h2⟩ | ⟨rfl, h1, h2⟩)
      · exact ⟨Or.inl rfl, Or.inl ⟨rfl, h1⟩, h2⟩
      · exact ⟨Or.inr rfl, Or.inr ⟨rfl, h1⟩, h2⟩
    · rw [if_neg (Ne.symm h01)]
      refine hw ?_ (pass1 a w h)
      rintro l' a' w' (⟨rfl, h1, h2⟩ | ⟨rfl, h1, h2⟩)
      · exact ⟨Or.inl rfl, Or.inl ⟨rfl, h1⟩, h2⟩
      · exact ⟨Or.inr rfl, Or.inr ⟨rfl, h1⟩, h2⟩

theorem jumps_weaken {P : Program} {Q : Exit → Act → World → Prop} {x : Code} {a : Act} {w : World} {J J' : Nat → Act → World → Prop} (h : ∀ l a w, J l a w → J' l a w) (hx : x.wp P (jumps J Q) a w) : x.wp P (jumps J' Q) a w :=
  Code.wp_mono (fun e a w h2 => by
    cases e with
    | goto l => exact h l a w h2
    | normal => exact h2
    | exit id => exact h2
    | ret => exact h2
    | panic ch => exact h2
    | outgrown => exact h2) hx

/-- Two labels, the second one reached from the first one: what stands behind the second one is walked once. -/
theorem wp_scope_fall {P : Program} {a : Act} {w : World} {Q : Exit → Act → World → Prop} {c c0 M : Code} (l0 l1 : Nat) (J0 J1 : Act → World → Prop) (μ : Act → World → Nat) (h01 : l0 ≠ l1)
    (hf0 : findLabel c l0 = some (Code.seq .skip (Code.seq c0 (Code.seq (.label l1) M)))) (hf1 : findLabel c l1 = some (Code.seq .skip M))
    (first : (∀ a w, J1 a w → M.wp P (jumps (fun l a w => (l = l0 ∧ J0 a w) ∨ (l = l1 ∧ J1 a w)) Q) a w) → c.wp P (jumps (fun l a w => (l = l0 ∧ J0 a w) ∨ (l = l1 ∧ J1 a w)) Q) a w)
    (enter : ∀ a w, J0 a w → c0.wp P (fun e a' w' => e = .normal ∧ J1 a' w' ∧ μ a' w' ≤ μ a w) a w)
    (round : ∀ a w, J1 a w → M.wp P (jumps (fun l a' w' => (l = l0 ∧ J0 a' w' ∧ μ a' w' < μ a w) ∨ (l = l1 ∧ J1 a' w' ∧ μ a' w' < μ a w)) Q) a w) : (Code.scope c).wp P Q a w := by
  refine wp_scope_two l0 l1 J0 J1 μ h01 hf0 hf1 (first fun a w h => jumps_weaken ?_ (round a w h)) (fun a w h => ?_) (fun a w h => ?_)
  · rintro l a w (⟨h1, h2, _⟩ | ⟨h1, h2, _⟩)
    · exact Or.inl ⟨h1, h2⟩
    · exact Or.inr ⟨h1, h2⟩
  · refine wp_seq (wp_skip (wp_seq (Code.wp_mono ?_ (enter a w h))))
    rintro e a' w' ⟨rfl, h1, h2⟩
    refine wp_seq (wp_label (jumps_weaken ?_ (round a' w' h1)))
    rintro l a2 w2 (⟨h3, h4, h5⟩ | ⟨h3, h4, h5⟩)
    · exact Or.inl ⟨h3, h4, by omega⟩
    · exact Or.inr ⟨h3, h4, by omega⟩
  · exact wp_seq (wp_skip (round a w h))
end Go.Proofs.YtihlcecincijgaaDoor
