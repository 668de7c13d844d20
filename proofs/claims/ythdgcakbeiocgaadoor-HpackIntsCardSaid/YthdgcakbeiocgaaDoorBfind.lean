/-
The walk of table.Find.
-/
import Derived.Test.YthdgcakbeiocgaaDoorBall
namespace Go.Proofs.YthdgcakbeiocgaaDoor
open Go.RowKit Go.Shelf
attribute [local go_sem] Oper.semAt_some

/-- A block holds just these cells. -/
def CellsAt (W : World) (b : Nat) (cs : Array Value) (t : TypeId) : Prop := W.heap[b]? = some (.cells cs t (0, 0))
theorem CellsAt.own {β : Type} (b : Nat) (cs : Array Value) (t : TypeId) : Own (fun (_ : β) W => CellsAt W b cs t) := fun _ X Y row hs hg hrow =>
  (hg.block b (Array.getElem?_eq_some_iff.1 hs).1 (fun e' => by
    obtain ⟨o, ho, hc⟩ := hrow b e'.symm
    rw [show X.heap[b]? = _ from hs] at ho
    cases ho; cases hc)).trans hs

theorem fnd_ne {n v : List UInt8} {c i : Int} {xn xv : ByteArray} {rest : List (Int × B.HD)} (h : (!xn.toList == n) = true) : B.fnd n v c ((i, xn, xv) :: rest) = B.fnd n v c rest := by
  have h' : xn.toList ≠ n := fun e => by rw [e] at h; simp at h
  show (if xn.toList ≠ n then _ else _) = _
  rw [if_pos h']
theorem fnd_hit {n v : List UInt8} {c i : Int} {xn xv : ByteArray} {rest : List (Int × B.HD)} (h1 : (!xn.toList == n) = false) (h2 : (xv.toList == v) = true) : B.fnd n v c ((i, xn, xv) :: rest) = (i, true) := by
  have h1' : ¬ xn.toList ≠ n := fun e => by simp at h1; exact e h1
  show (if xn.toList ≠ n then _ else if xv.toList = v then _ else _) = _
  rw [if_neg h1', if_pos (eq_of_beq h2)]
theorem fnd_nm {n v : List UInt8} {c i : Int} {xn xv : ByteArray} {rest : List (Int × B.HD)} (h1 : (!xn.toList == n) = false) (h2 : (xv.toList == v) = false) : B.fnd n v c ((i, xn, xv) :: rest) = B.fnd n v (if c = 0 then i else c) rest := by
  have h1' : ¬ xn.toList ≠ n := fun e => by simp at h1; exact e h1
  have h2' : xv.toList ≠ v := fun e => by rw [e] at h2; simp at h2
  show (if xn.toList ≠ n then _ else if xv.toList = v then _ else _) = _
  rw [if_neg h1', if_neg h2']

set_option maxRecDepth 100000 in
set_option maxHeartbeats 4000000 in
theorem find_in (n g m : Nat) (hn : 6 ≤ n) (L : List B.HD) (nm vl : ByteArray) (w : World) (hT : Tab w g L m) :
    CallsIn Fence.wide n Tryd.prog 75 #[.pointer (some ⟨g, 0, none⟩), .string nm, .string vl] w fun e w' =>
      e = .returned (.tuple #[.int .i64 (B.fnd nm.toList vl.toList 0 (B.allL L)).1, .bool (B.fnd nm.toList vl.toList 0 (B.allL L)).2]) ∧ Below w.heap.size w w' := by
  have h1 : 1 ≤ n := by omega
  have hg := hT.lt
  have HT := Lib.hid hT
  clear hT
  refine callsIn_of_wp_marks Tryd.func75 rfl trivial ?_ rfl
  simp only [Tryd.ntmps75, List.size_toArray, List.length_cons, List.length_nil, Nat.reduceAdd, Nat.reduceSub, Array.replicate_succ, Array.replicate_zero, List.push_toArray, List.append_toArray, List.nil_append, List.cons_append]
  gi_wp2_with (refine ⟨trivial, ?_⟩; gi_at_call 87; refine (callsIn_wide.2 (all_any g _)).mono ?_; rintro e w2 ⟨rfl, rfl⟩)
  obtain ⟨W0, hW0⟩ : ∃ W0, (((((w.alloc (.cells #[.string nm] 9)).alloc (.cells #[.string vl] 9)).alloc (.cells #[.int .i64 0] 3)).alloc (.cells #[.bool false] 4)).alloc (.cells #[.int .i64 0] 3)).alloc (.cells #[.pointer (some ⟨g, 0, none⟩)] 86) = W0 := ⟨_, rfl⟩
  have hsz : W0.heap.size = w.heap.size + 6 := by rw [← hW0]; simp
  have hB0 : Below w.heap.size w W0 := by
    rw [← hW0]
    exact ((((((Below.refl _ w).alloc (Nat.le_refl _) _).alloc (by simp) _).alloc (by simp; omega) _).alloc (by simp; omega) _).alloc (by simp; omega) _).alloc (by simp; omega) _
  have b0 : Boxed W0 w.heap.size 9 (.string nm) := by
    rw [← hW0]
    exact (((((Boxed.new w 9 (.string nm)).alloc _).alloc _).alloc _).alloc _).alloc _
  have b1 : Boxed W0 (w.heap.size + 1) 9 (.string vl) := by
    have h := Boxed.new (w.alloc (.cells #[.string nm] 9)) 9 (.string vl)
    rw [World.size_alloc] at h
    rw [← hW0]
    exact (((h.alloc _).alloc _).alloc _).alloc _
  have b2 : Boxed W0 (w.heap.size + 1 + 1) 3 (.int .i64 0) := by
    have h := Boxed.new ((w.alloc (.cells #[.string nm] 9)).alloc (.cells #[.string vl] 9)) 3 (.int .i64 0)
    rw [World.size_alloc, World.size_alloc] at h
    rw [← hW0]
    exact ((h.alloc _).alloc _).alloc _
  have b3 : Boxed W0 (w.heap.size + 1 + 1 + 1) 4 (.bool false) := by
    have h := Boxed.new (((w.alloc (.cells #[.string nm] 9)).alloc (.cells #[.string vl] 9)).alloc (.cells #[.int .i64 0] 3)) 4 (.bool false)
    rw [World.size_alloc, World.size_alloc, World.size_alloc] at h
    rw [← hW0]
    exact (h.alloc _).alloc _
  have b4 : Boxed W0 (w.heap.size + 1 + 1 + 1 + 1) 3 (.int .i64 0) := by
    have h := Boxed.new ((((w.alloc (.cells #[.string nm] 9)).alloc (.cells #[.string vl] 9)).alloc (.cells #[.int .i64 0] 3)).alloc (.cells #[.bool false] 4)) 3 (.int .i64 0)
    rw [World.size_alloc, World.size_alloc, World.size_alloc, World.size_alloc] at h
    rw [← hW0]
    exact h.alloc _
  have b5 : Boxed W0 (w.heap.size + 1 + 1 + 1 + 1 + 1) 86 (.pointer (some ⟨g, 0, none⟩)) := by
    have h := Boxed.new (((((w.alloc (.cells #[.string nm] 9)).alloc (.cells #[.string vl] 9)).alloc (.cells #[.int .i64 0] 3)).alloc (.cells #[.bool false] 4)).alloc (.cells #[.int .i64 0] 3)) 86 (.pointer (some ⟨g, 0, none⟩))
    rw [World.size_alloc, World.size_alloc, World.size_alloc, World.size_alloc, World.size_alloc] at h
    rw [← hW0]
    exact h
  rw [hW0]
  clear hW0
  generalize hs : w.heap.size = s at *
  have HS := Lib.hid hs
  refine wpIn_rangeFunc_ownH rfl h1 (gf := 98) (lb := #[.pointer (some ⟨s + 1 + 1 + 1 + 1 + 1, 0, none⟩)]) rfl trivial (enters_of Tryd.func98 (by kernel_rfl) rfl)
    (all1_stops (n - 1) (s + 1 + 1 + 1 + 1 + 1) g m (by omega) L W0 (fun k => s + 6 ≤ k ∨ k = g ∨ k = s + 5) (s + 6) (fun k hk => .inl hk) (.inr (.inl rfl)) (.inr (.inr rfl)) (by omega) b5.cell (HT.out.below (by rw [hs]; exact hB0)))
    (fun h k => Kq.trans h k) (fun W l o o' _ h ho _ => Kq.put W l o o' h ho) (Below.refl _ _) (fun _ => rfl)
    (fun pre W => (((((∃ c, (∀ rest, B.fnd nm.toList vl.toList 0 (pre ++ rest) = B.fnd nm.toList vl.toList c rest) ∧ Boxed W (s + 1 + 1 + 1 + 1) 3 (.int .i64 c)) ∧ Boxed W s 9 (.string nm)) ∧ Boxed W (s + 1) 9 (.string vl)) ∧ Boxed W (s + 1 + 1) 3 (.int .i64 0)) ∧ Boxed W (s + 1 + 1 + 1) 4 (.bool false)) ∧ Below s w W)
    (fun c pre W => ((c = .ret ∧ ∃ i, (∀ rest, B.fnd nm.toList vl.toList 0 (pre ++ rest) = (i, true)) ∧ Boxed W (s + 1 + 1) 3 (.int .i64 i)) ∧ Boxed W (s + 1 + 1 + 1) 4 (.bool true)) ∧ Below s w W)
    (OwnFrom.and (OwnFrom.and (OwnFrom.and (OwnFrom.and (OwnFrom.and (fun pre X Y row hs hg hr => by obtain ⟨c, h1, h2⟩ := hs; exact ⟨c, h1, boxed_own _ _ (fun (_ : Unit) => Value.int .i64 c) () X Y row h2 hg (fun r e => (hr r e).2)⟩) (Own.from (boxed_own _ _ _) _)) (Own.from (boxed_own _ _ _) _)) (Own.from (boxed_own _ _ _) _)) (Own.from (boxed_own _ _ _) _)) (ownFrom_below (Nat.le_of_eq hs.symm) (by omega)))
    (fun c => OwnFrom.and (OwnFrom.and (fun pre X Y row hs hg hr => by obtain ⟨h0, i, h1, h2⟩ := hs; exact ⟨h0, i, h1, boxed_own _ _ (fun (_ : Unit) => Value.int .i64 i) () X Y row h2 hg (fun r e => (hr r e).2)⟩) (Own.from (boxed_own _ _ _) _)) (ownFrom_below (Nat.le_of_eq hs.symm) (by omega)))
    ⟨⟨⟨⟨⟨⟨0, fun _ => rfl, b4⟩, b0⟩, b1⟩, b2⟩, b3⟩, hB0⟩
    (fun x a' W => ∃ Bx, s + 1 + 1 + 1 + 1 < Bx ∧ CellsAt W Bx #[.string x.2.1, .string x.2.2, .bool false] 66 ∧ a' = { tmps := #[.pointer (some ⟨g, 0, none⟩), .string nm, .string vl, undef, .pointer (some ⟨s, 0, none⟩), .pointer (some ⟨s + 1, 0, none⟩), .pointer (some ⟨s + 1 + 1, 0, none⟩), .pointer (some ⟨s + 1 + 1 + 1, 0, none⟩), .pointer (some ⟨s + 1 + 1 + 1 + 1, 0, none⟩), .int .i64 x.1, .pointer (some ⟨Bx, 0, none⟩), .pointer (some ⟨g, 0, none⟩), .func (.func 98) #[] #[.pointer (some ⟨s + 1 + 1 + 1 + 1 + 1, 0, none⟩)], .int .i64 x.1, .agg #[.string x.2.1, .string x.2.2, .bool false], undef, undef, undef, undef, undef, undef, undef, undef, undef, undef, undef, undef, undef], defers := [] })
    (fun x a' _ X Y row hs hg hr => by obtain ⟨Bx, h1, h2, h3⟩ := hs; exact ⟨Bx, h1, CellsAt.own (β := Unit) Bx _ _ () X Y row h2 hg (fun r e => (hr r e).2), h3⟩)
    ?assign ?body ?done ?stop
  case assign =>
    rintro l pre x W K ⟨⟨⟨⟨⟨⟨c, hc, b4⟩, b0⟩, b1⟩, b2⟩, b3⟩, hB⟩ hK
    have hlt := b4.lt
    gi_wp2
    exact hK _ _ ((KeepsOthers.alloc _ _).from _) (Kq.of_below ((Below.refl _ W).alloc (Nat.le_refl _) _)) ⟨⟨⟨⟨⟨⟨c, hc, b4.alloc _⟩, b0.alloc _⟩, b1.alloc _⟩, b2.alloc _⟩, b3.alloc _⟩, hB.alloc (by omega) _⟩ ⟨W.heap.size, hlt, World.alloc_heap_new W _, rfl⟩
  case body =>
    rintro l pre ⟨xi, xn, xv⟩ a' W hl ⟨r, hr⟩ ⟨⟨⟨⟨⟨⟨c, hc, b4⟩, b0⟩, b1⟩, b2⟩, b3⟩, hB⟩ ⟨Bx, hBx, bX, rfl⟩ hlt
    have c0 := b0.cell
    have c1 := b1.cell
    have c2 := b2.cell
    have f2 := b2.frozen
    have c3 := b3.cell
    have f3 := b3.frozen
    have c4 := b4.cell
    have f4 := b4.frozen
    have x0 : W.cell? ⟨Bx, 0, none⟩ = some (.string xn) := by simp [World.cell?, show W.heap[Bx]? = _ from bX]
    have x1 : W.cell? ⟨Bx, 1, none⟩ = some (.string xv) := by simp [World.cell?, show W.heap[Bx]? = _ from bX]
    have hc' : ∀ rest, B.fnd nm.toList vl.toList 0 (pre ++ [(xi, xn, xv)] ++ rest) = B.fnd nm.toList vl.toList c ((xi, xn, xv) :: rest) := fun rest => by
      rw [List.append_assoc]; exact hc ((xi, xn, xv) :: rest)
    have HC := Lib.hid hc'
    have HB4 := Lib.hid b4
    have HB0 := Lib.hid b0
    have HB1 := Lib.hid b1
    have HB2 := Lib.hid b2
    have HB3 := Lib.hid b3
    have HB := Lib.hid hB
    clear hc hc' b4 b0 b1 b2 b3 hB bX hr
    gi_wp2
    · rename_i h1
      exact ⟨KeepsFrom.refl _ _, Kq.refl _ _, ⟨⟨⟨⟨⟨c, fun rest => (HC.out rest).trans (fnd_ne h1), HB4.out⟩, HB0.out⟩, HB1.out⟩, HB2.out⟩, HB3.out⟩, HB.out⟩
    · rename_i h2
      have h1 : (!xn.toList == nm.toList) = false := by assumption
      exact ⟨((KeepsOthers.setCell _ _ _).trans (KeepsOthers.setCell _ _ _)).from _, ⟨⟨rfl, xi, fun rest => (HC.out rest).trans (fnd_hit h1 h2), (HB2.out.set _).other (by omega) _⟩, (HB3.out.other (by omega) _).set _⟩, (HB.out.setCell (by show s ≤ s + 1 + 1; omega) _).setCell (by show s ≤ s + 1 + 1 + 1; omega) _⟩
    · rename_i h1 h2 h3
      refine ⟨(KeepsOthers.setCell _ _ _).from _, Kq.set W _ _ _ (by omega), ⟨⟨⟨⟨⟨xi, fun rest => (HC.out rest).trans ?_, HB4.out.set _⟩, HB0.out.other (by omega) _⟩, HB1.out.other (by omega) _⟩, HB2.out.other (by omega) _⟩, HB3.out.other (by omega) _⟩, HB.out.setCell (by show s ≤ s + 1 + 1 + 1 + 1; omega) _⟩
      rw [fnd_nm h1 h2, if_pos (eq_of_beq h3)]
    · rename_i h1 h2 h3
      refine ⟨KeepsFrom.refl _ _, Kq.refl _ _, ⟨⟨⟨⟨⟨c, fun rest => (HC.out rest).trans ?_, HB4.out⟩, HB0.out⟩, HB1.out⟩, HB2.out⟩, HB3.out⟩, HB.out⟩
      rw [fnd_nm h1 h2, if_neg (fun e => by rw [e] at h3; cases h3)]
  case done =>
    rintro D xs W hD rfl ⟨⟨⟨⟨⟨⟨c, hc, b4⟩, b0⟩, b1⟩, b2⟩, b3⟩, hB⟩ hK
    have hcc := hc []
    rw [List.append_nil] at hcc
    have HCC : Hid (B.fnd nm.toList vl.toList 0 (B.allL L) = (c, false)) := hcc
    have c4 := b4.cell
    have c2 := b2.cell
    have f2 := b2.frozen
    have c3 := b3.cell
    have f3 := b3.frozen
    have d2 := b2.lt
    clear hc hcc b0 b1
    gi_wp2
    have b2' : Boxed ((W.setCell ⟨s + 1 + 1, 0, none⟩ (.int .i64 c)).setCell ⟨s + 1 + 1 + 1, 0, none⟩ (.bool false)) (s + 1 + 1) 3 (.int .i64 c) := (b2.set _).other (by omega) _
    have b3' : Boxed ((W.setCell ⟨s + 1 + 1, 0, none⟩ (.int .i64 c)).setCell ⟨s + 1 + 1 + 1, 0, none⟩ (.bool false)) (s + 1 + 1 + 1) 4 (.bool false) := (b3.other (by omega) _).set _
    have hK' := ((KeepsOthers.setCell W ⟨s + 1 + 1, 0, none⟩ (.int .i64 c)).trans (KeepsOthers.setCell _ ⟨s + 1 + 1 + 1, 0, none⟩ (.bool false))).same D _ hK rfl
    refine ⟨by simp, .inl ⟨_, _, rfl, run_takeDeferred hK', ?_⟩⟩
    have e2 := cell_kept b2'.cell (grownBy_putObj' _ D (.deferred none)) (fun r e => by cases e; exact ⟨_, hK', rfl⟩)
    have e3 := cell_kept b3'.cell (grownBy_putObj' _ D (.deferred none)) (fun r e => by cases e; exact ⟨_, hK', rfl⟩)
    refine ⟨.tuple #[.int .i64 c, .bool false], ?_, by rw [HCC.out], ?_⟩
    · simp [results, Tryd.f75, go_sem, e2, e3]
    · rw [HS.out]
      exact ((hB.setCell (by show s ≤ s + 1 + 1; omega) _).setCell (by show s ≤ s + 1 + 1 + 1; omega) _).trans (belowK_b (w := W0) (by omega) _ D _ _ hD hK' rfl rfl)
  case stop =>
    rintro D c pre W hD hpre ⟨⟨⟨rfl, i, hi, b2⟩, b3⟩, hB⟩ hK
    have HI : Hid (B.fnd nm.toList vl.toList 0 (B.allL L) = (i, true)) := by
      obtain ⟨rest, hr⟩ := hpre
      show _ = _
      rw [← hr]
      exact hi rest
    clear hi
    gi_wp2
    refine ⟨by simp, .inl ⟨_, _, rfl, run_takeDeferred hK, ?_⟩⟩
    have e2 := cell_kept b2.cell (grownBy_putObj' _ D (.deferred none)) (fun r e => by cases e; exact ⟨_, hK, rfl⟩)
    have e3 := cell_kept b3.cell (grownBy_putObj' _ D (.deferred none)) (fun r e => by cases e; exact ⟨_, hK, rfl⟩)
    refine ⟨.tuple #[.int .i64 i, .bool true], ?_, by rw [HI.out], ?_⟩
    · simp [results, Tryd.f75, go_sem, e2, e3]
    · rw [HS.out]
      exact hB.trans (belowK_b (w := W0) (by omega) _ D _ _ hD hK rfl rfl)

theorem find_any (g m : Nat) (L : List B.HD) (nm vl : ByteArray) (w : World) (hT : Tab w g L m) :
    Calls Tryd.prog 75 #[.pointer (some ⟨g, 0, none⟩), .string nm, .string vl] w fun e w' =>
      e = .returned (.tuple #[.int .i64 (B.fnd nm.toList vl.toList 0 (B.allL L)).1, .bool (B.fnd nm.toList vl.toList 0 (B.allL L)).2]) ∧ Below w.heap.size w w' :=
  callsIn_wide.1 (find_in 6 g m (Nat.le_refl _) L nm vl w hT)
end Go.Proofs.YthdgcakbeiocgaaDoor
