/-
The walks of the reference's table that stands: names, values; SameHeader.
-/
import Derived.Deep.RegionWith
import Derived.BigRegion
import Derived.RegionTactic
import Derived.OwnWalk
import Derived.Deep.RegionLaw
import Derived.Laws.OwnMore
import Derived.Laws.AppendOwnNone
import Derived.Deep.Onto
import Derived.Deep.RegionHeld3
import Derived.Test.YtcbljbdcnahfhaaDoorMbb
import Derived.Test.YtcbljbdcnahfhaaDoorMba
/- Bref -/
namespace Go.Proofs.YtcbljbdcnahfhaaDoor
open Go.RowKit

/-- The names and the values, from 1 on. -/
def nmF (j : Nat) : ByteArray := if j = 0 then ⟨#[]⟩ else (B.stL.getD (j - 1) (⟨#[]⟩, ⟨#[]⟩)).1
def vlF (j : Nat) : ByteArray := if j = 0 then ⟨#[]⟩ else (B.stL.getD (j - 1) (⟨#[]⟩, ⟨#[]⟩)).2
def nmC : List Value := (List.range 62).map fun j => .string (nmF j)
def vlC : List Value := (List.range 62).map fun j => .string (vlF j)
def nmP : Array (Nat × Value) := ((List.range 62).map fun j => (j, Value.string (nmF j))).toArray
def vlP : Array (Nat × Value) := ((List.range 62).map fun j => (j, Value.string (vlF j))).toArray
theorem run_names (w : World) : (Instr.buildSlice 145 62 nmP).run Tryd.prog w = .ok (.slice (some ⟨w.heap.size, 0, none⟩) 62 62) (w.alloc (.cells nmC.toArray 9)) := by kernel_rfl
theorem run_values (w : World) : (Instr.buildSlice 145 62 vlP).run Tryd.prog w = .ok (.slice (some ⟨w.heap.size, 0, none⟩) 62 62) (w.alloc (.cells vlC.toArray 9)) := by kernel_rfl

/-- A new slice of 62 strings. -/
def NmOut (f : Nat → ByteArray) (w : World) (e : Ending) (w' : World) : Prop := ∃ g, e = .returned (.slice (some ⟨g, 0, none⟩) 62 62) ∧ w.heap.size ≤ g ∧ Blk w' g 62 (fun j => .string (f j)) ∧ Below w.heap.size w w'

theorem blk62 {f : Nat → ByteArray} {w : World} {g j : Nat} {n : ByteArray} (hb : Blk w g 62 (fun j => .string (f j))) (hj : j < 62) (h : f j = n) : w.cell? ⟨g, j, none⟩ = some (.string n) := by
  rw [← h]
  exact (hb _ hj).1

set_option maxRecDepth 100000 in
theorem names_any (w : World) : Calls Tryd.prog 88 #[] w (NmOut nmF w) := by
  have hb := Blk.new w nmC.toArray 9 (fun j => .string (nmF j)) (fun j hj => by
    rw [List.getElem?_toArray, nmC, List.getElem?_map, List.getElem?_range (by simpa [nmC] using hj)]; rfl)
  rw [show nmC.toArray.size = 62 by simp [nmC]] at hb
  have HBk := Lib.hid hb
  have HB : Hid (Below w.heap.size w (w.alloc (.cells nmC.toArray 9))) := (Below.refl _ _).alloc (Nat.le_refl _) _
  clear hb
  go_enter Tryd.func88, Tryd.ntmps88
  go_upto_region 1 with (fail)
  go_step
  refine wpList_buildSlice_big rfl 145 62 _ rfl nmP (by kernel_rfl) _ _ (run_names w) ?_
  generalize w.alloc (.cells nmC.toArray 9) = w1 at *
  generalize hg : w.heap.size = g at *
  have Hg := Lib.hid hg
  clear hg
  go_wp2
  go_ret
  exact ⟨g, rfl, by rw [Hg.out]; exact Nat.le_refl _, HBk.out, by rw [Hg.out]; exact HB.out⟩

set_option maxRecDepth 100000 in
theorem values_any (w : World) : Calls Tryd.prog 89 #[] w (NmOut vlF w) := by
  have hb := Blk.new w vlC.toArray 9 (fun j => .string (vlF j)) (fun j hj => by
    rw [List.getElem?_toArray, vlC, List.getElem?_map, List.getElem?_range (by simpa [vlC] using hj)]; rfl)
  rw [show vlC.toArray.size = 62 by simp [vlC]] at hb
  have HBk := Lib.hid hb
  have HB : Hid (Below w.heap.size w (w.alloc (.cells vlC.toArray 9))) := (Below.refl _ _).alloc (Nat.le_refl _) _
  clear hb
  go_enter Tryd.func89, Tryd.ntmps89
  go_upto_region 1 with (fail)
  go_step
  refine wpList_buildSlice_big rfl 145 62 _ rfl vlP (by kernel_rfl) _ _ (run_values w) ?_
  generalize w.alloc (.cells vlC.toArray 9) = w1 at *
  generalize hg : w.heap.size = g at *
  have Hg := Lib.hid hg
  clear hg
  go_wp2
  go_ret
  exact ⟨g, rfl, by rw [Hg.out]; exact Nat.le_refl _, HBk.out, by rw [Hg.out]; exact HB.out⟩

theorem sameHeader_eq (n v : ByteArray) (b : Bool) (w : World) :
    Calls Tryd.prog 55 #[.agg #[.string n, .string v, .bool b], .agg #[.string n, .string v, .bool b]] w fun e w' => e = .returned (.bool true) ∧ Below w.heap.size w w' := by
  have HB : Hid (Below w.heap.size w ((w.alloc (.cells #[.string n, .string v, .bool b] 66)).alloc (.cells #[.string n, .string v, .bool b] 66))) := ((Below.refl _ _).alloc (Nat.le_refl _) _).alloc (by simp) _
  go_enter Tryd.func55, Tryd.ntmps55
  go_wp2
  go_ret
  exact ⟨by simp, HB.out⟩
end Go.Proofs.YtcbljbdcnahfhaaDoor
/- Brow -/
namespace Go.Proofs.YtcbljbdcnahfhaaDoor
open Go.RowKit

/-- Headers as cells. -/
def hvs : List B.HD → List Value
  | [] => []
  | h :: t => .string h.1 :: .string h.2 :: .bool false :: hvs t
theorem hvs_length (l : List B.HD) : (hvs l).length = l.length * 3 := by
  induction l with
  | nil => rfl
  | cons a l ih => simp only [hvs, List.length_cons, ih]; omega
theorem hvs_append (l m : List B.HD) : hvs (l ++ m) = hvs l ++ hvs m := by
  induction l with
  | nil => rfl
  | cons a l ih => simp only [List.cons_append, hvs, ih]
theorem hvs_one (l : List B.HD) : ∀ u ∈ hvs l, u.oneCell' = true := by
  induction l with
  | nil => intro u hu; cases hu
  | cons a l ih =>
    intro u hu
    simp only [hvs, List.mem_cons] at hu
    rcases hu with rfl | rfl | rfl | h
    · rfl
    · rfl
    · rfl
    · exact ih u h
theorem hvs_at (l : List B.HD) (j : Nat) (x : B.HD) (hx : l[j]? = some x) : (hvs l)[j * 3]? = some (.string x.1) ∧ (hvs l)[j * 3 + 1]? = some (.string x.2) ∧ (hvs l)[j * 3 + 2]? = some (.bool false) := by
  induction l generalizing j with
  | nil => simp at hx
  | cons a l ih =>
    cases j with
    | zero =>
      simp at hx
      subst hx
      exact ⟨rfl, rfl, rfl⟩
    | succ j =>
      simp at hx
      have := ih j hx
      rw [show (j + 1) * 3 = j * 3 + 3 by omega]
      exact this

/-- The slice at a reads as the headers l. -/
def HRd (w : World) (a : Option Addr) (l : List B.HD) : Prop := ∀ (j : Nat) (x : B.HD), l[j]? = some x → ∃ b o, a = some ⟨b, o, none⟩ ∧ w.cell? ⟨b, o + j * 3, none⟩ = some (.string x.1) ∧ w.cell? ⟨b, o + j * 3 + 1, none⟩ = some (.string x.2) ∧ w.cell? ⟨b, o + j * 3 + 2, none⟩ = some (.bool false)
theorem HRd.below {w w' : World} {a : Option Addr} {l : List B.HD} (h : HRd w a l) (hb : Below w.heap.size w w') : HRd w' a l := fun j x hx => by
  obtain ⟨b, o, rfl, h0, h1, h2⟩ := h j x hx
  exact ⟨b, o, rfl, (hb.cell (p := ⟨b, o + j * 3, none⟩) (World.block_lt_of_cell? _ _ h0)).trans h0, (hb.cell (p := ⟨b, o + j * 3 + 1, none⟩) (World.block_lt_of_cell? _ _ h1)).trans h1, (hb.cell (p := ⟨b, o + j * 3 + 2, none⟩) (World.block_lt_of_cell? _ _ h2)).trans h2⟩
theorem HRd.nil (w : World) (a : Option Addr) : HRd w a [] := fun j x hx => by simp at hx
theorem HRd.news {w : World} {ad : Addr} {l : List B.HD} (h : HRd w (some ad) l) : ∀ j u, (hvs l)[j]? = some u → w.cell? (ad.add j) = some u := by
  intro j u hu
  have hj : j < l.length * 3 := by
    have := (List.getElem?_eq_some_iff.1 hu).1
    rwa [hvs_length] at this
  obtain ⟨x, hx⟩ : ∃ x, l[j / 3]? = some x := ⟨_, List.getElem?_eq_getElem (by omega)⟩
  obtain ⟨b, o, e, h0, h1, h2⟩ := h (j / 3) x hx
  obtain ⟨g0, g1, g2⟩ := hvs_at l (j / 3) x hx
  cases e
  rw [Addr.add_lit]
  have hm : j = j / 3 * 3 ∨ j = j / 3 * 3 + 1 ∨ j = j / 3 * 3 + 2 := by omega
  rcases hm with e | e | e
  · rw [e] at hu ⊢
    rw [g0] at hu
    cases hu
    have : j / 3 * 3 / 3 = j / 3 := by omega
    simpa [this] using h0
  · rw [e] at hu ⊢
    rw [g1] at hu
    cases hu
    simpa [Nat.add_assoc] using h1
  · rw [e] at hu ⊢
    rw [g2] at hu
    cases hu
    simpa [Nat.add_assoc] using h2

/-- A slice of the call's own that holds the headers l. -/
def HOwn (K : Nat) (w : World) (v : Value) (l : List B.HD) : Prop := w.ownsRow K 66 3 v l.length (hvs l)
theorem HOwn.nil (K : Nat) (w : World) : HOwn K w (.slice none 0 0) [] := World.ownsRow_nil w K _ _
theorem HOwn.kept {K : Nat} {w w' : World} {v : Value} {l : List B.HD} {row : Option Nat} (h : HOwn K w v l) (hg : w.grownBy w' row) (hne : v.ownBlock = none ∨ v.ownBlock ≠ row) : HOwn K w' v l := World.ownsRow.kept h hg hne
theorem HOwn.below {K : Nat} {w w' : World} {v : Value} {l : List B.HD} (h : HOwn K w v l) (hb : Below w.heap.size w w') : HOwn K w' v l :=
  h.kept (row := none) ⟨hb.os, hb.tape, hb.output, hb.size, fun i hi _ => hb.block i hi⟩ (by
    cases e : v.ownBlock with
    | none => exact Or.inl rfl
    | some b => exact Or.inr (by simp))
theorem HOwn.lt {K : Nat} {w : World} {v : Value} {l : List B.HD} (h : HOwn K w v l) : ∀ k, v.ownBlock = some k → K ≤ k ∧ k < w.heap.size := World.ownsRow.lt h
theorem HOwn.only {K g : Nat} {w w' : World} {v : Value} {l : List B.HD} (h : HOwn K w v l) (hg : Only g w w') (hne : v.ownBlock ≠ some g) : HOwn K w' v l := h.kept hg (Or.inr hne)
/-- A nil slice, or one at the head of its block. -/
theorem HOwn.cases {K : Nat} {w : World} {v : Value} {l : List B.HD} (h : HOwn K w v l) : (v = .slice none 0 0 ∧ l = []) ∨ ∃ g cp, v = .slice (some ⟨g, 0, none⟩) l.length cp ∧ l.length ≤ cp ∧ K ≤ g ∧ g < w.heap.size ∧ HRd w (some ⟨g, 0, none⟩) l := by
  rcases h.2 with ⟨h1, h2⟩ | ⟨g, cap, cur, rfl, hb, hgg, hn, hm, hs, ht⟩
  · exact Or.inl ⟨h1, List.length_eq_zero_iff.1 h2⟩
  · refine Or.inr ⟨g, cap, rfl, hn, hb, (Array.getElem?_eq_some_iff.1 hgg).1, fun j x hx => ?_⟩
    obtain ⟨g0, g1, g2⟩ := hvs_at l j x hx
    have key : ∀ i u, (hvs l)[i]? = some u → w.cell? ⟨g, i, none⟩ = some u := fun i u hu => by
      have := World.ownsRow.cells (g := g) h rfl i u hu
      rwa [Addr.add_lit, Nat.zero_add] at this
    exact ⟨g, 0, rfl, by rw [Nat.zero_add]; exact key _ _ g0, by rw [Nat.zero_add]; exact key _ _ g1, by rw [Nat.zero_add]; exact key _ _ g2⟩

theorem infoH : (Tryd.prog.info? 66).map (fun i => (i.zero, i.size, i.bytes)) = some (some (.agg #[.string ⟨#[]⟩, .string ⟨#[]⟩, .bool false]), 3, 40) := by kernel_rfl

/-- 'append(own, headers...)', of one header at least. -/
theorem run_appH (w : World) (K : Nat) (v : Value) (l : List B.HD) (hown : HOwn K w v l) (ad : Addr) (c : Nat) (m : List B.HD) (hm : 0 < m.length) (hr : HRd w (some ad) m) (hsz : l.length + m.length ≤ 2097152) (hbase : K ≤ w.heap.size) :
    ∃ g cp w', (Builtin.append_ #[50, 50] 50 #[v, .slice (some ad) m.length c]).run Tryd.prog w = .ok (.slice (some ⟨g, 0, none⟩) (l.length + m.length) cp) w' ∧ HOwn K w' (.slice (some ⟨g, 0, none⟩) (l.length + m.length) cp) (l ++ m) ∧ w.grownBy w' v.ownBlock := by
  obtain ⟨i0, hi, hz0, hz1, hz2⟩ := info_parts infoH
  obtain ⟨v', w', h1, h2, h3, h4⟩ := run_append_own (P := Tryd.prog) (w := w) K 50 50 66 i0 _ 3 40 Tryd.underlying50 hi hz0 hz1 hz2 rfl (by omega) v l.length (hvs l) hown ad m.length c (hvs m) (hvs_length m) hr.news (hvs_one m) (by unfold maxLen; omega) (by omega) hbase
  have h2' : w'.ownsRow K 66 3 v' (l.length + m.length) (hvs l ++ hvs m) := h2
  rcases h2'.2 with ⟨e1, _⟩ | ⟨g, cp, cur, rfl, rest⟩
  · have := (h4.1 e1).2
    omega
  · refine ⟨g, cp, w', h1, ?_, h3⟩
    show w'.ownsRow K 66 3 _ (l ++ m).length (hvs (l ++ m))
    rw [List.length_append, hvs_append]
    exact h2

theorem wpList_appH (w : World) {ops : Array Oper} {rest : List Oper} {o : Oper} {a : Act} {Q : Exit → Act → World → Prop} (hgd : o.guard = none) (s x : Operand)
    (ho : o.op = .call { callee := .builtin .append, args := #[s, x], argTypes := #[50, 50] }) (hty : o.type = 50)
    (K : Nat) (v : Value) (l : List B.HD) (hs : a.eval s = v) (hown : HOwn K w v l) (ad : Addr) (mm c : Nat) (m : List B.HD) (hx : a.eval x = .slice (some ad) mm c) (hmm : m.length = mm) (hm : 0 < mm) (hr : HRd w (some ad) m) (hsz : l.length + mm ≤ 2097152) (hbase : K ≤ w.heap.size)
    (hK : ∀ g cp w', HOwn K w' (.slice (some ⟨g, 0, none⟩) (l.length + mm) cp) (l ++ m) → w.grownBy w' v.ownBlock → wpList Tryd.prog ops Q rest (a.put o.dst (.slice (some ⟨g, 0, none⟩) (l.length + mm) cp)) w') :
    wpList Tryd.prog ops Q (o :: rest) a w := by
  subst hmm
  refine wpList_plain hgd fun K' hK' => ?_
  obtain ⟨g, cp, w', hrun, h2, h3⟩ := run_appH w K v l hown ad c m hm hr hsz hbase
  unfold Oper.wp
  simp [execOp, ho, hty, resolve, invoke, builtin, hs, hx, hrun, Result.andThen]
  exact hK' _ _ (hK g cp w' h2 h3)
/-- The same at a step of a region that draws its order. -/
theorem step_appH (w : World) {ops : Array Oper} {o : Oper} {a : Act} {K' : Act → World → Prop} {Q : Exit → Act → World → Prop} {E : Prop} (hgd : o.guard = none) (s x : Operand)
    (ho : o.op = .call { callee := .builtin .append, args := #[s, x], argTypes := #[50, 50] }) (hty : o.type = 50)
    (K : Nat) (v : Value) (l : List B.HD) (hs : a.eval s = v) (hown : HOwn K w v l) (ad : Addr) (mm c : Nat) (m : List B.HD) (hx : a.eval x = .slice (some ad) mm c) (hmm : m.length = mm) (hm : 0 < mm) (hr : HRd w (some ad) m) (hsz : l.length + mm ≤ 2097152) (hbase : K ≤ w.heap.size)
    (hK : ∀ g cp w', HOwn K w' (.slice (some ⟨g, 0, none⟩) (l.length + mm) cp) (l ++ m) → w.grownBy w' v.ownBlock → K' (a.put o.dst (.slice (some ⟨g, 0, none⟩) (l.length + mm) cp)) w') :
    if Region.wanted o (yielded ops a.tmps) = true then Oper.wp Tryd.prog o a w K' Q else E := by
  subst hmm
  obtain ⟨g, cp, w', hrun, h2, h3⟩ := run_appH w K v l hown ad c m hm hr hsz hbase
  rw [if_pos (by unfold Region.wanted; rw [hgd])]
  unfold Oper.wp
  simp [execOp, ho, hty, resolve, invoke, builtin, hs, hx, hrun, Result.andThen]
  exact hK _ _ _ h2 h3
end Go.Proofs.YtcbljbdcnahfhaaDoor
/- Brt -/
namespace Go.Proofs.YtcbljbdcnahfhaaDoor
open Go.RowKit

theorem HOwn.mono {K K' : Nat} {w : World} {v : Value} {l : List B.HD} (h : HOwn K w v l) (hk : K' ≤ K) : HOwn K' w v l := World.ownsRow.mono h hk
/-- The value, whatever it is. -/
theorem HOwn.form {K : Nat} {w : World} {v : Value} {l : List B.HD} (h : HOwn K w v l) : ∃ a cp, v = .slice a l.length cp ∧ l.length ≤ cp ∧ HRd w a l := by
  rcases h.cases with ⟨rfl, rfl⟩ | ⟨g, cp, rfl, h1, _, _, h2⟩
  · exact ⟨none, 0, rfl, Nat.le_refl _, HRd.nil _ _⟩
  · exact ⟨_, cp, rfl, h1, h2⟩

theorem HOwn.one (w : World) (n v : ByteArray) : HOwn w.heap.size (w.alloc (.cells #[.string n, .string v, .bool false] 66)) (.slice (some ⟨w.heap.size, 0, none⟩) 1 1) [(n, v)] :=
  World.ownsRow_lit w #[.string n, .string v, .bool false] 1 (Nat.le_refl _) (by decide) rfl

theorem hrd_one (w : World) (n v : ByteArray) : HRd (w.alloc (.cells #[.string n, .string v, .bool false] 66)) (some ⟨w.heap.size, 0, none⟩) [(n, v)] := fun j x hx => by
  cases j with
  | zero =>
    simp at hx
    subst hx
    exact ⟨_, 0, rfl, by simp, by simp, by simp⟩
  | succ j => simp at hx
/-- 'append(own, others...)', where something is owned. -/
theorem run_appT (w : World) (K : Nat) (v : Value) (l : List B.HD) (hown : HOwn K w v l) (x : Value) (K2 : Nat) (m : List B.HD) (hm : 0 < l.length) (hx : HOwn K2 w x m) (hsz : l.length + m.length ≤ 2097152) (hbase : K ≤ w.heap.size) :
    ∃ g cp w', (Builtin.append_ #[50, 50] 50 #[v, x]).run Tryd.prog w = .ok (.slice (some ⟨g, 0, none⟩) (l.length + m.length) cp) w' ∧ HOwn K w' (.slice (some ⟨g, 0, none⟩) (l.length + m.length) cp) (l ++ m) ∧ w.grownBy w' v.ownBlock := by
  obtain ⟨i0, hi, hz0, hz1, hz2⟩ := info_parts infoH
  rcases hx.cases with ⟨rfl, rfl⟩ | ⟨gx, cx, rfl, _, _, _, hr⟩
  · rcases hown.cases with ⟨rfl, rfl⟩ | ⟨g, cp, hv, _⟩
    · simp at hm
    · subst hv
      refine ⟨g, cp, w, run_append_owned_none w K 50 50 66 i0 3 Tryd.underlying50 hi _ l.length (hvs l) hown, ?_, World.grownBy.refl _ _⟩
      rw [List.append_nil]
      exact hown
  · obtain ⟨v', w', h1, h2, h3, h4⟩ := run_append_own (P := Tryd.prog) (w := w) K 50 50 66 i0 _ 3 40 Tryd.underlying50 hi hz0 hz1 hz2 rfl (by omega) v l.length (hvs l) hown ⟨gx, 0, none⟩ m.length cx (hvs m) (hvs_length m) hr.news (hvs_one m) (by unfold maxLen; omega) (by omega) hbase
    have h2' : w'.ownsRow K 66 3 v' (l.length + m.length) (hvs l ++ hvs m) := h2
    rcases h2'.2 with ⟨e1, _⟩ | ⟨g, cp, cur, rfl, rest⟩
    · obtain ⟨hv, _⟩ := h4.1 e1
      rcases hown.cases with ⟨_, rfl⟩ | ⟨g, cp, hv', _⟩
      · simp at hm
      · rw [hv'] at hv; cases hv
    · refine ⟨g, cp, w', h1, ?_, h3⟩
      show w'.ownsRow K 66 3 _ (l ++ m).length (hvs (l ++ m))
      rw [List.length_append, hvs_append]
      exact h2

/-- The same at a step of a region that draws its order. -/
theorem step_appT (w : World) {ops : Array Oper} {o : Oper} {a : Act} {K' : Act → World → Prop} {Q : Exit → Act → World → Prop} {E : Prop} (hgd : o.guard = none) (s x : Operand)
    (ho : o.op = .call { callee := .builtin .append, args := #[s, x], argTypes := #[50, 50] }) (hty : o.type = 50)
    (K : Nat) (v : Value) (l : List B.HD) (hs : a.eval s = v) (hown : HOwn K w v l) (y : Value) (K2 : Nat) (m : List B.HD) (hx : a.eval x = y) (hm : 0 < l.length) (hr : HOwn K2 w y m) (hsz : l.length + m.length ≤ 2097152) (hbase : K ≤ w.heap.size)
    (hK : ∀ g cp w', HOwn K w' (.slice (some ⟨g, 0, none⟩) (l.length + m.length) cp) (l ++ m) → w.grownBy w' v.ownBlock → K' (a.put o.dst (.slice (some ⟨g, 0, none⟩) (l.length + m.length) cp)) w') :
    if Region.wanted o (yielded ops a.tmps) = true then Oper.wp Tryd.prog o a w K' Q else E := by
  obtain ⟨g, cp, w', hrun, h2, h3⟩ := run_appT w K v l hown y K2 m hm hr hsz hbase
  rw [if_pos (by unfold Region.wanted; rw [hgd])]
  unfold Oper.wp
  simp [execOp, ho, hty, resolve, invoke, builtin, hs, hx, hrun, Result.andThen]
  exact hK _ _ _ h2 h3

/-- A copy of headers. -/
def HOut (l : List B.HD) (w : World) (e : Ending) (w' : World) : Prop := ∃ v, e = .returned v ∧ HOwn w.heap.size w' v l ∧ Below w.heap.size w w'

set_option maxRecDepth 100000 in
set_option maxHeartbeats 4000000 in
theorem headers_any (a : Option Addr) (n c : Nat) (l : List B.HD) (w : World) (hl : l.length = n) (hn : n ≤ 1048576) (hr : HRd w a l) :
    Calls Tryd.prog 27 #[.slice a n c] w (HOut l w) := by
  obtain ⟨i0, hi, hz0, hz1, hz2⟩ := info_parts infoH
  have HL := Lib.hid hl
  have HR := Lib.hid hr
  clear hl hr
  have HB2 : Hid (i0.bytes * n ≤ 281474976710656) := by show _ ≤ _; rw [hz2]; omega
  go_enter Tryd.func27, Tryd.ntmps27
  go_wp2_with (at_make; refine wpList_make_own _ rfl _ _ 50 rfl w.heap.size 66 i0 _ 3 Tryd.underlying50 hi hz0 hz1 .i64 .i64 _ n rfl rfl rfl HB2.out ?_ (Nat.le_refl _) ?_; unfold maxLen; omega; intro w1 hown hgrow)
  have H0 : Hid (HOwn w.heap.size w1 (.slice (some ⟨w.heap.size, 0, none⟩) 0 n) []) := hown
  have HB1 := Lib.hid (Below.grown (Below.refl w.heap.size w) hgrow (Nat.le_refl _) (fun k e => by cases e))
  clear hown hgrow
  go_wp2
  go_loopw [3, 4] (fun al i wr => ∃ k : Nat, k ≤ n ∧ i = .int .i64 k ∧ Hid (HOwn w.heap.size wr al (l.take k)) ∧ Hid (Below w.heap.size w wr)) (fun _ i _ => n - (intOf i).toNat)
  case atStart => exact ⟨0, by omega, rfl, H0, HB1⟩
  case round =>
    obtain ⟨k, hk, rfl, HO, HB⟩ := hrel
    clear H0 HB1
    have hz := HB.out.size
    by_cases hlt : k < n
    · obtain ⟨x, hx⟩ : ∃ x, l[k]? = some x := ⟨_, List.getElem?_eq_getElem (by rw [HL.out]; exact hlt)⟩
      obtain ⟨b, o, rfl, d0, d1, d2⟩ := (HR.out.below HB.out) k x hx
      obtain ⟨xn, xv⟩ := x
      have HT : Hid (l.take (k + 1) = l.take k ++ [(xn, xv)]) := by
        show _ = _
        rw [List.take_add_one, hx]; rfl
      have hlk : (l.take k).length = k := by rw [List.length_take, HL.out]; omega
      have hsz : (l.take k).length + 1 ≤ 2097152 := by omega
      clear hx
      have q0 : (0 : Int) ≤ (k : Int) := by omega
      have q1 : (k : Int) < (n : Int) := by omega
      have hba : Below wr.heap.size wr (wr.alloc (.cells #[.string xn, .string xv, .bool false] 66)) := (Below.refl _ _).alloc (Nat.le_refl _) _
      have HBa := Lib.hid (HB.out.trans (hba.mono hz))
      have HOa := Lib.hid (HO.out.below hba)
      have HRn := Lib.hid (hrd_one wr xn xv)
      clear hba HO HB
      go_wp2_with (at_builtin; refine wpList_appH _ rfl _ _ rfl rfl w.heap.size _ (l.take k) rfl HOa.out ⟨wr.heap.size, 0, none⟩ 1 1 [(xn, xv)] rfl rfl (by omega) HRn.out hsz ?_ ?_; (have := HBa.out.size; omega); intro g7 cp7 w7 hA7 hg7)
      have HA7 := Lib.hid hA7
      have HB7 := Lib.hid (HBa.out.grown hg7 HBa.out.size (fun r e => (HOa.out.lt r e).1))
      clear hA7 hg7 HOa HBa HRn
      go_wp2
      go_roundw
      case rel => exact ⟨k + 1, by omega, by rw [Int.natCast_add]; rfl, by have h := HA7.out; rw [hlk] at h; rw [HT.out]; exact h, HB7⟩
      case measure => simp [intOf]; omega
    · obtain rfl : k = n := by omega
      have hO := HO.out
      rw [List.take_of_length_le (by rw [HL.out]; exact Nat.le_refl _)] at hO
      have HO2 := Lib.hid hO
      clear hO HO
      go_wp2
      go_ret
      exact ⟨_, rfl, HO2.out, HB.out⟩
end Go.Proofs.YtcbljbdcnahfhaaDoor
/- Brts -/
namespace Go.Proofs.YtcbljbdcnahfhaaDoor
open Go.RowKit
namespace B
theorem tot_take (A : List HD) (k : Nat) (x : HD) (hx : A[k]? = some x) : tot (A.take (k + 1)) = tot (A.take k) + sz x := by
  rw [List.take_add_one, hx, tot_app]; simp [tot]
theorem tot_take_le (A : List HD) (k : Nat) : tot (A.take k) ≤ tot A := by
  have h : tot A = tot (A.take k) + tot (A.drop k) := by rw [← tot_app, List.take_append_drop]
  omega
/-- What stays when so many bytes more want room. -/
def rm (M n : Nat) (A : List HD) : List HD := if n ≤ M then (shr (M - n) A.reverse).reverse else []
theorem rm_nil (M n : Nat) : rm M n [] = [] := by unfold rm; split <;> rfl
theorem rm_fit {M n : Nat} {A : List HD} (h : tot A + n ≤ M) : rm M n A = A := by
  unfold rm
  rw [if_pos (by omega), shr_stop (by rw [tot_rev]; omega), List.reverse_reverse]
theorem rm_drop {M n : Nat} {A : List HD} {x : HD} (h : M < tot (A ++ [x]) + n) : rm M n (A ++ [x]) = rm M n A := by
  unfold rm
  by_cases hn : n ≤ M
  · rw [if_pos hn, if_pos hn, List.reverse_append]
    show (shr (M - n) (x :: A.reverse)).reverse = _
    rw [shr_step]
    have : tot (x :: A.reverse) = tot (A ++ [x]) := by rw [← tot_rev (A ++ [x]), List.reverse_append]; rfl
    omega
  · rw [if_neg hn, if_neg hn]
theorem rm_add (m : Nat) (L : List HD) (h : HD) : (add m L h).reverse = if sz h ≤ m then h :: rm m (sz h) L.reverse else rm m (sz h) L.reverse := by
  unfold add rm
  by_cases hb : m < sz h
  · rw [if_pos hb, if_neg (by omega), if_neg (by omega)]; rfl
  · rw [if_neg hb, if_pos (by omega), if_pos (by omega), List.reverse_append, List.reverse_reverse]; rfl
theorem rm_shr (m : Nat) (L : List HD) : rm m 0 L.reverse = (shr m L).reverse := by
  unfold rm
  rw [if_pos (by omega), List.reverse_reverse]; rfl
end B

/-- The reference's table: its headers, the newest first, and its most. -/
def Rx (w : World) (K : Nat) (gx : Nat) (A : List B.HD) (M : Nat) : Prop :=
  ∃ v, (w.cell? ⟨gx, 0, none⟩ = some v ∧ w.frozen? ⟨gx, 0, none⟩ = false) ∧ (w.cell? ⟨gx, 1, none⟩ = some (.int .i64 M) ∧ w.frozen? ⟨gx, 1, none⟩ = false) ∧ HOwn K w v A ∧ v.ownBlock ≠ some gx
theorem Rx.lt {w : World} {K gx M : Nat} {A : List B.HD} (h : Rx w K gx A M) : gx < w.heap.size := by
  obtain ⟨v, h0, _⟩ := h
  exact World.block_lt_of_cell? _ _ h0.1
theorem Rx.below {w w' : World} {K gx M : Nat} {A : List B.HD} (h : Rx w K gx A M) (hb : Below w.heap.size w w') : Rx w' K gx A M := by
  have hg := h.lt
  obtain ⟨v, h0, h1, h2, h3⟩ := h
  exact ⟨v, ⟨(hb.cell (p := ⟨gx, 0, none⟩) hg).trans h0.1, (World.frozen?_of_block (a := ⟨gx, 0, none⟩) (hb.block gx hg)).trans h0.2⟩, ⟨(hb.cell (p := ⟨gx, 1, none⟩) hg).trans h1.1, (World.frozen?_of_block (a := ⟨gx, 1, none⟩) (hb.block gx hg)).trans h1.2⟩, h2.below hb, h3⟩

theorem refSize_any (n v : ByteArray) (b : Bool) (w : World) (hn : n.size ≤ 140737488355328) (hv : v.size ≤ 140737488355328) :
    Calls Tryd.prog 57 #[.agg #[.string n, .string v, .bool b]] w fun e w' => e = .returned (.int .i64 (B.sz (n, v) : Nat)) ∧ Below w.heap.size w w' := by
  go_enter Tryd.func57, Tryd.ntmps57
  go_wp2
  go_ret
  refine ⟨?_, ?_⟩
  · simp
    unfold B.sz
    simp only
    omega
  · exact (Below.refl _ _).alloc (Nat.le_refl _) _

set_option maxRecDepth 100000 in
set_option maxHeartbeats 4000000 in
theorem refTot_any (K gx M : Nat) (A : List B.HD) (w : World) (hR : Rx w K gx A M) (ht : B.tot A ≤ 1048576) :
    Calls Tryd.prog 86 #[.pointer (some ⟨gx, 0, none⟩)] w fun e w' => e = .returned (.int .i64 (B.tot A : Nat)) ∧ Below w.heap.size w w' := by
  have HR := Lib.hid hR
  clear hR
  obtain ⟨ln, hln⟩ : ∃ ln, ln = A.length := ⟨_, rfl⟩
  have HL := Lib.hid hln
  have hl := B.tot_len A
  rw [← hln] at hl
  clear hln
  go_enter Tryd.func86, Tryd.ntmps86
  go_wp2
  go_loopw [3, 4] (fun al i wr => ∃ k : Nat, k ≤ ln ∧ i = .int .i64 k ∧ al = .int .i64 (B.tot (A.take k) : Nat) ∧ Hid (Below w.heap.size w wr)) (fun _ i _ => ln - (intOf i).toNat)
  case atStart => exact ⟨0, by omega, rfl, rfl, Below.refl _ _⟩
  case round =>
    obtain ⟨k, hk, rfl, rfl, HB⟩ := hrel
    have hz := HB.out.size
    obtain ⟨v, ⟨c0, _⟩, _, hO, _⟩ := HR.out.below HB.out
    obtain ⟨a, cp, rfl, hcp, hrd⟩ := hO.form
    rw [← HL.out] at c0 hcp
    clear hO
    by_cases hlt : k < ln
    · obtain ⟨x, hx⟩ : ∃ x, A[k]? = some x := ⟨_, List.getElem?_eq_getElem (by rw [← HL.out]; exact hlt)⟩
      obtain ⟨b, o, rfl, d0, d1, d2⟩ := hrd k x hx
      have HT := Lib.hid (B.tot_take A k x hx)
      have hts := B.tot_take_le A (k + 1)
      rw [HT.out] at hts
      obtain ⟨xn, xv⟩ := x
      have hx1 : xn.size ≤ 140737488355328 := by unfold B.sz at hts; simp only at hts; omega
      have hx2 : xv.size ≤ 140737488355328 := by unfold B.sz at hts; simp only at hts; omega
      clear hx hrd
      have q0 : (0 : Int) ≤ (k : Int) := by omega
      have q1 : (k : Int) < (ln : Int) := by omega
      have q3 : IntKind.i64.wrap ((B.tot (A.take k) : Int) + (B.sz (xn, xv) : Int)) = ((B.tot (A.take (k + 1)) : Nat) : Int) := by rw [IntKind.wrap_i64, HT.out]; omega
      have HSz := Lib.hid (fun w => refSize_any xn xv false w hx1 hx2)
      clear hts
      go_wp2_with (go_at_call 57; refine (HSz.out _).mono ?_; rintro e w5 ⟨rfl, hb5⟩; have HB5 := Lib.hid hb5; clear hb5)
      go_roundw
      case rel => exact ⟨k + 1, by omega, by rw [Int.natCast_add]; rfl, rfl, HB.out.trans (HB5.out.mono hz)⟩
      case measure => simp [intOf]; omega
    · obtain rfl : k = ln := by omega
      have q1 : ¬ (k : Int) < (k : Int) := by omega
      rw [show A.take k = A from List.take_of_length_le (by rw [HL.out]; exact Nat.le_refl _)]
      go_wp2
      go_ret
      exact ⟨rfl, HB.out⟩
end Go.Proofs.YtcbljbdcnahfhaaDoor
/- Brtr -/
namespace Go.Proofs.YtcbljbdcnahfhaaDoor
open Go.RowKit

theorem below_drew (w : World) : Below w.heap.size w w.drew := Below.drew (Below.refl _ w)
theorem below_drewN (w : World) (q : Nat) : Below w.heap.size w (w.drewN q) := ⟨rfl, rfl, rfl, Nat.le_refl _, fun _ _ => rfl⟩
theorem Rx.set0 {w : World} {K gx M : Nat} {A A' : List B.HD} {v : Value} (h : Rx w K gx A M) (hv : HOwn K w v A') (hne : v.ownBlock ≠ some gx) : Rx (w.setCell ⟨gx, 0, none⟩ v) K gx A' M := by
  obtain ⟨v0, ⟨c0, f0⟩, ⟨c1, f1⟩, _, _⟩ := h
  exact ⟨v, ⟨World.cell?_setCell_same _ _ _ c0, by rw [World.frozen?_setCell]; exact f0⟩, ⟨(World.cell?_setCell_other _ _ _ _ (by simp)).trans c1, by rw [World.frozen?_setCell]; exact f1⟩, hv.only ((Only.refl gx w).set 0 v) hne, hne⟩
theorem Rx.set1 {w : World} {K gx M : Nat} {A : List B.HD} (h : Rx w K gx A M) (M' : Nat) : Rx (w.setCell ⟨gx, 1, none⟩ (.int .i64 M')) K gx A M' := by
  obtain ⟨v0, ⟨c0, f0⟩, ⟨c1, f1⟩, h2, h3⟩ := h
  exact ⟨v0, ⟨(World.cell?_setCell_other _ _ _ _ (by simp)).trans c0, by rw [World.frozen?_setCell]; exact f0⟩, ⟨World.cell?_setCell_same _ _ _ c1, by rw [World.frozen?_setCell]; exact f1⟩, h2.only ((Only.refl gx w).set 1 _) h3, h3⟩
theorem HRd.init {w : World} {a : Option Addr} {l m : List B.HD} (h : HRd w a (l ++ m)) : HRd w a l := fun j x hx => h j x (by
  have hj : j < l.length := (List.getElem?_eq_some_iff.1 hx).1
  rw [List.getElem?_append_left hj]; exact hx)

set_option maxRecDepth 100000 in
set_option maxHeartbeats 4000000 in
theorem room_any (K gx M n : Nat) (A : List B.HD) (w : World) (hK : K ≤ w.heap.size) (hR : Rx w K gx A M) (ht : B.tot A ≤ 1048576) (hn : n ≤ 281474976710688) :
    Calls Tryd.prog 73 #[.pointer (some ⟨gx, 0, none⟩), .int .i64 n] w fun e w' => e = .returned (.tuple #[]) ∧ Rx w' K gx (B.rm M n A) M ∧ Only gx w w' := by
  have HR := Lib.hid hR
  clear hR
  go_enter Tryd.func73, Tryd.ntmps73
  go_wp2
  go_loopg [] A.length (fun i wr => ∃ A', A'.length = i ∧ Hid (Rx wr K gx A' M) ∧ B.tot A' ≤ 1048576 ∧ Hid (B.rm M n A' = B.rm M n A) ∧ Hid (Only gx w wr))
  case atStart => exact ⟨A, rfl, HR, ht, rfl, Only.refl _ _⟩
  case round =>
    obtain ⟨A', hA', HR', ht', HS, HO⟩ := hrel
    clear HR ht
    have hg := HR'.out.lt
    obtain ⟨v, ⟨c0, f0⟩, ⟨c1, f1⟩, hO, hne⟩ := id HR'.out
    obtain ⟨a, cp, rfl, hcp, hrd⟩ := hO.form
    obtain ⟨ln, hln⟩ : ∃ ln, ln = A'.length := ⟨_, rfl⟩
    rw [← hln] at c0 hcp
    have HLn := Lib.hid hln
    have HRd' := Lib.hid hrd
    have HNe := Lib.hid hne
    have HC := Lib.hid (refTot_any K gx M A' wr.drew (HR'.out.below (below_drew wr)) ht')
    have HGk := Lib.hid hA'
    clear hO hrd hne hln hA'
    have hl32 := B.tot_len A'
    rw [← HLn.out] at hl32
    have S0 : Hid (wr.cell? ⟨gx, 0, none⟩ = some (.slice a ln cp) ∧ wr.cell? ⟨gx, 1, none⟩ = some (.int .i64 M)) := ⟨c0, c1⟩
    by_cases h0 : 0 < ln
    · have q3 : IntKind.i64.wrap ((B.tot A' : Int) + (n : Int)) = (B.tot A' : Int) + (n : Int) := by rw [IntKind.wrap_i64]; omega
      have q5 : (0 : Int) < (ln : Int) := by omega
      by_cases hlt : M < B.tot A' + n
      · have q4 : (M : Int) < (B.tot A' : Int) + (n : Int) := by omega
        clear c0 c1
        go_upto_region 0 with (fail)
        go_region_held3 (fun ww => ww.cell? ⟨gx, 0, none⟩ = some (.slice a ln cp) ∧ ww.cell? ⟨gx, 1, none⟩ = some (.int .i64 M)) (first | exact S0.out | exact HS5.out) (first | (go_at_call 86; refine HC.out.mono ?_; rintro e w5 ⟨rfl, hb5⟩; have HS5 : Hid (w5.cell? ⟨gx, 0, none⟩ = some (.slice a ln cp) ∧ w5.cell? ⟨gx, 1, none⟩ = some (.int .i64 M)) := ⟨(hb5.cell (p := ⟨gx, 0, none⟩) hg).trans S0.out.1, (hb5.cell (p := ⟨gx, 1, none⟩) hg).trans S0.out.2⟩; have HB5 := Lib.hid hb5; clear hb5))
        have hb05 := (below_drew wr).trans HB5.out
        have HR5 := Lib.hid (HR'.out.below hb05)
        have HO5 := Lib.hid (HO.out.below hb05)
        have hg5 := HR5.out.lt
        obtain ⟨d0, d1⟩ := HS5.out
        have f5 := (by obtain ⟨_, ⟨_, f⟩, _⟩ := HR5.out; exact f : w5.frozen? ⟨gx, 0, none⟩ = false)
        obtain ⟨A1, x, hA1⟩ : ∃ A1 x, A' = A1 ++ [x] := by
          rcases List.eq_nil_or_concat A' with h | ⟨A1, x, h⟩
          · have := HLn.out; rw [h] at this; simp at this; omega
          · exact ⟨A1, x, by rw [h, List.concat_eq_append]⟩
        obtain ⟨p, hp⟩ : ∃ p, p = A1.length := ⟨_, rfl⟩
        have hlp : ln = p + 1 := by rw [HLn.out, hA1, hp]; simp
        obtain ⟨b, o, ha, _⟩ := HRd'.out A1.length x (by rw [hA1]; simp)
        subst ha
        have q6 : IntKind.i64.wrap ((ln : Int) - 1) = (p : Int) := by rw [IntKind.wrap_i64]; omega
        have q7 : (0 : Int) ≤ (p : Int) := by omega
        have q8 : (p : Int) ≤ (cp : Int) := by omega
        have HH := Lib.hid (headers_any (some ⟨b, o, none⟩) p cp A1 w5.drew hp.symm (by omega) (HRd.init (m := [x]) (by rw [← hA1]; exact (HRd'.out.below hb05).below (below_drew w5))))
        have htA : B.tot A1 ≤ 1048576 := by rw [hA1, B.tot_app] at ht'; omega
        have HRm : Hid (B.rm M n A1 = B.rm M n A) := by
          show _ = _
          rw [← HS.out, hA1, B.rm_drop (by rw [← hA1]; exact hlt)]
        have HPP := Lib.hid (And.intro hp hlp)
        clear hp hlp hA1 hb05 HS5 HB5 S0 HC HRd' HNe q4 q5
        go_upto_region 1 with (fail)
        go_region_with (go_at_call 27; refine HH.out.mono ?_; rintro e w6 ⟨v6, rfl, hO6, hb6⟩; obtain ⟨a6, cp6, hv6, _, _⟩ := hO6.form; subst hv6; have e0 := (hb6.cell (p := ⟨gx, 0, none⟩) hg5).trans d0; have g0 := (World.frozen?_of_block (a := ⟨gx, 0, none⟩) (hb6.block gx hg5)).trans f5; have HB6 := Lib.hid hb6; have HO6 := Lib.hid hO6; clear hb6 hO6)
        all_goals
          have hbd := (below_drew w5).trans HB6.out
          have HX := Lib.hid (And.intro (Rx.set0 (HR5.out.below hbd) (HO6.out.mono (Nat.le_trans hK HO5.out.size)) (fun e => by have h := (HO6.out.lt _ e).1; have : gx < w5.heap.size := hg5; exact absurd h (by show ¬ w5.heap.size ≤ gx; omega))) ((HO5.out.below hbd).set 0 (.slice a6 A1.length cp6)))
          clear hbd HB6 HO6 e0 g0 HR5 HO5 d0 d1 f5
          go_wp2
          go_roundg A1.length
        all_goals first
          | (have h1 := HGk.out; have h2 := HLn.out; have h3 := HPP.out; omega)
          | exact ⟨A1, rfl, HX.out.1, htA, HRm, HX.out.2⟩
      · have q4 : ¬ (M : Int) < (B.tot A' : Int) + (n : Int) := by omega
        clear c0 c1
        go_upto_region 0 with (fail)
        go_region_held3 (fun ww => ww.cell? ⟨gx, 0, none⟩ = some (.slice a ln cp) ∧ ww.cell? ⟨gx, 1, none⟩ = some (.int .i64 M)) (first | exact S0.out | exact HS5.out) (first | (go_at_call 86; refine HC.out.mono ?_; rintro e w5 ⟨rfl, hb5⟩; have HS5 : Hid (w5.cell? ⟨gx, 0, none⟩ = some (.slice a ln cp) ∧ w5.cell? ⟨gx, 1, none⟩ = some (.int .i64 M)) := ⟨(hb5.cell (p := ⟨gx, 0, none⟩) hg).trans S0.out.1, (hb5.cell (p := ⟨gx, 1, none⟩) hg).trans S0.out.2⟩; have HB5 := Lib.hid hb5; clear hb5))
        have hb05 := (below_drew wr).trans HB5.out
        have HE := Lib.hid (And.intro (HR'.out.below hb05) (HO.out.below hb05))
        clear hb05 HB5 HS5
        go_wp2
        go_end0
        exact ⟨rfl, by rw [← HS.out, B.rm_fit (by omega)]; exact HE.out.1, HE.out.2⟩
    · obtain rfl : ln = 0 := by omega
      have q5 : ¬ (0 : Int) < ((0 : Nat) : Int) := by omega
      go_upto_region 0 with (fail)
      go_quiet (fail)
      go_wp2
      go_end0
      have hA0 : A' = [] := List.length_eq_zero_iff.1 HLn.out.symm
      exact ⟨rfl, by rw [← HS.out, hA0, B.rm_nil, ← hA0]; exact HR'.out.below (below_drewN _ _), HO.out.below (below_drewN _ _)⟩
end Go.Proofs.YtcbljbdcnahfhaaDoor
/- Brta -/
namespace Go.Proofs.YtcbljbdcnahfhaaDoor
open Go.RowKit

theorem Rx.put {w : World} {K gx M : Nat} {A : List B.HD} {v v0 : Value} (c0 : w.cell? ⟨gx, 0, none⟩ = some v0) (f0 : w.frozen? ⟨gx, 0, none⟩ = false) (c1 : w.cell? ⟨gx, 1, none⟩ = some (.int .i64 M)) (f1 : w.frozen? ⟨gx, 1, none⟩ = false)
    (hv : HOwn K w v A) (hne : v.ownBlock ≠ some gx) : Rx (w.setCell ⟨gx, 0, none⟩ v) K gx A M :=
  ⟨v, ⟨World.cell?_setCell_same _ _ _ c0, by rw [World.frozen?_setCell]; exact f0⟩, ⟨(World.cell?_setCell_other _ _ _ _ (by simp)).trans c1, by rw [World.frozen?_setCell]; exact f1⟩, hv.only ((Only.refl gx w).set 0 v) hne, hne⟩

theorem refNew_any (K M : Nat) (w : World) : Calls Tryd.prog 49 #[.int .i64 M] w fun e w' => e = .returned (.pointer (some ⟨w.heap.size, 0, none⟩)) ∧ Rx w' K w.heap.size [] M ∧ Below w.heap.size w w' := by
  go_enter Tryd.func49, Tryd.ntmps49
  go_wp2
  go_ret
  refine ⟨rfl, ⟨.slice none 0 0, ⟨by simp, by simp⟩, ⟨by simp, by simp⟩, HOwn.nil _ _, by simp [Value.ownBlock]⟩, (Below.refl _ _).alloc (Nat.le_refl _) _⟩

set_option maxRecDepth 100000 in
set_option maxHeartbeats 1000000 in
theorem refResize_any (K gx M M' : Nat) (A : List B.HD) (w : World) (hK : K ≤ w.heap.size) (hR : Rx w K gx A M) (ht : B.tot A ≤ 1048576) :
    Calls Tryd.prog 51 #[.pointer (some ⟨gx, 0, none⟩), .int .i64 M'] w fun e w' => e = .returned (.tuple #[]) ∧ Rx w' K gx (B.rm M' 0 A) M' ∧ Only gx w w' := by
  have HR := Lib.hid (room_any K gx M' 0 A (w.setCell ⟨gx, 1, none⟩ (.int .i64 M')) (by simpa using hK) (hR.set1 M') ht (by omega))
  have HO := Lib.hid ((Only.refl gx w).set 1 (.int .i64 M'))
  obtain ⟨v, _, ⟨c1, f1⟩, _, _⟩ := hR
  go_enter Tryd.func51, Tryd.ntmps51
  go_wp2_with (go_at_call 73; refine HR.out.mono ?_; rintro e w5 ⟨rfl, hr5, ho5⟩; have HR5 := Lib.hid hr5; have HO5 := Lib.hid ho5; clear hr5 ho5)
  go_end0
  exact ⟨rfl, HR5.out, HO.out.trans HO5.out⟩

theorem B.rm_tot (M n : Nat) (A : List B.HD) : B.tot (B.rm M n A) ≤ M := by
  unfold B.rm
  by_cases h : n ≤ M
  · rw [if_pos h, B.tot_rev]
    have := B.shr_tot (M - n) A.reverse
    omega
  · rw [if_neg h]; simp [B.tot]

set_option maxRecDepth 100000 in
set_option maxHeartbeats 4000000 in
theorem refAdd_any (K gx M : Nat) (A : List B.HD) (n v : ByteArray) (b : Bool) (w : World) (hK : K ≤ w.heap.size) (hn : n.size ≤ 140737488355328) (hv : v.size ≤ 140737488355328) (hR : Rx w K gx A M) (ht : B.tot A ≤ 1048576) (hM : M ≤ 4096) :
    Calls Tryd.prog 79 #[.pointer (some ⟨gx, 0, none⟩), .agg #[.string n, .string v, .bool b]] w fun e w' => e = .returned (.tuple #[]) ∧ Rx w' K gx (if B.sz (n, v) ≤ M then (n, v) :: B.rm M (B.sz (n, v)) A else B.rm M (B.sz (n, v)) A) M ∧ Only gx w w' := by
  obtain ⟨N, hN⟩ : ∃ N, N = B.sz (n, v) := ⟨_, rfl⟩
  have hNs : N ≤ 281474976710688 := by rw [hN]; unfold B.sz; simp only; omega
  have HSz := Lib.hid (fun w => refSize_any n v b w hn hv)
  have hg := hR.lt
  rw [← hN] at HSz ⊢
  clear hN
  have htr := B.rm_tot M N A
  obtain ⟨A3, hA3⟩ : ∃ A3, A3 = B.rm M N A := ⟨_, rfl⟩
  have HA3 := Lib.hid hA3
  rw [← hA3] at htr ⊢
  clear hA3
  have hl3 := B.tot_len A3
  obtain ⟨AA, hAA⟩ : ∃ AA, AA = if N ≤ M then (n, v) :: A3 else A3 := ⟨_, rfl⟩
  rw [← hAA]
  have HAA := Lib.hid hAA
  clear hAA
  have HB1 : Hid (Below w.heap.size w (w.alloc (.cells #[.string n, .string v, .bool b] 66))) := (Below.refl _ w).alloc (Nat.le_refl _) _
  have HR1 := Lib.hid (hR.below HB1.out)
  clear hR
  go_enter Tryd.func79, Tryd.ntmps79
  go_wp2_with fail
  refine (HSz.out _).mono ?_
  rintro e w2 ⟨rfl, hb2⟩
  obtain ⟨⟨x0, x1, x2⟩, _, hz2⟩ := cells3 hb2
  have hb12 := below_over hb2
  have HR2 := Lib.hid (HR1.out.below hb2)
  have HO2 := Lib.hid ((Only.refl gx w).below hb12)
  clear hb2 hb12 HB1 HR1 HSz
  have HM := Lib.hid (room_any K gx M N A w2 (Nat.le_trans hK HO2.out.size) HR2.out ht hNs)
  go_wp2_with fail
  refine HM.out.mono ?_
  rintro e w3 ⟨rfl, hr3, ho3⟩
  have hne : w.heap.size ≠ gx := by omega
  have y0 := ho3.cell hne x0
  have y1 := ho3.cell hne x1
  have HR3 := Lib.hid hr3
  have HO3 := Lib.hid (HO2.out.trans ho3)
  have hz3 := ho3.size
  clear hr3 ho3 x0 x1 x2 HM HR2 HO2
  rw [← HA3.out] at HR3
  obtain ⟨v3, ⟨c0, f0⟩, ⟨c1, f1⟩, hO3, hne3⟩ := id HR3.out
  have hg3 := HR3.out.lt
  by_cases hf : N ≤ M
  · have q1 : (N : Int) ≤ (M : Int) := by omega
    have e := HAA.out
    rw [if_pos hf] at e
    obtain rfl := e
    clear HAA
    obtain ⟨a3, cp3, rfl, _, _⟩ := hO3.form
    have hba : Below w3.drew.heap.size w3.drew (w3.drew.alloc (.cells #[.string n, .string v, .bool false] 66)) := (Below.refl _ _).alloc (Nat.le_refl _) _
    have HO1 := Lib.hid (HOwn.one w3.drew n v)
    have HOA := Lib.hid ((hO3.below (below_drew w3)).below hba)
    have HRa := Lib.hid ((HR3.out.below (below_drew w3)).below hba)
    have HBa := Lib.hid ((below_drew w3).trans hba)
    have hsz : [(n, v)].length + A3.length ≤ 2097152 := by simp; omega
    clear hba hO3
    go_upto_region 4 with (fail)
    go_region_law (first | (refine step_appT _ rfl _ _ rfl rfl w3.drew.heap.size _ [(n, v)] rfl HO1.out _ K A3 rfl (Nat.zero_lt_one) HOA.out hsz (by simp) ?_; intro g7 cp7 w7 hA7 hg7; have HB7 := Lib.hid (Below.grown HBa.out hg7 HBa.out.size (fun r e => (HO1.out.lt r e).1)); have e0 := (HB7.out.cell (p := ⟨gx, 0, none⟩) hg3).trans c0; have g0 := (World.frozen?_of_block (a := ⟨gx, 0, none⟩) (HB7.out.block gx hg3)).trans f0; have e1 := (HB7.out.cell (p := ⟨gx, 1, none⟩) hg3).trans c1; have g1 := (World.frozen?_of_block (a := ⟨gx, 1, none⟩) (HB7.out.block gx hg3)).trans f1; have HA7 := Lib.hid hA7; clear hA7 hg7))
    all_goals
      go_wp2
      go_end0
      refine ⟨rfl, ?_, ((HO3.out.below HB7.out).set 0 _)⟩
      exact Rx.put e0 g0 e1 g1 (HA7.out.mono (Nat.le_trans hK HO3.out.size)) (fun e => by have h := (HA7.out.lt gx e).1; exact absurd h (by show ¬ w3.heap.size ≤ gx; omega))
  · have q1 : ¬ (N : Int) ≤ (M : Int) := by omega
    go_wp2
    go_end0
    exact ⟨rfl, by rw [HAA.out, if_neg hf]; exact HR3.out, HO3.out⟩
end Go.Proofs.YtcbljbdcnahfhaaDoor
/- Brtf -/
namespace Go.Proofs.YtcbljbdcnahfhaaDoor
open Go.RowKit

theorem B.num_cons (i k : Nat) (l : List B.HD) (x : B.HD) (hx : l[k]? = some x) : B.num i (l.drop k) = ((i : Int), x) :: B.num (i + 1) (l.drop (k + 1)) := by
  obtain ⟨hk, e⟩ := List.getElem?_eq_some_iff.1 hx
  rw [List.drop_eq_getElem_cons hk, e]; rfl
theorem nmF_at (j : Nat) (hj : 1 ≤ j) : nmF j = (B.stL.getD (j - 1) (⟨#[]⟩, ⟨#[]⟩)).1 := by unfold nmF; rw [if_neg (by omega)]
theorem vlF_at (j : Nat) (hj : 1 ≤ j) : vlF j = (B.stL.getD (j - 1) (⟨#[]⟩, ⟨#[]⟩)).2 := by unfold vlF; rw [if_neg (by omega)]

set_option maxRecDepth 100000 in
set_option maxHeartbeats 2000000 in
theorem refFind_any (K gx M : Nat) (L : List B.HD) (nm vl : ByteArray) (w : World) (hR : Rx w K gx L.reverse M) (hL : L.length ≤ 1048576) :
    Calls Tryd.prog 78 #[.pointer (some ⟨gx, 0, none⟩), .string nm, .string vl] w fun e w' => e = .returned (.tuple #[.int .i64 (B.fnd nm.toList vl.toList 0 (B.allL L)).1, .bool (B.fnd nm.toList vl.toList 0 (B.allL L)).2]) ∧ Below w.heap.size w w' := by
  obtain ⟨ANS, hANS⟩ : ∃ ANS, ANS = B.fnd nm.toList vl.toList 0 (B.allL L) := ⟨_, rfl⟩
  rw [← hANS]
  have HA := Lib.hid hANS
  have HR := Lib.hid hR
  obtain ⟨ln, hln⟩ : ∃ ln, ln = L.length := ⟨_, rfl⟩
  have HLn := Lib.hid hln
  rw [← hln] at hL
  clear hANS hR hln
  go_enter Tryd.func78, Tryd.ntmps78
  go_wp2_with fail
  refine (names_any w).mono ?_
  rintro e w1 ⟨g1, rfl, hg1, hk1, hb1⟩
  have HB1 := Lib.hid hb1
  clear hb1
  go_wp2_with fail
  refine (values_any w1).mono ?_
  rintro e w2 ⟨g2, rfl, hg2, hk2, hb2⟩
  have HK1 := Lib.hid (hk1.below hb2)
  have HK2 := Lib.hid hk2
  have HB2 := Lib.hid (HB1.out.trans (hb2.mono HB1.out.size))
  have HR2 := Lib.hid (HR.out.below HB2.out)
  clear hk1 hk2 hb2 HB1 HR
  go_wp2
  go_loop [10, 11] (fun c i => ∃ (k : Nat) (cc : Int), (1 ≤ k ∧ k ≤ 62) ∧ i = .int .i64 k ∧ c = .int .i64 cc ∧ Hid (ANS = B.fnd nm.toList vl.toList cc (B.num k (B.stL.drop (k - 1)) ++ B.num 62 L.reverse))) (fun _ i => 62 - (intOf i).toNat)
  case atStart => exact ⟨1, 0, by omega, rfl, rfl, HA⟩
  case round =>
    obtain ⟨k, cc, ⟨hk1, hk⟩, rfl, rfl, HC⟩ := hrel
    by_cases hlt : k < 62
    · obtain ⟨x, hx⟩ : ∃ x, x = B.stL.getD (k - 1) (⟨#[]⟩, ⟨#[]⟩) := ⟨_, rfl⟩
      have hxx : B.stL[k - 1]? = some x := by
        rw [hx, List.getD_eq_getElem?_getD, List.getElem?_eq_getElem (by rw [B.stL_len]; omega)]; rfl
      have HCC : Hid (ANS = B.fnd nm.toList vl.toList cc (((k : Int), x) :: (B.num (k + 1) (B.stL.drop k) ++ B.num 62 L.reverse))) := by
        have h := HC.out
        rw [B.num_cons k (k - 1) B.stL x hxx, show k - 1 + 1 = k by omega] at h
        exact h
      have n0 := blk62 HK1.out hlt (by rw [nmF_at k hk1, ← hx])
      have v0 := blk62 HK2.out hlt (by rw [vlF_at k hk1, ← hx])
      clear hx hxx HC
      obtain ⟨xn, xv⟩ := x
      simp only at n0 v0
      have q0 : (0 : Int) ≤ (k : Int) := by omega
      have q1 : (k : Int) < 62 := by omega
      go_wp2
      · rename_i h1
        go_round
        case rel => exact ⟨k + 1, cc, by omega, by rw [Int.natCast_add]; rfl, rfl, HCC.out.trans (fnd_ne h1)⟩
        case measure => simp [intOf]; omega
      · have HE := Lib.hid (HCC.out.trans (fnd_hit (by assumption) (by assumption)))
        go_ret2
        exact ⟨by rw [HE.out]; rfl, HB2.out⟩
      · rename_i h1 h2 h3
        go_round
        case rel => exact ⟨k + 1, k, by omega, by rw [Int.natCast_add]; rfl, rfl, HCC.out.trans ((fnd_nm h1 h2).trans (by rw [if_pos (eq_of_beq h3)]; rfl))⟩
        case measure => simp [intOf]; omega
      · rename_i h1 h2 h3
        go_round
        case rel => exact ⟨k + 1, cc, by omega, by rw [Int.natCast_add]; rfl, rfl, HCC.out.trans ((fnd_nm h1 h2).trans (by rw [if_neg (fun e => by rw [e] at h3; cases h3)]; rfl))⟩
        case measure => simp [intOf]; omega
    · obtain rfl : k = 62 := by omega
      have HC2 : Hid (ANS = B.fnd nm.toList vl.toList cc (B.num 62 L.reverse)) := by
        have h := HC.out
        rw [List.drop_of_length_le (by rw [B.stL_len]; exact Nat.le_refl _)] at h
        exact h
      clear HC
      have hg := HR2.out.lt
      obtain ⟨v, ⟨c0, _⟩, _, hO, _⟩ := id HR2.out
      obtain ⟨a, cp, rfl, _, hrd⟩ := hO.form
      rw [List.length_reverse, ← HLn.out] at c0
      have HRd' := Lib.hid hrd
      clear hO hrd
      go_wp2
      go_loop [10, 12] (fun c i => ∃ (k : Nat) (cc : Int), k ≤ ln ∧ i = .int .i64 k ∧ c = .int .i64 cc ∧ Hid (ANS = B.fnd nm.toList vl.toList cc (B.num (62 + k) (L.reverse.drop k)))) (fun _ i => ln - (intOf i).toNat)
      case atStart => exact ⟨0, cc, by omega, rfl, rfl, HC2⟩
      case round =>
        clear HC2
        obtain ⟨k, cc, hk, rfl, rfl, HC⟩ := hrel
        by_cases hlt : k < ln
        · obtain ⟨x, hx⟩ : ∃ x, L.reverse[k]? = some x := ⟨_, List.getElem?_eq_getElem (by rw [List.length_reverse, ← HLn.out]; exact hlt)⟩
          obtain ⟨b, o, rfl, n0, v0, _⟩ := HRd'.out k x hx
          have HCC : Hid (ANS = B.fnd nm.toList vl.toList cc (((62 : Int) + (k : Int), x) :: B.num (62 + k + 1) (L.reverse.drop (k + 1)))) := by
            have h := HC.out
            rw [B.num_cons (62 + k) k L.reverse x hx, Int.natCast_add] at h
            exact h
          clear hx HC
          obtain ⟨xn, xv⟩ := x
          simp only at n0 v0
          have q0 : (0 : Int) ≤ (k : Int) := by omega
          have q1 : (k : Int) < (ln : Int) := by omega
          have q2 : IntKind.i64.wrap ((62 : Int) + (k : Int)) = 62 + (k : Int) := by rw [IntKind.wrap_i64]; omega
          go_wp2
          · rename_i h1
            go_round
            case rel => exact ⟨k + 1, cc, by omega, by rw [Int.natCast_add]; rfl, rfl, HCC.out.trans (fnd_ne h1)⟩
            case measure => simp [intOf]; omega
          · have HE := Lib.hid (HCC.out.trans (fnd_hit (by assumption) (by assumption)))
            go_ret2
            exact ⟨by rw [HE.out]; rfl, HB2.out⟩
          · rename_i h1 h2 h3
            go_round
            case rel => exact ⟨k + 1, 62 + (k : Int), by omega, by rw [Int.natCast_add]; rfl, rfl, HCC.out.trans ((fnd_nm h1 h2).trans (by rw [if_pos (eq_of_beq h3)]; rfl))⟩
            case measure => simp [intOf]; omega
          · rename_i h1 h2 h3
            go_round
            case rel => exact ⟨k + 1, cc, by omega, by rw [Int.natCast_add]; rfl, rfl, HCC.out.trans ((fnd_nm h1 h2).trans (by rw [if_neg (fun e => by rw [e] at h3; cases h3)]; rfl))⟩
            case measure => simp [intOf]; omega
        · obtain rfl : k = ln := by omega
          have q1 : ¬ (k : Int) < (k : Int) := by omega
          have HE : Hid (ANS = (cc, false)) := by
            have h := HC.out
            rw [List.drop_of_length_le (by rw [List.length_reverse, HLn.out]; exact Nat.le_refl _)] at h
            exact h
          go_wp2
          go_ret2
          exact ⟨by rw [HE.out]; rfl, HB2.out⟩
end Go.Proofs.YtcbljbdcnahfhaaDoor
