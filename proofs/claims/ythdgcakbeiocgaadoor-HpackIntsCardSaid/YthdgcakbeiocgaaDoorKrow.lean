/-
Slices of headers of the call's own, with their Never: what they read as, and what append makes of them.
-/
import Derived.Test.YthdgcakbeiocgaaDoorKnamed
import Derived.OwnWalk
import Derived.Deep.RegionLaw
import Derived.Laws.OwnMore
import Derived.Laws.AppendOwnNone
namespace Go.Proofs.YthdgcakbeiocgaaDoor
open Go.RowKit

/-- Headers as cells. -/
def nvs : List (B.HD × Bool) → List Value
  | [] => []
  | h :: t => .string h.1.1 :: .string h.1.2 :: .bool h.2 :: nvs t
theorem nvs_length (l : List (B.HD × Bool)) : (nvs l).length = l.length * 3 := by
  induction l with
  | nil => rfl
  | cons a l ih => simp only [nvs, List.length_cons, ih]; omega
theorem nvs_append (l m : List (B.HD × Bool)) : nvs (l ++ m) = nvs l ++ nvs m := by
  induction l with
  | nil => rfl
  | cons a l ih => simp only [List.cons_append, nvs, ih]
theorem nvs_one (l : List (B.HD × Bool)) : ∀ u ∈ nvs l, u.oneCell' = true := by
  induction l with
  | nil => intro u hu; cases hu
  | cons a l ih =>
    intro u hu
    simp only [nvs, List.mem_cons] at hu
    rcases hu with rfl | rfl | rfl | h
    · rfl
    · rfl
    · rfl
    · exact ih u h
theorem nvs_at (l : List (B.HD × Bool)) (j : Nat) (x : (B.HD × Bool)) (hx : l[j]? = some x) : (nvs l)[j * 3]? = some (.string x.1.1) ∧ (nvs l)[j * 3 + 1]? = some (.string x.1.2) ∧ (nvs l)[j * 3 + 2]? = some (.bool x.2) := by
  induction l generalizing j with
  | nil => simp at hx
  | cons a l ih =>
    cases j with
    | zero =>
      simp at hx
      subst hx
      exact ⟨rfl, rfl, rfl⟩
    | succ j =>
      simp at hx
      have := ih j hx
      rw [show (j + 1) * 3 = j * 3 + 3 by omega]
      exact this

/-- The slice at a reads as the headers l. -/
def QRd (w : World) (a : Option Addr) (l : List (B.HD × Bool)) : Prop := ∀ (j : Nat) (x : (B.HD × Bool)), l[j]? = some x → ∃ b o, a = some ⟨b, o, none⟩ ∧ w.cell? ⟨b, o + j * 3, none⟩ = some (.string x.1.1) ∧ w.cell? ⟨b, o + j * 3 + 1, none⟩ = some (.string x.1.2) ∧ w.cell? ⟨b, o + j * 3 + 2, none⟩ = some (.bool x.2)
theorem QRd.below {w w' : World} {a : Option Addr} {l : List (B.HD × Bool)} (h : QRd w a l) (hb : Below w.heap.size w w') : QRd w' a l := fun j x hx => by
  obtain ⟨b, o, rfl, h0, h1, h2⟩ := h j x hx
  exact ⟨b, o, rfl, (hb.cell (p := ⟨b, o + j * 3, none⟩) (World.block_lt_of_cell? _ _ h0)).trans h0, (hb.cell (p := ⟨b, o + j * 3 + 1, none⟩) (World.block_lt_of_cell? _ _ h1)).trans h1, (hb.cell (p := ⟨b, o + j * 3 + 2, none⟩) (World.block_lt_of_cell? _ _ h2)).trans h2⟩
theorem QRd.nil (w : World) (a : Option Addr) : QRd w a [] := fun j x hx => by simp at hx
theorem QRd.news {w : World} {ad : Addr} {l : List (B.HD × Bool)} (h : QRd w (some ad) l) : ∀ j u, (nvs l)[j]? = some u → w.cell? (ad.add j) = some u := by
  intro j u hu
  have hj : j < l.length * 3 := by
    have := (List.getElem?_eq_some_iff.1 hu).1
    rwa [nvs_length] at this
  obtain ⟨x, hx⟩ : ∃ x, l[j / 3]? = some x := ⟨_, List.getElem?_eq_getElem (by omega)⟩
  obtain ⟨b, o, e, h0, h1, h2⟩ := h (j / 3) x hx
  obtain ⟨g0, g1, g2⟩ := nvs_at l (j / 3) x hx
  cases e
  rw [Addr.add_lit]
  have hm : j = j / 3 * 3 ∨ j = j / 3 * 3 + 1 ∨ j = j / 3 * 3 + 2 := by omega
  rcases hm with e | e | e
  · rw [e] at hu ⊢
    rw [g0] at hu
    cases hu
    have : j / 3 * 3 / 3 = j / 3 := by omega
    simpa [this] using h0
  · rw [e] at hu ⊢
    rw [g1] at hu
    cases hu
    simpa [Nat.add_assoc] using h1
  · rw [e] at hu ⊢
    rw [g2] at hu
    cases hu
    simpa [Nat.add_assoc] using h2

/-- A slice of the call's own that holds the headers l. -/
def QOwn (K : Nat) (w : World) (v : Value) (l : List (B.HD × Bool)) : Prop := w.ownsRow K 66 3 v l.length (nvs l)
theorem QOwn.nil (K : Nat) (w : World) : QOwn K w (.slice none 0 0) [] := World.ownsRow_nil w K _ _
theorem QOwn.kept {K : Nat} {w w' : World} {v : Value} {l : List (B.HD × Bool)} {row : Option Nat} (h : QOwn K w v l) (hg : w.grownBy w' row) (hne : v.ownBlock = none ∨ v.ownBlock ≠ row) : QOwn K w' v l := World.ownsRow.kept h hg hne
theorem QOwn.below {K : Nat} {w w' : World} {v : Value} {l : List (B.HD × Bool)} (h : QOwn K w v l) (hb : Below w.heap.size w w') : QOwn K w' v l :=
  h.kept (row := none) ⟨hb.os, hb.tape, hb.output, hb.size, fun i hi _ => hb.block i hi⟩ (by
    cases e : v.ownBlock with
    | none => exact Or.inl rfl
    | some b => exact Or.inr (by simp))
theorem QOwn.lt {K : Nat} {w : World} {v : Value} {l : List (B.HD × Bool)} (h : QOwn K w v l) : ∀ k, v.ownBlock = some k → K ≤ k ∧ k < w.heap.size := World.ownsRow.lt h
theorem QOwn.only {K g : Nat} {w w' : World} {v : Value} {l : List (B.HD × Bool)} (h : QOwn K w v l) (hg : Only g w w') (hne : v.ownBlock ≠ some g) : QOwn K w' v l := h.kept hg (Or.inr hne)
/-- A nil slice, or one at the head of its block. -/
theorem QOwn.cases {K : Nat} {w : World} {v : Value} {l : List (B.HD × Bool)} (h : QOwn K w v l) : (v = .slice none 0 0 ∧ l = []) ∨ ∃ g cp, v = .slice (some ⟨g, 0, none⟩) l.length cp ∧ l.length ≤ cp ∧ K ≤ g ∧ g < w.heap.size ∧ QRd w (some ⟨g, 0, none⟩) l := by
  rcases h.2 with ⟨h1, h2⟩ | ⟨g, cap, cur, rfl, hb, hgg, hn, hm, hs, ht⟩
  · exact Or.inl ⟨h1, List.length_eq_zero_iff.1 h2⟩
  · refine Or.inr ⟨g, cap, rfl, hn, hb, (Array.getElem?_eq_some_iff.1 hgg).1, fun j x hx => ?_⟩
    obtain ⟨g0, g1, g2⟩ := nvs_at l j x hx
    have key : ∀ i u, (nvs l)[i]? = some u → w.cell? ⟨g, i, none⟩ = some u := fun i u hu => by
      have := World.ownsRow.cells (g := g) h rfl i u hu
      rwa [Addr.add_lit, Nat.zero_add] at this
    exact ⟨g, 0, rfl, by rw [Nat.zero_add]; exact key _ _ g0, by rw [Nat.zero_add]; exact key _ _ g1, by rw [Nat.zero_add]; exact key _ _ g2⟩

theorem infoQ : (Tryd.prog.info? 66).map (fun i => (i.zero, i.size, i.bytes)) = some (some (.agg #[.string ⟨#[]⟩, .string ⟨#[]⟩, .bool false]), 3, 40) := by kernel_rfl

/-- 'append(own, headers...)', of one header at least. -/
theorem run_appQ (w : World) (K : Nat) (v : Value) (l : List (B.HD × Bool)) (hown : QOwn K w v l) (ad : Addr) (c : Nat) (m : List (B.HD × Bool)) (hm : 0 < m.length) (hr : QRd w (some ad) m) (hsz : l.length + m.length ≤ 2097152) (hbase : K ≤ w.heap.size) :
    ∃ g cp w', (Builtin.append_ #[50, 50] 50 #[v, .slice (some ad) m.length c]).run Tryd.prog w = .ok (.slice (some ⟨g, 0, none⟩) (l.length + m.length) cp) w' ∧ QOwn K w' (.slice (some ⟨g, 0, none⟩) (l.length + m.length) cp) (l ++ m) ∧ w.grownBy w' v.ownBlock := by
  obtain ⟨i0, hi, hz0, hz1, hz2⟩ := info_parts infoQ
  obtain ⟨v', w', h1, h2, h3, h4⟩ := run_append_own (P := Tryd.prog) (w := w) K 50 50 66 i0 _ 3 40 Tryd.underlying50 hi hz0 hz1 hz2 rfl (by omega) v l.length (nvs l) hown ad m.length c (nvs m) (nvs_length m) hr.news (nvs_one m) (by unfold maxLen; omega) (by omega) hbase
  have h2' : w'.ownsRow K 66 3 v' (l.length + m.length) (nvs l ++ nvs m) := h2
  rcases h2'.2 with ⟨e1, _⟩ | ⟨g, cp, cur, rfl, rest⟩
  · have := (h4.1 e1).2
    omega
  · refine ⟨g, cp, w', h1, ?_, h3⟩
    show w'.ownsRow K 66 3 _ (l ++ m).length (nvs (l ++ m))
    rw [List.length_append, nvs_append]
    exact h2

theorem wpList_appQ (w : World) {ops : Array Oper} {rest : List Oper} {o : Oper} {a : Act} {Q : Exit → Act → World → Prop} (hgd : o.guard = none) (s x : Operand)
    (ho : o.op = .call { callee := .builtin .append, args := #[s, x], argTypes := #[50, 50] }) (hty : o.type = 50)
    (K : Nat) (v : Value) (l : List (B.HD × Bool)) (hs : a.eval s = v) (hown : QOwn K w v l) (ad : Addr) (mm c : Nat) (m : List (B.HD × Bool)) (hx : a.eval x = .slice (some ad) mm c) (hmm : m.length = mm) (hm : 0 < mm) (hr : QRd w (some ad) m) (hsz : l.length + mm ≤ 2097152) (hbase : K ≤ w.heap.size)
    (hK : ∀ g cp w', QOwn K w' (.slice (some ⟨g, 0, none⟩) (l.length + mm) cp) (l ++ m) → w.grownBy w' v.ownBlock → wpList Tryd.prog ops Q rest (a.put o.dst (.slice (some ⟨g, 0, none⟩) (l.length + mm) cp)) w') :
    wpList Tryd.prog ops Q (o :: rest) a w := by
  subst hmm
  refine wpList_plain hgd fun K' hK' => ?_
  obtain ⟨g, cp, w', hrun, h2, h3⟩ := run_appQ w K v l hown ad c m hm hr hsz hbase
  unfold Oper.wp
  simp [execOp, ho, hty, resolve, invoke, builtin, hs, hx, hrun, Result.andThen]
  exact hK' _ _ (hK g cp w' h2 h3)
/-- The same at a step of a region that draws its order. -/
theorem step_appQ (w : World) {ops : Array Oper} {o : Oper} {a : Act} {K' : Act → World → Prop} {Q : Exit → Act → World → Prop} {E : Prop} (hgd : o.guard = none) (s x : Operand)
    (ho : o.op = .call { callee := .builtin .append, args := #[s, x], argTypes := #[50, 50] }) (hty : o.type = 50)
    (K : Nat) (v : Value) (l : List (B.HD × Bool)) (hs : a.eval s = v) (hown : QOwn K w v l) (ad : Addr) (mm c : Nat) (m : List (B.HD × Bool)) (hx : a.eval x = .slice (some ad) mm c) (hmm : m.length = mm) (hm : 0 < mm) (hr : QRd w (some ad) m) (hsz : l.length + mm ≤ 2097152) (hbase : K ≤ w.heap.size)
    (hK : ∀ g cp w', QOwn K w' (.slice (some ⟨g, 0, none⟩) (l.length + mm) cp) (l ++ m) → w.grownBy w' v.ownBlock → K' (a.put o.dst (.slice (some ⟨g, 0, none⟩) (l.length + mm) cp)) w') :
    if Region.wanted o (yielded ops a.tmps) = true then Oper.wp Tryd.prog o a w K' Q else E := by
  subst hmm
  obtain ⟨g, cp, w', hrun, h2, h3⟩ := run_appQ w K v l hown ad c m hm hr hsz hbase
  rw [if_pos (by unfold Region.wanted; rw [hgd])]
  unfold Oper.wp
  simp [execOp, ho, hty, resolve, invoke, builtin, hs, hx, hrun, Result.andThen]
  exact hK _ _ _ h2 h3

theorem QOwn.form {K : Nat} {w : World} {v : Value} {l : List (B.HD × Bool)} (h : QOwn K w v l) : ∃ a cp, v = .slice a l.length cp := by
  rcases h.2 with ⟨e, h0⟩ | ⟨g, cp, _, e, _⟩
  · exact ⟨none, 0, by rw [e, h0]⟩
  · exact ⟨_, _, e⟩
/-- A header just laid. -/
theorem QRd.one (w : World) (n v : ByteArray) (b : Bool) : QRd (w.alloc (.cells #[.string n, .string v, .bool b] 66)) (some ⟨w.heap.size, 0, none⟩) [((n, v), b)] := fun j x hx => by
  have hj : j = 0 := by
    have := (List.getElem?_eq_some_iff.1 hx).1
    simp at this
    omega
  subst hj
  simp at hx
  subst hx
  exact ⟨_, _, rfl, by simp, by simp, by simp⟩
end Go.Proofs.YthdgcakbeiocgaaDoor
