/-
Slices of headers, with their Never: what they read as, and what append makes of them; the reference's copy of one, and its comparison of one with itself.
-/
import Derived.Test.YtihlcecincijgaaDoorBmath
import Derived.Test.YtihlcecincijgaaDoorGapp
import Derived.Test.YtihlcecincijgaaDoorGmid
import Derived.OwnWalk
import Derived.Deep.RegionLaw
import Derived.Laws.OwnMore
import Derived.Laws.AppendOwnNone
import Derived.Deep.QuietTactic
import Derived.BigQuiet
import Derived.Deep.Onto
import Derived.Deep.RegionHeld3
import Derived.Deep.CutRange
namespace Go.Proofs.YtihlcecincijgaaDoor
open Go.RowKit

/-- Headers as cells. -/
def nvs : List (B.HD × Bool) → List Value
  | [] => []
  | h :: t => .string h.1.1 :: .string h.1.2 :: .bool h.2 :: nvs t
theorem nvs_length (l : List (B.HD × Bool)) : (nvs l).length = l.length * 3 := by
  induction l with
  | nil => rfl
  | cons a l ih => simp only [nvs, List.length_cons, ih]; omega
theorem nvs_append (l m : List (B.HD × Bool)) : nvs (l ++ m) = nvs l ++ nvs m := by
  induction l with
  | nil => rfl
  | cons a l ih => simp only [List.cons_append, nvs, ih]
theorem nvs_one (l : List (B.HD × Bool)) : ∀ u ∈ nvs l, u.oneCell' = true := by
  induction l with
  | nil => intro u hu; cases hu
  | cons a l ih =>
    intro u hu
    simp only [nvs, List.mem_cons] at hu
    rcases hu with rfl | rfl | rfl | h
    · rfl
    · rfl
    · rfl
    · exact ih u h
theorem nvs_at (l : List (B.HD × Bool)) (j : Nat) (x : (B.HD × Bool)) (hx : l[j]? = some x) : (nvs l)[j * 3]? = some (.string x.1.1) ∧ (nvs l)[j * 3 + 1]? = some (.string x.1.2) ∧ (nvs l)[j * 3 + 2]? = some (.bool x.2) := by
  induction l generalizing j with
  | nil => simp at hx
  | cons a l ih =>
    cases j with
    | zero =>
      simp at hx
      subst hx
      exact ⟨rfl, rfl, rfl⟩
    | succ j =>
      simp at hx
      have := ih j hx
      rw [show (j + 1) * 3 = j * 3 + 3 by omega]
      exact this

/-- The slice at a reads as the headers l. -/
def QRd (w : World) (a : Option Addr) (l : List (B.HD × Bool)) : Prop := ∀ (j : Nat) (x : (B.HD × Bool)), l[j]? = some x → ∃ b o, a = some ⟨b, o, none⟩ ∧ w.cell? ⟨b, o + j * 3, none⟩ = some (.string x.1.1) ∧ w.cell? ⟨b, o + j * 3 + 1, none⟩ = some (.string x.1.2) ∧ w.cell? ⟨b, o + j * 3 + 2, none⟩ = some (.bool x.2)
theorem QRd.below {w w' : World} {a : Option Addr} {l : List (B.HD × Bool)} (h : QRd w a l) (hb : Below w.heap.size w w') : QRd w' a l := fun j x hx => by
  obtain ⟨b, o, rfl, h0, h1, h2⟩ := h j x hx
  exact ⟨b, o, rfl, (hb.cell (p := ⟨b, o + j * 3, none⟩) (World.block_lt_of_cell? _ _ h0)).trans h0, (hb.cell (p := ⟨b, o + j * 3 + 1, none⟩) (World.block_lt_of_cell? _ _ h1)).trans h1, (hb.cell (p := ⟨b, o + j * 3 + 2, none⟩) (World.block_lt_of_cell? _ _ h2)).trans h2⟩
theorem QRd.nil (w : World) (a : Option Addr) : QRd w a [] := fun j x hx => by simp at hx
theorem QRd.news {w : World} {ad : Addr} {l : List (B.HD × Bool)} (h : QRd w (some ad) l) : ∀ j u, (nvs l)[j]? = some u → w.cell? (ad.add j) = some u := by
  intro j u hu
  have hj : j < l.length * 3 := by
    have := (List.getElem?_eq_some_iff.1 hu).1
    rwa [nvs_length] at this
  obtain ⟨x, hx⟩ : ∃ x, l[j / 3]? = some x := ⟨_, List.getElem?_eq_getElem (by omega)⟩
  obtain ⟨b, o, e, h0, h1, h2⟩ := h (j / 3) x hx
  obtain ⟨g0, g1, g2⟩ := nvs_at l (j / 3) x hx
  cases e
  rw [Addr.add_lit]
  have hm : j = j / 3 * 3 ∨ j = j / 3 * 3 + 1 ∨ j = j / 3 * 3 + 2 := by omega
  rcases hm with e | e | e
  · rw [e] at hu ⊢
    rw [g0] at hu
    cases hu
    have : j / 3 * 3 / 3 = j / 3 := by omega
    simpa [this] using h0
  · rw [e] at hu ⊢
    rw [g1] at hu
    cases hu
    simpa [Nat.add_assoc] using h1
  · rw [e] at hu ⊢
    rw [g2] at hu
    cases hu
    simpa [Nat.add_assoc] using h2

/-- A slice of the call's own that holds the headers l. -/
def QOwn (K : Nat) (w : World) (v : Value) (l : List (B.HD × Bool)) : Prop := w.ownsRow K 54 3 v l.length (nvs l)
theorem QOwn.nil (K : Nat) (w : World) : QOwn K w (.slice none 0 0) [] := World.ownsRow_nil w K _ _
theorem QOwn.kept {K : Nat} {w w' : World} {v : Value} {l : List (B.HD × Bool)} {row : Option Nat} (h : QOwn K w v l) (hg : w.grownBy w' row) (hne : v.ownBlock = none ∨ v.ownBlock ≠ row) : QOwn K w' v l := World.ownsRow.kept h hg hne
theorem QOwn.below {K : Nat} {w w' : World} {v : Value} {l : List (B.HD × Bool)} (h : QOwn K w v l) (hb : Below w.heap.size w w') : QOwn K w' v l :=
  h.kept (row := none) ⟨hb.os, hb.tape, hb.output, hb.size, fun i hi _ => hb.block i hi⟩ (by
    cases e : v.ownBlock with
    | none => exact Or.inl rfl
    | some b => exact Or.inr (by simp))
theorem QOwn.lt {K : Nat} {w : World} {v : Value} {l : List (B.HD × Bool)} (h : QOwn K w v l) : ∀ k, v.ownBlock = some k → K ≤ k ∧ k < w.heap.size := World.ownsRow.lt h
/-- A nil slice, or one at the head of its block. -/
theorem QOwn.cases {K : Nat} {w : World} {v : Value} {l : List (B.HD × Bool)} (h : QOwn K w v l) : (v = .slice none 0 0 ∧ l = []) ∨ ∃ g cp, v = .slice (some ⟨g, 0, none⟩) l.length cp ∧ l.length ≤ cp ∧ K ≤ g ∧ g < w.heap.size ∧ QRd w (some ⟨g, 0, none⟩) l := by
  rcases h.2 with ⟨h1, h2⟩ | ⟨g, cap, cur, rfl, hb, hgg, hn, hm, hs, ht⟩
  · exact Or.inl ⟨h1, List.length_eq_zero_iff.1 h2⟩
  · refine Or.inr ⟨g, cap, rfl, hn, hb, (Array.getElem?_eq_some_iff.1 hgg).1, fun j x hx => ?_⟩
    obtain ⟨g0, g1, g2⟩ := nvs_at l j x hx
    have key : ∀ i u, (nvs l)[i]? = some u → w.cell? ⟨g, i, none⟩ = some u := fun i u hu => by
      have := World.ownsRow.cells (g := g) h rfl i u hu
      rwa [Addr.add_lit, Nat.zero_add] at this
    exact ⟨g, 0, rfl, by rw [Nat.zero_add]; exact key _ _ g0, by rw [Nat.zero_add]; exact key _ _ g1, by rw [Nat.zero_add]; exact key _ _ g2⟩

theorem infoQ : (Tryd.prog.info? 54).map (fun i => (i.zero, i.size, i.bytes)) = some (some (.agg #[.string ⟨#[]⟩, .string ⟨#[]⟩, .bool false]), 3, 40) := by kernel_rfl

/-- 'append(own, headers...)', of one header at least. -/
theorem run_appQ (w : World) (K : Nat) (v : Value) (l : List (B.HD × Bool)) (hown : QOwn K w v l) (ad : Addr) (c : Nat) (m : List (B.HD × Bool)) (hm : 0 < m.length) (hr : QRd w (some ad) m) (hsz : l.length + m.length ≤ 2097152) (hbase : K ≤ w.heap.size) :
    ∃ g cp w', (Builtin.append_ #[22, 22] 22 #[v, .slice (some ad) m.length c]).run Tryd.prog w = .ok (.slice (some ⟨g, 0, none⟩) (l.length + m.length) cp) w' ∧ QOwn K w' (.slice (some ⟨g, 0, none⟩) (l.length + m.length) cp) (l ++ m) ∧ w.grownBy w' v.ownBlock := by
  obtain ⟨i0, hi, hz0, hz1, hz2⟩ := info_parts infoQ
  obtain ⟨v', w', h1, h2, h3, h4⟩ := run_append_own (P := Tryd.prog) (w := w) K 22 22 54 i0 _ 3 40 Tryd.underlying22 hi hz0 hz1 hz2 rfl (by omega) v l.length (nvs l) hown ad m.length c (nvs m) (nvs_length m) hr.news (nvs_one m) (by unfold maxLen; omega) (by omega) hbase
  have h2' : w'.ownsRow K 54 3 v' (l.length + m.length) (nvs l ++ nvs m) := h2
  rcases h2'.2 with ⟨e1, _⟩ | ⟨g, cp, cur, rfl, rest⟩
  · have := (h4.1 e1).2
    omega
  · refine ⟨g, cp, w', h1, ?_, h3⟩
    show w'.ownsRow K 54 3 _ (l ++ m).length (nvs (l ++ m))
    rw [List.length_append, nvs_append]
    exact h2

theorem wpList_appQ (w : World) {ops : Array Oper} {rest : List Oper} {o : Oper} {a : Act} {Q : Exit → Act → World → Prop} (hgd : o.guard = none) (s x : Operand)
    (ho : o.op = .call { callee := .builtin .append, args := #[s, x], argTypes := #[22, 22] }) (hty : o.type = 22)
    (K : Nat) (v : Value) (l : List (B.HD × Bool)) (hs : a.eval s = v) (hown : QOwn K w v l) (ad : Addr) (mm c : Nat) (m : List (B.HD × Bool)) (hx : a.eval x = .slice (some ad) mm c) (hmm : m.length = mm) (hm : 0 < mm) (hr : QRd w (some ad) m) (hsz : l.length + mm ≤ 2097152) (hbase : K ≤ w.heap.size)
    (hK : ∀ g cp w', QOwn K w' (.slice (some ⟨g, 0, none⟩) (l.length + mm) cp) (l ++ m) → w.grownBy w' v.ownBlock → wpList Tryd.prog ops Q rest (a.put o.dst (.slice (some ⟨g, 0, none⟩) (l.length + mm) cp)) w') :
    wpList Tryd.prog ops Q (o :: rest) a w := by
  subst hmm
  refine wpList_plain hgd fun K' hK' => ?_
  obtain ⟨g, cp, w', hrun, h2, h3⟩ := run_appQ w K v l hown ad c m hm hr hsz hbase
  unfold Oper.wp
  simp [execOp, ho, hty, resolve, invoke, builtin, hs, hx, hrun, Result.andThen]
  exact hK' _ _ (hK g cp w' h2 h3)
/-- The same at a step of a region that draws its order. -/
theorem step_appQ (w : World) {ops : Array Oper} {o : Oper} {a : Act} {K' : Act → World → Prop} {Q : Exit → Act → World → Prop} {E : Prop} (hgd : o.guard = none) (s x : Operand)
    (ho : o.op = .call { callee := .builtin .append, args := #[s, x], argTypes := #[22, 22] }) (hty : o.type = 22)
    (K : Nat) (v : Value) (l : List (B.HD × Bool)) (hs : a.eval s = v) (hown : QOwn K w v l) (ad : Addr) (mm c : Nat) (m : List (B.HD × Bool)) (hx : a.eval x = .slice (some ad) mm c) (hmm : m.length = mm) (hm : 0 < mm) (hr : QRd w (some ad) m) (hsz : l.length + mm ≤ 2097152) (hbase : K ≤ w.heap.size)
    (hK : ∀ g cp w', QOwn K w' (.slice (some ⟨g, 0, none⟩) (l.length + mm) cp) (l ++ m) → w.grownBy w' v.ownBlock → K' (a.put o.dst (.slice (some ⟨g, 0, none⟩) (l.length + mm) cp)) w') :
    if Region.wanted o (yielded ops a.tmps) = true then Oper.wp Tryd.prog o a w K' Q else E := by
  subst hmm
  obtain ⟨g, cp, w', hrun, h2, h3⟩ := run_appQ w K v l hown ad c m hm hr hsz hbase
  rw [if_pos (by unfold Region.wanted; rw [hgd])]
  unfold Oper.wp
  simp [execOp, ho, hty, resolve, invoke, builtin, hs, hx, hrun, Result.andThen]
  exact hK _ _ _ h2 h3

theorem QOwn.form {K : Nat} {w : World} {v : Value} {l : List (B.HD × Bool)} (h : QOwn K w v l) : ∃ a cp, v = .slice a l.length cp := by
  rcases h.2 with ⟨e, h0⟩ | ⟨g, cp, _, e, _⟩
  · exact ⟨none, 0, by rw [e, h0]⟩
  · exact ⟨_, _, e⟩
/-- A header just laid. -/
theorem QRd.one (w : World) (n v : ByteArray) (b : Bool) : QRd (w.alloc (.cells #[.string n, .string v, .bool b] 54)) (some ⟨w.heap.size, 0, none⟩) [((n, v), b)] := fun j x hx => by
  have hj : j = 0 := by
    have := (List.getElem?_eq_some_iff.1 hx).1
    simp at this
    omega
  subst hj
  simp at hx
  subst hx
  exact ⟨_, _, rfl, by simp, by simp, by simp⟩
theorem sameHeader_eq2 (n v : ByteArray) (b : Bool) (w : World) :
    Calls Tryd.prog 40 #[.agg #[.string n, .string v, .bool b], .agg #[.string n, .string v, .bool b]] w fun e w' => e = .returned (.bool true) ∧ Below w.heap.size w w' := by
  have HB : Hid (Below w.heap.size w ((w.alloc (.cells #[.string n, .string v, .bool b] 54)).alloc (.cells #[.string n, .string v, .bool b] 54))) := ((Below.refl _ _).alloc (Nat.le_refl _) _).alloc (by simp) _
  go_enter Tryd.func40, Tryd.ntmps40
  go_wp2
  go_ret
  exact ⟨by simp, HB.out⟩
theorem below_drew' (w : World) : Below w.heap.size w w.drew := ⟨rfl, rfl, rfl, Nat.le_refl _, fun _ _ => rfl⟩
theorem cell_belowB {B b o : Nat} {w w' : World} {v : Value} (h : Below B w w') (hb : b < B) (hc : w.cell? ⟨b, o, none⟩ = some v) : w'.cell? ⟨b, o, none⟩ = some v :=
  (World.cell?_of_block (a := ⟨b, o, none⟩) (h.block b hb)).trans hc

/-- A list's cells, in a block below B. -/
def QRdB (K : Nat) (w : World) (a : Option Addr) (l : List (B.HD × Bool)) : Prop := ∀ j x, l[j]? = some x → ∃ b o, a = some ⟨b, o, none⟩ ∧ b < K ∧ w.cell? ⟨b, o + j * 3, none⟩ = some (.string x.1.1) ∧ w.cell? ⟨b, o + j * 3 + 1, none⟩ = some (.string x.1.2) ∧ w.cell? ⟨b, o + j * 3 + 2, none⟩ = some (.bool x.2)

set_option maxRecDepth 100000 in
set_option maxHeartbeats 1000000 in
theorem sameHeaders_eq (a a2 : Option Addr) (n c c2 : Nat) (l : List (B.HD × Bool)) (w : World) (hl : l.length = n) (hn : n ≤ 1000000) (hr : QRdB w.heap.size w a l) (hr2 : QRdB w.heap.size w a2 l) :
    Calls Tryd.prog 18 #[.slice a n c, .slice a2 n c2] w (TruePost w) := by
  have HL := Lib.hid hl
  have HR := Lib.hid hr
  have HR2 := Lib.hid hr2
  clear hl hr hr2
  go_enter Tryd.func18, Tryd.ntmps18
  go_wp2
  go_loopw [5] (fun i wr => ∃ k : Nat, k ≤ n ∧ i = .int .i64 (k : Nat) ∧ Hid (Below w.heap.size w wr)) (fun i _ => n - (intOf i).toNat)
  case atStart => exact ⟨0, Nat.zero_le _, rfl, Below.refl _ _⟩
  case round =>
    obtain ⟨k, hk, rfl, HB⟩ := hrel
    by_cases hlt : k < n
    · obtain ⟨x, hx⟩ : ∃ x, l[k]? = some x := ⟨_, List.getElem?_eq_getElem (by rw [HL.out]; exact hlt)⟩
      obtain ⟨b, o, rfl, hb, d0, d1, d2⟩ := HR.out k x hx
      obtain ⟨b2, o2, rfl, hb2, e0, e1, e2⟩ := HR2.out k x hx
      obtain ⟨⟨xn, xv⟩, xb⟩ := x
      simp only at d0 d1 d2 e0 e1 e2
      replace d0 := cell_belowB HB.out hb d0
      replace d1 := cell_belowB HB.out hb d1
      replace d2 := cell_belowB HB.out hb d2
      replace e0 := cell_belowB HB.out hb2 e0
      replace e1 := cell_belowB HB.out hb2 e1
      replace e2 := cell_belowB HB.out hb2 e2
      have q1 : (k : Int) < (n : Int) := by omega
      have q0 : (0 : Int) ≤ (k : Int) := by omega
      have hz := HB.out.size
      clear hx
      have HS : Hid (∀ ww, Calls Tryd.prog 40 #[.agg #[.string xn, .string xv, .bool xb], .agg #[.string xn, .string xv, .bool xb]] ww fun e w' => e = .returned (.bool true) ∧ Below ww.heap.size ww w') := fun ww => sameHeader_eq2 xn xv xb ww
      have hF : Hid (∀ ww, Below wr.heap.size wr ww → ww.cell? ⟨b, o + k * 3, none⟩ = some (.string xn) ∧ ww.cell? ⟨b, o + k * 3 + 1, none⟩ = some (.string xv) ∧ ww.cell? ⟨b, o + k * 3 + 2, none⟩ = some (.bool xb) ∧ ww.cell? ⟨b2, o2 + k * 3, none⟩ = some (.string xn) ∧ ww.cell? ⟨b2, o2 + k * 3 + 1, none⟩ = some (.string xv) ∧ ww.cell? ⟨b2, o2 + k * 3 + 2, none⟩ = some (.bool xb)) := fun ww h =>
        ⟨cell_below h d0, cell_below h d1, cell_below h d2, cell_below h e0, cell_below h e1, cell_below h e2⟩
      have hF0 := Lib.hid (hF.out wr (Below.refl _ _))
      clear d0 d1 d2 e0 e1 e2
      go_upto_region 6 with (fail)
      go_region_held3 (fun ww => ww.cell? ⟨b, o + k * 3, none⟩ = some (.string xn) ∧ ww.cell? ⟨b, o + k * 3 + 1, none⟩ = some (.string xv) ∧ ww.cell? ⟨b, o + k * 3 + 2, none⟩ = some (.bool xb) ∧ ww.cell? ⟨b2, o2 + k * 3, none⟩ = some (.string xn) ∧ ww.cell? ⟨b2, o2 + k * 3 + 1, none⟩ = some (.string xv) ∧ ww.cell? ⟨b2, o2 + k * 3 + 2, none⟩ = some (.bool xb)) (first | exact hF0.out | exact hF1.out) (first | (go_at_call 40; refine (HS.out _).mono ?_; rintro e w2 ⟨rfl, hb2'⟩; have HB2 : Hid (Below wr.heap.size wr w2) := (below_drew' wr).trans hb2'; clear hb2'; have hF1 := Lib.hid (hF.out w2 HB2.out)))
      all_goals
        go_wp2
        go_roundw
        case rel => exact ⟨k + 1, by omega, by rw [Int.natCast_add]; rfl, HB.out.trans (HB2.out.mono hz)⟩
        case measure => simp [intOf]; omega
    · obtain rfl : k = n := by omega
      have q1 : ¬ (k : Int) < (k : Int) := by omega
      go_wp2
      go_ret
      exact ⟨rfl, HB.out⟩
theorem QRdB.belowB {K K2 : Nat} {w w' : World} {a : Option Addr} {l : List (B.HD × Bool)} (h : QRdB K w a l) (hb : Below K2 w w') (hk : K ≤ K2) : QRdB K w' a l := fun j x hx => by
  obtain ⟨b, o, e, h0, h1, h2, h3⟩ := h j x hx
  exact ⟨b, o, e, h0, cell_belowB hb (by omega) h1, cell_belowB hb (by omega) h2, cell_belowB hb (by omega) h3⟩
theorem QRdB.mono {K K' : Nat} {w : World} {a : Option Addr} {l : List (B.HD × Bool)} (h : QRdB K w a l) (hk : K ≤ K') : QRdB K' w a l := fun j x hx => by
  obtain ⟨b, o, e, h0, h1⟩ := h j x hx
  exact ⟨b, o, e, by omega, h1⟩
theorem QOwn.rdB {K : Nat} {w : World} {v : Value} {l : List (B.HD × Bool)} (h : QOwn K w v l) : ∃ a cp, v = .slice a l.length cp ∧ l.length ≤ cp ∧ QRdB w.heap.size w a l := by
  rcases h.cases with ⟨rfl, rfl⟩ | ⟨g, cp, rfl, h1, _, h3, h2⟩
  · exact ⟨none, 0, rfl, Nat.le_refl _, fun j x hx => by simp at hx⟩
  · exact ⟨_, cp, rfl, h1, fun j x hx => by
      obtain ⟨b, o, e, c⟩ := h2 j x hx
      exact ⟨b, o, e, World.block_lt_of_cell? _ _ c.1, c⟩⟩

/-- A copy of headers. -/
def QOut (l : List (B.HD × Bool)) (w : World) (e : Ending) (w' : World) : Prop := ∃ v, e = .returned v ∧ QOwn w.heap.size w' v l ∧ Below w.heap.size w w'

set_option maxRecDepth 100000 in
set_option maxHeartbeats 4000000 in
theorem qheaders_any {K : Nat} (a : Option Addr) (n c : Nat) (l : List (B.HD × Bool)) (w : World) (hl : l.length = n) (hn : n ≤ 1048576) (hr : QRdB K w a l) (hK : K ≤ w.heap.size) :
    Calls Tryd.prog 10 #[.slice a n c] w (QOut l w) := by
  obtain ⟨i0, hi, hz0, hz1, hz2⟩ := info_parts infoQ
  have HL := Lib.hid hl
  have HR := Lib.hid hr
  clear hl hr
  have HB2 : Hid (i0.bytes * n ≤ 281474976710656) := by show _ ≤ _; rw [hz2]; omega
  go_enter Tryd.func10, Tryd.ntmps10
  go_wp2_with (at_make; refine wpList_make_own _ rfl _ _ 22 rfl w.heap.size 54 i0 _ 3 Tryd.underlying22 hi hz0 hz1 .i64 .i64 _ n rfl rfl rfl HB2.out ?_ (Nat.le_refl _) ?_; unfold maxLen; omega; intro w1 hown hgrow)
  have H0 : Hid (QOwn w.heap.size w1 (.slice (some ⟨w.heap.size, 0, none⟩) 0 n) []) := hown
  have HB1 := Lib.hid (Below.grown (Below.refl w.heap.size w) hgrow (Nat.le_refl _) (fun k e => by cases e))
  clear hown hgrow
  go_wp2
  go_loopw [3, 4] (fun al i wr => ∃ k : Nat, k ≤ n ∧ i = .int .i64 k ∧ Hid (QOwn w.heap.size wr al (l.take k)) ∧ Hid (Below w.heap.size w wr)) (fun _ i _ => n - (intOf i).toNat)
  case atStart => exact ⟨0, by omega, rfl, H0, HB1⟩
  case round =>
    obtain ⟨k, hk, rfl, HO, HB⟩ := hrel
    clear H0 HB1
    have hz := HB.out.size
    by_cases hlt : k < n
    · obtain ⟨x, hx⟩ : ∃ x, l[k]? = some x := ⟨_, List.getElem?_eq_getElem (by rw [HL.out]; exact hlt)⟩
      obtain ⟨b, o, rfl, hbK, d0, d1, d2⟩ := (HR.out.belowB HB.out hK) k x hx
      obtain ⟨⟨xn, xv⟩, xb⟩ := x
      have HT : Hid (l.take (k + 1) = l.take k ++ [((xn, xv), xb)]) := by
        show _ = _
        rw [List.take_add_one, hx]; rfl
      have hlk : (l.take k).length = k := by rw [List.length_take, HL.out]; omega
      have hsz : (l.take k).length + 1 ≤ 2097152 := by omega
      clear hx
      have q0 : (0 : Int) ≤ (k : Int) := by omega
      have q1 : (k : Int) < (n : Int) := by omega
      have hba : Below wr.heap.size wr (wr.alloc (.cells #[.string xn, .string xv, .bool xb] 54)) := (Below.refl _ _).alloc (Nat.le_refl _) _
      have HBa := Lib.hid (HB.out.trans (hba.mono hz))
      have HOa := Lib.hid (HO.out.below hba)
      have HRn := Lib.hid (QRd.one wr xn xv xb)
      clear hba HO HB
      go_wp2_with (at_builtin; refine wpList_appQ _ rfl _ _ rfl rfl w.heap.size _ (l.take k) rfl HOa.out ⟨wr.heap.size, 0, none⟩ 1 1 [((xn, xv), xb)] rfl rfl (by omega) HRn.out hsz ?_ ?_; (have := HBa.out.size; omega); intro g7 cp7 w7 hA7 hg7)
      have HA7 := Lib.hid hA7
      have HB7 := Lib.hid (HBa.out.grown hg7 HBa.out.size (fun r e => (HOa.out.lt r e).1))
      clear hA7 hg7 HOa HBa HRn
      go_wp2
      go_roundw
      case rel => exact ⟨k + 1, by omega, by rw [Int.natCast_add]; rfl, by have h := HA7.out; rw [hlk] at h; rw [HT.out]; exact h, HB7⟩
      case measure => simp [intOf]; omega
    · obtain rfl : k = n := by omega
      have hO := HO.out
      rw [List.take_of_length_le (by rw [HL.out]; exact Nat.le_refl _)] at hO
      have HO2 := Lib.hid hO
      clear hO HO
      go_wp2
      go_ret
      exact ⟨_, rfl, HO2.out, HB.out⟩

/-- The texts of headers are of at most n bytes. -/
def QSz (n : Nat) (l : List (B.HD × Bool)) : Prop := ∀ x ∈ l, x.1.1.size ≤ n ∧ x.1.2.size ≤ n
end Go.Proofs.YtihlcecincijgaaDoor
