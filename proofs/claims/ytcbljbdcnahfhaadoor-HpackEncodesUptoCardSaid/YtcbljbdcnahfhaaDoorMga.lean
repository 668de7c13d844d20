/-
What every walk leans on: what a slice of bytes reads as, and that this stays where old memory stays.
-/
import Derived.WalkKit
import Derived.Outline
import Derived.Deep.QuietTactic
import Derived.BigQuiet
import Derived.Lib.Hide
import Derived.Laws.BitsAllLaws
import Derived.OwnWalk
import Derived.Deep.RegionLaw
import Derived.Laws.OwnMore
import Derived.Laws.BytesArg
import Derived.Laws.Bits128
import Derived.Laws.NewBlocks
import Derived.Deep.MidRow
import Derived.Deep.RegionHeld3
import Derived.Deep.Cut
import Derived.ScopeJumps
import Derived.WalkMore
import Derived.OwnWalkIn
import Derived.Test.YtcbljbdcnahfhaaDoorProg
/- Gbase -/
namespace Go.Proofs.YtcbljbdcnahfhaaDoor
open Go.RowKit

/-- The slice at a reads as the bytes l, in blocks below B. -/
def Rd (B : Nat) (w : World) (a : Option Addr) (l : List Nat) : Prop :=
  (∀ x ∈ l, x < 256) ∧ ∀ j, j < l.length → ∃ b o, a = some ⟨b, o, none⟩ ∧ b < B ∧ w.cell? ⟨b, o + j, none⟩ = some (.int .u8 (l.getD j 0 : Nat))

theorem Rd.nil (B : Nat) (w : World) (a : Option Addr) : Rd B w a [] := ⟨by simp, fun j hj => by simp at hj⟩

theorem Rd.lt {B : Nat} {w : World} {a : Option Addr} {l : List Nat} (h : Rd B w a l) (j : Nat) : l.getD j 0 < 256 := by
  rw [List.getD_eq_getElem?_getD]
  by_cases hj : j < l.length
  · rw [List.getElem?_eq_getElem hj]; exact h.1 _ (List.getElem_mem hj)
  · rw [List.getElem?_eq_none (by omega)]; simp

theorem Rd.cell {B : Nat} {w : World} {a : Option Addr} {l : List Nat} (h : Rd B w a l) {j : Nat} (hj : j < l.length) : ∃ b o, a = some ⟨b, o, none⟩ ∧ w.cell? ⟨b, o + j, none⟩ = some (.int .u8 (l.getD j 0 : Nat)) := by
  obtain ⟨b, o, e, _, hc⟩ := h.2 j hj
  exact ⟨b, o, e, hc⟩

theorem Rd.ptr {B : Nat} {w : World} {a : Option Addr} {l : List Nat} (h : Rd B w a l) (hl : l ≠ []) :
    ∃ b o, a = some ⟨b, o, none⟩ ∧ b < B ∧ ∀ j, j < l.length → w.cell? ⟨b, o + j, none⟩ = some (.int .u8 (l.getD j 0 : Nat)) := by
  have h0 : 0 < l.length := List.length_pos_iff.2 hl
  obtain ⟨b, o, rfl, hb, _⟩ := h.2 0 h0
  refine ⟨b, o, rfl, hb, fun j hj => ?_⟩
  obtain ⟨b', o', e, _, hc⟩ := h.2 j hj
  cases e
  exact hc

theorem Rd.mk {B : Nat} {w : World} {b o : Nat} {l : List Nat} (h : ∀ x ∈ l, x < 256) (hb : b < B) (hc : ∀ j, j < l.length → w.cell? ⟨b, o + j, none⟩ = some (.int .u8 (l.getD j 0 : Nat))) :
    Rd B w (some ⟨b, o, none⟩) l := ⟨h, fun j hj => ⟨b, o, rfl, hb, hc j hj⟩⟩

theorem Rd.mono {B B' : Nat} {w : World} {a : Option Addr} {l : List Nat} (h : Rd B w a l) (hB : B ≤ B') : Rd B' w a l :=
  ⟨h.1, fun j hj => by obtain ⟨b, o, e, hb, hc⟩ := h.2 j hj; exact ⟨b, o, e, Nat.lt_of_lt_of_le hb hB, hc⟩⟩

theorem Rd.of_cells {B : Nat} {w w' : World} {a : Option Addr} {l : List Nat} (h : Rd B w a l) (hw : ∀ p v, w.cell? p = some v → w'.cell? p = some v) : Rd B w' a l :=
  ⟨h.1, fun j hj => by obtain ⟨b, o, e, hb, hc⟩ := h.2 j hj; exact ⟨b, o, e, hb, hw _ _ hc⟩⟩

/-- Old memory below B reads as it did, wherever what lies from B on has turned. -/
theorem Rd.belowB {B : Nat} {w w' : World} {a : Option Addr} {l : List Nat} (h : Rd B w a l) (hb : Below B w w') : Rd B w' a l :=
  ⟨h.1, fun j hj => by obtain ⟨b, o, e, hlt, hc⟩ := h.2 j hj; exact ⟨b, o, e, hlt, (hb.cell (p := ⟨b, o + j, none⟩) hlt).trans hc⟩⟩

theorem cell_below {w w' : World} (h : Below w.heap.size w w') {p : Addr} {v : Value} (hc : w.cell? p = some v) : w'.cell? p = some v :=
  (h.cell (World.block_lt_of_cell? w p hc)).trans hc

theorem Rd.below {B : Nat} {w w' : World} {a : Option Addr} {l : List Nat} (h : Rd B w a l) (hb : Below w.heap.size w w') : Rd B w' a l := h.of_cells fun _ _ => cell_below hb

theorem Rd.drewN {B : Nat} {w : World} {a : Option Addr} {l : List Nat} (h : Rd B w a l) (q : Nat) : Rd B (w.drewN q) a l := h

/-- Below, once more behind a quiet stretch. -/
theorem below_q {B : Nat} {a w : World} (h : Below B a w) (n : Nat) : Below B a (w.drewN n) := h.trans ⟨rfl, rfl, rfl, Nat.le_refl _, fun _ _ => rfl⟩

/-- Where a slice from lo on lies. -/
def cutA (a : Option Addr) (cap lo : Nat) : Option Addr := if cap = lo then a else a.map (·.add lo)

theorem run_from (a : Option Addr) (n cap lo : Nat) (h : lo ≤ n) (w : World) :
    (Instr.slice 22 (.slice a n cap) (some (.int .i64 (lo : Nat))) none none).run Tryd.prog w = .ok (.slice (cutA a cap lo) (n - lo) (cap - lo)) w := by
  have hs : ∀ w, (sizeOf 5).run Tryd.prog w = .ok 1 w := fun _ => by kernel_rfl
  have := Go.run_slice_l (P := Tryd.prog) (w := w) 22 a n cap (by kernel_rfl) .i64 lo (by omega) (by omega)
  rw [this, show Tryd.prog.elem 22 = 5 by kernel_rfl, hs]
  simp [Result.andThen, sliced, cutA]
theorem run_to (k : IntKind) (a : Option Addr) (n cap hi : Nat) (h : hi ≤ cap) (w : World) :
    (Instr.slice 22 (.slice a n cap) none (some (.int k (hi : Nat))) none).run Tryd.prog w = .ok (.slice (cutA a cap 0) hi cap) w := by
  have hs : ∀ w, (sizeOf 5).run Tryd.prog w = .ok 1 w := fun _ => by kernel_rfl
  have := Go.run_slice_h (P := Tryd.prog) (w := w) 22 a n cap (by kernel_rfl) k hi (by omega) (by omega)
  rw [this, show Tryd.prog.elem 22 = 5 by kernel_rfl, hs]
  simp [Result.andThen, sliced, cutA]

theorem Rd.drop {B : Nat} {w : World} {a : Option Addr} {l : List Nat} (h : Rd B w a l) {cap lo : Nat} (hc : l.length ≤ cap) : Rd B w (cutA a cap lo) (l.drop lo) := by
  refine ⟨fun x hx => h.1 x (List.mem_of_mem_drop hx), fun j hj => ?_⟩
  rw [List.length_drop] at hj
  obtain ⟨b, o, rfl, hb, hcell⟩ := h.2 (lo + j) (by omega)
  unfold cutA
  rw [if_neg (by omega)]
  refine ⟨b, o + lo, by simp [Addr.add], hb, ?_⟩
  rw [Nat.add_assoc, hcell]
  simp [List.getD_eq_getElem?_getD]

theorem Rd.take {B : Nat} {w : World} {a : Option Addr} {l : List Nat} (h : Rd B w a l) (n : Nat) : Rd B w a (l.take n) := by
  refine ⟨fun x hx => h.1 x (List.mem_of_mem_take hx), fun j hj => ?_⟩
  rw [List.length_take] at hj
  obtain ⟨b, o, rfl, hb, hcell⟩ := h.2 j (by omega)
  refine ⟨b, o, rfl, hb, ?_⟩
  rw [hcell]
  simp [List.getD_eq_getElem?_getD, List.getElem?_take_of_lt (show j < n by omega)]

theorem Rd.cut0 {B : Nat} {w : World} {a : Option Addr} {l : List Nat} (h : Rd B w a l) {cap : Nat} : Rd B w (cutA a cap 0) l := by
  unfold cutA
  split
  · exact h
  · refine ⟨h.1, fun j hj => ?_⟩
    obtain ⟨b, o, rfl, hb, hcell⟩ := h.2 j hj
    exact ⟨b, o, by simp [Addr.add], hb, hcell⟩

end Go.Proofs.YtcbljbdcnahfhaaDoor
/- Gapp -/
namespace Go.Proofs.YtcbljbdcnahfhaaDoor
open Go.RowKit

/-- bytes as cells -/
def vals (l : List Nat) : List Value := l.map fun x => .int .u8 (x : Nat)
theorem vals_length (l : List Nat) : (vals l).length = l.length := by simp [vals]
theorem vals_append (l m : List Nat) : vals (l ++ m) = vals l ++ vals m := by simp [vals]
theorem vals_one (l : List Nat) : ∀ u ∈ vals l, u.oneCell' = true := by
  intro u hu
  obtain ⟨x, _, rfl⟩ := List.mem_map.1 hu
  rfl

/-- A slice of the call's own that holds the bytes l. -/
def Own (B : Nat) (w : World) (v : Value) (l : List Nat) : Prop := w.ownsRow B 5 1 v l.length (vals l) ∧ ∃ g cp, v = .slice (some ⟨g, 0, none⟩) l.length cp

theorem Rd.news {B : Nat} {w : World} {ad : Addr} {l : List Nat} (h : Rd B w (some ad) l) : ∀ j u, (vals l)[j]? = some u → w.cell? (ad.add j) = some u := by
  intro j u hu
  have hj : j < l.length := by
    rcases Nat.lt_or_ge j l.length with h | h
    · exact h
    · simp [vals, List.getElem?_eq_none h] at hu
  obtain ⟨b, o, e, _, hc⟩ := h.2 j hj
  cases e
  have e1 : (⟨b, o, none⟩ : Addr).add j = ⟨b, o + j, none⟩ := by unfold Addr.add; split <;> simp_all
  rw [e1, hc]
  simp [vals, List.getElem?_eq_getElem hj] at hu
  rw [List.getD_eq_getElem?_getD, List.getElem?_eq_getElem hj, ← hu]
  rfl

theorem Own.rd {B : Nat} {w : World} {v : Value} {l : List Nat} (h : Own B w v l) (hl : ∀ x ∈ l, x < 256) : ∃ a cp, v = .slice a l.length cp ∧ l.length ≤ cp ∧ Rd w.heap.size w a l := by
  obtain ⟨h1, g, cp, rfl⟩ := h
  refine ⟨_, cp, rfl, ?_, ?_⟩
  · rcases h1.2 with ⟨e, _⟩ | ⟨g', cap, cur, e, _, _, hn, _⟩
    · cases e
    · cases e; exact hn
  · refine Rd.mk hl (h1.lt g rfl).2 (fun j hj => ?_)
    have := h1.cells (g := g) rfl j (.int .u8 (l.getD j 0 : Nat)) (by simp [vals, List.getElem?_eq_getElem hj, List.getD_eq_getElem?_getD])
    have e1 : (⟨g, 0, none⟩ : Addr).add j = ⟨g, 0 + j, none⟩ := by unfold Addr.add; split <;> simp_all
    rw [← e1]; exact this

theorem run_app {P : Program} (w : World) (B B2 : Nat) (t ty e : TypeId) (i : TypeInfo) (z : Value) (ht : P.underlying t = some (.slice e)) (hi : P.info? e = some i) (hz : i.zero = some z)
    (hsize : i.size = 1) (hby : i.bytes = 1) (hzs : z.cells.size = 1) (v : Value) (n : Nat) (xs : List Value) (hown : w.ownsRow B e 1 v n xs) (hv : v ≠ .slice none 0 0)
    (a : Option Addr) (c : Nat) (l : List Nat) (hr : Rd B2 w a l) (h63 : n + l.length ≤ 140737488355328) (hbase : B ≤ w.heap.size) :
    ∃ v' w', (Builtin.append_ #[t, t] ty #[v, .slice a l.length c]).run P w = .ok v' w' ∧ w'.ownsRow B e 1 v' (n + l.length) (xs ++ vals l) ∧ w.grownBy w' v.ownBlock ∧ v' ≠ .slice none 0 0 := by
  cases a with
  | some ad =>
    obtain ⟨v', w', h1, h2, h3, h4⟩ := run_append_own (P := P) w B t ty e i z 1 1 ht hi hz hsize hby hzs (by omega) v n xs hown ad l.length c (vals l) (by simp [vals]) hr.news (vals_one l) (by unfold maxLen; omega) (by omega) hbase
    exact ⟨v', w', h1, h2, h3, fun e => hv (h4.1 e).1⟩
  | none =>
    have hl : l = [] := by
      apply Classical.byContradiction
      intro hne
      obtain ⟨b, o, e, _⟩ := hr.ptr hne
      cases e
    subst hl
    refine ⟨v, w, ?_, by simpa [vals] using hown, ⟨rfl, rfl, rfl, Nat.le_refl _, fun _ _ _ => rfl⟩, hv⟩
    rcases hown.2 with ⟨rfl, _⟩ | ⟨g, cap, cur, rfl, _, _, hnc, _⟩
    · exact absurd rfl hv
    · simp [Builtin.append_, run_underlying ht, sizeOf, typeInfo, hi, Builtin.lenOf, Builtin.firstCells, hnc, storeCells]

/-- 'append(own, bytes...)' at the operation. -/
theorem wpList_app {P : Program} (w : World) {ops : Array Oper} {rest : List Oper} {o : Oper} {a : Act} {Q : Exit → Act → World → Prop} (hgd : o.guard = none) (s x : Operand) (t : TypeId)
    (ho : o.op = .call { callee := .builtin .append, args := #[s, x], argTypes := #[t, t] })
    (B B2 : Nat) (e : TypeId) (i : TypeInfo) (z : Value) (ht : P.underlying t = some (.slice e)) (hi : P.info? e = some i) (hz : i.zero = some z)
    (hsize : i.size = 1) (hby : i.bytes = 1) (hzs : z.cells.size = 1) (v : Value) (n : Nat) (xs : List Value) (hs : a.eval s = v) (hown : w.ownsRow B e 1 v n xs) (hv : v ≠ .slice none 0 0)
    (ad : Option Addr) (m c : Nat) (l : List Nat) (hx : a.eval x = .slice ad m c) (hm : l.length = m) (hr : Rd B2 w ad l) (h63 : n + m ≤ 140737488355328) (hbase : B ≤ w.heap.size)
    (hK : ∀ g cp w', w'.ownsRow B e 1 (.slice (some ⟨g, 0, none⟩) (n + m) cp) (n + m) (xs ++ vals l) → w.grownBy w' v.ownBlock → wpList P ops Q rest (a.put o.dst (.slice (some ⟨g, 0, none⟩) (n + m) cp)) w') :
    wpList P ops Q (o :: rest) a w := by
  subst hm
  refine wpList_plain hgd fun K' hK' => ?_
  obtain ⟨v', w', hrun, h2, h3, h4⟩ := run_app (P := P) w B B2 t o.type e i z ht hi hz hsize hby hzs v n xs hown hv ad c l hr h63 hbase
  unfold Oper.wp
  simp [execOp, ho, resolve, invoke, builtin, hs, hx, hrun, Result.andThen]
  refine hK' _ _ ?_
  rcases h2.2 with ⟨e1, _⟩ | ⟨g, cp, cur, rfl, _⟩
  · exact absurd e1 h4
  · exact hK g cp w' h2 h3

theorem info5 : (Tryd.prog.info? 5).map (fun i => (i.zero, i.size, i.bytes)) = some (some (.int .u8 0), 1, 1) := by kernel_rfl

/-- What a function hands back that makes bytes of its own. -/
def OwnPost (B : Nat) (l : List Nat) (w : World) (e : Ending) (w' : World) : Prop := ∃ v, e = .returned v ∧ Own B w' v l ∧ Below B w w'

theorem Rd.one (w : World) (c : Nat) (t : TypeId) (hc : c < 256) : Rd (w.heap.size + 1) (w.alloc (.cells #[.int .u8 (c : Nat)] t)) (some ⟨w.heap.size, 0, none⟩) [c] := by
  refine Rd.mk (by simpa using hc) (by omega) (fun j hj => ?_)
  have : j = 0 := by simpa using hj
  subst this
  simp

/-- The string of bytes. -/
def strOf (l : List Nat) : ByteArray := strOfNums (l.map fun x : Nat => (x : Int))

theorem strOf_inj {l m : List Nat} (hl : ∀ x ∈ l, x < 256) (hm : ∀ x ∈ m, x < 256) (h1 : (strOf l).data.toList = (strOf m).data.toList) : l = m := by
  unfold strOf at h1
  rw [strOfNums_data, strOfNums_data, List.map_map, List.map_map] at h1
  have key : ∀ (l : List Nat), (∀ x ∈ l, x < 256) → (l.map ((fun n : Int => UInt8.ofNat n.toNat) ∘ fun x : Nat => (x : Int))).map (fun b => b.toNat) = l := by
    intro l hl
    rw [List.map_map]
    conv => rhs; rw [← List.map_id l]
    apply List.map_congr_left
    intro x hx
    simp only [Function.comp_apply, Int.toNat_natCast, id_eq]
    rw [UInt8.toNat_ofNat']
    exact Nat.mod_eq_of_lt (hl x hx)
  have h2 := congrArg (List.map fun b => UInt8.toNat b) h1
  rw [key l hl, key m hm] at h2
  exact h2

theorem run_str {B : Nat} (a : Option Addr) (cap : Nat) (l : List Nat) (w : World) (hr : Rd B w a l) :
    (convert 22 9 (.slice a l.length cap)).run Tryd.prog w = .ok (.string (strOf l)) w := by
  by_cases hl : l = []
  · subst hl
    rw [run_convert_bytes_string w 22 9 5 a _ cap Tryd.underlying22 Tryd.underlying5 Tryd.underlying9]
    cases a with
    | none => simp [Conv.bytesToString]; rfl
    | some ad =>
      rw [run_bytesToString w ad _ cap [] (by simp [loadCells, loadCellsFrom])]
      rfl
  · obtain ⟨b, o, rfl, _, hc⟩ := hr.ptr hl
    exact run_convert_bytes_arg w 22 5 Tryd.underlying22 Tryd.underlying5 b o l.length cap (l.map fun x : Nat => (x : Int)) (by simp) (fun i hi => by
      rw [hc i hi]
      simp [List.getD_eq_getElem?_getD, List.getElem?_eq_getElem hi]) 9 Tryd.underlying9

/-- 'append(own or nil, bytes...)' of at least one byte, at the operation. -/
theorem wpList_app1 {P : Program} (w : World) {ops : Array Oper} {rest : List Oper} {o : Oper} {a : Act} {Q : Exit → Act → World → Prop} (hgd : o.guard = none) (s x : Operand) (t : TypeId)
    (ho : o.op = .call { callee := .builtin .append, args := #[s, x], argTypes := #[t, t] })
    (B B2 : Nat) (e : TypeId) (i : TypeInfo) (z : Value) (ht : P.underlying t = some (.slice e)) (hi : P.info? e = some i) (hz : i.zero = some z)
    (hsize : i.size = 1) (hby : i.bytes = 1) (hzs : z.cells.size = 1) (v : Value) (n : Nat) (xs : List Value) (hs : a.eval s = v) (hown : w.ownsRow B e 1 v n xs)
    (ad : Addr) (m c : Nat) (l : List Nat) (hx : a.eval x = .slice (some ad) m c) (hm : l.length = m) (hm0 : 0 < m) (hr : Rd B2 w (some ad) l) (h63 : n + m ≤ 140737488355328) (hbase : B ≤ w.heap.size)
    (hK : ∀ g cp w', w'.ownsRow B e 1 (.slice (some ⟨g, 0, none⟩) (n + m) cp) (n + m) (xs ++ vals l) → w.grownBy w' v.ownBlock → wpList P ops Q rest (a.put o.dst (.slice (some ⟨g, 0, none⟩) (n + m) cp)) w') :
    wpList P ops Q (o :: rest) a w := by
  subst hm
  refine wpList_plain hgd fun K' hK' => ?_
  obtain ⟨v', w', hrun, h2, h3, h4⟩ := run_append_own (P := P) w B t o.type e i z 1 1 ht hi hz hsize hby hzs (by omega) v n xs hown ad l.length c (vals l) (by simp [vals]) hr.news (vals_one l) (by unfold maxLen; omega) (by omega) hbase
  unfold Oper.wp
  simp [execOp, ho, resolve, invoke, builtin, hs, hx, hrun, Result.andThen]
  refine hK' _ _ ?_
  rcases h2.2 with ⟨e1, _⟩ | ⟨g, cp, cur, rfl, _⟩
  · have := (h4.1 e1).2
    omega
  · exact hK g cp w' h2 h3

theorem Rd.lit (w : World) (cs : Array Value) (t : TypeId) (l : List Nat) (hl : ∀ x ∈ l, x < 256) (hc : cs.toList = vals l) : Rd (w.heap.size + 1) (w.alloc (.cells cs t)) (some ⟨w.heap.size, 0, none⟩) l := by
  refine Rd.mk hl (by omega) (fun j hj => ?_)
  rw [Nat.zero_add, cell_of_row (w.alloc (.cells cs t)) w.heap.size j cs t (0, 0) (heap_alloc_new w _)]
  rw [← Array.getElem?_toList, hc]
  simp [vals, List.getElem?_eq_getElem hj, List.getD_eq_getElem?_getD]

/-- true, and old memory is as it was -/
def TruePost (w : World) (e : Ending) (w' : World) : Prop := e = .returned (.bool true) ∧ Below w.heap.size w w'


/-- 'append(own, bytes...)' as one step of a region that draws. -/
theorem step_app {P : Program} {ops : Array Oper} {o : Oper} {a : Act} {w : World} {K : Act → World → Prop} {Q : Exit → Act → World → Prop} {E : Prop}
    (hg : o.guard = none) (s x : Operand) (t : TypeId) (ho : o.op = .call { callee := .builtin .append, args := #[s, x], argTypes := #[t, t] })
    (B B2 : Nat) (e : TypeId) (i : TypeInfo) (z : Value) (ht : P.underlying t = some (.slice e)) (hi : P.info? e = some i) (hz : i.zero = some z)
    (hsize : i.size = 1) (hby : i.bytes = 1) (hzs : z.cells.size = 1) (v : Value) (n : Nat) (xs : List Value) (hs : a.eval s = v) (hown : w.ownsRow B e 1 v n xs) (hv : v ≠ .slice none 0 0)
    (ad : Option Addr) (m c : Nat) (l : List Nat) (hx : a.eval x = .slice ad m c) (hm : l.length = m) (hr : Rd B2 w ad l) (h63 : n + m ≤ 140737488355328) (hbase : B ≤ w.heap.size)
    (hK : ∀ g cp w', w'.ownsRow B e 1 (.slice (some ⟨g, 0, none⟩) (n + m) cp) (n + m) (xs ++ vals l) → w.grownBy w' v.ownBlock → K (a.put o.dst (.slice (some ⟨g, 0, none⟩) (n + m) cp)) w') :
    if Region.wanted o (yielded ops a.tmps) = true then Oper.wp P o a w K Q else E := by
  have hw : Region.wanted o (yielded ops a.tmps) = true := by simp [Region.wanted, hg]
  rw [if_pos hw]
  subst hm
  obtain ⟨v', w', hrun, h2, h3, h4⟩ := run_app (P := P) w B B2 t o.type e i z ht hi hz hsize hby hzs v n xs hown hv ad c l hr h63 hbase
  unfold Oper.wp
  simp [execOp, ho, resolve, invoke, builtin, hs, hx, hrun, Result.andThen]
  rcases h2.2 with ⟨e1, _⟩ | ⟨g, cp, cur, rfl, _⟩
  · exact absurd e1 h4
  · exact hK g cp w' h2 h3

theorem own_app {B : Nat} {w : World} {g n cp : Nat} {l bs : List Nat} (hb : bs.length = n) (h : w.ownsRow B 5 1 (.slice (some ⟨g, 0, none⟩) (l.length + n) cp) (l.length + n) (vals l ++ vals bs)) :
    Own B w (.slice (some ⟨g, 0, none⟩) (l.length + n) cp) (l ++ bs) := by
  subst hb
  rw [← List.length_append, ← vals_append] at *
  exact ⟨h, g, cp, rfl⟩

theorem Own.mono {B B' : Nat} {w : World} {v : Value} {l : List Nat} (h : Own B w v l) (hB : B' ≤ B) : Own B' w v l := by
  obtain ⟨h1, h2⟩ := h
  refine ⟨⟨h1.1, ?_⟩, h2⟩
  rcases h1.2 with h | ⟨g, cap, cur, hv, hb, r⟩
  · exact Or.inl h
  · exact Or.inr ⟨g, cap, cur, hv, Nat.le_trans hB hb, r⟩

theorem own_rd {B : Nat} {w : World} {g n cp : Nat} {L : List Nat} (h : Own B w (.slice (some ⟨g, 0, none⟩) n cp) L) (hn : L.length = n) (hl : ∀ x ∈ L, x < 256) :
    Rd w.heap.size w (some ⟨g, 0, none⟩) L ∧ n ≤ cp := by
  subst hn
  obtain ⟨a, cp', e, h1, h2⟩ := h.rd hl
  cases e
  exact ⟨h2, h1⟩

theorem lt_app {l r : List Nat} (hl : ∀ x ∈ l, x < 256) (hr : ∀ x ∈ r, x < 256) : ∀ x ∈ l ++ r, x < 256 := by
  intro x hx
  rcases List.mem_append.1 hx with h | h
  · exact hl x h
  · exact hr x h

theorem Rd.all {B : Nat} {w : World} {a : Option Addr} {l : List Nat} (h : Rd B w a l) : ∀ x ∈ l, x < 256 := h.1

theorem Own.drew {B : Nat} {w : World} {v : Value} {l : List Nat} (h : Own B w v l) : Own B w.drew v l := h

theorem Own.below {B : Nat} {w w' : World} {v : Value} {l : List Nat} (h : Own B w v l) (hb : Below w.heap.size w w') : Own B w' v l := by
  obtain ⟨h1, g, cp, rfl⟩ := h
  have hlt := (h1.lt g rfl).2
  refine ⟨⟨h1.1, ?_⟩, g, cp, rfl⟩
  rcases h1.2 with hn | ⟨g', cap, cur, hv, hB, hg, rest⟩
  · exact .inl hn
  · cases hv
    exact .inr ⟨g, cp, cur, rfl, hB, by rw [hb.block _ hlt]; exact hg, rest⟩
end Go.Proofs.YtcbljbdcnahfhaaDoor
/- Gblk -/
namespace Go.Proofs.YtcbljbdcnahfhaaDoor
open Go.RowKit

theorem addr_ne {b i j : Nat} (h : i ≠ j) : (⟨b, i, none⟩ : Addr) ≠ ⟨b, j, none⟩ := fun e => h (congrArg Addr.off e)
/-- A store elsewhere in a block turns no cell, behind a draw. -/
theorem far_drew {w : World} {b i j : Nat} {v u : Value} (h : i ≠ j) (hc : w.cell? ⟨b, j, none⟩ = some u) : (w.setCell ⟨b, i, none⟩ v).drew.cell? ⟨b, j, none⟩ = some u :=
  (World.cell?_setCell_other _ _ _ _ (addr_ne h)).trans hc

/-- Block g holds n cells, and they may be written: cell j is f j. -/
def Blk (w : World) (g n : Nat) (f : Nat → Value) : Prop := ∀ j, j < n → w.cell? ⟨g, j, none⟩ = some (f j) ∧ w.frozen? ⟨g, j, none⟩ = false

theorem Blk.ext {w : World} {g n : Nat} {f h : Nat → Value} (a : Blk w g n f) (e : ∀ j, j < n → f j = h j) : Blk w g n h :=
  fun j hj => by rw [← e j hj]; exact a j hj
theorem Blk.set {w : World} {g n : Nat} {f : Nat → Value} (a : Blk w g n f) {i : Nat} (hi : i < n) (v : Value) : Blk (w.setCell ⟨g, i, none⟩ v) g n (fun j => if j = i then v else f j) := by
  intro j hj
  refine ⟨?_, by rw [World.frozen?_setCell]; exact (a j hj).2⟩
  by_cases e : j = i
  · subst e; rw [World.cell?_setCell_same _ _ _ (a j hj).1]; simp
  · rw [World.cell?_setCell_other _ _ _ _ (by intro h; cases h; exact e rfl), (a j hj).1]
    show _ = some (if j = i then v else f j)
    rw [if_neg e]
theorem Blk.set_other {w : World} {g n : Nat} {f : Nat → Value} (a : Blk w g n f) {p : Addr} (hp : p.block ≠ g) (v : Value) : Blk (w.setCell p v) g n f := by
  intro j hj
  rw [World.frozen?_setCell, World.cell?_setCell_other _ _ _ _ (by intro h; rw [h] at hp; exact hp rfl)]
  exact a j hj
theorem Blk.drewN {w : World} {g n : Nat} {f : Nat → Value} (a : Blk w g n f) (q : Nat) : Blk (w.drewN q) g n f := a
theorem Blk.drew {w : World} {g n : Nat} {f : Nat → Value} (a : Blk w g n f) : Blk w.drew g n f := fun j hj => by simpa using a j hj
theorem Blk.lt {w : World} {g n : Nat} {f : Nat → Value} (a : Blk w g n f) (hn : 0 < n) : g < w.heap.size := World.block_lt_of_cell? w _ (a 0 hn).1
theorem Blk.alloc {w : World} {g n : Nat} {f : Nat → Value} (a : Blk w g n f) (o : Obj) : Blk (w.alloc o) g n f := fun j hj => by
  have hb := World.block_lt_of_cell? w _ (a j hj).1
  exact ⟨by rw [World.cell?_alloc_lt _ _ _ hb]; exact (a j hj).1, by rw [World.frozen?_alloc_past _ _ _ hb]; exact (a j hj).2⟩
theorem Blk.below {w w' : World} {g n : Nat} {f : Nat → Value} (a : Blk w g n f) (hb : Below w.heap.size w w') : Blk w' g n f := fun j hj => by
  have hlt := World.block_lt_of_cell? w _ (a j hj).1
  exact ⟨(hb.cell (p := ⟨g, j, none⟩) hlt).trans (a j hj).1, (hb.frozen (p := ⟨g, j, none⟩) hlt).trans (a j hj).2⟩
theorem Blk.belowB {w w' : World} {B g n : Nat} {f : Nat → Value} (a : Blk w g n f) (hb : Below B w w') (hg : g < B) : Blk w' g n f := fun j hj =>
  ⟨(hb.cell (p := ⟨g, j, none⟩) hg).trans (a j hj).1, (hb.frozen (p := ⟨g, j, none⟩) hg).trans (a j hj).2⟩
theorem Blk.new (w : World) (C : Array Value) (t : TypeId) (f : Nat → Value) (h : ∀ j, j < C.size → C[j]? = some (f j)) : Blk (w.alloc (.cells C t)) w.heap.size C.size f := by
  intro j hj
  have hb := heap_alloc_new w (.cells C t)
  refine ⟨?_, ?_⟩
  · rw [cell_of_row (w.alloc (.cells C t)) w.heap.size j C t (0, 0) hb, h j hj]
  · exact World.frozen?_alloc_new w C t j

/-- A variable of many cells is made. -/
theorem wpList_alloc_big {P : Program} {ops : Array Oper} {rest : List Oper} {op : Oper} {a : Act} {w : World} {Q : Exit → Act → World → Prop} (hgd : op.guard = none) (ty : TypeId) (ho : op.op = .alloc ty) (C : Array Value)
    (hrun : ∀ w, (Instr.alloc ty true (.tuple #[])).run P w = .ok (.pointer (some ⟨w.heap.size, 0, none⟩)) (w.alloc (.cells C ty)))
    (h : wpList P ops Q rest (a.put op.dst (.pointer (some ⟨w.heap.size, 0, none⟩))) (w.alloc (.cells C ty))) : wpList P ops Q (op :: rest) a w :=
  wpList_plain hgd fun _ hK => by
    unfold Oper.wp execOp
    simp only [ho, hrun, Sem.run_bind, Sem.run_pure, Result.andThen_ok]
    exact hK _ _ h

theorem Blk.setCells_other {w : World} {g n : Nat} {f : Nat → Value} (a : Blk w g n f) {b : Nat} (hb : g ≠ b) (o : Nat) (vs : List Value) : Blk (w.setCells b o vs) g n f := fun j hj =>
  ⟨by rw [World.cell?_setCells_out b vs o w ⟨g, j, none⟩ (fun h _ => absurd h hb)]; exact (a j hj).1, by rw [World.frozen?_setCells]; exact (a j hj).2⟩
theorem Blk.setCells {w : World} {g n : Nat} {f : Nat → Value} (a : Blk w g n f) {vs : List Value} (hv : vs.length = n) {h : Nat → Value} (hh : ∀ j, j < n → vs[j]? = some (h j)) : Blk (w.setCells g 0 vs) g n h := fun j hj => by
  refine ⟨?_, by rw [World.frozen?_setCells]; exact (a j hj).2⟩
  have := World.cell?_setCells_in g vs 0 w (fun i hi => by rw [Nat.zero_add, (a i (by omega)).1]; rfl) j (by omega)
  rw [Nat.zero_add] at this
  rw [this, ← hh j hj, List.getElem?_eq_getElem (by omega)]
theorem below_setCells (b : Nat) {B : Nat} (hb : B ≤ b) {a : World} : ∀ (vs : List Value) (o : Nat) {w : World}, Below B a w → Below B a (w.setCells b o vs)
  | [], _, _, h => h
  | v :: vs, o, w, h => by
    rw [World.setCells]
    exact below_setCells b hb vs (o + 1) (h.setCell (by exact hb) v)
theorem size_setCells (b : Nat) : ∀ (vs : List Value) (o : Nat) (w : World), (w.setCells b o vs).heap.size = w.heap.size
  | [], _, _ => rfl
  | v :: vs, o, w => by rw [World.setCells, size_setCells b vs, World.size_setCell]
theorem Blk.rangeAt {w : World} {g n : Nat} {f : Nat → Value} (a : Blk w g n f) {o : Nat} {cs : List Value} (h : ∀ j, j < cs.length → o + j < n ∧ cs[j]? = some (f (o + j))) : w.rangeAt g o cs := fun j v hv => by
  obtain ⟨h1, h2⟩ := h j (List.getElem?_eq_some_iff.1 hv).1
  rw [h2] at hv
  cases hv
  exact (a (o + j) h1).1
theorem Blk.there {w : World} {g n : Nat} {f : Nat → Value} (a : Blk w g n f) {o m : Nat} (h : o + m ≤ n) : w.there g o m := fun j hj => by
  obtain ⟨h1, h2⟩ := a (o + j) (by omega)
  exact ⟨by rw [h1]; rfl, h2⟩

/-- A result that lies in a variable of many cells. -/
theorem results_cell1 {P : Program} {fn : Func} {p : Tmp} {ty : TypeId} (h : fn.results = #[.cell p ty]) (tmps : Array Value) {w : World} {ad : Addr} (ha : tmps.getD p undef = .pointer (some ad)) {v : Value} (hl : (loadVar ty ad).run P w = .ok v w) :
    (results fn tmps).run P w = .ok v w := by
  have ha1 : tmps[p]?.getD undef = .pointer (some ad) := by rw [← ha]; simp
  have ha2 : (asAddr (.pointer (some ad))).run P w = .ok ad w := by simp [asAddr]
  simp [results, h, ha1, Sem.run_bind, Result.andThen, ha2, hl]

/-- A slice of many cells is made. -/
theorem wpList_make_big {P : Program} {ops : Array Oper} {rest : List Oper} {op : Oper} {a : Act} {w : World} {Q : Exit → Act → World → Prop} (hgd : op.guard = none) (ty : TypeId) (x y : Operand) (ho : op.op = .makeSlice ty x y) (v : Value) (w' : World)
    (hrun : (Instr.makeSlice ty (a.eval x) (a.eval y)).run P w = .ok v w')
    (h : wpList P ops Q rest (a.put op.dst v) w') : wpList P ops Q (op :: rest) a w :=
  wpList_plain hgd fun _ hK => by
    unfold Oper.wp execOp
    simp only [ho, hrun, Sem.run_bind, Sem.run_pure, Result.andThen_ok]
    exact hK _ _ h

/-- A slice of many values is built. -/
theorem wpList_buildSlice_big {P : Program} {ops : Array Oper} {rest : List Oper} {op : Oper} {a : Act} {w : World} {Q : Exit → Act → World → Prop} (hgd : op.guard = none) (ty : TypeId) (len : Nat) (parts : Array (Nat × Operand)) (ho : op.op = .buildSlice ty len parts)
    (vs : Array (Nat × Value)) (hvs : (parts.map fun (i, x) => (i, a.eval x)) = vs) (v : Value) (w' : World) (hrun : (Instr.buildSlice ty len vs).run P w = .ok v w')
    (h : wpList P ops Q rest (a.put op.dst v) w') : wpList P ops Q (op :: rest) a w :=
  wpList_plain hgd fun _ hK => by
    unfold Oper.wp execOp
    simp only [ho, hvs, hrun, Sem.run_bind, Sem.run_pure, Result.andThen_ok]
    exact hK _ _ h
end Go.Proofs.YtcbljbdcnahfhaaDoor
/- Gcells -/
namespace Go.Proofs.YtcbljbdcnahfhaaDoor
open Go.RowKit

theorem below_un {B q : Nat} {w w1 : World} (h : Below B (w.drewN q) w1) : Below B w w1 := ⟨h.os, h.tape, h.output, h.size, h.block⟩

theorem bcell {w w1 : World} (hb : Below w.heap.size w w1) : (∀ b o, b < w.heap.size → w1.cell? ⟨b, o, none⟩ = w.cell? ⟨b, o, none⟩) ∧ (∀ b o, b < w.heap.size → w1.frozen? ⟨b, o, none⟩ = w.frozen? ⟨b, o, none⟩) ∧ w.heap.size ≤ w1.heap.size :=
  ⟨fun b o h => hb.cell (p := ⟨b, o, none⟩) h, fun b o h => hb.frozen (p := ⟨b, o, none⟩) h, hb.size⟩

/-- A block of three cells, still there. -/
theorem cells3 {w w1 : World} {x y z : Value} {t : TypeId} (hb : Below (w.alloc (.cells #[x, y, z] t)).heap.size (w.alloc (.cells #[x, y, z] t)) w1) :
    (w1.cell? ⟨w.heap.size, 0, none⟩ = some x ∧ w1.cell? ⟨w.heap.size, 1, none⟩ = some y ∧ w1.cell? ⟨w.heap.size, 2, none⟩ = some z) ∧
    (w1.frozen? ⟨w.heap.size, 0, none⟩ = false ∧ w1.frozen? ⟨w.heap.size, 1, none⟩ = false ∧ w1.frozen? ⟨w.heap.size, 2, none⟩ = false) ∧ w.heap.size < w1.heap.size := by
  have h := (hb.block w.heap.size (by simp)).trans (heap_alloc_new w (.cells #[x, y, z] t))
  have hs := hb.size
  simp at hs
  refine ⟨⟨?_, ?_, ?_⟩, ⟨?_, ?_, ?_⟩, by omega⟩ <;> simp [World.cell?, World.frozen?, h]

theorem below_over {w w1 : World} {o : Obj} (hb : Below (w.alloc o).heap.size (w.alloc o) w1) : Below w.heap.size w w1 :=
  (((Below.refl _ w).alloc (Nat.le_refl _) o)).trans (hb.mono (by simp))

/-- A block of four cells, still there. -/
theorem cells4 {w w1 : World} {x y z u : Value} {t : TypeId} (hb : Below (w.alloc (.cells #[x, y, z, u] t)).heap.size (w.alloc (.cells #[x, y, z, u] t)) w1) :
    (w1.cell? ⟨w.heap.size, 0, none⟩ = some x ∧ w1.cell? ⟨w.heap.size, 1, none⟩ = some y ∧ w1.cell? ⟨w.heap.size, 2, none⟩ = some z ∧ w1.cell? ⟨w.heap.size, 3, none⟩ = some u) ∧
    (w1.frozen? ⟨w.heap.size, 0, none⟩ = false ∧ w1.frozen? ⟨w.heap.size, 1, none⟩ = false ∧ w1.frozen? ⟨w.heap.size, 2, none⟩ = false ∧ w1.frozen? ⟨w.heap.size, 3, none⟩ = false) ∧ w.heap.size < w1.heap.size := by
  have h := (hb.block w.heap.size (by simp)).trans (heap_alloc_new w (.cells #[x, y, z, u] t))
  have hs := hb.size
  simp at hs
  refine ⟨⟨?_, ?_, ?_, ?_⟩, ⟨?_, ?_, ?_, ?_⟩, by omega⟩ <;> simp [World.cell?, World.frozen?, h]
end Go.Proofs.YtcbljbdcnahfhaaDoor
/- Gjump -/
namespace Go.Proofs.YtcbljbdcnahfhaaDoor

/-- As Q; by a goto to label l: J l. -/
def jumps (J : Nat → Act → World → Prop) (Q : Exit → Act → World → Prop) : Exit → Act → World → Prop
  | .goto l, a, w => J l a w
  | e, a, w => Q e a w

theorem wp_scope_many {P : Program} {a : Act} {w : World} {Q : Exit → Act → World → Prop} {c : Code} (rest : Nat → Code) (L : Nat → Prop) (J : Nat → Act → World → Prop) (μ : Act → World → Nat)
    (hf : ∀ l, L l → findLabel c l = some (rest l))
    (first : c.wp P (jumps (fun l a w => L l ∧ J l a w) Q) a w)
    (pass : ∀ l a w, L l → J l a w → (rest l).wp P (jumps (fun l' a' w' => L l' ∧ J l' a' w' ∧ μ a' w' < μ a w) Q) a w) : (Code.scope c).wp P Q a w := by
  intro b k cs
  have hg : ∀ l, L l → gotoIn l (.inScope c :: k) = some (.code (rest l) :: .inScope c :: k) := fun l hl => by simp [gotoIn, hf l hl]
  have key : ∀ n l a w, μ a w = n → L l → J l a w → ∃ e a' w', Q e a' w' ∧ Arrives P (lone (b.at a (.code (rest l) :: .inScope c :: k)) cs w) b k cs e a' w' := by
    intro n
    induction n using Nat.strongRecOn with
    | _ n ih =>
      intro l a w hn hL hJ
      obtain ⟨e, a₁, w₁, hq, harr⟩ := pass l a w hL hJ b (.inScope c :: k) cs
      cases e with
      | normal => exact ⟨.normal, a₁, w₁, hq, Steps.trans harr (.one step_inScope)⟩
      | exit id => exact ⟨.exit id, a₁, w₁, hq, fun k' hk => harr k' (by simp [exitTo, hk])⟩
      | goto l' =>
        obtain ⟨hL', hJ', hlt⟩ := hq
        obtain ⟨e₂, a₂, w₂, hq₂, harr₂⟩ := ih _ (by omega) l' a₁ w₁ rfl hL' hJ'
        exact ⟨e₂, a₂, w₂, hq₂, .of_steps (harr _ (hg l' hL')) harr₂⟩
      | ret => exact ⟨_, a₁, w₁, hq, harr⟩
      | panic ch => exact ⟨_, a₁, w₁, hq, harr⟩
      | outgrown => exact ⟨_, a₁, w₁, hq, harr⟩
  obtain ⟨e, a₁, w₁, hq, harr⟩ := first b (.inScope c :: k) cs
  cases e with
  | normal => exact ⟨.normal, a₁, w₁, hq, .head step_scope (Steps.trans harr (.one step_inScope))⟩
  | exit id => exact ⟨.exit id, a₁, w₁, hq, fun k' hk => .head step_scope (harr k' (by simp [exitTo, hk]))⟩
  | goto l' =>
    obtain ⟨hL', hJ'⟩ := hq
    obtain ⟨e₂, a₂, w₂, hq₂, harr₂⟩ := key _ l' a₁ w₁ rfl hL' hJ'
    exact ⟨e₂, a₂, w₂, hq₂, .of_steps (.head step_scope (harr _ (hg l' hL'))) harr₂⟩
  | ret => exact ⟨_, a₁, w₁, hq, .of_steps (.one step_scope) harr⟩
  | panic ch => exact ⟨_, a₁, w₁, hq, .of_steps (.one step_scope) harr⟩
  | outgrown => exact ⟨_, a₁, w₁, hq, .of_steps (.one step_scope) harr⟩

/-- Two labels. -/
theorem wp_scope_two {P : Program} {a : Act} {w : World} {Q : Exit → Act → World → Prop} {c r0 r1 : Code} (l0 l1 : Nat) (J0 J1 : Act → World → Prop) (μ : Act → World → Nat) (h01 : l0 ≠ l1)
    (hf0 : findLabel c l0 = some r0) (hf1 : findLabel c l1 = some r1)
    (first : c.wp P (jumps (fun l a w => (l = l0 ∧ J0 a w) ∨ (l = l1 ∧ J1 a w)) Q) a w)
    (pass0 : ∀ a w, J0 a w → r0.wp P (jumps (fun l a' w' => (l = l0 ∧ J0 a' w' ∧ μ a' w' < μ a w) ∨ (l = l1 ∧ J1 a' w' ∧ μ a' w' < μ a w)) Q) a w)
    (pass1 : ∀ a w, J1 a w → r1.wp P (jumps (fun l a' w' => (l = l0 ∧ J0 a' w' ∧ μ a' w' < μ a w) ∨ (l = l1 ∧ J1 a' w' ∧ μ a' w' < μ a w)) Q) a w) : (Code.scope c).wp P Q a w := by
  have hw : ∀ {x : Code} {a : Act} {w : World} {J J' : Nat → Act → World → Prop}, (∀ l a w, J l a w → J' l a w) → x.wp P (jumps J Q) a w → x.wp P (jumps J' Q) a w := fun h hx => Code.wp_mono (fun e a w h2 => by
    cases e with
    | goto l => exact h l a w h2
    | normal => exact h2
    | exit id => exact h2
    | ret => exact h2
    | panic ch => exact h2
    | outgrown => exact h2) hx
  refine wp_scope_many (fun l => if l = l0 then r0 else r1) (fun l => l = l0 ∨ l = l1) (fun l a w => (l = l0 ∧ J0 a w) ∨ (l = l1 ∧ J1 a w)) μ ?_ (hw ?_ first) ?_
  · rintro l (rfl | rfl)
    · rw [if_pos rfl, hf0]
    · rw [if_neg (Ne.symm h01), hf1]
  · rintro l a w (⟨rfl, h⟩ | ⟨rfl, h⟩)
    · exact ⟨Or.inl rfl, Or.inl ⟨rfl, h⟩⟩
    · exact ⟨Or.inr rfl, Or.inr ⟨rfl, h⟩⟩
  · rintro l a w _ (⟨rfl, h⟩ | ⟨rfl, h⟩)
    · rw [if_pos rfl]
      refine hw ?_ (pass0 a w h)
      rintro l' a' w' (⟨rfl, h1, h2⟩ | ⟨rfl, h1, h2⟩)
      · exact ⟨Or.inl rfl, Or.inl ⟨rfl, h1⟩, h2⟩
      · exact ⟨Or.inr rfl, Or.inr ⟨rfl, h1⟩, h2⟩
    · rw [if_neg (Ne.symm h01)]
      refine hw ?_ (pass1 a w h)
      rintro l' a' w' (⟨rfl, h1, h2⟩ | ⟨rfl, h1, h2⟩)
      · exact ⟨Or.inl rfl, Or.inl ⟨rfl, h1⟩, h2⟩
      · exact ⟨Or.inr rfl, Or.inr ⟨rfl, h1⟩, h2⟩

theorem jumps_weaken {P : Program} {Q : Exit → Act → World → Prop} {x : Code} {a : Act} {w : World} {J J' : Nat → Act → World → Prop} (h : ∀ l a w, J l a w → J' l a w) (hx : x.wp P (jumps J Q) a w) : x.wp P (jumps J' Q) a w :=
  Code.wp_mono (fun e a w h2 => by
    cases e with
    | goto l => exact h l a w h2
    | normal => exact h2
    | exit id => exact h2
    | ret => exact h2
    | panic ch => exact h2
    | outgrown => exact h2) hx

/-- Two labels, the second one reached from the first one: what stands behind the second one is walked once. -/
theorem wp_scope_fall {P : Program} {a : Act} {w : World} {Q : Exit → Act → World → Prop} {c c0 M : Code} (l0 l1 : Nat) (J0 J1 : Act → World → Prop) (μ : Act → World → Nat) (h01 : l0 ≠ l1)
    (hf0 : findLabel c l0 = some (Code.seq .skip (Code.seq c0 (Code.seq (.label l1) M)))) (hf1 : findLabel c l1 = some (Code.seq .skip M))
    (first : (∀ a w, J1 a w → M.wp P (jumps (fun l a w => (l = l0 ∧ J0 a w) ∨ (l = l1 ∧ J1 a w)) Q) a w) → c.wp P (jumps (fun l a w => (l = l0 ∧ J0 a w) ∨ (l = l1 ∧ J1 a w)) Q) a w)
    (enter : ∀ a w, J0 a w → c0.wp P (fun e a' w' => e = .normal ∧ J1 a' w' ∧ μ a' w' ≤ μ a w) a w)
    (round : ∀ a w, J1 a w → M.wp P (jumps (fun l a' w' => (l = l0 ∧ J0 a' w' ∧ μ a' w' < μ a w) ∨ (l = l1 ∧ J1 a' w' ∧ μ a' w' < μ a w)) Q) a w) : (Code.scope c).wp P Q a w := by
  refine wp_scope_two l0 l1 J0 J1 μ h01 hf0 hf1 (first fun a w h => jumps_weaken ?_ (round a w h)) (fun a w h => ?_) (fun a w h => ?_)
  · rintro l a w (⟨h1, h2, _⟩ | ⟨h1, h2, _⟩)
    · exact Or.inl ⟨h1, h2⟩
    · exact Or.inr ⟨h1, h2⟩
  · refine wp_seq (wp_skip (wp_seq (Code.wp_mono ?_ (enter a w h))))
    rintro e a' w' ⟨rfl, h1, h2⟩
    refine wp_seq (wp_label (jumps_weaken ?_ (round a' w' h1)))
    rintro l a2 w2 (⟨h3, h4, h5⟩ | ⟨h3, h4, h5⟩)
    · exact Or.inl ⟨h3, h4, by omega⟩
    · exact Or.inr ⟨h3, h4, by omega⟩
  · exact wp_seq (wp_skip (round a w h))
end Go.Proofs.YtcbljbdcnahfhaaDoor
/- Gmid -/
namespace Go.Proofs.YtcbljbdcnahfhaaDoor
open Go.RowKit

theorem run_mid (a : Option Addr) (len cap lo n : Nat) (x y : Int) (hx : x = lo) (hy : y = lo + n) (h : lo + n ≤ cap) (w : World) :
    (Instr.slice 22 (.slice a len cap) (some (.int .i64 x)) (some (.int .i64 y)) none).run Tryd.prog w = .ok (.slice (cutA a cap lo) n (cap - lo)) w := by
  subst hx hy
  have hs : ∀ w, (sizeOf 5).run Tryd.prog w = .ok 1 w := fun _ => by kernel_rfl
  have := Go.run_slice_lh (P := Tryd.prog) (w := w) 22 a len cap (by kernel_rfl) .i64 .i64 lo (lo + n) (by omega) (by omega) (by omega)
  rw [this, show Tryd.prog.elem 22 = 5 by kernel_rfl, hs]
  have e1 : ((lo : Int) + n).toNat = lo + n := by omega
  simp [Result.andThen, sliced, cutA, e1]
end Go.Proofs.YtcbljbdcnahfhaaDoor
/- Gbigin -/
namespace Go.Proofs.YtcbljbdcnahfhaaDoor
open Go.RowKit

theorem wpListIn_load_big {F : Fence} {n : Nat} {P : Program} {ops : Array Oper} {rest : List Oper} {op : Oper} {a : Act} {w : World} {Q : Exit → Act → World → Prop} (hgd : op.guard = none) (ty : TypeId) (x : Operand) (ho : op.op = .load ty x)
    (b o : Nat) (hx : a.eval x = .pointer (some ⟨b, o, none⟩)) (cs : List Value) (d : TypeDesc) (hc : w.rangeAt b o cs)
    (hu : P.underlying ty = some d) (hd : d.isRow = true) (hi : (P.info? ty).map (·.size) = some cs.length)
    (h : wpListIn F n P ops Q rest (a.put op.dst (.agg cs.toArray)) w) : wpListIn F n P ops Q (op :: rest) a w :=
  wpListIn_plain hgd fun K hK => by
    refine ⟨fun f hf => by simp [Oper.about, ho] at hf, ?_⟩
    rw [Oper.semAt_eq _ _ _ (by simp [ho])]
    unfold execOp
    simp only [ho, hx, Instr.loadAt, Instr.sureAddr, Sem.run_bind, Sem.run_pure, Result.andThen_ok, run_loadVar_mid w b o ty cs d hc hu hd hi]
    exact hK _ _ h

theorem wpListIn_store_big {F : Fence} {n : Nat} {P : Program} {ops : Array Oper} {rest : List Oper} {op : Oper} {a : Act} {w : World} {Q : Exit → Act → World → Prop} (hgd : op.guard = none) (ty : TypeId) (x y : Operand) (ho : op.op = .store ty x y)
    (b o : Nat) (cells : Array Value) (hx : a.eval x = .pointer (some ⟨b, o, none⟩)) (hy : a.eval y = .agg cells)
    (ht : w.there b o cells.size) (hi : (P.info? ty).map (·.size) = some cells.size) (h1 : cells.all (·.oneCell') = true)
    (h : wpListIn F n P ops Q rest (a.put op.dst undef) (w.setCells b o cells.toList)) : wpListIn F n P ops Q (op :: rest) a w :=
  wpListIn_plain hgd fun K hK => by
    refine ⟨fun f hf => by simp [Oper.about, ho] at hf, ?_⟩
    rw [Oper.semAt_eq _ _ _ (by simp [ho])]
    unfold execOp
    simp only [ho, hx, hy, Instr.storeAt, Instr.sureAddr, Sem.run_bind, Sem.run_pure, Result.andThen_ok, run_storeVar_mid w b o ty cells ht hi h1]
    exact hK _ _ h

theorem wpListIn_alloc_big {F : Fence} {n : Nat} {P : Program} {ops : Array Oper} {rest : List Oper} {op : Oper} {a : Act} {w : World} {Q : Exit → Act → World → Prop} (hgd : op.guard = none) (ty : TypeId) (ho : op.op = .alloc ty) (C : Array Value)
    (hrun : ∀ w, (Instr.alloc ty true (.tuple #[])).run P w = .ok (.pointer (some ⟨w.heap.size, 0, none⟩)) (w.alloc (.cells C ty)))
    (h : wpListIn F n P ops Q rest (a.put op.dst (.pointer (some ⟨w.heap.size, 0, none⟩))) (w.alloc (.cells C ty))) : wpListIn F n P ops Q (op :: rest) a w :=
  wpListIn_plain hgd fun K hK => by
    refine ⟨fun f hf => by simp [Oper.about, ho] at hf, ?_⟩
    rw [Oper.semAt_eq _ _ _ (by simp [ho])]
    unfold execOp
    simp only [ho, hrun, Sem.run_bind, Sem.run_pure, Result.andThen_ok]
    exact hK _ _ h
end Go.Proofs.YtcbljbdcnahfhaaDoor
/- Gsame -/
namespace Go.Proofs.YtcbljbdcnahfhaaDoor
open Go.RowKit

set_option maxRecDepth 100000 in
theorem same_any {B1 B2 : Nat} (a b : Option Addr) (n m ca cb : Nat) (l k : List Nat) (w : World) (hl : l.length = n) (hk : k.length = m) (ha : Rd B1 w a l) (hb : Rd B2 w b k) :
    Calls Tryd.prog 11 #[.slice a n ca, .slice b m cb] w fun e w' => e = .returned (.bool (decide (l = k))) ∧ w = w' := by
  subst hl hk
  have h1 := run_str a ca l w ha
  have h2 := run_str b cb k w hb
  have hd : ((strOf l).toList == (strOf k).toList) = decide (l = k) := by
    rw [Bool.eq_iff_iff, beq_iff_eq, decide_eq_true_eq, ByteArray.toList_eq, ByteArray.toList_eq]
    exact ⟨fun h => strOf_inj ha.1 hb.1 h, fun h => by rw [h]⟩
  have HD := Lib.hid hd
  clear hd ha hb
  generalize strOf l = x at h1 HD
  generalize strOf k = y at h2 HD
  go_enter Tryd.func11, Tryd.ntmps11
  go_wp2
  go_ret
  exact ⟨by rw [HD.out]; rfl, rfl⟩
end Go.Proofs.YtcbljbdcnahfhaaDoor
/- Gbytes -/
namespace Go.Proofs.YtcbljbdcnahfhaaDoor
open Go.RowKit

theorem bytes_any {B2 : Nat} (a : Option Addr) (len cap : Nat) (l : List Nat) (w : World) (hl : l.length = len) (hr : Rd B2 w a l) (hsz : len ≤ 140737488355328) :
    Calls Tryd.prog 13 #[.slice a len cap] w (OwnPost w.heap.size l w) := by
  have Hr := Lib.hid hr
  have Hl := Lib.hid hl
  clear hr hl
  obtain ⟨i0, hi, hz0, hz1, hz2⟩ := info_parts info5
  have hb2 : i0.bytes * len ≤ 281474976710656 := by rw [hz2]; omega
  have HB2 := Lib.hid hb2
  clear hb2
  go_enter Tryd.func13, Tryd.ntmps13
  go_wp2_with (first | (at_make; refine wpList_make_own _ rfl _ _ 22 rfl w.heap.size 5 i0 (.int .u8 0) 1 Tryd.underlying22 hi hz0 hz1 .i64 .i64 _ len rfl rfl rfl HB2.out ?_ (Nat.le_refl _) ?_; unfold maxLen; omega; intro w1 hown hgrow; have HR1 := Lib.hid (Hr.out.below (Below.grown (Below.refl w.heap.size w) hgrow (Nat.le_refl _) (fun k e => by cases e))); have hs1 := hgrow.size) | (at_builtin; refine wpList_app _ rfl _ _ 22 rfl w.heap.size B2 5 i0 (.int .u8 0) Tryd.underlying22 hi hz0 hz1 hz2 rfl _ 0 [] rfl hown (by intro e; cases e) a len cap l rfl Hl.out HR1.out ?_ hs1 ?_; omega; intro g cp w2 hown2 hgrow2))
  go_ret
  have hl := Hl.out
  subst hl
  rw [Nat.zero_add, List.nil_append] at hown2
  refine ⟨_, rfl, ⟨hown2, g, cp, rfl⟩, ?_⟩
  exact (Below.grown (Below.refl w.heap.size w) hgrow (Nat.le_refl _) (fun k e => by cases e)).grown hgrow2 hs1 (fun k e => by cases e; exact Nat.le_refl _)
end Go.Proofs.YtcbljbdcnahfhaaDoor
