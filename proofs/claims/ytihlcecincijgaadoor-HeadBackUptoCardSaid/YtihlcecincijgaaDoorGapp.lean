/-
What an append to a slice of the call's own, or to nil, does with a source that reads as bytes; bytes as strings.
-/
import Derived.Test.YtihlcecincijgaaDoorGbase
import Derived.OwnWalk
import Derived.Deep.RegionLaw
import Derived.Laws.OwnMore
import Derived.Laws.BytesArg
import Derived.Laws.Bits128
namespace Go.Proofs.YtihlcecincijgaaDoor
open Go.RowKit

/-- bytes as cells -/
def vals (l : List Nat) : List Value := l.map fun x => .int .u8 (x : Nat)
theorem vals_length (l : List Nat) : (vals l).length = l.length := by simp [vals]
theorem vals_append (l m : List Nat) : vals (l ++ m) = vals l ++ vals m := by simp [vals]
theorem vals_one (l : List Nat) : ∀ u ∈ vals l, u.oneCell' = true := by
  intro u hu
  obtain ⟨x, _, rfl⟩ := List.mem_map.1 hu
  rfl

/-- A slice of the call's own that holds the bytes l. -/
def Own (B : Nat) (w : World) (v : Value) (l : List Nat) : Prop := w.ownsRow B 5 1 v l.length (vals l) ∧ ∃ g cp, v = .slice (some ⟨g, 0, none⟩) l.length cp

theorem Rd.news {B : Nat} {w : World} {ad : Addr} {l : List Nat} (h : Rd B w (some ad) l) : ∀ j u, (vals l)[j]? = some u → w.cell? (ad.add j) = some u := by
  intro j u hu
  have hj : j < l.length := by
    rcases Nat.lt_or_ge j l.length with h | h
    · exact h
    · simp [vals, List.getElem?_eq_none h] at hu
  obtain ⟨b, o, e, _, hc⟩ := h.2 j hj
  cases e
  have e1 : (⟨b, o, none⟩ : Addr).add j = ⟨b, o + j, none⟩ := by unfold Addr.add; split <;> simp_all
  rw [e1, hc]
  simp [vals, List.getElem?_eq_getElem hj] at hu
  rw [List.getD_eq_getElem?_getD, List.getElem?_eq_getElem hj, ← hu]
  rfl

theorem Own.rd {B : Nat} {w : World} {v : Value} {l : List Nat} (h : Own B w v l) (hl : ∀ x ∈ l, x < 256) : ∃ a cp, v = .slice a l.length cp ∧ l.length ≤ cp ∧ Rd w.heap.size w a l := by
  obtain ⟨h1, g, cp, rfl⟩ := h
  refine ⟨_, cp, rfl, ?_, ?_⟩
  · rcases h1.2 with ⟨e, _⟩ | ⟨g', cap, cur, e, _, _, hn, _⟩
    · cases e
    · cases e; exact hn
  · refine Rd.mk hl (h1.lt g rfl).2 (fun j hj => ?_)
    have := h1.cells (g := g) rfl j (.int .u8 (l.getD j 0 : Nat)) (by simp [vals, List.getElem?_eq_getElem hj, List.getD_eq_getElem?_getD])
    have e1 : (⟨g, 0, none⟩ : Addr).add j = ⟨g, 0 + j, none⟩ := by unfold Addr.add; split <;> simp_all
    rw [← e1]; exact this

theorem run_app {P : Program} (w : World) (B B2 : Nat) (t ty e : TypeId) (i : TypeInfo) (z : Value) (ht : P.underlying t = some (.slice e)) (hi : P.info? e = some i) (hz : i.zero = some z)
    (hsize : i.size = 1) (hby : i.bytes = 1) (hzs : z.cells.size = 1) (v : Value) (n : Nat) (xs : List Value) (hown : w.ownsRow B e 1 v n xs) (hv : v ≠ .slice none 0 0)
    (a : Option Addr) (c : Nat) (l : List Nat) (hr : Rd B2 w a l) (h63 : n + l.length ≤ 140737488355328) (hbase : B ≤ w.heap.size) :
    ∃ v' w', (Builtin.append_ #[t, t] ty #[v, .slice a l.length c]).run P w = .ok v' w' ∧ w'.ownsRow B e 1 v' (n + l.length) (xs ++ vals l) ∧ w.grownBy w' v.ownBlock ∧ v' ≠ .slice none 0 0 := by
  cases a with
  | some ad =>
    obtain ⟨v', w', h1, h2, h3, h4⟩ := run_append_own (P := P) w B t ty e i z 1 1 ht hi hz hsize hby hzs (by omega) v n xs hown ad l.length c (vals l) (by simp [vals]) hr.news (vals_one l) (by unfold maxLen; omega) (by omega) hbase
    exact ⟨v', w', h1, h2, h3, fun e => hv (h4.1 e).1⟩
  | none =>
    have hl : l = [] := by
      apply Classical.byContradiction
      intro hne
      obtain ⟨b, o, e, _⟩ := hr.ptr hne
      cases e
    subst hl
    refine ⟨v, w, ?_, by simpa [vals] using hown, ⟨rfl, rfl, rfl, Nat.le_refl _, fun _ _ _ => rfl⟩, hv⟩
    rcases hown.2 with ⟨rfl, _⟩ | ⟨g, cap, cur, rfl, _, _, hnc, _⟩
    · exact absurd rfl hv
    · simp [Builtin.append_, run_underlying ht, sizeOf, typeInfo, hi, Builtin.lenOf, Builtin.firstCells, hnc, storeCells]

/-- 'append(own, bytes...)' at the operation. -/
theorem wpList_app {P : Program} (w : World) {ops : Array Oper} {rest : List Oper} {o : Oper} {a : Act} {Q : Exit → Act → World → Prop} (hgd : o.guard = none) (s x : Operand) (t : TypeId)
    (ho : o.op = .call { callee := .builtin .append, args := #[s, x], argTypes := #[t, t] })
    (B B2 : Nat) (e : TypeId) (i : TypeInfo) (z : Value) (ht : P.underlying t = some (.slice e)) (hi : P.info? e = some i) (hz : i.zero = some z)
    (hsize : i.size = 1) (hby : i.bytes = 1) (hzs : z.cells.size = 1) (v : Value) (n : Nat) (xs : List Value) (hs : a.eval s = v) (hown : w.ownsRow B e 1 v n xs) (hv : v ≠ .slice none 0 0)
    (ad : Option Addr) (m c : Nat) (l : List Nat) (hx : a.eval x = .slice ad m c) (hm : l.length = m) (hr : Rd B2 w ad l) (h63 : n + m ≤ 140737488355328) (hbase : B ≤ w.heap.size)
    (hK : ∀ g cp w', w'.ownsRow B e 1 (.slice (some ⟨g, 0, none⟩) (n + m) cp) (n + m) (xs ++ vals l) → w.grownBy w' v.ownBlock → wpList P ops Q rest (a.put o.dst (.slice (some ⟨g, 0, none⟩) (n + m) cp)) w') :
    wpList P ops Q (o :: rest) a w := by
  subst hm
  refine wpList_plain hgd fun K' hK' => ?_
  obtain ⟨v', w', hrun, h2, h3, h4⟩ := run_app (P := P) w B B2 t o.type e i z ht hi hz hsize hby hzs v n xs hown hv ad c l hr h63 hbase
  unfold Oper.wp
  simp [execOp, ho, resolve, invoke, builtin, hs, hx, hrun, Result.andThen]
  refine hK' _ _ ?_
  rcases h2.2 with ⟨e1, _⟩ | ⟨g, cp, cur, rfl, _⟩
  · exact absurd e1 h4
  · exact hK g cp w' h2 h3

theorem info5 : (Tryd.prog.info? 5).map (fun i => (i.zero, i.size, i.bytes)) = some (some (.int .u8 0), 1, 1) := by kernel_rfl

/-- What a function hands back that makes bytes of its own. -/
def OwnPost (B : Nat) (l : List Nat) (w : World) (e : Ending) (w' : World) : Prop := ∃ v, e = .returned v ∧ Own B w' v l ∧ Below B w w'

theorem Rd.one (w : World) (c : Nat) (t : TypeId) (hc : c < 256) : Rd (w.heap.size + 1) (w.alloc (.cells #[.int .u8 (c : Nat)] t)) (some ⟨w.heap.size, 0, none⟩) [c] := by
  refine Rd.mk (by simpa using hc) (by omega) (fun j hj => ?_)
  have : j = 0 := by simpa using hj
  subst this
  simp

/-- The string of bytes. -/
def strOf (l : List Nat) : ByteArray := strOfNums (l.map fun x : Nat => (x : Int))

theorem strOf_inj {l m : List Nat} (hl : ∀ x ∈ l, x < 256) (hm : ∀ x ∈ m, x < 256) (h1 : (strOf l).data.toList = (strOf m).data.toList) : l = m := by
  unfold strOf at h1
  rw [strOfNums_data, strOfNums_data, List.map_map, List.map_map] at h1
  have key : ∀ (l : List Nat), (∀ x ∈ l, x < 256) → (l.map ((fun n : Int => UInt8.ofNat n.toNat) ∘ fun x : Nat => (x : Int))).map (fun b => b.toNat) = l := by
    intro l hl
    rw [List.map_map]
    conv => rhs; rw [← List.map_id l]
    apply List.map_congr_left
    intro x hx
    simp only [Function.comp_apply, Int.toNat_natCast, id_eq]
    rw [UInt8.toNat_ofNat']
    exact Nat.mod_eq_of_lt (hl x hx)
  have h2 := congrArg (List.map fun b => UInt8.toNat b) h1
  rw [key l hl, key m hm] at h2
  exact h2

theorem run_str {B : Nat} (a : Option Addr) (cap : Nat) (l : List Nat) (w : World) (hr : Rd B w a l) :
    (convert 91 9 (.slice a l.length cap)).run Tryd.prog w = .ok (.string (strOf l)) w := by
  by_cases hl : l = []
  · subst hl
    rw [run_convert_bytes_string w 91 9 5 a _ cap Tryd.underlying91 Tryd.underlying5 Tryd.underlying9]
    cases a with
    | none => simp [Conv.bytesToString]; rfl
    | some ad =>
      rw [run_bytesToString w ad _ cap [] (by simp [loadCells, loadCellsFrom])]
      rfl
  · obtain ⟨b, o, rfl, _, hc⟩ := hr.ptr hl
    exact run_convert_bytes_arg w 91 5 Tryd.underlying91 Tryd.underlying5 b o l.length cap (l.map fun x : Nat => (x : Int)) (by simp) (fun i hi => by
      rw [hc i hi]
      simp [List.getD_eq_getElem?_getD, List.getElem?_eq_getElem hi]) 9 Tryd.underlying9

/-- 'append(own or nil, bytes...)' of at least one byte, at the operation. -/
theorem wpList_app1 {P : Program} (w : World) {ops : Array Oper} {rest : List Oper} {o : Oper} {a : Act} {Q : Exit → Act → World → Prop} (hgd : o.guard = none) (s x : Operand) (t : TypeId)
    (ho : o.op = .call { callee := .builtin .append, args := #[s, x], argTypes := #[t, t] })
    (B B2 : Nat) (e : TypeId) (i : TypeInfo) (z : Value) (ht : P.underlying t = some (.slice e)) (hi : P.info? e = some i) (hz : i.zero = some z)
    (hsize : i.size = 1) (hby : i.bytes = 1) (hzs : z.cells.size = 1) (v : Value) (n : Nat) (xs : List Value) (hs : a.eval s = v) (hown : w.ownsRow B e 1 v n xs)
    (ad : Addr) (m c : Nat) (l : List Nat) (hx : a.eval x = .slice (some ad) m c) (hm : l.length = m) (hm0 : 0 < m) (hr : Rd B2 w (some ad) l) (h63 : n + m ≤ 140737488355328) (hbase : B ≤ w.heap.size)
    (hK : ∀ g cp w', w'.ownsRow B e 1 (.slice (some ⟨g, 0, none⟩) (n + m) cp) (n + m) (xs ++ vals l) → w.grownBy w' v.ownBlock → wpList P ops Q rest (a.put o.dst (.slice (some ⟨g, 0, none⟩) (n + m) cp)) w') :
    wpList P ops Q (o :: rest) a w := by
  subst hm
  refine wpList_plain hgd fun K' hK' => ?_
  obtain ⟨v', w', hrun, h2, h3, h4⟩ := run_append_own (P := P) w B t o.type e i z 1 1 ht hi hz hsize hby hzs (by omega) v n xs hown ad l.length c (vals l) (by simp [vals]) hr.news (vals_one l) (by unfold maxLen; omega) (by omega) hbase
  unfold Oper.wp
  simp [execOp, ho, resolve, invoke, builtin, hs, hx, hrun, Result.andThen]
  refine hK' _ _ ?_
  rcases h2.2 with ⟨e1, _⟩ | ⟨g, cp, cur, rfl, _⟩
  · have := (h4.1 e1).2
    omega
  · exact hK g cp w' h2 h3

theorem Rd.lit (w : World) (cs : Array Value) (t : TypeId) (l : List Nat) (hl : ∀ x ∈ l, x < 256) (hc : cs.toList = vals l) : Rd (w.heap.size + 1) (w.alloc (.cells cs t)) (some ⟨w.heap.size, 0, none⟩) l := by
  refine Rd.mk hl (by omega) (fun j hj => ?_)
  rw [Nat.zero_add, cell_of_row (w.alloc (.cells cs t)) w.heap.size j cs t (0, 0) (heap_alloc_new w _)]
  rw [← Array.getElem?_toList, hc]
  simp [vals, List.getElem?_eq_getElem hj, List.getD_eq_getElem?_getD]

/-- true, and old memory is as it was -/
def TruePost (w : World) (e : Ending) (w' : World) : Prop := e = .returned (.bool true) ∧ Below w.heap.size w w'


/-- 'append(own, bytes...)' as one step of a region that draws. -/
theorem step_app {P : Program} {ops : Array Oper} {o : Oper} {a : Act} {w : World} {K : Act → World → Prop} {Q : Exit → Act → World → Prop} {E : Prop}
    (hg : o.guard = none) (s x : Operand) (t : TypeId) (ho : o.op = .call { callee := .builtin .append, args := #[s, x], argTypes := #[t, t] })
    (B B2 : Nat) (e : TypeId) (i : TypeInfo) (z : Value) (ht : P.underlying t = some (.slice e)) (hi : P.info? e = some i) (hz : i.zero = some z)
    (hsize : i.size = 1) (hby : i.bytes = 1) (hzs : z.cells.size = 1) (v : Value) (n : Nat) (xs : List Value) (hs : a.eval s = v) (hown : w.ownsRow B e 1 v n xs) (hv : v ≠ .slice none 0 0)
    (ad : Option Addr) (m c : Nat) (l : List Nat) (hx : a.eval x = .slice ad m c) (hm : l.length = m) (hr : Rd B2 w ad l) (h63 : n + m ≤ 140737488355328) (hbase : B ≤ w.heap.size)
    (hK : ∀ g cp w', w'.ownsRow B e 1 (.slice (some ⟨g, 0, none⟩) (n + m) cp) (n + m) (xs ++ vals l) → w.grownBy w' v.ownBlock → K (a.put o.dst (.slice (some ⟨g, 0, none⟩) (n + m) cp)) w') :
    if Region.wanted o (yielded ops a.tmps) = true then Oper.wp P o a w K Q else E := by
  have hw : Region.wanted o (yielded ops a.tmps) = true := by simp [Region.wanted, hg]
  rw [if_pos hw]
  subst hm
  obtain ⟨v', w', hrun, h2, h3, h4⟩ := run_app (P := P) w B B2 t o.type e i z ht hi hz hsize hby hzs v n xs hown hv ad c l hr h63 hbase
  unfold Oper.wp
  simp [execOp, ho, resolve, invoke, builtin, hs, hx, hrun, Result.andThen]
  rcases h2.2 with ⟨e1, _⟩ | ⟨g, cp, cur, rfl, _⟩
  · exact absurd e1 h4
  · exact hK g cp w' h2 h3

theorem own_app {B : Nat} {w : World} {g n cp : Nat} {l bs : List Nat} (hb : bs.length = n) (h : w.ownsRow B 5 1 (.slice (some ⟨g, 0, none⟩) (l.length + n) cp) (l.length + n) (vals l ++ vals bs)) :
    Own B w (.slice (some ⟨g, 0, none⟩) (l.length + n) cp) (l ++ bs) := by
  subst hb
  rw [← List.length_append, ← vals_append] at *
  exact ⟨h, g, cp, rfl⟩

theorem Own.mono {B B' : Nat} {w : World} {v : Value} {l : List Nat} (h : Own B w v l) (hB : B' ≤ B) : Own B' w v l := by
  obtain ⟨h1, h2⟩ := h
  refine ⟨⟨h1.1, ?_⟩, h2⟩
  rcases h1.2 with h | ⟨g, cap, cur, hv, hb, r⟩
  · exact Or.inl h
  · exact Or.inr ⟨g, cap, cur, hv, Nat.le_trans hB hb, r⟩

theorem own_rd {B : Nat} {w : World} {g n cp : Nat} {L : List Nat} (h : Own B w (.slice (some ⟨g, 0, none⟩) n cp) L) (hn : L.length = n) (hl : ∀ x ∈ L, x < 256) :
    Rd w.heap.size w (some ⟨g, 0, none⟩) L ∧ n ≤ cp := by
  subst hn
  obtain ⟨a, cp', e, h1, h2⟩ := h.rd hl
  cases e
  exact ⟨h2, h1⟩

theorem lt_app {l r : List Nat} (hl : ∀ x ∈ l, x < 256) (hr : ∀ x ∈ r, x < 256) : ∀ x ∈ l ++ r, x < 256 := by
  intro x hx
  rcases List.mem_append.1 hx with h | h
  · exact hl x h
  · exact hr x h

theorem Rd.all {B : Nat} {w : World} {a : Option Addr} {l : List Nat} (h : Rd B w a l) : ∀ x ∈ l, x < 256 := h.1

theorem Own.drew {B : Nat} {w : World} {v : Value} {l : List Nat} (h : Own B w v l) : Own B w.drew v l := h

theorem Own.below {B : Nat} {w w' : World} {v : Value} {l : List Nat} (h : Own B w v l) (hb : Below w.heap.size w w') : Own B w' v l := by
  obtain ⟨h1, g, cp, rfl⟩ := h
  have hlt := (h1.lt g rfl).2
  refine ⟨⟨h1.1, ?_⟩, g, cp, rfl⟩
  rcases h1.2 with hn | ⟨g', cap, cur, hv, hB, hg, rest⟩
  · exact .inl hn
  · cases hv
    exact .inr ⟨g, cp, cur, rfl, hB, by rw [hb.block _ hlt]; exact hg, rest⟩
end Go.Proofs.YtihlcecincijgaaDoor
