/-
What an argument that is a header, or a list of calls, gives; what the bound on what is read gives.
-/
import Derived.Test.YtplajeboeckhhaaDoorGargs
import Derived.Test.YtplajeboeckhhaaDoorRows
import Derived.Test.YtplajeboeckhhaaDoorBmath
import Derived.ChangeMaps5
import Derived.SizedLaws
import Derived.Deep.Slices
namespace Go.Proofs.YtplajeboeckhhaaDoor
open Go.ChangeShapes Go.WideShapes Go.ChangeAt Go.RowKit

/-- A call: its kind, its number, its header, whether that is Never. -/
abbrev CL := Int × Int × B.HD × Bool
/-- The slice at a reads as the calls l, in blocks below K. -/
def CRd (K : Nat) (w : World) (a : Option Addr) (l : List CL) : Prop :=
  ∀ (j : Nat) (x : CL), l[j]? = some x → ∃ b o, a = some ⟨b, o, none⟩ ∧ b < K ∧ w.cell? ⟨b, o + j * 5, none⟩ = some (.int .i64 x.1) ∧ w.cell? ⟨b, o + j * 5 + 1, none⟩ = some (.int .i64 x.2.1) ∧
    w.cell? ⟨b, o + j * 5 + 2, none⟩ = some (.string x.2.2.1.1) ∧ w.cell? ⟨b, o + j * 5 + 3, none⟩ = some (.string x.2.2.1.2) ∧ w.cell? ⟨b, o + j * 5 + 4, none⟩ = some (.bool x.2.2.2)
/-- Each of the calls is of numbers that are ints. -/
def CWf (l : List CL) : Prop := ∀ x ∈ l, (-9223372036854775808 ≤ x.1 ∧ x.1 ≤ 9223372036854775807) ∧ (-9223372036854775808 ≤ x.2.1 ∧ x.2.1 ≤ 9223372036854775807)
/-- Each of their texts is of at most n bytes. -/
def CSz (n : Nat) (l : List CL) : Prop := ∀ x ∈ l, x.2.2.1.1.size ≤ n ∧ x.2.2.1.2.size ≤ n
theorem CRd.below {K : Nat} {w w' : World} {a : Option Addr} {l : List CL} (h : CRd K w a l) (hb : Below w.heap.size w w') : CRd K w' a l := fun j x hx => by
  obtain ⟨b, o, rfl, hk, h0, h1, h2, h3, h4⟩ := h j x hx
  have hlt := World.block_lt_of_cell? _ _ h0
  exact ⟨b, o, rfl, hk, (hb.cell (p := ⟨b, o + j * 5, none⟩) hlt).trans h0, (hb.cell (p := ⟨b, o + j * 5 + 1, none⟩) hlt).trans h1, (hb.cell (p := ⟨b, o + j * 5 + 2, none⟩) hlt).trans h2, (hb.cell (p := ⟨b, o + j * 5 + 3, none⟩) hlt).trans h3, (hb.cell (p := ⟨b, o + j * 5 + 4, none⟩) hlt).trans h4⟩
theorem CRd.belowB {K : Nat} {w w' : World} {a : Option Addr} {l : List CL} (h : CRd K w a l) (hb : Below K w w') : CRd K w' a l := fun j x hx => by
  obtain ⟨b, o, rfl, hk, h0, h1, h2, h3, h4⟩ := h j x hx
  exact ⟨b, o, rfl, hk, (hb.cell (p := ⟨b, o + j * 5, none⟩) hk).trans h0, (hb.cell (p := ⟨b, o + j * 5 + 1, none⟩) hk).trans h1, (hb.cell (p := ⟨b, o + j * 5 + 2, none⟩) hk).trans h2, (hb.cell (p := ⟨b, o + j * 5 + 3, none⟩) hk).trans h3, (hb.cell (p := ⟨b, o + j * 5 + 4, none⟩) hk).trans h4⟩

section
variable {H : Type} {enc : TypeId × Value → H}

theorem cells_hd : Tryd.prog.cellsOf 51 = 3 := by kernel_rfl
theorem cells_st : Tryd.prog.cellsOf 9 = 1 := by kernel_rfl
theorem cells_bo : Tryd.prog.cellsOf 4 = 1 := by kernel_rfl
theorem cells_in : Tryd.prog.cellsOf 3 = 1 := by kernel_rfl
theorem cells_cl : Tryd.prog.cellsOf 53 = 5 := by kernel_rfl

set_option maxRecDepth 100000 in
/-- A header's three cells. -/
theorem open_hd {W : World} {spare : Nat → Bool} {fuel : Nat} {cs : List Value} {x : DataW H × List MemPlace} (h : DataW.trod enc Tryd.prog W 0 spare true fuel 51 cs = some x) :
    ∃ (n v : ByteArray) (b : Bool), cs = [.string n, .string v, .bool b] ∧ x.1 = .agg [.lit (.string n.data.toList), .lit (.string v.data.toList), .lit (.bool b)] := by
  obtain ⟨xs, m, _, hx, hlen, hxl, hf⟩ := DataW.trod_struct Tryd.underlying51 h
  rw [cells_hd] at hlen
  match cs, hlen, xs, hxl with
  | [c0, c1, c2], _, [y0, y1, y2], _ =>
    have g0 := hf 0 _ rfl
    have g1 := hf 1 _ rfl
    have g2 := hf 2 _ rfl
    simp [cells_st, cells_bo] at g0 g1 g2
    obtain ⟨n, e0, z0, _⟩ := DataW.trod_string Tryd.underlying9 g0
    obtain ⟨v, e1, z1, _⟩ := DataW.trod_string Tryd.underlying9 g1
    obtain ⟨b, e2, z2⟩ := DataW.trod_bool Tryd.underlying4 g2
    cases e0; cases e1; cases e2
    refine ⟨n, v, b, rfl, ?_⟩
    rw [hx, z0, z1, z2]
    rfl

set_option maxRecDepth 100000 in
/-- What a header that came in gives. -/
theorem open_header {W : World} {base : Nat} {v : Value} {d : DataW H} {p : List MemPlace} (hval : Value.okWide Tryd.prog W .any base 51 v) (h : DataW.Trod enc Tryd.prog W 0 (fun _ => true) true 51 v d p) :
    ∃ (n u : ByteArray) (b : Bool), v = .agg #[.string n, .string u, .bool b] ∧ d = .agg [.lit (.string n.data.toList), .lit (.string u.data.toList), .lit (.bool b)] := by
  obtain ⟨cs, rfl, _⟩ := okWide_struct Tryd.underlying51 hval
  obtain ⟨fuel, hf⟩ := h
  obtain ⟨n, u, b, e, hd⟩ := open_hd hf
  refine ⟨n, u, b, ?_, hd⟩
  obtain rfl : cs = #[.string n, .string u, .bool b] := Array.toList_inj.1 (by simpa [Value.cells] using e)
  rfl

set_option maxRecDepth 100000 in
theorem sized_header {ts : List TypeId} {ds : List (DataW H)} (h : (DataW.weightsEach Tryd.prog ts ds).all (· ≤ reachBytes) = true) {j : Nat} {l1 l2 : List UInt8} {b : Bool} (ht : ts[j]? = some 51) (hd : ds[j]? = some (.agg [.lit (.string l1), .lit (.string l2), .lit (.bool b)])) :
    l1.length ≤ reachBytes ∧ l2.length ≤ reachBytes := by
  have key : ∀ n ∈ DataW.weights Tryd.prog 51 (DataW.agg (H := H) [.lit (.string l1), .lit (.string l2), .lit (.bool b)]), n ≤ reachBytes := fun n hn => of_decide_eq_true (List.all_eq_true.1 h _ (DataW.weights_mem_each ht hd n hn))
  refine ⟨key _ ?_, key _ ?_⟩ <;> simp [DataW.weights, Tryd.underlying51, DataW.weightsEach]

/-- A call as it reads. -/
def clD (x : CL) : DataW H := .agg [.lit (.int .i64 x.1), .lit (.int .i64 x.2.1), .agg [.lit (.string x.2.2.1.1.data.toList), .lit (.string x.2.2.1.2.data.toList), .lit (.bool x.2.2.2)]]

set_option maxRecDepth 100000 in
/-- A call's five cells. -/
theorem open_cl {W : World} {spare : Nat → Bool} {fuel : Nat} {cs : List Value} {x : DataW H × List MemPlace} (h : DataW.trod enc Tryd.prog W 0 spare true fuel 53 cs = some x) :
    ∃ y : CL, cs = [.int .i64 y.1, .int .i64 y.2.1, .string y.2.2.1.1, .string y.2.2.1.2, .bool y.2.2.2] ∧ x.1 = clD y ∧ ((-9223372036854775808 ≤ y.1 ∧ y.1 ≤ 9223372036854775807) ∧ (-9223372036854775808 ≤ y.2.1 ∧ y.2.1 ≤ 9223372036854775807)) := by
  obtain ⟨xs, m, _, hx, hlen, hxl, hf⟩ := DataW.trod_struct Tryd.underlying53 h
  rw [cells_cl] at hlen
  match cs, hlen, xs, hxl with
  | [c0, c1, c2, c3, c4], _, [y0, y1, y2], _ =>
    have g0 := hf 0 _ rfl
    have g1 := hf 1 _ rfl
    have g2 := hf 2 _ rfl
    simp [cells_in, cells_hd] at g0 g1 g2
    obtain ⟨k, e0, z0, w0⟩ := DataW.trod_int Tryd.underlying3 g0
    obtain ⟨n, e1, z1, w1⟩ := DataW.trod_int Tryd.underlying3 g1
    obtain ⟨nm, vl, b, e2, z2⟩ := open_hd g2
    cases e0; cases e1; cases e2
    refine ⟨(k, n, (nm, vl), b), rfl, ?_, bounds_i64 w0, bounds_i64 w1⟩
    rw [hx]
    show DataW.agg [y0.1, y1.1, y2.1] = _
    rw [z0, z1, z2]
    rfl

set_option maxRecDepth 100000 in
/-- What a list of calls that came in gives. -/
theorem open_calls {W : World} {base : Nat} {v : Value} {d : DataW H} {p : List MemPlace} (hval : Value.okWide Tryd.prog W .any base 42 v) (h : DataW.Trod enc Tryd.prog W 0 (fun _ => true) true 42 v d p) (hlt : ∀ x ∈ p, x.block < W.heap.size) :
    ∃ a n cap l sp, v = .slice a n cap ∧ l.length = n ∧ n ≤ cap ∧ CRd W.heap.size W a l ∧ CWf l ∧ ((d = .nil ∧ l = []) ∨ d = .slice (l.map clD) sp) := by
  obtain ⟨a1, len, cap, rfl⟩ := okWide_slice Tryd.underlying42 hval
  obtain ⟨fuel, hf⟩ := h
  rcases Go.Deep.open_slice Tryd.underlying42 hf with ⟨hcs, hx⟩ | ⟨a, len', cap', m, n, D, Pl, hcs, _, hl, _, hm, hx, hel⟩
  · simp [Value.cells] at hcs
    obtain ⟨rfl, rfl, rfl⟩ := hcs
    cases hx
    exact ⟨none, 0, 0, [], [], rfl, rfl, Nat.le_refl _, (fun j x hx => by simp at hx), (fun x hx => by simp at hx), Or.inl ⟨rfl, rfl⟩⟩
  · simp [Value.cells] at hcs
    obtain ⟨rfl, rfl, rfl⟩ := hcs
    simp only [if_true] at hm
    simp only [Prod.mk.injEq] at hx
    obtain ⟨rfl, rfl⟩ := hx
    have each : ∀ i, i < len → ∃ y : CL, (∀ j, j < 5 → W.cell? (a.add (i * 5 + j)) = ([.int .i64 y.1, .int .i64 y.2.1, .string y.2.2.1.1, .string y.2.2.1.2, .bool y.2.2.2] : List Value)[j]?) ∧ D i = clD y ∧ ((-9223372036854775808 ≤ y.1 ∧ y.1 ≤ 9223372036854775807) ∧ (-9223372036854775808 ≤ y.2.1 ∧ y.2.1 ≤ 9223372036854775807)) := by
      intro i hi
      obtain ⟨cs', h1, h2⟩ := hel i (by omega)
      rw [cells_cl] at h1
      obtain ⟨_, hlen5, hcell⟩ := World.cells?_some h1
      obtain ⟨y, hy, hd, hw⟩ := open_cl h2
      refine ⟨y, fun j hj => ?_, hd, hw⟩
      have := hcell j (by omega)
      rw [Go.Deep.add_add] at this
      rw [this, hy]
    obtain ⟨X, hX⟩ := Go.Deep.choose_lt each
    refine ⟨some a, len, cap, (List.range len).map X, (List.range (m - len)).map fun j => D (len + j), rfl, by simp, hl, ?_, ?_, ?_⟩
    · intro j x hx
      have hj : j < len := by
        have := (List.getElem?_eq_some_iff.1 hx).1
        simpa using this
      have hxj : X j = x := by simpa [hj] using hx
      have h5 := (hX j hj).1
      rw [hxj] at h5
      obtain ⟨ab, ao, spot⟩ := a
      have c0 := h5 0 (by omega)
      have hspot : spot = none := by simpa [Addr.add] using World.cell?_spot ((hX 0 (by omega)).1 0 (by omega))
      subst hspot
      have hb : ab < W.heap.size := by
        have := World.block_lt_of_cell? _ _ c0
        rwa [Addr.add_lit] at this
      have c1 := h5 1 (by omega)
      have c2 := h5 2 (by omega)
      have c3 := h5 3 (by omega)
      have c4 := h5 4 (by omega)
      rw [Addr.add_lit] at c0 c1 c2 c3 c4
      exact ⟨ab, ao, rfl, hb, c0, c1, c2, c3, c4⟩
    · intro x hx
      obtain ⟨i, hi, rfl⟩ := List.mem_map.1 hx
      exact (hX i (List.mem_range.1 hi)).2.2
    · refine Or.inr ?_
      congr 1
      rw [List.map_map]
      exact List.map_congr_left fun i hi => (hX i (List.mem_range.1 hi)).2.1

theorem bulk_one (d : DataW H) : 1 ≤ Rows.uptoBulk d := by
  cases d with
  | lit l => cases l <;> simp [Rows.uptoBulk]
  | nil => simp [Rows.uptoBulk]
  | ptr d => simp [Rows.uptoBulk]
  | slice elems spare => simp [Rows.uptoBulk]
  | agg parts => simp [Rows.uptoBulk]
  | iface t d => simp [Rows.uptoBulk]
  | map entries => simp [Rows.uptoBulk]
  | held h => simp [Rows.uptoBulk]
theorem bulk_part {d : DataW H} {l : List (DataW H)} (h : d ∈ l) : Rows.uptoBulk d ≤ Rows.uptoBulkAll l := by
  induction l with
  | nil => cases h
  | cons x r ih =>
    simp only [Rows.uptoBulkAll]
    rcases List.mem_cons.1 h with rfl | e
    · omega
    · have := ih e; omega
theorem bulk_length (l : List (DataW H)) : l.length ≤ Rows.uptoBulkAll l := by
  induction l with
  | nil => simp
  | cons x r ih => have := bulk_one x; simp only [Rows.uptoBulkAll, List.length_cons]; omega
/-- How long the calls are, and their texts, where the whole is of a bulk. -/
theorem bulk_calls {b : Nat} {d : DataW H} {l : List CL} {sp : List (DataW H)} (hb : Rows.uptoBulk d ≤ b) (hd : (d = .nil ∧ l = []) ∨ d = .slice (l.map clD) sp) : l.length ≤ b ∧ CSz b l := by
  rcases hd with ⟨_, rfl⟩ | rfl
  · exact ⟨Nat.zero_le _, fun x hx => by simp at hx⟩
  · have h1 : Rows.uptoBulkAll (l.map (clD (H := H))) ≤ b := by simp only [Rows.uptoBulk] at hb; omega
    refine ⟨?_, fun x hx => ?_⟩
    · have := bulk_length (l.map (clD (H := H)))
      rw [List.length_map] at this
      omega
    · have h2 := bulk_part (List.mem_map_of_mem (f := clD (H := H)) hx)
      have h3 : x.2.2.1.1.data.toList.length + x.2.2.1.2.data.toList.length ≤ Rows.uptoBulk (clD (H := H) x) := by
        simp only [clD, Rows.uptoBulk, Rows.uptoBulkAll]; omega
      have e1 : x.2.2.1.1.data.toList.length = x.2.2.1.1.size := rfl
      have e2 : x.2.2.1.2.data.toList.length = x.2.2.1.2.size := rfl
      omega
/-- The bound of a second form's row, of each argument. -/
theorem bulk_arg {l : List (DataW H)} (hk : Rows.uptoSmall H l = true) {d : DataW H} (hd : d ∈ l) : Rows.uptoBulk d ≤ 1048576 := by
  have h : Rows.uptoBulkAll l ≤ 1048576 := of_decide_eq_true hk
  exact Nat.le_trans (bulk_part hd) h
/-- A header's texts, where it is of a bulk. -/
theorem bulk_header {b : Nat} {n v : ByteArray} {y : Bool} (hb : Rows.uptoBulk (DataW.agg (H := H) [.lit (.string n.data.toList), .lit (.string v.data.toList), .lit (.bool y)]) ≤ b) : n.size ≤ b ∧ v.size ≤ b := by
  simp only [Rows.uptoBulk, Rows.uptoBulkAll] at hb
  have e1 : n.data.toList.length = n.size := rfl
  have e2 : v.data.toList.length = v.size := rfl
  omega
theorem bulk_string {b : Nat} {n : ByteArray} (hb : Rows.uptoBulk (DataW.lit (H := H) (.string n.data.toList)) ≤ b) : n.size ≤ b := by
  simp only [Rows.uptoBulk] at hb
  have e1 : n.data.toList.length = n.size := rfl
  omega
end
end Go.Proofs.YtplajeboeckhhaaDoor
