/-
What an argument that is a list of headers, a header, or a text gives; what the bound on what is read gives.
-/
import Derived.Test.YtihlcecincijgaaDoorGargs
import Derived.Test.YtihlcecincijgaaDoorRows
import Derived.Test.YtihlcecincijgaaDoorQrow
import Derived.ChangeMaps5
import Derived.SizedLaws
import Derived.Deep.Slices
namespace Go.Proofs.YtihlcecincijgaaDoor
open Go.ChangeShapes Go.WideShapes Go.ChangeAt Go.RowKit

section
variable {H : Type} {enc : TypeId × Value → H}

theorem kcells_hd : Tryd.prog.cellsOf 54 = 3 := by kernel_rfl
theorem kcells_st : Tryd.prog.cellsOf 9 = 1 := by kernel_rfl
theorem kcells_bo : Tryd.prog.cellsOf 4 = 1 := by kernel_rfl

/-- A header as it reads. -/
def qD (x : B.HD × Bool) : DataW H := .agg [.lit (.string x.1.1.data.toList), .lit (.string x.1.2.data.toList), .lit (.bool x.2)]

set_option maxRecDepth 100000 in
/-- A header's three cells. -/
theorem open_q {W : World} {spare : Nat → Bool} {fuel : Nat} {cs : List Value} {x : DataW H × List MemPlace} (h : DataW.trod enc Tryd.prog W 0 spare true fuel 54 cs = some x) :
    ∃ y : B.HD × Bool, cs = [.string y.1.1, .string y.1.2, .bool y.2] ∧ x.1 = qD y := by
  obtain ⟨xs, m, _, hx, hlen, hxl, hf⟩ := DataW.trod_struct Tryd.underlying54 h
  rw [kcells_hd] at hlen
  match cs, hlen, xs, hxl with
  | [c0, c1, c2], _, [y0, y1, y2], _ =>
    have g0 := hf 0 _ rfl
    have g1 := hf 1 _ rfl
    have g2 := hf 2 _ rfl
    simp [kcells_st, kcells_bo] at g0 g1 g2
    obtain ⟨n, e0, z0, _⟩ := DataW.trod_string Tryd.underlying9 g0
    obtain ⟨v, e1, z1, _⟩ := DataW.trod_string Tryd.underlying9 g1
    obtain ⟨b, e2, z2⟩ := DataW.trod_bool Tryd.underlying4 g2
    cases e0; cases e1; cases e2
    refine ⟨((n, v), b), rfl, ?_⟩
    rw [hx, z0, z1, z2]
    rfl

set_option maxRecDepth 100000 in
/-- A slice of headers, wherever its cell stands. -/
theorem open_qs {W : World} {fuel : Nat} {cs : List Value} {x : DataW H × List MemPlace} (h : DataW.trod enc Tryd.prog W 0 (fun _ => true) true fuel 22 cs = some x) :
    ∃ a n cap l sp, cs = [.slice a n cap] ∧ l.length = n ∧ n ≤ cap ∧ QRdB W.heap.size W a l ∧ ((x.1 = .nil ∧ l = []) ∨ x.1 = .slice (l.map qD) sp) := by
  rcases Go.Deep.open_slice Tryd.underlying22 h with ⟨hcs, hx⟩ | ⟨a, len, cap, m, n, D, Pl, hcs, _, hl, _, hm, hx, hel⟩
  · exact ⟨none, 0, 0, [], [], hcs, rfl, Nat.le_refl _, (fun j x hx => by simp at hx), Or.inl ⟨by rw [hx], rfl⟩⟩
  · simp only [if_true] at hm
    have each : ∀ i, i < len → ∃ y : B.HD × Bool, (∀ j, j < 3 → W.cell? (a.add (i * 3 + j)) = ([.string y.1.1, .string y.1.2, .bool y.2] : List Value)[j]?) ∧ D i = qD y := by
      intro i hi
      obtain ⟨cs', h1, h2⟩ := hel i (by omega)
      rw [kcells_hd] at h1
      obtain ⟨_, hlen3, hcell⟩ := World.cells?_some h1
      obtain ⟨y, hy, hd⟩ := open_q h2
      refine ⟨y, fun j hj => ?_, hd⟩
      have := hcell j (by omega)
      rw [Go.Deep.add_add] at this
      rw [this, hy]
    obtain ⟨X, hX⟩ := Go.Deep.choose_lt each
    refine ⟨some a, len, cap, (List.range len).map X, (List.range (m - len)).map fun j => D (len + j), hcs, by simp, hl, ?_, ?_⟩
    · intro j x hx
      have hj : j < len := by
        have := (List.getElem?_eq_some_iff.1 hx).1
        simpa using this
      have hxj : X j = x := by simpa [hj] using hx
      have h5 := (hX j hj).1
      rw [hxj] at h5
      obtain ⟨ab, ao, spot⟩ := a
      have c0 := h5 0 (by omega)
      have hspot : spot = none := by simpa [Addr.add] using World.cell?_spot ((hX 0 (by omega)).1 0 (by omega))
      subst hspot
      have hb : ab < W.heap.size := by
        have := World.block_lt_of_cell? _ _ c0
        rwa [Addr.add_lit] at this
      have c1 := h5 1 (by omega)
      have c2 := h5 2 (by omega)
      rw [Addr.add_lit] at c0 c1 c2
      exact ⟨ab, ao, rfl, hb, c0, c1, c2⟩
    · refine Or.inr ?_
      rw [hx]
      show DataW.slice _ _ = _
      congr 1
      rw [List.map_map]
      exact List.map_congr_left fun i hi => (hX i (List.mem_range.1 hi)).2

set_option maxRecDepth 100000 in
/-- What a list of headers that came in gives. -/
theorem open_headers {W : World} {base : Nat} {v : Value} {d : DataW H} {p : List MemPlace} (hval : Value.okWide Tryd.prog W .any base 22 v) (h : DataW.Trod enc Tryd.prog W 0 (fun _ => true) true 22 v d p) :
    ∃ a n cap l sp, v = .slice a n cap ∧ l.length = n ∧ n ≤ cap ∧ QRdB W.heap.size W a l ∧ ((d = .nil ∧ l = []) ∨ d = .slice (l.map qD) sp) := by
  obtain ⟨a1, len, cap, rfl⟩ := okWide_slice Tryd.underlying22 hval
  obtain ⟨fuel, hf⟩ := h
  obtain ⟨a, n, cap', l, sp, hcs, h1, h2, h3, h4⟩ := open_qs hf
  simp [Value.cells] at hcs
  obtain ⟨rfl, rfl, rfl⟩ := hcs
  exact ⟨_, _, _, l, sp, rfl, h1, h2, h3, h4⟩

theorem kbulk_one (d : DataW H) : 1 ≤ Rows.uptoBulk d := by
  cases d with
  | lit l => cases l <;> simp [Rows.uptoBulk]
  | nil => simp [Rows.uptoBulk]
  | ptr d => simp [Rows.uptoBulk]
  | slice elems spare => simp [Rows.uptoBulk]
  | agg parts => simp [Rows.uptoBulk]
  | iface t d => simp [Rows.uptoBulk]
  | map entries => simp [Rows.uptoBulk]
  | held h => simp [Rows.uptoBulk]
theorem kbulk_part {d : DataW H} {l : List (DataW H)} (h : d ∈ l) : Rows.uptoBulk d ≤ Rows.uptoBulkAll l := by
  induction l with
  | nil => cases h
  | cons x r ih =>
    simp only [Rows.uptoBulkAll]
    rcases List.mem_cons.1 h with rfl | e
    · omega
    · have := ih e; omega
theorem kbulk_length (l : List (DataW H)) : l.length ≤ Rows.uptoBulkAll l := by
  induction l with
  | nil => simp
  | cons x r ih => have := kbulk_one x; simp only [Rows.uptoBulkAll, List.length_cons]; omega
/-- How many headers there are, and how long their texts, where the whole is of a bulk. -/
theorem bulk_headers {b : Nat} {d : DataW H} {l : List (B.HD × Bool)} {sp : List (DataW H)} (hb : Rows.uptoBulk d ≤ b) (hd : (d = .nil ∧ l = []) ∨ d = .slice (l.map qD) sp) : l.length ≤ b ∧ QSz b l := by
  rcases hd with ⟨_, rfl⟩ | rfl
  · exact ⟨Nat.zero_le _, fun x hx => by simp at hx⟩
  · have h1 : Rows.uptoBulkAll (l.map (qD (H := H))) ≤ b := by simp only [Rows.uptoBulk] at hb; omega
    refine ⟨?_, fun x hx => ?_⟩
    · have := kbulk_length (l.map (qD (H := H)))
      rw [List.length_map] at this
      omega
    · have h2 := kbulk_part (List.mem_map_of_mem (f := qD (H := H)) hx)
      have h3 : x.1.1.data.toList.length + x.1.2.data.toList.length ≤ Rows.uptoBulk (qD (H := H) x) := by
        simp only [qD, Rows.uptoBulk, Rows.uptoBulkAll]; omega
      have e1 : x.1.1.data.toList.length = x.1.1.size := rfl
      have e2 : x.1.2.data.toList.length = x.1.2.size := rfl
      omega
/-- The bound of a second form's row, of each argument. -/
theorem kbulk_arg {l : List (DataW H)} (hk : Rows.uptoSmall H l = true) {d : DataW H} (hd : d ∈ l) : Rows.uptoBulk d ≤ 1048576 := by
  have h : Rows.uptoBulkAll l ≤ 1048576 := of_decide_eq_true hk
  exact Nat.le_trans (kbulk_part hd) h
set_option maxRecDepth 100000 in
/-- What a header that came in gives. -/
theorem open_header {W : World} {base : Nat} {v : Value} {d : DataW H} {p : List MemPlace} (hval : Value.okWide Tryd.prog W .any base 54 v) (h : DataW.Trod enc Tryd.prog W 0 (fun _ => true) true 54 v d p) :
    ∃ (n u : ByteArray) (b : Bool), v = .agg #[.string n, .string u, .bool b] ∧ d = .agg [.lit (.string n.data.toList), .lit (.string u.data.toList), .lit (.bool b)] := by
  obtain ⟨cs, rfl, _⟩ := okWide_struct Tryd.underlying54 hval
  obtain ⟨fuel, hf⟩ := h
  obtain ⟨⟨⟨n, u⟩, b⟩, e, hd⟩ := open_q hf
  refine ⟨n, u, b, ?_, hd⟩
  obtain rfl : cs = #[.string n, .string u, .bool b] := Array.toList_inj.1 (by simpa [Value.cells] using e)
  rfl
/-- A header's texts, where it is of a bulk. -/
theorem bulk_header {b : Nat} {n v : ByteArray} {y : Bool} (hb : Rows.uptoBulk (DataW.agg (H := H) [.lit (.string n.data.toList), .lit (.string v.data.toList), .lit (.bool y)]) ≤ b) : n.size ≤ b ∧ v.size ≤ b := by
  simp only [Rows.uptoBulk, Rows.uptoBulkAll] at hb
  have e1 : n.data.toList.length = n.size := rfl
  have e2 : v.data.toList.length = v.size := rfl
  omega
theorem bulk_string {b : Nat} {n : ByteArray} (hb : Rows.uptoBulk (DataW.lit (H := H) (.string n.data.toList)) ≤ b) : n.size ≤ b := by
  simp only [Rows.uptoBulk] at hb
  have e1 : n.data.toList.length = n.size := rfl
  omega
end
end Go.Proofs.YtihlcecincijgaaDoor
