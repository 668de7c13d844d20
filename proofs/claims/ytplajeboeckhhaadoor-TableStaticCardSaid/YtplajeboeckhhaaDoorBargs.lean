/-
What an argument that is a header, or a list of calls, gives; what the bound on what is read gives.
-/
import Derived.Test.YtplajeboeckhhaaDoorGargs
import Derived.Test.YtplajeboeckhhaaDoorBmath
import Derived.ChangeMaps5
import Derived.SizedLaws
import Derived.Deep.Slices
namespace Go.Proofs.YtplajeboeckhhaaDoor
open Go.ChangeShapes Go.WideShapes Go.ChangeAt Go.RowKit

/-- A call: its kind, its number, its header, whether that is Never. -/
abbrev CL := Int × Int × B.HD × Bool
/-- The slice at a reads as the calls l, in blocks below K. -/
def CRd (K : Nat) (w : World) (a : Option Addr) (l : List CL) : Prop :=
  ∀ (j : Nat) (x : CL), l[j]? = some x → ∃ b o, a = some ⟨b, o, none⟩ ∧ b < K ∧ w.cell? ⟨b, o + j * 5, none⟩ = some (.int .i64 x.1) ∧ w.cell? ⟨b, o + j * 5 + 1, none⟩ = some (.int .i64 x.2.1) ∧
    w.cell? ⟨b, o + j * 5 + 2, none⟩ = some (.string x.2.2.1.1) ∧ w.cell? ⟨b, o + j * 5 + 3, none⟩ = some (.string x.2.2.1.2) ∧ w.cell? ⟨b, o + j * 5 + 4, none⟩ = some (.bool x.2.2.2)
/-- Each of the calls is of numbers that are ints. -/
def CWf (l : List CL) : Prop := ∀ x ∈ l, (-9223372036854775808 ≤ x.1 ∧ x.1 ≤ 9223372036854775807) ∧ (-9223372036854775808 ≤ x.2.1 ∧ x.2.1 ≤ 9223372036854775807)
/-- Each of their texts is of at most n bytes. -/
def CSz (n : Nat) (l : List CL) : Prop := ∀ x ∈ l, x.2.2.1.1.size ≤ n ∧ x.2.2.1.2.size ≤ n
theorem CRd.below {K : Nat} {w w' : World} {a : Option Addr} {l : List CL} (h : CRd K w a l) (hb : Below w.heap.size w w') : CRd K w' a l := fun j x hx => by
  obtain ⟨b, o, rfl, hk, h0, h1, h2, h3, h4⟩ := h j x hx
  have hlt := World.block_lt_of_cell? _ _ h0
  exact ⟨b, o, rfl, hk, (hb.cell (p := ⟨b, o + j * 5, none⟩) hlt).trans h0, (hb.cell (p := ⟨b, o + j * 5 + 1, none⟩) hlt).trans h1, (hb.cell (p := ⟨b, o + j * 5 + 2, none⟩) hlt).trans h2, (hb.cell (p := ⟨b, o + j * 5 + 3, none⟩) hlt).trans h3, (hb.cell (p := ⟨b, o + j * 5 + 4, none⟩) hlt).trans h4⟩
theorem CRd.belowB {K : Nat} {w w' : World} {a : Option Addr} {l : List CL} (h : CRd K w a l) (hb : Below K w w') : CRd K w' a l := fun j x hx => by
  obtain ⟨b, o, rfl, hk, h0, h1, h2, h3, h4⟩ := h j x hx
  exact ⟨b, o, rfl, hk, (hb.cell (p := ⟨b, o + j * 5, none⟩) hk).trans h0, (hb.cell (p := ⟨b, o + j * 5 + 1, none⟩) hk).trans h1, (hb.cell (p := ⟨b, o + j * 5 + 2, none⟩) hk).trans h2, (hb.cell (p := ⟨b, o + j * 5 + 3, none⟩) hk).trans h3, (hb.cell (p := ⟨b, o + j * 5 + 4, none⟩) hk).trans h4⟩

section
variable {H : Type} {enc : TypeId × Value → H}

theorem cells_hd : Tryd.prog.cellsOf 51 = 3 := by kernel_rfl
theorem cells_st : Tryd.prog.cellsOf 9 = 1 := by kernel_rfl
theorem cells_bo : Tryd.prog.cellsOf 4 = 1 := by kernel_rfl
theorem cells_in : Tryd.prog.cellsOf 3 = 1 := by kernel_rfl
theorem cells_cl : Tryd.prog.cellsOf 53 = 5 := by kernel_rfl

set_option maxRecDepth 100000 in
/-- A header's three cells. -/
theorem open_hd {W : World} {spare : Nat → Bool} {fuel : Nat} {cs : List Value} {x : DataW H × List MemPlace} (h : DataW.trod enc Tryd.prog W 0 spare true fuel 51 cs = some x) :
    ∃ (n v : ByteArray) (b : Bool), cs = [.string n, .string v, .bool b] ∧ x.1 = .agg [.lit (.string n.data.toList), .lit (.string v.data.toList), .lit (.bool b)] := by
  obtain ⟨xs, m, _, hx, hlen, hxl, hf⟩ := DataW.trod_struct Tryd.underlying51 h
  rw [cells_hd] at hlen
  match cs, hlen, xs, hxl with
  | [c0, c1, c2], _, [y0, y1, y2], _ =>
    have g0 := hf 0 _ rfl
    have g1 := hf 1 _ rfl
    have g2 := hf 2 _ rfl
    simp [cells_st, cells_bo] at g0 g1 g2
    obtain ⟨n, e0, z0, _⟩ := DataW.trod_string Tryd.underlying9 g0
    obtain ⟨v, e1, z1, _⟩ := DataW.trod_string Tryd.underlying9 g1
    obtain ⟨b, e2, z2⟩ := DataW.trod_bool Tryd.underlying4 g2
    cases e0; cases e1; cases e2
    refine ⟨n, v, b, rfl, ?_⟩
    rw [hx, z0, z1, z2]
    rfl

set_option maxRecDepth 100000 in
/-- What a header that came in gives. -/
theorem open_header {W : World} {base : Nat} {v : Value} {d : DataW H} {p : List MemPlace} (hval : Value.okWide Tryd.prog W .any base 51 v) (h : DataW.Trod enc Tryd.prog W 0 (fun _ => true) true 51 v d p) :
    ∃ (n u : ByteArray) (b : Bool), v = .agg #[.string n, .string u, .bool b] ∧ d = .agg [.lit (.string n.data.toList), .lit (.string u.data.toList), .lit (.bool b)] := by
  obtain ⟨cs, rfl, _⟩ := okWide_struct Tryd.underlying51 hval
  obtain ⟨fuel, hf⟩ := h
  obtain ⟨n, u, b, e, hd⟩ := open_hd hf
  refine ⟨n, u, b, ?_, hd⟩
  obtain rfl : cs = #[.string n, .string u, .bool b] := Array.toList_inj.1 (by simpa [Value.cells] using e)
  rfl

set_option maxRecDepth 100000 in
theorem sized_header {ts : List TypeId} {ds : List (DataW H)} (h : (DataW.weightsEach Tryd.prog ts ds).all (· ≤ reachBytes) = true) {j : Nat} {l1 l2 : List UInt8} {b : Bool} (ht : ts[j]? = some 51) (hd : ds[j]? = some (.agg [.lit (.string l1), .lit (.string l2), .lit (.bool b)])) :
    l1.length ≤ reachBytes ∧ l2.length ≤ reachBytes := by
  have key : ∀ n ∈ DataW.weights Tryd.prog 51 (DataW.agg (H := H) [.lit (.string l1), .lit (.string l2), .lit (.bool b)]), n ≤ reachBytes := fun n hn => of_decide_eq_true (List.all_eq_true.1 h _ (DataW.weights_mem_each ht hd n hn))
  refine ⟨key _ ?_, key _ ?_⟩ <;> simp [DataW.weights, Tryd.underlying51, DataW.weightsEach]
end
end Go.Proofs.YtplajeboeckhhaaDoor
