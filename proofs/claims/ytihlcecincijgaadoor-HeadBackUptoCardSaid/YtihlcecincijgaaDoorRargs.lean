/-
What an argument that is a request or an answer of the reference gives; what the listed table gives.
-/
import Derived.Test.YtihlcecincijgaaDoorQargs
import Derived.Test.YtihlcecincijgaaDoorDlaid
import Derived.Test.YtihlcecincijgaaDoorDbuilda
import Derived.Lib.LaidTab
namespace Go.Proofs.YtihlcecincijgaaDoor
open Go.ChangeShapes Go.WideShapes Go.ChangeAt Go.RowKit

section
variable {H : Type} {enc : TypeId × Value → H}

theorem kcells_rq : Tryd.prog.cellsOf 32 = 5 := by kernel_rfl
theorem kcells_rs : Tryd.prog.cellsOf 39 = 2 := by kernel_rfl
theorem kcells_hs : Tryd.prog.cellsOf 22 = 1 := by kernel_rfl
theorem kcells_it : Tryd.prog.cellsOf 3 = 1 := by kernel_rfl

set_option maxRecDepth 100000 in
/-- What a request that came in gives. -/
theorem open_rq {W : World} {base : Nat} {v : Value} {d : DataW H} {p : List MemPlace} (hval : Value.okWide Tryd.prog W .any base 32 v) (h : DataW.Trod enc Tryd.prog W 0 (fun _ => true) true 32 v d p) :
    ∃ (m s a q : ByteArray) (x : Option Addr) (n cap : Nat) (l : List (B.HD × Bool)) (sp : List (DataW H)) (dl : DataW H), v = .agg #[.string m, .string s, .string a, .string q, .slice x n cap] ∧ l.length = n ∧ n ≤ cap ∧ QRdB W.heap.size W x l ∧
      ((dl = .nil ∧ l = []) ∨ dl = .slice (l.map qD) sp) ∧ d = .agg [.lit (.string m.data.toList), .lit (.string s.data.toList), .lit (.string a.data.toList), .lit (.string q.data.toList), dl] := by
  obtain ⟨cs, rfl, hcz⟩ := okWide_struct Tryd.underlying32 hval
  rw [kcells_rq] at hcz
  obtain ⟨fuel, hf⟩ := h
  obtain ⟨xs, m, _, hx, hlen, hxl, hg⟩ := DataW.trod_struct Tryd.underlying32 hf
  obtain ⟨cs⟩ := cs
  match cs, hcz, xs, hxl with
  | [c0, c1, c2, c3, c4], _, [y0, y1, y2, y3, y4], _ =>
    have g0 := hg 0 _ rfl
    have g1 := hg 1 _ rfl
    have g2 := hg 2 _ rfl
    have g3 := hg 3 _ rfl
    have g4 := hg 4 _ rfl
    simp [Value.cells, kcells_st, kcells_hs] at g0 g1 g2 g3 g4
    obtain ⟨m, e0, z0, _⟩ := DataW.trod_string Tryd.underlying9 g0
    obtain ⟨s, e1, z1, _⟩ := DataW.trod_string Tryd.underlying9 g1
    obtain ⟨a, e2, z2, _⟩ := DataW.trod_string Tryd.underlying9 g2
    obtain ⟨q, e3, z3, _⟩ := DataW.trod_string Tryd.underlying9 g3
    obtain ⟨x, n, cap, l, sp, e4, h1, h2, h3, h4⟩ := open_qs g4
    cases e0; cases e1; cases e2; cases e3; cases e4
    refine ⟨m, s, a, q, x, n, cap, l, sp, y4.1, rfl, h1, h2, h3, h4, ?_⟩
    have hx1 := congrArg (·.1) hx
    simp only [z0, z1, z2, z3] at hx1
    simpa [z0, z1, z2, z3] using hx1

set_option maxRecDepth 100000 in
/-- What an answer that came in gives. -/
theorem open_rs {W : World} {base : Nat} {v : Value} {d : DataW H} {p : List MemPlace} (hval : Value.okWide Tryd.prog W .any base 39 v) (h : DataW.Trod enc Tryd.prog W 0 (fun _ => true) true 39 v d p) :
    ∃ (i : Int) (x : Option Addr) (n cap : Nat) (l : List (B.HD × Bool)) (sp : List (DataW H)) (dl : DataW H), v = .agg #[.int .i64 i, .slice x n cap] ∧ (-9223372036854775808 ≤ i ∧ i ≤ 9223372036854775807) ∧ l.length = n ∧ n ≤ cap ∧ QRdB W.heap.size W x l ∧
      ((dl = .nil ∧ l = []) ∨ dl = .slice (l.map qD) sp) ∧ d = .agg [.lit (.int .i64 i), dl] := by
  obtain ⟨cs, rfl, hcz⟩ := okWide_struct Tryd.underlying39 hval
  rw [kcells_rs] at hcz
  obtain ⟨fuel, hf⟩ := h
  obtain ⟨xs, m, _, hx, hlen, hxl, hg⟩ := DataW.trod_struct Tryd.underlying39 hf
  obtain ⟨cs⟩ := cs
  match cs, hcz, xs, hxl with
  | [c0, c1], _, [y0, y1], _ =>
    have g0 := hg 0 _ rfl
    have g1 := hg 1 _ rfl
    simp [Value.cells, kcells_it, kcells_hs] at g0 g1
    obtain ⟨i, e0, z0, w0⟩ := DataW.trod_int Tryd.underlying3 g0
    obtain ⟨x, n, cap, l, sp, e1, h1, h2, h3, h4⟩ := open_qs g1
    cases e0; cases e1
    refine ⟨i, x, n, cap, l, sp, y1.1, rfl, bounds_i64 w0, h1, h2, h3, h4, ?_⟩
    simpa [z0] using congrArg (·.1) hx

/-- A request's texts and headers, where it is of a bulk. -/
theorem bulk_rq {b : Nat} {m s a q : ByteArray} {dl : DataW H} (hb : Rows.uptoBulk (DataW.agg (H := H) [.lit (.string m.data.toList), .lit (.string s.data.toList), .lit (.string a.data.toList), .lit (.string q.data.toList), dl]) ≤ b) : (m.size ≤ b ∧ s.size ≤ b ∧ a.size ≤ b ∧ q.size ≤ b) ∧ Rows.uptoBulk dl ≤ b := by
  simp only [Rows.uptoBulk, Rows.uptoBulkAll] at hb
  have e1 : m.data.toList.length = m.size := rfl
  have e2 : s.data.toList.length = s.size := rfl
  have e3 : a.data.toList.length = a.size := rfl
  have e4 : q.data.toList.length = q.size := rfl
  omega
theorem bulk_rs {b : Nat} {i : Int} {dl : DataW H} (hb : Rows.uptoBulk (DataW.agg (H := H) [.lit (.int .i64 i), dl]) ≤ b) : Rows.uptoBulk dl ≤ b := by
  simp only [Rows.uptoBulk, Rows.uptoBulkAll] at hb
  omega
end

theorem tens_data : (Rows.laid_internal_strconv_uint64pow10 : DataW Unit) = Lib.tabData .u64 Lib.pow10Tab := by kernel_rfl
theorem tens_of_laid {l : List (String × DataW Unit)} {W : World} (hL : laidMet Tryd.prog (("internal/strconv.uint64pow10", Rows.laid_internal_strconv_uint64pow10) :: l) W) : Tens W := by
  rw [tens_data] at hL
  exact Lib.tabIs_of_head (g := 4) (by kernel_rfl) (by kernel_rfl) Tryd.underlying139 Tryd.underlying126 (by kernel_rfl) (by kernel_rfl) hL
theorem back_of_laid {W : World} (hL : laidMet Tryd.prog [("math/bits.deBruijn32tab", Rows.laid_math_bits_deBruijn32tab), ("math/bits.deBruijn64tab", Rows.laid_math_bits_deBruijn64tab), ("internal/strconv.uint64pow10", Rows.laid_internal_strconv_uint64pow10), ("unicode/utf8.acceptRanges", Rows.laid_unicode_utf8_acceptRanges), ("parley/api.ErrHead", Rows.laid_parley_api_ErrHead), ("unicode/utf8.first", Rows.laid_unicode_utf8_first)] W) : ∃ p, EH W p ∧ Tens W := by
  obtain ⟨p, h⟩ := head_of_laid hL.tail.tail.tail.tail
  exact ⟨p, h, tens_of_laid hL.tail.tail⟩
end Go.Proofs.YtihlcecincijgaaDoor
