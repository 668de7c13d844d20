/-
The walks of huff.Code and of the book's symbol.
-/
import Derived.Test.YtoihbpclfmlokaaDoorHenc
namespace Go.Proofs.YtoihbpclfmlokaaDoor
open Go.RowKit

theorem run_codes (cs : Array Value) (w : World) : (Instr.field 118 (.agg cs) 0).run Tryd.prog w = .ok (.agg (cs.extract 0 257)) w := by kernel_rfl
theorem run_at_code (cs : Array Value) (i : Nat) (v : Value) (hi : i < 257) (h : cs[i]? = some v) (w : World) : (Instr.index 112 (.agg cs) (.int .i64 i)).run Tryd.prog w = .ok v w := by
  have e1 : Tryd.prog.underlying 112 = some (.array 257 81) := by kernel_rfl
  have e2 : ∀ w, (sizeOf 81).run Tryd.prog w = .ok 1 w := fun _ => by kernel_rfl
  have e3 : ∀ w, (isAgg 81).run Tryd.prog w = .ok false w := fun _ => by kernel_rfl
  have e4 : (0 : Int) ≤ (i : Int) ∧ (i : Int) < 257 := by omega
  simp [Instr.index, asIntOf, part, run_underlying e1, e2, e3, Sem.run_bind, h]
  omega
set_option maxRecDepth 100000 in
set_option maxHeartbeats 1000000 in
theorem Code_yes (i : Nat) (w : World) (hi : i < 257) : Calls Tryd.prog 49 #[.int .i64 i] w fun e w' => e = .returned (.tuple #[.int .u32 (H.cod i), .bool true]) ∧ Below w.heap.size w w' := by
  have hf := run_codes bookL.toArray
  have hx := run_at_code (bookL.toArray.extract 0 257) i (.int .u32 (H.cod i)) hi (by
    rw [Array.getElem?_extract, List.getElem?_toArray]
    simp only [Nat.zero_add, Nat.sub_zero]
    rw [if_pos (by rw [List.size_toArray, bookL_len]; omega), bookL_get i (by omega), bkF_at_C _ _ _ _ i hi])
  generalize bookL.toArray.extract 0 257 = cs at *
  go_enter Tryd.func49, Tryd.ntmps49
  go_wp2_with (first | (go_at_call 76; refine (isSymbol_yes _ _ (by omega) (by omega)).mono ?_; rintro e w1 ⟨rfl, rfl⟩) | (go_at_call 78; refine (newBook_any _).mono ?_; rintro e w1 ⟨rfl, hb1⟩))
  go_ret2
  exact ⟨rfl, hb1⟩
theorem Code_no (n : Int) (w : World) (h : ¬ (0 ≤ n ∧ n < 257)) : Calls Tryd.prog 49 #[.int .i64 n] w fun e w' => e = .returned (.tuple #[.int .u32 0, .bool false]) ∧ w = w' := by
  go_enter Tryd.func49, Tryd.ntmps49
  go_wp2_with (go_at_call 76; refine (isSymbol_no _ _ h).mono ?_; rintro e w1 ⟨rfl, rfl⟩)
  go_ret2
  exact ⟨rfl, rfl⟩

/-- What the book's symbol hands back. -/
def symV : Option Nat → Value
  | none => .tuple #[.int .i64 0, .bool false]
  | some i => .tuple #[.int .i64 (i : Nat), .bool true]

set_option maxRecDepth 100000 in
theorem symbol_any (g c n : Nat) (w : World) (hB : Book w g) (hn : n ≤ 30) (h1 : H.first n ≤ c) (h2 : c < 4294967296) :
    Calls Tryd.prog 82 #[.pointer (some ⟨g, 0, none⟩), .int .u32 c, .int .i64 n] w fun e w' => e = .returned (symV (H.sym c n)) ∧ ∃ q, w' = w.drewN q := by
  have hst := H.st_le n (by omega)
  have a1 := (Bk.atS hB n (by omega)).1
  have a2 := (Bk.atF hB n (by omega)).1
  have a3 := (Bk.atS hB (n + 1) (by omega)).1
  have hle := H.st_le (n + 1) (by omega)
  by_cases hlt : H.st n + (c - H.first n) < H.st (n + 1)
  · have HS := Lib.hid (H.sym_ord h1 hlt)
    have a4 := (Bk.atO hB (H.st n + (c - H.first n)) (by omega)).1
    have ho : H.ord 257 (H.st n + (c - H.first n)) ≤ 257 := H.ord_le _ _
    generalize H.ord 257 (H.st n + (c - H.first n)) = i at *
    generalize H.st (n + 1) = t at *
    generalize H.st n = s at *
    generalize H.first n = f at *
    clear hB
    obtain ⟨d, hd⟩ : ∃ d, d = c - f := ⟨_, rfl⟩
    have e1 : (c : Int) - f = (d : Int) := by omega
    rw [← hd] at hlt a4 
    have HD := Lib.hid hd
    have hd2 : s + d < 257 := by omega
    clear hd
    have k0 : (0 : Int) ≤ (n : Int) := by omega
    have k1 : (n : Int) < 32 := by omega
    have k2 : IntKind.u32.wrap ((c : Int) - f) = (d : Int) := by rw [e1, IntKind.wrap_u32]; omega
    have k3 : IntKind.u32.wrap ((d : Int)) = (d : Int) := by rw [IntKind.wrap_u32]; omega
    have k4 : IntKind.i64.wrap ((s : Int) + d) = (s : Int) + d := by rw [IntKind.wrap_i64]; omega
    have k5 : ((s : Int) + d).toNat = s + d := by omega
    have k6 : (0 : Int) ≤ (s : Int) + d := by omega
    have k7 : (s : Int) + d < 257 := by omega
    clear e1
    go_enter Tryd.func82, Tryd.ntmps82
    go_upto_region 1 with (fail)
    go_quiet (fail)
    go_wp2
    go_ret2
    refine ⟨?_, _, rfl⟩
    rw [HS.out]
    rfl
  · have HS := Lib.hid (H.sym_ord_none h1 hlt)
    have hq : H.st n + (c - H.first n) < 10000000000 := by omega
    generalize H.st (n + 1) = t at *
    generalize H.st n = s at *
    generalize H.first n = f at *
    clear hB
    obtain ⟨d, hd⟩ : ∃ d, d = c - f := ⟨_, rfl⟩
    have e1 : (c : Int) - f = (d : Int) := by omega
    rw [← hd] at hlt hq
    have hd2 : d < 4294967296 := by omega
    clear hd
    have k0 : (0 : Int) ≤ (n : Int) := by omega
    have k1 : (n : Int) < 32 := by omega
    have k2 : IntKind.u32.wrap ((c : Int) - f) = (d : Int) := by rw [e1, IntKind.wrap_u32]; omega
    have k3 : IntKind.u32.wrap ((d : Int)) = (d : Int) := by rw [IntKind.wrap_u32]; omega
    have k4 : IntKind.i64.wrap ((s : Int) + d) = (s : Int) + d := by rw [IntKind.wrap_i64]; omega
    clear e1
    go_enter Tryd.func82, Tryd.ntmps82
    go_upto_region 1 with (fail)
    go_quiet (fail)
    go_wp2
    go_ret2
    refine ⟨?_, _, rfl⟩
    rw [HS.out]
    rfl
end Go.Proofs.YtoihbpclfmlokaaDoor
