/-
The walks of the book's symbol.
-/
import Derived.Test.YthdgcakbeiocgaaDoorHenc
namespace Go.Proofs.YthdgcakbeiocgaaDoor
open Go.RowKit

/-- What the book's symbol hands back. -/
def symV : Option Nat → Value
  | none => .tuple #[.int .i64 0, .bool false]
  | some i => .tuple #[.int .i64 (i : Nat), .bool true]

set_option maxRecDepth 100000 in
theorem symbol_any (g c n : Nat) (w : World) (hB : Book w g) (hn : n ≤ 30) (h1 : H.first n ≤ c) (h2 : c < 4294967296) :
    Calls Tryd.prog 69 #[.pointer (some ⟨g, 0, none⟩), .int .u32 c, .int .i64 n] w fun e w' => e = .returned (symV (H.sym c n)) ∧ ∃ q, w' = w.drewN q := by
  have hst := H.st_le n (by omega)
  have a1 := (Bk.atS hB n (by omega)).1
  have a2 := (Bk.atF hB n (by omega)).1
  have a3 := (Bk.atS hB (n + 1) (by omega)).1
  have hle := H.st_le (n + 1) (by omega)
  by_cases hlt : H.st n + (c - H.first n) < H.st (n + 1)
  · have HS := Lib.hid (H.sym_ord h1 hlt)
    have a4 := (Bk.atO hB (H.st n + (c - H.first n)) (by omega)).1
    have ho : H.ord 257 (H.st n + (c - H.first n)) ≤ 257 := H.ord_le _ _
    generalize H.ord 257 (H.st n + (c - H.first n)) = i at *
    generalize H.st (n + 1) = t at *
    generalize H.st n = s at *
    generalize H.first n = f at *
    clear hB
    obtain ⟨d, hd⟩ : ∃ d, d = c - f := ⟨_, rfl⟩
    have e1 : (c : Int) - f = (d : Int) := by omega
    rw [← hd] at hlt a4 
    have HD := Lib.hid hd
    have hd2 : s + d < 257 := by omega
    clear hd
    have k0 : (0 : Int) ≤ (n : Int) := by omega
    have k1 : (n : Int) < 32 := by omega
    have k2 : IntKind.u32.wrap ((c : Int) - f) = (d : Int) := by rw [e1, IntKind.wrap_u32]; omega
    have k3 : IntKind.u32.wrap ((d : Int)) = (d : Int) := by rw [IntKind.wrap_u32]; omega
    have k4 : IntKind.i64.wrap ((s : Int) + d) = (s : Int) + d := by rw [IntKind.wrap_i64]; omega
    have k5 : ((s : Int) + d).toNat = s + d := by omega
    have k6 : (0 : Int) ≤ (s : Int) + d := by omega
    have k7 : (s : Int) + d < 257 := by omega
    clear e1
    go_enter Tryd.func69, Tryd.ntmps69
    go_upto_region 1 with (fail)
    go_quiet (fail)
    go_wp2
    go_ret2
    refine ⟨?_, _, rfl⟩
    rw [HS.out]
    rfl
  · have HS := Lib.hid (H.sym_ord_none h1 hlt)
    have hq : H.st n + (c - H.first n) < 10000000000 := by omega
    generalize H.st (n + 1) = t at *
    generalize H.st n = s at *
    generalize H.first n = f at *
    clear hB
    obtain ⟨d, hd⟩ : ∃ d, d = c - f := ⟨_, rfl⟩
    have e1 : (c : Int) - f = (d : Int) := by omega
    rw [← hd] at hlt hq
    have hd2 : d < 4294967296 := by omega
    clear hd
    have k0 : (0 : Int) ≤ (n : Int) := by omega
    have k1 : (n : Int) < 32 := by omega
    have k2 : IntKind.u32.wrap ((c : Int) - f) = (d : Int) := by rw [e1, IntKind.wrap_u32]; omega
    have k3 : IntKind.u32.wrap ((d : Int)) = (d : Int) := by rw [IntKind.wrap_u32]; omega
    have k4 : IntKind.i64.wrap ((s : Int) + d) = (s : Int) + d := by rw [IntKind.wrap_i64]; omega
    clear e1
    go_enter Tryd.func69, Tryd.ntmps69
    go_upto_region 1 with (fail)
    go_quiet (fail)
    go_wp2
    go_ret2
    refine ⟨?_, _, rfl⟩
    rw [HS.out]
    rfl
end Go.Proofs.YthdgcakbeiocgaaDoor
