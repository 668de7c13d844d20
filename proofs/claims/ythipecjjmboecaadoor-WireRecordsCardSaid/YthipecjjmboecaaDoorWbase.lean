/-
What every walk of chapter 1 leans on besides: what the sentinels' variables hold, and that this stays where old memory stays.
-/
import Derived.Test.YthipecjjmboecaaDoorGbase
import Derived.Test.YthipecjjmboecaaDoorWmath
namespace Go.Proofs.YthipecjjmboecaaDoor
open Go.RowKit

/-- What the sentinels' variables hold. -/
structure Errs (w : World) (E : Nat → Addr) : Prop where
  long : w.cell? ⟨1, 0, none⟩ = some (.iface 124 (.pointer (some (E 1))))
  fin : w.cell? ⟨2, 0, none⟩ = some (.iface 124 (.pointer (some (E 2))))
  number : w.cell? ⟨6, 0, none⟩ = some (.iface 124 (.pointer (some (E 6))))
  tag : w.cell? ⟨3, 0, none⟩ = some (.iface 124 (.pointer (some (E 3))))
  group : w.cell? ⟨5, 0, none⟩ = some (.iface 124 (.pointer (some (E 5))))
  deep : w.cell? ⟨4, 0, none⟩ = some (.iface 124 (.pointer (some (E 4))))

theorem Errs.of_cells {w w' : World} {E : Nat → Addr} (h : Errs w E) (hw : ∀ p v, w.cell? p = some v → w'.cell? p = some v) : Errs w' E :=
  ⟨hw _ _ h.long, hw _ _ h.fin, hw _ _ h.number, hw _ _ h.tag, hw _ _ h.group, hw _ _ h.deep⟩
theorem Errs.below {w w' : World} {E : Nat → Addr} (h : Errs w E) (hb : Below w.heap.size w w') : Errs w' E := h.of_cells fun _ _ => cell_below hb
theorem Errs.drewN {w : World} {E : Nat → Addr} (h : Errs w E) (q : Nat) : Errs (w.drewN q) E := ⟨h.long, h.fin, h.number, h.tag, h.group, h.deep⟩

/-- An error by its place: 0 is none, k + 1 what variable k holds. -/
def er (E : Nat → Addr) : Nat → Value
  | 0 => .nilIface
  | k + 1 => .iface 124 (.pointer (some (E k)))

/-- The numbers that the walk makes of a byte of a number. -/
theorem or_step (X k : Nat) (c : Nat) (hk : k ≤ 9) (hX : X < 2 ^ (7 * k)) (hc : c < 256) (h9 : k = 9 → c ≤ 1) :
    bits .or .u64 (X : Int) (IntKind.u64.wrap (IntKind.u64.wrap (bits .and .u8 (c : Int) 127) * 2 ^ (7 * k))) = ((X + c % 128 * 2 ^ (7 * k) : Nat) : Int) := by
  have e1 : bits .and .u8 (c : Int) 127 = ((c % 128 : Nat) : Int) := by
    have h : bits .and .u8 (c : Int) 127 = (c : Int) % 128 := bits_mask .u8 8 (by decide) wraps_u8 7 (by decide) c (by omega) (by omega)
    rw [h]; simp
  have hlt := W.acc_lt9 hk hX (show c % 128 < 128 from by omega) (fun e => by have := h9 e; omega)
  have e2 : IntKind.u64.wrap ((c % 128 : Nat) : Int) = ((c % 128 : Nat) : Int) := by rw [IntKind.wrap_u64]; omega
  have e3 : ((c % 128 : Nat) : Int) * 2 ^ (7 * k) = ((c % 128 * 2 ^ (7 * k) : Nat) : Int) := by push_cast; rfl
  have e4 : IntKind.u64.wrap ((c % 128 * 2 ^ (7 * k) : Nat) : Int) = ((c % 128 * 2 ^ (7 * k) : Nat) : Int) := by rw [IntKind.wrap_u64]; omega
  rw [e1, e2, e3, e4, u64_or_nat X _ (by omega) (by omega)]
  congr 1
  rw [Nat.or_comm]
  have := Nat.two_pow_add_eq_or_of_lt hX (c % 128)
  rw [Nat.mul_comm (c % 128), ← this]
  omega

theorem or_step8 (X k : Nat) (c : Nat) (hk : k ≤ 7) (hX : X < 2 ^ (8 * k)) (hc : c < 256) :
    bits .or .u64 (X : Int) (IntKind.u64.wrap ((c : Int) * 2 ^ (8 * k))) = ((X + c * 2 ^ (8 * k) : Nat) : Int) := by
  have hlt : X + c * 2 ^ (8 * k) < 18446744073709551616 := by
    have h1 : (c + 1) * 2 ^ (8 * k) ≤ 256 * 2 ^ (8 * k) := Nat.mul_le_mul_right _ (by omega)
    rw [Nat.add_mul] at h1
    have h2 : 2 ^ (8 * k) ≤ 2 ^ 56 := Nat.pow_le_pow_right (by omega) (by omega)
    have e : (2 : Nat) ^ 56 = 72057594037927936 := by decide
    rw [e] at h2
    omega
  have e3 : (c : Int) * 2 ^ (8 * k) = ((c * 2 ^ (8 * k) : Nat) : Int) := by push_cast; rfl
  have e4 : IntKind.u64.wrap ((c * 2 ^ (8 * k) : Nat) : Int) = ((c * 2 ^ (8 * k) : Nat) : Int) := by rw [IntKind.wrap_u64]; omega
  rw [e3, e4, u64_or_nat X _ (by omega) (by omega)]
  congr 1
  rw [Nat.or_comm]
  have := Nat.two_pow_add_eq_or_of_lt hX c
  rw [Nat.mul_comm c, ← this]
  omega

end Go.Proofs.YthipecjjmboecaaDoor
