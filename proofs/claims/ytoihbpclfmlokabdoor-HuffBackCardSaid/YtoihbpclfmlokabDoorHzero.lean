/-
The cells of a new book (the loader of a small program does not name them).
-/
import Derived.Test.YtoihbpclfmlokabDoorProg
import Derived.ProofKit
namespace Go.Proofs.YtoihbpclfmlokabDoor
/-- A new book's cells. -/
def zeroBook : Array Value := (List.replicate 257 (Value.int .u32 0) ++ List.replicate 257 (Value.int .u16 0) ++ List.replicate 32 (Value.int .i64 0) ++ List.replicate 32 (Value.int .u32 0)).toArray
@[simp] theorem zeroBook_run (w : World) : (zeroValue 46).run Tryd.prog w = .ok (.agg zeroBook) w := by kernel_rfl
@[simp] theorem zeroBook_size : zeroBook.size = 578 := by kernel_rfl
@[simp] theorem zeroBook_ne : zeroBook ≠ #[] := fun h => by
  have := congrArg Array.size h
  rw [zeroBook_size] at this
  cases this
end Go.Proofs.YtoihbpclfmlokabDoor
