/-
The plain functions of chapter 4's encoder: a header's bytes, a list's, the sizes ahead of a block; how long they are.
-/
import Derived.Test.YthdgcakbeiocgaaDoorKmath
import Derived.Test.YthdgcakbeiocgaaDoorBstat
namespace Go.Proofs.YthdgcakbeiocgaaDoor
namespace P
open B (HD)

/-- A header by name and value. -/
def nm (first b i : Nat) (h : HD) : List Nat := put first b i ++ ((if i = 0 then putT (by_ h.1) else []) ++ putT (by_ h.2))
/-- Where name and value stand, and whether both do. -/
def fd (L : List HD) (h : HD) : Nat × Bool := ((B.fnd h.1.toList h.2.toList 0 (B.allL L)).1.toNat, (B.fnd h.1.toList h.2.toList 0 (B.allL L)).2)
/-- A header's bytes, and the table behind it. -/
def one (m : Nat) (L : List HD) (x : HD × Bool) : List Nat × List HD :=
  if x.2 = true then (nm 16 4 (fd L x.1).1 x.1, L)
  else if (fd L x.1).2 = true then (put 128 7 (fd L x.1).1, L)
  else if m < B.sz x.1 then (nm 0 4 (fd L x.1).1 x.1, L)
  else (nm 64 6 (fd L x.1).1 x.1, B.add m L x.1)
/-- A list's. -/
def enc (m : Nat) : List HD → List (HD × Bool) → List Nat × List HD
  | L, [] => ([], L)
  | L, x :: t => ((one m L x).1 ++ (enc m (one m L x).2 t).1, (enc m (one m L x).2 t).2)
/-- The sizes ahead of a block. -/
def szs (asked : Bool) (least m : Nat) : List Nat := if asked = true then (if least < m then put 32 5 least else []) ++ put 32 5 m else []

theorem fnd_bd (n v : List UInt8) (K : Int) : ∀ (l : List (Int × HD)) (c : Int), (∀ p ∈ l, 0 ≤ p.1 ∧ p.1 ≤ K) → 0 ≤ c → c ≤ K → 0 ≤ (B.fnd n v c l).1 ∧ (B.fnd n v c l).1 ≤ K
  | [], c, _, h0, h1 => ⟨h0, h1⟩
  | (i, h) :: t, c, hl, h0, h1 => by
    have hi := hl (i, h) (by simp)
    have ht : ∀ p ∈ t, 0 ≤ p.1 ∧ p.1 ≤ K := fun p hp => hl p (by simp [hp])
    unfold B.fnd
    split
    · exact fnd_bd n v K t c ht h0 h1
    · split
      · exact hi
      · split
        · exact fnd_bd n v K t i ht hi.1 hi.2
        · exact fnd_bd n v K t c ht h0 h1
theorem num_bd : ∀ (l : List HD) (i : Nat), ∀ p ∈ B.num i l, (0 : Int) ≤ p.1 ∧ p.1 ≤ ((i + l.length : Nat) : Int)
  | [], _, p, h => by cases h
  | a :: l, i, p, h => by
    simp only [B.num, List.mem_cons] at h
    rcases h with rfl | h
    · simp only [List.length_cons]
      omega
    · have := num_bd l (i + 1) p h
      simp only [List.length_cons]
      omega
theorem fd_bd (L : List HD) (h : HD) (hL : L.length ≤ 128) : 0 ≤ (B.fnd h.1.toList h.2.toList 0 (B.allL L)).1 ∧ (B.fnd h.1.toList h.2.toList 0 (B.allL L)).1 ≤ 190 := by
  refine fnd_bd _ _ 190 _ 0 (fun p hp => ?_) (by omega) (by omega)
  unfold B.allL at hp
  rcases List.mem_append.1 hp with hp | hp
  · have := num_bd _ _ p hp
    rw [B.stL_len] at this
    omega
  · have := num_bd _ _ p hp
    rw [List.length_reverse] at this
    omega
theorem putT_len (s : List Nat) : (putT s).length ≤ s.length + 11 := by
  unfold putT
  split
  · have := (put_len 128 7 (H.sz s)).2
    rw [List.length_append, H.enc_len]
    omega
  · have := (put_len 0 7 s.length).2
    rw [List.length_append]
    omega
theorem nm_len (first b i : Nat) (h : HD) : (nm first b i h).length ≤ h.1.size + h.2.size + 33 := by
  have h1 := (put_len first b i).2
  have h2 := putT_len (by_ h.1)
  have h3 := putT_len (by_ h.2)
  rw [by_len] at h2 h3
  unfold nm
  rw [List.length_append, List.length_append]
  split
  · omega
  · simp only [List.length_nil]
    omega
theorem one_len (m : Nat) (L : List HD) (x : HD × Bool) : (one m L x).1.length ≤ x.1.1.size + x.1.2.size + 33 := by
  unfold one
  split
  · exact nm_len _ _ _ _
  · split
    · have := (put_len 128 7 (fd L x.1).1).2
      simp only
      omega
    · split
      · exact nm_len _ _ _ _
      · exact nm_len _ _ _ _
end P
end Go.Proofs.YthdgcakbeiocgaaDoor
