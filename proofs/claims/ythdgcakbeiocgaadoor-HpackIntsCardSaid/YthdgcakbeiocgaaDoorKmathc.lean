/-
The plain functions of chapter 4's decoder: what a block says, header by header, or its first fault.
-/
import Derived.Test.YthdgcakbeiocgaaDoorKmath
import Derived.Test.YthdgcakbeiocgaaDoorBsta
namespace Go.Proofs.YthdgcakbeiocgaaDoor
namespace P
open B (HD)

def rnum (b : Nat) (l : List Nat) : Except Nat (Nat × List Nat) := match get b l with
  | (n, k, none) => .ok (n, l.drop k)
  | (_, _, some e) => .error e
def rtxt (l : List Nat) : Except Nat (ByteArray × List Nat) := match getT l with
  | (t, k, none) => .ok (strOf t, l.drop k)
  | (_, _, some e) => .error e
/-- A header by name and value. -/
def named (L : List HD) (b : Nat) (l : List Nat) : Except Nat (HD × List Nat) :=
  match rnum b l with
  | .error e => .error e
  | .ok (i, l1) =>
    if 0 < i then
      if B.has L (i : Int) = true then
        match rtxt l1 with
        | .error e => .error e
        | .ok (v, l2) => .ok (((B.get L (i : Int)).1, v), l2)
      else .error 7
    else match rtxt l1 with
      | .error e => .error e
      | .ok (n, l2) => match rtxt l2 with
        | .error e => .error e
        | .ok (v, l3) => .ok ((n, v), l3)
/-- What a reader has: the table, its most, the headers told and their bytes. -/
structure St where
  L : List HD
  m : Nat
  A : List (HD × Bool)
  z : Nat
def tell (s : St) (h : HD × Bool) : Except Nat St := if 16384 < s.z + B.sz h.1 then .error 9 else .ok { s with A := s.A ++ [h], z := s.z + B.sz h.1 }
/-- One thing of a block. -/
def step (lim : Nat) (s : St) (l : List Nat) : Except Nat (St × List Nat) :=
  if 128 ≤ l.headD 0 then
    match rnum 7 l with
    | .error e => .error e
    | .ok (i, l1) => if B.has s.L (i : Int) = true then (match tell s (B.get s.L (i : Int), false) with | .error e => .error e | .ok s1 => .ok (s1, l1)) else .error 7
  else if 64 ≤ l.headD 0 then
    match named s.L 6 l with
    | .error e => .error e
    | .ok (h, l1) => match tell s (h, false) with | .error e => .error e | .ok s1 => .ok ({ s1 with L := B.add s.m s.L h }, l1)
  else if 32 ≤ l.headD 0 then
    if s.A ≠ [] then .error 8 else
    match rnum 5 l with
    | .error e => .error e
    | .ok (n, l1) => if lim < n then .error 8 else .ok ({ s with L := B.shr n s.L, m := n }, l1)
  else
    match named s.L 4 l with
    | .error e => .error e
    | .ok (h, l1) => match tell s (h, decide (16 ≤ l.headD 0)) with | .error e => .error e | .ok s1 => .ok (s1, l1)
/-- All of it. -/
def blk (lim : Nat) : Nat → St → List Nat → Except Nat St
  | _, s, [] => .ok s
  | 0, s, _ :: _ => .ok s
  | f + 1, s, c :: r => match step lim s (c :: r) with
    | .error e => .error e
    | .ok (s1, l1) => blk lim f s1 l1

theorem rnum_len {b : Nat} {l : List Nat} {v : Nat} {r : List Nat} (hb : b ≤ 8) (h : rnum b l = .ok (v, r)) : r.length < l.length ∧ v ≤ 2147483647 ∧ ∃ k, get b l = (v, k, none) ∧ r = l.drop k := by
  obtain ⟨n, k, e, hg⟩ : ∃ n k e, get b l = (n, k, e) := ⟨_, _, _, rfl⟩
  unfold rnum at h
  rw [hg] at h
  cases e with
  | some e => simp at h
  | none =>
    have hok := get_ok hb (l := l) (by rw [hg])
    rw [hg] at hok
    simp only [Except.ok.injEq, Prod.mk.injEq] at h
    obtain ⟨rfl, rfl⟩ := h
    simp only at hok
    rw [List.length_drop]
    exact ⟨by omega, hok.2.2, k, hg, rfl⟩
theorem rnum_err {b : Nat} {l : List Nat} {e : Nat} (h : rnum b l = .error e) : (get b l).2.2 = some e := by
  obtain ⟨n, k, e', hg⟩ : ∃ n k e, get b l = (n, k, e) := ⟨_, _, _, rfl⟩
  unfold rnum at h
  rw [hg] at h ⊢
  cases e' with
  | some e' => simp at h; simp [h]
  | none => simp at h
theorem rtxt_len {l : List Nat} {v : ByteArray} {r : List Nat} (h : rtxt l = .ok (v, r)) : r.length < l.length ∧ ∃ t k, getT l = (t, k, none) ∧ v = strOf t ∧ r = l.drop k := by
  obtain ⟨t, k, e, hg⟩ : ∃ t k e, getT l = (t, k, e) := ⟨_, _, _, rfl⟩
  unfold rtxt at h
  rw [hg] at h
  cases e with
  | some e => simp at h
  | none =>
    have hok := getT_ok (l := l) (by rw [hg])
    rw [hg] at hok
    simp only [Except.ok.injEq, Prod.mk.injEq] at h
    obtain ⟨rfl, rfl⟩ := h
    simp only at hok
    rw [List.length_drop]
    exact ⟨by omega, t, k, hg, rfl, rfl⟩
theorem rtxt_err {l : List Nat} {e : Nat} (h : rtxt l = .error e) : (getT l).2.2 = some e := by
  obtain ⟨n, k, e', hg⟩ : ∃ n k e, getT l = (n, k, e) := ⟨_, _, _, rfl⟩
  unfold rtxt at h
  rw [hg] at h ⊢
  cases e' with
  | some e' => simp at h; simp [h]
  | none => simp at h
end P
end Go.Proofs.YthdgcakbeiocgaaDoor
