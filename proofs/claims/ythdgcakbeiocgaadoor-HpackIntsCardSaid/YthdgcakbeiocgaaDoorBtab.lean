/-
The block of a table that moves, known by its places; table.Size, mayBe, Len, Size, Most.
-/
import Derived.Test.YthdgcakbeiocgaaDoorGblk
import Derived.Test.YthdgcakbeiocgaaDoorGcells
import Derived.Test.YthdgcakbeiocgaaDoorBstat
namespace Go.Proofs.YthdgcakbeiocgaaDoor
open Go.RowKit

/-- What the cells of a table hold: the ring's headers by their places, the oldest one's place, how many, their bytes, the most. -/
def tbF (R : Nat → B.HD) (o n s m : Nat) (j : Nat) : Value :=
  if j < 384 then (if j % 3 = 0 then .string (R (j / 3)).1 else if j % 3 = 1 then .string (R (j / 3)).2 else .bool false)
  else if j = 384 then .int .i64 o else if j = 385 then .int .i64 n else if j = 386 then .int .i64 s else .int .i64 m
def Tb (w : World) (g : Nat) (R : Nat → B.HD) (o n s m : Nat) : Prop := Blk w g 388 (tbF R o n s m)

theorem Tb.o {w : World} {g : Nat} {R : Nat → B.HD} {o n s m : Nat} (h : Tb w g R o n s m) : w.cell? ⟨g, 384, none⟩ = some (.int .i64 o) ∧ w.frozen? ⟨g, 384, none⟩ = false := h 384 (by omega)
theorem Tb.n {w : World} {g : Nat} {R : Nat → B.HD} {o n s m : Nat} (h : Tb w g R o n s m) : w.cell? ⟨g, 385, none⟩ = some (.int .i64 n) ∧ w.frozen? ⟨g, 385, none⟩ = false := h 385 (by omega)
theorem Tb.s {w : World} {g : Nat} {R : Nat → B.HD} {o n s m : Nat} (h : Tb w g R o n s m) : w.cell? ⟨g, 386, none⟩ = some (.int .i64 s) ∧ w.frozen? ⟨g, 386, none⟩ = false := h 386 (by omega)
theorem Tb.m {w : World} {g : Nat} {R : Nat → B.HD} {o n s m : Nat} (h : Tb w g R o n s m) : w.cell? ⟨g, 387, none⟩ = some (.int .i64 m) ∧ w.frozen? ⟨g, 387, none⟩ = false := h 387 (by omega)
theorem tbF_0 (R : Nat → B.HD) (o n s m q : Nat) (hq : q < 128) : tbF R o n s m (q * 3) = .string (R q).1 := by
  unfold tbF
  rw [if_pos (by omega), if_pos (by omega), show q * 3 / 3 = q by omega]
theorem tbF_1 (R : Nat → B.HD) (o n s m q : Nat) (hq : q < 128) : tbF R o n s m (q * 3 + 1) = .string (R q).2 := by
  unfold tbF
  rw [if_pos (by omega), if_neg (by omega), if_pos (by omega), show (q * 3 + 1) / 3 = q by omega]
theorem tbF_2 (R : Nat → B.HD) (o n s m q : Nat) (hq : q < 128) : tbF R o n s m (q * 3 + 2) = .bool false := by
  unfold tbF
  rw [if_pos (by omega), if_neg (by omega), if_neg (by omega)]
theorem Tb.at {w : World} {g : Nat} {R : Nat → B.HD} {o n s m : Nat} (h : Tb w g R o n s m) (q : Nat) (hq : q < 128) :
    (w.cell? ⟨g, q * 3, none⟩ = some (.string (R q).1) ∧ w.cell? ⟨g, q * 3 + 1, none⟩ = some (.string (R q).2) ∧ w.cell? ⟨g, q * 3 + 2, none⟩ = some (.bool false)) ∧
    w.frozen? ⟨g, q * 3, none⟩ = false ∧ w.frozen? ⟨g, q * 3 + 1, none⟩ = false ∧ w.frozen? ⟨g, q * 3 + 2, none⟩ = false := by
  have h0 := h (q * 3) (by omega)
  have h1 := h (q * 3 + 1) (by omega)
  have h2 := h (q * 3 + 2) (by omega)
  rw [tbF_0 R o n s m q hq] at h0
  rw [tbF_1 R o n s m q hq] at h1
  rw [tbF_2 R o n s m q hq] at h2
  exact ⟨⟨h0.1, h1.1, h2.1⟩, h0.2, h1.2, h2.2⟩

theorem Tb.seto {w : World} {g : Nat} {R : Nat → B.HD} {o n s m : Nat} (h : Tb w g R o n s m) (v : Nat) : Tb (w.setCell ⟨g, 384, none⟩ (.int .i64 (v : Nat))) g R v n s m :=
  (Blk.set h (by omega) _).ext fun j _ => by
    by_cases e : j = 384
    · subst e; rfl
    · rw [if_neg e]; unfold tbF; simp only [if_neg e]
theorem Tb.setn {w : World} {g : Nat} {R : Nat → B.HD} {o n s m : Nat} (h : Tb w g R o n s m) (v : Nat) : Tb (w.setCell ⟨g, 385, none⟩ (.int .i64 (v : Nat))) g R o v s m :=
  (Blk.set h (by omega) _).ext fun j _ => by
    by_cases e : j = 385
    · subst e; rfl
    · rw [if_neg e]; unfold tbF; simp only [if_neg e]
theorem Tb.sets {w : World} {g : Nat} {R : Nat → B.HD} {o n s m : Nat} (h : Tb w g R o n s m) (v : Nat) : Tb (w.setCell ⟨g, 386, none⟩ (.int .i64 (v : Nat))) g R o n v m :=
  (Blk.set h (by omega) _).ext fun j _ => by
    by_cases e : j = 386
    · subst e; rfl
    · rw [if_neg e]; unfold tbF; simp only [if_neg e]
theorem Tb.setm {w : World} {g : Nat} {R : Nat → B.HD} {o n s m : Nat} (h : Tb w g R o n s m) (v : Nat) : Tb (w.setCell ⟨g, 387, none⟩ (.int .i64 (v : Nat))) g R o n s v :=
  (Blk.set h (by omega) _).ext fun j hj => by
    by_cases e : j = 387
    · subst e; rfl
    · rw [if_neg e]; unfold tbF
      by_cases e1 : j < 384
      · simp only [if_pos e1]
      · simp only [if_neg e1]
        by_cases e2 : j = 384
        · simp only [if_pos e2]
        · simp only [if_neg e2]
          by_cases e3 : j = 385
          · simp only [if_pos e3]
          · simp only [if_neg e3]
            rw [if_pos (by omega), if_pos (by omega)]
theorem Tb.setr {w : World} {g : Nat} {R : Nat → B.HD} {o n s m : Nat} (h : Tb w g R o n s m) (q : Nat) (hq : q < 128) (x : B.HD) :
    Tb (((w.setCell ⟨g, q * 3, none⟩ (.string x.1)).setCell ⟨g, q * 3 + 1, none⟩ (.string x.2)).setCell ⟨g, q * 3 + 2, none⟩ (.bool false)) g (fun i => if i = q then x else R i) o n s m :=
  (((Blk.set h (by omega) _).set (by omega) _).set (by omega) _).ext fun j hj => by
    unfold tbF
    by_cases e1 : j < 384
    · simp only [if_pos e1]
      by_cases e : j / 3 = q
      · have hm : j = q * 3 ∨ j = q * 3 + 1 ∨ j = q * 3 + 2 := by omega
        simp only [if_pos e]
        rcases hm with e2 | e2 | e2
        · rw [if_neg (by omega), if_neg (by omega), if_pos e2, if_pos (by omega)]
        · rw [if_neg (by omega), if_pos e2, if_neg (by omega), if_pos (by omega)]
        · rw [if_pos e2, if_neg (by omega), if_neg (by omega)]
      · simp only [if_neg e]
        rw [if_neg (by omega), if_neg (by omega), if_neg (by omega)]
    · simp only [if_neg e1]
      rw [if_neg (by omega), if_neg (by omega), if_neg (by omega)]

/-- A table: its headers, the oldest first, lie in the ring from place o on. -/
def Ring (R : Nat → B.HD) (o : Nat) (L : List B.HD) : Prop :=
  o < 128 ∧ L.length ≤ 128 ∧ ∀ j, j < L.length → R ((o + j) % 128) = L.getD j (⟨#[]⟩, ⟨#[]⟩)
def Tab (w : World) (g : Nat) (L : List B.HD) (m : Nat) : Prop :=
  ∃ R o, Ring R o L ∧ Tb w g R o L.length (B.tot L) m ∧ B.tot L ≤ m ∧ m ≤ 4096

/-- .. whose most may just have been made less. -/
def Tab0 (w : World) (g : Nat) (L : List B.HD) (m : Nat) : Prop :=
  ∃ R o, Ring R o L ∧ Tb w g R o L.length (B.tot L) m ∧ B.tot L ≤ 4096 ∧ m ≤ 4096
theorem Tab.zero {w : World} {g : Nat} {L : List B.HD} {m : Nat} (h : Tab w g L m) : Tab0 w g L m := by
  obtain ⟨R, o, h1, h2, h3, h4⟩ := h
  exact ⟨R, o, h1, h2, by omega, h4⟩
theorem Tab0.tab {w : World} {g : Nat} {L : List B.HD} {m : Nat} (h : Tab0 w g L m) (hm : B.tot L ≤ m) : Tab w g L m := by
  obtain ⟨R, o, h1, h2, h3, h4⟩ := h
  exact ⟨R, o, h1, h2, hm, h4⟩
theorem Tab0.lt {w : World} {g : Nat} {L : List B.HD} {m : Nat} (h : Tab0 w g L m) : g < w.heap.size := by
  obtain ⟨R, o, h1, h2, h3⟩ := h
  exact Blk.lt h2 (by omega)

theorem Tab.below {w w' : World} {g : Nat} {L : List B.HD} {m : Nat} (h : Tab w g L m) (hb : Below w.heap.size w w') : Tab w' g L m := by
  obtain ⟨R, o, h1, h2, h3⟩ := h
  exact ⟨R, o, h1, Blk.below h2 hb, h3⟩
theorem Tab.belowB {K : Nat} {w w' : World} {g : Nat} {L : List B.HD} {m : Nat} (h : Tab w g L m) (hb : Below K w w') (hg : g < K) : Tab w' g L m := by
  obtain ⟨R, o, h1, h2, h3⟩ := h
  exact ⟨R, o, h1, Blk.belowB h2 hb hg, h3⟩
theorem Tab.lt {w : World} {g : Nat} {L : List B.HD} {m : Nat} (h : Tab w g L m) : g < w.heap.size := by
  obtain ⟨R, o, h1, h2, h3⟩ := h
  exact Blk.lt h2 (by omega)
theorem Tab.le {w : World} {g : Nat} {L : List B.HD} {m : Nat} (h : Tab w g L m) : L.length ≤ 128 ∧ B.tot L ≤ m ∧ m ≤ 4096 := by
  obtain ⟨R, o, h1, h2, h3⟩ := h
  exact ⟨h1.2.1, h3⟩

theorem size_any (n v : ByteArray) (b : Bool) (w : World) (hn : n.size ≤ 140737488355328) (hv : v.size ≤ 140737488355328) :
    Calls Tryd.prog 56 #[.agg #[.string n, .string v, .bool b]] w fun e w' => e = .returned (.int .i64 (B.sz (n, v) : Nat)) ∧ Below w.heap.size w w' := by
  go_enter Tryd.func56, Tryd.ntmps56
  go_wp2
  go_ret
  exact ⟨by unfold B.sz; congr 2, (Below.refl _ _).alloc (Nat.le_refl _) _⟩

theorem mayBe_any (m : Int) (w : World) : Calls Tryd.prog 71 #[.int .i64 m] w fun e w' => e = .returned (.bool (decide (0 ≤ m ∧ m ≤ 4096))) ∧ w = w' := by
  by_cases h : 0 ≤ m
  · go_enter Tryd.func71, Tryd.ntmps71
    go_wp2
    go_ret
    exact ⟨by simp [h], rfl⟩
  · have h1 : m < 0 := by omega
    go_enter Tryd.func71, Tryd.ntmps71
    go_wp2
    go_ret
    exact ⟨by simp; omega, rfl⟩

theorem len_any (w : World) (g : Nat) (n : Nat) (h : w.cell? ⟨g, 385, none⟩ = some (.int .i64 n)) : Calls Tryd.prog 60 #[.pointer (some ⟨g, 0, none⟩)] w fun e w' => e = .returned (.int .i64 n) ∧ w = w' := by
  go_enter Tryd.func60, Tryd.ntmps60
  go_wp2
  go_ret
  exact ⟨rfl, rfl⟩
theorem most_any (w : World) (g : Nat) (n : Nat) (h : w.cell? ⟨g, 387, none⟩ = some (.int .i64 n)) : Calls Tryd.prog 74 #[.pointer (some ⟨g, 0, none⟩)] w fun e w' => e = .returned (.int .i64 n) ∧ w = w' := by
  go_enter Tryd.func74, Tryd.ntmps74
  go_wp2
  go_ret
  exact ⟨rfl, rfl⟩
end Go.Proofs.YthdgcakbeiocgaaDoor
