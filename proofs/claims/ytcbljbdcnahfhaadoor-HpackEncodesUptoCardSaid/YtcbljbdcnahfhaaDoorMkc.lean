/-
The plain functions of chapter 4's decoder: what a block says, header by header, or its first fault.
-/
import Derived.WalkLawsBesides
import Derived.OwnWalk
import Derived.Deep.RegionLaw
import Derived.Laws.OwnMore
import Derived.Laws.AppendOwnNone
import Derived.Deep.RegionWith
import Derived.Test.YtcbljbdcnahfhaaDoorMkm
import Derived.Test.YtcbljbdcnahfhaaDoorMbb
import Derived.Test.YtcbljbdcnahfhaaDoorMkb
/- Kmathc -/
namespace Go.Proofs.YtcbljbdcnahfhaaDoor
namespace P
open B (HD)

def rnum (b : Nat) (l : List Nat) : Except Nat (Nat × List Nat) := match get b l with
  | (n, k, none) => .ok (n, l.drop k)
  | (_, _, some e) => .error e
def rtxt (l : List Nat) : Except Nat (ByteArray × List Nat) := match getT l with
  | (t, k, none) => .ok (strOf t, l.drop k)
  | (_, _, some e) => .error e
/-- A header by name and value. -/
def named (L : List HD) (b : Nat) (l : List Nat) : Except Nat (HD × List Nat) :=
  match rnum b l with
  | .error e => .error e
  | .ok (i, l1) =>
    if 0 < i then
      if B.has L (i : Int) = true then
        match rtxt l1 with
        | .error e => .error e
        | .ok (v, l2) => .ok (((B.get L (i : Int)).1, v), l2)
      else .error 7
    else match rtxt l1 with
      | .error e => .error e
      | .ok (n, l2) => match rtxt l2 with
        | .error e => .error e
        | .ok (v, l3) => .ok ((n, v), l3)
/-- What a reader has: the table, its most, the headers told and their bytes. -/
structure St where
  L : List HD
  m : Nat
  A : List (HD × Bool)
  z : Nat
def tell (s : St) (h : HD × Bool) : Except Nat St := if 16384 < s.z + B.sz h.1 then .error 9 else .ok { s with A := s.A ++ [h], z := s.z + B.sz h.1 }
/-- One thing of a block. -/
def step (lim : Nat) (s : St) (l : List Nat) : Except Nat (St × List Nat) :=
  if 128 ≤ l.headD 0 then
    match rnum 7 l with
    | .error e => .error e
    | .ok (i, l1) => if B.has s.L (i : Int) = true then (match tell s (B.get s.L (i : Int), false) with | .error e => .error e | .ok s1 => .ok (s1, l1)) else .error 7
  else if 64 ≤ l.headD 0 then
    match named s.L 6 l with
    | .error e => .error e
    | .ok (h, l1) => match tell s (h, false) with | .error e => .error e | .ok s1 => .ok ({ s1 with L := B.add s.m s.L h }, l1)
  else if 32 ≤ l.headD 0 then
    if s.A ≠ [] then .error 8 else
    match rnum 5 l with
    | .error e => .error e
    | .ok (n, l1) => if lim < n then .error 8 else .ok ({ s with L := B.shr n s.L, m := n }, l1)
  else
    match named s.L 4 l with
    | .error e => .error e
    | .ok (h, l1) => match tell s (h, decide (16 ≤ l.headD 0)) with | .error e => .error e | .ok s1 => .ok (s1, l1)
/-- All of it. -/
def blk (lim : Nat) : Nat → St → List Nat → Except Nat St
  | _, s, [] => .ok s
  | 0, s, _ :: _ => .ok s
  | f + 1, s, c :: r => match step lim s (c :: r) with
    | .error e => .error e
    | .ok (s1, l1) => blk lim f s1 l1

theorem rnum_len {b : Nat} {l : List Nat} {v : Nat} {r : List Nat} (hb : b ≤ 8) (h : rnum b l = .ok (v, r)) : r.length < l.length ∧ v ≤ 2147483647 ∧ ∃ k, get b l = (v, k, none) ∧ r = l.drop k := by
  obtain ⟨n, k, e, hg⟩ : ∃ n k e, get b l = (n, k, e) := ⟨_, _, _, rfl⟩
  unfold rnum at h
  rw [hg] at h
  cases e with
  | some e => simp at h
  | none =>
    have hok := get_ok hb (l := l) (by rw [hg])
    rw [hg] at hok
    simp only [Except.ok.injEq, Prod.mk.injEq] at h
    obtain ⟨rfl, rfl⟩ := h
    simp only at hok
    rw [List.length_drop]
    exact ⟨by omega, hok.2.2, k, hg, rfl⟩
theorem rnum_err {b : Nat} {l : List Nat} {e : Nat} (h : rnum b l = .error e) : (get b l).2.2 = some e := by
  obtain ⟨n, k, e', hg⟩ : ∃ n k e, get b l = (n, k, e) := ⟨_, _, _, rfl⟩
  unfold rnum at h
  rw [hg] at h ⊢
  cases e' with
  | some e' => simp at h; simp [h]
  | none => simp at h
theorem rtxt_len {l : List Nat} {v : ByteArray} {r : List Nat} (h : rtxt l = .ok (v, r)) : r.length < l.length ∧ ∃ t k, getT l = (t, k, none) ∧ v = strOf t ∧ r = l.drop k := by
  obtain ⟨t, k, e, hg⟩ : ∃ t k e, getT l = (t, k, e) := ⟨_, _, _, rfl⟩
  unfold rtxt at h
  rw [hg] at h
  cases e with
  | some e => simp at h
  | none =>
    have hok := getT_ok (l := l) (by rw [hg])
    rw [hg] at hok
    simp only [Except.ok.injEq, Prod.mk.injEq] at h
    obtain ⟨rfl, rfl⟩ := h
    simp only at hok
    rw [List.length_drop]
    exact ⟨by omega, t, k, hg, rfl, rfl⟩
theorem rtxt_err {l : List Nat} {e : Nat} (h : rtxt l = .error e) : (getT l).2.2 = some e := by
  obtain ⟨n, k, e', hg⟩ : ∃ n k e, getT l = (n, k, e) := ⟨_, _, _, rfl⟩
  unfold rtxt at h
  rw [hg] at h ⊢
  cases e' with
  | some e' => simp at h; simp [h]
  | none => simp at h
end P
end Go.Proofs.YtcbljbdcnahfhaaDoor
/- Krd -/
namespace Go.Proofs.YtcbljbdcnahfhaaDoor
open Go.RowKit

/-- The way out by a fault: the i-th of the errors, in a panic. -/
def Pan (E : Nat → Addr) (i : Nat) : Ending := .panicked [{ v := .iface 102 (.agg #[eV E (eg i)]), recovered := false }]

theorem check_no (E : Nat → Addr) (i : Nat) (p : Value) (w : World) : Calls Tryd.prog 105 #[p, eV E (eg i)] w fun e w' => e = Pan E i ∧ w = w' := by
  unfold Pan eV
  generalize E (eg i) = p0
  go_enter Tryd.func105, Tryd.ntmps105
  go_wp2
  exact ⟨rfl, rfl, rfl⟩
theorem check_yes (p : Value) (w : World) : Calls Tryd.prog 105 #[p, .nilIface] w fun e w' => e = .returned (.tuple #[]) ∧ w = w' := by
  go_enter Tryd.func105, Tryd.ntmps105
  go_wp2
  go_end0
  exact ⟨rfl, rfl⟩

/-- A reader's cells. -/
structure RC (w : World) (rB g lim : Nat) (a : Option Addr) (n c : Nat) (lv : Value) (z : Nat) : Prop where
  c0 : w.cell? ⟨rB, 0, none⟩ = some (.slice a n c) ∧ w.frozen? ⟨rB, 0, none⟩ = false
  c1 : w.cell? ⟨rB, 1, none⟩ = some (.pointer (some ⟨g, 0, none⟩))
  c2 : w.cell? ⟨rB, 2, none⟩ = some (.int .i64 (lim : Nat))
  c3 : w.cell? ⟨rB, 3, none⟩ = some lv ∧ w.frozen? ⟨rB, 3, none⟩ = false
  c4 : w.cell? ⟨rB, 4, none⟩ = some (.int .i64 (z : Nat)) ∧ w.frozen? ⟨rB, 4, none⟩ = false
theorem RC.lt {w : World} {rB g lim : Nat} {a : Option Addr} {n c : Nat} {lv : Value} {z : Nat} (h : RC w rB g lim a n c lv z) : rB < w.heap.size := World.block_lt_of_cell? _ _ h.c1
theorem RC.block {w w' : World} {rB g lim : Nat} {a : Option Addr} {n c : Nat} {lv : Value} {z : Nat} (h : RC w rB g lim a n c lv z) (hb : w'.heap[rB]? = w.heap[rB]?) : RC w' rB g lim a n c lv z :=
  have kc : ∀ (o : Nat) (v : Value), w.cell? ⟨rB, o, none⟩ = some v → w'.cell? ⟨rB, o, none⟩ = some v := fun o _ hc => (World.cell?_of_block (a := ⟨rB, o, none⟩) hb).trans hc
  have kf : ∀ (o : Nat), w.frozen? ⟨rB, o, none⟩ = false → w'.frozen? ⟨rB, o, none⟩ = false := fun o hc => (World.frozen?_of_block (a := ⟨rB, o, none⟩) hb).trans hc
  ⟨⟨kc _ _ h.c0.1, kf _ h.c0.2⟩, kc _ _ h.c1, kc _ _ h.c2, ⟨kc _ _ h.c3.1, kf _ h.c3.2⟩, ⟨kc _ _ h.c4.1, kf _ h.c4.2⟩⟩
theorem RC.below {w w' : World} {rB g lim : Nat} {a : Option Addr} {n c : Nat} {lv : Value} {z : Nat} (h : RC w rB g lim a n c lv z) (hb : Below w.heap.size w w') : RC w' rB g lim a n c lv z := h.block (hb.block rB h.lt)
theorem RC.only {w w' : World} {rB g g' lim : Nat} {a : Option Addr} {n c : Nat} {lv : Value} {z : Nat} (h : RC w rB g lim a n c lv z) (ho : Only g' w w') (hne : rB ≠ g') : RC w' rB g lim a n c lv z := by
  have ho' : w.grownBy w' (some g') := ho
  exact h.block (ho'.block rB h.lt (fun e => hne (Option.some.inj e)))
theorem RC.rest {w : World} {rB g lim : Nat} {a : Option Addr} {n c : Nat} {lv : Value} {z : Nat} (h : RC w rB g lim a n c lv z) (a' : Option Addr) (n' c' : Nat) : RC (w.setCell ⟨rB, 0, none⟩ (.slice a' n' c')) rB g lim a' n' c' lv z :=
  have kc : ∀ (o : Nat) (v : Value), o ≠ 0 → w.cell? ⟨rB, o, none⟩ = some v → (w.setCell ⟨rB, 0, none⟩ (.slice a' n' c')).cell? ⟨rB, o, none⟩ = some v := fun o _ ho hc => (World.cell?_setCell_other _ _ _ _ (addr_ne (Ne.symm ho))).trans hc
  have kf : ∀ (o : Nat), w.frozen? ⟨rB, o, none⟩ = false → (w.setCell ⟨rB, 0, none⟩ (.slice a' n' c')).frozen? ⟨rB, o, none⟩ = false := fun o hc => by rw [World.frozen?_setCell]; exact hc
  ⟨⟨World.cell?_setCell_same _ _ _ h.c0.1, kf _ h.c0.2⟩, kc _ _ (by omega) h.c1, kc _ _ (by omega) h.c2, ⟨kc _ _ (by omega) h.c3.1, kf _ h.c3.2⟩, ⟨kc _ _ (by omega) h.c4.1, kf _ h.c4.2⟩⟩

set_option maxRecDepth 100000 in
theorem number_yes {B : Nat} (E : Nat → Addr) (b rB g lim : Nat) (a : Option Addr) (n c : Nat) (lv : Value) (z : Nat) (l : List Nat) (v k : Nat) (w : World) (hb1 : 1 ≤ b) (hb : b ≤ 8) (hC : RC w rB g lim a n c lv z) (hl : l.length = n) (hlen : n ≤ 140737488355328) (hr : Rd B w a l) (hE : ErrsAll w E kgs) (hg : P.get b l = (v, k, none)) :
    Calls Tryd.prog 103 #[.pointer (some ⟨rB, 0, none⟩), .int .i64 (b : Nat)] w fun e w' => e = .returned (.int .i64 (v : Nat)) ∧ RC w' rB g lim (cutA a c k) (n - k) (c - k) lv z ∧ Only rB w w' := by
  have hok := (P.get_ok (b := b) (l := l) hb (by rw [hg])).2.1
  rw [hg] at hok
  simp only at hok
  rw [hl] at hok
  have HI := Int_b b a n c l E w hb1 hb hl hlen hr hE
  rw [hg] at HI
  simp only [getV, oV] at HI
  have HI := Lib.hid HI
  have HC := Lib.hid hC
  have hrf := run_from a n c k hok
  obtain ⟨⟨c0, f0⟩, _, _, _, _⟩ := hC
  generalize cutA a c k = a2 at *
  clear hr hE hg hl
  go_enter Tryd.func103, Tryd.ntmps103
  go_wp2_with fail
  refine HI.out.mono ?_
  rintro e w1 ⟨rfl, q, rfl⟩
  go_wp2_with (go_at_call 105; refine (check_yes _ _).mono ?_; rintro e w2 ⟨rfl, rfl⟩)
  go_ret
  exact ⟨rfl, (HC.out.below (below_q (Below.refl _ _) q)).rest _ _ _, ((Only.refl rB w).drewN q).set _ _⟩

set_option maxRecDepth 100000 in
theorem number_no {B : Nat} (E : Nat → Addr) (b rB g lim : Nat) (a : Option Addr) (n c : Nat) (lv : Value) (z : Nat) (l : List Nat) (i : Nat) (w : World) (hb1 : 1 ≤ b) (hb : b ≤ 8) (hC : RC w rB g lim a n c lv z) (hl : l.length = n) (hlen : n ≤ 140737488355328) (hr : Rd B w a l) (hE : ErrsAll w E kgs) (hg : (P.get b l).2.2 = some i) :
    Calls Tryd.prog 103 #[.pointer (some ⟨rB, 0, none⟩), .int .i64 (b : Nat)] w fun e w' => e = Pan E i ∧ Below w.heap.size w w' := by
  obtain ⟨v, k, hgg⟩ : ∃ v k, P.get b l = (v, k, some i) := ⟨_, _, by rw [← hg]⟩
  have HI := Int_b b a n c l E w hb1 hb hl hlen hr hE
  rw [hgg] at HI
  simp only [getV, oV] at HI
  have HI := Lib.hid HI
  obtain ⟨⟨c0, f0⟩, _, _, _, _⟩ := hC
  have HK := Lib.hid (fun p w => check_no E i p w)
  generalize eV E (eg i) = ev at *
  clear hr hE hg hl hgg
  go_enter Tryd.func103, Tryd.ntmps103
  go_wp2_with fail
  refine HI.out.mono ?_
  rintro e w1 ⟨rfl, q, rfl⟩
  go_wp2_with fail
  refine (HK.out _ _).mono ?_
  rintro e w2 ⟨rfl, rfl⟩
  unfold Pan
  go_wp2
  exact ⟨rfl, rfl, below_q (Below.refl _ _) q⟩

set_option maxRecDepth 100000 in
theorem text_yes {B : Nat} (E : Nat → Addr) (rB g lim : Nat) (a : Option Addr) (n c : Nat) (lv : Value) (z : Nat) (l : List Nat) (t : List Nat) (k : Nat) (w : World) (hC : RC w rB g lim a n c lv z) (hl : l.length = n) (hcap : n ≤ c) (hlen : n ≤ 1000000000) (hr : Rd B w a l) (hE : ErrsAll w E kgs) (hg : P.getT l = (t, k, none)) :
    Calls Tryd.prog 111 #[.pointer (some ⟨rB, 0, none⟩)] w fun e w' => e = .returned (.string (strOf t)) ∧ RC w' rB g lim (cutA a c k) (n - k) (c - k) lv z ∧ Only rB w w' := by
  have hok := (P.getT_ok (l := l) (by rw [hg])).2
  rw [hg] at hok
  simp only at hok
  rw [hl] at hok
  have HI := Text_any a n c l E w hl hcap hlen hr hE
  rw [hg] at HI
  simp only [getTV, oV] at HI
  have HI := Lib.hid HI
  have HC := Lib.hid hC
  have hrf := run_from a n c k hok
  obtain ⟨⟨c0, f0⟩, _, _, _, _⟩ := hC
  generalize cutA a c k = a2 at *
  generalize strOf t = st at *
  clear hr hE hg hl
  go_enter Tryd.func111, Tryd.ntmps111
  go_wp2_with fail
  refine HI.out.mono ?_
  rintro e w1 ⟨rfl, hb⟩
  have HB := Lib.hid hb
  have HC1 := Lib.hid (HC.out.below hb)
  clear hb c0 f0
  obtain ⟨⟨c0, f0⟩, _, _, _, _⟩ := HC1.out
  go_wp2_with (go_at_call 105; refine (check_yes _ _).mono ?_; rintro e w2 ⟨rfl, rfl⟩)
  go_ret
  exact ⟨rfl, HC1.out.rest _ _ _, (Below.only HB.out).set _ _⟩

set_option maxRecDepth 100000 in
theorem text_no {B : Nat} (E : Nat → Addr) (rB g lim : Nat) (a : Option Addr) (n c : Nat) (lv : Value) (z : Nat) (l : List Nat) (i : Nat) (w : World) (hC : RC w rB g lim a n c lv z) (hl : l.length = n) (hcap : n ≤ c) (hlen : n ≤ 1000000000) (hr : Rd B w a l) (hE : ErrsAll w E kgs) (hg : (P.getT l).2.2 = some i) :
    Calls Tryd.prog 111 #[.pointer (some ⟨rB, 0, none⟩)] w fun e w' => e = Pan E i ∧ Below w.heap.size w w' := by
  obtain ⟨t, k, hgg⟩ : ∃ t k, P.getT l = (t, k, some i) := ⟨_, _, by rw [← hg]⟩
  have HI := Text_any a n c l E w hl hcap hlen hr hE
  rw [hgg] at HI
  simp only [getTV, oV] at HI
  have HI := Lib.hid HI
  obtain ⟨⟨c0, f0⟩, _, _, _, _⟩ := hC
  have HK := Lib.hid (fun p w => check_no E i p w)
  generalize eV E (eg i) = ev at *
  clear hr hE hg hl hgg
  go_enter Tryd.func111, Tryd.ntmps111
  go_wp2_with fail
  refine HI.out.mono ?_
  rintro e w1 ⟨rfl, hb⟩
  have HB := Lib.hid hb
  clear hb
  go_wp2_with fail
  refine (HK.out _ _).mono ?_
  rintro e w2 ⟨rfl, rfl⟩
  unfold Pan
  go_wp2
  exact ⟨rfl, rfl, HB.out⟩

set_option maxRecDepth 100000 in
theorem header_yes (rB g lim : Nat) (a : Option Addr) (n c : Nat) (lv : Value) (z : Nat) (L : List B.HD) (m i : Nat) (w : World) (hC : RC w rB g lim a n c lv z) (hT : Tab w g L m) (hi : i ≤ 2147483647) (hh : B.has L (i : Int) = true) :
    Calls Tryd.prog 102 #[.pointer (some ⟨rB, 0, none⟩), .int .i64 (i : Nat)] w fun e w' => e = .returned (.agg #[.string (B.get L i).1, .string (B.get L i).2, .bool false]) ∧ Below w.heap.size w w' := by
  have hb0 : Below w.heap.size w (w.alloc (.cells #[.string ⟨#[]⟩, .string ⟨#[]⟩, .bool false] 66)) := (Below.refl _ _).alloc (Nat.le_refl _) _
  have HG := get_any g L m i _ (by omega) (hT.below hb0)
  rw [hh] at HG
  have HG := Lib.hid HG
  have c1 := cell_below hb0 hC.c1
  generalize B.get L i = x at *
  obtain ⟨xn, xv⟩ := x
  have HB0 := Lib.hid hb0
  clear hC hT hh hb0
  go_enter Tryd.func102, Tryd.ntmps102
  go_wp2_with fail
  refine HG.out.mono ?_
  rintro e w1 ⟨rfl, hb⟩
  obtain ⟨⟨d0, d1, d2⟩, ⟨f0, f1, f2⟩, hz1⟩ := cells3 hb
  have HB := Lib.hid (below_over hb)
  clear hb HG
  simp only
  go_wp2
  refine bodyPost_ret (v := .agg #[.string xn, .string xv, .bool false]) (by simp [results, Tryd.results102, go_sem, d0, d1, d2, hz1]) rfl ⟨rfl, ?_⟩
  exact (((HB.out.setCell (Nat.le_refl _) _).setCell (Nat.le_refl _) _).setCell (Nat.le_refl _) _).alloc (by simp only [World.size_setCell]; omega) _

set_option maxRecDepth 100000 in
theorem header_no (E : Nat → Addr) (rB g lim : Nat) (a : Option Addr) (n c : Nat) (lv : Value) (z : Nat) (L : List B.HD) (m i : Nat) (w : World) (hC : RC w rB g lim a n c lv z) (hT : Tab w g L m) (hi : i ≤ 2147483647) (hE : ErrsAll w E kgs) (hh : B.has L (i : Int) = false) :
    Calls Tryd.prog 102 #[.pointer (some ⟨rB, 0, none⟩), .int .i64 (i : Nat)] w fun e w' => e = Pan E 7 ∧ Below w.heap.size w w' := by
  have hb0 : Below w.heap.size w (w.alloc (.cells #[.string ⟨#[]⟩, .string ⟨#[]⟩, .bool false] 66)) := (Below.refl _ _).alloc (Nat.le_refl _) _
  have HG := get_any g L m i _ (by omega) (hT.below hb0)
  rw [hh] at HG
  have HG := Lib.hid HG
  have c1 := cell_below hb0 hC.c1
  have h7 : w.cell? ⟨6, 0, none⟩ = some (eV E (eg 7)) := kgs_cell hE 7 (by decide)
  have h7 := cell_below hb0 h7
  generalize B.get L i = x at *
  obtain ⟨xn, xv⟩ := x
  have HB0 := Lib.hid hb0
  clear hC hT hh hb0 hE
  unfold Pan
  unfold eV at h7 ⊢
  generalize E (eg 7) = p0 at *
  go_enter Tryd.func102, Tryd.ntmps102
  go_wp2_with fail
  refine HG.out.mono ?_
  rintro e w1 ⟨rfl, hb⟩
  have h7 := cell_below hb h7
  have hz1 := World.block_lt_of_cell? _ _ h7
  simp only at hz1
  have HB := Lib.hid (below_over hb)
  have hz2 := HB.out.size
  clear hb HG
  simp only
  go_wp2
  exact ⟨rfl, rfl, HB.out.alloc hz2 _⟩
end Go.Proofs.YtcbljbdcnahfhaaDoor
/- Knamed -/
namespace Go.Proofs.YtcbljbdcnahfhaaDoor
open Go.RowKit

/-- What is left to be read, in a block below B that is not block g. -/
structure RdS (B g : Nat) (w : World) (a : Option Addr) (n c : Nat) (l : List Nat) : Prop where
  len : l.length = n
  cap : n ≤ c
  rd : Rd B w a l
  ng : ∀ ad, a = some ad → l ≠ [] → ad.block ≠ g
theorem RdS.cut {B g : Nat} {w : World} {a : Option Addr} {n c : Nat} {l : List Nat} (h : RdS B g w a n c l) {k : Nat} (hk : k ≤ n) : RdS B g w (cutA a c k) (n - k) (c - k) (l.drop k) :=
  ⟨by rw [List.length_drop, h.len], by have := h.cap; omega, h.rd.drop (by rw [h.len]; exact h.cap), fun ad e hne => by
    have hl : l ≠ [] := fun h => hne (by rw [h, List.drop_nil])
    unfold cutA at e
    split at e
    · exact h.ng ad e hl
    · cases a with
      | none => cases e
      | some ad' =>
        simp only [Option.map_some, Option.some.injEq] at e
        rw [← e]
        have := h.ng ad' rfl hl
        unfold Addr.add
        split <;> exact this⟩
theorem RdS.below {B g : Nat} {w w' : World} {a : Option Addr} {n c : Nat} {l : List Nat} (h : RdS B g w a n c l) (hb : Below w.heap.size w w') : RdS B g w' a n c l := ⟨h.len, h.cap, h.rd.below hb, h.ng⟩
theorem RdS.only {B g h : Nat} {w w' : World} {a : Option Addr} {n c : Nat} {l : List Nat} (x : RdS B g w a n c l) (ho : Only h w w') (hh : B ≤ h ∨ h = g) : RdS B g w' a n c l :=
  ⟨x.len, x.cap, ⟨x.rd.1, fun j hj => by
    obtain ⟨b, o, e, hb, hc⟩ := x.rd.2 j hj
    have hn := x.ng _ e (fun h => by rw [h] at hj; simp at hj)
    simp only at hn
    exact ⟨b, o, e, hb, ho.cell (by omega) hc⟩⟩, x.ng⟩

/-- The errors lie as they lay in world V. -/
def EK (V : World) (E : Nat → Addr) (w : World) : Prop := ErrsAll V E kgs ∧ ∀ k, k < V.heap.size → w.heap[k]? = V.heap[k]?
theorem EK.all {V w : World} {E : Nat → Addr} (h : EK V E w) : ErrsAll w E kgs := fun p hp => by
  obtain ⟨h1, s, c, t, h2, h3, h4⟩ := h.1 p hp
  exact ⟨(World.cell?_of_block (h.2 _ (World.block_lt_of_cell? _ _ h1))).trans h1, s, c, t, (World.cell?_of_block (h.2 _ (World.block_lt_of_cell? _ _ h2))).trans h2, h3, (h.2 _ (World.block_lt_of_cell? _ _ h2)).trans h4⟩
theorem EK.only {V w w' : World} {E : Nat → Addr} {g : Nat} (h : EK V E w) (ho : Only g w w') (hg : V.heap.size ≤ g) (hw : V.heap.size ≤ w.heap.size) : EK V E w' :=
  ⟨h.1, fun k hk => by
    have ho' : w.grownBy w' (some g) := ho
    exact (ho'.block k (by omega) (fun e => by cases e; omega)).trans (h.2 k hk)⟩
theorem EK.below {V w w' : World} {E : Nat → Addr} (h : EK V E w) (hb : Below w.heap.size w w') (hw : V.heap.size ≤ w.heap.size) : EK V E w' :=
  ⟨h.1, fun k hk => (hb.block k (by omega)).trans (h.2 k hk)⟩

theorem Tab.onlyR {w w' : World} {g h : Nat} {L : List B.HD} {m : Nat} (x : Tab w g L m) (ho : Only h w w') (hne : g ≠ h) : Tab w' g L m := by
  obtain ⟨R, o, h1, h2, h3⟩ := x
  have ho' : w.grownBy w' (some h) := ho
  exact ⟨R, o, h1, fun j hj => ⟨ho.cell hne (h2 j hj).1, (World.frozen?_of_block (a := ⟨g, j, none⟩) (ho'.block g (World.block_lt_of_cell? _ _ (h2 j hj).1) (fun e => hne (Option.some.inj e)))).trans (h2 j hj).2⟩, h3⟩
theorem HBox.frozen {w : World} {g : Nat} {n v : ByteArray} {b : Bool} (h : HBox w g n v b) (j : Nat) : w.frozen? ⟨g, j, none⟩ = false := by
  unfold HBox at h
  simp [World.frozen?, h]
/-- A header's variable, cell by cell. -/
structure HC3 (w : World) (g : Nat) (n v : ByteArray) (b : Bool) : Prop where
  x0 : w.cell? ⟨g, 0, none⟩ = some (.string n) ∧ w.frozen? ⟨g, 0, none⟩ = false
  x1 : w.cell? ⟨g, 1, none⟩ = some (.string v) ∧ w.frozen? ⟨g, 1, none⟩ = false
  x2 : w.cell? ⟨g, 2, none⟩ = some (.bool b) ∧ w.frozen? ⟨g, 2, none⟩ = false
theorem HBox.c3 {w : World} {g : Nat} {n v : ByteArray} {b : Bool} (h : HBox w g n v b) : HC3 w g n v b := ⟨⟨h.cells.1, h.frozen 0⟩, ⟨h.cells.2.1, h.frozen 1⟩, ⟨h.cells.2.2, h.frozen 2⟩⟩
theorem HC3.lt {w : World} {g : Nat} {n v : ByteArray} {b : Bool} (h : HC3 w g n v b) : g < w.heap.size := World.block_lt_of_cell? _ _ h.x0.1
theorem HC3.block {w w' : World} {g : Nat} {n v : ByteArray} {b : Bool} (h : HC3 w g n v b) (hb : w'.heap[g]? = w.heap[g]?) : HC3 w' g n v b :=
  have k : ∀ (o : Nat) (u : Value), w.cell? ⟨g, o, none⟩ = some u ∧ w.frozen? ⟨g, o, none⟩ = false → w'.cell? ⟨g, o, none⟩ = some u ∧ w'.frozen? ⟨g, o, none⟩ = false := fun o _ h =>
    ⟨(World.cell?_of_block (a := ⟨g, o, none⟩) hb).trans h.1, (World.frozen?_of_block (a := ⟨g, o, none⟩) hb).trans h.2⟩
  ⟨k _ _ h.x0, k _ _ h.x1, k _ _ h.x2⟩
theorem HC3.only {w w' : World} {g h : Nat} {n v : ByteArray} {b : Bool} (x : HC3 w g n v b) (ho : Only h w w') (hne : g ≠ h) : HC3 w' g n v b := by
  have ho' : w.grownBy w' (some h) := ho
  exact x.block (ho'.block g x.lt (fun e => hne (Option.some.inj e)))
theorem HC3.below {w w' : World} {g : Nat} {n v : ByteArray} {b : Bool} (x : HC3 w g n v b) (hb : Below w.heap.size w w') : HC3 w' g n v b := x.block (hb.block g x.lt)
theorem cell_sib {w : World} {b i j : Nat} {v u : Value} (h : i ≠ j) (hc : w.cell? ⟨b, j, none⟩ = some u ∧ w.frozen? ⟨b, j, none⟩ = false) : (w.setCell ⟨b, i, none⟩ v).cell? ⟨b, j, none⟩ = some u ∧ (w.setCell ⟨b, i, none⟩ v).frozen? ⟨b, j, none⟩ = false :=
  ⟨(World.cell?_setCell_other _ _ _ _ (addr_ne h)).trans hc.1, by rw [World.frozen?_setCell]; exact hc.2⟩
theorem cell_own {w : World} {b i : Nat} {v u : Value} (hc : w.cell? ⟨b, i, none⟩ = some u ∧ w.frozen? ⟨b, i, none⟩ = false) : (w.setCell ⟨b, i, none⟩ v).cell? ⟨b, i, none⟩ = some v ∧ (w.setCell ⟨b, i, none⟩ v).frozen? ⟨b, i, none⟩ = false :=
  ⟨World.cell?_setCell_same _ _ _ hc.1, by rw [World.frozen?_setCell]; exact hc.2⟩
theorem HC3.set0 {w : World} {g : Nat} {n v : ByteArray} {b : Bool} (h : HC3 w g n v b) (n' : ByteArray) : HC3 (w.setCell ⟨g, 0, none⟩ (.string n')) g n' v b := ⟨cell_own h.x0, cell_sib (by omega) h.x1, cell_sib (by omega) h.x2⟩
theorem HC3.set1 {w : World} {g : Nat} {n v : ByteArray} {b : Bool} (h : HC3 w g n v b) (v' : ByteArray) : HC3 (w.setCell ⟨g, 1, none⟩ (.string v')) g n v' b := ⟨cell_sib (by omega) h.x0, cell_own h.x1, cell_sib (by omega) h.x2⟩
theorem HC3.set2 {w : World} {g : Nat} {n v : ByteArray} {b : Bool} (h : HC3 w g n v b) (b' : Bool) : HC3 (w.setCell ⟨g, 2, none⟩ (.bool b')) g n v b' := ⟨cell_sib (by omega) h.x0, cell_sib (by omega) h.x1, cell_own h.x2⟩

/-- What named hands back, or the fault. -/
def NamedPost (Kb : Nat) (E : Nat → Addr) (rB g lim : Nat) (lv : Value) (z : Nat) (r : Except Nat (B.HD × List Nat)) (w : World) (e : Ending) (w' : World) : Prop :=
  Only rB w w' ∧ match r with
  | .error i => e = Pan E i
  | .ok (h, l') => e = .returned (.agg #[.string h.1, .string h.2, .bool false]) ∧ ∃ a' n' c', RC w' rB g lim a' n' c' lv z ∧ RdS Kb g w' a' n' c' l'

set_option maxRecDepth 100000 in
set_option maxHeartbeats 2000000 in
theorem named_any {Kb : Nat} (V : World) (E : Nat → Addr) (b rB g lim : Nat) (a : Option Addr) (n c : Nat) (lv : Value) (z : Nat) (l : List Nat) (L : List B.HD) (m : Nat) (w : World) (hb1 : 1 ≤ b) (hb : b ≤ 8) (hC : RC w rB g lim a n c lv z) (hR : RdS Kb g w a n c l) (hlen : n ≤ 1000000000) (hE : EK V E w) (hT : Tab w g L m)
    (hBr : Kb ≤ rB) (hVr : V.heap.size ≤ rB) (hne : rB ≠ g) :
    Calls Tryd.prog 104 #[.pointer (some ⟨rB, 0, none⟩), .int .i64 (b : Nat)] w (NamedPost Kb E rB g lim lv z (P.named L b l) w) := by
  have hrB := hC.lt
  obtain ⟨wa, hwa⟩ : ∃ wa, wa = w.alloc (.cells #[.string ⟨#[]⟩, .string ⟨#[]⟩, .bool false] 66) := ⟨_, rfl⟩
  have hza : wa.heap.size = w.heap.size + 1 := by rw [hwa]; simp
  have hba : Below w.heap.size w wa := by rw [hwa]; exact (Below.refl _ _).alloc (Nat.le_refl _) _
  have hxa : HBox wa w.heap.size ⟨#[]⟩ ⟨#[]⟩ false := by rw [hwa]; exact HBox.new _ _ _ _
  obtain ⟨w0, hw0⟩ : ∃ w0, w0 = wa.alloc (.cells #[.string ⟨#[]⟩, .string ⟨#[]⟩, .bool false] 66) := ⟨_, rfl⟩
  have hbb : Below wa.heap.size wa w0 := by rw [hw0]; exact (Below.refl _ _).alloc (Nat.le_refl _) _
  have hz0 : w0.heap.size = w.heap.size + 2 := by rw [hw0]; simp; omega
  have hxb : HBox w0 (w.heap.size + 1) ⟨#[]⟩ ⟨#[]⟩ false := by rw [hw0, ← hza]; exact HBox.new _ _ _ _
  replace hxa : HBox w0 w.heap.size ⟨#[]⟩ ⟨#[]⟩ false := hxa.noB (NoB.below hbb)
  have hb0 : Below w.heap.size w w0 := hba.trans (hbb.mono (by omega))
  have HC := Lib.hid (hC.below hb0)
  have HR := Lib.hid (hR.below hb0)
  have HE := Lib.hid (hE.below hb0 (by omega))
  have HT := Lib.hid (hT.below hb0)
  have HXa := Lib.hid hxa
  have HXb := Lib.hid hxb
  have HO0 : Hid (Only rB w w0) := Below.only hb0
  have hz02 : w.heap.size + 2 ≤ w0.heap.size := by omega
  clear hC hR hE hT hxa hxb hb0 hba hbb hz0
  have hfd : ∀ (n v : ByteArray) (b : Bool) (w : World), (Instr.field 66 (.agg #[.string n, .string v, .bool b]) 0).run Tryd.prog w = .ok (.string n) w := fun _ _ _ _ => by kernel_rfl
  go_enter Tryd.func104, Tryd.ntmps104
  cases hrn : P.rnum b l with
  | error i =>
    have HP : Hid (P.named L b l = .error i) := by show _ = _; unfold P.named; rw [hrn]
    go_wp2_with fail
    rw [← hwa, ← hw0]
    refine (number_no (B := Kb) E b rB g lim a n c lv z l i w0 hb1 hb HC.out HR.out.len (by omega) HR.out.rd HE.out.all (P.rnum_err hrn)).mono ?_
    rintro e w1 ⟨rfl, hb1'⟩
    unfold Pan
    go_wp2
    refine ⟨rfl, HO0.out.below hb1', ?_⟩
    rw [HP.out]
    rfl
  | ok p =>
    obtain ⟨i, l1⟩ := p
    obtain ⟨hl1, hi, k, hg, rfl⟩ := P.rnum_len hb hrn
    have hkn : k ≤ n := by
      have := (P.get_ok (b := b) (l := l) hb (by rw [hg])).2.1
      rw [hg, HR.out.len] at this
      exact this
    go_wp2_with fail
    rw [← hwa, ← hw0]
    clear hwa hw0
    refine (number_yes (B := Kb) E b rB g lim a n c lv z l i k w0 hb1 hb HC.out HR.out.len (by omega) HR.out.rd HE.out.all hg).mono ?_
    rintro e w1 ⟨rfl, hc1, ho1⟩
    have HC1 := Lib.hid hc1
    have HR1 := Lib.hid ((HR.out.only ho1 (Or.inl hBr)).cut hkn)
    have HE1 := Lib.hid (HE.out.only ho1 hVr (by omega))
    have HXa1 := Lib.hid (HXa.out.only ho1 (by omega))
    have HXb1 := Lib.hid (HXb.out.only ho1 (by omega))
    have HO1 := Lib.hid (HO0.out.trans ho1)
    have hz1 := ho1.size
    have HT1 := Lib.hid (HT.out.onlyR ho1 (fun e => hne e.symm))
    have HA1 := Lib.hid HXa1.out.c3
    have HB1 := Lib.hid HXb1.out.c3
    clear hc1 ho1 HC HR HE HXa HXb HO0
    have hlen1 : n - k ≤ 1000000000 := by omega
    by_cases hi0 : 0 < i
    · have q1 : (0 : Int) < (i : Int) := by omega
      cases hh : B.has L (i : Int) with
      | false =>
        have HP : Hid (P.named L b l = .error 7) := by show _ = _; unfold P.named; rw [hrn]; simp only; rw [if_pos hi0, if_neg (by rw [hh]; simp)]
        go_wp2_with fail
        refine (header_no E rB g lim _ _ _ lv z L m i w1 HC1.out HT1.out hi HE1.out.all hh).mono ?_
        rintro e w2 ⟨rfl, hb2⟩
        unfold Pan
        go_wp2
        refine ⟨rfl, HO1.out.below hb2, ?_⟩
        rw [HP.out]
        rfl
      | true =>
      go_wp2_with fail
      refine (header_yes rB g lim _ _ _ lv z L m i w1 HC1.out HT1.out hi hh).mono ?_
      rintro e w2 ⟨rfl, hb2⟩
      have HC2 := Lib.hid (HC1.out.below hb2)
      have HR2 := Lib.hid (HR1.out.below hb2)
      have HE2 := Lib.hid (HE1.out.below hb2 (by omega))
      have HA2 := Lib.hid (HA1.out.below hb2)
      have HB2 := Lib.hid (HB1.out.below hb2)
      have HO2 := Lib.hid (HO1.out.below hb2)
      have hz2 := hb2.size
      clear hb2 HC1 HR1 HE1 HA1 HB1 HO1 HXa1 HXb1
      obtain ⟨gx, hgx⟩ : ∃ gx, gx = B.get L (i : Int) := ⟨_, rfl⟩
      rw [← hgx]
      obtain ⟨gn, gv⟩ := gx
      simp only
      -- the value
      have HCx := Lib.hid (HC2.out.only ((Only.refl (w.heap.size + 1) w2).set 0 (.string gn)) (by omega))
      have HRx := Lib.hid (HR2.out.only ((Only.refl (w.heap.size + 1) w2).set 0 (.string gn)) (Or.inl (by omega)))
      have HEx := Lib.hid (HE2.out.only ((Only.refl (w.heap.size + 1) w2).set 0 (.string gn)) (by omega) (by omega))
      have HAx := Lib.hid (HA2.out.only ((Only.refl (w.heap.size + 1) w2).set 0 (.string gn)) (by omega))
      have HBx := Lib.hid (HB2.out.set0 gn)
      have HOx := Lib.hid (HO2.out.setNew (show w.heap.size ≤ w.heap.size + 1 by omega) 0 (.string gn))
      obtain ⟨z0, _, _⟩ := HB2.out
      obtain ⟨z0, y0⟩ := z0
      obtain ⟨w3, hw3⟩ : ∃ w3, w3 = w2.setCell ⟨w.heap.size + 1, 0, none⟩ (.string gn) := ⟨_, rfl⟩
      have hz3 : w2.heap.size = w3.heap.size := by rw [hw3]; simp
      rw [← hw3] at HCx HRx HEx HAx HBx HOx
      clear HC2 HR2 HE2 HA2 HB2 HO2
      cases hrv : P.rtxt (l.drop k) with
      | error j =>
        have HP : Hid (P.named L b l = .error j) := by show _ = _; unfold P.named; rw [hrn]; simp only; rw [if_pos hi0, if_pos hh, hrv]
        go_wp2_with fail
        rw [← hw3]
        clear hw3 z0 y0
        refine (text_no (B := Kb) E rB g lim (cutA a c k) (n - k) (c - k) lv z (l.drop k) j w3 HCx.out HRx.out.len HRx.out.cap (by omega) HRx.out.rd HEx.out.all (P.rtxt_err hrv)).mono ?_
        rintro e w4 ⟨rfl, hb4⟩
        unfold Pan
        go_wp2
        refine ⟨rfl, HOx.out.below hb4, ?_⟩
        rw [HP.out]
        rfl
      | ok p2 =>
        obtain ⟨vv, l2⟩ := p2
        obtain ⟨hl2, t, k2, hg2, rfl, rfl⟩ := P.rtxt_len hrv
        have HP : Hid (P.named L b l = .ok ((gn, strOf t), ((l.drop k)).drop k2)) := by show _ = _; unfold P.named; rw [hrn]; simp only; rw [if_pos hi0, if_pos hh, hrv, ← hgx]
        have hk2 : k2 ≤ (n - k) := by
          have := (P.getT_ok (l := (l.drop k)) (by rw [hg2])).2
          rw [hg2, HRx.out.len] at this
          exact this
        go_wp2_with fail
        rw [← hw3]
        clear hw3 z0 y0
        refine (text_yes (B := Kb) E rB g lim (cutA a c k) (n - k) (c - k) lv z (l.drop k) t k2 w3 HCx.out HRx.out.len HRx.out.cap (by omega) HRx.out.rd HEx.out.all hg2).mono ?_
        rintro e w4 ⟨rfl, hc4, ho4⟩
        have HC4 := Lib.hid hc4
        have HR4 := Lib.hid ((HRx.out.only ho4 (Or.inl hBr)).cut hk2)
        have HA4 := Lib.hid (HAx.out.only ho4 (by omega))
        have HB4 := Lib.hid (HBx.out.only ho4 (by omega))
        have HO4 := Lib.hid (HOx.out.trans ho4)
        clear hc4 ho4 HCx HRx HEx HAx HBx HOx hg2
        generalize strOf t = tv at *
        obtain ⟨⟨x0, u0⟩, ⟨x1, u1⟩, x2, u2⟩ := HB4.out
        obtain ⟨⟨a0, e0⟩, ⟨a1, e1⟩, a2', e2⟩ := HA4.out
        have hn12 : w.heap.size + 1 ≠ w.heap.size := by omega
        have HC5 := Lib.hid ((((HC4.out.only ((Only.refl (w.heap.size + 1) w4).set 1 (.string tv)) (by omega)).only ((Only.refl w.heap.size _).set 0 (.string gn)) (by omega)).only ((Only.refl w.heap.size _).set 1 (.string tv)) (by omega)).only ((Only.refl w.heap.size _).set 2 (.bool false)) (by omega))
        have HR5 := Lib.hid ((((HR4.out.only ((Only.refl (w.heap.size + 1) w4).set 1 (.string tv)) (Or.inl (by omega))).only ((Only.refl w.heap.size _).set 0 (.string gn)) (Or.inl (by omega))).only ((Only.refl w.heap.size _).set 1 (.string tv)) (Or.inl (by omega))).only ((Only.refl w.heap.size _).set 2 (.bool false)) (Or.inl (by omega)))
        have HO5 := Lib.hid ((((HO4.out.setNew (show w.heap.size ≤ w.heap.size + 1 by omega) 1 (.string tv)).setNew (Nat.le_refl _) 0 (.string gn)).setNew (Nat.le_refl _) 1 (.string tv)).setNew (Nat.le_refl _) 2 (.bool false))
        clear HC4 HR4 HO4 HA4 HB4
        go_wp2
        refine bodyPost_ret (v := .agg #[.string gn, .string tv, .bool false]) (by simp [results, Tryd.results104, go_sem, a0, a1, a2']) rfl ⟨HO5.out, ?_⟩
        rw [HP.out]
        exact ⟨rfl, _, _, _, HC5.out, HR5.out⟩
    · obtain rfl : i = 0 := by omega
      cases hrt : P.rtxt (l.drop k) with
      | error j =>
        have HP : Hid (P.named L b l = .error j) := by show _ = _; unfold P.named; rw [hrn]; simp only; rw [if_neg (by omega), hrt]
        go_wp2_with fail
        refine (text_no (B := Kb) E rB g lim (cutA a c k) (n - k) (c - k) lv z (l.drop k) j w1 HC1.out HR1.out.len HR1.out.cap (by omega) HR1.out.rd HE1.out.all (P.rtxt_err hrt)).mono ?_
        rintro e w4 ⟨rfl, hb4⟩
        unfold Pan
        go_wp2
        refine ⟨rfl, HO1.out.below hb4, ?_⟩
        rw [HP.out]
        rfl
      | ok p1 =>
      obtain ⟨tn, lx⟩ := p1
      obtain ⟨hlx, t1, k1, hg1, htn, rfl⟩ := P.rtxt_len hrt
      have hk1 : k1 ≤ n - k := by
        have := (P.getT_ok (l := l.drop k) (by rw [hg1])).2
        rw [hg1, HR1.out.len] at this
        exact this
      go_wp2_with fail
      refine (text_yes (B := Kb) E rB g lim (cutA a c k) (n - k) (c - k) lv z (l.drop k) t1 k1 w1 HC1.out HR1.out.len HR1.out.cap (by omega) HR1.out.rd HE1.out.all hg1).mono ?_
      rintro e w2 ⟨rfl, hc2, ho2⟩
      rw [← htn]
      have HC2 := Lib.hid hc2
      have HR2 := Lib.hid ((HR1.out.only ho2 (Or.inl hBr)).cut hk1)
      have HE2 := Lib.hid (HE1.out.only ho2 hVr (by omega))
      have HA2 := Lib.hid (HA1.out.only ho2 (by omega))
      have HB2 := Lib.hid (HB1.out.only ho2 (by omega))
      have HO2 := Lib.hid (HO1.out.trans ho2)
      have hz2 := ho2.size
      clear hc2 ho2 HC1 HR1 HE1 HA1 HB1 HO1 HXa1 HXb1 hg1 htn
      -- the value
      have HCx := Lib.hid (HC2.out.only ((Only.refl (w.heap.size + 1) w2).set 0 (.string tn)) (by omega))
      have HRx := Lib.hid (HR2.out.only ((Only.refl (w.heap.size + 1) w2).set 0 (.string tn)) (Or.inl (by omega)))
      have HEx := Lib.hid (HE2.out.only ((Only.refl (w.heap.size + 1) w2).set 0 (.string tn)) (by omega) (by omega))
      have HAx := Lib.hid (HA2.out.only ((Only.refl (w.heap.size + 1) w2).set 0 (.string tn)) (by omega))
      have HBx := Lib.hid (HB2.out.set0 tn)
      have HOx := Lib.hid (HO2.out.setNew (show w.heap.size ≤ w.heap.size + 1 by omega) 0 (.string tn))
      obtain ⟨z0, _, _⟩ := HB2.out
      obtain ⟨z0, y0⟩ := z0
      obtain ⟨w3, hw3⟩ : ∃ w3, w3 = w2.setCell ⟨w.heap.size + 1, 0, none⟩ (.string tn) := ⟨_, rfl⟩
      have hz3 : w2.heap.size = w3.heap.size := by rw [hw3]; simp
      rw [← hw3] at HCx HRx HEx HAx HBx HOx
      clear HC2 HR2 HE2 HA2 HB2 HO2
      cases hrv : P.rtxt ((l.drop k).drop k1) with
      | error j =>
        have HP : Hid (P.named L b l = .error j) := by show _ = _; unfold P.named; rw [hrn]; simp only; rw [if_neg (by omega), hrt]; simp only; rw [hrv]
        go_wp2_with fail
        rw [← hw3]
        clear hw3 z0 y0
        refine (text_no (B := Kb) E rB g lim (cutA (cutA a c k) (c - k) k1) (n - k - k1) (c - k - k1) lv z ((l.drop k).drop k1) j w3 HCx.out HRx.out.len HRx.out.cap (by omega) HRx.out.rd HEx.out.all (P.rtxt_err hrv)).mono ?_
        rintro e w4 ⟨rfl, hb4⟩
        unfold Pan
        go_wp2
        refine ⟨rfl, HOx.out.below hb4, ?_⟩
        rw [HP.out]
        rfl
      | ok p2 =>
        obtain ⟨vv, l2⟩ := p2
        obtain ⟨hl2, t, k2, hg2, rfl, rfl⟩ := P.rtxt_len hrv
        have HP : Hid (P.named L b l = .ok ((tn, strOf t), (((l.drop k).drop k1)).drop k2)) := by show _ = _; unfold P.named; rw [hrn]; simp only; rw [if_neg (by omega), hrt]; simp only; rw [hrv]
        have hk2 : k2 ≤ (n - k - k1) := by
          have := (P.getT_ok (l := ((l.drop k).drop k1)) (by rw [hg2])).2
          rw [hg2, HRx.out.len] at this
          exact this
        go_wp2_with fail
        rw [← hw3]
        clear hw3 z0 y0
        refine (text_yes (B := Kb) E rB g lim (cutA (cutA a c k) (c - k) k1) (n - k - k1) (c - k - k1) lv z ((l.drop k).drop k1) t k2 w3 HCx.out HRx.out.len HRx.out.cap (by omega) HRx.out.rd HEx.out.all hg2).mono ?_
        rintro e w4 ⟨rfl, hc4, ho4⟩
        have HC4 := Lib.hid hc4
        have HR4 := Lib.hid ((HRx.out.only ho4 (Or.inl hBr)).cut hk2)
        have HA4 := Lib.hid (HAx.out.only ho4 (by omega))
        have HB4 := Lib.hid (HBx.out.only ho4 (by omega))
        have HO4 := Lib.hid (HOx.out.trans ho4)
        clear hc4 ho4 HCx HRx HEx HAx HBx HOx hg2
        generalize strOf t = tv at *
        obtain ⟨⟨x0, u0⟩, ⟨x1, u1⟩, x2, u2⟩ := HB4.out
        obtain ⟨⟨a0, e0⟩, ⟨a1, e1⟩, a2', e2⟩ := HA4.out
        have hn12 : w.heap.size + 1 ≠ w.heap.size := by omega
        have HC5 := Lib.hid ((((HC4.out.only ((Only.refl (w.heap.size + 1) w4).set 1 (.string tv)) (by omega)).only ((Only.refl w.heap.size _).set 0 (.string tn)) (by omega)).only ((Only.refl w.heap.size _).set 1 (.string tv)) (by omega)).only ((Only.refl w.heap.size _).set 2 (.bool false)) (by omega))
        have HR5 := Lib.hid ((((HR4.out.only ((Only.refl (w.heap.size + 1) w4).set 1 (.string tv)) (Or.inl (by omega))).only ((Only.refl w.heap.size _).set 0 (.string tn)) (Or.inl (by omega))).only ((Only.refl w.heap.size _).set 1 (.string tv)) (Or.inl (by omega))).only ((Only.refl w.heap.size _).set 2 (.bool false)) (Or.inl (by omega)))
        have HO5 := Lib.hid ((((HO4.out.setNew (show w.heap.size ≤ w.heap.size + 1 by omega) 1 (.string tv)).setNew (Nat.le_refl _) 0 (.string tn)).setNew (Nat.le_refl _) 1 (.string tv)).setNew (Nat.le_refl _) 2 (.bool false))
        clear HC4 HR4 HO4 HA4 HB4
        go_wp2
        refine bodyPost_ret (v := .agg #[.string tn, .string tv, .bool false]) (by simp [results, Tryd.results104, go_sem, a0, a1, a2']) rfl ⟨HO5.out, ?_⟩
        rw [HP.out]
        exact ⟨rfl, _, _, _, HC5.out, HR5.out⟩
end Go.Proofs.YtcbljbdcnahfhaaDoor
/- Krow -/
namespace Go.Proofs.YtcbljbdcnahfhaaDoor
open Go.RowKit

/-- Headers as cells. -/
def nvs : List (B.HD × Bool) → List Value
  | [] => []
  | h :: t => .string h.1.1 :: .string h.1.2 :: .bool h.2 :: nvs t
theorem nvs_length (l : List (B.HD × Bool)) : (nvs l).length = l.length * 3 := by
  induction l with
  | nil => rfl
  | cons a l ih => simp only [nvs, List.length_cons, ih]; omega
theorem nvs_append (l m : List (B.HD × Bool)) : nvs (l ++ m) = nvs l ++ nvs m := by
  induction l with
  | nil => rfl
  | cons a l ih => simp only [List.cons_append, nvs, ih]
theorem nvs_one (l : List (B.HD × Bool)) : ∀ u ∈ nvs l, u.oneCell' = true := by
  induction l with
  | nil => intro u hu; cases hu
  | cons a l ih =>
    intro u hu
    simp only [nvs, List.mem_cons] at hu
    rcases hu with rfl | rfl | rfl | h
    · rfl
    · rfl
    · rfl
    · exact ih u h
theorem nvs_at (l : List (B.HD × Bool)) (j : Nat) (x : (B.HD × Bool)) (hx : l[j]? = some x) : (nvs l)[j * 3]? = some (.string x.1.1) ∧ (nvs l)[j * 3 + 1]? = some (.string x.1.2) ∧ (nvs l)[j * 3 + 2]? = some (.bool x.2) := by
  induction l generalizing j with
  | nil => simp at hx
  | cons a l ih =>
    cases j with
    | zero =>
      simp at hx
      subst hx
      exact ⟨rfl, rfl, rfl⟩
    | succ j =>
      simp at hx
      have := ih j hx
      rw [show (j + 1) * 3 = j * 3 + 3 by omega]
      exact this

/-- The slice at a reads as the headers l. -/
def QRd (w : World) (a : Option Addr) (l : List (B.HD × Bool)) : Prop := ∀ (j : Nat) (x : (B.HD × Bool)), l[j]? = some x → ∃ b o, a = some ⟨b, o, none⟩ ∧ w.cell? ⟨b, o + j * 3, none⟩ = some (.string x.1.1) ∧ w.cell? ⟨b, o + j * 3 + 1, none⟩ = some (.string x.1.2) ∧ w.cell? ⟨b, o + j * 3 + 2, none⟩ = some (.bool x.2)
theorem QRd.below {w w' : World} {a : Option Addr} {l : List (B.HD × Bool)} (h : QRd w a l) (hb : Below w.heap.size w w') : QRd w' a l := fun j x hx => by
  obtain ⟨b, o, rfl, h0, h1, h2⟩ := h j x hx
  exact ⟨b, o, rfl, (hb.cell (p := ⟨b, o + j * 3, none⟩) (World.block_lt_of_cell? _ _ h0)).trans h0, (hb.cell (p := ⟨b, o + j * 3 + 1, none⟩) (World.block_lt_of_cell? _ _ h1)).trans h1, (hb.cell (p := ⟨b, o + j * 3 + 2, none⟩) (World.block_lt_of_cell? _ _ h2)).trans h2⟩
theorem QRd.nil (w : World) (a : Option Addr) : QRd w a [] := fun j x hx => by simp at hx
theorem QRd.news {w : World} {ad : Addr} {l : List (B.HD × Bool)} (h : QRd w (some ad) l) : ∀ j u, (nvs l)[j]? = some u → w.cell? (ad.add j) = some u := by
  intro j u hu
  have hj : j < l.length * 3 := by
    have := (List.getElem?_eq_some_iff.1 hu).1
    rwa [nvs_length] at this
  obtain ⟨x, hx⟩ : ∃ x, l[j / 3]? = some x := ⟨_, List.getElem?_eq_getElem (by omega)⟩
  obtain ⟨b, o, e, h0, h1, h2⟩ := h (j / 3) x hx
  obtain ⟨g0, g1, g2⟩ := nvs_at l (j / 3) x hx
  cases e
  rw [Addr.add_lit]
  have hm : j = j / 3 * 3 ∨ j = j / 3 * 3 + 1 ∨ j = j / 3 * 3 + 2 := by omega
  rcases hm with e | e | e
  · rw [e] at hu ⊢
    rw [g0] at hu
    cases hu
    have : j / 3 * 3 / 3 = j / 3 := by omega
    simpa [this] using h0
  · rw [e] at hu ⊢
    rw [g1] at hu
    cases hu
    simpa [Nat.add_assoc] using h1
  · rw [e] at hu ⊢
    rw [g2] at hu
    cases hu
    simpa [Nat.add_assoc] using h2

/-- A slice of the call's own that holds the headers l. -/
def QOwn (K : Nat) (w : World) (v : Value) (l : List (B.HD × Bool)) : Prop := w.ownsRow K 66 3 v l.length (nvs l)
theorem QOwn.nil (K : Nat) (w : World) : QOwn K w (.slice none 0 0) [] := World.ownsRow_nil w K _ _
theorem QOwn.kept {K : Nat} {w w' : World} {v : Value} {l : List (B.HD × Bool)} {row : Option Nat} (h : QOwn K w v l) (hg : w.grownBy w' row) (hne : v.ownBlock = none ∨ v.ownBlock ≠ row) : QOwn K w' v l := World.ownsRow.kept h hg hne
theorem QOwn.below {K : Nat} {w w' : World} {v : Value} {l : List (B.HD × Bool)} (h : QOwn K w v l) (hb : Below w.heap.size w w') : QOwn K w' v l :=
  h.kept (row := none) ⟨hb.os, hb.tape, hb.output, hb.size, fun i hi _ => hb.block i hi⟩ (by
    cases e : v.ownBlock with
    | none => exact Or.inl rfl
    | some b => exact Or.inr (by simp))
theorem QOwn.lt {K : Nat} {w : World} {v : Value} {l : List (B.HD × Bool)} (h : QOwn K w v l) : ∀ k, v.ownBlock = some k → K ≤ k ∧ k < w.heap.size := World.ownsRow.lt h
theorem QOwn.only {K g : Nat} {w w' : World} {v : Value} {l : List (B.HD × Bool)} (h : QOwn K w v l) (hg : Only g w w') (hne : v.ownBlock ≠ some g) : QOwn K w' v l := h.kept hg (Or.inr hne)
/-- A nil slice, or one at the head of its block. -/
theorem QOwn.cases {K : Nat} {w : World} {v : Value} {l : List (B.HD × Bool)} (h : QOwn K w v l) : (v = .slice none 0 0 ∧ l = []) ∨ ∃ g cp, v = .slice (some ⟨g, 0, none⟩) l.length cp ∧ l.length ≤ cp ∧ K ≤ g ∧ g < w.heap.size ∧ QRd w (some ⟨g, 0, none⟩) l := by
  rcases h.2 with ⟨h1, h2⟩ | ⟨g, cap, cur, rfl, hb, hgg, hn, hm, hs, ht⟩
  · exact Or.inl ⟨h1, List.length_eq_zero_iff.1 h2⟩
  · refine Or.inr ⟨g, cap, rfl, hn, hb, (Array.getElem?_eq_some_iff.1 hgg).1, fun j x hx => ?_⟩
    obtain ⟨g0, g1, g2⟩ := nvs_at l j x hx
    have key : ∀ i u, (nvs l)[i]? = some u → w.cell? ⟨g, i, none⟩ = some u := fun i u hu => by
      have := World.ownsRow.cells (g := g) h rfl i u hu
      rwa [Addr.add_lit, Nat.zero_add] at this
    exact ⟨g, 0, rfl, by rw [Nat.zero_add]; exact key _ _ g0, by rw [Nat.zero_add]; exact key _ _ g1, by rw [Nat.zero_add]; exact key _ _ g2⟩

theorem infoQ : (Tryd.prog.info? 66).map (fun i => (i.zero, i.size, i.bytes)) = some (some (.agg #[.string ⟨#[]⟩, .string ⟨#[]⟩, .bool false]), 3, 40) := by kernel_rfl

/-- 'append(own, headers...)', of one header at least. -/
theorem run_appQ (w : World) (K : Nat) (v : Value) (l : List (B.HD × Bool)) (hown : QOwn K w v l) (ad : Addr) (c : Nat) (m : List (B.HD × Bool)) (hm : 0 < m.length) (hr : QRd w (some ad) m) (hsz : l.length + m.length ≤ 2097152) (hbase : K ≤ w.heap.size) :
    ∃ g cp w', (Builtin.append_ #[50, 50] 50 #[v, .slice (some ad) m.length c]).run Tryd.prog w = .ok (.slice (some ⟨g, 0, none⟩) (l.length + m.length) cp) w' ∧ QOwn K w' (.slice (some ⟨g, 0, none⟩) (l.length + m.length) cp) (l ++ m) ∧ w.grownBy w' v.ownBlock := by
  obtain ⟨i0, hi, hz0, hz1, hz2⟩ := info_parts infoQ
  obtain ⟨v', w', h1, h2, h3, h4⟩ := run_append_own (P := Tryd.prog) (w := w) K 50 50 66 i0 _ 3 40 Tryd.underlying50 hi hz0 hz1 hz2 rfl (by omega) v l.length (nvs l) hown ad m.length c (nvs m) (nvs_length m) hr.news (nvs_one m) (by unfold maxLen; omega) (by omega) hbase
  have h2' : w'.ownsRow K 66 3 v' (l.length + m.length) (nvs l ++ nvs m) := h2
  rcases h2'.2 with ⟨e1, _⟩ | ⟨g, cp, cur, rfl, rest⟩
  · have := (h4.1 e1).2
    omega
  · refine ⟨g, cp, w', h1, ?_, h3⟩
    show w'.ownsRow K 66 3 _ (l ++ m).length (nvs (l ++ m))
    rw [List.length_append, nvs_append]
    exact h2

theorem wpList_appQ (w : World) {ops : Array Oper} {rest : List Oper} {o : Oper} {a : Act} {Q : Exit → Act → World → Prop} (hgd : o.guard = none) (s x : Operand)
    (ho : o.op = .call { callee := .builtin .append, args := #[s, x], argTypes := #[50, 50] }) (hty : o.type = 50)
    (K : Nat) (v : Value) (l : List (B.HD × Bool)) (hs : a.eval s = v) (hown : QOwn K w v l) (ad : Addr) (mm c : Nat) (m : List (B.HD × Bool)) (hx : a.eval x = .slice (some ad) mm c) (hmm : m.length = mm) (hm : 0 < mm) (hr : QRd w (some ad) m) (hsz : l.length + mm ≤ 2097152) (hbase : K ≤ w.heap.size)
    (hK : ∀ g cp w', QOwn K w' (.slice (some ⟨g, 0, none⟩) (l.length + mm) cp) (l ++ m) → w.grownBy w' v.ownBlock → wpList Tryd.prog ops Q rest (a.put o.dst (.slice (some ⟨g, 0, none⟩) (l.length + mm) cp)) w') :
    wpList Tryd.prog ops Q (o :: rest) a w := by
  subst hmm
  refine wpList_plain hgd fun K' hK' => ?_
  obtain ⟨g, cp, w', hrun, h2, h3⟩ := run_appQ w K v l hown ad c m hm hr hsz hbase
  unfold Oper.wp
  simp [execOp, ho, hty, resolve, invoke, builtin, hs, hx, hrun, Result.andThen]
  exact hK' _ _ (hK g cp w' h2 h3)
/-- The same at a step of a region that draws its order. -/
theorem step_appQ (w : World) {ops : Array Oper} {o : Oper} {a : Act} {K' : Act → World → Prop} {Q : Exit → Act → World → Prop} {E : Prop} (hgd : o.guard = none) (s x : Operand)
    (ho : o.op = .call { callee := .builtin .append, args := #[s, x], argTypes := #[50, 50] }) (hty : o.type = 50)
    (K : Nat) (v : Value) (l : List (B.HD × Bool)) (hs : a.eval s = v) (hown : QOwn K w v l) (ad : Addr) (mm c : Nat) (m : List (B.HD × Bool)) (hx : a.eval x = .slice (some ad) mm c) (hmm : m.length = mm) (hm : 0 < mm) (hr : QRd w (some ad) m) (hsz : l.length + mm ≤ 2097152) (hbase : K ≤ w.heap.size)
    (hK : ∀ g cp w', QOwn K w' (.slice (some ⟨g, 0, none⟩) (l.length + mm) cp) (l ++ m) → w.grownBy w' v.ownBlock → K' (a.put o.dst (.slice (some ⟨g, 0, none⟩) (l.length + mm) cp)) w') :
    if Region.wanted o (yielded ops a.tmps) = true then Oper.wp Tryd.prog o a w K' Q else E := by
  subst hmm
  obtain ⟨g, cp, w', hrun, h2, h3⟩ := run_appQ w K v l hown ad c m hm hr hsz hbase
  rw [if_pos (by unfold Region.wanted; rw [hgd])]
  unfold Oper.wp
  simp [execOp, ho, hty, resolve, invoke, builtin, hs, hx, hrun, Result.andThen]
  exact hK _ _ _ h2 h3

theorem QOwn.form {K : Nat} {w : World} {v : Value} {l : List (B.HD × Bool)} (h : QOwn K w v l) : ∃ a cp, v = .slice a l.length cp := by
  rcases h.2 with ⟨e, h0⟩ | ⟨g, cp, _, e, _⟩
  · exact ⟨none, 0, by rw [e, h0]⟩
  · exact ⟨_, _, e⟩
/-- A header just laid. -/
theorem QRd.one (w : World) (n v : ByteArray) (b : Bool) : QRd (w.alloc (.cells #[.string n, .string v, .bool b] 66)) (some ⟨w.heap.size, 0, none⟩) [((n, v), b)] := fun j x hx => by
  have hj : j = 0 := by
    have := (List.getElem?_eq_some_iff.1 hx).1
    simp at this
    omega
  subst hj
  simp at hx
  subst hx
  exact ⟨_, _, rfl, by simp, by simp, by simp⟩
end Go.Proofs.YtcbljbdcnahfhaaDoor
/- Ktell -/
namespace Go.Proofs.YtcbljbdcnahfhaaDoor
open Go.RowKit

theorem frz_below {w w' : World} (h : Below w.heap.size w w') {p : Addr} {v : Value} (hc : w.cell? p = some v) {b : Bool} (hf : w.frozen? p = b) : w'.frozen? p = b :=
  (h.frozen (World.block_lt_of_cell? w p hc)).trans hf
theorem RC.size {w : World} {rB g lim : Nat} {a : Option Addr} {n c : Nat} {lv : Value} {z : Nat} (h : RC w rB g lim a n c lv z) (z' : Nat) : RC (w.setCell ⟨rB, 4, none⟩ (.int .i64 (z' : Nat))) rB g lim a n c lv z' :=
  ⟨cell_sib (by omega) h.c0, (World.cell?_setCell_other _ _ _ _ (addr_ne (by omega))).trans h.c1, (World.cell?_setCell_other _ _ _ _ (addr_ne (by omega))).trans h.c2, cell_sib (by omega) h.c3, cell_own h.c4⟩
theorem RC.list {w : World} {rB g lim : Nat} {a : Option Addr} {n c : Nat} {lv : Value} {z : Nat} (h : RC w rB g lim a n c lv z) (lv' : Value) : RC (w.setCell ⟨rB, 3, none⟩ lv') rB g lim a n c lv' z :=
  ⟨cell_sib (by omega) h.c0, (World.cell?_setCell_other _ _ _ _ (addr_ne (by omega))).trans h.c1, (World.cell?_setCell_other _ _ _ _ (addr_ne (by omega))).trans h.c2, cell_own h.c3, cell_sib (by omega) h.c4⟩

theorem OnlyB.grow {B g : Nat} {a b : World} {v : Value} (h : a.grownBy b v.ownBlock) (hv : ∀ k, v.ownBlock = some k → B ≤ k) (hB : B ≤ a.heap.size) : OnlyB B g a b :=
  ⟨h.os, h.tape, h.output, h.size, fun i hi _ => h.block i (by omega) (fun e => by have := hv i e.symm; omega)⟩
theorem OnlyB.set (B g : Nat) (a : World) (j : Nat) (v : Value) : OnlyB B g a (a.setCell ⟨g, j, none⟩ v) :=
  ⟨rfl, rfl, rfl, by simp, fun _ _ hn => Below.heap_setCell _ _ _ _ hn⟩

/-- All that there was stands, but for two blocks. -/
structure Kp (rB : Nat) (o : Option Nat) (w w' : World) : Prop where
  size : w.heap.size ≤ w'.heap.size
  block : ∀ x, x < w.heap.size → x ≠ rB → o ≠ some x → w'.heap[x]? = w.heap[x]?
theorem Kp.trans {rB : Nat} {o : Option Nat} {a b c : World} (h : Kp rB o a b) (k : Kp rB o b c) : Kp rB o a c :=
  ⟨Nat.le_trans h.size k.size, fun x h1 h2 h3 => (k.block x (Nat.lt_of_lt_of_le h1 h.size) h2 h3).trans (h.block x h1 h2 h3)⟩
theorem Kp.of_below {rB : Nat} {o : Option Nat} {a b : World} (h : Below a.heap.size a b) : Kp rB o a b := ⟨h.size, fun x h1 _ _ => h.block x h1⟩
theorem Kp.grow {rB : Nat} {o : Option Nat} {a b : World} (h : a.grownBy b o) : Kp rB o a b := ⟨h.size, fun x h1 _ h3 => h.block x h1 (fun e => h3 e.symm)⟩
theorem Kp.set (rB : Nat) (o : Option Nat) (a : World) (j : Nat) (v : Value) : Kp rB o a (a.setCell ⟨rB, j, none⟩ v) := ⟨by simp, fun _ _ hn _ => Below.heap_setCell _ _ _ _ hn⟩

/-- What tell hands back, or the fault. -/
def TellPost (Kl : Nat) (E : Nat → Addr) (rB g lim : Nat) (a : Option Addr) (n c : Nat) (lv : Value) (z s : Nat) (A : List (B.HD × Bool)) (h : B.HD × Bool) (w : World) (e : Ending) (w' : World) : Prop :=
  OnlyB Kl rB w w' ∧ Kp rB lv.ownBlock w w' ∧ if 16384 < z + s then e = Pan E 9 else e = .returned (.tuple #[]) ∧ ∃ lv', RC w' rB g lim a n c lv' (z + s) ∧ QOwn Kl w' lv' (A ++ [h])

set_option maxRecDepth 100000 in
set_option maxHeartbeats 4000000 in
theorem tell_any (Kl : Nat) (V : World) (E : Nat → Addr) (rB g lim : Nat) (a : Option Addr) (n c : Nat) (lv : Value) (z : Nat) (A : List (B.HD × Bool)) (hn hv : ByteArray) (nv : Bool) (w : World) (hC : RC w rB g lim a n c lv z) (hQ : QOwn Kl w lv A) (hE : EK V E w) (hV : V.heap.size ≤ rB) (hKl : rB < Kl) (hKw : Kl ≤ w.heap.size)
    (hz : z ≤ 16384) (hzA : A.length * 32 ≤ z) (hsn : hn.size ≤ 100000000) (hsv : hv.size ≤ 100000000) :
    Calls Tryd.prog 101 #[.pointer (some ⟨rB, 0, none⟩), .agg #[.string hn, .string hv, .bool nv]] w (TellPost Kl E rB g lim a n c lv z (B.sz (hn, hv)) A ((hn, hv), nv) w) := by
  have hrB := hC.lt
  obtain ⟨w0, hw0⟩ : ∃ w0, w0 = w.alloc (.cells #[.string hn, .string hv, .bool nv] 66) := ⟨_, rfl⟩
  have hb0 : Below w.heap.size w w0 := by rw [hw0]; exact (Below.refl _ _).alloc (Nat.le_refl _) _
  have hx : HBox w0 w.heap.size hn hv nv := by rw [hw0]; exact HBox.new _ _ _ _
  have hz0 : w.heap.size < w0.heap.size := by rw [hw0]; simp
  have HC := Lib.hid (hC.below hb0)
  have HQ := Lib.hid (hQ.below hb0)
  have HE := Lib.hid (hE.below hb0 (by omega))
  have HX := Lib.hid hx
  have HO0 : Hid (OnlyB Kl rB w w0) := OnlyB.of_below (hb0.mono hKw)
  have HK0 : Hid (Kp rB lv.ownBlock w w0) := Kp.of_below hb0
  have HSz := Lib.hid (fun w => size_any hn hv nv w (by omega) (by omega))
  have hsz0 : B.sz (hn, hv) ≤ 1000000000 := by unfold B.sz; simp only; omega
  obtain ⟨s, hs⟩ : ∃ s, s = B.sz (hn, hv) := ⟨_, rfl⟩
  rw [← hs] at HSz hsz0 ⊢
  obtain ⟨c0, c1, c2, c3, c4, f4⟩ := HC.out
  obtain ⟨x0, x1, x2⟩ := hx.cells
  clear hC hQ hE hb0 hx hs c0 c1 c2 c3
  go_enter Tryd.func101, Tryd.ntmps101
  go_upto_region 1 with (fail)
  rw [← hw0]
  clear hw0
  go_region_with (first | (go_at_call 56; refine (HSz.out _).mono ?_; rintro e w1 ⟨rfl, hb1⟩; have HB1 : Hid (Below w0.heap.size w0 w1) := (below_drew' w0).trans hb1; clear hb1; have d4 := cell_below HB1.out c4; have k4 := frz_below HB1.out c4 f4))
  all_goals
    have ew : IntKind.i64.wrap ((z : Int) + (s : Int)) = ((z + s : Nat) : Int) := by rw [IntKind.wrap_i64]; omega
    rw [ew]
    have HC2 := Lib.hid ((HC.out.below HB1.out).size (z + s))
    have HO2 : Hid (OnlyB Kl rB w (w1.setCell ⟨rB, 4, none⟩ (.int .i64 ((z + s : Nat) : Int)))) := (HO0.out.trans (OnlyB.of_below (HB1.out.mono (by omega)))).trans (OnlyB.set _ _ _ _ _)
    have HK2 : Hid (Kp rB lv.ownBlock w (w1.setCell ⟨rB, 4, none⟩ (.int .i64 ((z + s : Nat) : Int)))) := (HK0.out.trans (Kp.of_below HB1.out)).trans (Kp.set _ _ _ _ _)
    have HQ2 : Hid (QOwn Kl (w1.setCell ⟨rB, 4, none⟩ (.int .i64 ((z + s : Nat) : Int))) lv A) := (HQ.out.below HB1.out).only ((Only.refl rB w1).set _ _) (fun e => by have := (HQ.out.lt rB e).1; omega)
    have HE2 : Hid (EK V E (w1.setCell ⟨rB, 4, none⟩ (.int .i64 ((z + s : Nat) : Int)))) := (HE.out.below HB1.out (by omega)).only ((Only.refl rB w1).set _ _) hV (by have := HB1.out.size; omega)
    have HX2 : Hid (HBox (w1.setCell ⟨rB, 4, none⟩ (.int .i64 ((z + s : Nat) : Int))) w.heap.size hn hv nv) := (HX.out.noB (NoB.below HB1.out)).only ((Only.refl rB w1).set _ _) (by omega)
    have hz2 : w0.heap.size ≤ (w1.setCell ⟨rB, 4, none⟩ (.int .i64 ((z + s : Nat) : Int))).heap.size := by rw [World.size_setCell]; exact HB1.out.size
    clear HC HQ HE HX HO0 HK0 HB1 d4 k4 ew x0 x1 x2 c4 f4 HSz
    generalize w1.setCell ⟨rB, 4, none⟩ (.int .i64 ((z + s : Nat) : Int)) = w2 at *
    obtain ⟨x0, x1, x2⟩ := HX2.out.cells
    obtain ⟨_, _, _, ⟨c3, f3⟩, c4, f4⟩ := HC2.out
    by_cases hbig : 16384 < z + s
    · have h9 : w2.cell? ⟨5, 0, none⟩ = some (eV E (eg 9)) := kgs_cell HE2.out.all 9 (by decide)
      have q1 : (16384 : Int) < ((z + s : Nat) : Int) := by omega
      unfold eV at h9
      go_wp2
      refine ⟨rfl, HO2.out, HK2.out, ?_⟩
      rw [if_pos hbig]
      rfl
    · have q1 : ¬ (16384 : Int) < ((z + s : Nat) : Int) := by omega
      obtain ⟨al, cpl, rfl⟩ := HQ2.out.form
      have hlv := fun k e => (HQ2.out.lt k e).1
      have hba : Below w2.drew.heap.size w2.drew (w2.drew.alloc (.cells #[.string hn, .string hv, .bool nv] 66)) := (Below.refl _ _).alloc (Nat.le_refl _) _
      have HQa := Lib.hid ((HQ2.out.below (below_drew' w2)).below hba)
      have HCa := Lib.hid ((HC2.out.below (below_drew' w2)).below hba)
      have HOa : Hid (OnlyB Kl rB w (w2.drew.alloc (.cells #[.string hn, .string hv, .bool nv] 66))) := HO2.out.trans ((OnlyB.of_below ((below_drew' w2).mono (by omega))).trans (OnlyB.of_below (hba.mono (show Kl ≤ w2.heap.size by omega))))
      have HKa : Hid (Kp rB (Value.slice al A.length cpl).ownBlock w (w2.drew.alloc (.cells #[.string hn, .string hv, .bool nv] 66))) := HK2.out.trans ((Kp.of_below (below_drew' w2)).trans (Kp.of_below hba))
      have HRn := Lib.hid (QRd.one w2.drew hn hv nv)
      have hrB2 : rB < w2.heap.size := by omega
      have hAl : A.length + 1 ≤ 2097152 := by omega
      have Hlv := Lib.hid hlv
      clear hlv hba
      go_upto_region 4 with (fail)
      go_region_law (first | (refine step_appQ _ rfl _ _ rfl rfl Kl _ A rfl HQa.out ⟨w2.heap.size, 0, none⟩ 1 1 [((hn, hv), nv)] rfl rfl (by omega) HRn.out hAl (by simp; omega) ?_; intro g7 cp7 w7 hA7 hg7; have HQ7 := Lib.hid hA7; have HO7 : Hid (OnlyB Kl rB w w7) := HOa.out.trans (OnlyB.grow hg7 Hlv.out (by simp; omega)); have HK7 := Lib.hid (HKa.out.trans (Kp.grow hg7)); have HC7 := Lib.hid (HCa.out.block (hg7.block rB (by simp; omega) (fun e => by have := Hlv.out rB e.symm; omega))); obtain ⟨_, _, _, ⟨k3, j3⟩, _, _⟩ := HC7.out; clear hA7 hg7))
      all_goals
        go_end0
        refine ⟨HO7.out.trans (OnlyB.set _ _ _ _ _), HK7.out.trans (Kp.set _ _ _ _ _), ?_⟩
        rw [if_neg hbig]
        exact ⟨rfl, _, HC7.out.list _, HQ7.out.only ((Only.refl rB w7).set _ _) (fun e => by have := (HQ7.out.lt rB e).1; omega)⟩
end Go.Proofs.YtcbljbdcnahfhaaDoor
/- Kmathd -/
namespace Go.Proofs.YtcbljbdcnahfhaaDoor
namespace P
open B (HD)

theorem getT_size {l t : List Nat} {k : Nat} (hl : ∀ x ∈ l, x < 256) (h : getT l = (t, k, none)) : t.length ≤ 30000 := by
  obtain ⟨n, k', e, hg⟩ : ∃ n k e, get 7 l = (n, k, e) := ⟨_, _, _, rfl⟩
  unfold getT at h
  rw [hg] at h
  cases e with
  | some e => simp at h
  | none =>
    simp only at h
    split at h
    · simp at h
    · split at h
      · simp at h
      · split at h
        · simp only [Prod.mk.injEq] at h
          rw [← h.1, List.length_take]
          omega
        · split at h
          · simp at h
          · rename_i u hu
            simp only [Prod.mk.injEq] at h
            have := H.dec_len (fun x hx => hl x (List.mem_of_mem_drop (List.mem_of_mem_take hx))) hu
            rw [← h.1]
            rw [List.length_take] at this
            omega
theorem rtxt_size {l r : List Nat} {v : ByteArray} (hl : ∀ x ∈ l, x < 256) (h : rtxt l = .ok (v, r)) : v.size ≤ 30000 := by
  obtain ⟨_, t, k, hg, rfl, _⟩ := rtxt_len h
  rw [strOf_size]
  exact getT_size hl hg
theorem st_size : ∀ k, k < 61 → ((B.stL.getD k (⟨#[]⟩, ⟨#[]⟩)).1.size ≤ 4096 ∧ (B.stL.getD k (⟨#[]⟩, ⟨#[]⟩)).2.size ≤ 4096) := by decide +kernel
theorem mem_tot {l : List HD} {h : HD} (hm : h ∈ l) : B.sz h ≤ B.tot l := by
  induction l with
  | nil => cases hm
  | cons a l ih =>
    simp only [B.tot]
    rcases List.mem_cons.1 hm with rfl | hm
    · omega
    · have := ih hm
      omega
theorem get_size {L : List HD} {i : Int} (ht : B.tot L ≤ 4096) : (B.get L i).1.size ≤ 4096 ∧ (B.get L i).2.size ≤ 4096 := by
  unfold B.get
  split
  · rename_i h
    exact st_size _ (by omega)
  · split
    · unfold B.nth
      rw [List.getD_eq_getElem?_getD]
      cases hx : L.reverse[i.toNat - 62]? with
      | none => exact ⟨by simp only [Option.getD_none]; decide, by simp only [Option.getD_none]; decide⟩
      | some x =>
        have hm : x ∈ L := List.mem_reverse.1 (List.mem_of_getElem? hx)
        have := mem_tot hm
        unfold B.sz at this
        simp only [Option.getD_some]
        omega
    · exact ⟨Nat.zero_le _, Nat.zero_le _⟩
theorem named_size {L : List HD} {b : Nat} {l r : List Nat} {h : HD} (ht : B.tot L ≤ 4096) (hb : b ≤ 8) (hl : ∀ x ∈ l, x < 256) (hn : named L b l = .ok (h, r)) : h.1.size ≤ 30000 ∧ h.2.size ≤ 30000 ∧ r.length < l.length := by
  unfold named at hn
  cases hr : rnum b l with
  | error e => rw [hr] at hn; simp at hn
  | ok p =>
    obtain ⟨i, l1⟩ := p
    obtain ⟨h1, _, k, _, rfl⟩ := rnum_len hb hr
    rw [hr] at hn
    simp only at hn
    have hl1 : ∀ x ∈ l.drop k, x < 256 := fun x hx => hl x (List.mem_of_mem_drop hx)
    split at hn
    · split at hn
      · cases hv : rtxt (l.drop k) with
        | error e => rw [hv] at hn; simp at hn
        | ok p2 =>
          obtain ⟨v, l2⟩ := p2
          rw [hv] at hn
          simp only [Except.ok.injEq, Prod.mk.injEq] at hn
          obtain ⟨rfl, rfl⟩ := hn
          have := (rtxt_len hv).1
          exact ⟨Nat.le_trans (get_size ht).1 (by omega), rtxt_size hl1 hv, by omega⟩
      · simp at hn
    · cases hv : rtxt (l.drop k) with
      | error e => rw [hv] at hn; simp at hn
      | ok p2 =>
        obtain ⟨v, l2⟩ := p2
        rw [hv] at hn
        simp only at hn
        obtain ⟨h2, t, k2, _, _, rfl⟩ := rtxt_len hv
        have hl2 : ∀ x ∈ (l.drop k).drop k2, x < 256 := fun x hx => hl1 x (List.mem_of_mem_drop hx)
        cases hv2 : rtxt ((l.drop k).drop k2) with
        | error e => rw [hv2] at hn; simp at hn
        | ok p3 =>
          obtain ⟨v2, l3⟩ := p3
          rw [hv2] at hn
          simp only [Except.ok.injEq, Prod.mk.injEq] at hn
          obtain ⟨rfl, rfl⟩ := hn
          have := (rtxt_len hv2).1
          exact ⟨rtxt_size hl1 hv, rtxt_size hl2 hv2, by omega⟩
theorem tell_ok {s s1 : St} {h : HD × Bool} (x : tell s h = .ok s1) : s.z + B.sz h.1 ≤ 16384 ∧ s1 = { s with A := s.A ++ [h], z := s.z + B.sz h.1 } := by
  unfold tell at x
  split at x
  · simp at x
  · simp only [Except.ok.injEq] at x
    exact ⟨by omega, x.symm⟩
end P
end Go.Proofs.YtcbljbdcnahfhaaDoor
