/-
The plain functions of chapter 4's encoder: a header's bytes, a list's, the sizes ahead of a block; how long they are.
-/
import Derived.Deep.RegionHeld3
import Derived.Test.YtcbljbdcnahfhaaDoorMkm
import Derived.Test.YtcbljbdcnahfhaaDoorMba
import Derived.Test.YtcbljbdcnahfhaaDoorMka
import Derived.Test.YtcbljbdcnahfhaaDoorMbb
/- Kmathb -/
namespace Go.Proofs.YtcbljbdcnahfhaaDoor
namespace P
open B (HD)

/-- A header by name and value. -/
def nm (first b i : Nat) (h : HD) : List Nat := put first b i ++ ((if i = 0 then putT (by_ h.1) else []) ++ putT (by_ h.2))
/-- Where name and value stand, and whether both do. -/
def fd (L : List HD) (h : HD) : Nat × Bool := ((B.fnd h.1.toList h.2.toList 0 (B.allL L)).1.toNat, (B.fnd h.1.toList h.2.toList 0 (B.allL L)).2)
/-- A header's bytes, and the table behind it. -/
def one (m : Nat) (L : List HD) (x : HD × Bool) : List Nat × List HD :=
  if x.2 = true then (nm 16 4 (fd L x.1).1 x.1, L)
  else if (fd L x.1).2 = true then (put 128 7 (fd L x.1).1, L)
  else if m < B.sz x.1 then (nm 0 4 (fd L x.1).1 x.1, L)
  else (nm 64 6 (fd L x.1).1 x.1, B.add m L x.1)
/-- A list's. -/
def enc (m : Nat) : List HD → List (HD × Bool) → List Nat × List HD
  | L, [] => ([], L)
  | L, x :: t => ((one m L x).1 ++ (enc m (one m L x).2 t).1, (enc m (one m L x).2 t).2)
/-- The sizes ahead of a block. -/
def szs (asked : Bool) (least m : Nat) : List Nat := if asked = true then (if least < m then put 32 5 least else []) ++ put 32 5 m else []

theorem fnd_bd (n v : List UInt8) (K : Int) : ∀ (l : List (Int × HD)) (c : Int), (∀ p ∈ l, 0 ≤ p.1 ∧ p.1 ≤ K) → 0 ≤ c → c ≤ K → 0 ≤ (B.fnd n v c l).1 ∧ (B.fnd n v c l).1 ≤ K
  | [], c, _, h0, h1 => ⟨h0, h1⟩
  | (i, h) :: t, c, hl, h0, h1 => by
    have hi := hl (i, h) (by simp)
    have ht : ∀ p ∈ t, 0 ≤ p.1 ∧ p.1 ≤ K := fun p hp => hl p (by simp [hp])
    unfold B.fnd
    split
    · exact fnd_bd n v K t c ht h0 h1
    · split
      · exact hi
      · split
        · exact fnd_bd n v K t i ht hi.1 hi.2
        · exact fnd_bd n v K t c ht h0 h1
theorem num_bd : ∀ (l : List HD) (i : Nat), ∀ p ∈ B.num i l, (0 : Int) ≤ p.1 ∧ p.1 ≤ ((i + l.length : Nat) : Int)
  | [], _, p, h => by cases h
  | a :: l, i, p, h => by
    simp only [B.num, List.mem_cons] at h
    rcases h with rfl | h
    · simp only [List.length_cons]
      omega
    · have := num_bd l (i + 1) p h
      simp only [List.length_cons]
      omega
theorem fd_bd (L : List HD) (h : HD) (hL : L.length ≤ 128) : 0 ≤ (B.fnd h.1.toList h.2.toList 0 (B.allL L)).1 ∧ (B.fnd h.1.toList h.2.toList 0 (B.allL L)).1 ≤ 190 := by
  refine fnd_bd _ _ 190 _ 0 (fun p hp => ?_) (by omega) (by omega)
  unfold B.allL at hp
  rcases List.mem_append.1 hp with hp | hp
  · have := num_bd _ _ p hp
    rw [B.stL_len] at this
    omega
  · have := num_bd _ _ p hp
    rw [List.length_reverse] at this
    omega
theorem putT_len (s : List Nat) : (putT s).length ≤ s.length + 11 := by
  unfold putT
  split
  · have := (put_len 128 7 (H.sz s)).2
    rw [List.length_append, H.enc_len]
    omega
  · have := (put_len 0 7 s.length).2
    rw [List.length_append]
    omega
theorem nm_len (first b i : Nat) (h : HD) : (nm first b i h).length ≤ h.1.size + h.2.size + 33 := by
  have h1 := (put_len first b i).2
  have h2 := putT_len (by_ h.1)
  have h3 := putT_len (by_ h.2)
  rw [by_len] at h2 h3
  unfold nm
  rw [List.length_append, List.length_append]
  split
  · omega
  · simp only [List.length_nil]
    omega
theorem one_len (m : Nat) (L : List HD) (x : HD × Bool) : (one m L x).1.length ≤ x.1.1.size + x.1.2.size + 33 := by
  unfold one
  split
  · exact nm_len _ _ _ _
  · split
    · have := (put_len 128 7 (fd L x.1).1).2
      simp only
      omega
    · split
      · exact nm_len _ _ _ _
      · exact nm_len _ _ _ _
end P
end Go.Proofs.YtcbljbdcnahfhaaDoor
/- Kenc -/
namespace Go.Proofs.YtcbljbdcnahfhaaDoor
open Go.RowKit

/-- Below block B, but for block g, all is as it was. -/
structure OnlyB (B g : Nat) (w w' : World) : Prop where
  os : w'.os = w.os
  tape : w'.tape = w.tape
  output : w'.output = w.output
  size : w.heap.size ≤ w'.heap.size
  block : ∀ k, k < B → k ≠ g → w'.heap[k]? = w.heap[k]?
theorem OnlyB.refl (B g : Nat) (w : World) : OnlyB B g w w := ⟨rfl, rfl, rfl, Nat.le_refl _, fun _ _ _ => rfl⟩
theorem OnlyB.trans {B g : Nat} {a b c : World} (h : OnlyB B g a b) (k : OnlyB B g b c) : OnlyB B g a c :=
  ⟨k.os.trans h.os, k.tape.trans h.tape, k.output.trans h.output, Nat.le_trans h.size k.size, fun i hi hn => (k.block i hi hn).trans (h.block i hi hn)⟩
theorem OnlyB.mono {B B' g : Nat} {a b : World} (h : OnlyB B g a b) (hB : B' ≤ B) : OnlyB B' g a b := ⟨h.os, h.tape, h.output, h.size, fun i hi hn => h.block i (by omega) hn⟩
theorem OnlyB.of_below {B g : Nat} {a b : World} (h : Below B a b) : OnlyB B g a b := ⟨h.os, h.tape, h.output, h.size, fun i hi _ => h.block i hi⟩
theorem OnlyB.of_only {B g : Nat} {a b : World} (h : Only g a b) (hB : B ≤ a.heap.size) : OnlyB B g a b := by
  have h' : a.grownBy b (some g) := h
  exact ⟨h'.os, h'.tape, h'.output, h'.size, fun i hi hn => h'.block i (by omega) (fun e => hn (Option.some.inj e))⟩
theorem OnlyB.cell {B g : Nat} {a b : World} (h : OnlyB B g a b) {k o : Nat} {v : Value} (hk : k < B) (hn : k ≠ g) (hc : a.cell? ⟨k, o, none⟩ = some v) : b.cell? ⟨k, o, none⟩ = some v :=
  (World.cell?_of_block (a := ⟨k, o, none⟩) (h.block k hk hn)).trans hc
theorem OnlyB.frozen {B g : Nat} {a b : World} (h : OnlyB B g a b) {k o : Nat} {v : Bool} (hk : k < B) (hn : k ≠ g) (hc : a.frozen? ⟨k, o, none⟩ = v) : b.frozen? ⟨k, o, none⟩ = v :=
  (World.frozen?_of_block (a := ⟨k, o, none⟩) (h.block k hk hn)).trans hc
theorem below_drew' (w : World) : Below w.heap.size w w.drew := ⟨rfl, rfl, rfl, Nat.le_refl _, fun _ _ => rfl⟩

/-- A header's variable, whose cells are known. -/
def HBox (w : World) (g : Nat) (n v : ByteArray) (b : Bool) : Prop := w.heap[g]? = some (.cells #[.string n, .string v, .bool b] 66 (0, 0))
theorem HBox.cells {w : World} {g : Nat} {n v : ByteArray} {b : Bool} (h : HBox w g n v b) : w.cell? ⟨g, 0, none⟩ = some (.string n) ∧ w.cell? ⟨g, 1, none⟩ = some (.string v) ∧ w.cell? ⟨g, 2, none⟩ = some (.bool b) :=
  ⟨by rw [cell_of_row w g 0 _ _ _ h]; rfl, by rw [cell_of_row w g 1 _ _ _ h]; rfl, by rw [cell_of_row w g 2 _ _ _ h]; rfl⟩
theorem HBox.noB {w w' : World} {g : Nat} {n v : ByteArray} {b : Bool} (h : HBox w g n v b) (hn : NoB w w') : HBox w' g n v b := hn g _ h (fun C e => by cases e)
theorem HBox.only {w w' : World} {g b : Nat} {n v : ByteArray} {nv : Bool} (h : HBox w b n v nv) (ho : Only g w w') (hne : b ≠ g) : HBox w' b n v nv := by
  have ho' : w.grownBy w' (some g) := ho
  exact (ho'.block b (Array.getElem?_eq_some_iff.1 h).1 (fun e => hne (Option.some.inj e))).trans h
theorem OwnN.only {B g : Nat} {w w' : World} {v : Value} {l : List Nat} (h : OwnN B w v l) (ho : Only g w w') (hg : g < B) : OwnN B w' v l :=
  World.ownsRow.kept h ho (by
    cases e : v.ownBlock with
    | none => exact Or.inl rfl
    | some k =>
      have := (World.ownsRow.lt h k e).1
      exact Or.inr (fun e => by cases e; omega))
theorem HBox.new (w : World) (n v : ByteArray) (b : Bool) : HBox (w.alloc (.cells #[.string n, .string v, .bool b] 66)) w.heap.size n v b := heap_alloc_new w _

set_option maxRecDepth 100000 in
set_option maxHeartbeats 1000000 in
theorem appendNamed_any (B : Nat) (a : Option Addr) (cp : Nat) (l : List Nat) (first b i : Nat) (n v : ByteArray) (nv : Bool) (w : World) (hv : OwnN B w (.slice a l.length cp) l) (hb1 : 1 ≤ b) (hb : b ≤ 8) (hf : first % 2 ^ b = 0) (hf2 : first + P.full b < 256) (hi : i ≤ 2147483647)
    (hn : n.size ≤ 100000000) (hvs : v.size ≤ 100000000) (hsz : l.length ≤ 10000000000) (hB : B ≤ w.heap.size) :
    Calls Tryd.prog 76 #[.slice a l.length cp, .int .i64 (first : Nat), .int .i64 (b : Nat), .int .i64 (i : Nat), .agg #[.string n, .string v, .bool nv]] w (OwnPostN B (l ++ P.nm first b i (n, v)) w) := by
  have HO := Lib.hid hv
  clear hv
  obtain ⟨w0, hw0⟩ : ∃ w0, w0 = w.alloc (.cells #[.string n, .string v, .bool nv] 66) := ⟨_, rfl⟩
  have hb0 : Below w.heap.size w w0 := by rw [hw0]; exact (Below.refl _ _).alloc (Nat.le_refl _) _
  have hx : HBox w0 w.heap.size n v nv := by rw [hw0]; exact HBox.new w n v nv
  have hz0 := hb0.size
  have HP : Hid (P.nm first b i (n, v) = P.put first b i ++ ((if i = 0 then P.putT (by_ n) else []) ++ P.putT (by_ v))) := rfl
  have HA := Lib.hid (appendInt_any B a cp l first b i w0 (HO.out.below hb0) hb1 hb hf hf2 hi (by omega) (by omega))
  have hl1 := (P.put_len first b i).2
  have hl2 := P.putT_len (by_ n)
  rw [by_len] at hl2
  obtain ⟨L1, hL1⟩ : ∃ L1, L1 = l ++ P.put first b i := ⟨_, rfl⟩
  have hs1 : L1.length ≤ l.length + 11 := by rw [hL1, List.length_append]; omega
  have HL1 := Lib.hid hL1
  rw [← hL1] at HA
  have HB0 := Lib.hid hb0
  have HX0 := Lib.hid hx
  clear hL1 hl1 hb0 hx
  go_enter Tryd.func76, Tryd.ntmps76
  go_wp2_with fail
  rw [← hw0]
  clear hw0
  refine HA.out.mono ?_
  rintro e w1 ⟨v1, rfl, hv1, hb1', hn1⟩
  obtain ⟨g1, cp1, rfl⟩ := hv1.2
  have HV1 := Lib.hid hv1
  have HB1 := Lib.hid ((HB0.out.mono hB).trans hb1')
  have HN1 := Lib.hid ((NoB.below HB0.out).trans hn1)
  have hz1 := hb1'.size
  have HX1 := Lib.hid (HX0.out.noB hn1)
  obtain ⟨y0, y1, _⟩ := HX1.out.cells
  clear hv1 hb1' hn1 HA HB0 HX0 HO
  by_cases h0 : i = 0
  · subst h0
    rw [if_pos rfl] at HP
    have HT := Lib.hid (appendText_any B (some ⟨g1, 0, none⟩) cp1 L1 n w1 HV1.out.1 hn (by omega) (by omega))
    obtain ⟨L2, hL2⟩ : ∃ L2, L2 = L1 ++ P.putT (by_ n) := ⟨_, rfl⟩
    have hs2 : L2.length ≤ l.length + 11 + (n.size + 11) := by rw [hL2, List.length_append]; omega
    have HL2 := Lib.hid hL2
    rw [← hL2] at HT
    clear hL2
    go_wp2_with fail
    refine HT.out.mono ?_
    rintro e w2 ⟨v2, rfl, hv2, hb2, hn2⟩
    obtain ⟨g2, cp2, rfl⟩ := hv2.2
    have HV2 := Lib.hid hv2
    have HB2 := Lib.hid (HB1.out.trans hb2)
    have HN2 := Lib.hid (HN1.out.trans hn2)
    have hz2 := hb2.size
    have HX2 := Lib.hid (HX1.out.noB hn2)
    clear y0 y1
    obtain ⟨_, y1, _⟩ := HX2.out.cells
    clear hv2 hb2 hn2 HT HB1 HN1 HX1 HV1
    go_wp2_with fail
    refine (appendText_any B (some ⟨g2, 0, none⟩) cp2 L2 v w2 HV2.out.1 hvs (by omega) (by omega)).mono ?_
    rintro e w3 ⟨v3, rfl, hv3, hb3, hn3⟩
    have HV3 := Lib.hid hv3
    have HB3 := Lib.hid (HB2.out.trans hb3)
    have HN3 := Lib.hid (HN2.out.trans hn3)
    clear hv3 hb3 hn3 y1
    go_wp2
    go_ret
    refine ⟨_, rfl, ?_, HB3.out, HN3.out⟩
    rw [HP.out, ← List.append_assoc, ← List.append_assoc, ← HL1.out, ← HL2.out]
    exact HV3.out
  · rw [if_neg h0] at HP
    have hne : ((i : Int) == 0) = false := by simp; omega
    go_wp2_with fail
    refine (appendText_any B (some ⟨g1, 0, none⟩) cp1 L1 v w1 HV1.out.1 hvs (by omega) (by omega)).mono ?_
    rintro e w3 ⟨v3, rfl, hv3, hb3, hn3⟩
    have HV3 := Lib.hid hv3
    have HB3 := Lib.hid (HB1.out.trans hb3)
    have HN3 := Lib.hid (HN1.out.trans hn3)
    clear hv3 hb3 hn3 y1
    go_wp2
    go_ret
    refine ⟨_, rfl, ?_, HB3.out, HN3.out⟩
    rw [HP.out, List.nil_append, ← List.append_assoc, ← HL1.out]
    exact HV3.out

/-- What appendHeader hands back. -/
def HdrPost (Bd g m : Nat) (l : List Nat) (r : List Nat × List B.HD) (w : World) (e : Ending) (w' : World) : Prop :=
  ∃ v, e = .returned v ∧ Own Bd w' v (l ++ r.1) ∧ Tab w' g r.2 m ∧ OnlyB Bd g w w'

set_option maxRecDepth 100000 in
set_option maxHeartbeats 2000000 in
theorem appendHeader_any (Bd eB g m : Nat) (L : List B.HD) (a : Option Addr) (cp : Nat) (l : List Nat) (n v : ByteArray) (nv : Bool) (w : World) (hv : OwnN Bd w (.slice a l.length cp) l) (hE0 : w.cell? ⟨eB, 0, none⟩ = some (.pointer (some ⟨g, 0, none⟩))) (hT : Tab w g L m)
    (_heB : eB < Bd) (hg : g < Bd) (hne : eB ≠ g) (hn : n.size ≤ 100000000) (hvs : v.size ≤ 100000000) (hsz : l.length ≤ 10000000000) (hB : Bd ≤ w.heap.size) :
    Calls Tryd.prog 53 #[.pointer (some ⟨eB, 0, none⟩), .slice a l.length cp, .agg #[.string n, .string v, .bool nv]] w (HdrPost Bd g m l (P.one m L ((n, v), nv)) w) := by
  obtain ⟨w0, hw0⟩ : ∃ w0, w0 = w.alloc (.cells #[.string n, .string v, .bool nv] 66) := ⟨_, rfl⟩
  have hb0 : Below w.heap.size w w0 := by rw [hw0]; exact (Below.refl _ _).alloc (Nat.le_refl _) _
  have hx : HBox w0 w.heap.size n v nv := by rw [hw0]; exact HBox.new w n v nv
  have hz0 : w.heap.size < w0.heap.size := by rw [hw0]; simp
  have HO := Lib.hid (hv.below hb0)
  have HT := Lib.hid (hT.below hb0)
  have hl128 := hT.le.1
  have HE := Lib.hid (cell_below hb0 hE0)
  have HX := Lib.hid hx
  have HB0 := Lib.hid (OnlyB.of_below (g := g) (hb0.mono hB))
  have hfd := P.fd_bd L (n, v) hl128
  obtain ⟨zi, hzi⟩ : ∃ zi : Nat, (B.fnd n.toList v.toList 0 (B.allL L)).1 = (zi : Int) := ⟨(B.fnd n.toList v.toList 0 (B.allL L)).1.toNat, by simp only at hfd; omega⟩
  have hzi2 : zi ≤ 190 := by simp only at hfd; omega
  obtain ⟨zb, hzb⟩ : ∃ zb, zb = (B.fnd n.toList v.toList 0 (B.allL L)).2 := ⟨_, rfl⟩
  have HFd : Hid (∀ ww, Tab ww g L m → Calls Tryd.prog 75 #[.pointer (some ⟨g, 0, none⟩), .string n, .string v] ww fun e w' => e = .returned (.tuple #[.int .i64 (zi : Nat), .bool zb]) ∧ Below ww.heap.size ww w') := fun ww h => by
    have := find_any g m L n v ww h
    rw [hzi, ← hzb] at this
    exact this
  have hfdv : P.fd L (n, v) = (zi, zb) := by
    unfold P.fd
    rw [hzb]
    simp only [hzi, Int.toNat_natCast]
  have HOne : Hid (P.one m L ((n, v), nv) = if nv = true then (P.nm 16 4 zi (n, v), L) else if zb = true then (P.put 128 7 zi, L) else if m < B.sz (n, v) then (P.nm 0 4 zi (n, v), L) else (P.nm 64 6 zi (n, v), B.add m L (n, v))) := by
    show _ = _
    unfold P.one
    simp only [hfdv]
  clear hfdv hzi hzb hfd hv hT hE0 hx
  go_enter Tryd.func53, Tryd.ntmps53
  go_upto_region 1 with (fail)
  rw [← hw0]
  clear hw0
  have hS : Hid (w0.cell? ⟨eB, 0, none⟩ = some (.pointer (some ⟨g, 0, none⟩)) ∧ w0.cell? ⟨w.heap.size, 0, none⟩ = some (.string n) ∧ w0.cell? ⟨w.heap.size, 1, none⟩ = some (.string v)) := ⟨HE.out, HX.out.cells.1, HX.out.cells.2.1⟩
  go_region_held3 (fun ww => ww.cell? ⟨eB, 0, none⟩ = some (.pointer (some ⟨g, 0, none⟩)) ∧ ww.cell? ⟨w.heap.size, 0, none⟩ = some (.string n) ∧ ww.cell? ⟨w.heap.size, 1, none⟩ = some (.string v)) (first | exact hS.out | exact HS1.out) (first | (go_at_call 75; refine (HFd.out w0.drew (HT.out.below (below_drew' w0))).mono ?_; rintro e w1 ⟨rfl, hb1⟩; have HB1 : Hid (Below w0.heap.size w0 w1) := (below_drew' w0).trans hb1; clear hb1; have HS1 : Hid (w1.cell? ⟨eB, 0, none⟩ = some (.pointer (some ⟨g, 0, none⟩)) ∧ w1.cell? ⟨w.heap.size, 0, none⟩ = some (.string n) ∧ w1.cell? ⟨w.heap.size, 1, none⟩ = some (.string v)) := ⟨cell_below HB1.out hS.out.1, cell_below HB1.out hS.out.2.1, cell_below HB1.out hS.out.2.2⟩))
  have hz1 := HB1.out.size
  have HO1 := Lib.hid (HO.out.below HB1.out)
  have HT1 := Lib.hid (HT.out.below HB1.out)
  have HX1 : Hid (HBox w1 w.heap.size n v nv) := HX.out.noB (NoB.below HB1.out)
  have HB2 := Lib.hid (HB0.out.trans (OnlyB.of_below (g := g) (HB1.out.mono (by omega))))
  obtain ⟨x0, x1, x2⟩ := HX1.out.cells
  have HE1 := Lib.hid HS1.out.1
  clear HO HT HX HB0 HB1 hS HS1 HE
  cases nv with
  | true =>
    have HN : Hid (Calls Tryd.prog 76 #[.slice a l.length cp, .int .i64 16, .int .i64 4, .int .i64 zi, .agg #[.string n, .string v, .bool true]] w1 (OwnPostN Bd (l ++ P.nm 16 4 zi (n, v)) w1)) := appendNamed_any Bd a cp l 16 4 zi n v true w1 HO1.out (by omega) (by omega) (by decide) (by decide) (by omega) hn hvs hsz (by omega)
    rw [if_pos rfl] at HOne
    go_wp2_with fail
    refine HN.out.mono ?_
    rintro e w2 ⟨v2, rfl, hv2, hb2, _⟩
    have HV2 := Lib.hid hv2
    have H2 := Lib.hid hb2
    clear hv2 hb2 x0 x1 x2
    go_wp2
    go_ret
    rw [HOne.out]
    exact ⟨_, rfl, HV2.out, HT1.out.belowB H2.out hg, HB2.out.trans (OnlyB.of_below H2.out)⟩
  | false =>
    rw [if_neg (by simp)] at HOne
    cases zb with
    | true =>
      have HN : Hid (Calls Tryd.prog 40 #[.slice a l.length cp, .int .i64 128, .int .i64 7, .int .i64 zi] w1 (OwnPostN Bd (l ++ P.put 128 7 zi) w1)) := appendInt_any Bd a cp l 128 7 zi w1 HO1.out (by omega) (by omega) (by decide) (by decide) (by omega) (by omega) (by omega)
      rw [if_pos rfl] at HOne
      go_wp2_with fail
      refine HN.out.mono ?_
      rintro e w2 ⟨v2, rfl, hv2, hb2, _⟩
      have HV2 := Lib.hid hv2
      have H2 := Lib.hid hb2
      clear hv2 hb2 x0 x1 x2
      go_wp2
      go_ret
      rw [HOne.out]
      exact ⟨_, rfl, HV2.out, HT1.out.belowB H2.out hg, HB2.out.trans (OnlyB.of_below H2.out)⟩
    | false =>
      rw [if_neg (by simp)] at HOne
      have HSz := Lib.hid (fun w => size_any n v false w (by omega) (by omega))
      have hszz : B.sz (n, v) ≤ 281474976710688 := by unfold B.sz; simp only; omega
      obtain ⟨s, hs⟩ : ∃ s, s = B.sz (n, v) := ⟨_, rfl⟩
      rw [← hs] at HSz HOne hszz
      clear hs
      have HM : Hid (∀ ww, Below w1.heap.size w1 ww → Calls Tryd.prog 74 #[.pointer (some ⟨g, 0, none⟩)] ww fun e w' => e = .returned (.int .i64 m) ∧ ww = w') := fun ww hb => most_any ww g m (by obtain ⟨R, o, _, h2, _⟩ := HT1.out.below hb; exact h2.m.1)
      go_upto_region 6 with (fail)
      have hS : Hid (w1.cell? ⟨eB, 0, none⟩ = some (.pointer (some ⟨g, 0, none⟩)) ∧ w1.cell? ⟨w.heap.size, 0, none⟩ = some (.string n) ∧ w1.cell? ⟨w.heap.size, 1, none⟩ = some (.string v) ∧ w1.cell? ⟨w.heap.size, 2, none⟩ = some (.bool false)) := ⟨HE1.out, x0, x1, x2⟩
      clear x0 x1 x2
      go_region_held3 (fun ww => ww.cell? ⟨eB, 0, none⟩ = some (.pointer (some ⟨g, 0, none⟩)) ∧ ww.cell? ⟨w.heap.size, 0, none⟩ = some (.string n) ∧ ww.cell? ⟨w.heap.size, 1, none⟩ = some (.string v) ∧ ww.cell? ⟨w.heap.size, 2, none⟩ = some (.bool false)) (first | exact hS.out | exact HS2.out) (first
        | (go_at_call 56; refine (HSz.out w1.drew).mono ?_; rintro e w2 ⟨rfl, hb2⟩; have HB3 : Hid (Below w1.heap.size w1 w2) := (below_drew' w1).trans hb2; clear hb2; have HS2 : Hid (w2.cell? ⟨eB, 0, none⟩ = some (.pointer (some ⟨g, 0, none⟩)) ∧ w2.cell? ⟨w.heap.size, 0, none⟩ = some (.string n) ∧ w2.cell? ⟨w.heap.size, 1, none⟩ = some (.string v) ∧ w2.cell? ⟨w.heap.size, 2, none⟩ = some (.bool false)) := ⟨cell_below HB3.out hS.out.1, cell_below HB3.out hS.out.2.1, cell_below HB3.out hS.out.2.2.1, cell_below HB3.out hS.out.2.2.2⟩)
        | (go_at_call 74; refine (HM.out w2 HB3.out).mono ?_; rintro e wA ⟨rfl, rfl⟩)
        | (go_at_call 74; refine (HM.out w1.drew (below_drew' w1)).mono ?_; rintro e wA ⟨rfl, rfl⟩))
      have hz2 := HB3.out.size
      have HO2 := Lib.hid (HO1.out.below HB3.out)
      have HT2 := Lib.hid (HT1.out.below HB3.out)
      have HX2 := Lib.hid (HX1.out.noB (NoB.below HB3.out))
      have HB4 := Lib.hid (HB2.out.trans (OnlyB.of_below (g := g) (HB3.out.mono (by omega))))
      clear HO1 HT1 HX1 HB2 HB3 hS HE1 HM HSz
      by_cases hms : m < s
      · rw [if_pos hms] at HOne
        have HN : Hid (Calls Tryd.prog 76 #[.slice a l.length cp, .int .i64 0, .int .i64 4, .int .i64 zi, .agg #[.string n, .string v, .bool false]] w2 (OwnPostN Bd (l ++ P.nm 0 4 zi (n, v)) w2)) := appendNamed_any Bd a cp l 0 4 zi n v false w2 HO2.out (by omega) (by omega) (by decide) (by decide) (by omega) hn hvs hsz (by omega)
        obtain ⟨_, y0, y1, y2⟩ := HS2.out
        clear HS2
        go_wp2_with fail
        refine HN.out.mono ?_
        rintro e w3 ⟨v3, rfl, hv3, hb3, _⟩
        have HV3 := Lib.hid hv3
        have H3 := Lib.hid hb3
        clear hv3 hb3 y0 y1 y2
        go_wp2
        go_ret
        rw [HOne.out]
        exact ⟨_, rfl, HV3.out, HT2.out.belowB H3.out hg, HB4.out.trans (OnlyB.of_below H3.out)⟩
      · rw [if_neg hms] at HOne
        have HA := Lib.hid (add_any g L m n v false w2.drew (by omega) (by omega) (HT2.out.below (below_drew' w2)))
        go_upto_region 8 with (fail)
        go_region_held3 (fun ww => ww.cell? ⟨eB, 0, none⟩ = some (.pointer (some ⟨g, 0, none⟩)) ∧ ww.cell? ⟨w.heap.size, 0, none⟩ = some (.string n) ∧ ww.cell? ⟨w.heap.size, 1, none⟩ = some (.string v) ∧ ww.cell? ⟨w.heap.size, 2, none⟩ = some (.bool false)) (first | exact HS2.out | exact HS3.out) (first
          | (go_at_call 77; refine HA.out.mono ?_; rintro e w3 ⟨rfl, hT3, hO3⟩; have HT3 := Lib.hid hT3; have HO3 : Hid (Only g w2 w3) := (Below.only (below_drew' w2)).trans hO3; clear hT3 hO3; have HX3 := Lib.hid (HX2.out.only HO3.out (by omega)); have HS3 : Hid (w3.cell? ⟨eB, 0, none⟩ = some (.pointer (some ⟨g, 0, none⟩)) ∧ w3.cell? ⟨w.heap.size, 0, none⟩ = some (.string n) ∧ w3.cell? ⟨w.heap.size, 1, none⟩ = some (.string v) ∧ w3.cell? ⟨w.heap.size, 2, none⟩ = some (.bool false)) := ⟨HO3.out.cell hne HS2.out.1, HX3.out.cells.1, HX3.out.cells.2.1, HX3.out.cells.2.2⟩))
        have hz3 := HO3.out.size
        have HO4 := Lib.hid (HO2.out.only HO3.out hg)
        have HB5 := Lib.hid (HB4.out.trans (OnlyB.of_only HO3.out (by omega)))
        obtain ⟨_, y0, y1, y2⟩ := HS3.out
        clear HS2 HS3 HO2 HT2 HX2 HB4 HA HO3 HX3
        have HN : Hid (Calls Tryd.prog 76 #[.slice a l.length cp, .int .i64 64, .int .i64 6, .int .i64 zi, .agg #[.string n, .string v, .bool false]] w3 (OwnPostN Bd (l ++ P.nm 64 6 zi (n, v)) w3)) := appendNamed_any Bd a cp l 64 6 zi n v false w3 HO4.out (by omega) (by omega) (by decide) (by decide) (by omega) hn hvs hsz (by omega)
        go_wp2_with fail
        refine HN.out.mono ?_
        rintro e w4 ⟨v4, rfl, hv4, hb4, _⟩
        have HV4 := Lib.hid hv4
        have H4 := Lib.hid hb4
        clear hv4 hb4 y0 y1 y2
        go_wp2
        go_ret
        rw [HOne.out]
        exact ⟨_, rfl, HV4.out, HT3.out.belowB H4.out hg, HB5.out.trans (OnlyB.of_below H4.out)⟩
end Go.Proofs.YtcbljbdcnahfhaaDoor
/- Kencb -/
namespace Go.Proofs.YtcbljbdcnahfhaaDoor
open Go.RowKit

namespace P
theorem enc_app (m : Nat) : ∀ (xs ys : List (B.HD × Bool)) (L : List B.HD), enc m L (xs ++ ys) = ((enc m L xs).1 ++ (enc m (enc m L xs).2 ys).1, (enc m (enc m L xs).2 ys).2)
  | [], ys, L => by simp [enc]
  | x :: t, ys, L => by
    rw [List.cons_append, enc, enc_app m t ys, enc]
    simp only [List.append_assoc]
theorem enc_take (m : Nat) (L : List B.HD) (xs : List (B.HD × Bool)) (k : Nat) (x : B.HD × Bool) (hx : xs[k]? = some x) :
    enc m L (xs.take (k + 1)) = ((enc m L (xs.take k)).1 ++ (one m (enc m L (xs.take k)).2 x).1, (one m (enc m L (xs.take k)).2 x).2) := by
  have e : xs.take (k + 1) = xs.take k ++ [x] := by rw [List.take_add_one, hx]; rfl
  rw [e, enc_app]
  simp [enc]
theorem enc_len (m M : Nat) : ∀ (xs : List (B.HD × Bool)) (L : List B.HD), (∀ x ∈ xs, x.1.1.size + x.1.2.size ≤ M) → (enc m L xs).1.length ≤ xs.length * (M + 33)
  | [], L, _ => by simp [enc]
  | x :: t, L, h => by
    have h1 := one_len m L x
    have h2 := h x (by simp)
    have h3 := enc_len m M t (one m L x).2 (fun y hy => h y (by simp [hy]))
    rw [enc]
    simp only [List.length_append, List.length_cons, Nat.add_mul]
    omega
end P

/-- An encoder's cells. -/
structure EncC (w : World) (eB g : Nat) (asked : Bool) (least : Nat) : Prop where
  c0 : w.cell? ⟨eB, 0, none⟩ = some (.pointer (some ⟨g, 0, none⟩))
  c1 : w.cell? ⟨eB, 1, none⟩ = some (.bool asked) ∧ w.frozen? ⟨eB, 1, none⟩ = false
  c2 : w.cell? ⟨eB, 2, none⟩ = some (.int .i64 (least : Nat)) ∧ w.frozen? ⟨eB, 2, none⟩ = false
theorem EncC.block {w w' : World} {eB g : Nat} {asked : Bool} {least : Nat} (h : EncC w eB g asked least) (hb : w'.heap[eB]? = w.heap[eB]?) : EncC w' eB g asked least :=
  ⟨(World.cell?_of_block (a := ⟨eB, 0, none⟩) hb).trans h.c0, ⟨(World.cell?_of_block (a := ⟨eB, 1, none⟩) hb).trans h.c1.1, (World.frozen?_of_block (a := ⟨eB, 1, none⟩) hb).trans h.c1.2⟩, ⟨(World.cell?_of_block (a := ⟨eB, 2, none⟩) hb).trans h.c2.1, (World.frozen?_of_block (a := ⟨eB, 2, none⟩) hb).trans h.c2.2⟩⟩
theorem EncC.lt {w : World} {eB g : Nat} {asked : Bool} {least : Nat} (h : EncC w eB g asked least) : eB < w.heap.size := World.block_lt_of_cell? _ _ h.c0
theorem EncC.below {w w' : World} {eB g : Nat} {asked : Bool} {least : Nat} (h : EncC w eB g asked least) (hb : Below w.heap.size w w') : EncC w' eB g asked least := h.block (hb.block eB h.lt)

/-- Below block B, but for two blocks, all is as it was. -/
structure Only2 (B g h : Nat) (w w' : World) : Prop where
  os : w'.os = w.os
  tape : w'.tape = w.tape
  output : w'.output = w.output
  size : w.heap.size ≤ w'.heap.size
  block : ∀ k, k < B → k ≠ g → k ≠ h → w'.heap[k]? = w.heap[k]?
theorem Only2.trans {B g h : Nat} {a b c : World} (x : Only2 B g h a b) (y : Only2 B g h b c) : Only2 B g h a c :=
  ⟨y.os.trans x.os, y.tape.trans x.tape, y.output.trans x.output, Nat.le_trans x.size y.size, fun i hi h1 h2 => (y.block i hi h1 h2).trans (x.block i hi h1 h2)⟩
theorem OnlyB.two1 {B g h : Nat} {a b : World} (x : OnlyB B g a b) : Only2 B g h a b := ⟨x.os, x.tape, x.output, x.size, fun i hi h1 _ => x.block i hi h1⟩
theorem OnlyB.two2 {B g h : Nat} {a b : World} (x : OnlyB B h a b) : Only2 B g h a b := ⟨x.os, x.tape, x.output, x.size, fun i hi _ h2 => x.block i hi h2⟩
theorem Only2.below {B g h K : Nat} {a b c : World} (x : Below K a b) (y : Only2 B g h b c) (hB : K ≤ B) (hg : K ≤ g) (hh : K ≤ h) : Below K a c :=
  ⟨y.os.trans x.os, y.tape.trans x.tape, y.output.trans x.output, Nat.le_trans x.size y.size, fun i hi => (y.block i (by omega) (by omega) (by omega)).trans (x.block i hi)⟩

/-- What appendSizes hands back. -/
def SzPost (eB g least : Nat) (bs : List Nat) (w : World) (e : Ending) (w' : World) : Prop :=
  ∃ v, e = .returned v ∧ OwnN w.heap.size w' v bs ∧ EncC w' eB g false least ∧ OnlyB w.heap.size eB w w'

set_option maxRecDepth 100000 in
set_option maxHeartbeats 1000000 in
theorem appendSizes_any (eB g m : Nat) (L : List B.HD) (asked : Bool) (least : Nat) (w : World) (hE : EncC w eB g asked least) (hT : Tab w g L m) (hne : eB ≠ g) (hl : asked = true → least ≤ 4096) :
    Calls Tryd.prog 52 #[.pointer (some ⟨eB, 0, none⟩), .slice none 0 0] w (SzPost eB g least (P.szs asked least m) w) := by
  have heB := hE.lt
  have hm := hT.le.2.2
  obtain ⟨c0, ⟨c1, f1⟩, c2, f2⟩ := hE
  cases asked with
  | false =>
    clear hT
    go_enter Tryd.func52, Tryd.ntmps52
    go_wp2
    go_ret
    exact ⟨_, rfl, ownN_nil _ _, ⟨c0, ⟨c1, f1⟩, c2, f2⟩, OnlyB.refl _ _ _⟩
  | true =>
    have hl4 : least ≤ 4096 := hl rfl
    obtain ⟨w1, hw1⟩ : ∃ w1, w1 = w.setCell ⟨eB, 1, none⟩ (.bool false) := ⟨_, rfl⟩
    have hz1 : w1.heap.size = w.heap.size := by rw [hw1]; simp
    have hC1 : EncC w1 eB g false least := by
      rw [hw1]
      exact ⟨(World.cell?_setCell_other _ _ _ _ (addr_ne (by omega))).trans c0, ⟨World.cell?_setCell_same _ _ _ c1, by rw [World.frozen?_setCell]; exact f1⟩, (World.cell?_setCell_other _ _ _ _ (addr_ne (by omega))).trans c2, by rw [World.frozen?_setCell]; exact f2⟩
    have hO1 : OnlyB w.heap.size eB w w1 := by rw [hw1]; exact ⟨rfl, rfl, rfl, by simp, fun k _ hk => Below.heap_setCell _ _ _ _ hk⟩
    have hT1 : Tab w1 g L m := by
      obtain ⟨R, o, h1, h2, h3⟩ := hT
      exact ⟨R, o, h1, by rw [hw1]; exact Blk.set_other h2 (p := ⟨eB, 1, none⟩) hne _, h3⟩
    have HC1 := Lib.hid hC1
    have HO1 := Lib.hid hO1
    have HM := Lib.hid (most_any w1 g m (by obtain ⟨R, o, _, h2, _⟩ := hT1; exact h2.m.1))
    clear hT hT1 hO1 hC1
    go_enter Tryd.func52, Tryd.ntmps52
    go_upto_region 4 with (fail)
    rw [← hw1]
    clear hw1 c0 c1 c2 f1 f2
    obtain ⟨c0, ⟨c1, f1⟩, c2, f2⟩ := HC1.out
    have HA : Hid (∀ (a : Option Addr) (cp : Nat) (l : List Nat) (k : Nat) (ww : World), OwnN w.heap.size ww (.slice a l.length cp) l → k ≤ 4096 → l.length ≤ 100 → w.heap.size ≤ ww.heap.size → Calls Tryd.prog 40 #[.slice a l.length cp, .int .i64 32, .int .i64 5, .int .i64 k] ww (OwnPostN w.heap.size (l ++ P.put 32 5 k) ww)) := fun a cp l k ww h1 h2 h3 h4 =>
      appendInt_any w.heap.size a cp l 32 5 k ww h1 (by omega) (by omega) (by decide) (by decide) (by omega) (by omega) h4
    have hp := (P.put_len 32 5 least).2
    by_cases hlm : least < m
    · have HS : Hid (P.szs true least m = P.put 32 5 least ++ P.put 32 5 m) := by show _ = _; unfold P.szs; rw [if_pos rfl, if_pos hlm]
      have q1 : (least : Int) < (m : Int) := by omega
      go_wp2_with (go_at_call 74; refine HM.out.mono ?_; rintro e wA ⟨rfl, rfl⟩)
      refine (HA.out none 0 [] least w1 (ownN_nil _ _) hl4 (by simp) (by omega)).mono ?_
      rintro e w2 ⟨v2, rfl, hv2, hb2, _⟩
      rw [List.nil_append] at hv2
      obtain ⟨g2, cp2, rfl⟩ := hv2.2
      have HV2 := Lib.hid hv2.1
      have H2 := Lib.hid hb2
      have hz2 := hb2.size
      clear hv2 hb2 c0 c1 f1 c2 f2
      go_wp2_with fail
      refine (HA.out _ cp2 _ m w2 HV2.out hm (by omega) (by omega)).mono ?_
      rintro e w3 ⟨v3, rfl, hv3, hb3, _⟩
      have HV3 := Lib.hid hv3.1
      have H3 := Lib.hid (H2.out.trans hb3)
      clear hv3 hb3
      go_wp2
      go_ret
      refine ⟨_, rfl, ?_, HC1.out.block (H3.out.block eB heB), HO1.out.trans (OnlyB.of_below H3.out)⟩
      rw [HS.out]
      exact HV3.out
    · have HS : Hid (P.szs true least m = P.put 32 5 m) := by show _ = _; unfold P.szs; rw [if_pos rfl, if_neg hlm, List.nil_append]
      have q1 : ¬ (least : Int) < (m : Int) := by omega
      go_wp2_with (go_at_call 74; refine HM.out.mono ?_; rintro e wA ⟨rfl, rfl⟩)
      refine (HA.out none 0 [] m w1 (ownN_nil _ _) hm (by simp) (by omega)).mono ?_
      rintro e w3 ⟨v3, rfl, hv3, hb3, _⟩
      rw [List.nil_append] at hv3
      have HV3 := Lib.hid hv3.1
      have H3 := Lib.hid hb3
      clear hv3 hb3 c0 c1 f1 c2 f2
      go_wp2
      go_ret
      refine ⟨_, rfl, ?_, HC1.out.block (H3.out.block eB heB), HO1.out.trans (OnlyB.of_below H3.out)⟩
      rw [HS.out]
      exact HV3.out

/-- The slice at a reads as these headers, in blocks that R lets be. -/
def NRd (R : Nat → Prop) (w : World) (a : Option Addr) (l : List (B.HD × Bool)) : Prop :=
  ∀ (j : Nat) (x : B.HD × Bool), l[j]? = some x → ∃ b o, a = some ⟨b, o, none⟩ ∧ R b ∧ w.cell? ⟨b, o + j * 3, none⟩ = some (.string x.1.1) ∧ w.cell? ⟨b, o + j * 3 + 1, none⟩ = some (.string x.1.2) ∧ w.cell? ⟨b, o + j * 3 + 2, none⟩ = some (.bool x.2)
theorem NRd.two {R : Nat → Prop} {w w' : World} {a : Option Addr} {l : List (B.HD × Bool)} {B g h : Nat} (x : NRd R w a l) (hR : ∀ b, R b → b < B ∧ b ≠ g ∧ b ≠ h) (hb : Only2 B g h w w') : NRd R w' a l := fun j y hy => by
  obtain ⟨b, o, e, hr, c0, c1, c2⟩ := x j y hy
  obtain ⟨h1, h2, h3⟩ := hR b hr
  have hq := hb.block b h1 h2 h3
  exact ⟨b, o, e, hr, (World.cell?_of_block (a := ⟨b, o + j * 3, none⟩) hq).trans c0, (World.cell?_of_block (a := ⟨b, o + j * 3 + 1, none⟩) hq).trans c1, (World.cell?_of_block (a := ⟨b, o + j * 3 + 2, none⟩) hq).trans c2⟩
theorem NRd.below {R : Nat → Prop} {w w' : World} {a : Option Addr} {l : List (B.HD × Bool)} (x : NRd R w a l) (hb : Below w.heap.size w w') : NRd R w' a l := fun j y hy => by
  obtain ⟨b, o, e, hr, c0, c1, c2⟩ := x j y hy
  exact ⟨b, o, e, hr, cell_below hb c0, cell_below hb c1, cell_below hb c2⟩

/-- What Encode hands back. -/
def EncPost (eB g m least : Nat) (bs : List Nat) (L : List B.HD) (w : World) (e : Ending) (w' : World) : Prop :=
  ∃ v, e = .returned v ∧ OwnN w.heap.size w' v bs ∧ EncC w' eB g false least ∧ Tab w' g L m ∧ Only2 w.heap.size g eB w w'

set_option maxRecDepth 100000 in
set_option maxHeartbeats 2000000 in
theorem Encode_any (eB g m : Nat) (L : List B.HD) (asked : Bool) (least : Nat) (a : Option Addr) (n cp : Nat) (xs : List (B.HD × Bool)) (w : World) (hE : EncC w eB g asked least) (hT : Tab w g L m) (hne : eB ≠ g) (hl : asked = true → least ≤ 4096)
    (hxs : xs.length = n) (hr : NRd (fun b => b < w.heap.size ∧ b ≠ g ∧ b ≠ eB) w a xs) (hn : n ≤ 1000) (hsz : ∀ x ∈ xs, x.1.1.size + x.1.2.size ≤ 100000) :
    Calls Tryd.prog 28 #[.pointer (some ⟨eB, 0, none⟩), .slice a n cp] w (EncPost eB g m least (P.szs asked least m ++ (P.enc m L xs).1) (P.enc m L xs).2 w) := by
  have heB := hE.lt
  have hg := hT.lt
  have HS := Lib.hid (appendSizes_any eB g m L asked least w hE hT hne hl)
  have hszl : (P.szs asked least m).length ≤ 22 := by
    unfold P.szs
    have h1 := (P.put_len 32 5 least).2
    have h2 := (P.put_len 32 5 m).2
    split
    · rw [List.length_append]
      split
      · omega
      · simp only [List.length_nil]; omega
    · simp
  obtain ⟨s0, hs0⟩ : ∃ s0, s0 = P.szs asked least m := ⟨_, rfl⟩
  rw [← hs0] at HS hszl ⊢
  have HR := Lib.hid hr
  have HT := Lib.hid hT
  have HXs := Lib.hid hxs
  have HSz := Lib.hid hsz
  clear hs0 hE hr hT hxs hsz
  go_enter Tryd.func28, Tryd.ntmps28
  go_wp2_with fail
  refine HS.out.mono ?_
  rintro e w1 ⟨v1, rfl, hv1, hc1, ho1⟩
  obtain ⟨a1, cp1, rfl⟩ := hv1.shape
  have HV1 := Lib.hid hv1
  have HC1 := Lib.hid hc1
  have H1 : Hid (Only2 w.heap.size g eB w w1) := ho1.two2
  have hz1 := ho1.size
  have HT1 : Hid (Tab w1 g L m) := by
    obtain ⟨R, o, h1, h2, h3⟩ := HT.out
    exact ⟨R, o, h1, fun j hj => ⟨ho1.cell hg (by omega) (h2 j hj).1, ho1.frozen hg (by omega) (h2 j hj).2⟩, h3⟩
  clear hv1 hc1 ho1 HS HT
  go_wp2
  go_loopw [5, 12] (fun v i wr => ∃ (k : Nat) (a' : Option Addr) (cp' : Nat) (l' : List Nat), k ≤ n ∧ i = .int .i64 (k : Nat) ∧ v = .slice a' l'.length cp' ∧ Hid (l' = s0 ++ (P.enc m L (xs.take k)).1) ∧ Hid (OwnN w.heap.size wr (.slice a' l'.length cp') l') ∧ Hid (Tab wr g (P.enc m L (xs.take k)).2 m) ∧ Hid (EncC wr eB g false least) ∧ Hid (Only2 w.heap.size g eB w wr) ∧ w.heap.size ≤ wr.heap.size) (fun _ i _ => n - (intOf i).toNat)
  case atStart => exact ⟨0, a1, cp1, s0, by omega, rfl, rfl, by show _ = _; simp [P.enc], HV1, by simpa [P.enc] using HT1, HC1, H1, hz1⟩
  case round =>
    clear HV1 HC1 H1 hz1 HT1
    obtain ⟨k, a', cp', l', hk, rfl, rfl, HL', HV, HTr, HC, H2, hz⟩ := hrel
    by_cases hlt : k < n
    · obtain ⟨x, hx⟩ : ∃ x, xs[k]? = some x := ⟨_, List.getElem?_eq_getElem (by rw [HXs.out]; exact hlt)⟩
      have HTk := Lib.hid (P.enc_take m L xs k x hx)
      have hx3 := HSz.out x (List.mem_of_getElem? hx)
      obtain ⟨b, o, rfl, hrb, d0, d1, d2⟩ := HR.out.two (fun b h => h) H2.out k x hx
      have hll : l'.length ≤ 10000000000 := by
        have h1 := P.enc_len m 100000 (xs.take k) L (fun y hy => HSz.out y (List.mem_of_mem_take hy))
        have h2 := HL'.out
        have h3 : (xs.take k).length ≤ 1000 := Nat.le_trans (List.length_take_le _ _) (by omega)
        have h4 : (xs.take k).length * (100000 + 33) ≤ 1000 * (100000 + 33) := Nat.mul_le_mul_right _ h3
        rw [h2, List.length_append]
        omega
      obtain ⟨⟨xn, xv⟩, xb⟩ := x
      simp only at d0 d1 d2 hx3
      clear hx hrb
      have q1 : (k : Int) < (n : Int) := by omega
      have q0 : (0 : Int) ≤ (k : Int) := by omega
      have hba : Below wr.heap.size wr (wr.alloc (.cells #[.string xn, .string xv, .bool xb] 66)) := (Below.refl _ _).alloc (Nat.le_refl _) _
      have HA := Lib.hid (appendHeader_any w.heap.size eB g m (P.enc m L (xs.take k)).2 a' cp' l' xn xv xb (wr.alloc (.cells #[.string xn, .string xv, .bool xb] 66)) (HV.out.below hba) (HC.out.below hba).c0 (HTr.out.below hba) heB hg hne (by omega) (by omega) hll (Nat.le_trans hz hba.size))
      have HC3 := Lib.hid (HC.out.below hba)
      have H3 := Lib.hid (H2.out.trans ((OnlyB.of_below (B := w.heap.size) (g := g) (hba.mono hz)).two1 (h := eB)))
      clear hba HV HTr HC H2
      go_wp2_with fail
      refine HA.out.mono ?_
      rintro e w4 ⟨v4, rfl, hv4, ht4, ho4⟩
      obtain ⟨g4, cp4, rfl⟩ := hv4.2
      have HV4 : Hid (OwnN w.heap.size w4 (.slice (some ⟨g4, 0, none⟩) (l' ++ (P.one m (P.enc m L (xs.take k)).2 ((xn, xv), xb)).1).length cp4) (l' ++ (P.one m (P.enc m L (xs.take k)).2 ((xn, xv), xb)).1)) := hv4.1
      have HT4 := Lib.hid ht4
      have HC4 := Lib.hid (HC3.out.block (ho4.block eB heB hne))
      have H4 := Lib.hid (H3.out.trans (ho4.two1 (h := eB)))
      have hz4 : w.heap.size ≤ w4.heap.size := H4.out.size
      clear hv4 ht4 ho4 HA HC3 H3 d0 d1 d2
      go_wp2
      go_roundw
      case rel =>
        refine ⟨k + 1, some ⟨g4, 0, none⟩, cp4, l' ++ (P.one m (P.enc m L (xs.take k)).2 ((xn, xv), xb)).1, by omega, by rw [Int.natCast_add]; rfl, ?_, ?_, HV4, ?_, HC4, H4, hz4⟩
        · first | rfl | (rw [List.length_append])
        · show _ = _
          rw [HTk.out, HL'.out, List.append_assoc]
        · show Tab _ _ _ _
          rw [HTk.out]
          exact HT4.out
      case measure => simp [intOf]; omega
    · obtain rfl : k = n := by omega
      have q1 : ¬ (k : Int) < (k : Int) := by omega
      have ht : xs.take k = xs := List.take_of_length_le (by rw [HXs.out]; exact Nat.le_refl _)
      rw [ht] at HL' HTr
      clear ht
      go_wp2
      go_ret
      refine ⟨_, rfl, ?_, HC.out, HTr.out, H2.out⟩
      rw [← HL'.out]
      exact HV.out

/-- NewEncoder, of a most that may be. -/
theorem NewEncoder_yes (m : Nat) (w : World) (hm : m ≤ 4096) : Calls Tryd.prog 23 #[.int .i64 (m : Nat)] w fun e w' =>
    ∃ eB, e = .returned (.tuple #[.pointer (some ⟨eB, 0, none⟩), .nilIface]) ∧ w.heap.size < eB ∧ EncC w' eB w.heap.size false 0 ∧ Tab w' w.heap.size [] m ∧ Below w.heap.size w w' := by
  have HN := Lib.hid (new_yes m w hm)
  go_enter Tryd.func23, Tryd.ntmps23
  go_wp2_with fail
  refine HN.out.mono ?_
  rintro e w1 ⟨rfl, hT, hb⟩
  have HT := Lib.hid hT
  have HB := Lib.hid hb
  have hz := hT.lt
  clear hT hb
  go_wp2
  go_ret2
  have hba : Below w1.heap.size w1 (w1.alloc (.cells #[.pointer (some ⟨w.heap.size, 0, none⟩), .bool false, .int .i64 0] 90)) := (Below.refl _ _).alloc (Nat.le_refl _) _
  exact ⟨w1.heap.size, rfl, hz, ⟨by simp, ⟨by simp, by simp⟩, ⟨by simp, by simp⟩⟩, HT.out.below hba, HB.out.trans (hba.mono HB.out.size)⟩
theorem NewEncoder_no (m : Int) (e0 : Addr) (w : World) (hm : ¬ (0 ≤ m ∧ m ≤ 4096)) (hE : TE w e0) : Calls Tryd.prog 23 #[.int .i64 m] w fun e w' =>
    e = .returned (.tuple #[.pointer none, .iface 166 (.pointer (some e0))]) ∧ Below w.heap.size w w' := by
  have HN := Lib.hid (new_no m e0 w hm hE)
  clear hE
  go_enter Tryd.func23, Tryd.ntmps23
  go_wp2_with fail
  refine HN.out.mono ?_
  rintro e w1 ⟨rfl, hb⟩
  go_wp2
  go_ret2
  exact ⟨rfl, hb⟩
end Go.Proofs.YtcbljbdcnahfhaaDoor
