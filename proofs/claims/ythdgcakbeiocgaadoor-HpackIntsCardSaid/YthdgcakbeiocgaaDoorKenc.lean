/-
The walks of hpack's encoder: NewEncoder, appendNamed, appendHeader, appendSizes.
-/
import Derived.Deep.RegionHeld3
import Derived.Test.YthdgcakbeiocgaaDoorKmathb
import Derived.Test.YthdgcakbeiocgaaDoorKtext
import Derived.Test.YthdgcakbeiocgaaDoorBfind
import Derived.Test.YthdgcakbeiocgaaDoorBadd
import Derived.Test.YthdgcakbeiocgaaDoorBget
namespace Go.Proofs.YthdgcakbeiocgaaDoor
open Go.RowKit

/-- Below block B, but for block g, all is as it was. -/
structure OnlyB (B g : Nat) (w w' : World) : Prop where
  os : w'.os = w.os
  tape : w'.tape = w.tape
  output : w'.output = w.output
  size : w.heap.size ≤ w'.heap.size
  block : ∀ k, k < B → k ≠ g → w'.heap[k]? = w.heap[k]?
theorem OnlyB.refl (B g : Nat) (w : World) : OnlyB B g w w := ⟨rfl, rfl, rfl, Nat.le_refl _, fun _ _ _ => rfl⟩
theorem OnlyB.trans {B g : Nat} {a b c : World} (h : OnlyB B g a b) (k : OnlyB B g b c) : OnlyB B g a c :=
  ⟨k.os.trans h.os, k.tape.trans h.tape, k.output.trans h.output, Nat.le_trans h.size k.size, fun i hi hn => (k.block i hi hn).trans (h.block i hi hn)⟩
theorem OnlyB.mono {B B' g : Nat} {a b : World} (h : OnlyB B g a b) (hB : B' ≤ B) : OnlyB B' g a b := ⟨h.os, h.tape, h.output, h.size, fun i hi hn => h.block i (by omega) hn⟩
theorem OnlyB.of_below {B g : Nat} {a b : World} (h : Below B a b) : OnlyB B g a b := ⟨h.os, h.tape, h.output, h.size, fun i hi _ => h.block i hi⟩
theorem OnlyB.of_only {B g : Nat} {a b : World} (h : Only g a b) (hB : B ≤ a.heap.size) : OnlyB B g a b := by
  have h' : a.grownBy b (some g) := h
  exact ⟨h'.os, h'.tape, h'.output, h'.size, fun i hi hn => h'.block i (by omega) (fun e => hn (Option.some.inj e))⟩
theorem OnlyB.cell {B g : Nat} {a b : World} (h : OnlyB B g a b) {k o : Nat} {v : Value} (hk : k < B) (hn : k ≠ g) (hc : a.cell? ⟨k, o, none⟩ = some v) : b.cell? ⟨k, o, none⟩ = some v :=
  (World.cell?_of_block (a := ⟨k, o, none⟩) (h.block k hk hn)).trans hc
theorem OnlyB.frozen {B g : Nat} {a b : World} (h : OnlyB B g a b) {k o : Nat} {v : Bool} (hk : k < B) (hn : k ≠ g) (hc : a.frozen? ⟨k, o, none⟩ = v) : b.frozen? ⟨k, o, none⟩ = v :=
  (World.frozen?_of_block (a := ⟨k, o, none⟩) (h.block k hk hn)).trans hc
theorem below_drew' (w : World) : Below w.heap.size w w.drew := ⟨rfl, rfl, rfl, Nat.le_refl _, fun _ _ => rfl⟩

/-- A header's variable, whose cells are known. -/
def HBox (w : World) (g : Nat) (n v : ByteArray) (b : Bool) : Prop := w.heap[g]? = some (.cells #[.string n, .string v, .bool b] 66 (0, 0))
theorem HBox.cells {w : World} {g : Nat} {n v : ByteArray} {b : Bool} (h : HBox w g n v b) : w.cell? ⟨g, 0, none⟩ = some (.string n) ∧ w.cell? ⟨g, 1, none⟩ = some (.string v) ∧ w.cell? ⟨g, 2, none⟩ = some (.bool b) :=
  ⟨by rw [cell_of_row w g 0 _ _ _ h]; rfl, by rw [cell_of_row w g 1 _ _ _ h]; rfl, by rw [cell_of_row w g 2 _ _ _ h]; rfl⟩
theorem HBox.noB {w w' : World} {g : Nat} {n v : ByteArray} {b : Bool} (h : HBox w g n v b) (hn : NoB w w') : HBox w' g n v b := hn g _ h (fun C e => by cases e)
theorem HBox.only {w w' : World} {g b : Nat} {n v : ByteArray} {nv : Bool} (h : HBox w b n v nv) (ho : Only g w w') (hne : b ≠ g) : HBox w' b n v nv := by
  have ho' : w.grownBy w' (some g) := ho
  exact (ho'.block b (Array.getElem?_eq_some_iff.1 h).1 (fun e => hne (Option.some.inj e))).trans h
theorem OwnN.only {B g : Nat} {w w' : World} {v : Value} {l : List Nat} (h : OwnN B w v l) (ho : Only g w w') (hg : g < B) : OwnN B w' v l :=
  World.ownsRow.kept h ho (by
    cases e : v.ownBlock with
    | none => exact Or.inl rfl
    | some k =>
      have := (World.ownsRow.lt h k e).1
      exact Or.inr (fun e => by cases e; omega))
theorem HBox.new (w : World) (n v : ByteArray) (b : Bool) : HBox (w.alloc (.cells #[.string n, .string v, .bool b] 66)) w.heap.size n v b := heap_alloc_new w _

set_option maxRecDepth 100000 in
set_option maxHeartbeats 1000000 in
theorem appendNamed_any (B : Nat) (a : Option Addr) (cp : Nat) (l : List Nat) (first b i : Nat) (n v : ByteArray) (nv : Bool) (w : World) (hv : OwnN B w (.slice a l.length cp) l) (hb1 : 1 ≤ b) (hb : b ≤ 8) (hf : first % 2 ^ b = 0) (hf2 : first + P.full b < 256) (hi : i ≤ 2147483647)
    (hn : n.size ≤ 100000000) (hvs : v.size ≤ 100000000) (hsz : l.length ≤ 10000000000) (hB : B ≤ w.heap.size) :
    Calls Tryd.prog 76 #[.slice a l.length cp, .int .i64 (first : Nat), .int .i64 (b : Nat), .int .i64 (i : Nat), .agg #[.string n, .string v, .bool nv]] w (OwnPostN B (l ++ P.nm first b i (n, v)) w) := by
  have HO := Lib.hid hv
  clear hv
  obtain ⟨w0, hw0⟩ : ∃ w0, w0 = w.alloc (.cells #[.string n, .string v, .bool nv] 66) := ⟨_, rfl⟩
  have hb0 : Below w.heap.size w w0 := by rw [hw0]; exact (Below.refl _ _).alloc (Nat.le_refl _) _
  have hx : HBox w0 w.heap.size n v nv := by rw [hw0]; exact HBox.new w n v nv
  have hz0 := hb0.size
  have HP : Hid (P.nm first b i (n, v) = P.put first b i ++ ((if i = 0 then P.putT (by_ n) else []) ++ P.putT (by_ v))) := rfl
  have HA := Lib.hid (appendInt_any B a cp l first b i w0 (HO.out.below hb0) hb1 hb hf hf2 hi (by omega) (by omega))
  have hl1 := (P.put_len first b i).2
  have hl2 := P.putT_len (by_ n)
  rw [by_len] at hl2
  obtain ⟨L1, hL1⟩ : ∃ L1, L1 = l ++ P.put first b i := ⟨_, rfl⟩
  have hs1 : L1.length ≤ l.length + 11 := by rw [hL1, List.length_append]; omega
  have HL1 := Lib.hid hL1
  rw [← hL1] at HA
  have HB0 := Lib.hid hb0
  have HX0 := Lib.hid hx
  clear hL1 hl1 hb0 hx
  go_enter Tryd.func76, Tryd.ntmps76
  go_wp2_with fail
  rw [← hw0]
  clear hw0
  refine HA.out.mono ?_
  rintro e w1 ⟨v1, rfl, hv1, hb1', hn1⟩
  obtain ⟨g1, cp1, rfl⟩ := hv1.2
  have HV1 := Lib.hid hv1
  have HB1 := Lib.hid ((HB0.out.mono hB).trans hb1')
  have HN1 := Lib.hid ((NoB.below HB0.out).trans hn1)
  have hz1 := hb1'.size
  have HX1 := Lib.hid (HX0.out.noB hn1)
  obtain ⟨y0, y1, _⟩ := HX1.out.cells
  clear hv1 hb1' hn1 HA HB0 HX0 HO
  by_cases h0 : i = 0
  · subst h0
    rw [if_pos rfl] at HP
    have HT := Lib.hid (appendText_any B (some ⟨g1, 0, none⟩) cp1 L1 n w1 HV1.out.1 hn (by omega) (by omega))
    obtain ⟨L2, hL2⟩ : ∃ L2, L2 = L1 ++ P.putT (by_ n) := ⟨_, rfl⟩
    have hs2 : L2.length ≤ l.length + 11 + (n.size + 11) := by rw [hL2, List.length_append]; omega
    have HL2 := Lib.hid hL2
    rw [← hL2] at HT
    clear hL2
    go_wp2_with fail
    refine HT.out.mono ?_
    rintro e w2 ⟨v2, rfl, hv2, hb2, hn2⟩
    obtain ⟨g2, cp2, rfl⟩ := hv2.2
    have HV2 := Lib.hid hv2
    have HB2 := Lib.hid (HB1.out.trans hb2)
    have HN2 := Lib.hid (HN1.out.trans hn2)
    have hz2 := hb2.size
    have HX2 := Lib.hid (HX1.out.noB hn2)
    clear y0 y1
    obtain ⟨_, y1, _⟩ := HX2.out.cells
    clear hv2 hb2 hn2 HT HB1 HN1 HX1 HV1
    go_wp2_with fail
    refine (appendText_any B (some ⟨g2, 0, none⟩) cp2 L2 v w2 HV2.out.1 hvs (by omega) (by omega)).mono ?_
    rintro e w3 ⟨v3, rfl, hv3, hb3, hn3⟩
    have HV3 := Lib.hid hv3
    have HB3 := Lib.hid (HB2.out.trans hb3)
    have HN3 := Lib.hid (HN2.out.trans hn3)
    clear hv3 hb3 hn3 y1
    go_wp2
    go_ret
    refine ⟨_, rfl, ?_, HB3.out, HN3.out⟩
    rw [HP.out, ← List.append_assoc, ← List.append_assoc, ← HL1.out, ← HL2.out]
    exact HV3.out
  · rw [if_neg h0] at HP
    have hne : ((i : Int) == 0) = false := by simp; omega
    go_wp2_with fail
    refine (appendText_any B (some ⟨g1, 0, none⟩) cp1 L1 v w1 HV1.out.1 hvs (by omega) (by omega)).mono ?_
    rintro e w3 ⟨v3, rfl, hv3, hb3, hn3⟩
    have HV3 := Lib.hid hv3
    have HB3 := Lib.hid (HB1.out.trans hb3)
    have HN3 := Lib.hid (HN1.out.trans hn3)
    clear hv3 hb3 hn3 y1
    go_wp2
    go_ret
    refine ⟨_, rfl, ?_, HB3.out, HN3.out⟩
    rw [HP.out, List.nil_append, ← List.append_assoc, ← HL1.out]
    exact HV3.out

/-- What appendHeader hands back. -/
def HdrPost (Bd g m : Nat) (l : List Nat) (r : List Nat × List B.HD) (w : World) (e : Ending) (w' : World) : Prop :=
  ∃ v, e = .returned v ∧ Own Bd w' v (l ++ r.1) ∧ Tab w' g r.2 m ∧ OnlyB Bd g w w'

set_option maxRecDepth 100000 in
set_option maxHeartbeats 2000000 in
theorem appendHeader_any (Bd eB g m : Nat) (L : List B.HD) (a : Option Addr) (cp : Nat) (l : List Nat) (n v : ByteArray) (nv : Bool) (w : World) (hv : OwnN Bd w (.slice a l.length cp) l) (hE0 : w.cell? ⟨eB, 0, none⟩ = some (.pointer (some ⟨g, 0, none⟩))) (hT : Tab w g L m)
    (_heB : eB < Bd) (hg : g < Bd) (hne : eB ≠ g) (hn : n.size ≤ 100000000) (hvs : v.size ≤ 100000000) (hsz : l.length ≤ 10000000000) (hB : Bd ≤ w.heap.size) :
    Calls Tryd.prog 53 #[.pointer (some ⟨eB, 0, none⟩), .slice a l.length cp, .agg #[.string n, .string v, .bool nv]] w (HdrPost Bd g m l (P.one m L ((n, v), nv)) w) := by
  obtain ⟨w0, hw0⟩ : ∃ w0, w0 = w.alloc (.cells #[.string n, .string v, .bool nv] 66) := ⟨_, rfl⟩
  have hb0 : Below w.heap.size w w0 := by rw [hw0]; exact (Below.refl _ _).alloc (Nat.le_refl _) _
  have hx : HBox w0 w.heap.size n v nv := by rw [hw0]; exact HBox.new w n v nv
  have hz0 : w.heap.size < w0.heap.size := by rw [hw0]; simp
  have HO := Lib.hid (hv.below hb0)
  have HT := Lib.hid (hT.below hb0)
  have hl128 := hT.le.1
  have HE := Lib.hid (cell_below hb0 hE0)
  have HX := Lib.hid hx
  have HB0 := Lib.hid (OnlyB.of_below (g := g) (hb0.mono hB))
  have hfd := P.fd_bd L (n, v) hl128
  obtain ⟨zi, hzi⟩ : ∃ zi : Nat, (B.fnd n.toList v.toList 0 (B.allL L)).1 = (zi : Int) := ⟨(B.fnd n.toList v.toList 0 (B.allL L)).1.toNat, by simp only at hfd; omega⟩
  have hzi2 : zi ≤ 190 := by simp only at hfd; omega
  obtain ⟨zb, hzb⟩ : ∃ zb, zb = (B.fnd n.toList v.toList 0 (B.allL L)).2 := ⟨_, rfl⟩
  have HFd : Hid (∀ ww, Tab ww g L m → Calls Tryd.prog 75 #[.pointer (some ⟨g, 0, none⟩), .string n, .string v] ww fun e w' => e = .returned (.tuple #[.int .i64 (zi : Nat), .bool zb]) ∧ Below ww.heap.size ww w') := fun ww h => by
    have := find_any g m L n v ww h
    rw [hzi, ← hzb] at this
    exact this
  have hfdv : P.fd L (n, v) = (zi, zb) := by
    unfold P.fd
    rw [hzb]
    simp only [hzi, Int.toNat_natCast]
  have HOne : Hid (P.one m L ((n, v), nv) = if nv = true then (P.nm 16 4 zi (n, v), L) else if zb = true then (P.put 128 7 zi, L) else if m < B.sz (n, v) then (P.nm 0 4 zi (n, v), L) else (P.nm 64 6 zi (n, v), B.add m L (n, v))) := by
    show _ = _
    unfold P.one
    simp only [hfdv]
  clear hfdv hzi hzb hfd hv hT hE0 hx
  go_enter Tryd.func53, Tryd.ntmps53
  go_upto_region 1 with (fail)
  rw [← hw0]
  clear hw0
  have hS : Hid (w0.cell? ⟨eB, 0, none⟩ = some (.pointer (some ⟨g, 0, none⟩)) ∧ w0.cell? ⟨w.heap.size, 0, none⟩ = some (.string n) ∧ w0.cell? ⟨w.heap.size, 1, none⟩ = some (.string v)) := ⟨HE.out, HX.out.cells.1, HX.out.cells.2.1⟩
  go_region_held3 (fun ww => ww.cell? ⟨eB, 0, none⟩ = some (.pointer (some ⟨g, 0, none⟩)) ∧ ww.cell? ⟨w.heap.size, 0, none⟩ = some (.string n) ∧ ww.cell? ⟨w.heap.size, 1, none⟩ = some (.string v)) (first | exact hS.out | exact HS1.out) (first | (go_at_call 75; refine (HFd.out w0.drew (HT.out.below (below_drew' w0))).mono ?_; rintro e w1 ⟨rfl, hb1⟩; have HB1 : Hid (Below w0.heap.size w0 w1) := (below_drew' w0).trans hb1; clear hb1; have HS1 : Hid (w1.cell? ⟨eB, 0, none⟩ = some (.pointer (some ⟨g, 0, none⟩)) ∧ w1.cell? ⟨w.heap.size, 0, none⟩ = some (.string n) ∧ w1.cell? ⟨w.heap.size, 1, none⟩ = some (.string v)) := ⟨cell_below HB1.out hS.out.1, cell_below HB1.out hS.out.2.1, cell_below HB1.out hS.out.2.2⟩))
  have hz1 := HB1.out.size
  have HO1 := Lib.hid (HO.out.below HB1.out)
  have HT1 := Lib.hid (HT.out.below HB1.out)
  have HX1 : Hid (HBox w1 w.heap.size n v nv) := HX.out.noB (NoB.below HB1.out)
  have HB2 := Lib.hid (HB0.out.trans (OnlyB.of_below (g := g) (HB1.out.mono (by omega))))
  obtain ⟨x0, x1, x2⟩ := HX1.out.cells
  have HE1 := Lib.hid HS1.out.1
  clear HO HT HX HB0 HB1 hS HS1 HE
  cases nv with
  | true =>
    have HN : Hid (Calls Tryd.prog 76 #[.slice a l.length cp, .int .i64 16, .int .i64 4, .int .i64 zi, .agg #[.string n, .string v, .bool true]] w1 (OwnPostN Bd (l ++ P.nm 16 4 zi (n, v)) w1)) := appendNamed_any Bd a cp l 16 4 zi n v true w1 HO1.out (by omega) (by omega) (by decide) (by decide) (by omega) hn hvs hsz (by omega)
    rw [if_pos rfl] at HOne
    go_wp2_with fail
    refine HN.out.mono ?_
    rintro e w2 ⟨v2, rfl, hv2, hb2, _⟩
    have HV2 := Lib.hid hv2
    have H2 := Lib.hid hb2
    clear hv2 hb2 x0 x1 x2
    go_wp2
    go_ret
    rw [HOne.out]
    exact ⟨_, rfl, HV2.out, HT1.out.belowB H2.out hg, HB2.out.trans (OnlyB.of_below H2.out)⟩
  | false =>
    rw [if_neg (by simp)] at HOne
    cases zb with
    | true =>
      have HN : Hid (Calls Tryd.prog 40 #[.slice a l.length cp, .int .i64 128, .int .i64 7, .int .i64 zi] w1 (OwnPostN Bd (l ++ P.put 128 7 zi) w1)) := appendInt_any Bd a cp l 128 7 zi w1 HO1.out (by omega) (by omega) (by decide) (by decide) (by omega) (by omega) (by omega)
      rw [if_pos rfl] at HOne
      go_wp2_with fail
      refine HN.out.mono ?_
      rintro e w2 ⟨v2, rfl, hv2, hb2, _⟩
      have HV2 := Lib.hid hv2
      have H2 := Lib.hid hb2
      clear hv2 hb2 x0 x1 x2
      go_wp2
      go_ret
      rw [HOne.out]
      exact ⟨_, rfl, HV2.out, HT1.out.belowB H2.out hg, HB2.out.trans (OnlyB.of_below H2.out)⟩
    | false =>
      rw [if_neg (by simp)] at HOne
      have HSz := Lib.hid (fun w => size_any n v false w (by omega) (by omega))
      have hszz : B.sz (n, v) ≤ 281474976710688 := by unfold B.sz; simp only; omega
      obtain ⟨s, hs⟩ : ∃ s, s = B.sz (n, v) := ⟨_, rfl⟩
      rw [← hs] at HSz HOne hszz
      clear hs
      have HM : Hid (∀ ww, Below w1.heap.size w1 ww → Calls Tryd.prog 74 #[.pointer (some ⟨g, 0, none⟩)] ww fun e w' => e = .returned (.int .i64 m) ∧ ww = w') := fun ww hb => most_any ww g m (by obtain ⟨R, o, _, h2, _⟩ := HT1.out.below hb; exact h2.m.1)
      go_upto_region 6 with (fail)
      have hS : Hid (w1.cell? ⟨eB, 0, none⟩ = some (.pointer (some ⟨g, 0, none⟩)) ∧ w1.cell? ⟨w.heap.size, 0, none⟩ = some (.string n) ∧ w1.cell? ⟨w.heap.size, 1, none⟩ = some (.string v) ∧ w1.cell? ⟨w.heap.size, 2, none⟩ = some (.bool false)) := ⟨HE1.out, x0, x1, x2⟩
      clear x0 x1 x2
      go_region_held3 (fun ww => ww.cell? ⟨eB, 0, none⟩ = some (.pointer (some ⟨g, 0, none⟩)) ∧ ww.cell? ⟨w.heap.size, 0, none⟩ = some (.string n) ∧ ww.cell? ⟨w.heap.size, 1, none⟩ = some (.string v) ∧ ww.cell? ⟨w.heap.size, 2, none⟩ = some (.bool false)) (first | exact hS.out | exact HS2.out) (first
        | (go_at_call 56; refine (HSz.out w1.drew).mono ?_; rintro e w2 ⟨rfl, hb2⟩; have HB3 : Hid (Below w1.heap.size w1 w2) := (below_drew' w1).trans hb2; clear hb2; have HS2 : Hid (w2.cell? ⟨eB, 0, none⟩ = some (.pointer (some ⟨g, 0, none⟩)) ∧ w2.cell? ⟨w.heap.size, 0, none⟩ = some (.string n) ∧ w2.cell? ⟨w.heap.size, 1, none⟩ = some (.string v) ∧ w2.cell? ⟨w.heap.size, 2, none⟩ = some (.bool false)) := ⟨cell_below HB3.out hS.out.1, cell_below HB3.out hS.out.2.1, cell_below HB3.out hS.out.2.2.1, cell_below HB3.out hS.out.2.2.2⟩)
        | (go_at_call 74; refine (HM.out w2 HB3.out).mono ?_; rintro e wA ⟨rfl, rfl⟩)
        | (go_at_call 74; refine (HM.out w1.drew (below_drew' w1)).mono ?_; rintro e wA ⟨rfl, rfl⟩))
      have hz2 := HB3.out.size
      have HO2 := Lib.hid (HO1.out.below HB3.out)
      have HT2 := Lib.hid (HT1.out.below HB3.out)
      have HX2 := Lib.hid (HX1.out.noB (NoB.below HB3.out))
      have HB4 := Lib.hid (HB2.out.trans (OnlyB.of_below (g := g) (HB3.out.mono (by omega))))
      clear HO1 HT1 HX1 HB2 HB3 hS HE1 HM HSz
      by_cases hms : m < s
      · rw [if_pos hms] at HOne
        have HN : Hid (Calls Tryd.prog 76 #[.slice a l.length cp, .int .i64 0, .int .i64 4, .int .i64 zi, .agg #[.string n, .string v, .bool false]] w2 (OwnPostN Bd (l ++ P.nm 0 4 zi (n, v)) w2)) := appendNamed_any Bd a cp l 0 4 zi n v false w2 HO2.out (by omega) (by omega) (by decide) (by decide) (by omega) hn hvs hsz (by omega)
        obtain ⟨_, y0, y1, y2⟩ := HS2.out
        clear HS2
        go_wp2_with fail
        refine HN.out.mono ?_
        rintro e w3 ⟨v3, rfl, hv3, hb3, _⟩
        have HV3 := Lib.hid hv3
        have H3 := Lib.hid hb3
        clear hv3 hb3 y0 y1 y2
        go_wp2
        go_ret
        rw [HOne.out]
        exact ⟨_, rfl, HV3.out, HT2.out.belowB H3.out hg, HB4.out.trans (OnlyB.of_below H3.out)⟩
      · rw [if_neg hms] at HOne
        have HA := Lib.hid (add_any g L m n v false w2.drew (by omega) (by omega) (HT2.out.below (below_drew' w2)))
        go_upto_region 8 with (fail)
        go_region_held3 (fun ww => ww.cell? ⟨eB, 0, none⟩ = some (.pointer (some ⟨g, 0, none⟩)) ∧ ww.cell? ⟨w.heap.size, 0, none⟩ = some (.string n) ∧ ww.cell? ⟨w.heap.size, 1, none⟩ = some (.string v) ∧ ww.cell? ⟨w.heap.size, 2, none⟩ = some (.bool false)) (first | exact HS2.out | exact HS3.out) (first
          | (go_at_call 77; refine HA.out.mono ?_; rintro e w3 ⟨rfl, hT3, hO3⟩; have HT3 := Lib.hid hT3; have HO3 : Hid (Only g w2 w3) := (Below.only (below_drew' w2)).trans hO3; clear hT3 hO3; have HX3 := Lib.hid (HX2.out.only HO3.out (by omega)); have HS3 : Hid (w3.cell? ⟨eB, 0, none⟩ = some (.pointer (some ⟨g, 0, none⟩)) ∧ w3.cell? ⟨w.heap.size, 0, none⟩ = some (.string n) ∧ w3.cell? ⟨w.heap.size, 1, none⟩ = some (.string v) ∧ w3.cell? ⟨w.heap.size, 2, none⟩ = some (.bool false)) := ⟨HO3.out.cell hne HS2.out.1, HX3.out.cells.1, HX3.out.cells.2.1, HX3.out.cells.2.2⟩))
        have hz3 := HO3.out.size
        have HO4 := Lib.hid (HO2.out.only HO3.out hg)
        have HB5 := Lib.hid (HB4.out.trans (OnlyB.of_only HO3.out (by omega)))
        obtain ⟨_, y0, y1, y2⟩ := HS3.out
        clear HS2 HS3 HO2 HT2 HX2 HB4 HA HO3 HX3
        have HN : Hid (Calls Tryd.prog 76 #[.slice a l.length cp, .int .i64 64, .int .i64 6, .int .i64 zi, .agg #[.string n, .string v, .bool false]] w3 (OwnPostN Bd (l ++ P.nm 64 6 zi (n, v)) w3)) := appendNamed_any Bd a cp l 64 6 zi n v false w3 HO4.out (by omega) (by omega) (by decide) (by decide) (by omega) hn hvs hsz (by omega)
        go_wp2_with fail
        refine HN.out.mono ?_
        rintro e w4 ⟨v4, rfl, hv4, hb4, _⟩
        have HV4 := Lib.hid hv4
        have H4 := Lib.hid hb4
        clear hv4 hb4 y0 y1 y2
        go_wp2
        go_ret
        rw [HOne.out]
        exact ⟨_, rfl, HV4.out, HT3.out.belowB H4.out hg, HB5.out.trans (OnlyB.of_below H4.out)⟩
end Go.Proofs.YthdgcakbeiocgaaDoor
