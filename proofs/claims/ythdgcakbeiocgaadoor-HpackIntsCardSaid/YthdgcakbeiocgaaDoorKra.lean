/-
parleyref's SameHeaders over a list and itself, wherever both lie.
-/
import Derived.Test.YthdgcakbeiocgaaDoorKr
import Derived.Test.YthdgcakbeiocgaaDoorKenc
import Derived.Test.YthdgcakbeiocgaaDoorKput
import Derived.Test.YthdgcakbeiocgaaDoorKget
import Derived.Test.YthdgcakbeiocgaaDoorGapp
/- Ksame -/
namespace Go.Proofs.YthdgcakbeiocgaaDoor
open Go.RowKit

theorem sameHeader_eq2 (n v : ByteArray) (b : Bool) (w : World) :
    Calls Tryd.prog 55 #[.agg #[.string n, .string v, .bool b], .agg #[.string n, .string v, .bool b]] w fun e w' => e = .returned (.bool true) ∧ Below w.heap.size w w' := by
  have HB : Hid (Below w.heap.size w ((w.alloc (.cells #[.string n, .string v, .bool b] 66)).alloc (.cells #[.string n, .string v, .bool b] 66))) := ((Below.refl _ _).alloc (Nat.le_refl _) _).alloc (by simp) _
  go_enter Tryd.func55, Tryd.ntmps55
  go_wp2
  go_ret
  exact ⟨by simp, HB.out⟩
theorem cell_belowB {B b o : Nat} {w w' : World} {v : Value} (h : Below B w w') (hb : b < B) (hc : w.cell? ⟨b, o, none⟩ = some v) : w'.cell? ⟨b, o, none⟩ = some v :=
  (World.cell?_of_block (a := ⟨b, o, none⟩) (h.block b hb)).trans hc

/-- A list's cells, in a block below B. -/
def QRdB (K : Nat) (w : World) (a : Option Addr) (l : List (B.HD × Bool)) : Prop := ∀ j x, l[j]? = some x → ∃ b o, a = some ⟨b, o, none⟩ ∧ b < K ∧ w.cell? ⟨b, o + j * 3, none⟩ = some (.string x.1.1) ∧ w.cell? ⟨b, o + j * 3 + 1, none⟩ = some (.string x.1.2) ∧ w.cell? ⟨b, o + j * 3 + 2, none⟩ = some (.bool x.2)

set_option maxRecDepth 100000 in
set_option maxHeartbeats 1000000 in
theorem sameHeaders_eq (a a2 : Option Addr) (n c c2 : Nat) (l : List (B.HD × Bool)) (w : World) (hl : l.length = n) (hn : n ≤ 1000000) (hr : QRdB w.heap.size w a l) (hr2 : QRdB w.heap.size w a2 l) :
    Calls Tryd.prog 30 #[.slice a n c, .slice a2 n c2] w (TruePost w) := by
  have HL := Lib.hid hl
  have HR := Lib.hid hr
  have HR2 := Lib.hid hr2
  clear hl hr hr2
  go_enter Tryd.func30, Tryd.ntmps30
  go_wp2
  go_loopw [5] (fun i wr => ∃ k : Nat, k ≤ n ∧ i = .int .i64 (k : Nat) ∧ Hid (Below w.heap.size w wr)) (fun i _ => n - (intOf i).toNat)
  case atStart => exact ⟨0, Nat.zero_le _, rfl, Below.refl _ _⟩
  case round =>
    obtain ⟨k, hk, rfl, HB⟩ := hrel
    by_cases hlt : k < n
    · obtain ⟨x, hx⟩ : ∃ x, l[k]? = some x := ⟨_, List.getElem?_eq_getElem (by rw [HL.out]; exact hlt)⟩
      obtain ⟨b, o, rfl, hb, d0, d1, d2⟩ := HR.out k x hx
      obtain ⟨b2, o2, rfl, hb2, e0, e1, e2⟩ := HR2.out k x hx
      obtain ⟨⟨xn, xv⟩, xb⟩ := x
      simp only at d0 d1 d2 e0 e1 e2
      replace d0 := cell_belowB HB.out hb d0
      replace d1 := cell_belowB HB.out hb d1
      replace d2 := cell_belowB HB.out hb d2
      replace e0 := cell_belowB HB.out hb2 e0
      replace e1 := cell_belowB HB.out hb2 e1
      replace e2 := cell_belowB HB.out hb2 e2
      have q1 : (k : Int) < (n : Int) := by omega
      have q0 : (0 : Int) ≤ (k : Int) := by omega
      have hz := HB.out.size
      clear hx
      have HS : Hid (∀ ww, Calls Tryd.prog 55 #[.agg #[.string xn, .string xv, .bool xb], .agg #[.string xn, .string xv, .bool xb]] ww fun e w' => e = .returned (.bool true) ∧ Below ww.heap.size ww w') := fun ww => sameHeader_eq2 xn xv xb ww
      have hF : Hid (∀ ww, Below wr.heap.size wr ww → ww.cell? ⟨b, o + k * 3, none⟩ = some (.string xn) ∧ ww.cell? ⟨b, o + k * 3 + 1, none⟩ = some (.string xv) ∧ ww.cell? ⟨b, o + k * 3 + 2, none⟩ = some (.bool xb) ∧ ww.cell? ⟨b2, o2 + k * 3, none⟩ = some (.string xn) ∧ ww.cell? ⟨b2, o2 + k * 3 + 1, none⟩ = some (.string xv) ∧ ww.cell? ⟨b2, o2 + k * 3 + 2, none⟩ = some (.bool xb)) := fun ww h =>
        ⟨cell_below h d0, cell_below h d1, cell_below h d2, cell_below h e0, cell_below h e1, cell_below h e2⟩
      have hF0 := Lib.hid (hF.out wr (Below.refl _ _))
      clear d0 d1 d2 e0 e1 e2
      go_upto_region 6 with (fail)
      go_region_held3 (fun ww => ww.cell? ⟨b, o + k * 3, none⟩ = some (.string xn) ∧ ww.cell? ⟨b, o + k * 3 + 1, none⟩ = some (.string xv) ∧ ww.cell? ⟨b, o + k * 3 + 2, none⟩ = some (.bool xb) ∧ ww.cell? ⟨b2, o2 + k * 3, none⟩ = some (.string xn) ∧ ww.cell? ⟨b2, o2 + k * 3 + 1, none⟩ = some (.string xv) ∧ ww.cell? ⟨b2, o2 + k * 3 + 2, none⟩ = some (.bool xb)) (first | exact hF0.out | exact hF1.out) (first | (go_at_call 55; refine (HS.out _).mono ?_; rintro e w2 ⟨rfl, hb2'⟩; have HB2 : Hid (Below wr.heap.size wr w2) := (below_drew' wr).trans hb2'; clear hb2'; have hF1 := Lib.hid (hF.out w2 HB2.out)))
      all_goals
        go_wp2
        go_roundw
        case rel => exact ⟨k + 1, by omega, by rw [Int.natCast_add]; rfl, HB.out.trans (HB2.out.mono hz)⟩
        case measure => simp [intOf]; omega
    · obtain rfl : k = n := by omega
      have q1 : ¬ (k : Int) < (k : Int) := by omega
      go_wp2
      go_ret
      exact ⟨rfl, HB.out⟩
end Go.Proofs.YthdgcakbeiocgaaDoor
/- Kex -/
namespace Go.Proofs.YthdgcakbeiocgaaDoor
namespace P
open B (HD)
def exA : HD := (⟨#[97]⟩, ⟨#[98]⟩)
def exL : List (HD × Bool) := [((⟨#[58, 109, 101, 116, 104, 111, 100]⟩, ⟨#[71, 69, 84]⟩), false), ((⟨#[58, 112, 97, 116, 104]⟩, ⟨#[47]⟩), false), ((⟨#[97]⟩, ⟨#[98]⟩), false)]
theorem ex_enc1 : enc 4096 [] exL = ([130, 132, 64, 1, 97, 1, 98], [exA]) := by kernel_rfl
theorem ex_enc2 : enc 4096 [exA] exL = ([130, 132, 190], [exA]) := by kernel_rfl
theorem ex_int : getI 5 [31, 154, 10] = (1337, 3, none) := by kernel_rfl
theorem ex_blk : blk 4096 7 ⟨[], 4096, [], 0⟩ [130, 132, 64, 1, 97, 1, 98] = .ok ⟨[exA], 4096, exL, 114⟩ := by kernel_rfl
end P
end Go.Proofs.YthdgcakbeiocgaaDoor
/- Kencb -/
namespace Go.Proofs.YthdgcakbeiocgaaDoor
open Go.RowKit

namespace P
theorem enc_app (m : Nat) : ∀ (xs ys : List (B.HD × Bool)) (L : List B.HD), enc m L (xs ++ ys) = ((enc m L xs).1 ++ (enc m (enc m L xs).2 ys).1, (enc m (enc m L xs).2 ys).2)
  | [], ys, L => by simp [enc]
  | x :: t, ys, L => by
    rw [List.cons_append, enc, enc_app m t ys, enc]
    simp only [List.append_assoc]
theorem enc_take (m : Nat) (L : List B.HD) (xs : List (B.HD × Bool)) (k : Nat) (x : B.HD × Bool) (hx : xs[k]? = some x) :
    enc m L (xs.take (k + 1)) = ((enc m L (xs.take k)).1 ++ (one m (enc m L (xs.take k)).2 x).1, (one m (enc m L (xs.take k)).2 x).2) := by
  have e : xs.take (k + 1) = xs.take k ++ [x] := by rw [List.take_add_one, hx]; rfl
  rw [e, enc_app]
  simp [enc]
theorem enc_len (m M : Nat) : ∀ (xs : List (B.HD × Bool)) (L : List B.HD), (∀ x ∈ xs, x.1.1.size + x.1.2.size ≤ M) → (enc m L xs).1.length ≤ xs.length * (M + 33)
  | [], L, _ => by simp [enc]
  | x :: t, L, h => by
    have h1 := one_len m L x
    have h2 := h x (by simp)
    have h3 := enc_len m M t (one m L x).2 (fun y hy => h y (by simp [hy]))
    rw [enc]
    simp only [List.length_append, List.length_cons, Nat.add_mul]
    omega
end P

/-- An encoder's cells. -/
structure EncC (w : World) (eB g : Nat) (asked : Bool) (least : Nat) : Prop where
  c0 : w.cell? ⟨eB, 0, none⟩ = some (.pointer (some ⟨g, 0, none⟩))
  c1 : w.cell? ⟨eB, 1, none⟩ = some (.bool asked) ∧ w.frozen? ⟨eB, 1, none⟩ = false
  c2 : w.cell? ⟨eB, 2, none⟩ = some (.int .i64 (least : Nat)) ∧ w.frozen? ⟨eB, 2, none⟩ = false
theorem EncC.block {w w' : World} {eB g : Nat} {asked : Bool} {least : Nat} (h : EncC w eB g asked least) (hb : w'.heap[eB]? = w.heap[eB]?) : EncC w' eB g asked least :=
  ⟨(World.cell?_of_block (a := ⟨eB, 0, none⟩) hb).trans h.c0, ⟨(World.cell?_of_block (a := ⟨eB, 1, none⟩) hb).trans h.c1.1, (World.frozen?_of_block (a := ⟨eB, 1, none⟩) hb).trans h.c1.2⟩, ⟨(World.cell?_of_block (a := ⟨eB, 2, none⟩) hb).trans h.c2.1, (World.frozen?_of_block (a := ⟨eB, 2, none⟩) hb).trans h.c2.2⟩⟩
theorem EncC.lt {w : World} {eB g : Nat} {asked : Bool} {least : Nat} (h : EncC w eB g asked least) : eB < w.heap.size := World.block_lt_of_cell? _ _ h.c0
theorem EncC.below {w w' : World} {eB g : Nat} {asked : Bool} {least : Nat} (h : EncC w eB g asked least) (hb : Below w.heap.size w w') : EncC w' eB g asked least := h.block (hb.block eB h.lt)

/-- Below block B, but for two blocks, all is as it was. -/
structure Only2 (B g h : Nat) (w w' : World) : Prop where
  os : w'.os = w.os
  tape : w'.tape = w.tape
  output : w'.output = w.output
  size : w.heap.size ≤ w'.heap.size
  block : ∀ k, k < B → k ≠ g → k ≠ h → w'.heap[k]? = w.heap[k]?
theorem Only2.trans {B g h : Nat} {a b c : World} (x : Only2 B g h a b) (y : Only2 B g h b c) : Only2 B g h a c :=
  ⟨y.os.trans x.os, y.tape.trans x.tape, y.output.trans x.output, Nat.le_trans x.size y.size, fun i hi h1 h2 => (y.block i hi h1 h2).trans (x.block i hi h1 h2)⟩
theorem OnlyB.two1 {B g h : Nat} {a b : World} (x : OnlyB B g a b) : Only2 B g h a b := ⟨x.os, x.tape, x.output, x.size, fun i hi h1 _ => x.block i hi h1⟩
theorem OnlyB.two2 {B g h : Nat} {a b : World} (x : OnlyB B h a b) : Only2 B g h a b := ⟨x.os, x.tape, x.output, x.size, fun i hi _ h2 => x.block i hi h2⟩
theorem Only2.below {B g h K : Nat} {a b c : World} (x : Below K a b) (y : Only2 B g h b c) (hB : K ≤ B) (hg : K ≤ g) (hh : K ≤ h) : Below K a c :=
  ⟨y.os.trans x.os, y.tape.trans x.tape, y.output.trans x.output, Nat.le_trans x.size y.size, fun i hi => (y.block i (by omega) (by omega) (by omega)).trans (x.block i hi)⟩

/-- What appendSizes hands back. -/
def SzPost (eB g least : Nat) (bs : List Nat) (w : World) (e : Ending) (w' : World) : Prop :=
  ∃ v, e = .returned v ∧ OwnN w.heap.size w' v bs ∧ EncC w' eB g false least ∧ OnlyB w.heap.size eB w w'

set_option maxRecDepth 100000 in
set_option maxHeartbeats 1000000 in
theorem appendSizes_any (eB g m : Nat) (L : List B.HD) (asked : Bool) (least : Nat) (w : World) (hE : EncC w eB g asked least) (hT : Tab w g L m) (hne : eB ≠ g) (hl : asked = true → least ≤ 4096) :
    Calls Tryd.prog 52 #[.pointer (some ⟨eB, 0, none⟩), .slice none 0 0] w (SzPost eB g least (P.szs asked least m) w) := by
  have heB := hE.lt
  have hm := hT.le.2.2
  obtain ⟨c0, ⟨c1, f1⟩, c2, f2⟩ := hE
  cases asked with
  | false =>
    clear hT
    go_enter Tryd.func52, Tryd.ntmps52
    go_wp2
    go_ret
    exact ⟨_, rfl, ownN_nil _ _, ⟨c0, ⟨c1, f1⟩, c2, f2⟩, OnlyB.refl _ _ _⟩
  | true =>
    have hl4 : least ≤ 4096 := hl rfl
    obtain ⟨w1, hw1⟩ : ∃ w1, w1 = w.setCell ⟨eB, 1, none⟩ (.bool false) := ⟨_, rfl⟩
    have hz1 : w1.heap.size = w.heap.size := by rw [hw1]; simp
    have hC1 : EncC w1 eB g false least := by
      rw [hw1]
      exact ⟨(World.cell?_setCell_other _ _ _ _ (addr_ne (by omega))).trans c0, ⟨World.cell?_setCell_same _ _ _ c1, by rw [World.frozen?_setCell]; exact f1⟩, (World.cell?_setCell_other _ _ _ _ (addr_ne (by omega))).trans c2, by rw [World.frozen?_setCell]; exact f2⟩
    have hO1 : OnlyB w.heap.size eB w w1 := by rw [hw1]; exact ⟨rfl, rfl, rfl, by simp, fun k _ hk => Below.heap_setCell _ _ _ _ hk⟩
    have hT1 : Tab w1 g L m := by
      obtain ⟨R, o, h1, h2, h3⟩ := hT
      exact ⟨R, o, h1, by rw [hw1]; exact Blk.set_other h2 (p := ⟨eB, 1, none⟩) hne _, h3⟩
    have HC1 := Lib.hid hC1
    have HO1 := Lib.hid hO1
    have HM := Lib.hid (most_any w1 g m (by obtain ⟨R, o, _, h2, _⟩ := hT1; exact h2.m.1))
    clear hT hT1 hO1 hC1
    go_enter Tryd.func52, Tryd.ntmps52
    go_upto_region 4 with (fail)
    rw [← hw1]
    clear hw1 c0 c1 c2 f1 f2
    obtain ⟨c0, ⟨c1, f1⟩, c2, f2⟩ := HC1.out
    have HA : Hid (∀ (a : Option Addr) (cp : Nat) (l : List Nat) (k : Nat) (ww : World), OwnN w.heap.size ww (.slice a l.length cp) l → k ≤ 4096 → l.length ≤ 100 → w.heap.size ≤ ww.heap.size → Calls Tryd.prog 40 #[.slice a l.length cp, .int .i64 32, .int .i64 5, .int .i64 k] ww (OwnPostN w.heap.size (l ++ P.put 32 5 k) ww)) := fun a cp l k ww h1 h2 h3 h4 =>
      appendInt_any w.heap.size a cp l 32 5 k ww h1 (by omega) (by omega) (by decide) (by decide) (by omega) (by omega) h4
    have hp := (P.put_len 32 5 least).2
    by_cases hlm : least < m
    · have HS : Hid (P.szs true least m = P.put 32 5 least ++ P.put 32 5 m) := by show _ = _; unfold P.szs; rw [if_pos rfl, if_pos hlm]
      have q1 : (least : Int) < (m : Int) := by omega
      go_wp2_with (go_at_call 74; refine HM.out.mono ?_; rintro e wA ⟨rfl, rfl⟩)
      refine (HA.out none 0 [] least w1 (ownN_nil _ _) hl4 (by simp) (by omega)).mono ?_
      rintro e w2 ⟨v2, rfl, hv2, hb2, _⟩
      rw [List.nil_append] at hv2
      obtain ⟨g2, cp2, rfl⟩ := hv2.2
      have HV2 := Lib.hid hv2.1
      have H2 := Lib.hid hb2
      have hz2 := hb2.size
      clear hv2 hb2 c0 c1 f1 c2 f2
      go_wp2_with fail
      refine (HA.out _ cp2 _ m w2 HV2.out hm (by omega) (by omega)).mono ?_
      rintro e w3 ⟨v3, rfl, hv3, hb3, _⟩
      have HV3 := Lib.hid hv3.1
      have H3 := Lib.hid (H2.out.trans hb3)
      clear hv3 hb3
      go_wp2
      go_ret
      refine ⟨_, rfl, ?_, HC1.out.block (H3.out.block eB heB), HO1.out.trans (OnlyB.of_below H3.out)⟩
      rw [HS.out]
      exact HV3.out
    · have HS : Hid (P.szs true least m = P.put 32 5 m) := by show _ = _; unfold P.szs; rw [if_pos rfl, if_neg hlm, List.nil_append]
      have q1 : ¬ (least : Int) < (m : Int) := by omega
      go_wp2_with (go_at_call 74; refine HM.out.mono ?_; rintro e wA ⟨rfl, rfl⟩)
      refine (HA.out none 0 [] m w1 (ownN_nil _ _) hm (by simp) (by omega)).mono ?_
      rintro e w3 ⟨v3, rfl, hv3, hb3, _⟩
      rw [List.nil_append] at hv3
      have HV3 := Lib.hid hv3.1
      have H3 := Lib.hid hb3
      clear hv3 hb3 c0 c1 f1 c2 f2
      go_wp2
      go_ret
      refine ⟨_, rfl, ?_, HC1.out.block (H3.out.block eB heB), HO1.out.trans (OnlyB.of_below H3.out)⟩
      rw [HS.out]
      exact HV3.out

/-- The slice at a reads as these headers, in blocks that R lets be. -/
def NRd (R : Nat → Prop) (w : World) (a : Option Addr) (l : List (B.HD × Bool)) : Prop :=
  ∀ (j : Nat) (x : B.HD × Bool), l[j]? = some x → ∃ b o, a = some ⟨b, o, none⟩ ∧ R b ∧ w.cell? ⟨b, o + j * 3, none⟩ = some (.string x.1.1) ∧ w.cell? ⟨b, o + j * 3 + 1, none⟩ = some (.string x.1.2) ∧ w.cell? ⟨b, o + j * 3 + 2, none⟩ = some (.bool x.2)
theorem NRd.two {R : Nat → Prop} {w w' : World} {a : Option Addr} {l : List (B.HD × Bool)} {B g h : Nat} (x : NRd R w a l) (hR : ∀ b, R b → b < B ∧ b ≠ g ∧ b ≠ h) (hb : Only2 B g h w w') : NRd R w' a l := fun j y hy => by
  obtain ⟨b, o, e, hr, c0, c1, c2⟩ := x j y hy
  obtain ⟨h1, h2, h3⟩ := hR b hr
  have hq := hb.block b h1 h2 h3
  exact ⟨b, o, e, hr, (World.cell?_of_block (a := ⟨b, o + j * 3, none⟩) hq).trans c0, (World.cell?_of_block (a := ⟨b, o + j * 3 + 1, none⟩) hq).trans c1, (World.cell?_of_block (a := ⟨b, o + j * 3 + 2, none⟩) hq).trans c2⟩
theorem NRd.below {R : Nat → Prop} {w w' : World} {a : Option Addr} {l : List (B.HD × Bool)} (x : NRd R w a l) (hb : Below w.heap.size w w') : NRd R w' a l := fun j y hy => by
  obtain ⟨b, o, e, hr, c0, c1, c2⟩ := x j y hy
  exact ⟨b, o, e, hr, cell_below hb c0, cell_below hb c1, cell_below hb c2⟩

/-- What Encode hands back. -/
def EncPost (eB g m least : Nat) (bs : List Nat) (L : List B.HD) (w : World) (e : Ending) (w' : World) : Prop :=
  ∃ v, e = .returned v ∧ OwnN w.heap.size w' v bs ∧ EncC w' eB g false least ∧ Tab w' g L m ∧ Only2 w.heap.size g eB w w'

set_option maxRecDepth 100000 in
set_option maxHeartbeats 2000000 in
theorem Encode_any (eB g m : Nat) (L : List B.HD) (asked : Bool) (least : Nat) (a : Option Addr) (n cp : Nat) (xs : List (B.HD × Bool)) (w : World) (hE : EncC w eB g asked least) (hT : Tab w g L m) (hne : eB ≠ g) (hl : asked = true → least ≤ 4096)
    (hxs : xs.length = n) (hr : NRd (fun b => b < w.heap.size ∧ b ≠ g ∧ b ≠ eB) w a xs) (hn : n ≤ 1000) (hsz : ∀ x ∈ xs, x.1.1.size + x.1.2.size ≤ 100000) :
    Calls Tryd.prog 28 #[.pointer (some ⟨eB, 0, none⟩), .slice a n cp] w (EncPost eB g m least (P.szs asked least m ++ (P.enc m L xs).1) (P.enc m L xs).2 w) := by
  have heB := hE.lt
  have hg := hT.lt
  have HS := Lib.hid (appendSizes_any eB g m L asked least w hE hT hne hl)
  have hszl : (P.szs asked least m).length ≤ 22 := by
    unfold P.szs
    have h1 := (P.put_len 32 5 least).2
    have h2 := (P.put_len 32 5 m).2
    split
    · rw [List.length_append]
      split
      · omega
      · simp only [List.length_nil]; omega
    · simp
  obtain ⟨s0, hs0⟩ : ∃ s0, s0 = P.szs asked least m := ⟨_, rfl⟩
  rw [← hs0] at HS hszl ⊢
  have HR := Lib.hid hr
  have HT := Lib.hid hT
  have HXs := Lib.hid hxs
  have HSz := Lib.hid hsz
  clear hs0 hE hr hT hxs hsz
  go_enter Tryd.func28, Tryd.ntmps28
  go_wp2_with fail
  refine HS.out.mono ?_
  rintro e w1 ⟨v1, rfl, hv1, hc1, ho1⟩
  obtain ⟨a1, cp1, rfl⟩ := hv1.shape
  have HV1 := Lib.hid hv1
  have HC1 := Lib.hid hc1
  have H1 : Hid (Only2 w.heap.size g eB w w1) := ho1.two2
  have hz1 := ho1.size
  have HT1 : Hid (Tab w1 g L m) := by
    obtain ⟨R, o, h1, h2, h3⟩ := HT.out
    exact ⟨R, o, h1, fun j hj => ⟨ho1.cell hg (by omega) (h2 j hj).1, ho1.frozen hg (by omega) (h2 j hj).2⟩, h3⟩
  clear hv1 hc1 ho1 HS HT
  go_wp2
  go_loopw [5, 12] (fun v i wr => ∃ (k : Nat) (a' : Option Addr) (cp' : Nat) (l' : List Nat), k ≤ n ∧ i = .int .i64 (k : Nat) ∧ v = .slice a' l'.length cp' ∧ Hid (l' = s0 ++ (P.enc m L (xs.take k)).1) ∧ Hid (OwnN w.heap.size wr (.slice a' l'.length cp') l') ∧ Hid (Tab wr g (P.enc m L (xs.take k)).2 m) ∧ Hid (EncC wr eB g false least) ∧ Hid (Only2 w.heap.size g eB w wr) ∧ w.heap.size ≤ wr.heap.size) (fun _ i _ => n - (intOf i).toNat)
  case atStart => exact ⟨0, a1, cp1, s0, by omega, rfl, rfl, by show _ = _; simp [P.enc], HV1, by simpa [P.enc] using HT1, HC1, H1, hz1⟩
  case round =>
    clear HV1 HC1 H1 hz1 HT1
    obtain ⟨k, a', cp', l', hk, rfl, rfl, HL', HV, HTr, HC, H2, hz⟩ := hrel
    by_cases hlt : k < n
    · obtain ⟨x, hx⟩ : ∃ x, xs[k]? = some x := ⟨_, List.getElem?_eq_getElem (by rw [HXs.out]; exact hlt)⟩
      have HTk := Lib.hid (P.enc_take m L xs k x hx)
      have hx3 := HSz.out x (List.mem_of_getElem? hx)
      obtain ⟨b, o, rfl, hrb, d0, d1, d2⟩ := HR.out.two (fun b h => h) H2.out k x hx
      have hll : l'.length ≤ 10000000000 := by
        have h1 := P.enc_len m 100000 (xs.take k) L (fun y hy => HSz.out y (List.mem_of_mem_take hy))
        have h2 := HL'.out
        have h3 : (xs.take k).length ≤ 1000 := Nat.le_trans (List.length_take_le _ _) (by omega)
        have h4 : (xs.take k).length * (100000 + 33) ≤ 1000 * (100000 + 33) := Nat.mul_le_mul_right _ h3
        rw [h2, List.length_append]
        omega
      obtain ⟨⟨xn, xv⟩, xb⟩ := x
      simp only at d0 d1 d2 hx3
      clear hx hrb
      have q1 : (k : Int) < (n : Int) := by omega
      have q0 : (0 : Int) ≤ (k : Int) := by omega
      have hba : Below wr.heap.size wr (wr.alloc (.cells #[.string xn, .string xv, .bool xb] 66)) := (Below.refl _ _).alloc (Nat.le_refl _) _
      have HA := Lib.hid (appendHeader_any w.heap.size eB g m (P.enc m L (xs.take k)).2 a' cp' l' xn xv xb (wr.alloc (.cells #[.string xn, .string xv, .bool xb] 66)) (HV.out.below hba) (HC.out.below hba).c0 (HTr.out.below hba) heB hg hne (by omega) (by omega) hll (Nat.le_trans hz hba.size))
      have HC3 := Lib.hid (HC.out.below hba)
      have H3 := Lib.hid (H2.out.trans ((OnlyB.of_below (B := w.heap.size) (g := g) (hba.mono hz)).two1 (h := eB)))
      clear hba HV HTr HC H2
      go_wp2_with fail
      refine HA.out.mono ?_
      rintro e w4 ⟨v4, rfl, hv4, ht4, ho4⟩
      obtain ⟨g4, cp4, rfl⟩ := hv4.2
      have HV4 : Hid (OwnN w.heap.size w4 (.slice (some ⟨g4, 0, none⟩) (l' ++ (P.one m (P.enc m L (xs.take k)).2 ((xn, xv), xb)).1).length cp4) (l' ++ (P.one m (P.enc m L (xs.take k)).2 ((xn, xv), xb)).1)) := hv4.1
      have HT4 := Lib.hid ht4
      have HC4 := Lib.hid (HC3.out.block (ho4.block eB heB hne))
      have H4 := Lib.hid (H3.out.trans (ho4.two1 (h := eB)))
      have hz4 : w.heap.size ≤ w4.heap.size := H4.out.size
      clear hv4 ht4 ho4 HA HC3 H3 d0 d1 d2
      go_wp2
      go_roundw
      case rel =>
        refine ⟨k + 1, some ⟨g4, 0, none⟩, cp4, l' ++ (P.one m (P.enc m L (xs.take k)).2 ((xn, xv), xb)).1, by omega, by rw [Int.natCast_add]; rfl, ?_, ?_, HV4, ?_, HC4, H4, hz4⟩
        · first | rfl | (rw [List.length_append])
        · show _ = _
          rw [HTk.out, HL'.out, List.append_assoc]
        · show Tab _ _ _ _
          rw [HTk.out]
          exact HT4.out
      case measure => simp [intOf]; omega
    · obtain rfl : k = n := by omega
      have q1 : ¬ (k : Int) < (k : Int) := by omega
      have ht : xs.take k = xs := List.take_of_length_le (by rw [HXs.out]; exact Nat.le_refl _)
      rw [ht] at HL' HTr
      clear ht
      go_wp2
      go_ret
      refine ⟨_, rfl, ?_, HC.out, HTr.out, H2.out⟩
      rw [← HL'.out]
      exact HV.out

/-- NewEncoder, of a most that may be. -/
theorem NewEncoder_yes (m : Nat) (w : World) (hm : m ≤ 4096) : Calls Tryd.prog 23 #[.int .i64 (m : Nat)] w fun e w' =>
    ∃ eB, e = .returned (.tuple #[.pointer (some ⟨eB, 0, none⟩), .nilIface]) ∧ w.heap.size < eB ∧ EncC w' eB w.heap.size false 0 ∧ Tab w' w.heap.size [] m ∧ Below w.heap.size w w' := by
  have HN := Lib.hid (new_yes m w hm)
  go_enter Tryd.func23, Tryd.ntmps23
  go_wp2_with fail
  refine HN.out.mono ?_
  rintro e w1 ⟨rfl, hT, hb⟩
  have HT := Lib.hid hT
  have HB := Lib.hid hb
  have hz := hT.lt
  clear hT hb
  go_wp2
  go_ret2
  have hba : Below w1.heap.size w1 (w1.alloc (.cells #[.pointer (some ⟨w.heap.size, 0, none⟩), .bool false, .int .i64 0] 90)) := (Below.refl _ _).alloc (Nat.le_refl _) _
  exact ⟨w1.heap.size, rfl, hz, ⟨by simp, ⟨by simp, by simp⟩, ⟨by simp, by simp⟩⟩, HT.out.below hba, HB.out.trans (hba.mono HB.out.size)⟩
theorem NewEncoder_no (m : Int) (e0 : Addr) (w : World) (hm : ¬ (0 ≤ m ∧ m ≤ 4096)) (hE : TE w e0) : Calls Tryd.prog 23 #[.int .i64 m] w fun e w' =>
    e = .returned (.tuple #[.pointer none, .iface 166 (.pointer (some e0))]) ∧ Below w.heap.size w w' := by
  have HN := Lib.hid (new_no m e0 w hm hE)
  clear hE
  go_enter Tryd.func23, Tryd.ntmps23
  go_wp2_with fail
  refine HN.out.mono ?_
  rintro e w1 ⟨rfl, hb⟩
  go_wp2
  go_ret2
  exact ⟨rfl, hb⟩
end Go.Proofs.YthdgcakbeiocgaaDoor
/- Kref -/
namespace Go.Proofs.YthdgcakbeiocgaaDoor
open Go.RowKit

/-- New bytes, or none. -/
def NewPost (l : List Nat) (w : World) (e : Ending) (w' : World) : Prop := ∃ v, e = .returned v ∧ OwnN w.heap.size w' v l ∧ Below w.heap.size w w'

/-- A slice's length. -/
def sliceLen (v : Value) : Nat := match v with
  | .slice _ n _ => n
  | _ => 0
theorem own_one (w : World) (c : Nat) : OwnN w.heap.size (w.alloc (.cells #[.int .u8 (c : Nat)] 5)) (.slice (some ⟨w.heap.size, 0, none⟩) 1 1) [c] := World.ownsRow_lit w #[.int .u8 (c : Nat)] 1 (Nat.le_refl _) (by decide) rfl

theorem shl_full (b : Nat) (hb : b ≤ 8) : wrap64 (2 ^ b : Int) = ((P.full b + 1 : Nat) : Int) ∧ wrap64 (wrap64 (2 ^ b : Int) - 1) = ((P.full b : Nat) : Int) := by
  unfold P.full
  have h1 : 2 ^ b ≤ 2 ^ 8 := Nat.pow_le_pow_right (by omega) hb
  have h2 : 0 < 2 ^ b := Nat.two_pow_pos b
  have e : (2 : Nat) ^ 8 = 256 := by decide
  have e2 : (2 : Int) ^ b = ((2 ^ b : Nat) : Int) := by push_cast; rfl
  rw [e2]
  generalize 2 ^ b = k at *
  unfold wrap64
  omega

set_option maxRecDepth 100000 in
set_option maxHeartbeats 1000000 in
theorem refPut_yes (f b n : Nat) (w : World) (hb1 : 1 ≤ b) (hb : b ≤ 8) (hn : n ≤ 2147483647) (hf : f % 2 ^ b = 0) (hf2 : f + P.full b < 256) :
    Calls Tryd.prog 14 #[.int .i64 (f : Nat), .int .i64 (b : Nat), .int .i64 (n : Nat)] w (NewPost (P.put f b n) w) := by
  obtain ⟨i0, hi, hz0, hz1, hz2⟩ := info_parts info5
  have Hz2 := Lib.hid hz2
  clear hz2
  obtain ⟨hs1, hs2⟩ := shl_full b hb
  have hm : ((f : Int) % ((P.full b + 1 : Nat) : Int) != 0) = false := by
    have h2 := Nat.two_pow_pos b
    rw [show P.full b + 1 = 2 ^ b by unfold P.full; omega]
    have : (f : Int) % ((2 ^ b : Nat) : Int) = ((f % 2 ^ b : Nat) : Int) := by push_cast; rfl
    rw [this, hf]
    rfl
  have hfp := P.full_pos hb1
  have HP : Hid (P.put f b n = if n < P.full b then [f + n] else (f + P.full b) :: W.vbs (n - P.full b)) := rfl
  obtain ⟨F, hF⟩ : ∃ F, F = P.full b := ⟨_, rfl⟩
  rw [← hF] at HP hs1 hs2 hf2 hfp hm
  have h0 : ¬ (F : Int) + 1 = 0 := by omega
  rw [Int.natCast_add] at hm
  replace hm : ((f : Int) % ((F : Int) + 1) != 0) = false := hm
  clear hF hf
  by_cases h : n < F
  · have HX : Hid (P.put f b n = [f + n]) := by show _ = _; rw [HP.out, if_pos h]
    have hc2 : f + n < 256 := by omega
    have ec : IntKind.u8.wrap ((f : Int) + (n : Int)) = ((f + n : Nat) : Int) := by rw [IntKind.wrap_u8]; omega
    go_enter Tryd.func14, Tryd.ntmps14
    go_wp2
    go_ret
    refine ⟨_, rfl, ?_, (Below.refl w.heap.size w).alloc (Nat.le_refl _) _⟩
    rw [HX.out]
    exact own_one w (f + n)
  · have HX : Hid (P.put f b n = (f + F) :: W.vbs (n - F)) := by show _ = _; rw [HP.out, if_neg h]
    have hc2 : f + F < 256 := by omega
    have HO0 := Lib.hid (own_one w (f + F))
    go_enter Tryd.func14, Tryd.ntmps14
    go_wp2
    rw [show ((f : Int) + (F : Int)) = ((f + F : Nat) : Int) from rfl]
    obtain ⟨w0, hw0⟩ : ∃ w0, w0 = w.alloc (.cells #[.int .u8 ((f + F : Nat) : Int)] 5) := ⟨_, rfl⟩
    have HB0 : Hid (Below w.heap.size w w0) := by rw [hw0]; exact (Below.refl _ _).alloc (Nat.le_refl _) _
    rw [← hw0] at HO0 ⊢
    clear hw0
    have hs0 := HB0.out.size
    obtain ⟨c, hc⟩ : ∃ c, c = f + F := ⟨_, rfl⟩
    rw [← hc] at HO0 HX
    have hnF : n - F ≤ 2147483647 := by omega
    have e1 : (n : Int) - (F : Int) = ((n - F : Nat) : Int) := by omega
    rw [e1]
    clear e1 hs1 hs2 hm h0 HP hc hf2 hc2
    generalize n - F = u at *
    go_loopw [2, 8] (fun y x wr => ∃ (g cp u' f : Nat) (l' : List Nat), x = .slice (some ⟨g, 0, none⟩) l'.length cp ∧ y = .int .i64 (u' : Nat) ∧ Hid (u' < 128 ^ (f + 1)) ∧ u' ≤ 2147483647 ∧ f ≤ 9 ∧ l'.length + f = 10 ∧ Hid (l' ++ W.vb f u' = c :: W.vbs u) ∧
      Hid (wr.ownsRow w.heap.size 5 1 (.slice (some ⟨g, 0, none⟩) l'.length cp) l'.length (vals l')) ∧ Hid (Below w.heap.size w wr) ∧ w.heap.size ≤ wr.heap.size) (fun _ x _ => 11 - sliceLen x)
    case atStart =>
      refine ⟨w.heap.size, 1, u, 9, [c], rfl, rfl, ?_, hnF, by omega, by simp, rfl, HO0, HB0, hs0⟩
      exact Nat.lt_of_le_of_lt hnF (by decide)
    case round =>
      obtain ⟨g, cp, u', f, l', rfl, rfl, Hf, Hu, hf9, hlf, HL, HOW, HB, hsz2⟩ := hrel
      by_cases hlt : u' < 128
      · have hone := Rd.one wr u' 5 (by omega)
        have HS : Hid (W.vb f u' = [u']) := by
          show W.vb f u' = _
          cases f <;> simp [W.vb, hlt]
        go_wp2_with (at_builtin; refine wpList_app _ rfl _ _ 22 rfl w.heap.size _ 5 i0 (.int .u8 0) Tryd.underlying22 hi hz0 hz1 Hz2.out rfl _ l'.length (vals l') rfl (HOW.out.alloc _) (by intro e; cases e) _ 1 1 [u'] rfl rfl hone ?_ ?_ ?_; omega; (simp; omega); intro g2 cp2 w2 hown2 hgrow2)
        go_ret
        refine ⟨_, rfl, ?_, ?_⟩
        · have h := HL.out
          rw [HS.out] at h
          rw [HX.out, ← h]
          show World.ownsRow _ _ _ _ _ _ _
          rw [vals_append, List.length_append]; exact hown2
        · exact (HB.out.alloc (by omega) _).grown hgrow2 (by simp; omega) (fun k e => by cases e; exact (HOW.out.lt g rfl).1)
      · have hone := Rd.one wr (u' % 128 + 128) 5 (by omega)
        rw [show ((u' % 128 + 128 : Nat) : Int) = (u' : Int) % 128 + 128 from by omega] at hone
        have hf1 : 1 ≤ f := by
          rcases Nat.eq_zero_or_pos f with h0 | h0
          · subst h0; have := Hf.out; simp at this; omega
          · exact h0
        obtain ⟨f, rfl⟩ : ∃ m, f = m + 1 := ⟨f - 1, by omega⟩
        have HS : Hid (W.vb (f + 1) u' = (u' % 128 + 128) :: W.vb f (u' / 128)) := by
          show W.vb (f + 1) u' = _
          simp [W.vb, hlt]
        go_wp2_with (at_builtin; refine wpList_app _ rfl _ _ 22 rfl w.heap.size _ 5 i0 (.int .u8 0) Tryd.underlying22 hi hz0 hz1 Hz2.out rfl _ l'.length (vals l') rfl (HOW.out.alloc _) (by intro e; cases e) _ 1 1 [u' % 128 + 128] rfl rfl hone ?_ ?_ ?_; omega; (simp; omega); intro g2 cp2 w2 hown2 hgrow2)
        go_roundw
        case rel =>
          refine ⟨_, _, _, _, _, _, _, _, _, _, _, _, _, ⟨g2, cp2, u' / 128, f, l' ++ [u' % 128 + 128], ?_, ?_, ?_, by omega, by omega, ?_, ?_, ?_, ?_, ?_⟩, rfl⟩
          · rw [List.length_append]; rfl
          · first | rfl | (congr 1)
          · have h := Hf.out
            rw [Nat.pow_succ] at h
            exact Nat.div_lt_of_lt_mul (by rw [Nat.mul_comm]; exact h)
          · simp; omega
          · show _ = _
            rw [← HL.out, HS.out]; simp
          · show World.ownsRow _ _ _ _ _ _ _
            rw [vals_append, List.length_append]; exact hown2
          · exact (HB.out.alloc (by omega) _).grown hgrow2 (by simp; omega) (fun k e => by cases e; exact (HOW.out.lt g rfl).1)
          · have := hgrow2.size; simp at this; omega
        case measure => simp [sliceLen]; omega
end Go.Proofs.YthdgcakbeiocgaaDoor
/- Krefb -/
namespace Go.Proofs.YthdgcakbeiocgaaDoor
open Go.RowKit

set_option maxRecDepth 100000 in
set_option maxHeartbeats 1000000 in
theorem refPut_any (f b n : Int) (w : World) : Calls Tryd.prog 14 #[.int .i64 f, .int .i64 b, .int .i64 n] w (NewPost (P.putI f b n) w) := by
  have HN : Hid (NewPost [] w (.returned (.slice none 0 0)) w) := ⟨_, rfl, ownN_nil _ _, Below.refl _ _⟩
  by_cases hm : P.may f b n
  · have hput : P.putI f b n = P.put f.toNat b.toNat n.toNat := by unfold P.putI; rw [if_pos hm]
    rw [hput]
    obtain ⟨m1, m2, m3, m4, m5, m6, m7⟩ := hm
    obtain ⟨f, rfl⟩ : ∃ k : Nat, f = (k : Int) := ⟨f.toNat, by omega⟩
    obtain ⟨b, rfl⟩ : ∃ k : Nat, b = (k : Int) := ⟨b.toNat, by omega⟩
    obtain ⟨n, rfl⟩ : ∃ k : Nat, n = (k : Int) := ⟨n.toNat, by omega⟩
    simp only [Int.toNat_natCast] at m7 ⊢
    have hf7 : f % 2 ^ b = 0 := by exact_mod_cast m7
    have hff : f + P.full b < 256 := by
      have hp : 2 ^ b * 2 ^ (8 - b) = 256 := by rw [← Nat.pow_add, show b + (8 - b) = 8 by omega]
      have h1 : f = 2 ^ b * (f / 2 ^ b) := by have := Nat.div_add_mod f (2 ^ b); omega
      have h2 : f / 2 ^ b < 2 ^ (8 - b) := Nat.div_lt_of_lt_mul (by rw [hp]; omega)
      have h3 : 2 ^ b * (f / 2 ^ b + 1) ≤ 2 ^ b * 2 ^ (8 - b) := Nat.mul_le_mul_left _ h2
      rw [Nat.mul_add] at h3
      have := Nat.two_pow_pos b
      unfold P.full
      omega
    exact refPut_yes f b n w (by omega) (by omega) (by omega) hf7 hff
  · have hput : P.putI f b n = [] := by unfold P.putI; rw [if_neg hm]
    rw [hput]
    clear hput
    by_cases hb1 : b < 1
    · clear hm
      go_enter Tryd.func14, Tryd.ntmps14
      go_wp2
      go_ret
      exact HN.out
    by_cases hb2 : 8 < b
    · clear hm
      go_enter Tryd.func14, Tryd.ntmps14
      go_wp2
      go_ret
      exact HN.out
    by_cases hn0 : n < 0
    · clear hm
      go_enter Tryd.func14, Tryd.ntmps14
      go_wp2
      go_ret
      exact HN.out
    by_cases hn1 : 2147483647 < n
    · clear hm
      go_enter Tryd.func14, Tryd.ntmps14
      go_wp2
      go_ret
      exact HN.out
    by_cases hf0 : f < 0
    · clear hm
      go_enter Tryd.func14, Tryd.ntmps14
      go_wp2
      go_ret
      exact HN.out
    by_cases hf1 : 255 < f
    · clear hm
      go_enter Tryd.func14, Tryd.ntmps14
      go_wp2
      go_ret
      exact HN.out
    obtain ⟨f, rfl⟩ : ∃ k : Nat, f = (k : Int) := ⟨f.toNat, by omega⟩
    obtain ⟨b, rfl⟩ : ∃ k : Nat, b = (k : Int) := ⟨b.toNat, by omega⟩
    have hr0 : f % 2 ^ b ≠ 0 := fun e => hm ⟨by omega, by omega, by omega, by omega, by omega, by omega, by rw [Int.toNat_natCast]; exact_mod_cast e⟩
    obtain ⟨hs1, hs2⟩ := shl_full b (by omega)
    have hmo : ((f : Int) % ((P.full b : Int) + 1) != 0) = true := by
      have h2 := Nat.two_pow_pos b
      have e1 : (P.full b : Int) + 1 = ((2 ^ b : Nat) : Int) := by unfold P.full; omega
      have : (f : Int) % ((2 ^ b : Nat) : Int) = ((f % 2 ^ b : Nat) : Int) := by push_cast; rfl
      rw [e1, this]
      clear this e1
      generalize f % 2 ^ b = r at *
      simp
      omega
    have h0 : ¬ (P.full b : Int) + 1 = 0 := by omega
    clear hm hr0
    generalize P.full b = F at *
    go_enter Tryd.func14, Tryd.ntmps14
    go_wp2
    go_ret
    exact HN.out
end Go.Proofs.YthdgcakbeiocgaaDoor
/- Krefc -/
namespace Go.Proofs.YthdgcakbeiocgaaDoor
open Go.RowKit

/-- The reference's answer for a number. -/
def codeR : Option Nat → Int
  | none => 0
  | some i => 101 + i
theorem w64 (z : Int) (h1 : 0 ≤ z) (h2 : z < 4611686018427387904) : wrap64 z = z := by unfold wrap64; omega
theorem ref_val (X d p : Nat) (hX : X < 1099511627776) (hd : d < 256) (hp : p ≤ 268435456) : wrap64 ((X : Int) + wrap64 (wrap64 (bits .and .u8 (d : Int) 127) * (p : Int))) = ((X + d % 128 * p : Nat) : Int) := by
  have e1 : bits .and .u8 (d : Int) 127 = (d : Int) % 128 := bits_mask .u8 8 (by decide) wraps_u8 7 (by decide) d (by omega) (by omega)
  have h1 : d % 128 * p ≤ 127 * 268435456 := Nat.mul_le_mul (by omega) hp
  have e3 : (d : Int) % 128 = ((d % 128 : Nat) : Int) := by omega
  have e4 : wrap64 ((d % 128 : Nat) : Int) = ((d % 128 : Nat) : Int) := w64 _ (by omega) (by omega)
  rw [e1, e3, e4, ← Int.natCast_mul]
  generalize d % 128 * p = z at *
  rw [w64 (z : Int) (by omega) (by omega), ← Int.natCast_add]
  exact w64 _ (by omega) (by omega)
def getR (x : Nat × Nat × Option Nat) : Value := .tuple #[.int .i64 (x.1 : Nat), .int .i64 (x.2.1 : Nat), .int .i64 (codeR x.2.2)]

set_option maxRecDepth 100000 in
set_option maxHeartbeats 1000000 in
theorem refInt_b {B : Nat} (b : Nat) (a : Option Addr) (len cap : Nat) (l : List Nat) (w : World) (hb1 : 1 ≤ b) (hb : b ≤ 8) (hl : l.length = len) (hlen : len ≤ 140737488355328) (hr : Rd B w a l) :
    Calls Tryd.prog 16 #[.slice a len cap, .int .i64 (b : Nat)] w fun e w' => e = .returned (getR (P.get b l)) ∧ w = w' := by
  obtain ⟨hs1, hs2⟩ := shl_full b hb
  have Hr := Lib.hid hr
  have Hl := Lib.hid hl
  clear hr
  cases l with
  | nil =>
    simp at hl
    subst hl
    go_enter Tryd.func16, Tryd.ntmps16
    go_wp2
    go_ret3
    exact ⟨rfl, rfl⟩
  | cons c r =>
    obtain ⟨bb, o, rfl, hbB, hcell⟩ := Hr.out.ptr (by simp)
    have hc0 := hcell 0 (by simp)
    have hcl : c < 256 := Hr.out.1 c (by simp)
    have HG : Hid (P.get b (c :: r) = if c % 2 ^ b < P.full b then (c % 2 ^ b, 1, none) else P.more r 1 (c % 2 ^ b)) := P.get_cons b c r
    have ea := and_full (b := b) (f := c) hb hcl
    have hn0 : c % 2 ^ b < 256 := Nat.lt_of_le_of_lt (Nat.mod_le _ _) hcl
    have hF8 := P.full_le hb
    rw [Nat.add_zero] at hc0
    simp only [List.getD_cons_zero] at hc0
    generalize c % 2 ^ b = n0 at *
    generalize P.full b = F at *
    have hlen1 : 1 ≤ len := by rw [← hl]; simp
    have q0 : 0 < len := by omega
    have q00 : ((len : Int) == 0) = false := by simp; omega
    clear hl
    have ew : IntKind.i64.wrap (c : Int) = (c : Int) := by rw [IntKind.wrap_i64]; omega
    by_cases hlt : n0 < F
    · rw [if_pos hlt] at HG
      go_enter Tryd.func16, Tryd.ntmps16
      go_wp2
      go_ret3
      refine ⟨?_, rfl⟩
      rw [HG.out]
      rfl
    · rw [if_neg hlt] at HG
      go_enter Tryd.func16, Tryd.ntmps16
      go_wp2
      go_loopw [8, 9] (fun x y wr => ∃ i X : Nat, x = .int .i64 (X : Nat) ∧ y = .int .i64 (i : Nat) ∧ 1 ≤ i ∧ i ≤ 6 ∧ i ≤ len ∧ Hid (X < 2 ^ (7 * i + 1)) ∧ Hid (P.get b (c :: r) = P.more ((c :: r).drop i) i X) ∧ wr = w) (fun _ y _ => 6 - (intOf y).toNat)
      case atStart => exact ⟨1, n0, rfl, rfl, by omega, by omega, by omega, (show n0 < 2 ^ (7 * 1 + 1) by omega), HG.out, rfl⟩
      case round =>
        obtain ⟨i, X, rfl, rfl, hi1, hi6, hil, HX, HP2, rfl⟩ := hrel
        by_cases h6 : i = 6
        · subst h6
          have HM : Hid (P.get b (c :: r) = (0, 0, some 1)) := by
            show _ = _
            rw [HP2.out]
            cases (c :: r).drop 6 <;> simp [P.more]
          clear HP2 HX
          have q5 : (5 : Int) < (len : Int) := by omega
          go_wp2
          all_goals
            go_ret3
            refine ⟨?_, rfl⟩
            rw [HM.out]
            rfl
        by_cases hend : i = len
        · subst hend
          have HM : Hid (P.get b (c :: r) = (0, 0, some 0)) := by
            show _ = _
            rw [HP2.out, List.drop_of_length_le (by rw [Hl.out]; exact Nat.le_refl _), P.more, if_neg h6]
          clear HP2 HX
          have q5 : ¬ (5 : Int) < (i : Int) := by omega
          have q6 : ¬ (i : Int) < (i : Int) := by omega
          go_wp2
          go_ret3
          refine ⟨?_, rfl⟩
          rw [HM.out]
          rfl
        have hlt : i < (c :: r).length := by rw [Hl.out]; omega
        have hce := hcell i hlt
        have HD : Hid ((c :: r).drop i = (c :: r).getD i 0 :: (c :: r).drop (i + 1)) := by
          show _ = _
          rw [List.drop_eq_getElem_cons hlt, List.getD_eq_getElem?_getD, List.getElem?_eq_getElem hlt]
          rfl
        have hd256 := Hr.out.lt i
        generalize (c :: r).getD i 0 = d at *
        have q1 : (0 : Int) ≤ (i : Int) := by omega
        have q2 : (i : Int) < (len : Int) := by omega
        have q3 : (i : Int) ≤ 5 := by omega
        go_upto_region 13 with (fail)
        have hX := HX.out
        have hp : (2 : Nat) ^ (7 * (i - 1)) ≤ 2 ^ 28 := Nat.pow_le_pow_right (by omega) (by omega)
        have e28 : (2 : Nat) ^ 28 = 268435456 := by decide
        have hX2 : X < 1099511627776 := Nat.lt_of_lt_of_le hX (Nat.le_trans (Nat.pow_le_pow_right (by omega) (show 7 * i + 1 ≤ 36 by omega)) (by decide))
        have hpp : 2 ^ (7 * i) = 128 * 2 ^ (7 * (i - 1)) := by
          rw [show 7 * i = 7 * (i - 1) + 7 by omega, Nat.pow_add, Nat.mul_comm]
        have hXn : X + d % 128 * 2 ^ (7 * (i - 1)) < 2 ^ (7 * (i + 1) + 1) := by
          have h1 : d % 128 * 2 ^ (7 * (i - 1)) ≤ 128 * 2 ^ (7 * (i - 1)) := Nat.mul_le_mul_right _ (by omega)
          rw [show 7 * (i + 1) + 1 = (7 * i + 1) + 7 by omega, Nat.pow_add]
          rw [Nat.pow_succ] at hX ⊢
          omega
        have hval := ref_val X d (2 ^ (7 * (i - 1))) hX2 hd256 (by rw [← e28]; exact hp)
        have ep : (((2 ^ (7 * (i - 1)) : Nat)) : Int) = (2 : Int) ^ (7 * (i - 1)) := by push_cast; rfl
        rw [ep] at hval
        clear ep
        rw [hval]
        have HM : Hid (P.get b (c :: r) = if 128 ≤ d then P.more ((c :: r).drop (i + 1)) (i + 1) (X + d % 128 * 2 ^ (7 * (i - 1))) else if 2147483647 < X + d % 128 * 2 ^ (7 * (i - 1)) then (0, 0, some 1) else (X + d % 128 * 2 ^ (7 * (i - 1)), i + 1, none)) := by
          show _ = _
          rw [HP2.out, HD.out, P.more, if_neg h6]
        clear hval hpp hp e28 hX hX2 HP2 HD HX
        generalize X + d % 128 * 2 ^ (7 * (i - 1)) = X2 at *
        have HXn := Lib.hid hXn
        clear hXn
        by_cases hd : 128 ≤ d
        · rw [if_pos hd] at HM
          have q4 : ¬ (d : Int) < 128 := by omega
          go_wp2
          go_roundw
          case rel => exact ⟨i + 1, X2, by first | rfl | (congr 1), by rw [Int.natCast_add]; rfl, by omega, by omega, by omega, HXn.out, HM.out, by simp⟩
          case measure => simp [intOf]; omega
        · rw [if_neg hd] at HM
          have q4 : (d : Int) < 128 := by omega
          by_cases hbig : 2147483647 < X2
          · rw [if_pos hbig] at HM
            have q5 : (2147483647 : Int) < (X2 : Int) := by omega
            go_wp2
            go_ret3
            refine ⟨?_, rfl⟩
            rw [HM.out]
            rfl
          · rw [if_neg hbig] at HM
            have q5 : ¬ (2147483647 : Int) < (X2 : Int) := by omega
            go_wp2
            go_ret3
            refine ⟨?_, rfl⟩
            rw [HM.out]
            rfl

set_option maxRecDepth 100000 in
theorem refInt_any {B : Nat} (b : Int) (a : Option Addr) (len cap : Nat) (l : List Nat) (w : World) (hl : l.length = len) (hlen : len ≤ 140737488355328) (hr : Rd B w a l) :
    Calls Tryd.prog 16 #[.slice a len cap, .int .i64 b] w fun e w' => e = .returned (getR (P.getI b l)) ∧ w = w' := by
  by_cases h : 1 ≤ b ∧ b ≤ 8
  · obtain ⟨b, rfl⟩ : ∃ k : Nat, b = (k : Int) := ⟨b.toNat, by omega⟩
    have hg : P.getI (b : Int) l = P.get b l := by unfold P.getI; rw [if_pos h, Int.toNat_natCast]
    rw [hg]
    exact refInt_b b a len cap l w (by omega) (by omega) hl hlen hr
  · have hg : P.getI b l = (0, 0, some 1) := by unfold P.getI; rw [if_neg h]
    rw [hg]
    by_cases h1 : b < 1
    · go_enter Tryd.func16, Tryd.ntmps16
      go_wp2
      go_ret3
      exact ⟨rfl, rfl⟩
    · have h2 : 8 < b := by omega
      go_enter Tryd.func16, Tryd.ntmps16
      go_wp2
      go_ret3
      exact ⟨rfl, rfl⟩
end Go.Proofs.YthdgcakbeiocgaaDoor
/- Gbytes -/
namespace Go.Proofs.YthdgcakbeiocgaaDoor
open Go.RowKit

theorem bytes_any {B2 : Nat} (a : Option Addr) (len cap : Nat) (l : List Nat) (w : World) (hl : l.length = len) (hr : Rd B2 w a l) (hsz : len ≤ 140737488355328) :
    Calls Tryd.prog 13 #[.slice a len cap] w (OwnPost w.heap.size l w) := by
  have Hr := Lib.hid hr
  have Hl := Lib.hid hl
  clear hr hl
  obtain ⟨i0, hi, hz0, hz1, hz2⟩ := info_parts info5
  have hb2 : i0.bytes * len ≤ 281474976710656 := by rw [hz2]; omega
  have HB2 := Lib.hid hb2
  clear hb2
  go_enter Tryd.func13, Tryd.ntmps13
  go_wp2_with (first | (at_make; refine wpList_make_own _ rfl _ _ 22 rfl w.heap.size 5 i0 (.int .u8 0) 1 Tryd.underlying22 hi hz0 hz1 .i64 .i64 _ len rfl rfl rfl HB2.out ?_ (Nat.le_refl _) ?_; unfold maxLen; omega; intro w1 hown hgrow; have HR1 := Lib.hid (Hr.out.below (Below.grown (Below.refl w.heap.size w) hgrow (Nat.le_refl _) (fun k e => by cases e))); have hs1 := hgrow.size) | (at_builtin; refine wpList_app _ rfl _ _ 22 rfl w.heap.size B2 5 i0 (.int .u8 0) Tryd.underlying22 hi hz0 hz1 hz2 rfl _ 0 [] rfl hown (by intro e; cases e) a len cap l rfl Hl.out HR1.out ?_ hs1 ?_; omega; intro g cp w2 hown2 hgrow2))
  go_ret
  have hl := Hl.out
  subst hl
  rw [Nat.zero_add, List.nil_append] at hown2
  refine ⟨_, rfl, ⟨hown2, g, cp, rfl⟩, ?_⟩
  exact (Below.grown (Below.refl w.heap.size w) hgrow (Nat.le_refl _) (fun k e => by cases e)).grown hgrow2 hs1 (fun k e => by cases e; exact Nat.le_refl _)
end Go.Proofs.YthdgcakbeiocgaaDoor
