/-
'But for block g all is as it was': what a table's own calls keep; the table's headers under shrink and Add.
-/
import Derived.Test.YthdgcakbeiocgaaDoorBtab
import Derived.OwnWalk
import Derived.Deep.LoopGhost
import Derived.Deep.CutRange
import Derived.Deep.Light
import Derived.RegionTactic
import Derived.BigRegion
namespace Go.Proofs.YthdgcakbeiocgaaDoor
open Go.RowKit

/-- But for block g, and new memory, all is as it was. -/
def Only (g : Nat) (w w' : World) : Prop := w.grownBy w' (some g)
theorem Only.refl (g : Nat) (w : World) : Only g w w := ⟨rfl, rfl, rfl, Nat.le_refl _, fun _ _ _ => rfl⟩
theorem Only.size {g : Nat} {w w' : World} (h : Only g w w') : w.heap.size ≤ w'.heap.size := World.grownBy.size h
theorem Only.trans {g : Nat} {a b c : World} (h : Only g a b) (k : Only g b c) : Only g a c :=
  ⟨(World.grownBy.os k).trans (World.grownBy.os h), (World.grownBy.tape k).trans (World.grownBy.tape h), (World.grownBy.output k).trans (World.grownBy.output h), Nat.le_trans (World.grownBy.size h) (World.grownBy.size k),
    fun i hi hne => (World.grownBy.block k i (Nat.lt_of_lt_of_le hi (World.grownBy.size h)) hne).trans (World.grownBy.block h i hi hne)⟩
theorem Below.only {g : Nat} {w w' : World} (h : Below w.heap.size w w') : Only g w w' := ⟨h.os, h.tape, h.output, h.size, fun i hi _ => h.block i hi⟩
theorem Only.drew {g : Nat} {w w' : World} (h : Only g w w') : Only g w w'.drew := h.trans ⟨rfl, rfl, rfl, Nat.le_refl _, fun _ _ _ => rfl⟩
theorem Only.drewN {g : Nat} {w w' : World} (h : Only g w w') (q : Nat) : Only g w (w'.drewN q) := h.trans ⟨rfl, rfl, rfl, Nat.le_refl _, fun _ _ _ => rfl⟩
theorem Only.alloc {g : Nat} {w w' : World} (h : Only g w w') (o : Obj) : Only g w (w'.alloc o) := h.trans (World.grownBy_alloc w' o _)
theorem Only.set {g : Nat} {w w' : World} (h : Only g w w') (j : Nat) (v : Value) : Only g w (w'.setCell ⟨g, j, none⟩ v) :=
  h.trans ⟨rfl, rfl, rfl, by simp [World.setCell], fun k _ hk => Below.heap_setCell _ _ _ _ (fun e => hk (by simp [e]))⟩
theorem Only.below {g : Nat} {w w' w1 : World} (h : Only g w w') (hb : Below w'.heap.size w' w1) : Only g w w1 := h.trans (Below.only hb)
theorem Below.only_trans {B g : Nat} {a w w' : World} (h : Below B a w) (hg : Only g w w') (hB : B ≤ w.heap.size) (hr : B ≤ g) : Below B a w' :=
  h.grown hg hB (fun k e => by cases e; exact hr)
/-- What lies elsewhere is as it was. -/
theorem Only.cell {g : Nat} {w w' : World} (h : Only g w w') {b o : Nat} {v : Value} (hb : b ≠ g) (hc : w.cell? ⟨b, o, none⟩ = some v) : w'.cell? ⟨b, o, none⟩ = some v :=
  World.grownBy.cell h hc (fun e => hb (Option.some.inj e))

theorem ring_tail {R : Nat → B.HD} {o : Nat} {a : B.HD} {L : List B.HD} (h : Ring R o (a :: L)) (x : B.HD) : Ring (fun i => if i = o then x else R i) ((o + 1) % 128) L := by
  obtain ⟨h1, h2, h3⟩ := h
  simp only [List.length_cons] at h2 h3
  refine ⟨Nat.mod_lt _ (by omega), by omega, fun j hj => ?_⟩
  have := h3 (j + 1) (by omega)
  rw [show ((o + 1) % 128 + j) % 128 = (o + (j + 1)) % 128 by omega]
  show (if _ = o then x else _) = _
  rw [if_neg (by omega), this]
  simp [List.getD_eq_getElem?_getD]

/-- How many headers the block's cells tell. -/
def heldOf (g : Nat) (w : World) : Nat := match w.cell? ⟨g, 385, none⟩ with
  | some (.int _ n) => n.toNat
  | _ => 0

set_option maxRecDepth 100000 in
set_option maxHeartbeats 1000000 in
theorem shrink_any (g : Nat) (L : List B.HD) (m k : Nat) (w : World) (hk : k ≤ 4096) (hT : Tab0 w g L m) :
    Calls Tryd.prog 72 #[.pointer (some ⟨g, 0, none⟩), .int .i64 k] w fun e w' => e = .returned (.tuple #[]) ∧ Tab0 w' g (B.shr k L) m ∧ Only g w w' := by
  have HT := Lib.hid hT
  clear hT
  go_enter Tryd.func72, Tryd.ntmps72
  go_wp2
  go_loopg [] L.length (fun i wr => ∃ L', L'.length = i ∧ Hid (Tab0 wr g L' m) ∧ Hid (B.shr k L' = B.shr k L) ∧ Hid (Only g w wr))
  case atStart => exact ⟨L, rfl, HT, rfl, Only.refl _ _⟩
  case round =>
    obtain ⟨L', hL', HT', HS, HO⟩ := hrel
    clear HT
    obtain ⟨R, o, HR, HTb, hm1, hm2⟩ := HT'.out
    have cs := HTb.s.1
    by_cases hlt : k < B.tot L'
    · obtain ⟨a, L1, rfl⟩ : ∃ a L1, L' = a :: L1 := by
        cases L' with
        | nil => simp [B.tot] at hlt
        | cons a L1 => exact ⟨a, L1, rfl⟩
      obtain ⟨ho, hl, hr⟩ := id HR
      have h0 := hr 0 (by simp)
      rw [Nat.add_zero, Nat.mod_eq_of_lt ho] at h0
      have ha : R o = a := by rw [h0]; rfl
      obtain ⟨⟨a0, a1, a2⟩, b0, b1, b2⟩ := HTb.at o ho
      rw [ha] at a0 a1
      have co := HTb.o
      have cn := HTb.n
      have cs := HTb.s
      have hsz : B.sz a ≤ 4096 := by have : B.tot (a :: L1) = B.sz a + B.tot L1 := rfl; omega
      have hz1 : a.1.size ≤ 140737488355328 := by unfold B.sz at hsz; omega
      have hz2 : a.2.size ≤ 140737488355328 := by unfold B.sz at hsz; omega
      have hg : g < wr.heap.size := HT'.out.lt
      have HC : Hid (∀ q, Calls Tryd.prog 56 #[.agg #[.string a.1, .string a.2, .bool false]] (wr.drewN q) fun e w' => e = .returned (.int .i64 (B.sz a : Nat)) ∧ Below (wr.drewN q).heap.size (wr.drewN q) w') := fun q => size_any a.1 a.2 false _ hz1 hz2
      go_upto_region 1 with (fail)
      obtain ⟨cs1, cs2⟩ := cs
      obtain ⟨co, _⟩ := co
      clear b0 b1 b2 cn hr h0
      have EV : Hid (IntKind.i64.wrap (((B.tot (a :: L1) : Nat) : Int) - ((B.sz a : Nat) : Int)) = ((B.tot L1 : Nat) : Int)) := by
        have h2 : B.tot (a :: L1) = B.sz a + B.tot L1 := rfl
        show _ = _
        rw [IntKind.wrap_i64]
        omega
      go_cut [] from 4 to 51 (fun wx => Hid (Tb wx g R o (L1.length + 1) (B.tot L1) m) ∧ Hid (Only g wr wx))
      case first =>
        go_region_with (go_at_call 56; refine (HC.out _).mono ?_; rintro e w1 ⟨rfl, hb1⟩; have d0 := (hb1.cell (p := ⟨g, 386, none⟩) hg).trans cs1; have d1 := (hb1.frozen (p := ⟨g, 386, none⟩) hg).trans cs2; have HB1 := Lib.hid hb1; clear hb1)
        all_goals
          go_wp2
          go_meet
          go_light
          rw [EV.out]
          exact ⟨Tb.sets (Blk.below (Blk.drewN HTb _) HB1.out) _, (Only.trans ((Only.refl g wr).drewN _) (Below.only HB1.out)).set _ _⟩
      case rest =>
        obtain ⟨HT1, HO1⟩ := hcut
        clear HC cs1 cs2 HTb co a0 a1 a2
        obtain ⟨co, _⟩ := HT1.out.o
        obtain ⟨_, b0, b1, b2⟩ := HT1.out.at o ho
        obtain ⟨⟨a0, a1, a2⟩, _⟩ := HT1.out.at o ho
        go_wp2
        go_region
        go_upto_region 3 with (fail)
        have HT2 : Hid (Tb _ g _ o _ _ m) := Blk.drew (Tb.setr HT1.out o ho (⟨#[]⟩, ⟨#[]⟩))
        have HO2 := Lib.hid ((((HO1.out.set (o * 3) (.string ⟨#[]⟩)).set (o * 3 + 1) (.string ⟨#[]⟩)).set (o * 3 + 2) (.bool false)).drew)
        clear co a0 a1 a2 b0 b1 b2 HT1 HO1
        generalize ((((wc.setCell ⟨g, o * 3, none⟩ (.string ⟨#[]⟩)).setCell ⟨g, o * 3 + 1, none⟩ (.string ⟨#[]⟩)).setCell ⟨g, o * 3 + 2, none⟩ (.bool false)).drew) = w2 at *
        obtain ⟨co, co2⟩ := HT2.out.o
        have ho2 : (o + 1) % 128 < 128 := Nat.mod_lt _ (by omega)
        go_upto_region 4 with (fail)
        have HT3 : Hid (Tb (w2.setCell ⟨g, 384, none⟩ (.int .i64 (((o : Int) + 1) % 128))) g (fun i => if i = o then (⟨#[]⟩, ⟨#[]⟩) else R i) ((o + 1) % 128) (L1.length + 1) (B.tot L1) m) := by
          have := Tb.seto HT2.out ((o + 1) % 128)
          rw [show (((o + 1) % 128 : Nat) : Int) = ((o : Int) + 1) % 128 by omega] at this
          exact this
        have HO3 := Lib.hid (HO2.out.set 384 (.int .i64 (((o : Int) + 1) % 128)))
        clear co co2 HT2 HO2
        generalize w2.setCell ⟨g, 384, none⟩ (.int .i64 (((o : Int) + 1) % 128)) = w3 at *
        obtain ⟨cn1, cn2⟩ := HT3.out.n
        have HL : Hid (L1.length + 1 = gk) := hL'
        have hn1 : L1.length ≤ 127 := by simpa using hl
        clear hl hL'
        go_wp2
        go_roundg L1.length
        case measure => have := HL.out; omega
        case rel =>
          refine ⟨L1, rfl, ⟨_, _, ring_tail HR (⟨#[]⟩, ⟨#[]⟩), ?_, ?_, hm2⟩, ?_, ?_⟩
          · have := Tb.setn HT3.out L1.length
            simpa using this
          · have : B.tot (a :: L1) = B.sz a + B.tot L1 := rfl
            omega
          · show _ = _
            rw [← HS.out, B.shr_step hlt]
          · exact (HO.out.trans HO3.out).set _ _
    · go_wp2
      go_end0
      exact ⟨rfl, by rw [← HS.out, B.shr_stop (by omega)]; exact HT'.out, HO.out⟩
end Go.Proofs.YthdgcakbeiocgaaDoor
