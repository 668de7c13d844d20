/-
The walks of table.Add, Resize.
-/
import Derived.Test.YthdgcakbeiocgaaDoorBgrow
import Derived.Test.YthdgcakbeiocgaaDoorBnew
import Derived.StillTailTactics
namespace Go.Proofs.YthdgcakbeiocgaaDoor
open Go.RowKit

theorem Only.setNew {g : Nat} {w w' : World} (h : Only g w w') {b : Nat} (hb : w.heap.size ≤ b) (j : Nat) (v : Value) : Only g w (w'.setCell ⟨b, j, none⟩ v) := by
  have h' : w.grownBy w' (some g) := h
  refine ⟨h'.os, h'.tape, h'.output, ?_, fun i hi hne => ?_⟩
  · rw [World.size_setCell]; exact h'.size
  · rw [Below.heap_setCell _ _ _ _ (show i ≠ b by omega)]
    exact h'.block i hi hne

theorem ring_add {R : Nat → B.HD} {o : Nat} {L : List B.HD} (h : Ring R o L) (hl : L.length < 128) (x : B.HD) : Ring (fun i => if i = (o + L.length) % 128 then x else R i) o (L ++ [x]) := by
  obtain ⟨h1, h2, h3⟩ := h
  refine ⟨h1, by simp; omega, fun j hj => ?_⟩
  simp at hj
  show (if _ then x else _) = _
  by_cases e : j = L.length
  · subst e
    rw [if_pos rfl]
    simp [List.getD_eq_getElem?_getD]
  · have hj2 : j < L.length := by omega
    rw [if_neg (by omega), h3 j hj2]
    simp [List.getD_eq_getElem?_getD, List.getElem?_append_left hj2]

set_option maxRecDepth 100000 in
set_option maxHeartbeats 1000000 in
theorem add_any (g : Nat) (L : List B.HD) (m : Nat) (n v : ByteArray) (b : Bool) (w : World) (hn : n.size ≤ 140737488355328) (hv : v.size ≤ 140737488355328) (hT : Tab w g L m) :
    Calls Tryd.prog 77 #[.pointer (some ⟨g, 0, none⟩), .agg #[.string n, .string v, .bool b]] w fun e w' => e = .returned (.tuple #[]) ∧ Tab w' g (B.add m L (n, v)) m ∧ Only g w w' := by
  have hg := hT.lt
  obtain ⟨hl0, hm1, hm2⟩ := hT.le
  have hm := (by obtain ⟨R, o, _, h2, _⟩ := hT; exact h2.m.1 : w.cell? ⟨g, 387, none⟩ = some (.int .i64 m))
  have HT := Lib.hid hT
  have HC : Hid (∀ w, Calls Tryd.prog 56 #[.agg #[.string n, .string v, .bool b]] w fun e w' => e = .returned (.int .i64 (B.sz (n, v) : Nat)) ∧ Below w.heap.size w w') := fun w => size_any n v b w hn hv
  have hsz : B.sz (n, v) ≤ 281474976710688 := by unfold B.sz; simp only; omega
  have hsz0 := B.sz_ge (n, v)
  have hnv : Hid (B.sz (n, v) ≤ 4096 → n.size ≤ 4096 ∧ v.size ≤ 4096) := fun h => by unfold B.sz at h; simp only at h; omega
  obtain ⟨s, hs⟩ : ∃ s, s = B.sz (n, v) := ⟨_, rfl⟩
  rw [← hs] at HC hsz hsz0 hnv
  have HS := Lib.hid hs
  clear hT hs
  go_enter Tryd.func77, Tryd.ntmps77
  go_upto_region 2 with (go_at_call 56; refine (HC.out _).mono ?_; rintro e w1 ⟨rfl, hb1⟩; obtain ⟨⟨d0, d1, d2⟩, ⟨f0, f1, f2⟩, hs1⟩ := cells3 hb1; have HB1 := Lib.hid (below_over hb1); clear hb1)
  have cm : w1.cell? ⟨g, 387, none⟩ = some (.int .i64 m) := (HB1.out.cell (p := ⟨g, 387, none⟩) hg).trans hm
  have HT1 := Lib.hid (HT.out.below HB1.out)
  have hg1 : g < w1.heap.size := by omega
  by_cases hlt : m < s
  · have HSh : Hid (Calls Tryd.prog 72 #[.pointer (some ⟨g, 0, none⟩), .int .i64 0] w1 fun e w' => e = .returned (.tuple #[]) ∧ Tab0 w' g (B.shr 0 L) m ∧ Only g w1 w') := shrink_any g L m 0 w1 (by omega) HT1.out.zero
    go_upto_region 3 with (go_at_call 72; refine HSh.out.mono ?_; rintro e w2 ⟨rfl, hT2, hO2⟩; have HT2 := Lib.hid hT2; have HO2 := Lib.hid hO2; clear hT2 hO2)
    have cm2 : w2.cell? ⟨g, 387, none⟩ = some (.int .i64 m) := by obtain ⟨R, o, _, h2, _⟩ := HT2.out; exact h2.m.1
    go_wp2
    refine bodyPost_ret (results_none rfl _ _ _) rfl ?_
    refine ⟨rfl, ?_, (Below.only HB1.out).trans HO2.out⟩
    rw [B.add_big (by rw [← HS.out]; exact hlt), ← B.shr_zero L]
    exact HT2.out.tab (Nat.le_trans (B.shr_tot 0 L) (by omega))
  · obtain ⟨x, hx, HSh⟩ : ∃ x : Int, (if s < m then (m : Int) - (s : Int) else 0) = x ∧ Hid (Calls Tryd.prog 72 #[.pointer (some ⟨g, 0, none⟩), .int .i64 x] w1 fun e w' => e = .returned (.tuple #[]) ∧ Tab0 w' g (B.shr (m - s) L) m ∧ Only g w1 w') := by
      refine ⟨_, rfl, ?_⟩
      have := shrink_any g L m (m - s) w1 (by omega) HT1.out.zero
      rw [show (if s < m then (m : Int) - (s : Int) else 0) = ((m - s : Nat) : Int) by split <;> omega]
      exact this
    go_upto_region 3 with (go_at_call 72; refine HSh.out.mono ?_; rintro e w2 ⟨rfl, hT2, hO2⟩; have HT2 := Lib.hid hT2; have HO2 := Lib.hid hO2; clear hT2 hO2)
    have htot := B.shr_tot (m - s) L
    generalize hL2 : B.shr (m - s) L = L2 at *
    have HL2 := Lib.hid hL2
    clear hL2 hx HSh
    have hs2 := HO2.out.size
    have hne : w.heap.size ≠ g := by omega
    have hlen := B.tot_len L2
    obtain ⟨R, o, HR, HTb, _, _⟩ := HT2.out
    have ho := HR.1
    obtain ⟨co, _⟩ := HTb.o
    obtain ⟨cn, cn'⟩ := HTb.n
    obtain ⟨cz, cz'⟩ := HTb.s
    obtain ⟨cm2, _⟩ := HTb.m
    have e0 := HO2.out.cell hne d0
    have e1 := HO2.out.cell hne d1
    have e2 := HO2.out.cell hne d2
    have k2 : w2.frozen? ⟨w.heap.size, 2, none⟩ = false := by
      have h : w1.grownBy w2 (some g) := HO2.out
      rw [World.frozen?_of_block (a := ⟨w.heap.size, 2, none⟩) (h.block w.heap.size hs1 (fun e => hne (Option.some.inj e)))]
      exact f2
    clear d0 d1 d2 f0 f1 f2 cm HT1
    go_upto_region 5 with (fail)
    have HT3 : Hid (Tb (w2.setCell ⟨w.heap.size, 2, none⟩ (.bool false)) g R o L2.length (B.tot L2) m) := Blk.set_other HTb hne _
    have HO3 : Hid (Only g w (w2.setCell ⟨w.heap.size, 2, none⟩ (.bool false))) := ((Below.only HB1.out).trans HO2.out).setNew (Nat.le_refl _) _ _
    have e2' : (w2.setCell ⟨w.heap.size, 2, none⟩ (.bool false)).cell? ⟨w.heap.size, 2, none⟩ = some (.bool false) := World.cell?_setCell_same (h := e2) ..
    have e0' : (w2.setCell ⟨w.heap.size, 2, none⟩ (.bool false)).cell? ⟨w.heap.size, 0, none⟩ = some (.string n) := (World.cell?_setCell_other (h := addr_ne (by omega)) ..).trans e0
    have e1' : (w2.setCell ⟨w.heap.size, 2, none⟩ (.bool false)).cell? ⟨w.heap.size, 1, none⟩ = some (.string v) := (World.cell?_setCell_other (h := addr_ne (by omega)) ..).trans e1
    clear e0 e1 e2 k2 co cn cn' cz cz' cm2 HTb HO2 HT2
    generalize w2.setCell ⟨w.heap.size, 2, none⟩ (.bool false) = w3 at *
    obtain ⟨co, _⟩ := HT3.out.o
    obtain ⟨cn, _⟩ := HT3.out.n
    obtain ⟨q, hq⟩ : ∃ q, q = (o + L2.length) % 128 := ⟨_, rfl⟩
    have hq1 : q < 128 := by omega
    obtain ⟨_, b0, b1, b2⟩ := HT3.out.at q hq1
    obtain ⟨⟨a0, a1, a2⟩, _⟩ := HT3.out.at q hq1
    have hlen2 : L2.length ≤ 128 := HR.2.1
    have hlen3 : L2.length < 128 := by omega
    generalize hl2 : L2.length = l2 at *
    have Hl2 := Lib.hid hl2
    clear hl2
    have hq2 : ((o : Int) + (l2 : Int)) % 128 = (q : Int) := by omega
    have hq1' : IntKind.i64.wrap ((o : Int) + (l2 : Int)) = (o : Int) + (l2 : Int) := by rw [IntKind.wrap_i64]; omega
    have hq3 : ((o : Int) + (l2 : Int)).tmod 128 = (q : Int) := by
      rw [Int.tmod_eq_emod_of_nonneg (by omega)]
      exact hq2
    have hq4 : (0 : Int) ≤ (q : Int) := by omega
    have hq5 : (q : Int) < 128 := by omega
    have HQ := Lib.hid hq
    have HTot := Lib.hid htot
    clear hq hlen htot hlen2 hs1 hg1 hl0 hm1 hsz0
    go_still_tail 15, (by kernel_rfl)
    go_upto_region 6 with (fail)
    have HT4 : Hid (Tb ((((w3.setCell ⟨g, q * 3, none⟩ (.string n)).setCell ⟨g, q * 3 + 1, none⟩ (.string v)).setCell ⟨g, q * 3 + 2, none⟩ (.bool false)).drew) g (fun i => if i = q then (n, v) else R i) o l2 (B.tot L2) m) := Blk.drew (Tb.setr HT3.out q hq1 (n, v))
    have HO4 : Hid (Only g w ((((w3.setCell ⟨g, q * 3, none⟩ (.string n)).setCell ⟨g, q * 3 + 1, none⟩ (.string v)).setCell ⟨g, q * 3 + 2, none⟩ (.bool false)).drew)) := (((HO3.out.set _ _).set _ _).set _ _).drew
    clear a0 a1 a2 b0 b1 b2 co cn e0' e1' e2' HT3 HO3
    generalize (((w3.setCell ⟨g, q * 3, none⟩ (.string n)).setCell ⟨g, q * 3 + 1, none⟩ (.string v)).setCell ⟨g, q * 3 + 2, none⟩ (.bool false)).drew = w4 at *
    obtain ⟨cn, cn2⟩ := HT4.out.n
    go_upto_region 7 with (fail)
    have HT5 : Hid (Tb (w4.setCell ⟨g, 385, none⟩ (.int .i64 ((l2 : Int) + 1))) g (fun i => if i = q then (n, v) else R i) o (l2 + 1) (B.tot L2) m) := Tb.setn HT4.out (l2 + 1)
    have HO5 := Lib.hid (HO4.out.set 385 (.int .i64 ((l2 : Int) + 1)))
    clear cn cn2 HT4 HO4
    generalize w4.setCell ⟨g, 385, none⟩ (.int .i64 ((l2 : Int) + 1)) = w5 at *
    obtain ⟨cz, cz2⟩ := HT5.out.s
    have hts : B.tot L2 + s ≤ m := by have := HTot.out; omega
    go_wp2
    go_end0
    refine ⟨rfl, ?_, HO5.out.set _ _⟩
    have hlt2 : ¬ m < B.sz (n, v) := by rw [← HS.out]; exact hlt
    have hL : B.add m L (n, v) = L2 ++ [(n, v)] := by rw [B.add_fit hlt2, ← HS.out, HL2.out]
    have hR := ring_add HR (by rw [Hl2.out]; omega) (n, v)
    rw [Hl2.out, ← HQ.out] at hR
    have ht : B.tot (L2 ++ [(n, v)]) = B.tot L2 + s := by rw [B.tot_app, HS.out]; simp [B.tot]
    rw [hL]
    refine ⟨_, o, hR, ?_, ?_, hm2⟩
    · have h := Tb.sets HT5.out (B.tot L2 + s)
      rw [ht, List.length_append, Hl2.out]
      simpa using h
    · rw [ht]; exact hts
end Go.Proofs.YthdgcakbeiocgaaDoor
