/-
The walks of table.Static and Get.
-/
import Derived.Test.YthdgcakbeiocgaaDoorBst
import Derived.Test.YthdgcakbeiocgaaDoorBget
namespace Go.Proofs.YthdgcakbeiocgaaDoor
open Go.RowKit

theorem stF_at (j : Nat) : stF (j * 3) = .string (B.stL.getD j (⟨#[]⟩, ⟨#[]⟩)).1 ∧ stF (j * 3 + 1) = .string (B.stL.getD j (⟨#[]⟩, ⟨#[]⟩)).2 ∧ stF (j * 3 + 2) = .bool false := by
  unfold stF
  refine ⟨?_, ?_, ?_⟩
  · rw [if_pos (by omega), show j * 3 / 3 = j by omega]
  · rw [if_neg (by omega), if_pos (by omega), show (j * 3 + 1) / 3 = j by omega]
  · rw [if_neg (by omega), if_neg (by omega)]

set_option maxRecDepth 100000 in
theorem static_no (i : Int) (w : World) (hi : ¬ (1 ≤ i ∧ i < 62)) : Calls Tryd.prog 112 #[.int .i64 i] w fun e w' => e = .returned (.tuple #[.agg #[.string ⟨#[]⟩, .string ⟨#[]⟩, .bool false], .bool false]) ∧ Below w.heap.size w w' := by
  have hb0 : Below w.heap.size w (w.alloc (.cells #[.string ⟨#[]⟩, .string ⟨#[]⟩, .bool false] 66)) := (Below.refl _ _).alloc (Nat.le_refl _) _
  have HB0 := Lib.hid hb0
  clear hb0
  by_cases h : i < 1
  · have hd : decide (i < 1) = true := by simp; omega
    go_enter Tryd.func112, Tryd.ntmps112
    go_wp2
    refine bodyPost_ret (v := .tuple #[.agg #[.string ⟨#[]⟩, .string ⟨#[]⟩, .bool false], .bool false]) (by simp [results, Tryd.results112, go_sem]) rfl ⟨rfl, ?_⟩
    repeat (first | with_reducible exact HB0.out | with_reducible refine Below.drew ?_ | with_reducible refine below_q ?_ _ | with_reducible refine Below.setCell ?_ (by first | omega | (simp; done) | (simp; omega)) _ | with_reducible refine Below.alloc ?_ (by first | omega | (simp; done) | (simp; omega)) _)
  · have hd : decide (i < 1) = false := by simp; omega
    have h62 : 62 ≤ i := by omega
    go_enter Tryd.func112, Tryd.ntmps112
    go_wp2
    refine bodyPost_ret (v := .tuple #[.agg #[.string ⟨#[]⟩, .string ⟨#[]⟩, .bool false], .bool false]) (by simp [results, Tryd.results112, go_sem]) rfl ⟨rfl, ?_⟩
    repeat (first | with_reducible exact HB0.out | with_reducible refine Below.drew ?_ | with_reducible refine below_q ?_ _ | with_reducible refine Below.setCell ?_ (by first | omega | (simp; done) | (simp; omega)) _ | with_reducible refine Below.alloc ?_ (by first | omega | (simp; done) | (simp; omega)) _)

set_option maxRecDepth 100000 in
theorem static_yes (j : Nat) (w : World) (hj : j < 61) : Calls Tryd.prog 112 #[.int .i64 (1 + j : Nat)] w fun e w' => e = .returned (.tuple #[.agg #[.string (B.stL.getD j (⟨#[]⟩, ⟨#[]⟩)).1, .string (B.stL.getD j (⟨#[]⟩, ⟨#[]⟩)).2, .bool false], .bool true]) ∧ Below w.heap.size w w' := by
  have HA := Lib.hid (stF_at j)
  generalize B.stL.getD j (⟨#[]⟩, ⟨#[]⟩) = h at *
  obtain ⟨n, v⟩ := h
  have hd : decide ((1 : Int) + (j : Int) < 1) = false := by simp; omega
  have HST := Lib.hid (fun w => standing_any w)
  have e3 : IntKind.i64.wrap ((1 : Int) + (j : Int) - 1) = (j : Int) := by rw [IntKind.wrap_i64]; omega
  go_enter Tryd.func112, Tryd.ntmps112
  go_upto_region 3 with (fail)
  go_step
  refine wpList_plain rfl fun K hK => ?_
  go_simp
  refine (HST.out _).mono ?_
  rintro e w1 ⟨rfl, hb1⟩
  refine hK _ _ ?_
  clear hK K
  obtain ⟨⟨z0, z1, z2⟩, ⟨y0, y1, y2⟩, hs1⟩ := cells3 hb1
  have HB1 := Lib.hid (below_over hb1)
  clear hb1
  refine wpList_alloc_big rfl 157 rfl stZ.toArray run_alloc_st ?_
  have HZ := blk_stZ w1
  have hth := HZ.there (o := 0) (m := 183) (by omega)
  have hsz : stV.toArray.size = 183 := by rw [List.size_toArray]; exact stV_len
  refine wpList_store_mid rfl 157 (.tmp 4) (.tmp 12) (by rfl) w1.heap.size 0 stV.toArray (by rfl) (by rfl) (by rw [hsz]; exact hth) (by rw [hsz]; kernel_rfl) (all_oneCell_toArray stV_one) ?_
  have hf := HZ.setCells (vs := stV.toArray.toList) (by rw [List.toList_toArray]; exact stV_len) (h := stF) (fun j hj => by rw [List.toList_toArray]; exact stV_get j hj)
  have hb := below_setCells w1.heap.size (Nat.le_refl _) stV.toArray.toList 0 ((Below.refl _ w1).alloc (Nat.le_refl _) (.cells stZ.toArray 157))
  have HB2 := Lib.hid (HB1.out.trans (hb.mono (by omega)))
  have z0' := (hb.cell (p := ⟨w.heap.size, 0, none⟩) hs1).trans z0
  have z1' := (hb.cell (p := ⟨w.heap.size, 1, none⟩) hs1).trans z1
  have z2' := (hb.cell (p := ⟨w.heap.size, 2, none⟩) hs1).trans z2
  have y0' := (hb.frozen (p := ⟨w.heap.size, 0, none⟩) hs1).trans y0
  have y1' := (hb.frozen (p := ⟨w.heap.size, 1, none⟩) hs1).trans y1
  have y2' := (hb.frozen (p := ⟨w.heap.size, 2, none⟩) hs1).trans y2
  clear hb HZ hth hsz z0 z1 z2 y0 y1 y2 HST
  generalize (w1.alloc (.cells stZ.toArray 157)).setCells w1.heap.size 0 stV.toArray.toList = w2 at *
  generalize stV.toArray = C at *
  have a0 := (hf (j * 3) (by omega)).1
  have a1 := (hf (j * 3 + 1) (by omega)).1
  have a2 := (hf (j * 3 + 2) (by omega)).1
  rw [HA.out.1] at a0
  rw [HA.out.2.1] at a1
  rw [HA.out.2.2] at a2
  have hsw : w1.heap.size ≠ w.heap.size := by omega
  clear hf HA
  go_wp2
  refine bodyPost_ret (v := .tuple #[.agg #[.string n, .string v, .bool false], .bool true]) (by simp [results, Tryd.results112, go_sem, z0', z1', z2']) rfl ⟨rfl, ?_⟩
  exact ((HB2.out.setCell (Nat.le_refl _) _).setCell (Nat.le_refl _) _).setCell (Nat.le_refl _) _

/-- The header of an index: of the table that stands, or of a table that moves. -/
def B.get (l : List B.HD) (i : Int) : B.HD :=
  if 1 ≤ i ∧ i < 62 then B.stL.getD (i.toNat - 1) (⟨#[]⟩, ⟨#[]⟩) else if 62 ≤ i ∧ i - 62 < l.length then B.nth l (i.toNat - 62) else (⟨#[]⟩, ⟨#[]⟩)
def B.has (l : List B.HD) (i : Int) : Bool := decide (1 ≤ i ∧ i < 62 + (l.length : Int))

theorem static_any (i : Int) (w : World) : Calls Tryd.prog 112 #[.int .i64 i] w fun e w' => e = .returned (.tuple #[.agg #[.string (B.get [] i).1, .string (B.get [] i).2, .bool false], .bool (B.has [] i)]) ∧ Below w.heap.size w w' := by
  by_cases h : 1 ≤ i ∧ i < 62
  · obtain ⟨j, rfl⟩ : ∃ j : Nat, i = ((1 + j : Nat) : Int) := ⟨i.toNat - 1, by omega⟩
    have e1 : B.get [] ((1 + j : Nat) : Int) = B.stL.getD j (⟨#[]⟩, ⟨#[]⟩) := by
      unfold B.get
      rw [if_pos h, Int.toNat_natCast, Nat.add_sub_cancel_left]
    have e2 : B.has [] ((1 + j : Nat) : Int) = true := by unfold B.has; simp; omega
    rw [e1, e2]
    exact static_yes j w (by omega)
  · have e1 : B.get [] i = (⟨#[]⟩, ⟨#[]⟩) := by
      unfold B.get
      rw [if_neg h, if_neg (by simp only [List.length_nil]; omega)]
    have e2 : B.has [] i = false := decide_eq_false (by simp only [List.length_nil]; omega)
    rw [e1, e2]
    exact static_no i w h

set_option maxRecDepth 100000 in
theorem get_any (g : Nat) (L : List B.HD) (m : Nat) (i : Int) (w : World) (hi : i ≤ 9223372036854775807) (hT : Tab w g L m) :
    Calls Tryd.prog 110 #[.pointer (some ⟨g, 0, none⟩), .int .i64 i] w fun e w' => e = .returned (.tuple #[.agg #[.string (B.get L i).1, .string (B.get L i).2, .bool false], .bool (B.has L i)]) ∧ Below w.heap.size w w' := by
  have hg := hT.lt
  obtain ⟨hl, _, _⟩ := hT.le
  have cn := (by obtain ⟨R, o, _, h2, _⟩ := hT; exact h2.n.1 : w.cell? ⟨g, 385, none⟩ = some (.int .i64 L.length))
  have HT := Lib.hid hT
  clear hT
  by_cases h : i < 62
  · have e1 : B.get L i = B.get [] i := by
      unfold B.get
      by_cases h1 : 1 ≤ i ∧ i < 62
      · rw [if_pos h1, if_pos h1]
      · rw [if_neg h1, if_neg h1, if_neg (by omega), if_neg (by omega)]
    have e2 : B.has L i = B.has [] i := decide_eq_decide.2 (by simp only [List.length_nil]; omega)
    rw [e1, e2]
    have HS := Lib.hid (fun w => static_any i w)
    generalize B.get [] i = x at *
    obtain ⟨n, v⟩ := x
    generalize B.has [] i = b at *
    go_enter Tryd.func110, Tryd.ntmps110
    go_wp2_with (go_at_call 112; refine (HS.out _).mono ?_; rintro e w1 ⟨rfl, hb1⟩; obtain ⟨⟨z0, z1, z2⟩, ⟨y0, y1, y2⟩, hs1⟩ := cells3 hb1; have HB1 := Lib.hid (below_over hb1); clear hb1)
    refine bodyPost_ret (v := .tuple #[.agg #[.string n, .string v, .bool false], .bool b]) (by simp [results, Tryd.results110, go_sem, z0, z1, z2]) rfl ⟨rfl, ?_⟩
    exact ((HB1.out.setCell (Nat.le_refl _) _).setCell (Nat.le_refl _) _).setCell (Nat.le_refl _) _
  · obtain ⟨j, rfl⟩ : ∃ j : Nat, i = ((62 + j : Nat) : Int) := ⟨i.toNat - 62, by omega⟩
    by_cases hj : j < L.length
    · have e1 : B.get L ((62 + j : Nat) : Int) = B.nth L j := by
        unfold B.get
        rw [if_neg (by omega), if_pos (by omega), Int.toNat_natCast, Nat.add_sub_cancel_left]
      have e2 : B.has L ((62 + j : Nat) : Int) = true := by unfold B.has; simp; omega
      rw [e1, e2]
      have HM := Lib.hid (fun w hw => moved_any g L m j w hj hw)
      generalize B.nth L j = x at *
      obtain ⟨n, v⟩ := x
      have HA := Lib.hid (HT.out.below ((Below.refl w.heap.size w).alloc (Nat.le_refl _) (.cells #[.string ⟨#[]⟩, .string ⟨#[]⟩, .bool false] 66)))
      go_enter Tryd.func110, Tryd.ntmps110
      go_wp2_with (go_at_call 109; refine (HM.out _ HA.out).mono ?_; rintro e w1 ⟨rfl, hb1⟩; obtain ⟨⟨z0, z1, z2⟩, ⟨y0, y1, y2⟩, hs1⟩ := cells3 hb1; have HB1 := Lib.hid (below_over hb1); clear hb1)
      refine bodyPost_ret (v := .tuple #[.agg #[.string n, .string v, .bool false], .bool true]) (by simp [results, Tryd.results110, go_sem, z0, z1, z2]) rfl ⟨rfl, ?_⟩
      exact ((HB1.out.setCell (Nat.le_refl _) _).setCell (Nat.le_refl _) _).setCell (Nat.le_refl _) _
    · have e1 : B.get L ((62 + j : Nat) : Int) = (⟨#[]⟩, ⟨#[]⟩) := by
        unfold B.get
        rw [if_neg (by omega), if_neg (by omega)]
      have e2 : B.has L ((62 + j : Nat) : Int) = false := by unfold B.has; simp; omega
      rw [e1, e2]
      have HB0 : Hid (Below w.heap.size w (w.alloc (.cells #[.string ⟨#[]⟩, .string ⟨#[]⟩, .bool false] 66))) := (Below.refl _ _).alloc (Nat.le_refl _) _
      go_enter Tryd.func110, Tryd.ntmps110
      go_wp2
      refine bodyPost_ret (v := .tuple #[.agg #[.string ⟨#[]⟩, .string ⟨#[]⟩, .bool false], .bool false]) (by simp [results, Tryd.results110, go_sem]) rfl ⟨rfl, ?_⟩
      repeat (first | with_reducible exact HB0.out | with_reducible refine Below.drew ?_ | with_reducible refine below_q ?_ _ | with_reducible refine Below.setCell ?_ (by first | omega | (simp; done) | (simp; omega)) _ | with_reducible refine Below.alloc ?_ (by first | omega | (simp; done) | (simp; omega)) _)
end Go.Proofs.YthdgcakbeiocgaaDoor
