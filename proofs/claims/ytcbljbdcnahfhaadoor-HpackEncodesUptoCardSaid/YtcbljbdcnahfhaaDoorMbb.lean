/-
The walk of table.standing: the table that stands as one value, whatever stands in memory.
-/
import Derived.RangeFuncNested
import Derived.RangeFuncBound
import Derived.RangeFuncCalls
import Derived.RangeFuncLeaves
import Derived.RangeFuncBox
import Derived.Shelf.Abstract
import Derived.Shelf.RegionOpen
import Derived.WalkKit
import Derived.OwnWalkIn
import Derived.TacticsInMore
import Derived.LoopNIn
import Derived.LoopIn
import Derived.Test.YtcbljbdcnahfhaaDoorMba
import Derived.Test.YtcbljbdcnahfhaaDoorMga
/- Bst -/
namespace Go.Proofs.YtcbljbdcnahfhaaDoor
open Go.RowKit

/-- The cells of the table that stands. -/
def stF (j : Nat) : Value :=
  if j % 3 = 0 then .string (B.stL.getD (j / 3) (⟨#[]⟩, ⟨#[]⟩)).1 else if j % 3 = 1 then .string (B.stL.getD (j / 3) (⟨#[]⟩, ⟨#[]⟩)).2 else .bool false
def stV : List Value := (List.range 183).map stF
theorem stV_len : stV.length = 183 := by rw [stV, List.length_map, List.length_range]
theorem stV_get (j : Nat) (hj : j < 183) : stV[j]? = some (stF j) := by rw [stV, List.getElem?_map, List.getElem?_range hj]; rfl
theorem stF_one (j : Nat) : (stF j).oneCell' = true := by
  unfold stF
  split
  · rfl
  · split <;> rfl
theorem stV_one : ∀ v ∈ stV, v.oneCell' = true := by
  intro v hv
  obtain ⟨i, _, rfl⟩ := List.mem_map.1 hv
  exact stF_one i
def stP : Array (Nat × Value) := ((List.range 61).map fun i => (i, Value.agg #[.string (B.stL.getD i (⟨#[]⟩, ⟨#[]⟩)).1, .string (B.stL.getD i (⟨#[]⟩, ⟨#[]⟩)).2, .bool false])).toArray
theorem run_build_st (w : World) : (Instr.build 157 stP).run Tryd.prog w = .ok (.agg stV.toArray) w := by kernel_rfl
/-- The cells of one that is made. -/
def stZ : List Value := (List.range 183).map fun j => if j % 3 = 2 then Value.bool false else .string ⟨#[]⟩
theorem stZ_len : stZ.length = 183 := by rw [stZ, List.length_map, List.length_range]
theorem run_alloc_st (w : World) : (Instr.alloc 157 true (.tuple #[])).run Tryd.prog w = .ok (.pointer (some ⟨w.heap.size, 0, none⟩)) (w.alloc (.cells stZ.toArray 157)) := by kernel_rfl
theorem blk_stZ (w : World) : Blk (w.alloc (.cells stZ.toArray 157)) w.heap.size 183 (fun j => if j % 3 = 2 then Value.bool false else .string ⟨#[]⟩) := by
  have h := Blk.new w stZ.toArray 157 (fun j => if j % 3 = 2 then Value.bool false else .string ⟨#[]⟩) (fun j hj => by
    rw [List.getElem?_toArray, stZ, List.getElem?_map, List.getElem?_range (by simpa [stZ_len] using hj)]; rfl)
  rw [show stZ.toArray.size = 183 by simp [stZ_len]] at h
  exact h

set_option maxRecDepth 100000 in
set_option maxHeartbeats 1000000 in
theorem standing_any (w : World) : Calls Tryd.prog 99 #[] w fun e w' => e = .returned (.agg stV.toArray) ∧ Below w.heap.size w w' := by
  have HZ := Lib.hid (blk_stZ w)
  have HB : Hid (Below w.heap.size w (w.alloc (.cells stZ.toArray 157))) := (Below.refl _ _).alloc (Nat.le_refl _) _
  go_enter Tryd.func99, Tryd.ntmps99
  go_upto_region 0 with (fail)
  go_step
  refine wpList_alloc_big rfl 157 rfl stZ.toArray run_alloc_st ?_
  generalize w.alloc (.cells stZ.toArray 157) = w1 at *
  generalize hs : w.heap.size = sb at *
  have HS := Lib.hid hs
  clear hs
  go_upto_region 1 with (fail)
  go_step
  iterate 61
    refine wpList_plain rfl fun K hK => ?_
    go_simp
    refine hK _ _ ?_
    clear hK K
  refine wpList_build_big rfl 157 _ rfl stP (by kernel_rfl) _ (run_build_st w1) ?_
  have hth := HZ.out.there (o := 0) (m := 183) (by omega)
  have hsz : stV.toArray.size = 183 := by rw [List.size_toArray]; exact stV_len
  refine wpList_store_mid rfl 157 (.tmp 0) (.tmp 62) (by rfl) sb 0 stV.toArray (by rfl) (by rfl) (by rw [hsz]; exact hth) (by rw [hsz]; kernel_rfl) (all_oneCell_toArray stV_one) ?_
  have hf := HZ.out.setCells (vs := stV.toArray.toList) (by rw [List.toList_toArray]; exact stV_len) (h := stF) (fun j hj => by rw [List.toList_toArray]; exact stV_get j hj)
  have hb := below_setCells sb (Nat.le_refl _) stV.toArray.toList 0 HB.out
  generalize w1.setCells sb 0 stV.toArray.toList = w4 at *
  go_wp2
  have hl := run_loadVar_mid (P := Tryd.prog) w4 sb 0 157 stV _ (Blk.rangeAt hf fun j hj => by
    rw [stV_len] at hj
    rw [Nat.zero_add]
    exact ⟨hj, stV_get j hj⟩) Tryd.underlying157 (by rfl) (by rw [stV_len]; kernel_rfl)
  clear hf hsz hth
  exact bodyPost_ret (v := .agg stV.toArray) (results_cell1 rfl _ (by rfl) hl) rfl ⟨rfl, by rw [HS.out]; exact hb⟩
end Go.Proofs.YtcbljbdcnahfhaaDoor
/- Bsta -/
namespace Go.Proofs.YtcbljbdcnahfhaaDoor
open Go.RowKit

theorem stF_at (j : Nat) : stF (j * 3) = .string (B.stL.getD j (⟨#[]⟩, ⟨#[]⟩)).1 ∧ stF (j * 3 + 1) = .string (B.stL.getD j (⟨#[]⟩, ⟨#[]⟩)).2 ∧ stF (j * 3 + 2) = .bool false := by
  unfold stF
  refine ⟨?_, ?_, ?_⟩
  · rw [if_pos (by omega), show j * 3 / 3 = j by omega]
  · rw [if_neg (by omega), if_pos (by omega), show (j * 3 + 1) / 3 = j by omega]
  · rw [if_neg (by omega), if_neg (by omega)]

set_option maxRecDepth 100000 in
theorem static_no (i : Int) (w : World) (hi : ¬ (1 ≤ i ∧ i < 62)) : Calls Tryd.prog 112 #[.int .i64 i] w fun e w' => e = .returned (.tuple #[.agg #[.string ⟨#[]⟩, .string ⟨#[]⟩, .bool false], .bool false]) ∧ Below w.heap.size w w' := by
  have hb0 : Below w.heap.size w (w.alloc (.cells #[.string ⟨#[]⟩, .string ⟨#[]⟩, .bool false] 66)) := (Below.refl _ _).alloc (Nat.le_refl _) _
  have HB0 := Lib.hid hb0
  clear hb0
  by_cases h : i < 1
  · have hd : decide (i < 1) = true := by simp; omega
    go_enter Tryd.func112, Tryd.ntmps112
    go_wp2
    refine bodyPost_ret (v := .tuple #[.agg #[.string ⟨#[]⟩, .string ⟨#[]⟩, .bool false], .bool false]) (by simp [results, Tryd.results112, go_sem]) rfl ⟨rfl, ?_⟩
    repeat (first | with_reducible exact HB0.out | with_reducible refine Below.drew ?_ | with_reducible refine below_q ?_ _ | with_reducible refine Below.setCell ?_ (by first | omega | (simp; done) | (simp; omega)) _ | with_reducible refine Below.alloc ?_ (by first | omega | (simp; done) | (simp; omega)) _)
  · have hd : decide (i < 1) = false := by simp; omega
    have h62 : 62 ≤ i := by omega
    go_enter Tryd.func112, Tryd.ntmps112
    go_wp2
    refine bodyPost_ret (v := .tuple #[.agg #[.string ⟨#[]⟩, .string ⟨#[]⟩, .bool false], .bool false]) (by simp [results, Tryd.results112, go_sem]) rfl ⟨rfl, ?_⟩
    repeat (first | with_reducible exact HB0.out | with_reducible refine Below.drew ?_ | with_reducible refine below_q ?_ _ | with_reducible refine Below.setCell ?_ (by first | omega | (simp; done) | (simp; omega)) _ | with_reducible refine Below.alloc ?_ (by first | omega | (simp; done) | (simp; omega)) _)

set_option maxRecDepth 100000 in
theorem static_yes (j : Nat) (w : World) (hj : j < 61) : Calls Tryd.prog 112 #[.int .i64 (1 + j : Nat)] w fun e w' => e = .returned (.tuple #[.agg #[.string (B.stL.getD j (⟨#[]⟩, ⟨#[]⟩)).1, .string (B.stL.getD j (⟨#[]⟩, ⟨#[]⟩)).2, .bool false], .bool true]) ∧ Below w.heap.size w w' := by
  have HA := Lib.hid (stF_at j)
  generalize B.stL.getD j (⟨#[]⟩, ⟨#[]⟩) = h at *
  obtain ⟨n, v⟩ := h
  have hd : decide ((1 : Int) + (j : Int) < 1) = false := by simp; omega
  have HST := Lib.hid (fun w => standing_any w)
  have e3 : IntKind.i64.wrap ((1 : Int) + (j : Int) - 1) = (j : Int) := by rw [IntKind.wrap_i64]; omega
  go_enter Tryd.func112, Tryd.ntmps112
  go_upto_region 3 with (fail)
  go_step
  refine wpList_plain rfl fun K hK => ?_
  go_simp
  refine (HST.out _).mono ?_
  rintro e w1 ⟨rfl, hb1⟩
  refine hK _ _ ?_
  clear hK K
  obtain ⟨⟨z0, z1, z2⟩, ⟨y0, y1, y2⟩, hs1⟩ := cells3 hb1
  have HB1 := Lib.hid (below_over hb1)
  clear hb1
  refine wpList_alloc_big rfl 157 rfl stZ.toArray run_alloc_st ?_
  have HZ := blk_stZ w1
  have hth := HZ.there (o := 0) (m := 183) (by omega)
  have hsz : stV.toArray.size = 183 := by rw [List.size_toArray]; exact stV_len
  refine wpList_store_mid rfl 157 (.tmp 4) (.tmp 12) (by rfl) w1.heap.size 0 stV.toArray (by rfl) (by rfl) (by rw [hsz]; exact hth) (by rw [hsz]; kernel_rfl) (all_oneCell_toArray stV_one) ?_
  have hf := HZ.setCells (vs := stV.toArray.toList) (by rw [List.toList_toArray]; exact stV_len) (h := stF) (fun j hj => by rw [List.toList_toArray]; exact stV_get j hj)
  have hb := below_setCells w1.heap.size (Nat.le_refl _) stV.toArray.toList 0 ((Below.refl _ w1).alloc (Nat.le_refl _) (.cells stZ.toArray 157))
  have HB2 := Lib.hid (HB1.out.trans (hb.mono (by omega)))
  have z0' := (hb.cell (p := ⟨w.heap.size, 0, none⟩) hs1).trans z0
  have z1' := (hb.cell (p := ⟨w.heap.size, 1, none⟩) hs1).trans z1
  have z2' := (hb.cell (p := ⟨w.heap.size, 2, none⟩) hs1).trans z2
  have y0' := (hb.frozen (p := ⟨w.heap.size, 0, none⟩) hs1).trans y0
  have y1' := (hb.frozen (p := ⟨w.heap.size, 1, none⟩) hs1).trans y1
  have y2' := (hb.frozen (p := ⟨w.heap.size, 2, none⟩) hs1).trans y2
  clear hb HZ hth hsz z0 z1 z2 y0 y1 y2 HST
  generalize (w1.alloc (.cells stZ.toArray 157)).setCells w1.heap.size 0 stV.toArray.toList = w2 at *
  generalize stV.toArray = C at *
  have a0 := (hf (j * 3) (by omega)).1
  have a1 := (hf (j * 3 + 1) (by omega)).1
  have a2 := (hf (j * 3 + 2) (by omega)).1
  rw [HA.out.1] at a0
  rw [HA.out.2.1] at a1
  rw [HA.out.2.2] at a2
  have hsw : w1.heap.size ≠ w.heap.size := by omega
  clear hf HA
  go_wp2
  refine bodyPost_ret (v := .tuple #[.agg #[.string n, .string v, .bool false], .bool true]) (by simp [results, Tryd.results112, go_sem, z0', z1', z2']) rfl ⟨rfl, ?_⟩
  exact ((HB2.out.setCell (Nat.le_refl _) _).setCell (Nat.le_refl _) _).setCell (Nat.le_refl _) _

/-- The header of an index: of the table that stands, or of a table that moves. -/
def B.get (l : List B.HD) (i : Int) : B.HD :=
  if 1 ≤ i ∧ i < 62 then B.stL.getD (i.toNat - 1) (⟨#[]⟩, ⟨#[]⟩) else if 62 ≤ i ∧ i - 62 < l.length then B.nth l (i.toNat - 62) else (⟨#[]⟩, ⟨#[]⟩)
def B.has (l : List B.HD) (i : Int) : Bool := decide (1 ≤ i ∧ i < 62 + (l.length : Int))

theorem static_any (i : Int) (w : World) : Calls Tryd.prog 112 #[.int .i64 i] w fun e w' => e = .returned (.tuple #[.agg #[.string (B.get [] i).1, .string (B.get [] i).2, .bool false], .bool (B.has [] i)]) ∧ Below w.heap.size w w' := by
  by_cases h : 1 ≤ i ∧ i < 62
  · obtain ⟨j, rfl⟩ : ∃ j : Nat, i = ((1 + j : Nat) : Int) := ⟨i.toNat - 1, by omega⟩
    have e1 : B.get [] ((1 + j : Nat) : Int) = B.stL.getD j (⟨#[]⟩, ⟨#[]⟩) := by
      unfold B.get
      rw [if_pos h, Int.toNat_natCast, Nat.add_sub_cancel_left]
    have e2 : B.has [] ((1 + j : Nat) : Int) = true := by unfold B.has; simp; omega
    rw [e1, e2]
    exact static_yes j w (by omega)
  · have e1 : B.get [] i = (⟨#[]⟩, ⟨#[]⟩) := by
      unfold B.get
      rw [if_neg h, if_neg (by simp only [List.length_nil]; omega)]
    have e2 : B.has [] i = false := decide_eq_false (by simp only [List.length_nil]; omega)
    rw [e1, e2]
    exact static_no i w h

set_option maxRecDepth 100000 in
theorem get_any (g : Nat) (L : List B.HD) (m : Nat) (i : Int) (w : World) (hi : i ≤ 9223372036854775807) (hT : Tab w g L m) :
    Calls Tryd.prog 110 #[.pointer (some ⟨g, 0, none⟩), .int .i64 i] w fun e w' => e = .returned (.tuple #[.agg #[.string (B.get L i).1, .string (B.get L i).2, .bool false], .bool (B.has L i)]) ∧ Below w.heap.size w w' := by
  have hg := hT.lt
  obtain ⟨hl, _, _⟩ := hT.le
  have cn := (by obtain ⟨R, o, _, h2, _⟩ := hT; exact h2.n.1 : w.cell? ⟨g, 385, none⟩ = some (.int .i64 L.length))
  have HT := Lib.hid hT
  clear hT
  by_cases h : i < 62
  · have e1 : B.get L i = B.get [] i := by
      unfold B.get
      by_cases h1 : 1 ≤ i ∧ i < 62
      · rw [if_pos h1, if_pos h1]
      · rw [if_neg h1, if_neg h1, if_neg (by omega), if_neg (by omega)]
    have e2 : B.has L i = B.has [] i := decide_eq_decide.2 (by simp only [List.length_nil]; omega)
    rw [e1, e2]
    have HS := Lib.hid (fun w => static_any i w)
    generalize B.get [] i = x at *
    obtain ⟨n, v⟩ := x
    generalize B.has [] i = b at *
    go_enter Tryd.func110, Tryd.ntmps110
    go_wp2_with (go_at_call 112; refine (HS.out _).mono ?_; rintro e w1 ⟨rfl, hb1⟩; obtain ⟨⟨z0, z1, z2⟩, ⟨y0, y1, y2⟩, hs1⟩ := cells3 hb1; have HB1 := Lib.hid (below_over hb1); clear hb1)
    refine bodyPost_ret (v := .tuple #[.agg #[.string n, .string v, .bool false], .bool b]) (by simp [results, Tryd.results110, go_sem, z0, z1, z2]) rfl ⟨rfl, ?_⟩
    exact ((HB1.out.setCell (Nat.le_refl _) _).setCell (Nat.le_refl _) _).setCell (Nat.le_refl _) _
  · obtain ⟨j, rfl⟩ : ∃ j : Nat, i = ((62 + j : Nat) : Int) := ⟨i.toNat - 62, by omega⟩
    by_cases hj : j < L.length
    · have e1 : B.get L ((62 + j : Nat) : Int) = B.nth L j := by
        unfold B.get
        rw [if_neg (by omega), if_pos (by omega), Int.toNat_natCast, Nat.add_sub_cancel_left]
      have e2 : B.has L ((62 + j : Nat) : Int) = true := by unfold B.has; simp; omega
      rw [e1, e2]
      have HM := Lib.hid (fun w hw => moved_any g L m j w hj hw)
      generalize B.nth L j = x at *
      obtain ⟨n, v⟩ := x
      have HA := Lib.hid (HT.out.below ((Below.refl w.heap.size w).alloc (Nat.le_refl _) (.cells #[.string ⟨#[]⟩, .string ⟨#[]⟩, .bool false] 66)))
      go_enter Tryd.func110, Tryd.ntmps110
      go_wp2_with (go_at_call 109; refine (HM.out _ HA.out).mono ?_; rintro e w1 ⟨rfl, hb1⟩; obtain ⟨⟨z0, z1, z2⟩, ⟨y0, y1, y2⟩, hs1⟩ := cells3 hb1; have HB1 := Lib.hid (below_over hb1); clear hb1)
      refine bodyPost_ret (v := .tuple #[.agg #[.string n, .string v, .bool false], .bool true]) (by simp [results, Tryd.results110, go_sem, z0, z1, z2]) rfl ⟨rfl, ?_⟩
      exact ((HB1.out.setCell (Nat.le_refl _) _).setCell (Nat.le_refl _) _).setCell (Nat.le_refl _) _
    · have e1 : B.get L ((62 + j : Nat) : Int) = (⟨#[]⟩, ⟨#[]⟩) := by
        unfold B.get
        rw [if_neg (by omega), if_neg (by omega)]
      have e2 : B.has L ((62 + j : Nat) : Int) = false := by unfold B.has; simp; omega
      rw [e1, e2]
      have HB0 : Hid (Below w.heap.size w (w.alloc (.cells #[.string ⟨#[]⟩, .string ⟨#[]⟩, .bool false] 66))) := (Below.refl _ _).alloc (Nat.le_refl _) _
      go_enter Tryd.func110, Tryd.ntmps110
      go_wp2
      refine bodyPost_ret (v := .tuple #[.agg #[.string ⟨#[]⟩, .string ⟨#[]⟩, .bool false], .bool false]) (by simp [results, Tryd.results110, go_sem]) rfl ⟨rfl, ?_⟩
      repeat (first | with_reducible exact HB0.out | with_reducible refine Below.drew ?_ | with_reducible refine below_q ?_ _ | with_reducible refine Below.setCell ?_ (by first | omega | (simp; done) | (simp; omega)) _ | with_reducible refine Below.alloc ?_ (by first | omega | (simp; done) | (simp; omega)) _)
end Go.Proofs.YtcbljbdcnahfhaaDoor
/- Bkeep -/
namespace Go.Proofs.YtcbljbdcnahfhaaDoor
open Go.RowKit

/-- Where no depth is asked, rounds may be taken from whatever depth. -/
theorem roundIn_any {F : Fence} (hd : F.depth = none) {m m' : Nat} {P : Program} {l : Nat} {f : FuncId} {tmps : Array Value} {assign body : Code} {w : World} {R : Ending → World → Prop}
    (h : RoundIn F m P l f tmps assign body w R) : RoundIn F m' P l f tmps assign body w R := ⟨h.1, fun c cs _ => h.2 c cs (fun _ e => by rw [hd] at e; cases e)⟩
theorem yieldAt_any {F : Fence} (hd : F.depth = none) {m : Nat} (m' : Nat) {P : Program} {l : Nat} {args : Array Value} {W : World} {R : Ending → World → Prop} (h : YieldAt F m P l args W R) : YieldAt F m' P l args W R := by
  obtain ⟨fn, tmps, assign, body, hy, hR⟩ := h
  exact ⟨fn, tmps, assign, body, hy, roundIn_any hd hR⟩

/-- Cells at the blocks that Q names lie as they lay. -/
def Kq (Q : Nat → Prop) (W W' : World) : Prop := W.heap.size ≤ W'.heap.size ∧ ∀ k o, Q k → W.heap[k]? = some o → o.isCells = true → W'.heap[k]? = some o
theorem Kq.refl (Q : Nat → Prop) (W : World) : Kq Q W W := ⟨Nat.le_refl _, fun _ _ _ h _ => h⟩
theorem Kq.trans {Q : Nat → Prop} {A B C : World} (h : Kq Q A B) (k : Kq Q B C) : Kq Q A C := ⟨Nat.le_trans h.1 k.1, fun i o hq hi ho => k.2 i o hq (h.2 i o hq hi ho) ho⟩
theorem Kq.put {Q : Nat → Prop} (W : World) (l : Nat) (o o' : Obj) (h : W.heap[l]? = some o) (ho : o.isCells = false) : Kq Q W (W.putObj l o') :=
  ⟨by simp, fun k x _ hk hx => by
    have hne : k ≠ l := fun e => by subst e; rw [h] at hk; cases hk; rw [ho] at hx; cases hx
    exact (World.putObj_heap_other hne).trans hk⟩
theorem Kq.of_only {Q : Nat → Prop} {W W' : World} {g : Nat} (h : Only g W W') (hg : ¬ Q g) : Kq Q W W' :=
  ⟨h.size, fun k o hq hk _ => by
    have h' : W.grownBy W' (some g) := h
    exact (h'.block k (Array.getElem?_eq_some_iff.1 hk).1 (fun e => hg (by cases e; exact hq))).trans hk⟩
theorem Kq.of_below {Q : Nat → Prop} {W W' : World} (h : Below W.heap.size W W') : Kq Q W W' :=
  ⟨h.size, fun k _o _ hk _ => (h.block k (Array.getElem?_eq_some_iff.1 hk).1).trans hk⟩
theorem Kq.set {Q : Nat → Prop} (W : World) (b j : Nat) (v : Value) (hb : ¬ Q b) : Kq Q W (W.setCell ⟨b, j, none⟩ v) := Kq.of_only ((Only.refl b W).set j v) hb
theorem Kq.mono {Q Q' : Nat → Prop} {W W' : World} (h : Kq Q W W') (hq : ∀ k, Q' k → Q k) : Kq Q' W W' := ⟨h.1, fun k o hk => h.2 k o (hq k hk)⟩
theorem Kq.cell {Q : Nat → Prop} {W W' : World} (h : Kq Q W W') {p : Addr} {v : Value} (hq : Q p.block) (hc : W.cell? p = some v) : W'.cell? p = some v := by
  obtain ⟨o, ho, hx⟩ := cells_of_cell hc
  exact (World.cell?_of_block ((h.2 _ o hq ho hx).trans ho.symm)).trans hc
theorem Kq.blk {Q : Nat → Prop} {W W' : World} (h : Kq Q W W') {g n : Nat} {f : Nat → Value} (hq : Q g) (hb : Blk W g n f) : Blk W' g n f := fun j hj => by
  obtain ⟨o, ho, hx⟩ := cells_of_cell (hb j hj).1
  have e : W'.heap[g]? = W.heap[g]? := (h.2 g o hq ho hx).trans ho.symm
  exact ⟨(World.cell?_of_block (a := ⟨g, j, none⟩) e).trans (hb j hj).1, (World.frozen?_of_block (a := ⟨g, j, none⟩) e).trans (hb j hj).2⟩
theorem Kq.tab {Q : Nat → Prop} {W W' : World} (h : Kq Q W W') {g m : Nat} {L : List B.HD} (hq : Q g) (ht : Tab W g L m) : Tab W' g L m := by
  obtain ⟨R, o, h1, h2, h3⟩ := ht
  exact ⟨R, o, h1, h.blk hq h2, h3⟩
/-- What abides abides what leaves old memory as it was. -/
theorem abides_below {β : Type} {n : Nat} {J : β → World → Prop} (hJ : AbidesFrom n J) {s : β} {W W' : World} (h : J s W) (hb : Below W.heap.size W W') : J s W' :=
  hJ s W W' none h ⟨hb.os, hb.tape, hb.output, hb.size, fun i hi _ => hb.block i hi⟩ (fun r e => by cases e)
end Go.Proofs.YtcbljbdcnahfhaaDoor
/- Beach -/
namespace Go.Proofs.YtcbljbdcnahfhaaDoor
open Go.RowKit Go.Shelf
attribute [local go_sem] Oper.semAt_some

/-- A header with its index, as the values that are yielded. -/
abbrev encs (x : Int × B.HD) : Array Value := #[.int .i64 x.1, .agg #[.string x.2.1, .string x.2.2, .bool false]]

theorem each_any (g : Nat) (w : World) : Calls Tryd.prog 100 #[.pointer (some ⟨g, 0, none⟩)] w fun e w' => e = .returned (.func (.func 108) #[] #[.pointer (some ⟨w.heap.size, 0, none⟩)]) ∧ w' = w.alloc (.cells #[.pointer (some ⟨g, 0, none⟩)] 86) := by
  go_enter Tryd.func100, Tryd.ntmps100
  go_wp2
  go_ret
  exact ⟨rfl, rfl⟩
theorem all_any (g : Nat) (w : World) : Calls Tryd.prog 87 #[.pointer (some ⟨g, 0, none⟩)] w fun e w' => e = .returned (.func (.func 98) #[] #[.pointer (some ⟨w.heap.size, 0, none⟩)]) ∧ w' = w.alloc (.cells #[.pointer (some ⟨g, 0, none⟩)] 86) := by
  go_enter Tryd.func87, Tryd.ntmps87
  go_wp2
  go_ret
  exact ⟨rfl, rfl⟩

theorem run_alloc_tab (w : World) : (Instr.alloc 126 true (.tuple #[])).run Tryd.prog w = .ok (.pointer (some ⟨w.heap.size, 0, none⟩)) (w.alloc (.cells (newL 0).toArray 126)) := by kernel_rfl

/-- A table's cells as a row. -/
def tbL (R : Nat → B.HD) (o n s m : Nat) : List Value := (List.range 388).map (tbF R o n s m)
theorem tbL_len (R : Nat → B.HD) (o n s m : Nat) : (tbL R o n s m).length = 388 := by rw [tbL, List.length_map, List.length_range]
theorem tbL_get (R : Nat → B.HD) (o n s m j : Nat) (hj : j < 388) : (tbL R o n s m)[j]? = some (tbF R o n s m j) := by rw [tbL, List.getElem?_map, List.getElem?_range hj]; rfl
theorem tbF_one (R : Nat → B.HD) (o n s m j : Nat) : (tbF R o n s m j).oneCell' = true := by
  unfold tbF
  split
  · split
    · rfl
    · split <;> rfl
  · split
    · rfl
    · split
      · rfl
      · split <;> rfl
theorem tbL_one (R : Nat → B.HD) (o n s m : Nat) : ∀ v ∈ tbL R o n s m, v.oneCell' = true := by
  intro v hv
  obtain ⟨i, _, rfl⟩ := List.mem_map.1 hv
  exact tbF_one _ _ _ _ _ i

theorem num_prefix (i k : Nat) (l : List B.HD) : B.num i (l.take k) <+: B.num i l := by
  refine ⟨B.num (i + (l.take k).length) (l.drop k), ?_⟩
  rw [← B.num_app, List.take_append_drop]

set_option maxRecDepth 100000 in
set_option maxHeartbeats 2000000 in
theorem each1_in (n l Bt g m : Nat) (hn : 1 ≤ n) (Q : Nat → Prop) (n₀ : Nat) (hQ : ∀ k, n₀ ≤ k → Q k) (L : List B.HD) (pre0 : List (Int × B.HD)) (N : Nat) (J Jx : List (Int × B.HD) → World → Prop)
    (hY : ∀ pre x W, J pre W → pre.length < N → YieldAt Fence.wide (n - 1) Tryd.prog l (encs x) W fun e W' =>
      (e = .returned (.bool true) ∧ J (pre ++ [x]) W' ∧ Kq Q W W') ∨ (e = .returned (.bool false) ∧ Jx (pre ++ [x]) W'))
    (W : World) (hJ : AbidesFrom W.heap.size J) (hW : n₀ ≤ W.heap.size) (hN : pre0.length + L.length ≤ N) (hBt : W.cell? ⟨Bt, 0, none⟩ = some (.pointer (some ⟨g, 0, none⟩))) (hT : Tab W g L m) (h0 : J pre0 W) :
    CallsIn Fence.wide n Tryd.prog 108 #[.func (.yield l) #[] #[], .pointer (some ⟨Bt, 0, none⟩)] W fun e W' => (∃ v, e = .returned v) ∧
      (J (pre0 ++ B.num 62 L.reverse) W' ∨ (∃ q, q <+: B.num 62 L.reverse ∧ Jx (pre0 ++ q) W')) := by
  have HT := Lib.hid hT
  have H0 := Lib.hid h0
  have HJ := Lib.hid hJ
  have HY := Lib.hid hY
  have HQ := Lib.hid hQ
  clear hT h0 hJ hY hQ
  refine callsIn_of_wp Tryd.func108 rfl trivial ?_ rfl
  simp only [Tryd.ntmps108, List.size_toArray, List.length_cons, List.length_nil, Nat.reduceAdd, Nat.reduceSub, Array.replicate_succ, Array.replicate_zero, List.push_toArray, List.append_toArray, List.nil_append, List.cons_append]
  obtain ⟨R, o, HR, HTb, hm1, hm2⟩ := id HT.out
  have hr := Blk.rangeAt (o := 0) (cs := tbL R o L.length (B.tot L) m) HTb fun j hj => by
    rw [tbL_len] at hj
    rw [Nat.zero_add]
    exact ⟨hj, tbL_get _ _ _ _ _ j hj⟩
  gi_step
  gi_step
  gi_step
  iterate 2
    refine wpListIn_plain rfl fun K hK => ?_
    go_simp
    refine hK _ _ ?_
    clear hK K
  refine wpListIn_load_big rfl 126 (.tmp 6) (by rfl) g 0 (by rfl) (tbL R o L.length (B.tot L) m) _ hr Tryd.underlying126 (by rfl) (by rw [tbL_len]; kernel_rfl) ?_
  refine wpListIn_alloc_big rfl 126 rfl (newL 0).toArray run_alloc_tab ?_
  have hZ : Blk (W.alloc (.cells (newL 0).toArray 126)) W.heap.size 388 (tbF (fun _ => (⟨#[]⟩, ⟨#[]⟩)) 0 0 0 0) := by
    have h := Blk.new W (newL 0).toArray 126 (tbF (fun _ => (⟨#[]⟩, ⟨#[]⟩)) 0 0 0 0) (fun j hj => by
      rw [List.getElem?_toArray]
      exact newL_get 0 j (by simpa [newL_len] using hj))
    rw [show (newL 0).toArray.size = 388 by simp [newL_len]] at h
    exact h
  have hth := hZ.there (o := 0) (m := 388) (by omega)
  have hsz : (tbL R o L.length (B.tot L) m).toArray.size = 388 := by rw [List.size_toArray]; exact tbL_len _ _ _ _ _
  refine wpListIn_store_big rfl 126 (.tmp 3) (.tmp 7) (by rfl) W.heap.size 0 (tbL R o L.length (B.tot L) m).toArray (by rfl) (by rfl) (by rw [hsz]; exact hth) (by rw [hsz]; kernel_rfl) (all_oneCell_toArray (tbL_one _ _ _ _ _)) ?_
  have hf : Tb ((W.alloc (.cells (newL 0).toArray 126)).setCells W.heap.size 0 (tbL R o L.length (B.tot L) m).toArray.toList) W.heap.size R o L.length (B.tot L) m := hZ.setCells (vs := (tbL R o L.length (B.tot L) m).toArray.toList) (by rw [List.toList_toArray]; exact tbL_len _ _ _ _ _) (h := tbF R o L.length (B.tot L) m) (fun j hj => by rw [List.toList_toArray]; exact tbL_get _ _ _ _ _ j hj)
  have hb := below_setCells W.heap.size (Nat.le_refl _) (tbL R o L.length (B.tot L) m).toArray.toList 0 ((Below.refl _ W).alloc (Nat.le_refl _) (.cells (newL 0).toArray 126))
  clear hr hZ hth hsz
  generalize (W.alloc (.cells (newL 0).toArray 126)).setCells W.heap.size 0 (tbL R o L.length (B.tot L) m).toArray.toList = W1 at *
  have HT1 : Hid (Tab W1 W.heap.size L m) := ⟨R, o, HR, hf, hm1, hm2⟩
  have HJ1 := Lib.hid (abides_below HJ.out H0.out hb)
  have hs1 := hb.size
  obtain ⟨hl128, _, _⟩ := HT1.out.le
  generalize hbn : W.heap.size = bn at *
  generalize (tbL R o L.length (B.tot L) m).toArray = C
  clear hf HR HTb hb H0 HT
  gi_wp2
  gi_loopw [4] (fun p wr => ∃ k : Nat, k ≤ L.length ∧ p = .int .i64 ((62 : Int) + k) ∧ Hid (Tab wr bn L m) ∧ Hid (J (pre0 ++ B.num 62 (L.reverse.take k)) wr) ∧ W1.heap.size ≤ wr.heap.size) (fun p _ => L.length + 62 - (intOf p).toNat)
  case atStart => exact ⟨0, by omega, rfl, HT1, by rw [List.take_zero]; show J (pre0 ++ []) W1; rw [List.append_nil]; exact HJ1.out, Nat.le_refl _⟩
  case round =>
    obtain ⟨k, hk, rfl, HTr, HJr, hsr⟩ := hrel
    have cn := (by obtain ⟨R, o, _, h2, _⟩ := HTr.out; exact h2.n.1 : wr.cell? ⟨bn, 385, none⟩ = some (.int .i64 L.length))
    clear HT1 HJ1
    by_cases hlt : k < L.length
    · have HM := Lib.hid (moved_any bn L m k wr hlt HTr.out)
      have hlen : (pre0 ++ B.num 62 (L.reverse.take k)).length < N := by
        rw [List.length_append, B.num_len, List.length_take, List.length_reverse]; omega
      have HN : Hid (B.num 62 (L.reverse.take (k + 1)) = B.num 62 (L.reverse.take k) ++ [((62 : Int) + (k : Int), B.nth L k)]) := by
        have := B.num_take 62 k L.reverse (by simpa using hlt)
        rw [Int.natCast_add] at this
        exact this
      obtain ⟨x, hx⟩ : ∃ x, x = B.nth L k := ⟨_, rfl⟩
      rw [← hx] at HM HN
      clear hx
      obtain ⟨xn, xv⟩ := x
      gi_wp2_with (refine ⟨trivial, ?_⟩; gi_at_call 109; refine (callsIn_wide.2 HM.out).mono ?_; rintro e w2 ⟨rfl, hb2⟩; have HB2 := Lib.hid hb2; have hs2 := hb2.size; clear hb2; obtain ⟨fn, tmps, assign, body, hy, hR⟩ := HY.out _ ((62 : Int) + (k : Int), xn, xv) w2 (abides_below HJ.out HJr.out HB2.out) hlen; dsimp only [encs] at hy)
      refine hR.mono ?_
      clear hR hy
      rintro e W3 (⟨rfl, hJ3, hk3⟩ | ⟨rfl, hJx3⟩)
      · have HJ3 := Lib.hid hJ3
        have HK3 := Lib.hid hk3
        clear hJ3 hk3
        gi_wp2
        go_roundw
        case rel =>
          refine ⟨k + 1, by omega, by rw [Int.natCast_add]; congr 1, ?_, ?_, ?_⟩
          · exact HK3.out.tab (HQ.out _ hW) (HTr.out.below HB2.out)
          · show J _ _
            rw [HN.out, ← List.append_assoc]
            exact HJ3.out
          · exact Nat.le_trans (Nat.le_trans hsr hs2) HK3.out.1
        case measure => simp [intOf]; omega
      · have HJx3 := Lib.hid hJx3
        clear hJx3
        gi_wp2
        refine bodyPost_ret (results_none rfl _ _ _) rfl ?_
        refine ⟨⟨_, rfl⟩, .inr ⟨B.num 62 (L.reverse.take (k + 1)), num_prefix _ _ _, ?_⟩⟩
        rw [HN.out, ← List.append_assoc]
        exact HJx3.out
    · obtain rfl : k = L.length := by omega
      gi_wp2
      go_end0
      refine ⟨⟨_, rfl⟩, .inl ?_⟩
      have := HJr.out
      rw [List.take_of_length_le (by simp)] at this
      exact this
end Go.Proofs.YtcbljbdcnahfhaaDoor
/- Ball -/
namespace Go.Proofs.YtcbljbdcnahfhaaDoor
open Go.RowKit Go.Shelf
attribute [local go_sem] Oper.semAt_some

theorem run_index_st (w : World) : ∀ k : Nat, k < 61 → (Instr.index 157 (.agg stV.toArray) (.int .i64 (k : Nat))).run Tryd.prog w = .ok (.agg #[.string (B.stL.getD k (⟨#[]⟩, ⟨#[]⟩)).1, .string (B.stL.getD k (⟨#[]⟩, ⟨#[]⟩)).2, .bool false]) w
  | 0, _ => by kernel_rfl
  | 1, _ => by kernel_rfl
  | 2, _ => by kernel_rfl
  | 3, _ => by kernel_rfl
  | 4, _ => by kernel_rfl
  | 5, _ => by kernel_rfl
  | 6, _ => by kernel_rfl
  | 7, _ => by kernel_rfl
  | 8, _ => by kernel_rfl
  | 9, _ => by kernel_rfl
  | 10, _ => by kernel_rfl
  | 11, _ => by kernel_rfl
  | 12, _ => by kernel_rfl
  | 13, _ => by kernel_rfl
  | 14, _ => by kernel_rfl
  | 15, _ => by kernel_rfl
  | 16, _ => by kernel_rfl
  | 17, _ => by kernel_rfl
  | 18, _ => by kernel_rfl
  | 19, _ => by kernel_rfl
  | 20, _ => by kernel_rfl
  | 21, _ => by kernel_rfl
  | 22, _ => by kernel_rfl
  | 23, _ => by kernel_rfl
  | 24, _ => by kernel_rfl
  | 25, _ => by kernel_rfl
  | 26, _ => by kernel_rfl
  | 27, _ => by kernel_rfl
  | 28, _ => by kernel_rfl
  | 29, _ => by kernel_rfl
  | 30, _ => by kernel_rfl
  | 31, _ => by kernel_rfl
  | 32, _ => by kernel_rfl
  | 33, _ => by kernel_rfl
  | 34, _ => by kernel_rfl
  | 35, _ => by kernel_rfl
  | 36, _ => by kernel_rfl
  | 37, _ => by kernel_rfl
  | 38, _ => by kernel_rfl
  | 39, _ => by kernel_rfl
  | 40, _ => by kernel_rfl
  | 41, _ => by kernel_rfl
  | 42, _ => by kernel_rfl
  | 43, _ => by kernel_rfl
  | 44, _ => by kernel_rfl
  | 45, _ => by kernel_rfl
  | 46, _ => by kernel_rfl
  | 47, _ => by kernel_rfl
  | 48, _ => by kernel_rfl
  | 49, _ => by kernel_rfl
  | 50, _ => by kernel_rfl
  | 51, _ => by kernel_rfl
  | 52, _ => by kernel_rfl
  | 53, _ => by kernel_rfl
  | 54, _ => by kernel_rfl
  | 55, _ => by kernel_rfl
  | 56, _ => by kernel_rfl
  | 57, _ => by kernel_rfl
  | 58, _ => by kernel_rfl
  | 59, _ => by kernel_rfl
  | 60, _ => by kernel_rfl
  | k + 61, h => absurd h (by omega)

/-- Of one element with another in the same place. -/
theorem num_st (k : Nat) (hk : k < 61) : B.num 1 (B.stL.take (k + 1)) = B.num 1 (B.stL.take k) ++ [((k : Int) + 1, B.stL.getD k (⟨#[]⟩, ⟨#[]⟩))] := by
  have := B.num_take 1 k B.stL (by rw [B.stL_len]; exact hk)
  rw [show ((1 + k : Nat) : Int) = (k : Int) + 1 by omega] at this
  exact this

theorem abides_mono {β : Type} {a b : Nat} {J : β → World → Prop} (hJ : AbidesFrom a J) (h : a ≤ b) : AbidesFrom b J :=
  fun s W W' row hs hg hr => hJ s W W' row hs hg (fun r e => ⟨Nat.le_trans h (hr r e).1, (hr r e).2⟩)

set_option maxRecDepth 100000 in
set_option maxHeartbeats 2000000 in
theorem all1_stops (n Bt g m : Nat) (hn : 3 ≤ n) (L : List B.HD) (w : World) (Q : Nat → Prop) (n₀ : Nat) (hQ : ∀ k, n₀ ≤ k → Q k) (hQg : Q g) (hQb : Q Bt) (hn₀ : n₀ ≤ w.heap.size) (hBt : w.cell? ⟨Bt, 0, none⟩ = some (.pointer (some ⟨g, 0, none⟩))) (hT : Tab w g L m) :
    SeqStopsK Fence.wide n Tryd.prog 98 #[.pointer (some ⟨Bt, 0, none⟩)] encs (Kq Q) (fun xs => xs = B.allL L) (fun pre => pre <+: B.allL L) 189 w := fun l J Jx W hW hJ hJx hY h0 => by
  have HT := Lib.hid (hT.below hW)
  have HBt : Hid (W.cell? ⟨Bt, 0, none⟩ = some (.pointer (some ⟨g, 0, none⟩))) := cell_below hW hBt
  have hl128 := hT.le.1
  have hnW : n₀ ≤ W.heap.size := Nat.le_trans hn₀ hW.size
  have H0 := Lib.hid h0
  have HJ := Lib.hid hJ
  have HY := Lib.hid hY
  have HQ := Lib.hid hQ
  have HQg := Lib.hid hQg
  have HQb := Lib.hid hQb
  clear hT h0 hJ hJx hY hQ hQg hQb hBt hW hn₀
  have hI := run_index_st
  have hst : ∀ w, Calls Tryd.prog 99 #[] w fun e w' => e = .returned (.agg stV.toArray) ∧ Below w.heap.size w w' := standing_any
  have HST := Lib.hid hst
  clear hst
  have h1 : 1 ≤ n := by omega
  refine callsIn_of_wp Tryd.func98 rfl trivial ?_ rfl
  simp only [Tryd.ntmps98, List.size_toArray, List.length_cons, List.length_nil, Nat.reduceAdd, Nat.reduceSub, Array.replicate_succ, Array.replicate_zero, List.push_toArray, List.append_toArray, List.nil_append, List.cons_append]
  generalize stV.toArray = C at *
  have HI := Lib.hid hI
  clear hI
  gi_wp2_with (refine ⟨trivial, ?_⟩; gi_at_call 99; refine (callsIn_wide.2 (HST.out _)).mono ?_; rintro e w1 ⟨rfl, hb1⟩; have HB1 := Lib.hid hb1; have hs1 := hb1.size; clear hb1)
  have HT1 := Lib.hid (HT.out.below HB1.out)
  have HBt1 : Hid (w1.cell? ⟨Bt, 0, none⟩ = some (.pointer (some ⟨g, 0, none⟩))) := cell_below HB1.out HBt.out
  have HJ1 := Lib.hid (abides_below HJ.out H0.out HB1.out)
  clear HT HBt H0 HB1
  gi_loopw [3, 4, 6] (fun _ _ p wr => ∃ k : Nat, k ≤ 61 ∧ p = .int .i64 k ∧ Hid (Tab wr g L m) ∧ Hid (wr.cell? ⟨Bt, 0, none⟩ = some (.pointer (some ⟨g, 0, none⟩))) ∧ Hid (J (B.num 1 (B.stL.take k)) wr) ∧ n₀ ≤ wr.heap.size ∧ W.heap.size ≤ wr.heap.size) (fun _ _ p _ => 61 - (intOf p).toNat)
  case atStart => exact ⟨0, by omega, rfl, HT1, HBt1, HJ1, by omega, by omega⟩
  case round =>
    obtain ⟨k, hk, rfl, HTr, HBr, HJr, hsr, hsW⟩ := hrel
    clear HT1 HBt1 HJ1
    by_cases hlt : k < 61
    · have HN := Lib.hid (num_st k hlt)
      have hi := fun w => HI.out w k hlt
      have hlen : (B.num 1 (B.stL.take k)).length < 189 := by
        rw [B.num_len, List.length_take]; omega
      obtain ⟨x, hx⟩ : ∃ x, x = B.stL.getD k (⟨#[]⟩, ⟨#[]⟩) := ⟨_, rfl⟩
      rw [← hx] at HN hi
      clear hx
      obtain ⟨xn, xv⟩ := x
      have hb2 : Below wr.heap.size wr (wr.alloc (.cells #[.string xn, .string xv, .bool false] 66)) := (Below.refl _ _).alloc (Nat.le_refl _) _
      have HB2 := Lib.hid hb2
      obtain ⟨fn, tmps, assign, body, hy, hR⟩ := HY.out _ ((k : Int) + 1, xn, xv) _ (abides_below HJ.out HJr.out hb2) hlen
      dsimp only [encs] at hy
      clear hb2
      gi_wp2
      refine hR.mono ?_
      clear hR hy
      rintro e W3 (⟨rfl, hJ3, hk3⟩ | ⟨rfl, hJx3⟩)
      · have HJ3 := Lib.hid hJ3
        have HK3 := Lib.hid hk3
        have hs3 := hk3.1
        rw [World.size_alloc] at hs3
        clear hJ3 hk3
        gi_wp2
        go_roundw
        case rel =>
          refine ⟨k + 1, by omega, by rw [Int.natCast_add]; rfl, ?_, ?_, ?_, by omega, by omega⟩
          · exact HK3.out.tab HQg.out (HTr.out.below HB2.out)
          · exact HK3.out.cell HQb.out (cell_below HB2.out HBr.out)
          · show J _ _
            rw [HN.out]
            exact HJ3.out
        case measure => simp [intOf]; omega
      · have HJx3 := Lib.hid hJx3
        clear hJx3
        gi_wp2
        refine bodyPost_ret (results_none rfl _ _ _) rfl ?_
        refine ⟨⟨_, rfl⟩, .inr ⟨B.num 1 (B.stL.take (k + 1)), ?_, ?_⟩⟩
        · exact (num_prefix _ _ _).trans (List.prefix_append _ _)
        · rw [HN.out]
          exact HJx3.out
    · obtain rfl : k = 61 := by omega
      have hJr := HJr.out
      rw [show B.stL.take 61 = B.stL from List.take_of_length_le (by rw [B.stL_len]; exact Nat.le_refl _)] at hJr
      have hb2 : Below wr.heap.size wr (wr.alloc (.cells #[.pointer (some ⟨g, 0, none⟩)] 86)) := (Below.refl _ _).alloc (Nat.le_refl _) _
      have hJ2 := abides_below HJ.out hJr hb2
      have HE := Lib.hid (fun (n : Nat) (hn : 1 ≤ n) => each1_in n l wr.heap.size g m hn Q n₀ HQ.out L (B.num 1 B.stL) 189 J Jx (fun pre x W' hj hl => yieldAt_any rfl _ (HY.out pre x W' hj hl)) _ (abides_mono HJ.out (Nat.le_trans hsW hb2.size)) (Nat.le_trans hsr hb2.size) (by rw [B.num_len, B.stL_len]; omega) (by simp) (HTr.out.below hb2) hJ2)
      have hBr := HBr.out
      clear hJr hb2 hJ2
      gi_wp2_with (first
        | (refine ⟨trivial, ?_⟩; gi_at_call 100; refine (callsIn_wide.2 (each_any g wr)).mono ?_; rintro e w2 ⟨rfl, rfl⟩)
        | (refine ⟨trivial, ?_⟩; gi_at_call 108; refine (HE.out _ (by omega)).mono ?_; rintro e W3 ⟨⟨v3, rfl⟩, hor⟩; have HOr := Lib.hid hor; clear hor))
      go_end0
      refine ⟨⟨_, rfl⟩, ?_⟩
      rcases HOr.out with h | ⟨q, hq, h⟩
      · exact .inl ⟨_, rfl, h⟩
      · exact .inr ⟨B.num 1 B.stL ++ q, List.prefix_append_right_inj _ |>.2 hq, h⟩
end Go.Proofs.YtcbljbdcnahfhaaDoor
/- Bfind -/
namespace Go.Proofs.YtcbljbdcnahfhaaDoor
open Go.RowKit Go.Shelf
attribute [local go_sem] Oper.semAt_some

/-- A block holds just these cells. -/
def CellsAt (W : World) (b : Nat) (cs : Array Value) (t : TypeId) : Prop := W.heap[b]? = some (.cells cs t (0, 0))
theorem CellsAt.own {β : Type} (b : Nat) (cs : Array Value) (t : TypeId) : _root_.Go.Own (fun (_ : β) W => CellsAt W b cs t) := fun _ X Y row hs hg hrow =>
  (hg.block b (Array.getElem?_eq_some_iff.1 hs).1 (fun e' => by
    obtain ⟨o, ho, hc⟩ := hrow b e'.symm
    rw [show X.heap[b]? = _ from hs] at ho
    cases ho; cases hc)).trans hs

theorem fnd_ne {n v : List UInt8} {c i : Int} {xn xv : ByteArray} {rest : List (Int × B.HD)} (h : (!xn.toList == n) = true) : B.fnd n v c ((i, xn, xv) :: rest) = B.fnd n v c rest := by
  have h' : xn.toList ≠ n := fun e => by rw [e] at h; simp at h
  show (if xn.toList ≠ n then _ else _) = _
  rw [if_pos h']
theorem fnd_hit {n v : List UInt8} {c i : Int} {xn xv : ByteArray} {rest : List (Int × B.HD)} (h1 : (!xn.toList == n) = false) (h2 : (xv.toList == v) = true) : B.fnd n v c ((i, xn, xv) :: rest) = (i, true) := by
  have h1' : ¬ xn.toList ≠ n := fun e => by simp at h1; exact e h1
  show (if xn.toList ≠ n then _ else if xv.toList = v then _ else _) = _
  rw [if_neg h1', if_pos (eq_of_beq h2)]
theorem fnd_nm {n v : List UInt8} {c i : Int} {xn xv : ByteArray} {rest : List (Int × B.HD)} (h1 : (!xn.toList == n) = false) (h2 : (xv.toList == v) = false) : B.fnd n v c ((i, xn, xv) :: rest) = B.fnd n v (if c = 0 then i else c) rest := by
  have h1' : ¬ xn.toList ≠ n := fun e => by simp at h1; exact e h1
  have h2' : xv.toList ≠ v := fun e => by rw [e] at h2; simp at h2
  show (if xn.toList ≠ n then _ else if xv.toList = v then _ else _) = _
  rw [if_neg h1', if_neg h2']

set_option maxRecDepth 100000 in
set_option maxHeartbeats 4000000 in
theorem find_in (n g m : Nat) (hn : 6 ≤ n) (L : List B.HD) (nm vl : ByteArray) (w : World) (hT : Tab w g L m) :
    CallsIn Fence.wide n Tryd.prog 75 #[.pointer (some ⟨g, 0, none⟩), .string nm, .string vl] w fun e w' =>
      e = .returned (.tuple #[.int .i64 (B.fnd nm.toList vl.toList 0 (B.allL L)).1, .bool (B.fnd nm.toList vl.toList 0 (B.allL L)).2]) ∧ Below w.heap.size w w' := by
  have h1 : 1 ≤ n := by omega
  have hg := hT.lt
  have HT := Lib.hid hT
  clear hT
  refine callsIn_of_wp_marks Tryd.func75 rfl trivial ?_ rfl
  simp only [Tryd.ntmps75, List.size_toArray, List.length_cons, List.length_nil, Nat.reduceAdd, Nat.reduceSub, Array.replicate_succ, Array.replicate_zero, List.push_toArray, List.append_toArray, List.nil_append, List.cons_append]
  gi_wp2_with (refine ⟨trivial, ?_⟩; gi_at_call 87; refine (callsIn_wide.2 (all_any g _)).mono ?_; rintro e w2 ⟨rfl, rfl⟩)
  obtain ⟨W0, hW0⟩ : ∃ W0, (((((w.alloc (.cells #[.string nm] 9)).alloc (.cells #[.string vl] 9)).alloc (.cells #[.int .i64 0] 3)).alloc (.cells #[.bool false] 4)).alloc (.cells #[.int .i64 0] 3)).alloc (.cells #[.pointer (some ⟨g, 0, none⟩)] 86) = W0 := ⟨_, rfl⟩
  have hsz : W0.heap.size = w.heap.size + 6 := by rw [← hW0]; simp
  have hB0 : Below w.heap.size w W0 := by
    rw [← hW0]
    exact ((((((Below.refl _ w).alloc (Nat.le_refl _) _).alloc (by simp) _).alloc (by simp; omega) _).alloc (by simp; omega) _).alloc (by simp; omega) _).alloc (by simp; omega) _
  have b0 : Boxed W0 w.heap.size 9 (.string nm) := by
    rw [← hW0]
    exact (((((Boxed.new w 9 (.string nm)).alloc _).alloc _).alloc _).alloc _).alloc _
  have b1 : Boxed W0 (w.heap.size + 1) 9 (.string vl) := by
    have h := Boxed.new (w.alloc (.cells #[.string nm] 9)) 9 (.string vl)
    rw [World.size_alloc] at h
    rw [← hW0]
    exact (((h.alloc _).alloc _).alloc _).alloc _
  have b2 : Boxed W0 (w.heap.size + 1 + 1) 3 (.int .i64 0) := by
    have h := Boxed.new ((w.alloc (.cells #[.string nm] 9)).alloc (.cells #[.string vl] 9)) 3 (.int .i64 0)
    rw [World.size_alloc, World.size_alloc] at h
    rw [← hW0]
    exact ((h.alloc _).alloc _).alloc _
  have b3 : Boxed W0 (w.heap.size + 1 + 1 + 1) 4 (.bool false) := by
    have h := Boxed.new (((w.alloc (.cells #[.string nm] 9)).alloc (.cells #[.string vl] 9)).alloc (.cells #[.int .i64 0] 3)) 4 (.bool false)
    rw [World.size_alloc, World.size_alloc, World.size_alloc] at h
    rw [← hW0]
    exact (h.alloc _).alloc _
  have b4 : Boxed W0 (w.heap.size + 1 + 1 + 1 + 1) 3 (.int .i64 0) := by
    have h := Boxed.new ((((w.alloc (.cells #[.string nm] 9)).alloc (.cells #[.string vl] 9)).alloc (.cells #[.int .i64 0] 3)).alloc (.cells #[.bool false] 4)) 3 (.int .i64 0)
    rw [World.size_alloc, World.size_alloc, World.size_alloc, World.size_alloc] at h
    rw [← hW0]
    exact h.alloc _
  have b5 : Boxed W0 (w.heap.size + 1 + 1 + 1 + 1 + 1) 86 (.pointer (some ⟨g, 0, none⟩)) := by
    have h := Boxed.new (((((w.alloc (.cells #[.string nm] 9)).alloc (.cells #[.string vl] 9)).alloc (.cells #[.int .i64 0] 3)).alloc (.cells #[.bool false] 4)).alloc (.cells #[.int .i64 0] 3)) 86 (.pointer (some ⟨g, 0, none⟩))
    rw [World.size_alloc, World.size_alloc, World.size_alloc, World.size_alloc, World.size_alloc] at h
    rw [← hW0]
    exact h
  rw [hW0]
  clear hW0
  generalize hs : w.heap.size = s at *
  have HS := Lib.hid hs
  refine wpIn_rangeFunc_ownH rfl h1 (gf := 98) (lb := #[.pointer (some ⟨s + 1 + 1 + 1 + 1 + 1, 0, none⟩)]) rfl trivial (enters_of Tryd.func98 (by kernel_rfl) rfl)
    (all1_stops (n - 1) (s + 1 + 1 + 1 + 1 + 1) g m (by omega) L W0 (fun k => s + 6 ≤ k ∨ k = g ∨ k = s + 5) (s + 6) (fun k hk => .inl hk) (.inr (.inl rfl)) (.inr (.inr rfl)) (by omega) b5.cell (HT.out.below (by rw [hs]; exact hB0)))
    (fun h k => Kq.trans h k) (fun W l o o' _ h ho _ => Kq.put W l o o' h ho) (Below.refl _ _) (fun _ => rfl)
    (fun pre W => (((((∃ c, (∀ rest, B.fnd nm.toList vl.toList 0 (pre ++ rest) = B.fnd nm.toList vl.toList c rest) ∧ Boxed W (s + 1 + 1 + 1 + 1) 3 (.int .i64 c)) ∧ Boxed W s 9 (.string nm)) ∧ Boxed W (s + 1) 9 (.string vl)) ∧ Boxed W (s + 1 + 1) 3 (.int .i64 0)) ∧ Boxed W (s + 1 + 1 + 1) 4 (.bool false)) ∧ Below s w W)
    (fun c pre W => ((c = .ret ∧ ∃ i, (∀ rest, B.fnd nm.toList vl.toList 0 (pre ++ rest) = (i, true)) ∧ Boxed W (s + 1 + 1) 3 (.int .i64 i)) ∧ Boxed W (s + 1 + 1 + 1) 4 (.bool true)) ∧ Below s w W)
    (OwnFrom.and (OwnFrom.and (OwnFrom.and (OwnFrom.and (OwnFrom.and (fun pre X Y row hs hg hr => by obtain ⟨c, h1, h2⟩ := hs; exact ⟨c, h1, boxed_own _ _ (fun (_ : Unit) => Value.int .i64 c) () X Y row h2 hg (fun r e => (hr r e).2)⟩) (Own.from (boxed_own _ _ _) _)) (Own.from (boxed_own _ _ _) _)) (Own.from (boxed_own _ _ _) _)) (Own.from (boxed_own _ _ _) _)) (ownFrom_below (Nat.le_of_eq hs.symm) (by omega)))
    (fun c => OwnFrom.and (OwnFrom.and (fun pre X Y row hs hg hr => by obtain ⟨h0, i, h1, h2⟩ := hs; exact ⟨h0, i, h1, boxed_own _ _ (fun (_ : Unit) => Value.int .i64 i) () X Y row h2 hg (fun r e => (hr r e).2)⟩) (Own.from (boxed_own _ _ _) _)) (ownFrom_below (Nat.le_of_eq hs.symm) (by omega)))
    ⟨⟨⟨⟨⟨⟨0, fun _ => rfl, b4⟩, b0⟩, b1⟩, b2⟩, b3⟩, hB0⟩
    (fun x a' W => ∃ Bx, s + 1 + 1 + 1 + 1 < Bx ∧ CellsAt W Bx #[.string x.2.1, .string x.2.2, .bool false] 66 ∧ a' = { tmps := #[.pointer (some ⟨g, 0, none⟩), .string nm, .string vl, undef, .pointer (some ⟨s, 0, none⟩), .pointer (some ⟨s + 1, 0, none⟩), .pointer (some ⟨s + 1 + 1, 0, none⟩), .pointer (some ⟨s + 1 + 1 + 1, 0, none⟩), .pointer (some ⟨s + 1 + 1 + 1 + 1, 0, none⟩), .int .i64 x.1, .pointer (some ⟨Bx, 0, none⟩), .pointer (some ⟨g, 0, none⟩), .func (.func 98) #[] #[.pointer (some ⟨s + 1 + 1 + 1 + 1 + 1, 0, none⟩)], .int .i64 x.1, .agg #[.string x.2.1, .string x.2.2, .bool false], undef, undef, undef, undef, undef, undef, undef, undef, undef, undef, undef, undef, undef], defers := [] })
    (fun x a' _ X Y row hs hg hr => by obtain ⟨Bx, h1, h2, h3⟩ := hs; exact ⟨Bx, h1, CellsAt.own (β := Unit) Bx _ _ () X Y row h2 hg (fun r e => (hr r e).2), h3⟩)
    ?assign ?body ?done ?stop
  case assign =>
    rintro l pre x W K ⟨⟨⟨⟨⟨⟨c, hc, b4⟩, b0⟩, b1⟩, b2⟩, b3⟩, hB⟩ hK
    have hlt := b4.lt
    gi_wp2
    exact hK _ _ ((KeepsOthers.alloc _ _).from _) (Kq.of_below ((Below.refl _ W).alloc (Nat.le_refl _) _)) ⟨⟨⟨⟨⟨⟨c, hc, b4.alloc _⟩, b0.alloc _⟩, b1.alloc _⟩, b2.alloc _⟩, b3.alloc _⟩, hB.alloc (by omega) _⟩ ⟨W.heap.size, hlt, World.alloc_heap_new W _, rfl⟩
  case body =>
    rintro l pre ⟨xi, xn, xv⟩ a' W hl ⟨r, hr⟩ ⟨⟨⟨⟨⟨⟨c, hc, b4⟩, b0⟩, b1⟩, b2⟩, b3⟩, hB⟩ ⟨Bx, hBx, bX, rfl⟩ hlt
    have c0 := b0.cell
    have c1 := b1.cell
    have c2 := b2.cell
    have f2 := b2.frozen
    have c3 := b3.cell
    have f3 := b3.frozen
    have c4 := b4.cell
    have f4 := b4.frozen
    have x0 : W.cell? ⟨Bx, 0, none⟩ = some (.string xn) := by simp [World.cell?, show W.heap[Bx]? = _ from bX]
    have x1 : W.cell? ⟨Bx, 1, none⟩ = some (.string xv) := by simp [World.cell?, show W.heap[Bx]? = _ from bX]
    have hc' : ∀ rest, B.fnd nm.toList vl.toList 0 (pre ++ [(xi, xn, xv)] ++ rest) = B.fnd nm.toList vl.toList c ((xi, xn, xv) :: rest) := fun rest => by
      rw [List.append_assoc]; exact hc ((xi, xn, xv) :: rest)
    have HC := Lib.hid hc'
    have HB4 := Lib.hid b4
    have HB0 := Lib.hid b0
    have HB1 := Lib.hid b1
    have HB2 := Lib.hid b2
    have HB3 := Lib.hid b3
    have HB := Lib.hid hB
    clear hc hc' b4 b0 b1 b2 b3 hB bX hr
    gi_wp2
    · rename_i h1
      exact ⟨KeepsFrom.refl _ _, Kq.refl _ _, ⟨⟨⟨⟨⟨c, fun rest => (HC.out rest).trans (fnd_ne h1), HB4.out⟩, HB0.out⟩, HB1.out⟩, HB2.out⟩, HB3.out⟩, HB.out⟩
    · rename_i h2
      have h1 : (!xn.toList == nm.toList) = false := by assumption
      exact ⟨((KeepsOthers.setCell _ _ _).trans (KeepsOthers.setCell _ _ _)).from _, ⟨⟨rfl, xi, fun rest => (HC.out rest).trans (fnd_hit h1 h2), (HB2.out.set _).other (by omega) _⟩, (HB3.out.other (by omega) _).set _⟩, (HB.out.setCell (by show s ≤ s + 1 + 1; omega) _).setCell (by show s ≤ s + 1 + 1 + 1; omega) _⟩
    · rename_i h1 h2 h3
      refine ⟨(KeepsOthers.setCell _ _ _).from _, Kq.set W _ _ _ (by omega), ⟨⟨⟨⟨⟨xi, fun rest => (HC.out rest).trans ?_, HB4.out.set _⟩, HB0.out.other (by omega) _⟩, HB1.out.other (by omega) _⟩, HB2.out.other (by omega) _⟩, HB3.out.other (by omega) _⟩, HB.out.setCell (by show s ≤ s + 1 + 1 + 1 + 1; omega) _⟩
      rw [fnd_nm h1 h2, if_pos (eq_of_beq h3)]
    · rename_i h1 h2 h3
      refine ⟨KeepsFrom.refl _ _, Kq.refl _ _, ⟨⟨⟨⟨⟨c, fun rest => (HC.out rest).trans ?_, HB4.out⟩, HB0.out⟩, HB1.out⟩, HB2.out⟩, HB3.out⟩, HB.out⟩
      rw [fnd_nm h1 h2, if_neg (fun e => by rw [e] at h3; cases h3)]
  case done =>
    rintro D xs W hD rfl ⟨⟨⟨⟨⟨⟨c, hc, b4⟩, b0⟩, b1⟩, b2⟩, b3⟩, hB⟩ hK
    have hcc := hc []
    rw [List.append_nil] at hcc
    have HCC : Hid (B.fnd nm.toList vl.toList 0 (B.allL L) = (c, false)) := hcc
    have c4 := b4.cell
    have c2 := b2.cell
    have f2 := b2.frozen
    have c3 := b3.cell
    have f3 := b3.frozen
    have d2 := b2.lt
    clear hc hcc b0 b1
    gi_wp2
    have b2' : Boxed ((W.setCell ⟨s + 1 + 1, 0, none⟩ (.int .i64 c)).setCell ⟨s + 1 + 1 + 1, 0, none⟩ (.bool false)) (s + 1 + 1) 3 (.int .i64 c) := (b2.set _).other (by omega) _
    have b3' : Boxed ((W.setCell ⟨s + 1 + 1, 0, none⟩ (.int .i64 c)).setCell ⟨s + 1 + 1 + 1, 0, none⟩ (.bool false)) (s + 1 + 1 + 1) 4 (.bool false) := (b3.other (by omega) _).set _
    have hK' := ((KeepsOthers.setCell W ⟨s + 1 + 1, 0, none⟩ (.int .i64 c)).trans (KeepsOthers.setCell _ ⟨s + 1 + 1 + 1, 0, none⟩ (.bool false))).same D _ hK rfl
    refine ⟨by simp, .inl ⟨_, _, rfl, run_takeDeferred hK', ?_⟩⟩
    have e2 := cell_kept b2'.cell (grownBy_putObj' _ D (.deferred none)) (fun r e => by cases e; exact ⟨_, hK', rfl⟩)
    have e3 := cell_kept b3'.cell (grownBy_putObj' _ D (.deferred none)) (fun r e => by cases e; exact ⟨_, hK', rfl⟩)
    refine ⟨.tuple #[.int .i64 c, .bool false], ?_, by rw [HCC.out], ?_⟩
    · simp [results, Tryd.f75, go_sem, e2, e3]
    · rw [HS.out]
      exact ((hB.setCell (by show s ≤ s + 1 + 1; omega) _).setCell (by show s ≤ s + 1 + 1 + 1; omega) _).trans (belowK_b (w := W0) (by omega) _ D _ _ hD hK' rfl rfl)
  case stop =>
    rintro D c pre W hD hpre ⟨⟨⟨rfl, i, hi, b2⟩, b3⟩, hB⟩ hK
    have HI : Hid (B.fnd nm.toList vl.toList 0 (B.allL L) = (i, true)) := by
      obtain ⟨rest, hr⟩ := hpre
      show _ = _
      rw [← hr]
      exact hi rest
    clear hi
    gi_wp2
    refine ⟨by simp, .inl ⟨_, _, rfl, run_takeDeferred hK, ?_⟩⟩
    have e2 := cell_kept b2.cell (grownBy_putObj' _ D (.deferred none)) (fun r e => by cases e; exact ⟨_, hK, rfl⟩)
    have e3 := cell_kept b3.cell (grownBy_putObj' _ D (.deferred none)) (fun r e => by cases e; exact ⟨_, hK, rfl⟩)
    refine ⟨.tuple #[.int .i64 i, .bool true], ?_, by rw [HI.out], ?_⟩
    · simp [results, Tryd.f75, go_sem, e2, e3]
    · rw [HS.out]
      exact hB.trans (belowK_b (w := W0) (by omega) _ D _ _ hD hK rfl rfl)

theorem find_any (g m : Nat) (L : List B.HD) (nm vl : ByteArray) (w : World) (hT : Tab w g L m) :
    Calls Tryd.prog 75 #[.pointer (some ⟨g, 0, none⟩), .string nm, .string vl] w fun e w' =>
      e = .returned (.tuple #[.int .i64 (B.fnd nm.toList vl.toList 0 (B.allL L)).1, .bool (B.fnd nm.toList vl.toList 0 (B.allL L)).2]) ∧ Below w.heap.size w w' :=
  callsIn_wide.1 (find_in 6 g m (Nat.le_refl _) L nm vl w hT)
end Go.Proofs.YtcbljbdcnahfhaaDoor
