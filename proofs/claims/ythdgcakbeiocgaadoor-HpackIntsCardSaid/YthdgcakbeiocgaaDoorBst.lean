/-
The walk of table.standing: the table that stands as one value, whatever stands in memory.
-/
import Derived.Test.YthdgcakbeiocgaaDoorBnew
namespace Go.Proofs.YthdgcakbeiocgaaDoor
open Go.RowKit

/-- The cells of the table that stands. -/
def stF (j : Nat) : Value :=
  if j % 3 = 0 then .string (B.stL.getD (j / 3) (⟨#[]⟩, ⟨#[]⟩)).1 else if j % 3 = 1 then .string (B.stL.getD (j / 3) (⟨#[]⟩, ⟨#[]⟩)).2 else .bool false
def stV : List Value := (List.range 183).map stF
theorem stV_len : stV.length = 183 := by rw [stV, List.length_map, List.length_range]
theorem stV_get (j : Nat) (hj : j < 183) : stV[j]? = some (stF j) := by rw [stV, List.getElem?_map, List.getElem?_range hj]; rfl
theorem stF_one (j : Nat) : (stF j).oneCell' = true := by
  unfold stF
  split
  · rfl
  · split <;> rfl
theorem stV_one : ∀ v ∈ stV, v.oneCell' = true := by
  intro v hv
  obtain ⟨i, _, rfl⟩ := List.mem_map.1 hv
  exact stF_one i
def stP : Array (Nat × Value) := ((List.range 61).map fun i => (i, Value.agg #[.string (B.stL.getD i (⟨#[]⟩, ⟨#[]⟩)).1, .string (B.stL.getD i (⟨#[]⟩, ⟨#[]⟩)).2, .bool false])).toArray
theorem run_build_st (w : World) : (Instr.build 157 stP).run Tryd.prog w = .ok (.agg stV.toArray) w := by kernel_rfl
/-- The cells of one that is made. -/
def stZ : List Value := (List.range 183).map fun j => if j % 3 = 2 then Value.bool false else .string ⟨#[]⟩
theorem stZ_len : stZ.length = 183 := by rw [stZ, List.length_map, List.length_range]
theorem run_alloc_st (w : World) : (Instr.alloc 157 true (.tuple #[])).run Tryd.prog w = .ok (.pointer (some ⟨w.heap.size, 0, none⟩)) (w.alloc (.cells stZ.toArray 157)) := by kernel_rfl
theorem blk_stZ (w : World) : Blk (w.alloc (.cells stZ.toArray 157)) w.heap.size 183 (fun j => if j % 3 = 2 then Value.bool false else .string ⟨#[]⟩) := by
  have h := Blk.new w stZ.toArray 157 (fun j => if j % 3 = 2 then Value.bool false else .string ⟨#[]⟩) (fun j hj => by
    rw [List.getElem?_toArray, stZ, List.getElem?_map, List.getElem?_range (by simpa [stZ_len] using hj)]; rfl)
  rw [show stZ.toArray.size = 183 by simp [stZ_len]] at h
  exact h

set_option maxRecDepth 100000 in
set_option maxHeartbeats 1000000 in
theorem standing_any (w : World) : Calls Tryd.prog 99 #[] w fun e w' => e = .returned (.agg stV.toArray) ∧ Below w.heap.size w w' := by
  have HZ := Lib.hid (blk_stZ w)
  have HB : Hid (Below w.heap.size w (w.alloc (.cells stZ.toArray 157))) := (Below.refl _ _).alloc (Nat.le_refl _) _
  go_enter Tryd.func99, Tryd.ntmps99
  go_upto_region 0 with (fail)
  go_step
  refine wpList_alloc_big rfl 157 rfl stZ.toArray run_alloc_st ?_
  generalize w.alloc (.cells stZ.toArray 157) = w1 at *
  generalize hs : w.heap.size = sb at *
  have HS := Lib.hid hs
  clear hs
  go_upto_region 1 with (fail)
  go_step
  iterate 61
    refine wpList_plain rfl fun K hK => ?_
    go_simp
    refine hK _ _ ?_
    clear hK K
  refine wpList_build_big rfl 157 _ rfl stP (by kernel_rfl) _ (run_build_st w1) ?_
  have hth := HZ.out.there (o := 0) (m := 183) (by omega)
  have hsz : stV.toArray.size = 183 := by rw [List.size_toArray]; exact stV_len
  refine wpList_store_mid rfl 157 (.tmp 0) (.tmp 62) (by rfl) sb 0 stV.toArray (by rfl) (by rfl) (by rw [hsz]; exact hth) (by rw [hsz]; kernel_rfl) (all_oneCell_toArray stV_one) ?_
  have hf := HZ.out.setCells (vs := stV.toArray.toList) (by rw [List.toList_toArray]; exact stV_len) (h := stF) (fun j hj => by rw [List.toList_toArray]; exact stV_get j hj)
  have hb := below_setCells sb (Nat.le_refl _) stV.toArray.toList 0 HB.out
  generalize w1.setCells sb 0 stV.toArray.toList = w4 at *
  go_wp2
  have hl := run_loadVar_mid (P := Tryd.prog) w4 sb 0 157 stV _ (Blk.rangeAt hf fun j hj => by
    rw [stV_len] at hj
    rw [Nat.zero_add]
    exact ⟨hj, stV_get j hj⟩) Tryd.underlying157 (by rfl) (by rw [stV_len]; kernel_rfl)
  clear hf hsz hth
  exact bodyPost_ret (v := .agg stV.toArray) (results_cell1 rfl _ (by rfl) hl) rfl ⟨rfl, by rw [HS.out]; exact hb⟩
end Go.Proofs.YthdgcakbeiocgaaDoor
