/-
The walks of a table's iterators: Each, all, and what Each hands back.
-/
import Derived.Shelf.Abstract
import Derived.Shelf.RegionOpen
import Derived.WalkKit
import Derived.OwnWalkIn
import Derived.TacticsInMore
import Derived.LoopNIn
import Derived.LoopIn
import Derived.Test.YthdgcakbeiocgaaDoorBkeep
import Derived.Test.YthdgcakbeiocgaaDoorGbigin
namespace Go.Proofs.YthdgcakbeiocgaaDoor
open Go.RowKit Go.Shelf
attribute [local go_sem] Oper.semAt_some

/-- A header with its index, as the values that are yielded. -/
abbrev encs (x : Int × B.HD) : Array Value := #[.int .i64 x.1, .agg #[.string x.2.1, .string x.2.2, .bool false]]

theorem each_any (g : Nat) (w : World) : Calls Tryd.prog 100 #[.pointer (some ⟨g, 0, none⟩)] w fun e w' => e = .returned (.func (.func 108) #[] #[.pointer (some ⟨w.heap.size, 0, none⟩)]) ∧ w' = w.alloc (.cells #[.pointer (some ⟨g, 0, none⟩)] 86) := by
  go_enter Tryd.func100, Tryd.ntmps100
  go_wp2
  go_ret
  exact ⟨rfl, rfl⟩
theorem all_any (g : Nat) (w : World) : Calls Tryd.prog 87 #[.pointer (some ⟨g, 0, none⟩)] w fun e w' => e = .returned (.func (.func 98) #[] #[.pointer (some ⟨w.heap.size, 0, none⟩)]) ∧ w' = w.alloc (.cells #[.pointer (some ⟨g, 0, none⟩)] 86) := by
  go_enter Tryd.func87, Tryd.ntmps87
  go_wp2
  go_ret
  exact ⟨rfl, rfl⟩

theorem run_alloc_tab (w : World) : (Instr.alloc 126 true (.tuple #[])).run Tryd.prog w = .ok (.pointer (some ⟨w.heap.size, 0, none⟩)) (w.alloc (.cells (newL 0).toArray 126)) := by kernel_rfl

/-- A table's cells as a row. -/
def tbL (R : Nat → B.HD) (o n s m : Nat) : List Value := (List.range 388).map (tbF R o n s m)
theorem tbL_len (R : Nat → B.HD) (o n s m : Nat) : (tbL R o n s m).length = 388 := by rw [tbL, List.length_map, List.length_range]
theorem tbL_get (R : Nat → B.HD) (o n s m j : Nat) (hj : j < 388) : (tbL R o n s m)[j]? = some (tbF R o n s m j) := by rw [tbL, List.getElem?_map, List.getElem?_range hj]; rfl
theorem tbF_one (R : Nat → B.HD) (o n s m j : Nat) : (tbF R o n s m j).oneCell' = true := by
  unfold tbF
  split
  · split
    · rfl
    · split <;> rfl
  · split
    · rfl
    · split
      · rfl
      · split <;> rfl
theorem tbL_one (R : Nat → B.HD) (o n s m : Nat) : ∀ v ∈ tbL R o n s m, v.oneCell' = true := by
  intro v hv
  obtain ⟨i, _, rfl⟩ := List.mem_map.1 hv
  exact tbF_one _ _ _ _ _ i

theorem num_prefix (i k : Nat) (l : List B.HD) : B.num i (l.take k) <+: B.num i l := by
  refine ⟨B.num (i + (l.take k).length) (l.drop k), ?_⟩
  rw [← B.num_app, List.take_append_drop]

set_option maxRecDepth 100000 in
set_option maxHeartbeats 2000000 in
theorem each1_in (n l Bt g m : Nat) (hn : 1 ≤ n) (Q : Nat → Prop) (n₀ : Nat) (hQ : ∀ k, n₀ ≤ k → Q k) (L : List B.HD) (pre0 : List (Int × B.HD)) (N : Nat) (J Jx : List (Int × B.HD) → World → Prop)
    (hY : ∀ pre x W, J pre W → pre.length < N → YieldAt Fence.wide (n - 1) Tryd.prog l (encs x) W fun e W' =>
      (e = .returned (.bool true) ∧ J (pre ++ [x]) W' ∧ Kq Q W W') ∨ (e = .returned (.bool false) ∧ Jx (pre ++ [x]) W'))
    (W : World) (hJ : AbidesFrom W.heap.size J) (hW : n₀ ≤ W.heap.size) (hN : pre0.length + L.length ≤ N) (hBt : W.cell? ⟨Bt, 0, none⟩ = some (.pointer (some ⟨g, 0, none⟩))) (hT : Tab W g L m) (h0 : J pre0 W) :
    CallsIn Fence.wide n Tryd.prog 108 #[.func (.yield l) #[] #[], .pointer (some ⟨Bt, 0, none⟩)] W fun e W' => (∃ v, e = .returned v) ∧
      (J (pre0 ++ B.num 62 L.reverse) W' ∨ (∃ q, q <+: B.num 62 L.reverse ∧ Jx (pre0 ++ q) W')) := by
  have HT := Lib.hid hT
  have H0 := Lib.hid h0
  have HJ := Lib.hid hJ
  have HY := Lib.hid hY
  have HQ := Lib.hid hQ
  clear hT h0 hJ hY hQ
  refine callsIn_of_wp Tryd.func108 rfl trivial ?_ rfl
  simp only [Tryd.ntmps108, List.size_toArray, List.length_cons, List.length_nil, Nat.reduceAdd, Nat.reduceSub, Array.replicate_succ, Array.replicate_zero, List.push_toArray, List.append_toArray, List.nil_append, List.cons_append]
  obtain ⟨R, o, HR, HTb, hm1, hm2⟩ := id HT.out
  have hr := Blk.rangeAt (o := 0) (cs := tbL R o L.length (B.tot L) m) HTb fun j hj => by
    rw [tbL_len] at hj
    rw [Nat.zero_add]
    exact ⟨hj, tbL_get _ _ _ _ _ j hj⟩
  gi_step
  gi_step
  gi_step
  iterate 2
    refine wpListIn_plain rfl fun K hK => ?_
    go_simp
    refine hK _ _ ?_
    clear hK K
  refine wpListIn_load_big rfl 126 (.tmp 6) (by rfl) g 0 (by rfl) (tbL R o L.length (B.tot L) m) _ hr Tryd.underlying126 (by rfl) (by rw [tbL_len]; kernel_rfl) ?_
  refine wpListIn_alloc_big rfl 126 rfl (newL 0).toArray run_alloc_tab ?_
  have hZ : Blk (W.alloc (.cells (newL 0).toArray 126)) W.heap.size 388 (tbF (fun _ => (⟨#[]⟩, ⟨#[]⟩)) 0 0 0 0) := by
    have h := Blk.new W (newL 0).toArray 126 (tbF (fun _ => (⟨#[]⟩, ⟨#[]⟩)) 0 0 0 0) (fun j hj => by
      rw [List.getElem?_toArray]
      exact newL_get 0 j (by simpa [newL_len] using hj))
    rw [show (newL 0).toArray.size = 388 by simp [newL_len]] at h
    exact h
  have hth := hZ.there (o := 0) (m := 388) (by omega)
  have hsz : (tbL R o L.length (B.tot L) m).toArray.size = 388 := by rw [List.size_toArray]; exact tbL_len _ _ _ _ _
  refine wpListIn_store_big rfl 126 (.tmp 3) (.tmp 7) (by rfl) W.heap.size 0 (tbL R o L.length (B.tot L) m).toArray (by rfl) (by rfl) (by rw [hsz]; exact hth) (by rw [hsz]; kernel_rfl) (all_oneCell_toArray (tbL_one _ _ _ _ _)) ?_
  have hf : Tb ((W.alloc (.cells (newL 0).toArray 126)).setCells W.heap.size 0 (tbL R o L.length (B.tot L) m).toArray.toList) W.heap.size R o L.length (B.tot L) m := hZ.setCells (vs := (tbL R o L.length (B.tot L) m).toArray.toList) (by rw [List.toList_toArray]; exact tbL_len _ _ _ _ _) (h := tbF R o L.length (B.tot L) m) (fun j hj => by rw [List.toList_toArray]; exact tbL_get _ _ _ _ _ j hj)
  have hb := below_setCells W.heap.size (Nat.le_refl _) (tbL R o L.length (B.tot L) m).toArray.toList 0 ((Below.refl _ W).alloc (Nat.le_refl _) (.cells (newL 0).toArray 126))
  clear hr hZ hth hsz
  generalize (W.alloc (.cells (newL 0).toArray 126)).setCells W.heap.size 0 (tbL R o L.length (B.tot L) m).toArray.toList = W1 at *
  have HT1 : Hid (Tab W1 W.heap.size L m) := ⟨R, o, HR, hf, hm1, hm2⟩
  have HJ1 := Lib.hid (abides_below HJ.out H0.out hb)
  have hs1 := hb.size
  obtain ⟨hl128, _, _⟩ := HT1.out.le
  generalize hbn : W.heap.size = bn at *
  generalize (tbL R o L.length (B.tot L) m).toArray = C
  clear hf HR HTb hb H0 HT
  gi_wp2
  gi_loopw [4] (fun p wr => ∃ k : Nat, k ≤ L.length ∧ p = .int .i64 ((62 : Int) + k) ∧ Hid (Tab wr bn L m) ∧ Hid (J (pre0 ++ B.num 62 (L.reverse.take k)) wr) ∧ W1.heap.size ≤ wr.heap.size) (fun p _ => L.length + 62 - (intOf p).toNat)
  case atStart => exact ⟨0, by omega, rfl, HT1, by rw [List.take_zero]; show J (pre0 ++ []) W1; rw [List.append_nil]; exact HJ1.out, Nat.le_refl _⟩
  case round =>
    obtain ⟨k, hk, rfl, HTr, HJr, hsr⟩ := hrel
    have cn := (by obtain ⟨R, o, _, h2, _⟩ := HTr.out; exact h2.n.1 : wr.cell? ⟨bn, 385, none⟩ = some (.int .i64 L.length))
    clear HT1 HJ1
    by_cases hlt : k < L.length
    · have HM := Lib.hid (moved_any bn L m k wr hlt HTr.out)
      have hlen : (pre0 ++ B.num 62 (L.reverse.take k)).length < N := by
        rw [List.length_append, B.num_len, List.length_take, List.length_reverse]; omega
      have HN : Hid (B.num 62 (L.reverse.take (k + 1)) = B.num 62 (L.reverse.take k) ++ [((62 : Int) + (k : Int), B.nth L k)]) := by
        have := B.num_take 62 k L.reverse (by simpa using hlt)
        rw [Int.natCast_add] at this
        exact this
      obtain ⟨x, hx⟩ : ∃ x, x = B.nth L k := ⟨_, rfl⟩
      rw [← hx] at HM HN
      clear hx
      obtain ⟨xn, xv⟩ := x
      gi_wp2_with (refine ⟨trivial, ?_⟩; gi_at_call 109; refine (callsIn_wide.2 HM.out).mono ?_; rintro e w2 ⟨rfl, hb2⟩; have HB2 := Lib.hid hb2; have hs2 := hb2.size; clear hb2; obtain ⟨fn, tmps, assign, body, hy, hR⟩ := HY.out _ ((62 : Int) + (k : Int), xn, xv) w2 (abides_below HJ.out HJr.out HB2.out) hlen; dsimp only [encs] at hy)
      refine hR.mono ?_
      clear hR hy
      rintro e W3 (⟨rfl, hJ3, hk3⟩ | ⟨rfl, hJx3⟩)
      · have HJ3 := Lib.hid hJ3
        have HK3 := Lib.hid hk3
        clear hJ3 hk3
        gi_wp2
        go_roundw
        case rel =>
          refine ⟨k + 1, by omega, by rw [Int.natCast_add]; congr 1, ?_, ?_, ?_⟩
          · exact HK3.out.tab (HQ.out _ hW) (HTr.out.below HB2.out)
          · show J _ _
            rw [HN.out, ← List.append_assoc]
            exact HJ3.out
          · exact Nat.le_trans (Nat.le_trans hsr hs2) HK3.out.1
        case measure => simp [intOf]; omega
      · have HJx3 := Lib.hid hJx3
        clear hJx3
        gi_wp2
        refine bodyPost_ret (results_none rfl _ _ _) rfl ?_
        refine ⟨⟨_, rfl⟩, .inr ⟨B.num 62 (L.reverse.take (k + 1)), num_prefix _ _ _, ?_⟩⟩
        rw [HN.out, ← List.append_assoc]
        exact HJx3.out
    · obtain rfl : k = L.length := by omega
      gi_wp2
      go_end0
      refine ⟨⟨_, rfl⟩, .inl ?_⟩
      have := HJr.out
      rw [List.take_of_length_le (by simp)] at this
      exact this
end Go.Proofs.YthdgcakbeiocgaaDoor
