/-
What is read of the table that stands, as a value, at an index; the walk of what all hands back.
-/
import Derived.Test.YthdgcakbeiocgaaDoorBeach
namespace Go.Proofs.YthdgcakbeiocgaaDoor
open Go.RowKit Go.Shelf
attribute [local go_sem] Oper.semAt_some

theorem run_index_st (w : World) : ∀ k : Nat, k < 61 → (Instr.index 157 (.agg stV.toArray) (.int .i64 (k : Nat))).run Tryd.prog w = .ok (.agg #[.string (B.stL.getD k (⟨#[]⟩, ⟨#[]⟩)).1, .string (B.stL.getD k (⟨#[]⟩, ⟨#[]⟩)).2, .bool false]) w
  | 0, _ => by kernel_rfl
  | 1, _ => by kernel_rfl
  | 2, _ => by kernel_rfl
  | 3, _ => by kernel_rfl
  | 4, _ => by kernel_rfl
  | 5, _ => by kernel_rfl
  | 6, _ => by kernel_rfl
  | 7, _ => by kernel_rfl
  | 8, _ => by kernel_rfl
  | 9, _ => by kernel_rfl
  | 10, _ => by kernel_rfl
  | 11, _ => by kernel_rfl
  | 12, _ => by kernel_rfl
  | 13, _ => by kernel_rfl
  | 14, _ => by kernel_rfl
  | 15, _ => by kernel_rfl
  | 16, _ => by kernel_rfl
  | 17, _ => by kernel_rfl
  | 18, _ => by kernel_rfl
  | 19, _ => by kernel_rfl
  | 20, _ => by kernel_rfl
  | 21, _ => by kernel_rfl
  | 22, _ => by kernel_rfl
  | 23, _ => by kernel_rfl
  | 24, _ => by kernel_rfl
  | 25, _ => by kernel_rfl
  | 26, _ => by kernel_rfl
  | 27, _ => by kernel_rfl
  | 28, _ => by kernel_rfl
  | 29, _ => by kernel_rfl
  | 30, _ => by kernel_rfl
  | 31, _ => by kernel_rfl
  | 32, _ => by kernel_rfl
  | 33, _ => by kernel_rfl
  | 34, _ => by kernel_rfl
  | 35, _ => by kernel_rfl
  | 36, _ => by kernel_rfl
  | 37, _ => by kernel_rfl
  | 38, _ => by kernel_rfl
  | 39, _ => by kernel_rfl
  | 40, _ => by kernel_rfl
  | 41, _ => by kernel_rfl
  | 42, _ => by kernel_rfl
  | 43, _ => by kernel_rfl
  | 44, _ => by kernel_rfl
  | 45, _ => by kernel_rfl
  | 46, _ => by kernel_rfl
  | 47, _ => by kernel_rfl
  | 48, _ => by kernel_rfl
  | 49, _ => by kernel_rfl
  | 50, _ => by kernel_rfl
  | 51, _ => by kernel_rfl
  | 52, _ => by kernel_rfl
  | 53, _ => by kernel_rfl
  | 54, _ => by kernel_rfl
  | 55, _ => by kernel_rfl
  | 56, _ => by kernel_rfl
  | 57, _ => by kernel_rfl
  | 58, _ => by kernel_rfl
  | 59, _ => by kernel_rfl
  | 60, _ => by kernel_rfl
  | k + 61, h => absurd h (by omega)

/-- Of one element with another in the same place. -/
theorem num_st (k : Nat) (hk : k < 61) : B.num 1 (B.stL.take (k + 1)) = B.num 1 (B.stL.take k) ++ [((k : Int) + 1, B.stL.getD k (⟨#[]⟩, ⟨#[]⟩))] := by
  have := B.num_take 1 k B.stL (by rw [B.stL_len]; exact hk)
  rw [show ((1 + k : Nat) : Int) = (k : Int) + 1 by omega] at this
  exact this

theorem abides_mono {β : Type} {a b : Nat} {J : β → World → Prop} (hJ : AbidesFrom a J) (h : a ≤ b) : AbidesFrom b J :=
  fun s W W' row hs hg hr => hJ s W W' row hs hg (fun r e => ⟨Nat.le_trans h (hr r e).1, (hr r e).2⟩)

set_option maxRecDepth 100000 in
set_option maxHeartbeats 2000000 in
theorem all1_stops (n Bt g m : Nat) (hn : 3 ≤ n) (L : List B.HD) (w : World) (Q : Nat → Prop) (n₀ : Nat) (hQ : ∀ k, n₀ ≤ k → Q k) (hQg : Q g) (hQb : Q Bt) (hn₀ : n₀ ≤ w.heap.size) (hBt : w.cell? ⟨Bt, 0, none⟩ = some (.pointer (some ⟨g, 0, none⟩))) (hT : Tab w g L m) :
    SeqStopsK Fence.wide n Tryd.prog 98 #[.pointer (some ⟨Bt, 0, none⟩)] encs (Kq Q) (fun xs => xs = B.allL L) (fun pre => pre <+: B.allL L) 189 w := fun l J Jx W hW hJ hJx hY h0 => by
  have HT := Lib.hid (hT.below hW)
  have HBt : Hid (W.cell? ⟨Bt, 0, none⟩ = some (.pointer (some ⟨g, 0, none⟩))) := cell_below hW hBt
  have hl128 := hT.le.1
  have hnW : n₀ ≤ W.heap.size := Nat.le_trans hn₀ hW.size
  have H0 := Lib.hid h0
  have HJ := Lib.hid hJ
  have HY := Lib.hid hY
  have HQ := Lib.hid hQ
  have HQg := Lib.hid hQg
  have HQb := Lib.hid hQb
  clear hT h0 hJ hJx hY hQ hQg hQb hBt hW hn₀
  have hI := run_index_st
  have hst : ∀ w, Calls Tryd.prog 99 #[] w fun e w' => e = .returned (.agg stV.toArray) ∧ Below w.heap.size w w' := standing_any
  have HST := Lib.hid hst
  clear hst
  have h1 : 1 ≤ n := by omega
  refine callsIn_of_wp Tryd.func98 rfl trivial ?_ rfl
  simp only [Tryd.ntmps98, List.size_toArray, List.length_cons, List.length_nil, Nat.reduceAdd, Nat.reduceSub, Array.replicate_succ, Array.replicate_zero, List.push_toArray, List.append_toArray, List.nil_append, List.cons_append]
  generalize stV.toArray = C at *
  have HI := Lib.hid hI
  clear hI
  gi_wp2_with (refine ⟨trivial, ?_⟩; gi_at_call 99; refine (callsIn_wide.2 (HST.out _)).mono ?_; rintro e w1 ⟨rfl, hb1⟩; have HB1 := Lib.hid hb1; have hs1 := hb1.size; clear hb1)
  have HT1 := Lib.hid (HT.out.below HB1.out)
  have HBt1 : Hid (w1.cell? ⟨Bt, 0, none⟩ = some (.pointer (some ⟨g, 0, none⟩))) := cell_below HB1.out HBt.out
  have HJ1 := Lib.hid (abides_below HJ.out H0.out HB1.out)
  clear HT HBt H0 HB1
  gi_loopw [3, 4, 6] (fun _ _ p wr => ∃ k : Nat, k ≤ 61 ∧ p = .int .i64 k ∧ Hid (Tab wr g L m) ∧ Hid (wr.cell? ⟨Bt, 0, none⟩ = some (.pointer (some ⟨g, 0, none⟩))) ∧ Hid (J (B.num 1 (B.stL.take k)) wr) ∧ n₀ ≤ wr.heap.size ∧ W.heap.size ≤ wr.heap.size) (fun _ _ p _ => 61 - (intOf p).toNat)
  case atStart => exact ⟨0, by omega, rfl, HT1, HBt1, HJ1, by omega, by omega⟩
  case round =>
    obtain ⟨k, hk, rfl, HTr, HBr, HJr, hsr, hsW⟩ := hrel
    clear HT1 HBt1 HJ1
    by_cases hlt : k < 61
    · have HN := Lib.hid (num_st k hlt)
      have hi := fun w => HI.out w k hlt
      have hlen : (B.num 1 (B.stL.take k)).length < 189 := by
        rw [B.num_len, List.length_take]; omega
      obtain ⟨x, hx⟩ : ∃ x, x = B.stL.getD k (⟨#[]⟩, ⟨#[]⟩) := ⟨_, rfl⟩
      rw [← hx] at HN hi
      clear hx
      obtain ⟨xn, xv⟩ := x
      have hb2 : Below wr.heap.size wr (wr.alloc (.cells #[.string xn, .string xv, .bool false] 66)) := (Below.refl _ _).alloc (Nat.le_refl _) _
      have HB2 := Lib.hid hb2
      obtain ⟨fn, tmps, assign, body, hy, hR⟩ := HY.out _ ((k : Int) + 1, xn, xv) _ (abides_below HJ.out HJr.out hb2) hlen
      dsimp only [encs] at hy
      clear hb2
      gi_wp2
      refine hR.mono ?_
      clear hR hy
      rintro e W3 (⟨rfl, hJ3, hk3⟩ | ⟨rfl, hJx3⟩)
      · have HJ3 := Lib.hid hJ3
        have HK3 := Lib.hid hk3
        have hs3 := hk3.1
        rw [World.size_alloc] at hs3
        clear hJ3 hk3
        gi_wp2
        go_roundw
        case rel =>
          refine ⟨k + 1, by omega, by rw [Int.natCast_add]; rfl, ?_, ?_, ?_, by omega, by omega⟩
          · exact HK3.out.tab HQg.out (HTr.out.below HB2.out)
          · exact HK3.out.cell HQb.out (cell_below HB2.out HBr.out)
          · show J _ _
            rw [HN.out]
            exact HJ3.out
        case measure => simp [intOf]; omega
      · have HJx3 := Lib.hid hJx3
        clear hJx3
        gi_wp2
        refine bodyPost_ret (results_none rfl _ _ _) rfl ?_
        refine ⟨⟨_, rfl⟩, .inr ⟨B.num 1 (B.stL.take (k + 1)), ?_, ?_⟩⟩
        · exact (num_prefix _ _ _).trans (List.prefix_append _ _)
        · rw [HN.out]
          exact HJx3.out
    · obtain rfl : k = 61 := by omega
      have hJr := HJr.out
      rw [show B.stL.take 61 = B.stL from List.take_of_length_le (by rw [B.stL_len]; exact Nat.le_refl _)] at hJr
      have hb2 : Below wr.heap.size wr (wr.alloc (.cells #[.pointer (some ⟨g, 0, none⟩)] 86)) := (Below.refl _ _).alloc (Nat.le_refl _) _
      have hJ2 := abides_below HJ.out hJr hb2
      have HE := Lib.hid (fun (n : Nat) (hn : 1 ≤ n) => each1_in n l wr.heap.size g m hn Q n₀ HQ.out L (B.num 1 B.stL) 189 J Jx (fun pre x W' hj hl => yieldAt_any rfl _ (HY.out pre x W' hj hl)) _ (abides_mono HJ.out (Nat.le_trans hsW hb2.size)) (Nat.le_trans hsr hb2.size) (by rw [B.num_len, B.stL_len]; omega) (by simp) (HTr.out.below hb2) hJ2)
      have hBr := HBr.out
      clear hJr hb2 hJ2
      gi_wp2_with (first
        | (refine ⟨trivial, ?_⟩; gi_at_call 100; refine (callsIn_wide.2 (each_any g wr)).mono ?_; rintro e w2 ⟨rfl, rfl⟩)
        | (refine ⟨trivial, ?_⟩; gi_at_call 108; refine (HE.out _ (by omega)).mono ?_; rintro e W3 ⟨⟨v3, rfl⟩, hor⟩; have HOr := Lib.hid hor; clear hor))
      go_end0
      refine ⟨⟨_, rfl⟩, ?_⟩
      rcases HOr.out with h | ⟨q, hq, h⟩
      · exact .inl ⟨_, rfl, h⟩
      · exact .inr ⟨B.num 1 B.stL ++ q, List.prefix_append_right_inj _ |>.2 hq, h⟩
end Go.Proofs.YthdgcakbeiocgaaDoor
