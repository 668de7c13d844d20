/-
The walks of the reference's Size, New and room.
-/
import Derived.Test.YtplajeboeckhhaaDoorBrt
import Derived.Deep.RegionHeld3
namespace Go.Proofs.YtplajeboeckhhaaDoor
open Go.RowKit
namespace B
theorem tot_take (A : List HD) (k : Nat) (x : HD) (hx : A[k]? = some x) : tot (A.take (k + 1)) = tot (A.take k) + sz x := by
  rw [List.take_add_one, hx, tot_app]; simp [tot]
theorem tot_take_le (A : List HD) (k : Nat) : tot (A.take k) ≤ tot A := by
  have h : tot A = tot (A.take k) + tot (A.drop k) := by rw [← tot_app, List.take_append_drop]
  omega
/-- What stays when so many bytes more want room. -/
def rm (M n : Nat) (A : List HD) : List HD := if n ≤ M then (shr (M - n) A.reverse).reverse else []
theorem rm_nil (M n : Nat) : rm M n [] = [] := by unfold rm; split <;> rfl
theorem rm_fit {M n : Nat} {A : List HD} (h : tot A + n ≤ M) : rm M n A = A := by
  unfold rm
  rw [if_pos (by omega), shr_stop (by rw [tot_rev]; omega), List.reverse_reverse]
theorem rm_drop {M n : Nat} {A : List HD} {x : HD} (h : M < tot (A ++ [x]) + n) : rm M n (A ++ [x]) = rm M n A := by
  unfold rm
  by_cases hn : n ≤ M
  · rw [if_pos hn, if_pos hn, List.reverse_append]
    show (shr (M - n) (x :: A.reverse)).reverse = _
    rw [shr_step]
    have : tot (x :: A.reverse) = tot (A ++ [x]) := by rw [← tot_rev (A ++ [x]), List.reverse_append]; rfl
    omega
  · rw [if_neg hn, if_neg hn]
theorem rm_add (m : Nat) (L : List HD) (h : HD) : (add m L h).reverse = if sz h ≤ m then h :: rm m (sz h) L.reverse else rm m (sz h) L.reverse := by
  unfold add rm
  by_cases hb : m < sz h
  · rw [if_pos hb, if_neg (by omega), if_neg (by omega)]; rfl
  · rw [if_neg hb, if_pos (by omega), if_pos (by omega), List.reverse_append, List.reverse_reverse]; rfl
theorem rm_shr (m : Nat) (L : List HD) : rm m 0 L.reverse = (shr m L).reverse := by
  unfold rm
  rw [if_pos (by omega), List.reverse_reverse]; rfl
end B

/-- The reference's table: its headers, the newest first, and its most. -/
def Rx (w : World) (K : Nat) (gx : Nat) (A : List B.HD) (M : Nat) : Prop :=
  ∃ v, (w.cell? ⟨gx, 0, none⟩ = some v ∧ w.frozen? ⟨gx, 0, none⟩ = false) ∧ (w.cell? ⟨gx, 1, none⟩ = some (.int .i64 M) ∧ w.frozen? ⟨gx, 1, none⟩ = false) ∧ HOwn K w v A ∧ v.ownBlock ≠ some gx
theorem Rx.lt {w : World} {K gx M : Nat} {A : List B.HD} (h : Rx w K gx A M) : gx < w.heap.size := by
  obtain ⟨v, h0, _⟩ := h
  exact World.block_lt_of_cell? _ _ h0.1
theorem Rx.below {w w' : World} {K gx M : Nat} {A : List B.HD} (h : Rx w K gx A M) (hb : Below w.heap.size w w') : Rx w' K gx A M := by
  have hg := h.lt
  obtain ⟨v, h0, h1, h2, h3⟩ := h
  exact ⟨v, ⟨(hb.cell (p := ⟨gx, 0, none⟩) hg).trans h0.1, (World.frozen?_of_block (a := ⟨gx, 0, none⟩) (hb.block gx hg)).trans h0.2⟩, ⟨(hb.cell (p := ⟨gx, 1, none⟩) hg).trans h1.1, (World.frozen?_of_block (a := ⟨gx, 1, none⟩) (hb.block gx hg)).trans h1.2⟩, h2.below hb, h3⟩

theorem refSize_any (n v : ByteArray) (b : Bool) (w : World) (hn : n.size ≤ 140737488355328) (hv : v.size ≤ 140737488355328) :
    Calls Tryd.prog 53 #[.agg #[.string n, .string v, .bool b]] w fun e w' => e = .returned (.int .i64 (B.sz (n, v) : Nat)) ∧ Below w.heap.size w w' := by
  go_enter Tryd.func53, Tryd.ntmps53
  go_wp2
  go_ret
  refine ⟨?_, ?_⟩
  · simp
    unfold B.sz
    simp only
    omega
  · exact (Below.refl _ _).alloc (Nat.le_refl _) _

set_option maxRecDepth 100000 in
set_option maxHeartbeats 4000000 in
theorem refTot_any (K gx M : Nat) (A : List B.HD) (w : World) (hR : Rx w K gx A M) (ht : B.tot A ≤ 1048576) :
    Calls Tryd.prog 56 #[.pointer (some ⟨gx, 0, none⟩)] w fun e w' => e = .returned (.int .i64 (B.tot A : Nat)) ∧ Below w.heap.size w w' := by
  have HR := Lib.hid hR
  clear hR
  obtain ⟨ln, hln⟩ : ∃ ln, ln = A.length := ⟨_, rfl⟩
  have HL := Lib.hid hln
  have hl := B.tot_len A
  rw [← hln] at hl
  clear hln
  go_enter Tryd.func56, Tryd.ntmps56
  go_wp2
  go_loopw [3, 4] (fun al i wr => ∃ k : Nat, k ≤ ln ∧ i = .int .i64 k ∧ al = .int .i64 (B.tot (A.take k) : Nat) ∧ Hid (Below w.heap.size w wr)) (fun _ i _ => ln - (intOf i).toNat)
  case atStart => exact ⟨0, by omega, rfl, rfl, Below.refl _ _⟩
  case round =>
    obtain ⟨k, hk, rfl, rfl, HB⟩ := hrel
    have hz := HB.out.size
    obtain ⟨v, ⟨c0, _⟩, _, hO, _⟩ := HR.out.below HB.out
    obtain ⟨a, cp, rfl, hcp, hrd⟩ := hO.form
    rw [← HL.out] at c0 hcp
    clear hO
    by_cases hlt : k < ln
    · obtain ⟨x, hx⟩ : ∃ x, A[k]? = some x := ⟨_, List.getElem?_eq_getElem (by rw [← HL.out]; exact hlt)⟩
      obtain ⟨b, o, rfl, d0, d1, d2⟩ := hrd k x hx
      have HT := Lib.hid (B.tot_take A k x hx)
      have hts := B.tot_take_le A (k + 1)
      rw [HT.out] at hts
      obtain ⟨xn, xv⟩ := x
      have hx1 : xn.size ≤ 140737488355328 := by unfold B.sz at hts; simp only at hts; omega
      have hx2 : xv.size ≤ 140737488355328 := by unfold B.sz at hts; simp only at hts; omega
      clear hx hrd
      have q0 : (0 : Int) ≤ (k : Int) := by omega
      have q1 : (k : Int) < (ln : Int) := by omega
      have q3 : IntKind.i64.wrap ((B.tot (A.take k) : Int) + (B.sz (xn, xv) : Int)) = ((B.tot (A.take (k + 1)) : Nat) : Int) := by rw [IntKind.wrap_i64, HT.out]; omega
      have HSz := Lib.hid (fun w => refSize_any xn xv false w hx1 hx2)
      clear hts
      go_wp2_with (go_at_call 53; refine (HSz.out _).mono ?_; rintro e w5 ⟨rfl, hb5⟩; have HB5 := Lib.hid hb5; clear hb5)
      go_roundw
      case rel => exact ⟨k + 1, by omega, by rw [Int.natCast_add]; rfl, rfl, HB.out.trans (HB5.out.mono hz)⟩
      case measure => simp [intOf]; omega
    · obtain rfl : k = ln := by omega
      have q1 : ¬ (k : Int) < (k : Int) := by omega
      rw [show A.take k = A from List.take_of_length_le (by rw [HL.out]; exact Nat.le_refl _)]
      go_wp2
      go_ret
      exact ⟨rfl, HB.out⟩
end Go.Proofs.YtplajeboeckhhaaDoor
