/-
The walks of the reference's Get and Find.
-/
import Derived.Test.YtplajeboeckhhaaDoorBrtr
namespace Go.Proofs.YtplajeboeckhhaaDoor
open Go.RowKit

set_option maxRecDepth 100000 in
set_option maxHeartbeats 2000000 in
theorem refGet_any (K gx M : Nat) (L : List B.HD) (i : Int) (w : World) (hi : i ≤ 9223372036854775807) (hR : Rx w K gx L.reverse M) (hL : L.length ≤ 1048576) :
    Calls Tryd.prog 55 #[.pointer (some ⟨gx, 0, none⟩), .int .i64 i] w fun e w' => e = .returned (.tuple #[.agg #[.string (B.get L i).1, .string (B.get L i).2, .bool false], .bool (B.has L i)]) ∧ Below w.heap.size w w' := by
  have hg := hR.lt
  have hba : Below w.heap.size w (w.alloc (.cells #[.string ⟨#[]⟩, .string ⟨#[]⟩, .bool false] 51)) := (Below.refl w.heap.size w).alloc (Nat.le_refl _) _
  obtain ⟨v, ⟨c0, _⟩, _, hO, _⟩ := hR.below hba
  obtain ⟨a, cp, rfl, _, hrd⟩ := hO.form
  obtain ⟨ln, hln⟩ : ∃ ln, ln = L.length := ⟨_, rfl⟩
  rw [List.length_reverse, ← hln] at c0
  have HLn := Lib.hid hln
  have HBa := Lib.hid hba
  have HRd' := Lib.hid hrd
  rw [← hln] at hL
  clear hO hrd hba hR hln
  by_cases h : 62 ≤ i ∧ i - 62 < (ln : Int)
  · obtain ⟨j, rfl⟩ : ∃ j : Nat, i = ((62 : Int) + (j : Int)) := ⟨(i - 62).toNat, by omega⟩
    have hj : j < ln := by omega
    have e1 : B.get L ((62 : Int) + (j : Int)) = B.nth L j := by
      unfold B.get
      rw [if_neg (by omega), if_pos (by have := HLn.out; omega), show ((62 : Int) + (j : Int)).toNat - 62 = j by omega]
    have e2 : B.has L ((62 : Int) + (j : Int)) = true := decide_eq_true (by have := HLn.out; omega)
    have hx : L.reverse[j]? = some (B.nth L j) := by
      unfold B.nth
      rw [List.getD_eq_getElem?_getD, List.getElem?_eq_getElem (by rw [List.length_reverse, ← HLn.out]; exact hj)]
      rfl
    rw [e1, e2]
    obtain ⟨b, o, rfl, d0, d1, d2⟩ := HRd'.out j _ hx
    clear hx e1 e2
    generalize B.nth L j = x at *
    obtain ⟨xn, xv⟩ := x
    have q1 : IntKind.i64.wrap ((62 : Int) + (j : Int) - 62) = (j : Int) := by rw [IntKind.wrap_i64]; omega
    have q2 : (j : Int) < (ln : Int) := by omega
    have q3 : (62 : Int) ≤ (62 : Int) + (j : Int) := by omega
    have q4 : (0 : Int) ≤ (j : Int) := by omega
    clear h hi
    go_enter Tryd.func55, Tryd.ntmps55
    go_wp2
    refine bodyPost_ret (v := .tuple #[.agg #[.string xn, .string xv, .bool false], .bool true]) (by simp [results, Tryd.results55, go_sem]) rfl ⟨rfl, ?_⟩
    exact (Below.refl _ _).alloc (Nat.le_refl _) _
  · have e1 : B.get L i = B.get [] i := by
      have hl := HLn.out
      unfold B.get
      by_cases h1 : 1 ≤ i ∧ i < 62
      · rw [if_pos h1, if_pos h1]
      · rw [if_neg h1, if_neg h1, if_neg (by omega), if_neg (by simp only [List.length_nil]; omega)]
    have e2 : B.has L i = B.has [] i := decide_eq_decide.2 (by have hl := HLn.out; simp only [List.length_nil]; omega)
    rw [e1, e2]
    have HS := Lib.hid (fun w => refStatic_any i w)
    generalize B.get [] i = x at *
    obtain ⟨xn, xv⟩ := x
    generalize B.has [] i = bb at *
    by_cases h62 : 62 ≤ i
    · have q1 : IntKind.i64.wrap (i - 62) = i - 62 := by rw [IntKind.wrap_i64]; omega
      have q2 : ¬ i - 62 < (ln : Int) := by omega
      clear h hi
      go_enter Tryd.func55, Tryd.ntmps55
      go_wp2_with (go_at_call 31; refine (HS.out _).mono ?_; rintro e w1 ⟨rfl, hb1⟩; obtain ⟨⟨z0, z1, z2⟩, ⟨y0, y1, y2⟩, hs1⟩ := cells3 hb1; have HB1 := Lib.hid (below_over hb1); clear hb1)
      refine bodyPost_ret (v := .tuple #[.agg #[.string xn, .string xv, .bool false], .bool bb]) (by simp [results, Tryd.results55, go_sem, z0, z1, z2]) rfl ⟨rfl, ?_⟩
      exact ((HB1.out.setCell (Nat.le_refl _) _).setCell (Nat.le_refl _) _).setCell (Nat.le_refl _) _
    · clear h hi
      go_enter Tryd.func55, Tryd.ntmps55
      go_wp2_with (go_at_call 31; refine (HS.out _).mono ?_; rintro e w1 ⟨rfl, hb1⟩; obtain ⟨⟨z0, z1, z2⟩, ⟨y0, y1, y2⟩, hs1⟩ := cells3 hb1; have HB1 := Lib.hid (below_over hb1); clear hb1)
      refine bodyPost_ret (v := .tuple #[.agg #[.string xn, .string xv, .bool false], .bool bb]) (by simp [results, Tryd.results55, go_sem, z0, z1, z2]) rfl ⟨rfl, ?_⟩
      exact ((HB1.out.setCell (Nat.le_refl _) _).setCell (Nat.le_refl _) _).setCell (Nat.le_refl _) _
end Go.Proofs.YtplajeboeckhhaaDoor
