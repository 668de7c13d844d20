/-
The walk of the encoder's Encode, of longer texts.
-/
import Derived.Test.YtcbljbdcnahfhaaDoorMkb
namespace Go.Proofs.YtcbljbdcnahfhaaDoor
open Go.RowKit

set_option maxRecDepth 100000 in
set_option maxHeartbeats 2000000 in
theorem Encode_big (eB g m : Nat) (L : List B.HD) (asked : Bool) (least : Nat) (a : Option Addr) (n cp : Nat) (xs : List (B.HD × Bool)) (w : World) (hE : EncC w eB g asked least) (hT : Tab w g L m) (hne : eB ≠ g) (hl : asked = true → least ≤ 4096)
    (hxs : xs.length = n) (hr : NRd (fun b => b < w.heap.size ∧ b ≠ g ∧ b ≠ eB) w a xs) (hn : n ≤ 1000) (hsz : ∀ x ∈ xs, x.1.1.size + x.1.2.size ≤ 3000000) :
    Calls Tryd.prog 28 #[.pointer (some ⟨eB, 0, none⟩), .slice a n cp] w (EncPost eB g m least (P.szs asked least m ++ (P.enc m L xs).1) (P.enc m L xs).2 w) := by
  have heB := hE.lt
  have hg := hT.lt
  have HS := Lib.hid (appendSizes_any eB g m L asked least w hE hT hne hl)
  have hszl : (P.szs asked least m).length ≤ 22 := by
    unfold P.szs
    have h1 := (P.put_len 32 5 least).2
    have h2 := (P.put_len 32 5 m).2
    split
    · rw [List.length_append]
      split
      · omega
      · simp only [List.length_nil]; omega
    · simp
  obtain ⟨s0, hs0⟩ : ∃ s0, s0 = P.szs asked least m := ⟨_, rfl⟩
  rw [← hs0] at HS hszl ⊢
  have HR := Lib.hid hr
  have HT := Lib.hid hT
  have HXs := Lib.hid hxs
  have HSz := Lib.hid hsz
  clear hs0 hE hr hT hxs hsz
  go_enter Tryd.func28, Tryd.ntmps28
  go_wp2_with fail
  refine HS.out.mono ?_
  rintro e w1 ⟨v1, rfl, hv1, hc1, ho1⟩
  obtain ⟨a1, cp1, rfl⟩ := hv1.shape
  have HV1 := Lib.hid hv1
  have HC1 := Lib.hid hc1
  have H1 : Hid (Only2 w.heap.size g eB w w1) := ho1.two2
  have hz1 := ho1.size
  have HT1 : Hid (Tab w1 g L m) := by
    obtain ⟨R, o, h1, h2, h3⟩ := HT.out
    exact ⟨R, o, h1, fun j hj => ⟨ho1.cell hg (by omega) (h2 j hj).1, ho1.frozen hg (by omega) (h2 j hj).2⟩, h3⟩
  clear hv1 hc1 ho1 HS HT
  go_wp2
  go_loopw [5, 12] (fun v i wr => ∃ (k : Nat) (a' : Option Addr) (cp' : Nat) (l' : List Nat), k ≤ n ∧ i = .int .i64 (k : Nat) ∧ v = .slice a' l'.length cp' ∧ Hid (l' = s0 ++ (P.enc m L (xs.take k)).1) ∧ Hid (OwnN w.heap.size wr (.slice a' l'.length cp') l') ∧ Hid (Tab wr g (P.enc m L (xs.take k)).2 m) ∧ Hid (EncC wr eB g false least) ∧ Hid (Only2 w.heap.size g eB w wr) ∧ w.heap.size ≤ wr.heap.size) (fun _ i _ => n - (intOf i).toNat)
  case atStart => exact ⟨0, a1, cp1, s0, by omega, rfl, rfl, by show _ = _; simp [P.enc], HV1, by simpa [P.enc] using HT1, HC1, H1, hz1⟩
  case round =>
    clear HV1 HC1 H1 hz1 HT1
    obtain ⟨k, a', cp', l', hk, rfl, rfl, HL', HV, HTr, HC, H2, hz⟩ := hrel
    by_cases hlt : k < n
    · obtain ⟨x, hx⟩ : ∃ x, xs[k]? = some x := ⟨_, List.getElem?_eq_getElem (by rw [HXs.out]; exact hlt)⟩
      have HTk := Lib.hid (P.enc_take m L xs k x hx)
      have hx3 := HSz.out x (List.mem_of_getElem? hx)
      obtain ⟨b, o, rfl, hrb, d0, d1, d2⟩ := HR.out.two (fun b h => h) H2.out k x hx
      have hll : l'.length ≤ 10000000000 := by
        have h1 := P.enc_len m 3000000 (xs.take k) L (fun y hy => HSz.out y (List.mem_of_mem_take hy))
        have h2 := HL'.out
        have h3 : (xs.take k).length ≤ 1000 := Nat.le_trans (List.length_take_le _ _) (by omega)
        have h4 : (xs.take k).length * (3000000 + 33) ≤ 1000 * (3000000 + 33) := Nat.mul_le_mul_right _ h3
        rw [h2, List.length_append]
        omega
      obtain ⟨⟨xn, xv⟩, xb⟩ := x
      simp only at d0 d1 d2 hx3
      clear hx hrb
      have q1 : (k : Int) < (n : Int) := by omega
      have q0 : (0 : Int) ≤ (k : Int) := by omega
      have hba : Below wr.heap.size wr (wr.alloc (.cells #[.string xn, .string xv, .bool xb] 66)) := (Below.refl _ _).alloc (Nat.le_refl _) _
      have HA := Lib.hid (appendHeader_any w.heap.size eB g m (P.enc m L (xs.take k)).2 a' cp' l' xn xv xb (wr.alloc (.cells #[.string xn, .string xv, .bool xb] 66)) (HV.out.below hba) (HC.out.below hba).c0 (HTr.out.below hba) heB hg hne (by omega) (by omega) hll (Nat.le_trans hz hba.size))
      have HC3 := Lib.hid (HC.out.below hba)
      have H3 := Lib.hid (H2.out.trans ((OnlyB.of_below (B := w.heap.size) (g := g) (hba.mono hz)).two1 (h := eB)))
      clear hba HV HTr HC H2
      go_wp2_with fail
      refine HA.out.mono ?_
      rintro e w4 ⟨v4, rfl, hv4, ht4, ho4⟩
      obtain ⟨g4, cp4, rfl⟩ := hv4.2
      have HV4 : Hid (OwnN w.heap.size w4 (.slice (some ⟨g4, 0, none⟩) (l' ++ (P.one m (P.enc m L (xs.take k)).2 ((xn, xv), xb)).1).length cp4) (l' ++ (P.one m (P.enc m L (xs.take k)).2 ((xn, xv), xb)).1)) := hv4.1
      have HT4 := Lib.hid ht4
      have HC4 := Lib.hid (HC3.out.block (ho4.block eB heB hne))
      have H4 := Lib.hid (H3.out.trans (ho4.two1 (h := eB)))
      have hz4 : w.heap.size ≤ w4.heap.size := H4.out.size
      clear hv4 ht4 ho4 HA HC3 H3 d0 d1 d2
      go_wp2
      go_roundw
      case rel =>
        refine ⟨k + 1, some ⟨g4, 0, none⟩, cp4, l' ++ (P.one m (P.enc m L (xs.take k)).2 ((xn, xv), xb)).1, by omega, by rw [Int.natCast_add]; rfl, ?_, ?_, HV4, ?_, HC4, H4, hz4⟩
        · first | rfl | (rw [List.length_append])
        · show _ = _
          rw [HTk.out, HL'.out, List.append_assoc]
        · show Tab _ _ _ _
          rw [HTk.out]
          exact HT4.out
      case measure => simp [intOf]; omega
    · obtain rfl : k = n := by omega
      have q1 : ¬ (k : Int) < (k : Int) := by omega
      have ht : xs.take k = xs := List.take_of_length_le (by rw [HXs.out]; exact Nat.le_refl _)
      rw [ht] at HL' HTr
      clear ht
      go_wp2
      go_ret
      refine ⟨_, rfl, ?_, HC.out, HTr.out, H2.out⟩
      rw [← HL'.out]
      exact HV.out
end Go.Proofs.YtcbljbdcnahfhaaDoor
