/-
The walks of wire.fresh, Size, appendVarint, Varint.
-/
import Derived.Test.YthipecjjmboecaaDoorGsame
import Derived.Test.YthipecjjmboecaaDoorWnext
import Derived.Test.YthipecjjmboecaaDoorWlen
import Derived.Test.YthipecjjmboecaaDoorWmathb
namespace Go.Proofs.YthipecjjmboecaaDoor
open Go.RowKit

set_option maxRecDepth 100000 in
theorem fresh_any {B2 : Nat} (a : Option Addr) (len cap : Nat) (l : List Nat) (room : Nat) (w : World) (hl : l.length = len) (hr : Rd B2 w a l) (hsz : len + room ≤ 140737488355328) :
    Calls Tryd.prog 43 #[.slice a len cap, .int .i64 room] w (OwnPost w.heap.size l w) := by
  obtain ⟨i0, hi, hz0, hz1, hz2⟩ := info_parts info5
  have Hr := Lib.hid hr
  have Hl := Lib.hid hl
  clear hr hl
  have hC : ((len : Int) + (room : Int)) = ((len + room : Nat) : Int) := (Int.natCast_add len room).symm
  have hb2 : i0.bytes * (len + room) ≤ 281474976710656 := by rw [hz2]; omega
  have HC := Lib.hid hC
  have HB2 := Lib.hid hb2
  clear hC hb2
  go_enter Tryd.func43, Tryd.ntmps43
  go_wp2_with (first | (at_make; refine wpList_make_own _ rfl _ _ 22 rfl w.heap.size 5 i0 (.int .u8 0) 1 Tryd.underlying22 hi hz0 hz1 .i64 .i64 _ (len + room) rfl rfl HC.out HB2.out ?_ (Nat.le_refl _) ?_; unfold maxLen; omega; intro w1 hown hgrow; have HR1 := Lib.hid (Hr.out.below (Below.grown (Below.refl w.heap.size w) hgrow (Nat.le_refl _) (fun k e => by cases e))); have hs1 := hgrow.size) | (at_builtin; refine wpList_app _ rfl _ _ 22 rfl w.heap.size B2 5 i0 (.int .u8 0) Tryd.underlying22 hi hz0 hz1 hz2 rfl _ 0 [] rfl hown (by intro e; cases e) a len cap l rfl Hl.out HR1.out ?_ hs1 ?_; omega; intro g cp w2 hown2 hgrow2))
  go_ret
  have hl := Hl.out
  subst hl
  rw [Nat.zero_add, List.nil_append] at hown2
  refine ⟨_, rfl, ⟨hown2, g, cp, rfl⟩, ?_⟩
  exact (Below.grown (Below.refl w.heap.size w) hgrow (Nat.le_refl _) (fun k e => by cases e)).grown hgrow2 hs1 (fun k e => by cases e; exact Nat.le_refl _)

theorem and127 (u : Nat) (h : u < 18446744073709551616) : bits .and .u64 (u : Int) 127 = (u : Int) % 128 :=
  bits_mask .u64 64 (by decide) (fun n h0 h1 => by rw [IntKind.wrap_u64]; omega) 7 (by decide) u (by omega) (by omega)
theorem or128 (u : Nat) : bits .or .u64 ((u : Int) % 128) 128 = (u : Int) % 128 + 128 := by
  have h := u64_or_nat (u % 128) 128 (by omega) (by omega)
  have e : (u % 128 ||| 128) = u % 128 + 128 := by
    have := Nat.two_pow_add_eq_or_of_lt (i := 7) (show u % 128 < 2 ^ 7 by omega) 1
    rw [Nat.or_comm]
    simp at this
    rw [← this]; omega
  rw [e] at h
  simpa using h

set_option maxRecDepth 100000 in
theorem appendVarint_any (B : Nat) (v : Value) (l : List Nat) (u : Nat) (w : World) (hv : Own B w v l) (hu : Hid (u < 18446744073709551616)) (hsz : l.length + 10 ≤ 140737488355328) (hB : B ≤ w.heap.size) :
    Calls Tryd.prog 48 #[v, .int .u64 u] w (OwnPost B (l ++ W.vbs u) w) := by
  obtain ⟨i0, hi, hz0, hz1, hz2⟩ := info_parts info5
  obtain ⟨hown0, g0, cp0, rfl⟩ := hv
  go_enter Tryd.func48, Tryd.ntmps48
  go_wp2
  go_loopw [0, 1] (fun x y wr => ∃ (g cp u' f : Nat) (l' : List Nat), x = .slice (some ⟨g, 0, none⟩) l'.length cp ∧ y = .int .u64 u' ∧ Hid (u' < 128 ^ (f + 1)) ∧ Hid (u' < 18446744073709551616) ∧ f ≤ 9 ∧ l'.length + f = l.length + 9 ∧ Hid (l' ++ W.vb f u' = l ++ W.vbs u) ∧
      wr.ownsRow B 5 1 (.slice (some ⟨g, 0, none⟩) l'.length cp) l'.length (vals l') ∧ Hid (Below B w wr) ∧ w.heap.size ≤ wr.heap.size) (fun x _ _ => (match x with | .slice _ n _ => l.length + 10 - n | _ => 0))
  case atStart => exact ⟨g0, cp0, u, 9, l, rfl, rfl, Nat.lt_of_lt_of_le hu.out (by decide), hu, by omega, rfl, rfl, hown0, Below.refl _ _, Nat.le_refl _⟩
  case round =>
    obtain ⟨g, cp, u', f, l', rfl, rfl, Hf, Hu, hf9, hlf, HL, hown, HB, hsz2⟩ := hrel
    have ea := and127 u' Hu.out
    have eo := or128 u'
    by_cases hlt : u' < 128
    · have hone := Rd.one wr u' 5 (by omega)
      have HS : Hid (W.vb f u' = [u']) := by
        show W.vb f u' = _
        cases f <;> simp [W.vb, hlt]
      go_wp2_with (at_builtin; refine wpList_app _ rfl _ _ 22 rfl B _ 5 i0 (.int .u8 0) Tryd.underlying22 hi hz0 hz1 hz2 rfl _ l'.length (vals l') rfl (hown.alloc _) (by intro e; cases e) _ 1 1 [u'] rfl rfl hone ?_ ?_ ?_; omega; (simp; omega); intro g2 cp2 w2 hown2 hgrow2)
      go_ret
      refine ⟨_, rfl, ?_, ?_⟩
      · have h := HL.out
        rw [HS.out] at h
        rw [← h]
        refine ⟨?_, g2, cp2, ?_⟩
        · rw [vals_append, List.length_append]; exact hown2
        · rw [List.length_append]; rfl
      · exact (HB.out.alloc (by omega) _).grown hgrow2 (by simp; omega) (fun k e => by cases e; exact (hown.lt g rfl).1)
    · have hone := Rd.one wr (u' % 128 + 128) 5 (by omega)
      rw [show ((u' % 128 + 128 : Nat) : Int) = (u' : Int) % 128 + 128 from by omega] at hone
      have hf1 : 1 ≤ f := by
        rcases Nat.eq_zero_or_pos f with h0 | h0
        · subst h0; have := Hf.out; simp at this; omega
        · exact h0
      obtain ⟨f, rfl⟩ : ∃ m, f = m + 1 := ⟨f - 1, by omega⟩
      have HS : Hid (W.vb (f + 1) u' = (u' % 128 + 128) :: W.vb f (u' / 128)) := by
        show W.vb (f + 1) u' = _
        simp [W.vb, hlt]
      go_wp2_with (at_builtin; refine wpList_app _ rfl _ _ 22 rfl B _ 5 i0 (.int .u8 0) Tryd.underlying22 hi hz0 hz1 hz2 rfl _ l'.length (vals l') rfl (hown.alloc _) (by intro e; cases e) _ 1 1 [u' % 128 + 128] rfl rfl hone ?_ ?_ ?_; omega; (simp; omega); intro g2 cp2 w2 hown2 hgrow2)
      go_roundw
      case rel =>
        refine ⟨g2, cp2, u' / 128, f, l' ++ [u' % 128 + 128], ?_, ?_, ?_, ?_, by omega, ?_, ?_, ?_, ?_, ?_⟩
        · rw [List.length_append]; rfl
        · first | rfl | (congr 1)
        · have h := Hf.out
          rw [Nat.pow_succ] at h
          exact Nat.div_lt_of_lt_mul (by rw [Nat.mul_comm]; exact h)
        · have := Hu.out; show u' / 128 < _; omega
        · simp; omega
        · show _ = _
          rw [← HL.out, HS.out]; simp
        · rw [vals_append, List.length_append]; exact hown2
        · exact (HB.out.alloc (by omega) _).grown hgrow2 (by simp; omega) (fun k e => by cases e; exact (hown.lt g rfl).1)
        · have := hgrow2.size; simp at this; omega
      case measure => simp; omega

theorem bl_le : ∀ f x, Lib.bitLenAux f x ≤ f
  | 0, x => by simp [Lib.bitLenAux]
  | f + 1, x => by
    unfold Lib.bitLenAux
    split
    · omega
    · have := bl_le f (x / 2); omega

set_option maxRecDepth 100000 in
theorem size_any (u : Nat) (w : World) (hu : Hid (u < 18446744073709551616)) :
    Calls Tryd.prog 49 #[.int .u64 u] w fun e w' => (∃ n : Nat, e = .returned (.int .i64 n) ∧ n ≤ 10) ∧ w = w' := by
  have eo : ∃ m : Nat, bits .or .u64 (u : Int) 1 = (m : Int) ∧ m < 18446744073709551616 := by
    have h := u64_or_nat u 1 hu.out (by omega)
    refine ⟨u ||| 1, h, ?_⟩
    exact Nat.or_lt_two_pow (n := 64) (show u < 2 ^ 64 from hu.out) (by decide)
  obtain ⟨m, eo, hm⟩ := eo
  have Hm := Lib.hid hm
  clear hm
  have hl : Lib.bitLen m ≤ 64 := bl_le 64 m
  go_enter Tryd.func49, Tryd.ntmps49
  go_wp2_with fail
  refine (len64_any m w (by omega) (by have := Hm.out; omega)).mono ?_
  rintro e w1 ⟨rfl, rfl⟩
  rw [Int.toNat_natCast]
  generalize Lib.bitLen m = n at hl
  go_wp2
  go_ret
  refine ⟨⟨(n + 6) / 7, ?_, by omega⟩, rfl⟩
  congr 1

set_option maxRecDepth 100000 in
theorem varint_any {B2 : Nat} (a : Option Addr) (len cap : Nat) (l : List Nat) (u : Nat) (w : World) (hl : l.length = len) (hr : Rd B2 w a l) (hu : Hid (u < 18446744073709551616)) (hsz : len + 10 ≤ 140737488355328) :
    Calls Tryd.prog 15 #[.slice a len cap, .int .u64 u] w (OwnPost w.heap.size (l ++ W.vbs u) w) := by
  have Hr := Lib.hid hr
  have Hl := Lib.hid hl
  clear hr hl
  go_enter Tryd.func15, Tryd.ntmps15
  go_wp2_with fail
  refine (size_any u w hu).mono ?_
  rintro e w1 ⟨⟨n, rfl, hn⟩, rfl⟩
  go_wp2_with fail
  refine (fresh_any a len cap l n w Hl.out Hr.out (by omega)).mono ?_
  rintro e w2 ⟨v, rfl, hv, hb⟩
  have HV := Lib.hid hv
  have HB := Lib.hid hb
  clear hv hb
  go_wp2_with fail
  refine (appendVarint_any w.heap.size v l u w2 HV.out hu (by rw [Hl.out]; exact hsz) HB.out.size).mono ?_
  rintro e w3 ⟨v3, rfl, hv3, hb3⟩
  have HV3 := Lib.hid hv3
  have HB3 := Lib.hid hb3
  clear hv3 hb3
  go_wp2
  go_ret
  exact ⟨_, rfl, HV3.out, HB.out.trans HB3.out⟩

end Go.Proofs.YthipecjjmboecaaDoor
