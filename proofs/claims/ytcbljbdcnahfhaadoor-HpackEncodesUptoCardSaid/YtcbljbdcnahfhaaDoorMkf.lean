/-
The walk of the reference's PutInt.
-/
import Derived.Test.YtcbljbdcnahfhaaDoorMka
/- Kref -/
namespace Go.Proofs.YtcbljbdcnahfhaaDoor
open Go.RowKit

/-- New bytes, or none. -/
def NewPost (l : List Nat) (w : World) (e : Ending) (w' : World) : Prop := ∃ v, e = .returned v ∧ OwnN w.heap.size w' v l ∧ Below w.heap.size w w'

/-- A slice's length. -/
def sliceLen (v : Value) : Nat := match v with
  | .slice _ n _ => n
  | _ => 0
theorem own_one (w : World) (c : Nat) : OwnN w.heap.size (w.alloc (.cells #[.int .u8 (c : Nat)] 5)) (.slice (some ⟨w.heap.size, 0, none⟩) 1 1) [c] := World.ownsRow_lit w #[.int .u8 (c : Nat)] 1 (Nat.le_refl _) (by decide) rfl

theorem shl_full (b : Nat) (hb : b ≤ 8) : wrap64 (2 ^ b : Int) = ((P.full b + 1 : Nat) : Int) ∧ wrap64 (wrap64 (2 ^ b : Int) - 1) = ((P.full b : Nat) : Int) := by
  unfold P.full
  have h1 : 2 ^ b ≤ 2 ^ 8 := Nat.pow_le_pow_right (by omega) hb
  have h2 : 0 < 2 ^ b := Nat.two_pow_pos b
  have e : (2 : Nat) ^ 8 = 256 := by decide
  have e2 : (2 : Int) ^ b = ((2 ^ b : Nat) : Int) := by push_cast; rfl
  rw [e2]
  generalize 2 ^ b = k at *
  unfold wrap64
  omega

set_option maxRecDepth 100000 in
set_option maxHeartbeats 1000000 in
theorem refPut_yes (f b n : Nat) (w : World) (hb1 : 1 ≤ b) (hb : b ≤ 8) (hn : n ≤ 2147483647) (hf : f % 2 ^ b = 0) (hf2 : f + P.full b < 256) :
    Calls Tryd.prog 14 #[.int .i64 (f : Nat), .int .i64 (b : Nat), .int .i64 (n : Nat)] w (NewPost (P.put f b n) w) := by
  obtain ⟨i0, hi, hz0, hz1, hz2⟩ := info_parts info5
  have Hz2 := Lib.hid hz2
  clear hz2
  obtain ⟨hs1, hs2⟩ := shl_full b hb
  have hm : ((f : Int) % ((P.full b + 1 : Nat) : Int) != 0) = false := by
    have h2 := Nat.two_pow_pos b
    rw [show P.full b + 1 = 2 ^ b by unfold P.full; omega]
    have : (f : Int) % ((2 ^ b : Nat) : Int) = ((f % 2 ^ b : Nat) : Int) := by push_cast; rfl
    rw [this, hf]
    rfl
  have hfp := P.full_pos hb1
  have HP : Hid (P.put f b n = if n < P.full b then [f + n] else (f + P.full b) :: W.vbs (n - P.full b)) := rfl
  obtain ⟨F, hF⟩ : ∃ F, F = P.full b := ⟨_, rfl⟩
  rw [← hF] at HP hs1 hs2 hf2 hfp hm
  have h0 : ¬ (F : Int) + 1 = 0 := by omega
  rw [Int.natCast_add] at hm
  replace hm : ((f : Int) % ((F : Int) + 1) != 0) = false := hm
  clear hF hf
  by_cases h : n < F
  · have HX : Hid (P.put f b n = [f + n]) := by show _ = _; rw [HP.out, if_pos h]
    have hc2 : f + n < 256 := by omega
    have ec : IntKind.u8.wrap ((f : Int) + (n : Int)) = ((f + n : Nat) : Int) := by rw [IntKind.wrap_u8]; omega
    go_enter Tryd.func14, Tryd.ntmps14
    go_wp2
    go_ret
    refine ⟨_, rfl, ?_, (Below.refl w.heap.size w).alloc (Nat.le_refl _) _⟩
    rw [HX.out]
    exact own_one w (f + n)
  · have HX : Hid (P.put f b n = (f + F) :: W.vbs (n - F)) := by show _ = _; rw [HP.out, if_neg h]
    have hc2 : f + F < 256 := by omega
    have HO0 := Lib.hid (own_one w (f + F))
    go_enter Tryd.func14, Tryd.ntmps14
    go_wp2
    rw [show ((f : Int) + (F : Int)) = ((f + F : Nat) : Int) from rfl]
    obtain ⟨w0, hw0⟩ : ∃ w0, w0 = w.alloc (.cells #[.int .u8 ((f + F : Nat) : Int)] 5) := ⟨_, rfl⟩
    have HB0 : Hid (Below w.heap.size w w0) := by rw [hw0]; exact (Below.refl _ _).alloc (Nat.le_refl _) _
    rw [← hw0] at HO0 ⊢
    clear hw0
    have hs0 := HB0.out.size
    obtain ⟨c, hc⟩ : ∃ c, c = f + F := ⟨_, rfl⟩
    rw [← hc] at HO0 HX
    have hnF : n - F ≤ 2147483647 := by omega
    have e1 : (n : Int) - (F : Int) = ((n - F : Nat) : Int) := by omega
    rw [e1]
    clear e1 hs1 hs2 hm h0 HP hc hf2 hc2
    generalize n - F = u at *
    go_loopw [2, 8] (fun y x wr => ∃ (g cp u' f : Nat) (l' : List Nat), x = .slice (some ⟨g, 0, none⟩) l'.length cp ∧ y = .int .i64 (u' : Nat) ∧ Hid (u' < 128 ^ (f + 1)) ∧ u' ≤ 2147483647 ∧ f ≤ 9 ∧ l'.length + f = 10 ∧ Hid (l' ++ W.vb f u' = c :: W.vbs u) ∧
      Hid (wr.ownsRow w.heap.size 5 1 (.slice (some ⟨g, 0, none⟩) l'.length cp) l'.length (vals l')) ∧ Hid (Below w.heap.size w wr) ∧ w.heap.size ≤ wr.heap.size) (fun _ x _ => 11 - sliceLen x)
    case atStart =>
      refine ⟨w.heap.size, 1, u, 9, [c], rfl, rfl, ?_, hnF, by omega, by simp, rfl, HO0, HB0, hs0⟩
      exact Nat.lt_of_le_of_lt hnF (by decide)
    case round =>
      obtain ⟨g, cp, u', f, l', rfl, rfl, Hf, Hu, hf9, hlf, HL, HOW, HB, hsz2⟩ := hrel
      by_cases hlt : u' < 128
      · have hone := Rd.one wr u' 5 (by omega)
        have HS : Hid (W.vb f u' = [u']) := by
          show W.vb f u' = _
          cases f <;> simp [W.vb, hlt]
        go_wp2_with (at_builtin; refine wpList_app _ rfl _ _ 22 rfl w.heap.size _ 5 i0 (.int .u8 0) Tryd.underlying22 hi hz0 hz1 Hz2.out rfl _ l'.length (vals l') rfl (HOW.out.alloc _) (by intro e; cases e) _ 1 1 [u'] rfl rfl hone ?_ ?_ ?_; omega; (simp; omega); intro g2 cp2 w2 hown2 hgrow2)
        go_ret
        refine ⟨_, rfl, ?_, ?_⟩
        · have h := HL.out
          rw [HS.out] at h
          rw [HX.out, ← h]
          show World.ownsRow _ _ _ _ _ _ _
          rw [vals_append, List.length_append]; exact hown2
        · exact (HB.out.alloc (by omega) _).grown hgrow2 (by simp; omega) (fun k e => by cases e; exact (HOW.out.lt g rfl).1)
      · have hone := Rd.one wr (u' % 128 + 128) 5 (by omega)
        rw [show ((u' % 128 + 128 : Nat) : Int) = (u' : Int) % 128 + 128 from by omega] at hone
        have hf1 : 1 ≤ f := by
          rcases Nat.eq_zero_or_pos f with h0 | h0
          · subst h0; have := Hf.out; simp at this; omega
          · exact h0
        obtain ⟨f, rfl⟩ : ∃ m, f = m + 1 := ⟨f - 1, by omega⟩
        have HS : Hid (W.vb (f + 1) u' = (u' % 128 + 128) :: W.vb f (u' / 128)) := by
          show W.vb (f + 1) u' = _
          simp [W.vb, hlt]
        go_wp2_with (at_builtin; refine wpList_app _ rfl _ _ 22 rfl w.heap.size _ 5 i0 (.int .u8 0) Tryd.underlying22 hi hz0 hz1 Hz2.out rfl _ l'.length (vals l') rfl (HOW.out.alloc _) (by intro e; cases e) _ 1 1 [u' % 128 + 128] rfl rfl hone ?_ ?_ ?_; omega; (simp; omega); intro g2 cp2 w2 hown2 hgrow2)
        go_roundw
        case rel =>
          refine ⟨_, _, _, _, _, _, _, _, _, _, _, _, _, ⟨g2, cp2, u' / 128, f, l' ++ [u' % 128 + 128], ?_, ?_, ?_, by omega, by omega, ?_, ?_, ?_, ?_, ?_⟩, rfl⟩
          · rw [List.length_append]; rfl
          · first | rfl | (congr 1)
          · have h := Hf.out
            rw [Nat.pow_succ] at h
            exact Nat.div_lt_of_lt_mul (by rw [Nat.mul_comm]; exact h)
          · simp; omega
          · show _ = _
            rw [← HL.out, HS.out]; simp
          · show World.ownsRow _ _ _ _ _ _ _
            rw [vals_append, List.length_append]; exact hown2
          · exact (HB.out.alloc (by omega) _).grown hgrow2 (by simp; omega) (fun k e => by cases e; exact (HOW.out.lt g rfl).1)
          · have := hgrow2.size; simp at this; omega
        case measure => simp [sliceLen]; omega
end Go.Proofs.YtcbljbdcnahfhaaDoor
/- Krefb -/
namespace Go.Proofs.YtcbljbdcnahfhaaDoor
open Go.RowKit

set_option maxRecDepth 100000 in
set_option maxHeartbeats 1000000 in
theorem refPut_any (f b n : Int) (w : World) : Calls Tryd.prog 14 #[.int .i64 f, .int .i64 b, .int .i64 n] w (NewPost (P.putI f b n) w) := by
  have HN : Hid (NewPost [] w (.returned (.slice none 0 0)) w) := ⟨_, rfl, ownN_nil _ _, Below.refl _ _⟩
  by_cases hm : P.may f b n
  · have hput : P.putI f b n = P.put f.toNat b.toNat n.toNat := by unfold P.putI; rw [if_pos hm]
    rw [hput]
    obtain ⟨m1, m2, m3, m4, m5, m6, m7⟩ := hm
    obtain ⟨f, rfl⟩ : ∃ k : Nat, f = (k : Int) := ⟨f.toNat, by omega⟩
    obtain ⟨b, rfl⟩ : ∃ k : Nat, b = (k : Int) := ⟨b.toNat, by omega⟩
    obtain ⟨n, rfl⟩ : ∃ k : Nat, n = (k : Int) := ⟨n.toNat, by omega⟩
    simp only [Int.toNat_natCast] at m7 ⊢
    have hf7 : f % 2 ^ b = 0 := by exact_mod_cast m7
    have hff : f + P.full b < 256 := by
      have hp : 2 ^ b * 2 ^ (8 - b) = 256 := by rw [← Nat.pow_add, show b + (8 - b) = 8 by omega]
      have h1 : f = 2 ^ b * (f / 2 ^ b) := by have := Nat.div_add_mod f (2 ^ b); omega
      have h2 : f / 2 ^ b < 2 ^ (8 - b) := Nat.div_lt_of_lt_mul (by rw [hp]; omega)
      have h3 : 2 ^ b * (f / 2 ^ b + 1) ≤ 2 ^ b * 2 ^ (8 - b) := Nat.mul_le_mul_left _ h2
      rw [Nat.mul_add] at h3
      have := Nat.two_pow_pos b
      unfold P.full
      omega
    exact refPut_yes f b n w (by omega) (by omega) (by omega) hf7 hff
  · have hput : P.putI f b n = [] := by unfold P.putI; rw [if_neg hm]
    rw [hput]
    clear hput
    by_cases hb1 : b < 1
    · clear hm
      go_enter Tryd.func14, Tryd.ntmps14
      go_wp2
      go_ret
      exact HN.out
    by_cases hb2 : 8 < b
    · clear hm
      go_enter Tryd.func14, Tryd.ntmps14
      go_wp2
      go_ret
      exact HN.out
    by_cases hn0 : n < 0
    · clear hm
      go_enter Tryd.func14, Tryd.ntmps14
      go_wp2
      go_ret
      exact HN.out
    by_cases hn1 : 2147483647 < n
    · clear hm
      go_enter Tryd.func14, Tryd.ntmps14
      go_wp2
      go_ret
      exact HN.out
    by_cases hf0 : f < 0
    · clear hm
      go_enter Tryd.func14, Tryd.ntmps14
      go_wp2
      go_ret
      exact HN.out
    by_cases hf1 : 255 < f
    · clear hm
      go_enter Tryd.func14, Tryd.ntmps14
      go_wp2
      go_ret
      exact HN.out
    obtain ⟨f, rfl⟩ : ∃ k : Nat, f = (k : Int) := ⟨f.toNat, by omega⟩
    obtain ⟨b, rfl⟩ : ∃ k : Nat, b = (k : Int) := ⟨b.toNat, by omega⟩
    have hr0 : f % 2 ^ b ≠ 0 := fun e => hm ⟨by omega, by omega, by omega, by omega, by omega, by omega, by rw [Int.toNat_natCast]; exact_mod_cast e⟩
    obtain ⟨hs1, hs2⟩ := shl_full b (by omega)
    have hmo : ((f : Int) % ((P.full b : Int) + 1) != 0) = true := by
      have h2 := Nat.two_pow_pos b
      have e1 : (P.full b : Int) + 1 = ((2 ^ b : Nat) : Int) := by unfold P.full; omega
      have : (f : Int) % ((2 ^ b : Nat) : Int) = ((f % 2 ^ b : Nat) : Int) := by push_cast; rfl
      rw [e1, this]
      clear this e1
      generalize f % 2 ^ b = r at *
      simp
      omega
    have h0 : ¬ (P.full b : Int) + 1 = 0 := by omega
    clear hm hr0
    generalize P.full b = F at *
    go_enter Tryd.func14, Tryd.ntmps14
    go_wp2
    go_ret
    exact HN.out
end Go.Proofs.YtcbljbdcnahfhaaDoor
/- Krefc -/
namespace Go.Proofs.YtcbljbdcnahfhaaDoor
open Go.RowKit

/-- The reference's answer for a number. -/
def codeR : Option Nat → Int
  | none => 0
  | some i => 101 + i
theorem w64 (z : Int) (h1 : 0 ≤ z) (h2 : z < 4611686018427387904) : wrap64 z = z := by unfold wrap64; omega
theorem ref_val (X d p : Nat) (hX : X < 1099511627776) (hd : d < 256) (hp : p ≤ 268435456) : wrap64 ((X : Int) + wrap64 (wrap64 (bits .and .u8 (d : Int) 127) * (p : Int))) = ((X + d % 128 * p : Nat) : Int) := by
  have e1 : bits .and .u8 (d : Int) 127 = (d : Int) % 128 := bits_mask .u8 8 (by decide) wraps_u8 7 (by decide) d (by omega) (by omega)
  have h1 : d % 128 * p ≤ 127 * 268435456 := Nat.mul_le_mul (by omega) hp
  have e3 : (d : Int) % 128 = ((d % 128 : Nat) : Int) := by omega
  have e4 : wrap64 ((d % 128 : Nat) : Int) = ((d % 128 : Nat) : Int) := w64 _ (by omega) (by omega)
  rw [e1, e3, e4, ← Int.natCast_mul]
  generalize d % 128 * p = z at *
  rw [w64 (z : Int) (by omega) (by omega), ← Int.natCast_add]
  exact w64 _ (by omega) (by omega)
def getR (x : Nat × Nat × Option Nat) : Value := .tuple #[.int .i64 (x.1 : Nat), .int .i64 (x.2.1 : Nat), .int .i64 (codeR x.2.2)]

set_option maxRecDepth 100000 in
set_option maxHeartbeats 1000000 in
theorem refInt_b {B : Nat} (b : Nat) (a : Option Addr) (len cap : Nat) (l : List Nat) (w : World) (hb1 : 1 ≤ b) (hb : b ≤ 8) (hl : l.length = len) (hlen : len ≤ 140737488355328) (hr : Rd B w a l) :
    Calls Tryd.prog 16 #[.slice a len cap, .int .i64 (b : Nat)] w fun e w' => e = .returned (getR (P.get b l)) ∧ w = w' := by
  obtain ⟨hs1, hs2⟩ := shl_full b hb
  have Hr := Lib.hid hr
  have Hl := Lib.hid hl
  clear hr
  cases l with
  | nil =>
    simp at hl
    subst hl
    go_enter Tryd.func16, Tryd.ntmps16
    go_wp2
    go_ret3
    exact ⟨rfl, rfl⟩
  | cons c r =>
    obtain ⟨bb, o, rfl, hbB, hcell⟩ := Hr.out.ptr (by simp)
    have hc0 := hcell 0 (by simp)
    have hcl : c < 256 := Hr.out.1 c (by simp)
    have HG : Hid (P.get b (c :: r) = if c % 2 ^ b < P.full b then (c % 2 ^ b, 1, none) else P.more r 1 (c % 2 ^ b)) := P.get_cons b c r
    have ea := and_full (b := b) (f := c) hb hcl
    have hn0 : c % 2 ^ b < 256 := Nat.lt_of_le_of_lt (Nat.mod_le _ _) hcl
    have hF8 := P.full_le hb
    rw [Nat.add_zero] at hc0
    simp only [List.getD_cons_zero] at hc0
    generalize c % 2 ^ b = n0 at *
    generalize P.full b = F at *
    have hlen1 : 1 ≤ len := by rw [← hl]; simp
    have q0 : 0 < len := by omega
    have q00 : ((len : Int) == 0) = false := by simp; omega
    clear hl
    have ew : IntKind.i64.wrap (c : Int) = (c : Int) := by rw [IntKind.wrap_i64]; omega
    by_cases hlt : n0 < F
    · rw [if_pos hlt] at HG
      go_enter Tryd.func16, Tryd.ntmps16
      go_wp2
      go_ret3
      refine ⟨?_, rfl⟩
      rw [HG.out]
      rfl
    · rw [if_neg hlt] at HG
      go_enter Tryd.func16, Tryd.ntmps16
      go_wp2
      go_loopw [8, 9] (fun x y wr => ∃ i X : Nat, x = .int .i64 (X : Nat) ∧ y = .int .i64 (i : Nat) ∧ 1 ≤ i ∧ i ≤ 6 ∧ i ≤ len ∧ Hid (X < 2 ^ (7 * i + 1)) ∧ Hid (P.get b (c :: r) = P.more ((c :: r).drop i) i X) ∧ wr = w) (fun _ y _ => 6 - (intOf y).toNat)
      case atStart => exact ⟨1, n0, rfl, rfl, by omega, by omega, by omega, (show n0 < 2 ^ (7 * 1 + 1) by omega), HG.out, rfl⟩
      case round =>
        obtain ⟨i, X, rfl, rfl, hi1, hi6, hil, HX, HP2, rfl⟩ := hrel
        by_cases h6 : i = 6
        · subst h6
          have HM : Hid (P.get b (c :: r) = (0, 0, some 1)) := by
            show _ = _
            rw [HP2.out]
            cases (c :: r).drop 6 <;> simp [P.more]
          clear HP2 HX
          have q5 : (5 : Int) < (len : Int) := by omega
          go_wp2
          all_goals
            go_ret3
            refine ⟨?_, rfl⟩
            rw [HM.out]
            rfl
        by_cases hend : i = len
        · subst hend
          have HM : Hid (P.get b (c :: r) = (0, 0, some 0)) := by
            show _ = _
            rw [HP2.out, List.drop_of_length_le (by rw [Hl.out]; exact Nat.le_refl _), P.more, if_neg h6]
          clear HP2 HX
          have q5 : ¬ (5 : Int) < (i : Int) := by omega
          have q6 : ¬ (i : Int) < (i : Int) := by omega
          go_wp2
          go_ret3
          refine ⟨?_, rfl⟩
          rw [HM.out]
          rfl
        have hlt : i < (c :: r).length := by rw [Hl.out]; omega
        have hce := hcell i hlt
        have HD : Hid ((c :: r).drop i = (c :: r).getD i 0 :: (c :: r).drop (i + 1)) := by
          show _ = _
          rw [List.drop_eq_getElem_cons hlt, List.getD_eq_getElem?_getD, List.getElem?_eq_getElem hlt]
          rfl
        have hd256 := Hr.out.lt i
        generalize (c :: r).getD i 0 = d at *
        have q1 : (0 : Int) ≤ (i : Int) := by omega
        have q2 : (i : Int) < (len : Int) := by omega
        have q3 : (i : Int) ≤ 5 := by omega
        go_upto_region 13 with (fail)
        have hX := HX.out
        have hp : (2 : Nat) ^ (7 * (i - 1)) ≤ 2 ^ 28 := Nat.pow_le_pow_right (by omega) (by omega)
        have e28 : (2 : Nat) ^ 28 = 268435456 := by decide
        have hX2 : X < 1099511627776 := Nat.lt_of_lt_of_le hX (Nat.le_trans (Nat.pow_le_pow_right (by omega) (show 7 * i + 1 ≤ 36 by omega)) (by decide))
        have hpp : 2 ^ (7 * i) = 128 * 2 ^ (7 * (i - 1)) := by
          rw [show 7 * i = 7 * (i - 1) + 7 by omega, Nat.pow_add, Nat.mul_comm]
        have hXn : X + d % 128 * 2 ^ (7 * (i - 1)) < 2 ^ (7 * (i + 1) + 1) := by
          have h1 : d % 128 * 2 ^ (7 * (i - 1)) ≤ 128 * 2 ^ (7 * (i - 1)) := Nat.mul_le_mul_right _ (by omega)
          rw [show 7 * (i + 1) + 1 = (7 * i + 1) + 7 by omega, Nat.pow_add]
          rw [Nat.pow_succ] at hX ⊢
          omega
        have hval := ref_val X d (2 ^ (7 * (i - 1))) hX2 hd256 (by rw [← e28]; exact hp)
        have ep : (((2 ^ (7 * (i - 1)) : Nat)) : Int) = (2 : Int) ^ (7 * (i - 1)) := by push_cast; rfl
        rw [ep] at hval
        clear ep
        rw [hval]
        have HM : Hid (P.get b (c :: r) = if 128 ≤ d then P.more ((c :: r).drop (i + 1)) (i + 1) (X + d % 128 * 2 ^ (7 * (i - 1))) else if 2147483647 < X + d % 128 * 2 ^ (7 * (i - 1)) then (0, 0, some 1) else (X + d % 128 * 2 ^ (7 * (i - 1)), i + 1, none)) := by
          show _ = _
          rw [HP2.out, HD.out, P.more, if_neg h6]
        clear hval hpp hp e28 hX hX2 HP2 HD HX
        generalize X + d % 128 * 2 ^ (7 * (i - 1)) = X2 at *
        have HXn := Lib.hid hXn
        clear hXn
        by_cases hd : 128 ≤ d
        · rw [if_pos hd] at HM
          have q4 : ¬ (d : Int) < 128 := by omega
          go_wp2
          go_roundw
          case rel => exact ⟨i + 1, X2, by first | rfl | (congr 1), by rw [Int.natCast_add]; rfl, by omega, by omega, by omega, HXn.out, HM.out, by simp⟩
          case measure => simp [intOf]; omega
        · rw [if_neg hd] at HM
          have q4 : (d : Int) < 128 := by omega
          by_cases hbig : 2147483647 < X2
          · rw [if_pos hbig] at HM
            have q5 : (2147483647 : Int) < (X2 : Int) := by omega
            go_wp2
            go_ret3
            refine ⟨?_, rfl⟩
            rw [HM.out]
            rfl
          · rw [if_neg hbig] at HM
            have q5 : ¬ (2147483647 : Int) < (X2 : Int) := by omega
            go_wp2
            go_ret3
            refine ⟨?_, rfl⟩
            rw [HM.out]
            rfl

set_option maxRecDepth 100000 in
theorem refInt_any {B : Nat} (b : Int) (a : Option Addr) (len cap : Nat) (l : List Nat) (w : World) (hl : l.length = len) (hlen : len ≤ 140737488355328) (hr : Rd B w a l) :
    Calls Tryd.prog 16 #[.slice a len cap, .int .i64 b] w fun e w' => e = .returned (getR (P.getI b l)) ∧ w = w' := by
  by_cases h : 1 ≤ b ∧ b ≤ 8
  · obtain ⟨b, rfl⟩ : ∃ k : Nat, b = (k : Int) := ⟨b.toNat, by omega⟩
    have hg : P.getI (b : Int) l = P.get b l := by unfold P.getI; rw [if_pos h, Int.toNat_natCast]
    rw [hg]
    exact refInt_b b a len cap l w (by omega) (by omega) hl hlen hr
  · have hg : P.getI b l = (0, 0, some 1) := by unfold P.getI; rw [if_neg h]
    rw [hg]
    by_cases h1 : b < 1
    · go_enter Tryd.func16, Tryd.ntmps16
      go_wp2
      go_ret3
      exact ⟨rfl, rfl⟩
    · have h2 : 8 < b := by omega
      go_enter Tryd.func16, Tryd.ntmps16
      go_wp2
      go_ret3
      exact ⟨rfl, rfl⟩
end Go.Proofs.YtcbljbdcnahfhaaDoor
