/-
The walks of hpack's full, isPrefix, fresh, appendInt, PutInt.
-/
import Derived.Lib.AppendStr
import Derived.Test.YtcbljbdcnahfhaaDoorMga
import Derived.Test.YtcbljbdcnahfhaaDoorMkm
import Derived.Test.YtcbljbdcnahfhaaDoorMha
import Derived.Test.YtcbljbdcnahfhaaDoorMge
/- Kint -/
namespace Go.Proofs.YtcbljbdcnahfhaaDoor
open Go.RowKit

/-- A slice of the call's own that holds the bytes l, or nil. -/
def OwnN (B : Nat) (w : World) (v : Value) (l : List Nat) : Prop := w.ownsRow B 5 1 v l.length (vals l)
theorem ownN_nil (B : Nat) (w : World) : OwnN B w (.slice none 0 0) [] := ⟨by simp [vals], .inl ⟨rfl, rfl⟩⟩
theorem OwnN.shape {B : Nat} {w : World} {v : Value} {l : List Nat} (h : OwnN B w v l) : ∃ a cp, v = .slice a l.length cp := by
  rcases h.2 with ⟨e, h0⟩ | ⟨g, cp, _, e, _⟩
  · exact ⟨none, 0, by rw [e, h0]⟩
  · exact ⟨_, _, e⟩
theorem OwnN.below {B : Nat} {w w' : World} {v : Value} {l : List Nat} (h : OwnN B w v l) (hb : Below w.heap.size w w') : OwnN B w' v l := by
  refine ⟨h.1, ?_⟩
  rcases h.2 with e | ⟨g, cp, cur, e, h1, h2, h3⟩
  · exact .inl e
  · exact .inr ⟨g, cp, cur, e, h1, (hb.block g (Array.getElem?_eq_some_iff.1 h2).1).trans h2, h3⟩

/-- All blocks but those of bytes are as they were. -/
def NoB (w w' : World) : Prop := ∀ (k : Nat) (o : Obj), w.heap[k]? = some o → (∀ C, o ≠ .cells C 5 (0, 0)) → w'.heap[k]? = some o
theorem NoB.refl (w : World) : NoB w w := fun _ _ h _ => h
theorem NoB.trans {a b c : World} (h : NoB a b) (k : NoB b c) : NoB a c := fun i o ho hn => k i o (h i o ho hn) hn
theorem NoB.below {a b : World} (h : Below a.heap.size a b) : NoB a b := fun i _ ho _ => (h.block i (Array.getElem?_eq_some_iff.1 ho).1).trans ho
theorem NoB.grown {a b : World} {B n : Nat} {v : Value} {xs : List Value} (h : a.ownsRow B 5 1 v n xs) (hg : a.grownBy b v.ownBlock) : NoB a b := fun i o ho hn => by
  refine (hg.block i (Array.getElem?_eq_some_iff.1 ho).1 (fun e => ?_)).trans ho
  rcases h.2 with ⟨rfl, _⟩ | ⟨g, cp, cur, rfl, _, hgg, _⟩
  · cases e
  · cases e
    rw [hgg] at ho
    cases ho
    exact hn cur rfl
theorem NoB.alloc {a b : World} (h : NoB a b) (o : Obj) : NoB a (b.alloc o) := h.trans (NoB.below ((Below.refl _ _).alloc (Nat.le_refl _) _))
/-- What a function hands back that goes on writing bytes of its own: old memory is as it was below B, and all but bytes anywhere. -/
def OwnPostN (B : Nat) (l : List Nat) (w : World) (e : Ending) (w' : World) : Prop := ∃ v, e = .returned v ∧ Own B w' v l ∧ Below B w w' ∧ NoB w w'

theorem full_any (b : Nat) (w : World) (h : b ≤ 8) : Calls Tryd.prog 38 #[.int .i64 b] w fun e w' => e = .returned (.int .i64 (P.full b : Nat)) ∧ w = w' := by
  go_enter Tryd.func38, Tryd.ntmps38
  go_wp2
  go_ret
  refine ⟨?_, rfl⟩
  refine congrArg (fun n => Ending.returned (Value.int IntKind.i64 n)) ?_
  unfold P.full
  have h1 : 2 ^ b ≤ 2 ^ 8 := Nat.pow_le_pow_right (by omega) h
  have h2 : 0 < 2 ^ b := Nat.two_pow_pos b
  have e : (2 : Nat) ^ 8 = 256 := by decide
  have e2 : (2 : Int) ^ b = ((2 ^ b : Nat) : Int) := by push_cast; rfl
  rw [e2]
  generalize 2 ^ b = k at *
  unfold wrap64
  omega

theorem isPrefix_any (b : Int) (w : World) : Calls Tryd.prog 37 #[.int .i64 b] w fun e w' => e = .returned (.bool (decide (1 ≤ b ∧ b ≤ 8))) ∧ w = w' := by
  by_cases h : 1 ≤ b
  · go_enter Tryd.func37, Tryd.ntmps37
    go_wp2
    go_ret
    exact ⟨by simp [h], rfl⟩
  · have h1 : b < 1 := by omega
    go_enter Tryd.func37, Tryd.ntmps37
    go_wp2
    go_ret
    exact ⟨by simp; omega, rfl⟩

set_option maxRecDepth 100000 in
theorem kfresh_any {B2 : Nat} (a : Option Addr) (len cap : Nat) (l : List Nat) (room : Nat) (w : World) (hl : l.length = len) (hr : Rd B2 w a l) (hsz : len + room ≤ 140737488355328) :
    Calls Tryd.prog 39 #[.slice a len cap, .int .i64 room] w (OwnPost w.heap.size l w) := by
  obtain ⟨i0, hi, hz0, hz1, hz2⟩ := info_parts info5
  have Hr := Lib.hid hr
  have Hl := Lib.hid hl
  clear hr hl
  have hC : ((len : Int) + (room : Int)) = ((len + room : Nat) : Int) := (Int.natCast_add len room).symm
  have hb2 : i0.bytes * (len + room) ≤ 281474976710656 := by rw [hz2]; omega
  have HC := Lib.hid hC
  have HB2 := Lib.hid hb2
  clear hC hb2
  go_enter Tryd.func39, Tryd.ntmps39
  go_wp2_with (first | (at_make; refine wpList_make_own _ rfl _ _ 22 rfl w.heap.size 5 i0 (.int .u8 0) 1 Tryd.underlying22 hi hz0 hz1 .i64 .i64 _ (len + room) rfl rfl HC.out HB2.out ?_ (Nat.le_refl _) ?_; unfold maxLen; omega; intro w1 hown hgrow; have HR1 := Lib.hid (Hr.out.below (Below.grown (Below.refl w.heap.size w) hgrow (Nat.le_refl _) (fun k e => by cases e))); have hs1 := hgrow.size) | (at_builtin; refine wpList_app _ rfl _ _ 22 rfl w.heap.size B2 5 i0 (.int .u8 0) Tryd.underlying22 hi hz0 hz1 hz2 rfl _ 0 [] rfl hown (by intro e; cases e) a len cap l rfl Hl.out HR1.out ?_ hs1 ?_; omega; intro g cp w2 hown2 hgrow2))
  go_ret
  have hl := Hl.out
  subst hl
  rw [Nat.zero_add, List.nil_append] at hown2
  refine ⟨_, rfl, ⟨hown2, g, cp, rfl⟩, ?_⟩
  exact (Below.grown (Below.refl w.heap.size w) hgrow (Nat.le_refl _) (fun k e => by cases e)).grown hgrow2 hs1 (fun k e => by cases e; exact Nat.le_refl _)

theorem or_i64 {first b n : Nat} (hf : first % 2 ^ b = 0) (h1 : first < 256) (h2 : n < 2 ^ b) (h3 : n < 256) : bits .or .i64 (first : Int) (n : Int) = ((first + n : Nat) : Int) := by
  have := bits_join .i64 63 (by decide) (fun n h0 h1 => by rw [IntKind.wrap_i64]; omega) b (first : Int) (n : Int) (by omega) (by exact_mod_cast hf) (by omega) (by omega) (by exact_mod_cast h2) (by omega)
  rw [this]
  omega
theorem or128_i64 (u : Nat) : bits .or .i64 ((u : Int) % 128) 128 = (u : Int) % 128 + 128 := by
  have h := bits_join .i64 63 (by decide) (fun n h0 h1 => by rw [IntKind.wrap_i64]; omega) 7 128 ((u : Int) % 128) (by omega) (by decide) (by decide) (by omega) (by omega) (by omega)
  have hc : bits .or .i64 ((u : Int) % 128) 128 = bits .or .i64 128 ((u : Int) % 128) := by simp only [bits, BitVec.or_comm]
  rw [hc, h]
  omega

set_option maxRecDepth 100000 in
set_option maxHeartbeats 1000000 in
theorem appendInt_any (B : Nat) (a : Option Addr) (cp : Nat) (l : List Nat) (first b n : Nat) (w : World) (hv : OwnN B w (.slice a l.length cp) l) (hb1 : 1 ≤ b) (hb : b ≤ 8) (hf : first % 2 ^ b = 0) (hf2 : first + P.full b < 256) (hn : n ≤ 2147483647) (hsz : l.length ≤ 100000000000) (hB : B ≤ w.heap.size) :
    Calls Tryd.prog 40 #[.slice a l.length cp, .int .i64 first, .int .i64 b, .int .i64 n] w (OwnPostN B (l ++ P.put first b n) w) := by
  obtain ⟨i0, hi, hz0, hz1, hz2⟩ := info_parts info5
  have Hz2 := Lib.hid hz2
  clear hz2
  have HO := Lib.hid hv
  clear hv
  have hfp := P.full_pos hb1
  have hp2 := Nat.two_pow_pos b
  have HP : Hid (P.put first b n = if n < P.full b then [first + n] else (first + P.full b) :: W.vbs (n - P.full b)) := rfl
  have HF : Hid (∀ w, Calls Tryd.prog 38 #[.int .i64 b] w fun e w' => e = .returned (.int .i64 (P.full b : Nat)) ∧ w = w') := fun w => full_any b w hb
  have hFl : P.full b < 2 ^ b := by unfold P.full; omega
  obtain ⟨F, hF⟩ : ∃ F, F = P.full b := ⟨_, rfl⟩
  rw [← hF] at HP HF hf2 hfp hFl
  clear hF
  by_cases h : n < F
  · have eo := or_i64 (b := b) hf (by omega) (show n < 2 ^ b by omega) (by omega)
    have HX : Hid (P.put first b n = [first + n]) := by show _ = _; rw [HP.out, if_pos h]
    obtain ⟨c, hc⟩ : ∃ c, c = first + n := ⟨_, rfl⟩
    rw [← hc] at eo HX
    have hc2 : c < 256 := by omega
    have hone := Rd.one w c 5 hc2
    have HOne := Lib.hid hone
    clear hone hc hf hFl hp2
    go_enter Tryd.func40, Tryd.ntmps40
    go_wp2_with (first | (go_at_call 38; refine (HF.out _).mono ?_; rintro e w1 ⟨rfl, rfl⟩) | (at_builtin; refine wpList_app1 _ rfl _ _ 22 rfl B _ 5 i0 (.int .u8 0) Tryd.underlying22 hi hz0 hz1 Hz2.out rfl _ l.length (vals l) rfl (World.ownsRow.alloc HO.out _) _ 1 1 [c] rfl rfl (by decide) HOne.out ?_ ?_ ?_; omega; (simp; omega); intro g2 cp2 w2 hown2 hgrow2))
    go_ret
    refine ⟨_, rfl, ?_, ?_, ((NoB.refl w).alloc _).trans (NoB.grown (World.ownsRow.alloc HO.out _) hgrow2)⟩
    · rw [HX.out]
      refine ⟨?_, g2, cp2, ?_⟩
      · rw [vals_append, List.length_append]; exact hown2
      · rw [List.length_append]; rfl
    · exact ((Below.refl B w).alloc hB _).grown hgrow2 (by simp; omega) (fun k e => by
        rcases HO.out.2 with ⟨e1, _⟩ | ⟨g, cp', cur, e1, h1, _⟩
        · rw [e1] at e; cases e
        · rw [e1] at e; cases e; exact h1)
  · have eo := or_i64 (b := b) (n := F) hf (by omega) hFl (by omega)
    have HX : Hid (P.put first b n = (first + F) :: W.vbs (n - F)) := by show _ = _; rw [HP.out, if_neg h]
    obtain ⟨c, hc⟩ : ∃ c, c = first + F := ⟨_, rfl⟩
    rw [← hc] at eo HX
    have hc2 : c < 256 := by omega
    have hone := Rd.one w c 5 hc2
    have HOne := Lib.hid hone
    clear hone hc hf hFl hp2
    go_enter Tryd.func40, Tryd.ntmps40
    go_wp2_with (first | (go_at_call 38; refine (HF.out _).mono ?_; rintro e w1 ⟨rfl, rfl⟩) | (at_builtin; refine wpList_app1 _ rfl _ _ 22 rfl B _ 5 i0 (.int .u8 0) Tryd.underlying22 hi hz0 hz1 Hz2.out rfl _ l.length (vals l) rfl (World.ownsRow.alloc HO.out _) _ 1 1 [c] rfl rfl (by decide) HOne.out ?_ ?_ ?_; omega; (simp; omega); intro g0 cp0 w0 hown0 hgrow0))
    have hb0 : Below B w w0 := ((Below.refl B w).alloc hB _).grown hgrow0 (by simp; omega) (fun k e => by
        rcases HO.out.2 with ⟨e1, _⟩ | ⟨g, cp', cur, e1, h1, _⟩
        · rw [e1] at e; cases e
        · rw [e1] at e; cases e; exact h1)
    have HB0 := Lib.hid hb0
    have HN0 : Hid (NoB w w0) := ((NoB.refl w).alloc _).trans (NoB.grown (World.ownsRow.alloc HO.out _) hgrow0)
    have hs0 := hb0.size
    clear hb0 hgrow0
    go_loopw [0, 3] (fun x y wr => ∃ (g cp u' f : Nat) (l' : List Nat), x = .slice (some ⟨g, 0, none⟩) l'.length cp ∧ y = .int .i64 u' ∧ Hid (u' < 128 ^ (f + 1)) ∧ u' ≤ 2147483647 ∧ f ≤ 9 ∧ l'.length + f = l.length + 10 ∧ Hid (l' ++ W.vb f u' = l ++ (c :: W.vbs (n - F))) ∧
      Hid (wr.ownsRow B 5 1 (.slice (some ⟨g, 0, none⟩) l'.length cp) l'.length (vals l')) ∧ Hid (Below B w wr) ∧ Hid (NoB w wr) ∧ w.heap.size ≤ wr.heap.size) (fun x _ _ => (match x with | .slice _ n _ => l.length + 11 - n | _ => 0))
    case atStart =>
      refine ⟨g0, cp0, n - F, 9, l ++ [c], ?_, ?_, ?_, by omega, by omega, by simp, ?_, ?_, HB0, HN0, hs0⟩
      · rw [List.length_append]; rfl
      · congr 1; omega
      · exact Nat.lt_of_le_of_lt (show n - F ≤ 2147483647 by omega) (by decide)
      · show _ = _
        rw [List.append_assoc]; rfl
      · show World.ownsRow _ _ _ _ _ _ _
        rw [vals_append, List.length_append]; exact hown0
    case round =>
      obtain ⟨g, cp, u', f, l', rfl, rfl, Hf, Hu, hf9, hlf, HL, HOW, HB, HN, hsz2⟩ := hrel
      have ea := i64_and127 u'
      have eo := or128_i64 u'
      by_cases hlt : u' < 128
      · have hone := Rd.one wr u' 5 (by omega)
        have HS : Hid (W.vb f u' = [u']) := by
          show W.vb f u' = _
          cases f <;> simp [W.vb, hlt]
        go_wp2_with (at_builtin; refine wpList_app _ rfl _ _ 22 rfl B _ 5 i0 (.int .u8 0) Tryd.underlying22 hi hz0 hz1 Hz2.out rfl _ l'.length (vals l') rfl (HOW.out.alloc _) (by intro e; cases e) _ 1 1 [u'] rfl rfl hone ?_ ?_ ?_; omega; (simp; omega); intro g2 cp2 w2 hown2 hgrow2)
        go_ret
        refine ⟨_, rfl, ?_, ?_, (HN.out.alloc _).trans (NoB.grown (HOW.out.alloc _) hgrow2)⟩
        · have h := HL.out
          rw [HS.out] at h
          rw [HX.out, ← h]
          refine ⟨?_, g2, cp2, ?_⟩
          · rw [vals_append, List.length_append]; exact hown2
          · rw [List.length_append]; rfl
        · exact (HB.out.alloc (by omega) _).grown hgrow2 (by simp; omega) (fun k e => by cases e; exact (HOW.out.lt g rfl).1)
      · have hone := Rd.one wr (u' % 128 + 128) 5 (by omega)
        rw [show ((u' % 128 + 128 : Nat) : Int) = (u' : Int) % 128 + 128 from by omega] at hone
        have hf1 : 1 ≤ f := by
          rcases Nat.eq_zero_or_pos f with h0 | h0
          · subst h0; have := Hf.out; simp at this; omega
          · exact h0
        obtain ⟨f, rfl⟩ : ∃ m, f = m + 1 := ⟨f - 1, by omega⟩
        have HS : Hid (W.vb (f + 1) u' = (u' % 128 + 128) :: W.vb f (u' / 128)) := by
          show W.vb (f + 1) u' = _
          simp [W.vb, hlt]
        go_wp2_with (at_builtin; refine wpList_app _ rfl _ _ 22 rfl B _ 5 i0 (.int .u8 0) Tryd.underlying22 hi hz0 hz1 Hz2.out rfl _ l'.length (vals l') rfl (HOW.out.alloc _) (by intro e; cases e) _ 1 1 [u' % 128 + 128] rfl rfl hone ?_ ?_ ?_; omega; (simp; omega); intro g2 cp2 w2 hown2 hgrow2)
        go_roundw
        case rel =>
          refine ⟨g2, cp2, u' / 128, f, l' ++ [u' % 128 + 128], ?_, ?_, ?_, by omega, by omega, ?_, ?_, ?_, ?_, (HN.out.alloc _).trans (NoB.grown (HOW.out.alloc _) hgrow2), ?_⟩
          · rw [List.length_append]; rfl
          · first | rfl | (congr 1)
          · have h := Hf.out
            rw [Nat.pow_succ] at h
            exact Nat.div_lt_of_lt_mul (by rw [Nat.mul_comm]; exact h)
          · simp; omega
          · show _ = _
            rw [← HL.out, HS.out]; simp
          · show World.ownsRow _ _ _ _ _ _ _
            rw [vals_append, List.length_append]; exact hown2
          · exact (HB.out.alloc (by omega) _).grown hgrow2 (by simp; omega) (fun k e => by cases e; exact (HOW.out.lt g rfl).1)
          · have := hgrow2.size; simp at this; omega
        case measure => simp; omega
end Go.Proofs.YtcbljbdcnahfhaaDoor
/- Kput -/
namespace Go.Proofs.YtcbljbdcnahfhaaDoor
open Go.RowKit

/-- What PutInt's test comes to. -/
theorem may_no1 {f b n : Int} (h : ¬ (1 ≤ b ∧ b ≤ 8)) : ¬ P.may f b n := fun x => h ⟨x.1, x.2.1⟩

theorem and_full {b f : Nat} (hb : b ≤ 8) (hf : f < 256) : bits .and .i64 (f : Int) (P.full b : Nat) = ((f % 2 ^ b : Nat) : Int) := by
  have h2 : 0 < 2 ^ b := Nat.two_pow_pos b
  have := bits_mask .i64 63 (by decide) (fun n h0 h1 => by rw [IntKind.wrap_i64]; omega) b (by omega) (f : Int) (by omega) (by omega)
  have e : ((P.full b : Nat) : Int) = 2 ^ b - 1 := by
    unfold P.full
    have e2 : (2 : Int) ^ b = ((2 ^ b : Nat) : Int) := by push_cast; rfl
    rw [e2]
    omega
  rw [e, this]
  push_cast
  rfl

set_option maxRecDepth 100000 in
set_option maxHeartbeats 1000000 in
theorem PutInt_any {B2 : Nat} (a : Option Addr) (len cap : Nat) (l : List Nat) (f b n : Int) (w : World) (hl : l.length = len) (hr : Rd B2 w a l) (hsz : len ≤ 100000000000) :
    Calls Tryd.prog 12 #[.slice a len cap, .int .i64 f, .int .i64 b, .int .i64 n] w (OwnPost w.heap.size (l ++ P.putI f b n) w) := by
  have HP : Hid (∀ w, Calls Tryd.prog 37 #[.int .i64 b] w fun e w' => e = .returned (.bool (decide (1 ≤ b ∧ b ≤ 8))) ∧ w = w') := fun w => isPrefix_any b w
  have HFr : Hid (∀ room : Nat, room ≤ 100 → Calls Tryd.prog 39 #[.slice a len cap, .int .i64 room] w (OwnPost w.heap.size l w)) := fun room hroom => kfresh_any a len cap l room w hl hr (by omega)
  have Hl := Lib.hid hl
  clear hl hr
  by_cases hm : P.may f b n
  · have hput : P.putI f b n = P.put f.toNat b.toNat n.toNat := by unfold P.putI; rw [if_pos hm]
    rw [hput]
    obtain ⟨m1, m2, m3, m4, m5, m6, m7⟩ := hm
    obtain ⟨f, rfl⟩ : ∃ k : Nat, f = (k : Int) := ⟨f.toNat, by omega⟩
    obtain ⟨b, rfl⟩ : ∃ k : Nat, b = (k : Int) := ⟨b.toNat, by omega⟩
    obtain ⟨n, rfl⟩ : ∃ k : Nat, n = (k : Int) := ⟨n.toNat, by omega⟩
    simp only [Int.toNat_natCast] at m7 ⊢
    have hf7 : f % 2 ^ b = 0 := by exact_mod_cast m7
    have ea := and_full (b := b) (f := f) (by omega) (by omega)
    rw [hf7] at ea
    have hff : f + P.full b < 256 := by
      have hp : 2 ^ b * 2 ^ (8 - b) = 256 := by rw [← Nat.pow_add, show b + (8 - b) = 8 by omega]
      have h1 : f = 2 ^ b * (f / 2 ^ b) := by have := Nat.div_add_mod f (2 ^ b); omega
      have h2 : f / 2 ^ b < 2 ^ (8 - b) := Nat.div_lt_of_lt_mul (by rw [hp]; omega)
      have h3 : 2 ^ b * (f / 2 ^ b + 1) ≤ 2 ^ b * 2 ^ (8 - b) := Nat.mul_le_mul_left _ h2
      rw [Nat.mul_add] at h3
      have := Nat.two_pow_pos b
      unfold P.full
      omega
    have HF : Hid (∀ w, Calls Tryd.prog 38 #[.int .i64 b] w fun e w' => e = .returned (.int .i64 (P.full b : Nat)) ∧ w = w') := fun w => full_any b w (by omega)
    have HA : Hid (∀ (g cp : Nat) (ww : World), OwnN w.heap.size ww (.slice (some ⟨g, 0, none⟩) l.length cp) l → w.heap.size ≤ ww.heap.size → Calls Tryd.prog 40 #[.slice (some ⟨g, 0, none⟩) l.length cp, .int .i64 f, .int .i64 b, .int .i64 n] ww (OwnPostN w.heap.size (l ++ P.put f b n) ww)) := fun g cp ww h1 h2 => appendInt_any w.heap.size _ cp l f b n ww h1 (by omega) (by omega) hf7 hff (by omega) (by rw [Hl.out]; exact hsz) h2
    rw [decide_eq_true (by omega)] at HP
    clear m7 hf7 hff hput
    generalize P.full b = F at *
    generalize P.put f b n = bs at *
    go_enter Tryd.func12, Tryd.ntmps12
    go_wp2_with (first | (go_at_call 37; refine (HP.out _).mono ?_; rintro e w1 ⟨rfl, rfl⟩) | (go_at_call 38; refine (HF.out _).mono ?_; rintro e w1 ⟨rfl, rfl⟩))
    refine (HFr.out 6 (by omega)).mono ?_
    rintro e w2 ⟨v2, rfl, hv2, hb2⟩
    obtain ⟨g2, cp2, rfl⟩ := hv2.2
    have HV2 := Lib.hid hv2.1
    have HB2 := Lib.hid hb2
    have hs2 := hb2.size
    clear hv2 hb2
    go_wp2_with fail
    refine (HA.out g2 cp2 _ HV2.out hs2).mono ?_
    rintro e w3 ⟨v3, rfl, hv3, hb3, _⟩
    have HV3 := Lib.hid hv3
    have HB3 := Lib.hid (HB2.out.trans hb3)
    clear hv3 hb3
    go_wp2
    go_ret
    exact ⟨_, rfl, HV3.out, HB3.out⟩
  · have hput : P.putI f b n = [] := by unfold P.putI; rw [if_neg hm]
    rw [hput, List.append_nil]
    clear hput
    have HFr0 := Lib.hid (HFr.out 0 (by omega))
    clear HFr
    have fin : ∀ (e : Ending) (w' : World), OwnPost w.heap.size l w e w' → OwnPost w.heap.size l w e w' := fun _ _ h => h
    by_cases hbb : 1 ≤ b ∧ b ≤ 8
    · rw [decide_eq_true hbb] at HP
      by_cases hn0 : n < 0
      · go_enter Tryd.func12, Tryd.ntmps12
        go_wp2_with (go_at_call 37; refine (HP.out _).mono ?_; rintro e w1 ⟨rfl, rfl⟩)
        refine HFr0.out.mono ?_
        rintro e w2 ⟨v2, rfl, hv2, hb2⟩
        go_wp2
        go_ret
        exact ⟨_, rfl, hv2, hb2⟩
      by_cases hn1 : 2147483647 < n
      · go_enter Tryd.func12, Tryd.ntmps12
        go_wp2_with (go_at_call 37; refine (HP.out _).mono ?_; rintro e w1 ⟨rfl, rfl⟩)
        refine HFr0.out.mono ?_
        rintro e w2 ⟨v2, rfl, hv2, hb2⟩
        go_wp2
        go_ret
        exact ⟨_, rfl, hv2, hb2⟩
      by_cases hf0 : f < 0
      · go_enter Tryd.func12, Tryd.ntmps12
        go_wp2_with (go_at_call 37; refine (HP.out _).mono ?_; rintro e w1 ⟨rfl, rfl⟩)
        refine HFr0.out.mono ?_
        rintro e w2 ⟨v2, rfl, hv2, hb2⟩
        go_wp2
        go_ret
        exact ⟨_, rfl, hv2, hb2⟩
      by_cases hf1 : 255 < f
      · go_enter Tryd.func12, Tryd.ntmps12
        go_wp2_with (go_at_call 37; refine (HP.out _).mono ?_; rintro e w1 ⟨rfl, rfl⟩)
        refine HFr0.out.mono ?_
        rintro e w2 ⟨v2, rfl, hv2, hb2⟩
        go_wp2
        go_ret
        exact ⟨_, rfl, hv2, hb2⟩
      obtain ⟨f, rfl⟩ : ∃ k : Nat, f = (k : Int) := ⟨f.toNat, by omega⟩
      obtain ⟨b, rfl⟩ : ∃ k : Nat, b = (k : Int) := ⟨b.toNat, by omega⟩
      have ea := and_full (b := b) (f := f) (by omega) (by omega)
      have HF : Hid (∀ w, Calls Tryd.prog 38 #[.int .i64 b] w fun e w' => e = .returned (.int .i64 (P.full b : Nat)) ∧ w = w') := fun w => full_any b w (by omega)
      have hr0 : f % 2 ^ b ≠ 0 := fun e => hm ⟨by omega, by omega, by omega, by omega, by omega, by omega, by rw [Int.toNat_natCast]; exact_mod_cast e⟩
      clear hm
      generalize f % 2 ^ b = r at *
      generalize P.full b = F at *
      have hne : ((r : Int) != 0) = true := by simp; omega
      go_enter Tryd.func12, Tryd.ntmps12
      go_wp2_with (first | (go_at_call 37; refine (HP.out _).mono ?_; rintro e w1 ⟨rfl, rfl⟩) | (go_at_call 38; refine (HF.out _).mono ?_; rintro e w1 ⟨rfl, rfl⟩))
      refine HFr0.out.mono ?_
      rintro e w2 ⟨v2, rfl, hv2, hb2⟩
      go_wp2
      go_ret
      exact ⟨_, rfl, hv2, hb2⟩
    · rw [decide_eq_false hbb] at HP
      clear hm
      go_enter Tryd.func12, Tryd.ntmps12
      go_wp2_with (go_at_call 37; refine (HP.out _).mono ?_; rintro e w1 ⟨rfl, rfl⟩)
      refine HFr0.out.mono ?_
      rintro e w2 ⟨v2, rfl, hv2, hb2⟩
      go_wp2
      go_ret
      exact ⟨_, rfl, hv2, hb2⟩

theorem strCells_by (s : ByteArray) : Go.Lib.strCells s = vals (by_ s) := by
  unfold Go.Lib.strCells vals by_
  rw [List.map_map]
  rfl

set_option maxRecDepth 100000 in
set_option maxHeartbeats 1000000 in
theorem appendText_any (B : Nat) (a : Option Addr) (cp : Nat) (l : List Nat) (s : ByteArray) (w : World) (hv : OwnN B w (.slice a l.length cp) l) (hs : s.size ≤ 100000000) (hsz : l.length ≤ 100000000000) (hB : B ≤ w.heap.size) :
    Calls Tryd.prog 43 #[.slice a l.length cp, .string s] w (OwnPostN B (l ++ P.putT (by_ s)) w) := by
  obtain ⟨i0, hi, hz0, hz1, hz2⟩ := info_parts info5
  have Hz2 := Lib.hid hz2
  clear hz2
  have hszb := (H.eb_bounds (by_ s)).2
  rw [by_len] at hszb
  have hszd : H.sz (by_ s) ≤ 4 * s.size := by unfold H.sz; omega
  have hel : (H.enc (by_ s)).length = H.sz (by_ s) := H.enc_len _
  have HLt := Lib.hid (H.enc_lt (by_ s))
  have HO := Lib.hid hv
  clear hv hszb
  have HS : Hid (∀ w, Calls Tryd.prog 63 #[.string s] w fun e w' => e = .returned (.int .i64 (H.sz (by_ s))) ∧ w = w') := fun w => hsize_any s w (by omega)
  have HE : Hid (∀ w, Calls Tryd.prog 64 #[.string s] w (OwnPost w.heap.size (H.enc (by_ s)) w)) := fun w => encode_any s w (by omega)
  have HPT : Hid (P.putT (by_ s) = if H.sz (by_ s) < s.size then P.put 128 7 (H.sz (by_ s)) ++ H.enc (by_ s) else P.put 0 7 s.size ++ by_ s) := by
    show _ = _
    unfold P.putT
    rw [by_len]
  have HA1 : Hid (Calls Tryd.prog 40 #[.slice a l.length cp, .int .i64 128, .int .i64 7, .int .i64 (H.sz (by_ s))] w (OwnPostN B (l ++ P.put 128 7 (H.sz (by_ s))) w)) := appendInt_any B a cp l 128 7 _ w HO.out (by omega) (by omega) (by decide) (by decide) (by omega) hsz hB
  have HA2 : Hid (Calls Tryd.prog 40 #[.slice a l.length cp, .int .i64 0, .int .i64 7, .int .i64 s.size] w (OwnPostN B (l ++ P.put 0 7 s.size) w)) := appendInt_any B a cp l 0 7 _ w HO.out (by omega) (by omega) (by decide) (by decide) (by omega) hsz hB
  have hp1 := (P.put_len 128 7 (H.sz (by_ s))).2
  have hp2 := (P.put_len 0 7 s.size).2
  rw [← hel] at HS HPT HA1 hp1 hszd
  generalize H.enc (by_ s) = c at *
  generalize hq1 : P.put 128 7 c.length = q1 at *
  generalize hq2 : P.put 0 7 s.size = q2 at *
  clear hel hq1 hq2
  obtain ⟨L1, hL1⟩ : ∃ L1, L1 = l ++ q1 := ⟨_, rfl⟩
  have hl1 : L1.length ≤ l.length + 11 := by rw [hL1]; simp; omega
  obtain ⟨L2, hL2⟩ : ∃ L2, L2 = l ++ q2 := ⟨_, rfl⟩
  have hl2 : L2.length ≤ l.length + 11 := by rw [hL2]; simp; omega
  rw [← hL1] at HA1
  rw [← hL2] at HA2
  have HL1 := Lib.hid hL1
  have HL2 := Lib.hid hL2
  clear hL1 hL2
  by_cases h : c.length < s.size
  · rw [if_pos h] at HPT
    go_enter Tryd.func43, Tryd.ntmps43
    go_wp2_with (go_at_call 63; refine (HS.out _).mono ?_; rintro e w1 ⟨rfl, rfl⟩)
    refine HA1.out.mono ?_
    rintro e w2 ⟨v2, rfl, hv2, hb2, hn2⟩
    obtain ⟨g2, cp2, rfl⟩ := hv2.2
    have HV2 := Lib.hid hv2
    have HB2 := Lib.hid hb2
    have HN2 := Lib.hid hn2
    have hs2 := hb2.size
    clear hv2 hb2 hn2
    go_wp2_with fail
    refine (HE.out _).mono ?_
    rintro e w3 ⟨v3, rfl, hv3, hb3⟩
    obtain ⟨a3, cp3, e3, hle3, hr3⟩ := hv3.rd HLt.out
    obtain ⟨g3, _, rfl⟩ := hv3.2
    cases e3
    have HR3 := Lib.hid hr3
    have HB3 := Lib.hid hb3
    have hs3 := hb3.size
    have HV3 := Lib.hid (HV2.out.below hb3)
    have HN3 := Lib.hid (HN2.out.trans (NoB.below hb3))
    clear hv3 hb3 hr3
    go_wp2_with (at_builtin; refine wpList_app _ rfl _ _ 22 rfl B w3.heap.size 5 i0 (.int .u8 0) Tryd.underlying22 hi hz0 hz1 Hz2.out rfl _ L1.length (vals L1) rfl HV3.out.1 (by intro e; cases e) (some ⟨g3, 0, none⟩) c.length cp3 c rfl rfl HR3.out ?_ ?_ ?_; omega; omega; intro g4 cp4 w4 hown4 hgrow4)
    go_ret
    refine ⟨_, rfl, ?_, ?_, HN3.out.trans (NoB.grown HV3.out.1 hgrow4)⟩
    · rw [HPT.out, ← List.append_assoc, ← HL1.out]
      refine ⟨?_, g4, cp4, ?_⟩
      · rw [vals_append, List.length_append]; exact hown4
      · rw [List.length_append]; rfl
    · exact (HB2.out.trans (HB3.out.mono (by omega))).grown hgrow4 (by omega) (fun k e => by cases e; exact (HV3.out.1.lt g2 rfl).1)
  · rw [if_neg h] at HPT
    have hus : Tryd.prog.underlying 9 = some .string := Tryd.underlying9
    go_enter Tryd.func43, Tryd.ntmps43
    go_wp2_with (go_at_call 63; refine (HS.out _).mono ?_; rintro e w1 ⟨rfl, rfl⟩)
    refine HA2.out.mono ?_
    rintro e w2 ⟨v2, rfl, hv2, hb2, hn2⟩
    obtain ⟨g2, cp2, rfl⟩ := hv2.2
    have HV2 := Lib.hid hv2
    have HB2 := Lib.hid hb2
    have HN2 := Lib.hid hn2
    have hs2 := hb2.size
    clear hv2 hb2 hn2
    go_wp2_with (at_builtin; refine Go.Lib.wpList_append_own_string _ rfl _ _ 22 9 rfl B 5 i0 Tryd.underlying22 hus hi hz0 hz1 Hz2.out _ L2.length (vals L2) rfl HV2.out.1 s rfl ?_ ?_ ?_ ?_; (unfold maxLen; omega); omega; omega; intro v4 w4 hown4 hgrow4 hnn4)
    go_ret
    refine ⟨_, rfl, ?_, ?_, HN2.out.trans (NoB.grown HV2.out.1 hgrow4)⟩
    · rw [HPT.out, ← List.append_assoc, ← HL2.out]
      rw [strCells_by] at hown4
      refine ⟨?_, ?_⟩
      · rw [vals_append, List.length_append, by_len]; exact hown4
      · rcases hown4.2 with ⟨e1, _⟩ | ⟨g, cp', cur, e1, _⟩
        · exact absurd (hnn4.1 e1).1 (by intro h; cases h)
        · exact ⟨g, cp', by rw [List.length_append, by_len]; exact e1⟩
    · exact HB2.out.grown hgrow4 (by omega) (fun k e => by cases e; exact (HV2.out.1.lt g2 rfl).1)

set_option maxRecDepth 100000 in
theorem PutText_any {B2 : Nat} (a : Option Addr) (len cap : Nat) (l : List Nat) (s : ByteArray) (w : World) (hl : l.length = len) (hr : Rd B2 w a l) (hs : s.size ≤ 100000000) (hsz : len ≤ 100000000) :
    Calls Tryd.prog 18 #[.slice a len cap, .string s] w (OwnPost w.heap.size (l ++ P.putT (by_ s)) w) := by
  have HFr : Hid (Calls Tryd.prog 39 #[.slice a len cap, .int .i64 ((6 : Int) + s.size)] w (OwnPost w.heap.size l w)) := by
    have := kfresh_any a len cap l (6 + s.size) w hl hr (by omega)
    rw [Int.natCast_add] at this
    exact this
  have Hl := Lib.hid hl
  clear hl hr
  go_enter Tryd.func18, Tryd.ntmps18
  go_wp2_with fail
  refine HFr.out.mono ?_
  rintro e w2 ⟨v2, rfl, hv2, hb2⟩
  obtain ⟨g2, cp2, rfl⟩ := hv2.2
  have HV2 := Lib.hid hv2.1
  have HB2 := Lib.hid hb2
  have hs2 := hb2.size
  clear hv2 hb2
  go_wp2_with fail
  refine (appendText_any w.heap.size _ cp2 l s _ HV2.out hs (by rw [Hl.out]; omega) hs2).mono ?_
  rintro e w3 ⟨v3, rfl, hv3, hb3, _⟩
  go_wp2
  go_ret
  exact ⟨_, rfl, hv3, HB2.out.trans hb3⟩
end Go.Proofs.YtcbljbdcnahfhaaDoor
/- Kget -/
namespace Go.Proofs.YtcbljbdcnahfhaaDoor
open Go.RowKit

/-- One label, whose loop is walked once. -/
theorem wp_scope_loop {P : Program} {a : Act} {w : World} {Q : Exit → Act → World → Prop} {c M : Code} (l1 : Nat) (J1 : Act → World → Prop) (μ : Act → World → Nat)
    (hf1 : findLabel c l1 = some (Code.seq .skip M))
    (first : (∀ a w, J1 a w → M.wp P (jumps (fun l a w => l = l1 ∧ J1 a w) Q) a w) → c.wp P (jumps (fun l a w => l = l1 ∧ J1 a w) Q) a w)
    (round : ∀ a w, J1 a w → M.wp P (jumps (fun l a' w' => l = l1 ∧ J1 a' w' ∧ μ a' w' < μ a w) Q) a w) : (Code.scope c).wp P Q a w := by
  refine wp_scope_many (fun _ => Code.seq .skip M) (fun l => l = l1) (fun _ a w => J1 a w) μ (by rintro l rfl; exact hf1) (first fun a w h => jumps_weaken ?_ (round a w h)) ?_
  · rintro l a w ⟨h1, h2, _⟩
    exact ⟨h1, h2⟩
  · rintro l a w rfl h
    exact wp_seq (wp_skip (round a w h))

/-- What Int hands back. -/
def getV (E : Nat → Addr) (r : Nat × Nat × Option Nat) : Value := .tuple #[.int .i64 (r.1 : Nat), .int .i64 (r.2.1 : Nat), oV E r.2.2]

def IntJ (w : World) (bb o len cap b : Nat) (l : List Nat) (x : Act) (w' : World) : Prop :=
  ∃ (i X : Nat) (u : Nat → Value), x = { tmps := #[.slice (some ⟨bb, o, none⟩) len cap, .int .i64 (b : Nat), undef, undef, .int .i64 0, .int .i64 0, .nilIface, .int .u64 (X : Nat), .int .i64 (i : Nat), u 9, u 10, u 11, u 12, u 13, u 14, u 15, u 16, u 17, u 18, u 19, u 20, u 21, u 22, u 23, u 24, u 25, u 26, u 27, u 28, u 29, u 30, u 31, u 32, u 33, u 34, u 35, u 36, u 37, u 38, u 39, u 40, u 41, u 42, u 43, u 44, u 45, u 46, u 47, u 48, u 49, u 50, u 51, u 52, u 53, u 54, u 55, u 56, u 57, u 58, u 59, u 60, u 61, u 62, u 63, u 64, u 65], defers := [] } ∧
    1 ≤ i ∧ i ≤ 6 ∧ i ≤ len ∧ Hid (X < 2 ^ (7 * i + 1)) ∧ Hid (P.get b l = P.more (l.drop i) i X) ∧ ∃ q, w' = w.drewN q
theorem intJ_mk {w : World} {bb o len cap b : Nat} {l : List Nat} {x : Act} {w' : World} (i X : Nat) (hx : x = { tmps := #[.slice (some ⟨bb, o, none⟩) len cap, .int .i64 (b : Nat), undef, undef, .int .i64 0, .int .i64 0, .nilIface, .int .u64 (X : Nat), .int .i64 (i : Nat), x.tmps.getD 9 undef, x.tmps.getD 10 undef, x.tmps.getD 11 undef, x.tmps.getD 12 undef, x.tmps.getD 13 undef, x.tmps.getD 14 undef, x.tmps.getD 15 undef, x.tmps.getD 16 undef, x.tmps.getD 17 undef, x.tmps.getD 18 undef, x.tmps.getD 19 undef, x.tmps.getD 20 undef, x.tmps.getD 21 undef, x.tmps.getD 22 undef, x.tmps.getD 23 undef, x.tmps.getD 24 undef, x.tmps.getD 25 undef, x.tmps.getD 26 undef, x.tmps.getD 27 undef, x.tmps.getD 28 undef, x.tmps.getD 29 undef, x.tmps.getD 30 undef, x.tmps.getD 31 undef, x.tmps.getD 32 undef, x.tmps.getD 33 undef, x.tmps.getD 34 undef, x.tmps.getD 35 undef, x.tmps.getD 36 undef, x.tmps.getD 37 undef, x.tmps.getD 38 undef, x.tmps.getD 39 undef, x.tmps.getD 40 undef, x.tmps.getD 41 undef, x.tmps.getD 42 undef, x.tmps.getD 43 undef, x.tmps.getD 44 undef, x.tmps.getD 45 undef, x.tmps.getD 46 undef, x.tmps.getD 47 undef, x.tmps.getD 48 undef, x.tmps.getD 49 undef, x.tmps.getD 50 undef, x.tmps.getD 51 undef, x.tmps.getD 52 undef, x.tmps.getD 53 undef, x.tmps.getD 54 undef, x.tmps.getD 55 undef, x.tmps.getD 56 undef, x.tmps.getD 57 undef, x.tmps.getD 58 undef, x.tmps.getD 59 undef, x.tmps.getD 60 undef, x.tmps.getD 61 undef, x.tmps.getD 62 undef, x.tmps.getD 63 undef, x.tmps.getD 64 undef, x.tmps.getD 65 undef], defers := [] })
    (h : 1 ≤ i ∧ i ≤ 6 ∧ i ≤ len ∧ Hid (X < 2 ^ (7 * i + 1)) ∧ Hid (P.get b l = P.more (l.drop i) i X) ∧ ∃ q, w' = w.drewN q) : IntJ w bb o len cap b l x w' :=
  ⟨i, X, fun k => x.tmps.getD k undef, hx, h⟩

theorem and_full64 {b f : Nat} (hb : b ≤ 8) (hf : f < 256) : bits .and .u64 (f : Int) (P.full b : Nat) = ((f % 2 ^ b : Nat) : Int) := by
  have h2 : 0 < 2 ^ b := Nat.two_pow_pos b
  have := bits_mask .u64 64 (by decide) (fun n h0 h1 => by rw [IntKind.wrap_u64]; omega) b (by omega) (f : Int) (by omega) (by omega)
  have e : ((P.full b : Nat) : Int) = 2 ^ b - 1 := by
    unfold P.full
    have e2 : (2 : Int) ^ b = ((2 ^ b : Nat) : Int) := by push_cast; rfl
    rw [e2]
    omega
  rw [e, this]
  push_cast
  rfl

set_option maxRecDepth 100000 in
set_option maxHeartbeats 1000000 in
theorem Int_b {B : Nat} (b : Nat) (a : Option Addr) (len cap : Nat) (l : List Nat) (E : Nat → Addr) (w : World) (hb1 : 1 ≤ b) (hb : b ≤ 8) (hl : l.length = len) (hlen : len ≤ 140737488355328) (hr : Rd B w a l) (hE : ErrsAll w E kgs) :
    Calls Tryd.prog 15 #[.slice a len cap, .int .i64 (b : Nat)] w fun e w' => e = .returned (getV E (P.get b l)) ∧ ∃ q, w' = w.drewN q := by
  have h0 : w.cell? ⟨3, 0, none⟩ = some (eV E 3) := kgs_cell hE 0 (by decide)
  have h1 : w.cell? ⟨2, 0, none⟩ = some (eV E 2) := kgs_cell hE 1 (by decide)
  have HP : Hid (∀ w, Calls Tryd.prog 37 #[.int .i64 (b : Nat)] w fun e w' => e = .returned (.bool true) ∧ w = w') := fun w => by
    have := isPrefix_any b w
    rw [decide_eq_true (by omega)] at this
    exact this
  have HF : Hid (∀ w, Calls Tryd.prog 38 #[.int .i64 (b : Nat)] w fun e w' => e = .returned (.int .i64 (P.full b : Nat)) ∧ w = w') := fun w => full_any b w hb
  have Hr := Lib.hid hr
  have Hl := Lib.hid hl
  clear hr hE
  unfold eV at h0 h1
  cases l with
  | nil =>
    simp at hl
    subst hl
    go_enter Tryd.func15, Tryd.ntmps15
    go_wp2_with fail
    refine wp_scope_loop 0 (fun _ _ => False) (fun _ _ => 0) rfl ?first ?round
    case first =>
      intro _
      go_wp2_with (go_at_call 37; refine (HP.out _).mono ?_; rintro e w1 ⟨rfl, rfl⟩)
      go_quiet (fail)
      go_wp2
      simp only [jumps]
      go_ret3
      exact ⟨rfl, _, rfl⟩
    case round => exact fun _ _ h => h.elim
  | cons c r =>
    obtain ⟨bb, o, rfl, hbB, hcell⟩ := Hr.out.ptr (by simp)
    have hc0 := hcell 0 (by simp)
    have hcl : c < 256 := Hr.out.1 c (by simp)
    have HG : Hid (P.get b (c :: r) = if c % 2 ^ b < P.full b then (c % 2 ^ b, 1, none) else P.more r 1 (c % 2 ^ b)) := P.get_cons b c r
    have ea := and_full64 (b := b) (f := c) hb hcl
    have hn0 : c % 2 ^ b < 256 := Nat.lt_of_le_of_lt (Nat.mod_le _ _) hcl
    have hF8 := P.full_le hb
    rw [Nat.add_zero] at hc0
    simp only [List.getD_cons_zero] at hc0
    generalize c % 2 ^ b = n0 at *
    generalize P.full b = F at *
    have hlen1 : 1 ≤ len := by rw [← hl]; simp
    have q0 : 0 < len := by omega
    clear hl
    go_enter Tryd.func15, Tryd.ntmps15
    go_wp2_with fail
    refine wp_scope_loop 0 (IntJ w bb o len cap b (c :: r)) (fun x _ => 6 - (intOf (x.tmps.getD 8 undef)).toNat) rfl ?first ?round
    case first =>
      intro HH
      have HH := Lib.hid HH
      have ew : IntKind.u64.wrap (c : Int) = (c : Int) := by rw [IntKind.wrap_u64]; omega
      have eF : IntKind.u64.wrap (F : Int) = (F : Int) := by rw [IntKind.wrap_u64]; omega
      go_upto_region 5 with (go_at_call 37; refine (HP.out _).mono ?_; rintro e w1 ⟨rfl, rfl⟩)
      go_quiet ((go_at_call 38; refine Calls.quiet_of_same ((HF.out _).mono fun _ _ h => ⟨h.1, h.2.symm⟩)))
      by_cases hlt : n0 < F
      · rw [if_pos hlt] at HG
        go_wp2_with (go_at_call 38; refine (HF.out _).mono ?_; rintro e w1 ⟨rfl, rfl⟩)
        simp only [jumps]
        go_ret3
        refine ⟨?_, _, rfl⟩
        rw [HG.out]
        rfl
      · rw [if_neg hlt] at HG
        go_wp2_with (go_at_call 38; refine (HF.out _).mono ?_; rintro e w1 ⟨rfl, rfl⟩)
        refine wp_label ?_
        simp only [Exit.then]
        rename_i hK
        refine hK _ _ (HH.out _ _ ?_)
        exact intJ_mk 1 n0 rfl ⟨by omega, by omega, by omega, (show n0 < 2 ^ (7 * 1 + 1) by omega), HG.out, _, rfl⟩
    case round =>
      rintro x wr ⟨i, X, u, rfl, hi1, hi6, hil, HX, HP2, q, rfl⟩
      by_cases h6 : i = 6
      · subst h6
        have HM : Hid (P.get b (c :: r) = (0, 0, some 1)) := by
          show _ = _
          rw [HP2.out]
          cases (c :: r).drop 6 <;> simp [P.more]
        clear HP2 HX
        go_wp2
        go_quiet (fail)
        go_wp2
        simp only [jumps]
        go_ret3
        refine ⟨?_, _, rfl⟩
        rw [HM.out]
        rfl
      by_cases hend : i = len
      · subst hend
        have HM : Hid (P.get b (c :: r) = (0, 0, some 0)) := by
          show _ = _
          rw [HP2.out, List.drop_of_length_le (by rw [Hl.out]; exact Nat.le_refl _), P.more, if_neg h6]
        clear HP2 HX
        have hne : ((i : Int) == 6) = false := by simp; omega
        go_wp2
        go_quiet (fail)
        go_wp2
        simp only [jumps]
        go_ret3
        refine ⟨?_, _, rfl⟩
        rw [HM.out]
        rfl
      have hlt : i < (c :: r).length := by rw [Hl.out]; omega
      have hce := hcell i hlt
      have HD : Hid ((c :: r).drop i = (c :: r).getD i 0 :: (c :: r).drop (i + 1)) := by
        show _ = _
        rw [List.drop_eq_getElem_cons hlt, List.getD_eq_getElem?_getD, List.getElem?_eq_getElem hlt]
        rfl
      have hd256 := Hr.out.lt i
      generalize (c :: r).getD i 0 = d at *
      have hne : ((i : Int) == 6) = false := by simp; omega
      have hne2 : ((i : Int) == (len : Int)) = false := by simp; omega
      have q1 : (0 : Int) ≤ (i : Int) := by omega
      have q2 : (i : Int) < (len : Int) := by omega
      go_upto_region 14 with (fail)
      have hX := HX.out
      have hp : (2 : Nat) ^ (7 * (i - 1)) ≤ 2 ^ 28 := Nat.pow_le_pow_right (by omega) (by omega)
      have e28 : (2 : Nat) ^ 28 = 268435456 := by decide
      have hX2 : X < 1099511627776 := Nat.lt_of_lt_of_le hX (Nat.le_trans (Nat.pow_le_pow_right (by omega) (show 7 * i + 1 ≤ 36 by omega)) (by decide))
      have hpp : 2 ^ (7 * i) = 128 * 2 ^ (7 * (i - 1)) := by
        rw [show 7 * i = 7 * (i - 1) + 7 by omega, Nat.pow_add, Nat.mul_comm]
      have hXn : X + d % 128 * 2 ^ (7 * (i - 1)) < 2 ^ (7 * (i + 1) + 1) := by
        have h1 : d % 128 * 2 ^ (7 * (i - 1)) ≤ 128 * 2 ^ (7 * (i - 1)) := Nat.mul_le_mul_right _ (by omega)
        rw [show 7 * (i + 1) + 1 = (7 * i + 1) + 7 by omega, Nat.pow_add]
        rw [Nat.pow_succ] at hX ⊢
        omega
      have hval : IntKind.u64.wrap ((X : Int) + IntKind.u64.wrap (IntKind.u64.wrap (bits .and .u8 (d : Int) 127) * 2 ^ (7 * (i - 1)))) = ((X + d % 128 * 2 ^ (7 * (i - 1)) : Nat) : Int) := by
        have e1 : bits .and .u8 (d : Int) 127 = (d : Int) % 128 := bits_mask .u8 8 (by decide) wraps_u8 7 (by decide) d (by omega) (by omega)
        have e2 : (2 : Int) ^ (7 * (i - 1)) = ((2 ^ (7 * (i - 1)) : Nat) : Int) := by push_cast; rfl
        have e3 : (d : Int) % 128 = ((d % 128 : Nat) : Int) := by omega
        have h1 : d % 128 * 2 ^ (7 * (i - 1)) ≤ 127 * 268435456 := Nat.mul_le_mul (by omega) (by omega)
        rw [e1, e2, e3]
        have e4 : IntKind.u64.wrap ((d % 128 : Nat) : Int) = ((d % 128 : Nat) : Int) := by rw [IntKind.wrap_u64]; omega
        rw [e4, ← Int.natCast_mul]
        generalize d % 128 * 2 ^ (7 * (i - 1)) = z at *
        have e5 : IntKind.u64.wrap (z : Int) = (z : Int) := by rw [IntKind.wrap_u64]; omega
        rw [e5, ← Int.natCast_add, IntKind.wrap_u64]
        omega
      rw [hval]
      have HM : Hid (P.get b (c :: r) = if 128 ≤ d then P.more ((c :: r).drop (i + 1)) (i + 1) (X + d % 128 * 2 ^ (7 * (i - 1))) else if 2147483647 < X + d % 128 * 2 ^ (7 * (i - 1)) then (0, 0, some 1) else (X + d % 128 * 2 ^ (7 * (i - 1)), i + 1, none)) := by
        show _ = _
        rw [HP2.out, HD.out, P.more, if_neg h6]
      have hXb : X + d % 128 * 2 ^ (7 * (i - 1)) < 2 ^ 45 := Nat.lt_of_lt_of_le hXn (Nat.pow_le_pow_right (by omega) (by omega))
      have e45 : (2 : Nat) ^ 45 = 35184372088832 := by decide
      rw [e45] at hXb
      clear hval hpp hp e28 hX hX2 HP2 HD HX e45
      generalize X + d % 128 * 2 ^ (7 * (i - 1)) = X2 at *
      have HXn := Lib.hid hXn
      clear hXn
      by_cases hd : 128 ≤ d
      · rw [if_pos hd] at HM
        have q3 : (128 : Int) ≤ (d : Int) := by omega
        go_wp2
        refine wp_goto ?_
        simp only [Exit.then]
        refine ⟨rfl, intJ_mk (i + 1) X2 rfl ⟨by omega, by omega, by omega, HXn.out, HM.out, _, rfl⟩, ?_⟩
        simp [intOf]
        omega
      · rw [if_neg hd] at HM
        have q3 : ¬ (128 : Int) ≤ (d : Int) := by omega
        by_cases hbig : 2147483647 < X2
        · rw [if_pos hbig] at HM
          have q4 : (2147483647 : Int) < (X2 : Int) := by omega
          go_wp2
          go_quiet (fail)
          go_wp2
          simp only [jumps]
          go_ret3
          refine ⟨?_, _, rfl⟩
          rw [HM.out]
          rfl
        · rw [if_neg hbig] at HM
          have q4 : ¬ (2147483647 : Int) < (X2 : Int) := by omega
          go_wp2
          simp only [jumps]
          go_ret3
          refine ⟨?_, _, rfl⟩
          rw [HM.out]
          rfl

set_option maxRecDepth 100000 in
/-- Int, whatever is asked. -/
theorem Int_any {B : Nat} (b : Int) (a : Option Addr) (len cap : Nat) (l : List Nat) (E : Nat → Addr) (w : World) (hl : l.length = len) (hlen : len ≤ 140737488355328) (hr : Rd B w a l) (hE : ErrsAll w E kgs) :
    Calls Tryd.prog 15 #[.slice a len cap, .int .i64 b] w fun e w' => e = .returned (getV E (P.getI b l)) ∧ ∃ q, w' = w.drewN q := by
  by_cases h : 1 ≤ b ∧ b ≤ 8
  · obtain ⟨b, rfl⟩ : ∃ k : Nat, b = (k : Int) := ⟨b.toNat, by omega⟩
    unfold P.getI
    rw [if_pos h, Int.toNat_natCast]
    exact Int_b b a len cap l E w (by omega) (by omega) hl hlen hr hE
  · unfold P.getI
    rw [if_neg h]
    have h1 : w.cell? ⟨2, 0, none⟩ = some (eV E 2) := kgs_cell hE 1 (by decide)
    unfold eV at h1
    have HP : Hid (∀ w, Calls Tryd.prog 37 #[.int .i64 b] w fun e w' => e = .returned (.bool false) ∧ w = w') := fun w => by
      have := isPrefix_any b w
      rw [decide_eq_false h] at this
      exact this
    clear hr hE h
    go_enter Tryd.func15, Tryd.ntmps15
    go_wp2_with fail
    refine wp_scope_loop 0 (fun _ _ => False) (fun _ _ => 0) rfl ?first ?round
    case first =>
      intro _
      go_wp2_with (go_at_call 37; refine (HP.out _).mono ?_; rintro e w1 ⟨rfl, rfl⟩)
      go_quiet (fail)
      go_wp2
      simp only [jumps]
      go_ret3
      exact ⟨rfl, _, rfl⟩
    case round => exact fun _ _ h => h.elim
end Go.Proofs.YtcbljbdcnahfhaaDoor
/- Ktext -/
namespace Go.Proofs.YtcbljbdcnahfhaaDoor
open Go.RowKit

/-- What Text hands back. -/
def getTV (E : Nat → Addr) (r : List Nat × Nat × Option Nat) : Value := .tuple #[.string (strOf r.1), .int .i64 (r.2.1 : Nat), oV E r.2.2]

set_option maxRecDepth 100000 in
set_option maxHeartbeats 1000000 in
theorem Text_any {B : Nat} (a : Option Addr) (len cap : Nat) (l : List Nat) (E : Nat → Addr) (w : World) (hl : l.length = len) (hcap : len ≤ cap) (hlen : len ≤ 1000000000) (hr : Rd B w a l) (hE : ErrsAll w E kgs) :
    Calls Tryd.prog 20 #[.slice a len cap] w fun e w' => e = .returned (getTV E (P.getT l)) ∧ Below w.heap.size w w' := by
  have h0 : w.cell? ⟨3, 0, none⟩ = some (eV E 3) := kgs_cell hE 0 (by decide)
  have h1 : w.cell? ⟨2, 0, none⟩ = some (eV E 2) := kgs_cell hE 1 (by decide)
  have h6 : w.cell? ⟨4, 0, none⟩ = some (eV E 4) := kgs_cell hE 6 (by decide)
  unfold eV at h0 h1 h6
  have H6 := Lib.hid h6
  have HI := Lib.hid (Int_b 7 a len cap l E w (by omega) (by omega) hl (by omega) hr hE)
  have hes : strOf [] = ⟨#[]⟩ := rfl
  have Hes := Lib.hid hes
  clear h6 hes
  obtain ⟨n, k, e, hg⟩ : ∃ n k e, P.get 7 l = (n, k, e) := ⟨_, _, _, rfl⟩
  have hok := P.get_ok (b := 7) (l := l) (by omega)
  have herr := P.get_err (b := 7) (l := l)
  rw [hg] at hok herr HI
  simp only [getV] at HI
  cases e with
  | some i =>
    have HT : Hid (P.getT l = ([], 0, some i)) := by
      show _ = _
      unfold P.getT
      rw [hg]
    obtain ⟨e1, e2, e3⟩ := herr (by simp)
    simp only at e1 e2 e3
    subst e1
    subst e2
    clear hok herr hg hr hE
    unfold oV eV at HI
    go_enter Tryd.func20, Tryd.ntmps20
    go_wp2_with fail
    refine (show Calls _ _ #[_, .int .i64 7] _ _ from HI.out).mono ?_
    rintro e w1 ⟨rfl, q, rfl⟩
    go_wp2
    go_ret3
    refine ⟨?_, below_q (Below.refl _ _) _⟩
    rw [HT.out]
    unfold getTV
    rw [Hes.out]
    rfl
  | none =>
    obtain ⟨k1, k2, k3⟩ := hok rfl
    simp only at k1 k2 k3
    rw [hl] at k2
    unfold oV at HI
    have HT : Hid (P.getT l = if 16384 < n then ([], 0, some 1) else if len - k < n then ([], 0, some 0) else if l.headD 0 < 128 then ((l.drop k).take n, k + n, none) else match H.decB ((l.drop k).take n) with
      | none => ([], 0, some 6)
      | some t => (t, k + n, none)) := by
      show _ = _
      unfold P.getT
      rw [hg, hl]
      rfl
    have hrf := run_from a len cap k k2
    have hR : Hid (Rd B w (cutA a cap k) (l.drop k)) := hr.drop (by rw [hl]; exact hcap)
    generalize cutA a cap k = a2 at hrf hR
    clear herr hg
    by_cases hbig : 16384 < n
    · rw [if_pos hbig] at HT
      have q1 : (16384 : Int) < (n : Int) := by omega
      clear hr hE
      go_enter Tryd.func20, Tryd.ntmps20
      go_wp2_with fail
      refine (show Calls _ _ #[_, .int .i64 7] _ _ from HI.out).mono ?_
      rintro e w1 ⟨rfl, q, rfl⟩
      go_wp2
      go_quiet (fail)
      go_wp2
      go_ret3
      refine ⟨?_, below_q (below_q (Below.refl _ _) _) _⟩
      rw [HT.out]
      unfold getTV
      rw [Hes.out]
      rfl
    rw [if_neg hbig] at HT
    have q1 : ¬ (16384 : Int) < (n : Int) := by omega
    by_cases hend : len - k < n
    · rw [if_pos hend] at HT
      have q2 : ((len - k : Nat) : Int) < (n : Int) := by omega
      clear hr hE
      go_enter Tryd.func20, Tryd.ntmps20
      go_wp2_with fail
      refine (show Calls _ _ #[_, .int .i64 7] _ _ from HI.out).mono ?_
      rintro e w1 ⟨rfl, q, rfl⟩
      go_wp2
      go_quiet (fail)
      go_wp2
      go_ret3
      refine ⟨?_, below_q (below_q (Below.refl _ _) _) _⟩
      rw [HT.out]
      unfold getTV
      rw [Hes.out]
      rfl
    rw [if_neg hend] at HT
    have q2 : ¬ ((len - k : Nat) : Int) < (n : Int) := by omega
    have hne : l ≠ [] := by
      intro h
      rw [h] at hl
      simp at hl
      omega
    obtain ⟨bb, o, rfl, hbB, hcell⟩ := hr.ptr hne
    have hc0 := hcell 0 (List.length_pos_iff.2 hne)
    have hhd : l.headD 0 = l.getD 0 0 := by cases l <;> rfl
    rw [hhd] at HT
    have hc8 := hr.lt 0
    rw [Nat.add_zero] at hc0
    generalize l.getD 0 0 = c at *
    have q3 : 0 < len := by omega
    have hrt := run_to .i64 a2 (len - k) (cap - k) n (by omega)
    have hR3 : Hid (Rd B w (cutA a2 (cap - k) 0) ((l.drop k).take n)) := (hR.out.take n).cut0
    have hlt3 := Nat.le_trans (List.length_take_le n (l.drop k)) (Nat.le_refl n)
    have hl3 : ((l.drop k).take n).length = n := by rw [List.length_take, List.length_drop, hl]; omega
    generalize cutA a2 (cap - k) 0 = a3 at *
    generalize (l.drop k).take n = R3 at *
    have Hl3 := Lib.hid hl3
    clear hr hE hne hcell hhd hl3 hlt3 hl
    by_cases hc : c < 128
    · rw [if_pos hc] at HT
      have q4 : (c : Int) < 128 := by omega
      have hst : ∀ q, (convert 22 9 (.slice a3 n (cap - k))).run Tryd.prog (w.drewN q) = .ok (.string (strOf R3)) (w.drewN q) := fun q => by
        have := run_str a3 (cap - k) R3 (w.drewN q) (hR3.out.drewN q)
        rw [Hl3.out] at this
        exact this
      go_enter Tryd.func20, Tryd.ntmps20
      go_wp2_with fail
      refine (show Calls _ _ #[_, .int .i64 7] _ _ from HI.out).mono ?_
      rintro e w1 ⟨rfl, q, rfl⟩
      go_wp2
      go_ret3
      refine ⟨?_, below_q (Below.refl _ _) _⟩
      rw [HT.out]
      unfold getTV
      simp only [Int.natCast_add]
      rfl
    · rw [if_neg hc] at HT
      have q4 : ¬ (c : Int) < 128 := by omega
      have HD := Lib.hid (fun q => decode_any a3 n (cap - k) R3 (E 4) (w.drewN q) Hl3.out (by omega) (hR3.out.drewN q) H6.out)
      cases hdec : H.decB R3 with
      | none =>
        rw [hdec] at HT
        go_enter Tryd.func20, Tryd.ntmps20
        go_wp2_with fail
        refine (show Calls _ _ #[_, .int .i64 7] _ _ from HI.out).mono ?_
        rintro e w1 ⟨rfl, q, rfl⟩
        go_wp2_with fail
        refine (HD.out q).mono ?_
        rintro e w2 ⟨hb2, rfl⟩
        rw [hdec]
        have HB2 := Lib.hid ((below_q (Below.refl w.heap.size w) q).trans hb2)
        clear hb2
        go_wp2
        go_ret3
        refine ⟨?_, HB2.out⟩
        rw [HT.out]
        unfold getTV
        rw [Hes.out]
        rfl
      | some t =>
        rw [hdec] at HT
        go_enter Tryd.func20, Tryd.ntmps20
        go_wp2_with fail
        refine (show Calls _ _ #[_, .int .i64 7] _ _ from HI.out).mono ?_
        rintro e w1 ⟨rfl, q, rfl⟩
        go_wp2_with fail
        refine (HD.out q).mono ?_
        rintro e w2 ⟨hb2, rfl⟩
        rw [hdec]
        have HB2 := Lib.hid ((below_q (Below.refl w.heap.size w) q).trans hb2)
        clear hb2
        go_wp2
        go_ret3
        refine ⟨?_, HB2.out⟩
        rw [HT.out]
        unfold getTV
        simp only [Int.natCast_add]
        rfl
end Go.Proofs.YtcbljbdcnahfhaaDoor
