/-
The walks of hpack's full, isPrefix, fresh, appendInt, PutInt.
-/
import Derived.Test.YthdgcakbeiocgaaDoorGsame
import Derived.Test.YthdgcakbeiocgaaDoorKmath
namespace Go.Proofs.YthdgcakbeiocgaaDoor
open Go.RowKit

/-- A slice of the call's own that holds the bytes l, or nil. -/
def OwnN (B : Nat) (w : World) (v : Value) (l : List Nat) : Prop := w.ownsRow B 5 1 v l.length (vals l)
theorem ownN_nil (B : Nat) (w : World) : OwnN B w (.slice none 0 0) [] := ⟨by simp [vals], .inl ⟨rfl, rfl⟩⟩
theorem OwnN.shape {B : Nat} {w : World} {v : Value} {l : List Nat} (h : OwnN B w v l) : ∃ a cp, v = .slice a l.length cp := by
  rcases h.2 with ⟨e, h0⟩ | ⟨g, cp, _, e, _⟩
  · exact ⟨none, 0, by rw [e, h0]⟩
  · exact ⟨_, _, e⟩
theorem OwnN.below {B : Nat} {w w' : World} {v : Value} {l : List Nat} (h : OwnN B w v l) (hb : Below w.heap.size w w') : OwnN B w' v l := by
  refine ⟨h.1, ?_⟩
  rcases h.2 with e | ⟨g, cp, cur, e, h1, h2, h3⟩
  · exact .inl e
  · exact .inr ⟨g, cp, cur, e, h1, (hb.block g (Array.getElem?_eq_some_iff.1 h2).1).trans h2, h3⟩

/-- All blocks but those of bytes are as they were. -/
def NoB (w w' : World) : Prop := ∀ (k : Nat) (o : Obj), w.heap[k]? = some o → (∀ C, o ≠ .cells C 5 (0, 0)) → w'.heap[k]? = some o
theorem NoB.refl (w : World) : NoB w w := fun _ _ h _ => h
theorem NoB.trans {a b c : World} (h : NoB a b) (k : NoB b c) : NoB a c := fun i o ho hn => k i o (h i o ho hn) hn
theorem NoB.below {a b : World} (h : Below a.heap.size a b) : NoB a b := fun i _ ho _ => (h.block i (Array.getElem?_eq_some_iff.1 ho).1).trans ho
theorem NoB.grown {a b : World} {B n : Nat} {v : Value} {xs : List Value} (h : a.ownsRow B 5 1 v n xs) (hg : a.grownBy b v.ownBlock) : NoB a b := fun i o ho hn => by
  refine (hg.block i (Array.getElem?_eq_some_iff.1 ho).1 (fun e => ?_)).trans ho
  rcases h.2 with ⟨rfl, _⟩ | ⟨g, cp, cur, rfl, _, hgg, _⟩
  · cases e
  · cases e
    rw [hgg] at ho
    cases ho
    exact hn cur rfl
theorem NoB.alloc {a b : World} (h : NoB a b) (o : Obj) : NoB a (b.alloc o) := h.trans (NoB.below ((Below.refl _ _).alloc (Nat.le_refl _) _))
/-- What a function hands back that goes on writing bytes of its own: old memory is as it was below B, and all but bytes anywhere. -/
def OwnPostN (B : Nat) (l : List Nat) (w : World) (e : Ending) (w' : World) : Prop := ∃ v, e = .returned v ∧ Own B w' v l ∧ Below B w w' ∧ NoB w w'

theorem full_any (b : Nat) (w : World) (h : b ≤ 8) : Calls Tryd.prog 38 #[.int .i64 b] w fun e w' => e = .returned (.int .i64 (P.full b : Nat)) ∧ w = w' := by
  go_enter Tryd.func38, Tryd.ntmps38
  go_wp2
  go_ret
  refine ⟨?_, rfl⟩
  refine congrArg (fun n => Ending.returned (Value.int IntKind.i64 n)) ?_
  unfold P.full
  have h1 : 2 ^ b ≤ 2 ^ 8 := Nat.pow_le_pow_right (by omega) h
  have h2 : 0 < 2 ^ b := Nat.two_pow_pos b
  have e : (2 : Nat) ^ 8 = 256 := by decide
  have e2 : (2 : Int) ^ b = ((2 ^ b : Nat) : Int) := by push_cast; rfl
  rw [e2]
  generalize 2 ^ b = k at *
  unfold wrap64
  omega

theorem isPrefix_any (b : Int) (w : World) : Calls Tryd.prog 37 #[.int .i64 b] w fun e w' => e = .returned (.bool (decide (1 ≤ b ∧ b ≤ 8))) ∧ w = w' := by
  by_cases h : 1 ≤ b
  · go_enter Tryd.func37, Tryd.ntmps37
    go_wp2
    go_ret
    exact ⟨by simp [h], rfl⟩
  · have h1 : b < 1 := by omega
    go_enter Tryd.func37, Tryd.ntmps37
    go_wp2
    go_ret
    exact ⟨by simp; omega, rfl⟩

set_option maxRecDepth 100000 in
theorem kfresh_any {B2 : Nat} (a : Option Addr) (len cap : Nat) (l : List Nat) (room : Nat) (w : World) (hl : l.length = len) (hr : Rd B2 w a l) (hsz : len + room ≤ 140737488355328) :
    Calls Tryd.prog 39 #[.slice a len cap, .int .i64 room] w (OwnPost w.heap.size l w) := by
  obtain ⟨i0, hi, hz0, hz1, hz2⟩ := info_parts info5
  have Hr := Lib.hid hr
  have Hl := Lib.hid hl
  clear hr hl
  have hC : ((len : Int) + (room : Int)) = ((len + room : Nat) : Int) := (Int.natCast_add len room).symm
  have hb2 : i0.bytes * (len + room) ≤ 281474976710656 := by rw [hz2]; omega
  have HC := Lib.hid hC
  have HB2 := Lib.hid hb2
  clear hC hb2
  go_enter Tryd.func39, Tryd.ntmps39
  go_wp2_with (first | (at_make; refine wpList_make_own _ rfl _ _ 22 rfl w.heap.size 5 i0 (.int .u8 0) 1 Tryd.underlying22 hi hz0 hz1 .i64 .i64 _ (len + room) rfl rfl HC.out HB2.out ?_ (Nat.le_refl _) ?_; unfold maxLen; omega; intro w1 hown hgrow; have HR1 := Lib.hid (Hr.out.below (Below.grown (Below.refl w.heap.size w) hgrow (Nat.le_refl _) (fun k e => by cases e))); have hs1 := hgrow.size) | (at_builtin; refine wpList_app _ rfl _ _ 22 rfl w.heap.size B2 5 i0 (.int .u8 0) Tryd.underlying22 hi hz0 hz1 hz2 rfl _ 0 [] rfl hown (by intro e; cases e) a len cap l rfl Hl.out HR1.out ?_ hs1 ?_; omega; intro g cp w2 hown2 hgrow2))
  go_ret
  have hl := Hl.out
  subst hl
  rw [Nat.zero_add, List.nil_append] at hown2
  refine ⟨_, rfl, ⟨hown2, g, cp, rfl⟩, ?_⟩
  exact (Below.grown (Below.refl w.heap.size w) hgrow (Nat.le_refl _) (fun k e => by cases e)).grown hgrow2 hs1 (fun k e => by cases e; exact Nat.le_refl _)

theorem or_i64 {first b n : Nat} (hf : first % 2 ^ b = 0) (h1 : first < 256) (h2 : n < 2 ^ b) (h3 : n < 256) : bits .or .i64 (first : Int) (n : Int) = ((first + n : Nat) : Int) := by
  have := bits_join .i64 63 (by decide) (fun n h0 h1 => by rw [IntKind.wrap_i64]; omega) b (first : Int) (n : Int) (by omega) (by exact_mod_cast hf) (by omega) (by omega) (by exact_mod_cast h2) (by omega)
  rw [this]
  omega
theorem or128_i64 (u : Nat) : bits .or .i64 ((u : Int) % 128) 128 = (u : Int) % 128 + 128 := by
  have h := bits_join .i64 63 (by decide) (fun n h0 h1 => by rw [IntKind.wrap_i64]; omega) 7 128 ((u : Int) % 128) (by omega) (by decide) (by decide) (by omega) (by omega) (by omega)
  have hc : bits .or .i64 ((u : Int) % 128) 128 = bits .or .i64 128 ((u : Int) % 128) := by simp only [bits, BitVec.or_comm]
  rw [hc, h]
  omega

set_option maxRecDepth 100000 in
set_option maxHeartbeats 1000000 in
theorem appendInt_any (B : Nat) (a : Option Addr) (cp : Nat) (l : List Nat) (first b n : Nat) (w : World) (hv : OwnN B w (.slice a l.length cp) l) (hb1 : 1 ≤ b) (hb : b ≤ 8) (hf : first % 2 ^ b = 0) (hf2 : first + P.full b < 256) (hn : n ≤ 2147483647) (hsz : l.length ≤ 100000000000) (hB : B ≤ w.heap.size) :
    Calls Tryd.prog 40 #[.slice a l.length cp, .int .i64 first, .int .i64 b, .int .i64 n] w (OwnPostN B (l ++ P.put first b n) w) := by
  obtain ⟨i0, hi, hz0, hz1, hz2⟩ := info_parts info5
  have Hz2 := Lib.hid hz2
  clear hz2
  have HO := Lib.hid hv
  clear hv
  have hfp := P.full_pos hb1
  have hp2 := Nat.two_pow_pos b
  have HP : Hid (P.put first b n = if n < P.full b then [first + n] else (first + P.full b) :: W.vbs (n - P.full b)) := rfl
  have HF : Hid (∀ w, Calls Tryd.prog 38 #[.int .i64 b] w fun e w' => e = .returned (.int .i64 (P.full b : Nat)) ∧ w = w') := fun w => full_any b w hb
  have hFl : P.full b < 2 ^ b := by unfold P.full; omega
  obtain ⟨F, hF⟩ : ∃ F, F = P.full b := ⟨_, rfl⟩
  rw [← hF] at HP HF hf2 hfp hFl
  clear hF
  by_cases h : n < F
  · have eo := or_i64 (b := b) hf (by omega) (show n < 2 ^ b by omega) (by omega)
    have HX : Hid (P.put first b n = [first + n]) := by show _ = _; rw [HP.out, if_pos h]
    obtain ⟨c, hc⟩ : ∃ c, c = first + n := ⟨_, rfl⟩
    rw [← hc] at eo HX
    have hc2 : c < 256 := by omega
    have hone := Rd.one w c 5 hc2
    have HOne := Lib.hid hone
    clear hone hc hf hFl hp2
    go_enter Tryd.func40, Tryd.ntmps40
    go_wp2_with (first | (go_at_call 38; refine (HF.out _).mono ?_; rintro e w1 ⟨rfl, rfl⟩) | (at_builtin; refine wpList_app1 _ rfl _ _ 22 rfl B _ 5 i0 (.int .u8 0) Tryd.underlying22 hi hz0 hz1 Hz2.out rfl _ l.length (vals l) rfl (World.ownsRow.alloc HO.out _) _ 1 1 [c] rfl rfl (by decide) HOne.out ?_ ?_ ?_; omega; (simp; omega); intro g2 cp2 w2 hown2 hgrow2))
    go_ret
    refine ⟨_, rfl, ?_, ?_, ((NoB.refl w).alloc _).trans (NoB.grown (World.ownsRow.alloc HO.out _) hgrow2)⟩
    · rw [HX.out]
      refine ⟨?_, g2, cp2, ?_⟩
      · rw [vals_append, List.length_append]; exact hown2
      · rw [List.length_append]; rfl
    · exact ((Below.refl B w).alloc hB _).grown hgrow2 (by simp; omega) (fun k e => by
        rcases HO.out.2 with ⟨e1, _⟩ | ⟨g, cp', cur, e1, h1, _⟩
        · rw [e1] at e; cases e
        · rw [e1] at e; cases e; exact h1)
  · have eo := or_i64 (b := b) (n := F) hf (by omega) hFl (by omega)
    have HX : Hid (P.put first b n = (first + F) :: W.vbs (n - F)) := by show _ = _; rw [HP.out, if_neg h]
    obtain ⟨c, hc⟩ : ∃ c, c = first + F := ⟨_, rfl⟩
    rw [← hc] at eo HX
    have hc2 : c < 256 := by omega
    have hone := Rd.one w c 5 hc2
    have HOne := Lib.hid hone
    clear hone hc hf hFl hp2
    go_enter Tryd.func40, Tryd.ntmps40
    go_wp2_with (first | (go_at_call 38; refine (HF.out _).mono ?_; rintro e w1 ⟨rfl, rfl⟩) | (at_builtin; refine wpList_app1 _ rfl _ _ 22 rfl B _ 5 i0 (.int .u8 0) Tryd.underlying22 hi hz0 hz1 Hz2.out rfl _ l.length (vals l) rfl (World.ownsRow.alloc HO.out _) _ 1 1 [c] rfl rfl (by decide) HOne.out ?_ ?_ ?_; omega; (simp; omega); intro g0 cp0 w0 hown0 hgrow0))
    have hb0 : Below B w w0 := ((Below.refl B w).alloc hB _).grown hgrow0 (by simp; omega) (fun k e => by
        rcases HO.out.2 with ⟨e1, _⟩ | ⟨g, cp', cur, e1, h1, _⟩
        · rw [e1] at e; cases e
        · rw [e1] at e; cases e; exact h1)
    have HB0 := Lib.hid hb0
    have HN0 : Hid (NoB w w0) := ((NoB.refl w).alloc _).trans (NoB.grown (World.ownsRow.alloc HO.out _) hgrow0)
    have hs0 := hb0.size
    clear hb0 hgrow0
    go_loopw [0, 3] (fun x y wr => ∃ (g cp u' f : Nat) (l' : List Nat), x = .slice (some ⟨g, 0, none⟩) l'.length cp ∧ y = .int .i64 u' ∧ Hid (u' < 128 ^ (f + 1)) ∧ u' ≤ 2147483647 ∧ f ≤ 9 ∧ l'.length + f = l.length + 10 ∧ Hid (l' ++ W.vb f u' = l ++ (c :: W.vbs (n - F))) ∧
      Hid (wr.ownsRow B 5 1 (.slice (some ⟨g, 0, none⟩) l'.length cp) l'.length (vals l')) ∧ Hid (Below B w wr) ∧ Hid (NoB w wr) ∧ w.heap.size ≤ wr.heap.size) (fun x _ _ => (match x with | .slice _ n _ => l.length + 11 - n | _ => 0))
    case atStart =>
      refine ⟨g0, cp0, n - F, 9, l ++ [c], ?_, ?_, ?_, by omega, by omega, by simp, ?_, ?_, HB0, HN0, hs0⟩
      · rw [List.length_append]; rfl
      · congr 1; omega
      · exact Nat.lt_of_le_of_lt (show n - F ≤ 2147483647 by omega) (by decide)
      · show _ = _
        rw [List.append_assoc]; rfl
      · show World.ownsRow _ _ _ _ _ _ _
        rw [vals_append, List.length_append]; exact hown0
    case round =>
      obtain ⟨g, cp, u', f, l', rfl, rfl, Hf, Hu, hf9, hlf, HL, HOW, HB, HN, hsz2⟩ := hrel
      have ea := i64_and127 u'
      have eo := or128_i64 u'
      by_cases hlt : u' < 128
      · have hone := Rd.one wr u' 5 (by omega)
        have HS : Hid (W.vb f u' = [u']) := by
          show W.vb f u' = _
          cases f <;> simp [W.vb, hlt]
        go_wp2_with (at_builtin; refine wpList_app _ rfl _ _ 22 rfl B _ 5 i0 (.int .u8 0) Tryd.underlying22 hi hz0 hz1 Hz2.out rfl _ l'.length (vals l') rfl (HOW.out.alloc _) (by intro e; cases e) _ 1 1 [u'] rfl rfl hone ?_ ?_ ?_; omega; (simp; omega); intro g2 cp2 w2 hown2 hgrow2)
        go_ret
        refine ⟨_, rfl, ?_, ?_, (HN.out.alloc _).trans (NoB.grown (HOW.out.alloc _) hgrow2)⟩
        · have h := HL.out
          rw [HS.out] at h
          rw [HX.out, ← h]
          refine ⟨?_, g2, cp2, ?_⟩
          · rw [vals_append, List.length_append]; exact hown2
          · rw [List.length_append]; rfl
        · exact (HB.out.alloc (by omega) _).grown hgrow2 (by simp; omega) (fun k e => by cases e; exact (HOW.out.lt g rfl).1)
      · have hone := Rd.one wr (u' % 128 + 128) 5 (by omega)
        rw [show ((u' % 128 + 128 : Nat) : Int) = (u' : Int) % 128 + 128 from by omega] at hone
        have hf1 : 1 ≤ f := by
          rcases Nat.eq_zero_or_pos f with h0 | h0
          · subst h0; have := Hf.out; simp at this; omega
          · exact h0
        obtain ⟨f, rfl⟩ : ∃ m, f = m + 1 := ⟨f - 1, by omega⟩
        have HS : Hid (W.vb (f + 1) u' = (u' % 128 + 128) :: W.vb f (u' / 128)) := by
          show W.vb (f + 1) u' = _
          simp [W.vb, hlt]
        go_wp2_with (at_builtin; refine wpList_app _ rfl _ _ 22 rfl B _ 5 i0 (.int .u8 0) Tryd.underlying22 hi hz0 hz1 Hz2.out rfl _ l'.length (vals l') rfl (HOW.out.alloc _) (by intro e; cases e) _ 1 1 [u' % 128 + 128] rfl rfl hone ?_ ?_ ?_; omega; (simp; omega); intro g2 cp2 w2 hown2 hgrow2)
        go_roundw
        case rel =>
          refine ⟨g2, cp2, u' / 128, f, l' ++ [u' % 128 + 128], ?_, ?_, ?_, by omega, by omega, ?_, ?_, ?_, ?_, (HN.out.alloc _).trans (NoB.grown (HOW.out.alloc _) hgrow2), ?_⟩
          · rw [List.length_append]; rfl
          · first | rfl | (congr 1)
          · have h := Hf.out
            rw [Nat.pow_succ] at h
            exact Nat.div_lt_of_lt_mul (by rw [Nat.mul_comm]; exact h)
          · simp; omega
          · show _ = _
            rw [← HL.out, HS.out]; simp
          · show World.ownsRow _ _ _ _ _ _ _
            rw [vals_append, List.length_append]; exact hown2
          · exact (HB.out.alloc (by omega) _).grown hgrow2 (by simp; omega) (fun k e => by cases e; exact (HOW.out.lt g rfl).1)
          · have := hgrow2.size; simp at this; omega
        case measure => simp; omega
end Go.Proofs.YthdgcakbeiocgaaDoor
