/-
The walks of parleysee.Fault, Same and Is over no error and over one of package api's errors; of parleyref's SameInts and SameFault.
-/
import Derived.Test.YthdgcakbeiocgaaDoorGsee
namespace Go.Proofs.YthdgcakbeiocgaaDoor
open Go.RowKit

/-- No error, or the i-th one of package api's. -/
def oV (E : Nat → Addr) : Option Nat → Value
  | none => .nilIface
  | some i => eV E (eg i)
/-- Its number. -/
def oC : Option Nat → Int
  | none => 0
  | some i => 101 + (i : Nat)

theorem oC_inj {a b : Option Nat} : oC a = oC b ↔ a = b := by
  cases a <;> cases b <;> simp [oC] <;> omega

set_option maxRecDepth 100000 in
theorem Fault_any {E : Nat → Addr} (o : Option Nat) (w : World) (hE : ErrsAll w E egs) (ho : ∀ i, o = some i → i < 30) : Calls Tryd.prog 61 #[oV E o] w (FOut (oC o) 0 0 (.slice none 0 0) w) := by
  have HE := Lib.hid hE
  clear hE
  have HA : Hid (ErrsAll (w.alloc (.cells #[.int .i64 0, .int .i64 0, .int .i64 0, .slice none 0 0] 79)) E egs) := HE.out.below ((Below.refl _ _).alloc (Nat.le_refl _) _)
  cases o with
  | none =>
    simp only [oV, oC]
    go_enter Tryd.func61, Tryd.ntmps61
    go_wp2_with (go_at_call 82; refine (none_any _).mono ?_; rintro e w2 ⟨rfl, hB2⟩; have HB2 := Lib.hid hB2; clear hB2; obtain ⟨⟨d0, d1, d2, d3⟩, ⟨f0, f1, f2, f3⟩, hz2⟩ := cells4 HB2.out; unfold fV)
    exact bodyPost_ret (v := fV 0 0 0 (.slice none 0 0)) (by simp [results, Tryd.results61, go_sem, fV, d0, d1, d2, d3]) rfl ⟨rfl, by
      have hb := below_over HB2.out
      exact (((hb.setCell (Nat.le_refl _) _).setCell (Nat.le_refl _) _).setCell (Nat.le_refl _) _).setCell (Nat.le_refl _) _⟩
  | some i =>
    have hi := ho i rfl
    have HF : Hid (∀ ww, ErrsAll ww E egs → Calls Tryd.prog 83 #[.iface 166 (.pointer (some (E (eg i)))), .int .i64 9] ww (FOut (101 + (i : Int)) 0 0 (.slice none 0 0) ww)) := fun ww h => by
      have h1 := faultOne_any i 9 ww h hi (by omega) (by omega)
      rw [show ((9 : Nat) : Int) = 9 from rfl] at h1
      unfold eV at h1
      exact h1
    simp only [oV, oC, eV]
    generalize E (eg i) = p at *
    go_enter Tryd.func61, Tryd.ntmps61
    go_wp2_with (go_at_call 83; refine (HF.out _ HA.out).mono ?_; rintro e w2 ⟨rfl, hB2⟩; have HB2 := Lib.hid hB2; clear hB2; obtain ⟨⟨d0, d1, d2, d3⟩, ⟨f0, f1, f2, f3⟩, hz2⟩ := cells4 HB2.out; unfold fV)
    exact bodyPost_ret (v := fV (101 + (i : Int)) 0 0 (.slice none 0 0)) (by simp [results, Tryd.results61, go_sem, fV, d0, d1, d2, d3]) rfl ⟨rfl, by
      have hb := below_over HB2.out
      exact (((hb.setCell (Nat.le_refl _) _).setCell (Nat.le_refl _) _).setCell (Nat.le_refl _) _).setCell (Nat.le_refl _) _⟩

/-- The slice at a reads as the ints l. -/
def RdZ (w : World) (a : Option Addr) (l : List Int) : Prop := ∀ j, j < l.length → ∃ b o, a = some ⟨b, o, none⟩ ∧ w.cell? ⟨b, o + j, none⟩ = some (.int .i64 (l.getD j 0))
theorem RdZ.nil (w : World) (a : Option Addr) : RdZ w a [] := fun j hj => by simp at hj
theorem RdZ.below {w w' : World} {a : Option Addr} {l : List Int} (h : RdZ w a l) (hb : Below w.heap.size w w') : RdZ w' a l := fun j hj => by
  obtain ⟨b, o, e, hc⟩ := h j hj
  exact ⟨b, o, e, cell_below hb hc⟩

theorem take_eq_succ {l k : List Int} {i : Nat} (hl : i < l.length) (hk : i < k.length) (h : l.take i = k.take i) : l.take (i + 1) = k.take (i + 1) ↔ l.getD i 0 = k.getD i 0 := by
  have e1 : l.getD i 0 = l[i] := by rw [List.getD_eq_getElem?_getD, List.getElem?_eq_getElem hl]; rfl
  have e2 : k.getD i 0 = k[i] := by rw [List.getD_eq_getElem?_getD, List.getElem?_eq_getElem hk]; rfl
  rw [e1, e2, List.take_succ_eq_append_getElem hl, List.take_succ_eq_append_getElem hk, h]
  constructor
  · intro e
    have := List.append_cancel_left e
    injection this
  · intro e
    rw [e]

set_option maxRecDepth 100000 in
set_option maxHeartbeats 400000 in
theorem sameInts_any (a b : Option Addr) (n m ca cb : Nat) (l k : List Int) (w : World) (hl : l.length = n) (hk : k.length = m) (hn : n ≤ 140737488355328) (ha : RdZ w a l) (hb : RdZ w b k) :
    Calls Tryd.prog 84 #[.slice a n ca, .slice b m cb] w fun e w' => e = .returned (.bool (decide (l = k))) ∧ ∃ q, w' = w.drewN q := by
  have Ha := Lib.hid ha
  have Hb := Lib.hid hb
  clear ha hb
  by_cases hnm : n = m
  · subst hnm
    have Hl := Lib.hid hl
    have Hk := Lib.hid hk
    clear hl hk
    go_enter Tryd.func84, Tryd.ntmps84
    go_wp2
    go_loopw [5] (fun v wr => ∃ i q : Nat, i ≤ n ∧ v = .int .i64 i ∧ Hid (l.take i = k.take i) ∧ wr = w.drewN q) (fun v _ => n - (intOf v).toNat)
    case atStart => exact ⟨0, 0, Nat.zero_le _, rfl, rfl, rfl⟩
    case round =>
      obtain ⟨i, q, hi, rfl, HT, rfl⟩ := hrel
      by_cases hlt : i < n
      · obtain ⟨b1, o1, rfl, c1⟩ := Ha.out i (by rw [Hl.out]; exact hlt)
        obtain ⟨b2, o2, rfl, c2⟩ := Hb.out i (by rw [Hk.out]; exact hlt)
        have HI := Lib.hid (take_eq_succ (by rw [Hl.out]; exact hlt) (by rw [Hk.out]; exact hlt) HT.out)
        have k0 : (0 : Int) ≤ (i : Int) := by omega
        have k1 : (i : Int) < (n : Int) := by omega
        have HN : Hid (l.getD i 0 ≠ k.getD i 0 → decide (l = k) = false) := fun h => by
          refine decide_eq_false fun e => h ?_
          rw [e]
        generalize l.getD i 0 = x at *
        generalize k.getD i 0 = y at *
        go_upto_region 6 with (fail)
        go_quiet (fail)
        by_cases e : x = y
        · have hx : (x == y) = true := by simp [e]
          have HT2 : Hid (l.take (i + 1) = k.take (i + 1)) := HI.out.2 e
          clear e
          go_wp2
          go_roundw
          case rel => exact ⟨i + 1, _, by omega, by go_num, HT2, rfl⟩
          case measure => simp [intOf]; omega
        · have hx : (x == y) = false := by simp [e]
          have Hf := Lib.hid (HN.out e)
          clear e
          go_wp2
          go_ret
          refine ⟨?_, _, rfl⟩
          rw [Hf.out]; rfl
      · obtain rfl : i = n := by omega
        have hf : decide (l = k) = true := by
          refine decide_eq_true ?_
          have := HT.out
          rw [List.take_of_length_le (by rw [Hl.out]; exact Nat.le_refl _), List.take_of_length_le (by rw [Hk.out]; exact Nat.le_refl _)] at this
          exact this
        have Hf := Lib.hid hf
        clear hf
        go_wp2
        go_ret
        refine ⟨?_, _, rfl⟩
        rw [Hf.out]; rfl
  · have hf : decide (l = k) = false := by
      refine decide_eq_false fun e => hnm ?_
      rw [← hl, ← hk, e]
    have Hf := Lib.hid hf
    clear hf hl hk
    have hne : ((n : Int) != (m : Int)) = true := by simp; omega
    go_enter Tryd.func84, Tryd.ntmps84
    go_wp2
    go_ret
    refine ⟨?_, 0, rfl⟩
    rw [Hf.out]; rfl

def FAgree (c k s c2 k2 s2 : Int) (l l2 : List Int) : Bool := decide (c = c2 ∧ k = k2 ∧ s = s2 ∧ l = l2)

set_option maxRecDepth 100000 in
set_option maxHeartbeats 1000000 in
theorem sameFault_any (c k s c2 k2 s2 : Int) (a b : Option Addr) (n m ca cb : Nat) (l l2 : List Int) (w : World) (hl : l.length = n) (hk : l2.length = m) (hn : n ≤ 140737488355328) (ha : RdZ w a l) (hb : RdZ w b l2) :
    Calls Tryd.prog 62 #[fV c k s (.slice a n ca), fV c2 k2 s2 (.slice b m cb)] w fun e w' => e = .returned (.bool (FAgree c k s c2 k2 s2 l l2)) ∧ Below w.heap.size w w' := by
  have HB : Hid (Below w.heap.size w ((w.alloc (.cells #[.int .i64 c, .int .i64 k, .int .i64 s, .slice a n ca] 79)).alloc (.cells #[.int .i64 c2, .int .i64 k2, .int .i64 s2, .slice b m cb] 79))) := ((Below.refl _ _).alloc (Nat.le_refl _) _).alloc (by simp) _
  have HS : Hid (Calls Tryd.prog 84 #[.slice a n ca, .slice b m cb] ((w.alloc (.cells #[.int .i64 c, .int .i64 k, .int .i64 s, .slice a n ca] 79)).alloc (.cells #[.int .i64 c2, .int .i64 k2, .int .i64 s2, .slice b m cb] 79)) fun e w' => e = .returned (.bool (decide (l = l2))) ∧ ∃ q, w' = ((w.alloc (.cells #[.int .i64 c, .int .i64 k, .int .i64 s, .slice a n ca] 79)).alloc (.cells #[.int .i64 c2, .int .i64 k2, .int .i64 s2, .slice b m cb] 79)).drewN q) :=
    sameInts_any a b n m ca cb l l2 _ hl hk hn (ha.below HB.out) (hb.below HB.out)
  clear ha hb hl hk
  have HA : Hid (FAgree c k s c2 k2 s2 l l2 = (c == c2 && (k == k2 && (s == s2 && decide (l = l2))))) := by
    show _ = _
    unfold FAgree
    rw [Bool.eq_iff_iff]
    simp
  generalize decide (l = l2) = q at *
  unfold fV
  by_cases hc : c = c2
  · have xc : (c == c2) = true := by simp [hc]
    rw [xc, Bool.true_and] at HA
    clear hc
    by_cases hk : k = k2
    · have xk : (k == k2) = true := by simp [hk]
      rw [xk, Bool.true_and] at HA
      clear hk
      by_cases hs : s = s2
      · have xs : (s == s2) = true := by simp [hs]
        rw [xs, Bool.true_and] at HA
        clear hs
        go_enter Tryd.func62, Tryd.ntmps62
        go_wp2_with (go_at_call 84; refine HS.out.mono ?_; rintro e w1 ⟨rfl, q9, rfl⟩)
        go_ret
        refine ⟨?_, below_q HB.out _⟩
        rw [HA.out]; rfl
      · have xs : (s == s2) = false := by simp [hs]
        rw [xs, Bool.false_and] at HA
        clear hs
        go_enter Tryd.func62, Tryd.ntmps62
        go_wp2_with (go_at_call 84; refine HS.out.mono ?_; rintro e w1 ⟨rfl, q9, rfl⟩)
        go_ret
        refine ⟨?_, below_q HB.out _⟩
        rw [HA.out]; rfl
    · have xk : (k == k2) = false := by simp [hk]
      rw [xk, Bool.false_and] at HA
      clear hk
      go_enter Tryd.func62, Tryd.ntmps62
      go_wp2_with (go_at_call 84; refine HS.out.mono ?_; rintro e w1 ⟨rfl, q9, rfl⟩)
      go_ret
      refine ⟨?_, below_q HB.out _⟩
      rw [HA.out]; rfl
  · have xc : (c == c2) = false := by simp [hc]
    rw [xc, Bool.false_and] at HA
    clear hc
    go_enter Tryd.func62, Tryd.ntmps62
    go_wp2_with (go_at_call 84; refine HS.out.mono ?_; rintro e w1 ⟨rfl, q9, rfl⟩)
    go_ret
    refine ⟨?_, below_q HB.out _⟩
    rw [HA.out]; rfl

set_option maxRecDepth 100000 in
set_option maxHeartbeats 1000000 in
/-- Same over no error or a bare one. -/
theorem Same_any {E : Nat → Addr} (o : Option Nat) (c2 k2 s2 : Int) (b : Option Addr) (m cb : Nat) (l2 : List Int) (w : World) (hE : ErrsAll w E egs) (ho : ∀ i, o = some i → i < 30) (hk : l2.length = m) (hb : RdZ w b l2) :
    Calls Tryd.prog 41 #[oV E o, fV c2 k2 s2 (.slice b m cb)] w fun e w' => e = .returned (.bool (FAgree (oC o) 0 0 c2 k2 s2 [] l2)) ∧ Below w.heap.size w w' := by
  have HB : Hid (Below w.heap.size w (w.alloc (.cells #[.int .i64 c2, .int .i64 k2, .int .i64 s2, .slice b m cb] 79))) := (Below.refl _ _).alloc (Nat.le_refl _) _
  have HF := Lib.hid (Fault_any o _ (hE.below HB.out) ho)
  have Hb := Lib.hid (hb.below HB.out)
  have Hk := Lib.hid hk
  have HSF : Hid (∀ ww, RdZ ww b l2 → Calls Tryd.prog 62 #[.agg #[.int .i64 (oC o), .int .i64 0, .int .i64 0, .slice none 0 0], .agg #[.int .i64 c2, .int .i64 k2, .int .i64 s2, .slice b m cb]] ww fun e w' => e = .returned (.bool (FAgree (oC o) 0 0 c2 k2 s2 [] l2)) ∧ Below ww.heap.size ww w') := fun ww h =>
    sameFault_any (oC o) 0 0 c2 k2 s2 none b 0 m 0 cb [] l2 ww rfl Hk.out (by omega) (RdZ.nil _ _) h
  clear hE ho hb hk
  generalize oC o = c at *
  generalize oV E o = v at *
  unfold fV at *
  go_enter Tryd.func41, Tryd.ntmps41
  go_wp2_with fail
  refine HF.out.mono ?_
  rintro e w1 ⟨rfl, hb1⟩
  obtain ⟨⟨d0, d1, d2, d3⟩, ⟨f0, f1, f2, f3⟩, hz1⟩ := cells4 hb1
  have HB1 := Lib.hid hb1
  clear hb1
  have HB2 : Hid (Below (w.alloc (.cells #[.int .i64 c2, .int .i64 k2, .int .i64 s2, .slice b m cb] 79)).heap.size (w.alloc (.cells #[.int .i64 c2, .int .i64 k2, .int .i64 s2, .slice b m cb] 79)) (w1.alloc (.cells #[.int .i64 c, .int .i64 0, .int .i64 0, .slice none 0 0] 79))) := HB1.out.alloc HB1.out.size _
  have HS2 := Lib.hid (HSF.out _ (Hb.out.below HB2.out))
  unfold fV
  clear HSF HF HB1
  go_wp2_with (go_at_call 62; refine HS2.out.mono ?_; rintro e w3 ⟨rfl, hb3⟩; have HB3 := Lib.hid (HB2.out.trans (hb3.mono HB2.out.size)); clear hb3)
  go_ret
  exact ⟨rfl, below_over HB3.out⟩

set_option maxRecDepth 100000 in
/-- Is over no error or one of package api's. -/
theorem Is_any {E : Nat → Addr} (o : Option Nat) (c : Int) (w : World) (hE : ErrsAll w E egs) (ho : ∀ i, o = some i → i < 30) :
    Calls Tryd.prog 17 #[oV E o, .int .i64 c] w fun e w' => e = .returned (.bool (decide (oC o = c))) ∧ Below w.heap.size w w' := by
  have HE := Lib.hid hE
  have HS : Hid (∀ ww, ErrsAll ww E egs → Calls Tryd.prog 41 #[oV E o, .agg #[.int .i64 c, .int .i64 0, .int .i64 0, .slice none 0 0]] ww fun e w' => e = .returned (.bool (decide (oC o = c))) ∧ Below ww.heap.size ww w') := fun ww h => by
    have h1 := Same_any o c 0 0 none 0 0 [] ww h ho rfl (RdZ.nil _ _)
    have e : FAgree (oC o) 0 0 c 0 0 [] [] = decide (oC o = c) := by
      unfold FAgree
      rw [Bool.eq_iff_iff]
      simp
    rw [e] at h1
    exact h1
  clear hE ho
  generalize decide (oC o = c) = q at *
  generalize oV E o = v at *
  go_enter Tryd.func17, Tryd.ntmps17
  go_wp2_with (first
    | (go_at_call 42; refine (bare_any _ _).mono ?_; rintro e w2 ⟨rfl, hB2⟩; have HB2 := Lib.hid hB2; clear hB2; unfold fV)
    | (go_at_call 41; refine (HS.out _ (HE.out.below HB2.out)).mono ?_; rintro e w3 ⟨rfl, hB3⟩; have HB3 := Lib.hid (HB2.out.trans (hB3.mono HB2.out.size)); clear hB3))
  go_ret
  exact ⟨rfl, HB3.out⟩
end Go.Proofs.YthdgcakbeiocgaaDoor
