/-
The walk of hpack's Int.
-/
import Derived.Test.YthdgcakbeiocgaaDoorGerr
import Derived.Test.YthdgcakbeiocgaaDoorGis
import Derived.Test.YthdgcakbeiocgaaDoorGjump
import Derived.Test.YthdgcakbeiocgaaDoorKint
namespace Go.Proofs.YthdgcakbeiocgaaDoor
open Go.RowKit

/-- One label, whose loop is walked once. -/
theorem wp_scope_loop {P : Program} {a : Act} {w : World} {Q : Exit → Act → World → Prop} {c M : Code} (l1 : Nat) (J1 : Act → World → Prop) (μ : Act → World → Nat)
    (hf1 : findLabel c l1 = some (Code.seq .skip M))
    (first : (∀ a w, J1 a w → M.wp P (jumps (fun l a w => l = l1 ∧ J1 a w) Q) a w) → c.wp P (jumps (fun l a w => l = l1 ∧ J1 a w) Q) a w)
    (round : ∀ a w, J1 a w → M.wp P (jumps (fun l a' w' => l = l1 ∧ J1 a' w' ∧ μ a' w' < μ a w) Q) a w) : (Code.scope c).wp P Q a w := by
  refine wp_scope_many (fun _ => Code.seq .skip M) (fun l => l = l1) (fun _ a w => J1 a w) μ (by rintro l rfl; exact hf1) (first fun a w h => jumps_weaken ?_ (round a w h)) ?_
  · rintro l a w ⟨h1, h2, _⟩
    exact ⟨h1, h2⟩
  · rintro l a w rfl h
    exact wp_seq (wp_skip (round a w h))

/-- What Int hands back. -/
def getV (E : Nat → Addr) (r : Nat × Nat × Option Nat) : Value := .tuple #[.int .i64 (r.1 : Nat), .int .i64 (r.2.1 : Nat), oV E r.2.2]

def IntJ (w : World) (bb o len cap b : Nat) (l : List Nat) (x : Act) (w' : World) : Prop :=
  ∃ (i X : Nat) (u : Nat → Value), x = { tmps := #[.slice (some ⟨bb, o, none⟩) len cap, .int .i64 (b : Nat), undef, undef, .int .i64 0, .int .i64 0, .nilIface, .int .u64 (X : Nat), .int .i64 (i : Nat), u 9, u 10, u 11, u 12, u 13, u 14, u 15, u 16, u 17, u 18, u 19, u 20, u 21, u 22, u 23, u 24, u 25, u 26, u 27, u 28, u 29, u 30, u 31, u 32, u 33, u 34, u 35, u 36, u 37, u 38, u 39, u 40, u 41, u 42, u 43, u 44, u 45, u 46, u 47, u 48, u 49, u 50, u 51, u 52, u 53, u 54, u 55, u 56, u 57, u 58, u 59, u 60, u 61, u 62, u 63, u 64, u 65], defers := [] } ∧
    1 ≤ i ∧ i ≤ 6 ∧ i ≤ len ∧ Hid (X < 2 ^ (7 * i + 1)) ∧ Hid (P.get b l = P.more (l.drop i) i X) ∧ ∃ q, w' = w.drewN q
theorem intJ_mk {w : World} {bb o len cap b : Nat} {l : List Nat} {x : Act} {w' : World} (i X : Nat) (hx : x = { tmps := #[.slice (some ⟨bb, o, none⟩) len cap, .int .i64 (b : Nat), undef, undef, .int .i64 0, .int .i64 0, .nilIface, .int .u64 (X : Nat), .int .i64 (i : Nat), x.tmps.getD 9 undef, x.tmps.getD 10 undef, x.tmps.getD 11 undef, x.tmps.getD 12 undef, x.tmps.getD 13 undef, x.tmps.getD 14 undef, x.tmps.getD 15 undef, x.tmps.getD 16 undef, x.tmps.getD 17 undef, x.tmps.getD 18 undef, x.tmps.getD 19 undef, x.tmps.getD 20 undef, x.tmps.getD 21 undef, x.tmps.getD 22 undef, x.tmps.getD 23 undef, x.tmps.getD 24 undef, x.tmps.getD 25 undef, x.tmps.getD 26 undef, x.tmps.getD 27 undef, x.tmps.getD 28 undef, x.tmps.getD 29 undef, x.tmps.getD 30 undef, x.tmps.getD 31 undef, x.tmps.getD 32 undef, x.tmps.getD 33 undef, x.tmps.getD 34 undef, x.tmps.getD 35 undef, x.tmps.getD 36 undef, x.tmps.getD 37 undef, x.tmps.getD 38 undef, x.tmps.getD 39 undef, x.tmps.getD 40 undef, x.tmps.getD 41 undef, x.tmps.getD 42 undef, x.tmps.getD 43 undef, x.tmps.getD 44 undef, x.tmps.getD 45 undef, x.tmps.getD 46 undef, x.tmps.getD 47 undef, x.tmps.getD 48 undef, x.tmps.getD 49 undef, x.tmps.getD 50 undef, x.tmps.getD 51 undef, x.tmps.getD 52 undef, x.tmps.getD 53 undef, x.tmps.getD 54 undef, x.tmps.getD 55 undef, x.tmps.getD 56 undef, x.tmps.getD 57 undef, x.tmps.getD 58 undef, x.tmps.getD 59 undef, x.tmps.getD 60 undef, x.tmps.getD 61 undef, x.tmps.getD 62 undef, x.tmps.getD 63 undef, x.tmps.getD 64 undef, x.tmps.getD 65 undef], defers := [] })
    (h : 1 ≤ i ∧ i ≤ 6 ∧ i ≤ len ∧ Hid (X < 2 ^ (7 * i + 1)) ∧ Hid (P.get b l = P.more (l.drop i) i X) ∧ ∃ q, w' = w.drewN q) : IntJ w bb o len cap b l x w' :=
  ⟨i, X, fun k => x.tmps.getD k undef, hx, h⟩

theorem and_full64 {b f : Nat} (hb : b ≤ 8) (hf : f < 256) : bits .and .u64 (f : Int) (P.full b : Nat) = ((f % 2 ^ b : Nat) : Int) := by
  have h2 : 0 < 2 ^ b := Nat.two_pow_pos b
  have := bits_mask .u64 64 (by decide) (fun n h0 h1 => by rw [IntKind.wrap_u64]; omega) b (by omega) (f : Int) (by omega) (by omega)
  have e : ((P.full b : Nat) : Int) = 2 ^ b - 1 := by
    unfold P.full
    have e2 : (2 : Int) ^ b = ((2 ^ b : Nat) : Int) := by push_cast; rfl
    rw [e2]
    omega
  rw [e, this]
  push_cast
  rfl

set_option maxRecDepth 100000 in
set_option maxHeartbeats 1000000 in
theorem Int_b {B : Nat} (b : Nat) (a : Option Addr) (len cap : Nat) (l : List Nat) (E : Nat → Addr) (w : World) (hb1 : 1 ≤ b) (hb : b ≤ 8) (hl : l.length = len) (hlen : len ≤ 140737488355328) (hr : Rd B w a l) (hE : ErrsAll w E egs) :
    Calls Tryd.prog 15 #[.slice a len cap, .int .i64 (b : Nat)] w fun e w' => e = .returned (getV E (P.get b l)) ∧ ∃ q, w' = w.drewN q := by
  have h0 : w.cell? ⟨3, 0, none⟩ = some (eV E 3) := egs_cell hE 0 (by omega)
  have h1 : w.cell? ⟨2, 0, none⟩ = some (eV E 2) := egs_cell hE 1 (by omega)
  have HP : Hid (∀ w, Calls Tryd.prog 37 #[.int .i64 (b : Nat)] w fun e w' => e = .returned (.bool true) ∧ w = w') := fun w => by
    have := isPrefix_any b w
    rw [decide_eq_true (by omega)] at this
    exact this
  have HF : Hid (∀ w, Calls Tryd.prog 38 #[.int .i64 (b : Nat)] w fun e w' => e = .returned (.int .i64 (P.full b : Nat)) ∧ w = w') := fun w => full_any b w hb
  have Hr := Lib.hid hr
  have Hl := Lib.hid hl
  clear hr hE
  unfold eV at h0 h1
  cases l with
  | nil =>
    simp at hl
    subst hl
    go_enter Tryd.func15, Tryd.ntmps15
    go_wp2_with fail
    refine wp_scope_loop 0 (fun _ _ => False) (fun _ _ => 0) rfl ?first ?round
    case first =>
      intro _
      go_wp2_with (go_at_call 37; refine (HP.out _).mono ?_; rintro e w1 ⟨rfl, rfl⟩)
      go_quiet (fail)
      go_wp2
      simp only [jumps]
      go_ret3
      exact ⟨rfl, _, rfl⟩
    case round => exact fun _ _ h => h.elim
  | cons c r =>
    obtain ⟨bb, o, rfl, hbB, hcell⟩ := Hr.out.ptr (by simp)
    have hc0 := hcell 0 (by simp)
    have hcl : c < 256 := Hr.out.1 c (by simp)
    have HG : Hid (P.get b (c :: r) = if c % 2 ^ b < P.full b then (c % 2 ^ b, 1, none) else P.more r 1 (c % 2 ^ b)) := P.get_cons b c r
    have ea := and_full64 (b := b) (f := c) hb hcl
    have hn0 : c % 2 ^ b < 256 := Nat.lt_of_le_of_lt (Nat.mod_le _ _) hcl
    have hF8 := P.full_le hb
    rw [Nat.add_zero] at hc0
    simp only [List.getD_cons_zero] at hc0
    generalize c % 2 ^ b = n0 at *
    generalize P.full b = F at *
    have hlen1 : 1 ≤ len := by rw [← hl]; simp
    have q0 : 0 < len := by omega
    clear hl
    go_enter Tryd.func15, Tryd.ntmps15
    go_wp2_with fail
    refine wp_scope_loop 0 (IntJ w bb o len cap b (c :: r)) (fun x _ => 6 - (intOf (x.tmps.getD 8 undef)).toNat) rfl ?first ?round
    case first =>
      intro HH
      have HH := Lib.hid HH
      have ew : IntKind.u64.wrap (c : Int) = (c : Int) := by rw [IntKind.wrap_u64]; omega
      have eF : IntKind.u64.wrap (F : Int) = (F : Int) := by rw [IntKind.wrap_u64]; omega
      go_upto_region 5 with (go_at_call 37; refine (HP.out _).mono ?_; rintro e w1 ⟨rfl, rfl⟩)
      go_quiet ((go_at_call 38; refine Calls.quiet_of_same ((HF.out _).mono fun _ _ h => ⟨h.1, h.2.symm⟩)))
      by_cases hlt : n0 < F
      · rw [if_pos hlt] at HG
        go_wp2_with (go_at_call 38; refine (HF.out _).mono ?_; rintro e w1 ⟨rfl, rfl⟩)
        simp only [jumps]
        go_ret3
        refine ⟨?_, _, rfl⟩
        rw [HG.out]
        rfl
      · rw [if_neg hlt] at HG
        go_wp2_with (go_at_call 38; refine (HF.out _).mono ?_; rintro e w1 ⟨rfl, rfl⟩)
        refine wp_label ?_
        simp only [Exit.then]
        rename_i hK
        refine hK _ _ (HH.out _ _ ?_)
        exact intJ_mk 1 n0 rfl ⟨by omega, by omega, by omega, (show n0 < 2 ^ (7 * 1 + 1) by omega), HG.out, _, rfl⟩
    case round =>
      rintro x wr ⟨i, X, u, rfl, hi1, hi6, hil, HX, HP2, q, rfl⟩
      by_cases h6 : i = 6
      · subst h6
        have HM : Hid (P.get b (c :: r) = (0, 0, some 1)) := by
          show _ = _
          rw [HP2.out]
          cases (c :: r).drop 6 <;> simp [P.more]
        clear HP2 HX
        go_wp2
        go_quiet (fail)
        go_wp2
        simp only [jumps]
        go_ret3
        refine ⟨?_, _, rfl⟩
        rw [HM.out]
        rfl
      by_cases hend : i = len
      · subst hend
        have HM : Hid (P.get b (c :: r) = (0, 0, some 0)) := by
          show _ = _
          rw [HP2.out, List.drop_of_length_le (by rw [Hl.out]; exact Nat.le_refl _), P.more, if_neg h6]
        clear HP2 HX
        have hne : ((i : Int) == 6) = false := by simp; omega
        go_wp2
        go_quiet (fail)
        go_wp2
        simp only [jumps]
        go_ret3
        refine ⟨?_, _, rfl⟩
        rw [HM.out]
        rfl
      have hlt : i < (c :: r).length := by rw [Hl.out]; omega
      have hce := hcell i hlt
      have HD : Hid ((c :: r).drop i = (c :: r).getD i 0 :: (c :: r).drop (i + 1)) := by
        show _ = _
        rw [List.drop_eq_getElem_cons hlt, List.getD_eq_getElem?_getD, List.getElem?_eq_getElem hlt]
        rfl
      have hd256 := Hr.out.lt i
      generalize (c :: r).getD i 0 = d at *
      have hne : ((i : Int) == 6) = false := by simp; omega
      have hne2 : ((i : Int) == (len : Int)) = false := by simp; omega
      have q1 : (0 : Int) ≤ (i : Int) := by omega
      have q2 : (i : Int) < (len : Int) := by omega
      go_upto_region 14 with (fail)
      have hX := HX.out
      have hp : (2 : Nat) ^ (7 * (i - 1)) ≤ 2 ^ 28 := Nat.pow_le_pow_right (by omega) (by omega)
      have e28 : (2 : Nat) ^ 28 = 268435456 := by decide
      have hX2 : X < 1099511627776 := Nat.lt_of_lt_of_le hX (Nat.le_trans (Nat.pow_le_pow_right (by omega) (show 7 * i + 1 ≤ 36 by omega)) (by decide))
      have hpp : 2 ^ (7 * i) = 128 * 2 ^ (7 * (i - 1)) := by
        rw [show 7 * i = 7 * (i - 1) + 7 by omega, Nat.pow_add, Nat.mul_comm]
      have hXn : X + d % 128 * 2 ^ (7 * (i - 1)) < 2 ^ (7 * (i + 1) + 1) := by
        have h1 : d % 128 * 2 ^ (7 * (i - 1)) ≤ 128 * 2 ^ (7 * (i - 1)) := Nat.mul_le_mul_right _ (by omega)
        rw [show 7 * (i + 1) + 1 = (7 * i + 1) + 7 by omega, Nat.pow_add]
        rw [Nat.pow_succ] at hX ⊢
        omega
      have hval : IntKind.u64.wrap ((X : Int) + IntKind.u64.wrap (IntKind.u64.wrap (bits .and .u8 (d : Int) 127) * 2 ^ (7 * (i - 1)))) = ((X + d % 128 * 2 ^ (7 * (i - 1)) : Nat) : Int) := by
        have e1 : bits .and .u8 (d : Int) 127 = (d : Int) % 128 := bits_mask .u8 8 (by decide) wraps_u8 7 (by decide) d (by omega) (by omega)
        have e2 : (2 : Int) ^ (7 * (i - 1)) = ((2 ^ (7 * (i - 1)) : Nat) : Int) := by push_cast; rfl
        have e3 : (d : Int) % 128 = ((d % 128 : Nat) : Int) := by omega
        have h1 : d % 128 * 2 ^ (7 * (i - 1)) ≤ 127 * 268435456 := Nat.mul_le_mul (by omega) (by omega)
        rw [e1, e2, e3]
        have e4 : IntKind.u64.wrap ((d % 128 : Nat) : Int) = ((d % 128 : Nat) : Int) := by rw [IntKind.wrap_u64]; omega
        rw [e4, ← Int.natCast_mul]
        generalize d % 128 * 2 ^ (7 * (i - 1)) = z at *
        have e5 : IntKind.u64.wrap (z : Int) = (z : Int) := by rw [IntKind.wrap_u64]; omega
        rw [e5, ← Int.natCast_add, IntKind.wrap_u64]
        omega
      rw [hval]
      have HM : Hid (P.get b (c :: r) = if 128 ≤ d then P.more ((c :: r).drop (i + 1)) (i + 1) (X + d % 128 * 2 ^ (7 * (i - 1))) else if 2147483647 < X + d % 128 * 2 ^ (7 * (i - 1)) then (0, 0, some 1) else (X + d % 128 * 2 ^ (7 * (i - 1)), i + 1, none)) := by
        show _ = _
        rw [HP2.out, HD.out, P.more, if_neg h6]
      have hXb : X + d % 128 * 2 ^ (7 * (i - 1)) < 2 ^ 45 := Nat.lt_of_lt_of_le hXn (Nat.pow_le_pow_right (by omega) (by omega))
      have e45 : (2 : Nat) ^ 45 = 35184372088832 := by decide
      rw [e45] at hXb
      clear hval hpp hp e28 hX hX2 HP2 HD HX e45
      generalize X + d % 128 * 2 ^ (7 * (i - 1)) = X2 at *
      have HXn := Lib.hid hXn
      clear hXn
      by_cases hd : 128 ≤ d
      · rw [if_pos hd] at HM
        have q3 : (128 : Int) ≤ (d : Int) := by omega
        go_wp2
        refine wp_goto ?_
        simp only [Exit.then]
        refine ⟨rfl, intJ_mk (i + 1) X2 rfl ⟨by omega, by omega, by omega, HXn.out, HM.out, _, rfl⟩, ?_⟩
        simp [intOf]
        omega
      · rw [if_neg hd] at HM
        have q3 : ¬ (128 : Int) ≤ (d : Int) := by omega
        by_cases hbig : 2147483647 < X2
        · rw [if_pos hbig] at HM
          have q4 : (2147483647 : Int) < (X2 : Int) := by omega
          go_wp2
          go_quiet (fail)
          go_wp2
          simp only [jumps]
          go_ret3
          refine ⟨?_, _, rfl⟩
          rw [HM.out]
          rfl
        · rw [if_neg hbig] at HM
          have q4 : ¬ (2147483647 : Int) < (X2 : Int) := by omega
          go_wp2
          simp only [jumps]
          go_ret3
          refine ⟨?_, _, rfl⟩
          rw [HM.out]
          rfl

set_option maxRecDepth 100000 in
/-- Int, whatever is asked. -/
theorem Int_any {B : Nat} (b : Int) (a : Option Addr) (len cap : Nat) (l : List Nat) (E : Nat → Addr) (w : World) (hl : l.length = len) (hlen : len ≤ 140737488355328) (hr : Rd B w a l) (hE : ErrsAll w E egs) :
    Calls Tryd.prog 15 #[.slice a len cap, .int .i64 b] w fun e w' => e = .returned (getV E (P.getI b l)) ∧ ∃ q, w' = w.drewN q := by
  by_cases h : 1 ≤ b ∧ b ≤ 8
  · obtain ⟨b, rfl⟩ : ∃ k : Nat, b = (k : Int) := ⟨b.toNat, by omega⟩
    unfold P.getI
    rw [if_pos h, Int.toNat_natCast]
    exact Int_b b a len cap l E w (by omega) (by omega) hl hlen hr hE
  · unfold P.getI
    rw [if_neg h]
    have h1 : w.cell? ⟨2, 0, none⟩ = some (eV E 2) := egs_cell hE 1 (by omega)
    unfold eV at h1
    have HP : Hid (∀ w, Calls Tryd.prog 37 #[.int .i64 b] w fun e w' => e = .returned (.bool false) ∧ w = w') := fun w => by
      have := isPrefix_any b w
      rw [decide_eq_false h] at this
      exact this
    clear hr hE h
    go_enter Tryd.func15, Tryd.ntmps15
    go_wp2_with fail
    refine wp_scope_loop 0 (fun _ _ => False) (fun _ _ => 0) rfl ?first ?round
    case first =>
      intro _
      go_wp2_with (go_at_call 37; refine (HP.out _).mono ?_; rintro e w1 ⟨rfl, rfl⟩)
      go_quiet (fail)
      go_wp2
      simp only [jumps]
      go_ret3
      exact ⟨rfl, _, rfl⟩
    case round => exact fun _ _ h => h.elim
end Go.Proofs.YthdgcakbeiocgaaDoor
