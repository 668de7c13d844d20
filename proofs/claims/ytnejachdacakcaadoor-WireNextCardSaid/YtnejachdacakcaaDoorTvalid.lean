/-
The walk of unicode/utf8.Valid over bytes.
-/
import Derived.Test.YtnejachdacakcaaDoorTword
import Derived.Test.YtnejachdacakcaaDoorGcells
import Derived.Deep.LoopGhost
import Derived.Below
namespace Go.Proofs.YtnejachdacakcaaDoor
open Go.RowKit

/-- A slice without room behind, of the bytes L. -/
def Sl (B : Nat) (w : World) (a : Option Addr) (m : Nat) (L : List Nat) : Prop := L.length = m ∧ Rd B w a L

theorem Sl.drop {B : Nat} {w : World} {a : Option Addr} {m : Nat} {L : List Nat} (h : Sl B w a m L) (k n : Nat) (x : Int) (hx : x = k) (hk : n + k = m) : ∃ a2, Sl B w a2 n (L.drop k) ∧
    ∀ W, (Instr.slice 22 (.slice a m m) (some (.int .i64 x)) none none).run Tryd.prog W = .ok (.slice a2 n n) W := by
  subst hx
  obtain ⟨h1, h2⟩ := h
  refine ⟨cutA a m k, ⟨by rw [List.length_drop]; omega, h2.drop (by omega)⟩, fun W => ?_⟩
  have := run_from a m m k (by omega) W
  rw [show m - k = n by omega] at this
  exact this

/-- Eight bytes as a number, wherever old memory stands. -/
def W8 (w : World) (a : Option Addr) (m X : Nat) : Prop := ∀ W, Below w.heap.size w W → Calls Tryd.prog 61 #[.slice a m m] W fun e w' => e = .returned (.int .u64 (X : Nat)) ∧ ∃ q, w' = W.drewN q

theorem Sl.word {B : Nat} {w : World} {a : Option Addr} {m : Nat} {L : List Nat} (h : Sl B w a m L) (h8 : 8 ≤ m) : ∃ X, X < 18446744073709551616 ∧ W8 w a m X ∧ (X &&& 9259542123273814144 = 0 → ∀ j, j < 8 → L.getD j 0 < 128) :=
  ⟨T.w8 L, T.w8_lt h.2.lt, fun W hW => word_any a m m L W h.1 h8 (h.2.below hW), T.w8_asc h.2.lt⟩

theorem and7X : ∀ X : Fin 256, bits .and .u8 ((X.val : Nat) : Int) 7 = ((X.val % 8 : Nat) : Int) := by decide +kernel

theorem run_hm (a : Option Addr) (len cap : Nat) (h : len ≤ cap) (W : World) :
    (Instr.slice 22 (.slice a len cap) none (some (.int .i64 (len : Nat))) (some (.int .i64 (len : Nat)))).run Tryd.prog W = .ok (.slice (cutA a len 0) len len) W := by
  have hs : ∀ w, (sizeOf 5).run Tryd.prog w = .ok 1 w := fun _ => by kernel_rfl
  have := Go.run_slice_hm (P := Tryd.prog) (w := W) 22 a len cap (by kernel_rfl) .i64 .i64 len len (by omega) (by omega) (by omega)
  rw [this, show Tryd.prog.elem 22 = 5 by kernel_rfl, hs]
  simp [Result.andThen, sliced, cutA]

theorem tabs_below {g4 g5 : Nat} {w w' : World} (h : Lib.Utf8Tabs g4 g5 w) (hb : Below w.heap.size w w') : Lib.Utf8Tabs g4 g5 w' :=
  ⟨fun c hc => cell_below hb (h.1 c hc), fun i hi => ⟨cell_below hb (h.2 i hi).1, cell_below hb (h.2 i hi).2⟩⟩

theorem asc_more {L : List Nat} {a b : Nat} (h1 : ∀ j, j < a → L.getD j 0 < 128) (h2 : ∀ j, j < b → (L.drop a).getD j 0 < 128) : ∀ j, j < a + b → L.getD j 0 < 128 := by
  intro j hj
  by_cases h : j < a
  · exact h1 j h
  · have := h2 (j - a) (by omega)
    rw [List.getD_eq_getElem?_getD, List.getElem?_drop, show a + (j - a) = j by omega, ← List.getD_eq_getElem?_getD] at this
    exact this

theorem or_zero {X Y M : Nat} (h : (X ||| Y) &&& M = 0) : X &&& M = 0 ∧ Y &&& M = 0 := by
  rw [Nat.and_or_distrib_right] at h
  have h1 := Nat.left_le_or (n := X &&& M) (m := Y &&& M)
  have h2 := Nat.right_le_or (n := X &&& M) (m := Y &&& M)
  omega

theorem Sl.words2 {B : Nat} {w : World} {a : Option Addr} {m : Nat} {L : List Nat} (h : Sl B w a m L) (h16 : 16 ≤ m) : ∃ (a8 : Option Addr) (X Y O Z : Nat),
    (∀ W, (Instr.slice 22 (.slice a m m) (some (.int .i64 8)) none none).run Tryd.prog W = .ok (.slice a8 (m - 8) (m - 8)) W) ∧ W8 w a m X ∧ W8 w a8 (m - 8) Y ∧
    bits .or .u64 (X : Int) (Y : Int) = (O : Int) ∧ bits .and .u64 (O : Int) 9259542123273814144 = (Z : Int) ∧ (Z = 0 → ∀ j, j < 16 → L.getD j 0 < 128) := by
  obtain ⟨a8, h8, hrun⟩ := h.drop 8 (m - 8) 8 rfl (by omega)
  obtain ⟨X, lX, hX, zX⟩ := h.word (by omega)
  obtain ⟨Y, lY, hY, zY⟩ := h8.word (by omega)
  refine ⟨a8, X, Y, X ||| Y, (X ||| Y) &&& 9259542123273814144, hrun, hX, hY, u64_or_nat X Y lX lY, u64_and_nat _ 9259542123273814144 (Nat.or_lt_two_pow (n := 64) lX lY) (by omega), fun hz => ?_⟩
  obtain ⟨e1, e2⟩ := or_zero hz
  exact asc_more (zX e1) (zY e2)

theorem Sl.words4 {B : Nat} {w : World} {a : Option Addr} {m : Nat} {L : List Nat} (h : Sl B w a m L) (h32 : 32 ≤ m) : ∃ (a8 a16 a24 : Option Addr) (X Y U V O Q R Z : Nat),
    (∀ W, (Instr.slice 22 (.slice a m m) (some (.int .i64 8)) none none).run Tryd.prog W = .ok (.slice a8 (m - 8) (m - 8)) W) ∧
    (∀ W, (Instr.slice 22 (.slice a m m) (some (.int .i64 16)) none none).run Tryd.prog W = .ok (.slice a16 (m - 16) (m - 16)) W) ∧
    (∀ W, (Instr.slice 22 (.slice a m m) (some (.int .i64 24)) none none).run Tryd.prog W = .ok (.slice a24 (m - 24) (m - 24)) W) ∧
    W8 w a m X ∧ W8 w a8 (m - 8) Y ∧ W8 w a16 (m - 16) U ∧ W8 w a24 (m - 24) V ∧
    bits .or .u64 (X : Int) (Y : Int) = (O : Int) ∧ bits .or .u64 (U : Int) (V : Int) = (Q : Int) ∧ bits .or .u64 (O : Int) (Q : Int) = (R : Int) ∧ bits .and .u64 (R : Int) 9259542123273814144 = (Z : Int) ∧ (Z = 0 → ∀ j, j < 32 → L.getD j 0 < 128) := by
  obtain ⟨a8, h8, hrun8⟩ := h.drop 8 (m - 8) 8 rfl (by omega)
  obtain ⟨a16, h16, hrun16⟩ := h.drop 16 (m - 16) 16 rfl (by omega)
  obtain ⟨a24, h24, hrun24⟩ := h.drop 24 (m - 24) 24 rfl (by omega)
  obtain ⟨X, lX, hX, zX⟩ := h.word (by omega)
  obtain ⟨Y, lY, hY, zY⟩ := h8.word (by omega)
  obtain ⟨U, lU, hU, zU⟩ := h16.word (by omega)
  obtain ⟨V, lV, hV, zV⟩ := h24.word (by omega)
  have lO := Nat.or_lt_two_pow (n := 64) lX lY
  have lQ := Nat.or_lt_two_pow (n := 64) lU lV
  refine ⟨a8, a16, a24, X, Y, U, V, X ||| Y, U ||| V, X ||| Y ||| (U ||| V), (X ||| Y ||| (U ||| V)) &&& 9259542123273814144, hrun8, hrun16, hrun24, hX, hY, hU, hV, u64_or_nat X Y lX lY, u64_or_nat U V lU lV, u64_or_nat _ _ lO lQ,
    u64_and_nat _ 9259542123273814144 (Nat.or_lt_two_pow (n := 64) lO lQ) (by omega), fun hz => ?_⟩
  obtain ⟨e1, e2⟩ := or_zero hz
  obtain ⟨e3, e4⟩ := or_zero e1
  obtain ⟨e5, e6⟩ := or_zero e2
  have k16 := asc_more (zX e3) (zY e4)
  have k24 := asc_more (a := 16) (b := 8) k16 (zU e5)
  exact asc_more (a := 24) (b := 8) k24 (zV e6)

/-- The table's facts of a first byte from 128 on. -/
theorem tab_cells {w : World} {c : Nat} (hT : Lib.Utf8Tabs 4 5 w) (h1 : 128 ≤ c) (h2 : c < 256) : ∃ X LO HI : Nat, X < 256 ∧
    w.cell? ⟨4, c, none⟩ = some (.int .u8 (X : Nat)) ∧ w.cell? ⟨5, X / 16 * 2, none⟩ = some (.int .u8 (LO : Nat)) ∧ w.cell? ⟨5, X / 16 * 2 + 1, none⟩ = some (.int .u8 (HI : Nat)) ∧
    (X % 8 = 2 → 194 ≤ c ∧ c ≤ 223 ∧ LO = 128 ∧ HI = 191) ∧ (X % 8 = 3 → 224 ≤ c ∧ c ≤ 239 ∧ LO = T.lo3 c ∧ HI = T.hi3 c) ∧ (X % 8 = 4 → 240 ≤ c ∧ c ≤ 244 ∧ LO = T.lo4 c ∧ HI = T.hi4 c) ∧ (X % 8 ≠ 2 → X % 8 ≠ 3 → X % 8 ≠ 4 → c < 194 ∨ 244 < c) := by
  obtain ⟨t1, t2, t3, t4, t5⟩ := T.tab ⟨c, h2⟩ h1
  refine ⟨Lib.firstT c, Lib.accLo (Lib.firstT c / 16), Lib.accHi (Lib.firstT c / 16), t1, hT.1 c h2, ?_, ?_, t2, t3, t4, t5⟩
  · have := (hT.2 (Lib.firstT c / 16) (by simp only at t1; omega)).1; rw [Nat.mul_comm] at this; exact this
  · have := (hT.2 (Lib.firstT c / 16) (by simp only at t1; omega)).2; rw [Nat.mul_comm 2] at this; exact this

set_option maxRecDepth 1000000 in
set_option maxHeartbeats 16000000 in
theorem valid_any {B : Nat} (a : Option Addr) (len cap : Nat) (l : List Nat) (w : World) (hlen : l.length = len) (hcap : len ≤ cap) (_hn : len ≤ 140737488355328) (hr : Rd B w a l) (hT : Lib.Utf8Tabs 4 5 w) :
    Calls Tryd.prog 37 #[.slice a len cap] w fun e w' => e = .returned (.bool (T.tx l)) ∧ Below w.heap.size w w' := by
  obtain ⟨ANS, hANS⟩ : ∃ A, T.tx l = A := ⟨_, rfl⟩
  rw [hANS]
  have HT := Lib.hid hT
  have hrun := run_hm a len cap hcap
  have HS0 : Hid (Sl B w (cutA a len 0) len l) := ⟨hlen, hr.cut0⟩
  have HA := Lib.hid hANS
  clear hT hr hANS hlen
  generalize cutA a len 0 = a0 at *
  go_enter Tryd.func37, Tryd.ntmps37
  go_wp2
  go_loopg [0] (len + 1) (fun gk s0 wx => Hid (Below w.heap.size w wx) ∧ ∃ (a1 : Option Addr) (m : Nat) (L : List Nat), s0 = .slice a1 m m ∧ Hid (Sl B w a1 m L) ∧ Hid (T.tx L = ANS) ∧ m < gk ∧ m ≤ len)
  case atStart => exact ⟨Below.refl _ _, a0, len, l, rfl, HS0, HA, by omega, Nat.le_refl _⟩
  case round =>
    obtain ⟨HB, a1, m, L, rfl, HS, HX, hg, hm⟩ := hrel
    clear HS0 HA hrun
    by_cases h0 : m = 0
    · subst h0
      have HE : Hid (ANS = true) := by show _ = _; rw [← HX.out]; exact T.tx_nil HS.out.1
      go_wp2
      go_ret
      rw [HE.out]
      exact ⟨rfl, HB.out⟩
    obtain ⟨g', rfl⟩ : ∃ g', gk = g' + 1 := ⟨gk - 1, by omega⟩
    have h0z : 0 < m := by omega
    obtain ⟨b, o, rfl, hcell⟩ := HS.out.2.cell (j := 0) (by rw [HS.out.1]; omega)
    rw [Nat.add_zero] at hcell
    have c0 := cell_below HB.out hcell
    have hsb := World.block_lt_of_cell? wr _ c0
    simp only at hsb
    have hc256 := HS.out.2.lt 0
    clear hcell
    by_cases hasc : L.getD 0 0 < 128
    · as_aux_lemma =>
        obtain ⟨a2, hS2, hrun2⟩ := HS.out.drop 1 (m - 1) 1 rfl (by omega)
        have HX2 : Hid (T.tx (L.drop 1) = ANS) := by
          show _ = _
          rw [T.tx_asc 1 L (by rw [HS.out.1]; omega) (fun j hj => by
            obtain rfl : j = 0 := by omega
            exact hasc)]
          exact HX.out
        have HS2 := Lib.hid hS2
        obtain ⟨m2, hm2⟩ : ∃ m2, m - 1 = m2 := ⟨_, rfl⟩
        rw [hm2] at hrun2 HS2
        have hma : m2 + 1 ≤ m := by omega
        have hmb : m ≤ m2 + 1 := by omega
        have hm2' : m2 < g' := by omega
        have hm2l : m2 ≤ len := by omega
        generalize L.getD 0 0 = c at *
        generalize L.drop 1 = L2 at *
        clear HS HX hS2 hm2
        by_cases h8 : 8 < m2
        · obtain ⟨X, hX, hW, hZ⟩ := HS2.out.word (by omega)
          have hand : bits .and .u64 (X : Int) 9259542123273814144 = ((X &&& 9259542123273814144 : Nat) : Int) := u64_and_nat X 9259542123273814144 hX (by omega)
          obtain ⟨Z, hZe⟩ : ∃ Z, X &&& 9259542123273814144 = Z := ⟨_, rfl⟩
          rw [hZe] at hand hZ
          have HW := Lib.hid hW
          have HZ := Lib.hid hZ
          clear hX hW hZ hZe
          by_cases hz : Z = 0
          · have hzb : ((Z : Int) == 0) = true := by simp [hz]
            have ha8 := HZ.out hz
            obtain ⟨a3, hS3, hrun3⟩ := HS2.out.drop 8 (m2 - 8) 8 rfl (by omega)
            have HX3 : Hid (T.tx (L2.drop 8) = ANS) := by
              show _ = _
              rw [T.tx_asc 8 L2 (by rw [HS2.out.1]; omega) ha8]
              exact HX2.out
            have HS3 := Lib.hid hS3
            obtain ⟨m3, hm3⟩ : ∃ m3, m2 - 8 = m3 := ⟨_, rfl⟩
            rw [hm3] at hrun3 HS3
            have hmc : m3 + 8 ≤ m2 := by omega
            have hmd : m2 ≤ m3 + 8 := by omega
            have hm3' : m3 < g' := by omega
            have hm3l : m3 ≤ len := by omega
            generalize L2.drop 8 = L3 at *
            clear ha8 hS3 hm3
            go_wp2_with (go_at_call 61; refine (HW.out _ HB.out).mono ?_; rintro e w1 ⟨rfl, q1, rfl⟩)
            have HB1 := Lib.hid (below_q HB.out q1)
            generalize wr.drewN q1 = wq at *
            clear hand hzb HW HZ HS2 HX2 hrun2 c0 hc256 hasc hsb HB
            by_cases h16 : 16 < m3
            · have h16z : (16 : Int) < (m3 : Int) := by omega
              have h16b : decide ((16 : Int) < (m3 : Int)) = true := by simp; omega
              obtain ⟨a8, X2, Y2, O2, Z2, hr8, hW2, hW3, ho2, hn2, hz2⟩ := HS3.out.words2 (by omega)
              have HK2 := Lib.hid (fun q => hW2 (wq.drewN q) (below_q HB1.out q))
              have HK3 := Lib.hid (fun q => hW3 (wq.drewN q) (below_q HB1.out q))
              have HZ2 := Lib.hid hz2
              clear hW2 hW3 hz2
              by_cases hz : Z2 = 0
              · as_aux_lemma =>
                  have hzb2 : ((Z2 : Int) == 0) = true := by simp [hz]
                  have ha16 := HZ2.out hz
                  obtain ⟨a4, hS4, hrun4⟩ := HS3.out.drop 16 (m3 - 16) 16 rfl (by omega)
                  have HX4 : Hid (T.tx (L3.drop 16) = ANS) := by
                    show _ = _
                    rw [T.tx_asc 16 L3 (by rw [HS3.out.1]; omega) ha16]
                    exact HX3.out
                  have HS4 := Lib.hid hS4
                  obtain ⟨m4, hm4⟩ : ∃ m4, m3 - 16 = m4 := ⟨_, rfl⟩
                  rw [hm4] at hrun4 HS4
                  have hme : m4 + 16 ≤ m3 := by omega
                  have hm4' : m4 < g' := by omega
                  have hm4l : m4 ≤ len := by omega
                  generalize L3.drop 16 = L4 at *
                  clear ha16 hS4 hm4 HX3 HZ2
                  go_quiet ((first | (go_at_call 61; with_reducible exact Calls.quiet_of (HK2.out _)) | (go_at_call 61; with_reducible exact Calls.quiet_of (HK3.out _))))
                  go_wp2
                  have HB2 := Lib.hid (below_q HB1.out nq)
                  generalize wq.drewN nq = w2 at *
                  clear HB1 HK2 HK3 ho2 hn2 hr8 hzb2 hz h16z h16b h16 HS3 hrun3 hrun4
                  go_loopg [0] (m4 + 1) (fun gi s0 wx => Hid (Below w.heap.size w wx) ∧ ∃ (a5 : Option Addr) (m5 : Nat) (L5 : List Nat), s0 = .slice a5 m5 m5 ∧ Hid (Sl B w a5 m5 L5) ∧ Hid (T.tx L5 = ANS) ∧ m5 < gi ∧ m5 ≤ m4)
                  case atStart => exact ⟨HB2, a4, m4, L4, rfl, HS4, HX4, by omega, Nat.le_refl _⟩
                  case round =>
                    obtain ⟨HB3, a5, m5, L5, rfl, HS5, HX5, hg5, hm5⟩ := hrel
                    clear HB2 HS4 HX4
                    by_cases h32 : 32 < m5
                    · have h32z : (32 : Int) < (m5 : Int) := by omega
                      have h32b : decide ((32 : Int) < (m5 : Int)) = true := by simp; omega
                      obtain ⟨b8, b16, b24, Y1, Y2, Y3, Y4, O1, O2, O3, Z5, hq8, hq16, hq24, hV1, hV2, hV3, hV4, ho1, ho2, ho3, hn5, hz5⟩ := HS5.out.words4 (by omega)
                      have HV1 := Lib.hid (fun q => hV1 (wr.drewN q) (below_q HB3.out q))
                      have HV2 := Lib.hid (fun q => hV2 (wr.drewN q) (below_q HB3.out q))
                      have HV3 := Lib.hid (fun q => hV3 (wr.drewN q) (below_q HB3.out q))
                      have HV4 := Lib.hid (fun q => hV4 (wr.drewN q) (below_q HB3.out q))
                      have HZ5 := Lib.hid hz5
                      clear hV1 hV2 hV3 hV4 hz5
                      by_cases hz : Z5 = 0
                      · have hzb5 : ((Z5 : Int) == 0) = true := by simp [hz]
                        have ha32 := HZ5.out hz
                        obtain ⟨a6, hS6, hrun6⟩ := HS5.out.drop 32 (m5 - 32) 32 rfl (by omega)
                        have HX6 : Hid (T.tx (L5.drop 32) = ANS) := by
                          show _ = _
                          rw [T.tx_asc 32 L5 (by rw [HS5.out.1]; omega) ha32]
                          exact HX5.out
                        have HS6 := Lib.hid hS6
                        obtain ⟨g6, rfl⟩ : ∃ g6, gk = g6 + 1 := ⟨gk - 1, by omega⟩
                        clear ha32 hS6 HZ5
                        go_wp2_with fail
                        go_quiet ((first | (go_at_call 61; with_reducible exact Calls.quiet_of (HV1.out _)) | (go_at_call 61; with_reducible exact Calls.quiet_of (HV2.out _)) | (go_at_call 61; with_reducible exact Calls.quiet_of (HV3.out _)) | (go_at_call 61; with_reducible exact Calls.quiet_of (HV4.out _))))
                        go_wp2
                        go_roundg g6
                        case measure => omega
                        case rel => exact ⟨below_q HB3.out _, a6, m5 - 32, L5.drop 32, rfl, HS6, HX6, by omega, by omega⟩
                      · have hzb5 : ((Z5 : Int) == 0) = false := by simp; omega
                        go_wp2_with fail
                        go_quiet ((first | (go_at_call 61; with_reducible exact Calls.quiet_of (HV1.out _)) | (go_at_call 61; with_reducible exact Calls.quiet_of (HV2.out _)) | (go_at_call 61; with_reducible exact Calls.quiet_of (HV3.out _)) | (go_at_call 61; with_reducible exact Calls.quiet_of (HV4.out _))))
                        go_wp2
                        go_roundg g'
                        case measure => omega
                        case rel => exact ⟨below_q HB3.out _, a5, m5, L5, rfl, HS5, HX5, by omega, by omega⟩
                    · have h32b : decide ((32 : Int) < (m5 : Int)) = false := by simp; omega
                      go_wp2_with fail
                      go_quiet (fail)
                      go_wp2
                      go_roundg g'
                      case measure => omega
                      case rel => exact ⟨below_q HB3.out _, a5, m5, L5, rfl, HS5, HX5, by omega, by omega⟩
              · have hzb2 : ((Z2 : Int) == 0) = false := by simp; omega
                go_quiet ((first | (go_at_call 61; with_reducible exact Calls.quiet_of (HK2.out _)) | (go_at_call 61; with_reducible exact Calls.quiet_of (HK3.out _))))
                go_wp2
                go_roundg g'
                case measure => omega
                case rel => exact ⟨below_q HB1.out _, a3, m3, L3, rfl, HS3, HX3, hm3', hm3l⟩
            · have h16b : decide ((16 : Int) < (m3 : Int)) = false := by simp; omega
              go_quiet (fail)
              go_wp2
              go_roundg g'
              case measure => omega
              case rel => exact ⟨below_q HB1.out _, a3, m3, L3, rfl, HS3, HX3, hm3', hm3l⟩
          · have hzb : ((Z : Int) == 0) = false := by simp; omega
            go_wp2_with (go_at_call 61; refine (HW.out _ HB.out).mono ?_; rintro e w1 ⟨rfl, q1, rfl⟩)
            go_roundg g'
            case measure => omega
            case rel => exact ⟨below_q HB.out q1, a2, m2, L2, rfl, HS2, HX2, hm2', hm2l⟩
        · go_wp2
          go_roundg g'
          case measure => omega
          case rel => exact ⟨HB, a2, m2, L2, rfl, HS2, HX2, hm2', hm2l⟩
    · have hge : 128 ≤ L.getD 0 0 := by omega
      obtain ⟨X, LO, HI, hX, t0, t1, t2, f2, f3, f4, f0⟩ := tab_cells (tabs_below HT.out HB.out) hge hc256
      have h7 := and7X ⟨X, hX⟩
      simp only at h7
      have hp0 : L.length ≠ 0 := by rw [HS.out.1]; omega
      have hszr := HB.out.size
      by_cases s2 : X % 8 = 2
      · as_aux_lemma =>
          obtain ⟨r1, r2, hLO, hHI⟩ := f2 s2
          have hSZz : (X : Int) % 8 = 2 := by omega
          have hld := T.lead2 hp0 r1 r2
          rw [HX.out] at hld
          have HLD := Lib.hid hld
          have HLO := Lib.hid hLO
          have HHI := Lib.hid hHI
          clear hld hLO hHI f2 f3 f4 f0 HX s2 HT
          generalize L.getD 0 0 = c at *
          obtain ⟨y, hy⟩ : ∃ v, L.getD 1 0 = v := ⟨_, rfl⟩
          have Hy := Lib.hid hy
          have ly := HS.out.2.lt 1
          rw [hy] at ly
          clear hy
          by_cases q0 : m < 2
          · have w0 : decide ((m : Int) < 2) = true := by simp; omega
            have v0 : (m : Int) < 2 := by omega
            have HF : Hid (ANS = false) := by
              show _ = _
              rw [HLD.out, if_neg]
              have e := T.getD_out (l := L) (j := 1) (by rw [HS.out.1]; omega)
              rintro ⟨h1, h2⟩; omega
            clear HLD HLO HHI HS
            go_wp2_with fail
            go_quiet (fail)
            go_wp2
            go_ret
            rw [HF.out]
            refine ⟨rfl, ?_⟩
            have hov := HB.out
            repeat (first | with_reducible exact hov | with_reducible refine below_q ?_ _ | with_reducible refine Below.alloc ?_ (by first | omega | (simp; done) | (simp; omega)) _)
          have w0 : decide ((m : Int) < 2) = false := by simp; omega
          have v0 : ¬ (m : Int) < 2 := by omega
          have p1 : (1 : Int) < (m : Int) := by omega
          have d1 : w.cell? ⟨b, o + 1, none⟩ = some (.int .u8 (y : Nat)) := by
            obtain ⟨b', o', e', h'⟩ := HS.out.2.cell (j := 1) (by rw [HS.out.1]; omega)
            cases e'
            rw [Hy.out] at h'
            exact h'
          have k1 := cell_below HB.out d1
          clear d1
          by_cases q1 : y < LO
          · have w1 : decide ((y : Int) < (LO : Int)) = true := by simp; omega
            have v1 : (y : Int) < (LO : Int) := by omega
            have HF : Hid (ANS = false) := by
              show _ = _
              rw [HLD.out, if_neg]
              have e0 := HLO.out; have e1 := HHI.out; have g1 := Hy.out
              rintro ⟨h1, h2⟩
              omega
            clear HLD HLO HHI HS
            go_wp2_with fail
            go_quiet (fail)
            go_wp2
            go_ret
            rw [HF.out]
            refine ⟨rfl, ?_⟩
            have hov := HB.out
            repeat (first | with_reducible exact hov | with_reducible refine below_q ?_ _ | with_reducible refine Below.alloc ?_ (by first | omega | (simp; done) | (simp; omega)) _)
          have w1 : decide ((y : Int) < (LO : Int)) = false := by simp; omega
          have v1 : ¬ (y : Int) < (LO : Int) := by omega
          by_cases q2 : HI < y
          · have w2 : decide ((HI : Int) < (y : Int)) = true := by simp; omega
            have v2 : (HI : Int) < (y : Int) := by omega
            have HF : Hid (ANS = false) := by
              show _ = _
              rw [HLD.out, if_neg]
              have e0 := HLO.out; have e1 := HHI.out; have g1 := Hy.out
              rintro ⟨h1, h2⟩
              omega
            clear HLD HLO HHI HS
            go_wp2_with fail
            go_quiet (fail)
            go_wp2
            go_ret
            rw [HF.out]
            refine ⟨rfl, ?_⟩
            have hov := HB.out
            repeat (first | with_reducible exact hov | with_reducible refine below_q ?_ _ | with_reducible refine Below.alloc ?_ (by first | omega | (simp; done) | (simp; omega)) _)
          have w2 : decide ((HI : Int) < (y : Int)) = false := by simp; omega
          have v2 : ¬ (HI : Int) < (y : Int) := by omega
          obtain ⟨a2, hS2, hrun2⟩ := HS.out.drop 2 (m - 2) 2 rfl (by omega)
          have HS2 := Lib.hid hS2
          have HX2 : Hid (T.tx (L.drop 2) = ANS) := by
            show _ = _
            rw [HLD.out, if_pos]
            have e0 := HLO.out; have e1 := HHI.out; have g1 := Hy.out
            exact ⟨by omega, by omega⟩
          clear HLD HLO HHI HS hS2
          go_wp2_with fail
          go_quiet (fail)
          go_wp2
          go_roundg g'
          case measure => omega
          case rel =>
            refine ⟨?_, a2, m - 2, L.drop 2, rfl, HS2, HX2, by omega, by omega⟩
            show Below _ _ _
            have hov := HB.out
            repeat (first | with_reducible exact hov | with_reducible refine below_q ?_ _ | with_reducible refine Below.alloc ?_ (by first | omega | (simp; done) | (simp; omega)) _)
      by_cases s3 : X % 8 = 3
      · as_aux_lemma =>
          obtain ⟨r1, r2, hLO, hHI⟩ := f3 s3
          have hSZz : (X : Int) % 8 = 3 := by omega
          have hld := T.lead3 hp0 r1 r2
          rw [HX.out] at hld
          have HLD := Lib.hid hld
          have HLO := Lib.hid hLO
          have HHI := Lib.hid hHI
          clear hld hLO hHI f2 f3 f4 f0 HX s3 HT
          generalize L.getD 0 0 = c at *
          obtain ⟨y, hy⟩ : ∃ v, L.getD 1 0 = v := ⟨_, rfl⟩
          have Hy := Lib.hid hy
          have ly := HS.out.2.lt 1
          rw [hy] at ly
          clear hy
          obtain ⟨z, hz⟩ : ∃ v, L.getD 2 0 = v := ⟨_, rfl⟩
          have Hz := Lib.hid hz
          have lz := HS.out.2.lt 2
          rw [hz] at lz
          clear hz
          by_cases q0 : m < 3
          · have w0 : decide ((m : Int) < 3) = true := by simp; omega
            have v0 : (m : Int) < 3 := by omega
            have HF : Hid (ANS = false) := by
              show _ = _
              rw [HLD.out, if_neg]
              have e := T.getD_out (l := L) (j := 2) (by rw [HS.out.1]; omega)
              rintro ⟨h1, h2, h3, h4⟩; omega
            clear HLD HLO HHI HS
            go_wp2_with fail
            go_quiet (fail)
            go_wp2
            go_ret
            rw [HF.out]
            refine ⟨rfl, ?_⟩
            have hov := HB.out
            repeat (first | with_reducible exact hov | with_reducible refine below_q ?_ _ | with_reducible refine Below.alloc ?_ (by first | omega | (simp; done) | (simp; omega)) _)
          have w0 : decide ((m : Int) < 3) = false := by simp; omega
          have v0 : ¬ (m : Int) < 3 := by omega
          have p1 : (1 : Int) < (m : Int) := by omega
          have d1 : w.cell? ⟨b, o + 1, none⟩ = some (.int .u8 (y : Nat)) := by
            obtain ⟨b', o', e', h'⟩ := HS.out.2.cell (j := 1) (by rw [HS.out.1]; omega)
            cases e'
            rw [Hy.out] at h'
            exact h'
          have k1 := cell_below HB.out d1
          clear d1
          have p2 : (2 : Int) < (m : Int) := by omega
          have d2 : w.cell? ⟨b, o + 2, none⟩ = some (.int .u8 (z : Nat)) := by
            obtain ⟨b', o', e', h'⟩ := HS.out.2.cell (j := 2) (by rw [HS.out.1]; omega)
            cases e'
            rw [Hz.out] at h'
            exact h'
          have k2 := cell_below HB.out d2
          clear d2
          by_cases q1 : y < LO
          · have w1 : decide ((y : Int) < (LO : Int)) = true := by simp; omega
            have v1 : (y : Int) < (LO : Int) := by omega
            have HF : Hid (ANS = false) := by
              show _ = _
              rw [HLD.out, if_neg]
              have e0 := HLO.out; have e1 := HHI.out; have g1 := Hy.out; have g2 := Hz.out
              rintro ⟨h1, h2, h3, h4⟩
              omega
            clear HLD HLO HHI HS
            go_wp2_with fail
            go_quiet (fail)
            go_wp2
            go_ret
            rw [HF.out]
            refine ⟨rfl, ?_⟩
            have hov := HB.out
            repeat (first | with_reducible exact hov | with_reducible refine below_q ?_ _ | with_reducible refine Below.alloc ?_ (by first | omega | (simp; done) | (simp; omega)) _)
          have w1 : decide ((y : Int) < (LO : Int)) = false := by simp; omega
          have v1 : ¬ (y : Int) < (LO : Int) := by omega
          by_cases q2 : HI < y
          · have w2 : decide ((HI : Int) < (y : Int)) = true := by simp; omega
            have v2 : (HI : Int) < (y : Int) := by omega
            have HF : Hid (ANS = false) := by
              show _ = _
              rw [HLD.out, if_neg]
              have e0 := HLO.out; have e1 := HHI.out; have g1 := Hy.out; have g2 := Hz.out
              rintro ⟨h1, h2, h3, h4⟩
              omega
            clear HLD HLO HHI HS
            go_wp2_with fail
            go_quiet (fail)
            go_wp2
            go_ret
            rw [HF.out]
            refine ⟨rfl, ?_⟩
            have hov := HB.out
            repeat (first | with_reducible exact hov | with_reducible refine below_q ?_ _ | with_reducible refine Below.alloc ?_ (by first | omega | (simp; done) | (simp; omega)) _)
          have w2 : decide ((HI : Int) < (y : Int)) = false := by simp; omega
          have v2 : ¬ (HI : Int) < (y : Int) := by omega
          by_cases q3 : z < 128
          · have w3 : decide ((z : Int) < 128) = true := by simp; omega
            have v3 : (z : Int) < 128 := by omega
            have HF : Hid (ANS = false) := by
              show _ = _
              rw [HLD.out, if_neg]
              have e0 := HLO.out; have e1 := HHI.out; have g1 := Hy.out; have g2 := Hz.out
              rintro ⟨h1, h2, h3, h4⟩
              omega
            clear HLD HLO HHI HS
            go_wp2_with fail
            go_quiet (fail)
            go_wp2
            go_ret
            rw [HF.out]
            refine ⟨rfl, ?_⟩
            have hov := HB.out
            repeat (first | with_reducible exact hov | with_reducible refine below_q ?_ _ | with_reducible refine Below.alloc ?_ (by first | omega | (simp; done) | (simp; omega)) _)
          have w3 : decide ((z : Int) < 128) = false := by simp; omega
          have v3 : ¬ (z : Int) < 128 := by omega
          by_cases q4 : 191 < z
          · have w4 : decide (191 < (z : Int)) = true := by simp; omega
            have v4 : 191 < (z : Int) := by omega
            have HF : Hid (ANS = false) := by
              show _ = _
              rw [HLD.out, if_neg]
              have e0 := HLO.out; have e1 := HHI.out; have g1 := Hy.out; have g2 := Hz.out
              rintro ⟨h1, h2, h3, h4⟩
              omega
            clear HLD HLO HHI HS
            go_wp2_with fail
            go_quiet (fail)
            go_wp2
            go_ret
            rw [HF.out]
            refine ⟨rfl, ?_⟩
            have hov := HB.out
            repeat (first | with_reducible exact hov | with_reducible refine below_q ?_ _ | with_reducible refine Below.alloc ?_ (by first | omega | (simp; done) | (simp; omega)) _)
          have w4 : decide (191 < (z : Int)) = false := by simp; omega
          have v4 : ¬ 191 < (z : Int) := by omega
          obtain ⟨a2, hS2, hrun2⟩ := HS.out.drop 3 (m - 3) 3 rfl (by omega)
          have HS2 := Lib.hid hS2
          have HX2 : Hid (T.tx (L.drop 3) = ANS) := by
            show _ = _
            rw [HLD.out, if_pos]
            have e0 := HLO.out; have e1 := HHI.out; have g1 := Hy.out; have g2 := Hz.out
            exact ⟨by omega, by omega, by omega, by omega⟩
          clear HLD HLO HHI HS hS2
          go_wp2_with fail
          go_quiet (fail)
          go_wp2
          go_roundg g'
          case measure => omega
          case rel =>
            refine ⟨?_, a2, m - 3, L.drop 3, rfl, HS2, HX2, by omega, by omega⟩
            show Below _ _ _
            have hov := HB.out
            repeat (first | with_reducible exact hov | with_reducible refine below_q ?_ _ | with_reducible refine Below.alloc ?_ (by first | omega | (simp; done) | (simp; omega)) _)
      by_cases s4 : X % 8 = 4
      · as_aux_lemma =>
          obtain ⟨r1, r2, hLO, hHI⟩ := f4 s4
          have hSZz : (X : Int) % 8 = 4 := by omega
          have hld := T.lead4 hp0 r1 r2
          rw [HX.out] at hld
          have HLD := Lib.hid hld
          have HLO := Lib.hid hLO
          have HHI := Lib.hid hHI
          clear hld hLO hHI f2 f3 f4 f0 HX s4 HT
          generalize L.getD 0 0 = c at *
          obtain ⟨y, hy⟩ : ∃ v, L.getD 1 0 = v := ⟨_, rfl⟩
          have Hy := Lib.hid hy
          have ly := HS.out.2.lt 1
          rw [hy] at ly
          clear hy
          obtain ⟨z, hz⟩ : ∃ v, L.getD 2 0 = v := ⟨_, rfl⟩
          have Hz := Lib.hid hz
          have lz := HS.out.2.lt 2
          rw [hz] at lz
          clear hz
          obtain ⟨u, hu⟩ : ∃ v, L.getD 3 0 = v := ⟨_, rfl⟩
          have Hu := Lib.hid hu
          have lu := HS.out.2.lt 3
          rw [hu] at lu
          clear hu
          by_cases q0 : m < 4
          · have w0 : decide ((m : Int) < 4) = true := by simp; omega
            have v0 : (m : Int) < 4 := by omega
            have HF : Hid (ANS = false) := by
              show _ = _
              rw [HLD.out, if_neg]
              have e := T.getD_out (l := L) (j := 3) (by rw [HS.out.1]; omega)
              rintro ⟨h1, h2, h3, h4, h5, h6⟩; omega
            clear HLD HLO HHI HS
            go_wp2_with fail
            go_quiet (fail)
            go_wp2
            go_ret
            rw [HF.out]
            refine ⟨rfl, ?_⟩
            have hov := HB.out
            repeat (first | with_reducible exact hov | with_reducible refine below_q ?_ _ | with_reducible refine Below.alloc ?_ (by first | omega | (simp; done) | (simp; omega)) _)
          have w0 : decide ((m : Int) < 4) = false := by simp; omega
          have v0 : ¬ (m : Int) < 4 := by omega
          have p1 : (1 : Int) < (m : Int) := by omega
          have d1 : w.cell? ⟨b, o + 1, none⟩ = some (.int .u8 (y : Nat)) := by
            obtain ⟨b', o', e', h'⟩ := HS.out.2.cell (j := 1) (by rw [HS.out.1]; omega)
            cases e'
            rw [Hy.out] at h'
            exact h'
          have k1 := cell_below HB.out d1
          clear d1
          have p2 : (2 : Int) < (m : Int) := by omega
          have d2 : w.cell? ⟨b, o + 2, none⟩ = some (.int .u8 (z : Nat)) := by
            obtain ⟨b', o', e', h'⟩ := HS.out.2.cell (j := 2) (by rw [HS.out.1]; omega)
            cases e'
            rw [Hz.out] at h'
            exact h'
          have k2 := cell_below HB.out d2
          clear d2
          have p3 : (3 : Int) < (m : Int) := by omega
          have d3 : w.cell? ⟨b, o + 3, none⟩ = some (.int .u8 (u : Nat)) := by
            obtain ⟨b', o', e', h'⟩ := HS.out.2.cell (j := 3) (by rw [HS.out.1]; omega)
            cases e'
            rw [Hu.out] at h'
            exact h'
          have k3 := cell_below HB.out d3
          clear d3
          by_cases q1 : y < LO
          · have w1 : decide ((y : Int) < (LO : Int)) = true := by simp; omega
            have v1 : (y : Int) < (LO : Int) := by omega
            have HF : Hid (ANS = false) := by
              show _ = _
              rw [HLD.out, if_neg]
              have e0 := HLO.out; have e1 := HHI.out; have g1 := Hy.out; have g2 := Hz.out; have g3 := Hu.out
              rintro ⟨h1, h2, h3, h4, h5, h6⟩
              omega
            clear HLD HLO HHI HS
            go_wp2_with fail
            go_quiet (fail)
            go_wp2
            go_ret
            rw [HF.out]
            refine ⟨rfl, ?_⟩
            have hov := HB.out
            repeat (first | with_reducible exact hov | with_reducible refine below_q ?_ _ | with_reducible refine Below.alloc ?_ (by first | omega | (simp; done) | (simp; omega)) _)
          have w1 : decide ((y : Int) < (LO : Int)) = false := by simp; omega
          have v1 : ¬ (y : Int) < (LO : Int) := by omega
          by_cases q2 : HI < y
          · have w2 : decide ((HI : Int) < (y : Int)) = true := by simp; omega
            have v2 : (HI : Int) < (y : Int) := by omega
            have HF : Hid (ANS = false) := by
              show _ = _
              rw [HLD.out, if_neg]
              have e0 := HLO.out; have e1 := HHI.out; have g1 := Hy.out; have g2 := Hz.out; have g3 := Hu.out
              rintro ⟨h1, h2, h3, h4, h5, h6⟩
              omega
            clear HLD HLO HHI HS
            go_wp2_with fail
            go_quiet (fail)
            go_wp2
            go_ret
            rw [HF.out]
            refine ⟨rfl, ?_⟩
            have hov := HB.out
            repeat (first | with_reducible exact hov | with_reducible refine below_q ?_ _ | with_reducible refine Below.alloc ?_ (by first | omega | (simp; done) | (simp; omega)) _)
          have w2 : decide ((HI : Int) < (y : Int)) = false := by simp; omega
          have v2 : ¬ (HI : Int) < (y : Int) := by omega
          by_cases q3 : z < 128
          · have w3 : decide ((z : Int) < 128) = true := by simp; omega
            have v3 : (z : Int) < 128 := by omega
            have HF : Hid (ANS = false) := by
              show _ = _
              rw [HLD.out, if_neg]
              have e0 := HLO.out; have e1 := HHI.out; have g1 := Hy.out; have g2 := Hz.out; have g3 := Hu.out
              rintro ⟨h1, h2, h3, h4, h5, h6⟩
              omega
            clear HLD HLO HHI HS
            go_wp2_with fail
            go_quiet (fail)
            go_wp2
            go_ret
            rw [HF.out]
            refine ⟨rfl, ?_⟩
            have hov := HB.out
            repeat (first | with_reducible exact hov | with_reducible refine below_q ?_ _ | with_reducible refine Below.alloc ?_ (by first | omega | (simp; done) | (simp; omega)) _)
          have w3 : decide ((z : Int) < 128) = false := by simp; omega
          have v3 : ¬ (z : Int) < 128 := by omega
          by_cases q4 : 191 < z
          · have w4 : decide (191 < (z : Int)) = true := by simp; omega
            have v4 : 191 < (z : Int) := by omega
            have HF : Hid (ANS = false) := by
              show _ = _
              rw [HLD.out, if_neg]
              have e0 := HLO.out; have e1 := HHI.out; have g1 := Hy.out; have g2 := Hz.out; have g3 := Hu.out
              rintro ⟨h1, h2, h3, h4, h5, h6⟩
              omega
            clear HLD HLO HHI HS
            go_wp2_with fail
            go_quiet (fail)
            go_wp2
            go_ret
            rw [HF.out]
            refine ⟨rfl, ?_⟩
            have hov := HB.out
            repeat (first | with_reducible exact hov | with_reducible refine below_q ?_ _ | with_reducible refine Below.alloc ?_ (by first | omega | (simp; done) | (simp; omega)) _)
          have w4 : decide (191 < (z : Int)) = false := by simp; omega
          have v4 : ¬ 191 < (z : Int) := by omega
          by_cases q5 : u < 128
          · have w5 : decide ((u : Int) < 128) = true := by simp; omega
            have v5 : (u : Int) < 128 := by omega
            have HF : Hid (ANS = false) := by
              show _ = _
              rw [HLD.out, if_neg]
              have e0 := HLO.out; have e1 := HHI.out; have g1 := Hy.out; have g2 := Hz.out; have g3 := Hu.out
              rintro ⟨h1, h2, h3, h4, h5, h6⟩
              omega
            clear HLD HLO HHI HS
            go_wp2_with fail
            go_quiet (fail)
            go_wp2
            go_ret
            rw [HF.out]
            refine ⟨rfl, ?_⟩
            have hov := HB.out
            repeat (first | with_reducible exact hov | with_reducible refine below_q ?_ _ | with_reducible refine Below.alloc ?_ (by first | omega | (simp; done) | (simp; omega)) _)
          have w5 : decide ((u : Int) < 128) = false := by simp; omega
          have v5 : ¬ (u : Int) < 128 := by omega
          by_cases q6 : 191 < u
          · have w6 : decide (191 < (u : Int)) = true := by simp; omega
            have v6 : 191 < (u : Int) := by omega
            have HF : Hid (ANS = false) := by
              show _ = _
              rw [HLD.out, if_neg]
              have e0 := HLO.out; have e1 := HHI.out; have g1 := Hy.out; have g2 := Hz.out; have g3 := Hu.out
              rintro ⟨h1, h2, h3, h4, h5, h6⟩
              omega
            clear HLD HLO HHI HS
            go_wp2_with fail
            go_quiet (fail)
            go_wp2
            go_ret
            rw [HF.out]
            refine ⟨rfl, ?_⟩
            have hov := HB.out
            repeat (first | with_reducible exact hov | with_reducible refine below_q ?_ _ | with_reducible refine Below.alloc ?_ (by first | omega | (simp; done) | (simp; omega)) _)
          have w6 : decide (191 < (u : Int)) = false := by simp; omega
          have v6 : ¬ 191 < (u : Int) := by omega
          obtain ⟨a2, hS2, hrun2⟩ := HS.out.drop 4 (m - 4) 4 rfl (by omega)
          have HS2 := Lib.hid hS2
          have HX2 : Hid (T.tx (L.drop 4) = ANS) := by
            show _ = _
            rw [HLD.out, if_pos]
            have e0 := HLO.out; have e1 := HHI.out; have g1 := Hy.out; have g2 := Hz.out; have g3 := Hu.out
            exact ⟨by omega, by omega, by omega, by omega, by omega, by omega⟩
          clear HLD HLO HHI HS hS2
          go_wp2_with fail
          go_quiet (fail)
          go_wp2
          go_roundg g'
          case measure => omega
          case rel =>
            refine ⟨?_, a2, m - 4, L.drop 4, rfl, HS2, HX2, by omega, by omega⟩
            show Below _ _ _
            have hov := HB.out
            repeat (first | with_reducible exact hov | with_reducible refine below_q ?_ _ | with_reducible refine Below.alloc ?_ (by first | omega | (simp; done) | (simp; omega)) _)
      have HF : Hid (ANS = false) := by
        show _ = _
        rw [← HX.out]
        exact T.lead0 hp0 hge (f0 s2 s3 s4)
      have e2 : ((X : Int) % 8 == 2) = false := by simp; omega
      have e3 : ((X : Int) % 8 == 3) = false := by simp; omega
      have e4 : ((X : Int) % 8 == 4) = false := by simp; omega
      clear f2 f3 f4 f0 HX HS
      generalize L.getD 0 0 = c at *
      go_wp2
      go_ret
      rw [HF.out]
      refine ⟨rfl, ?_⟩
      have hov := HB.out
      repeat (first | with_reducible exact hov | with_reducible refine below_q ?_ _ | with_reducible refine Below.alloc ?_ (by first | omega | (simp; done) | (simp; omega)) _)
end Go.Proofs.YtnejachdacakcaaDoor
