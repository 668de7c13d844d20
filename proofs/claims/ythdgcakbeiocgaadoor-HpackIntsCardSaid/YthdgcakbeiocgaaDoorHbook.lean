/-
The walk of huff.newBook: it makes the whole code, whatever stands in memory.
-/
import Derived.Test.YthdgcakbeiocgaaDoorHsmall
import Derived.Test.YthdgcakbeiocgaaDoorHzero
import Derived.Test.YthdgcakbeiocgaaDoorGblk
import Derived.StillTailTactics
namespace Go.Proofs.YthdgcakbeiocgaaDoor
open Go.RowKit

/-- What the cells of a book hold. -/
def bkF (C O S F : Nat → Nat) (j : Nat) : Value :=
  if j < 257 then .int .u32 (C j) else if j < 514 then .int .u16 (O (j - 257)) else if j < 546 then .int .i64 (S (j - 514)) else .int .u32 (F (j - 546))

theorem zero118 : zeroBook = ((List.range 578).map (bkF (fun _ => 0) (fun _ => 0) (fun _ => 0) (fun _ => 0))).toArray := by kernel_rfl

theorem bkF_S (C O S F : Nat → Nat) (m v : Nat) (hm : m < 32) (j : Nat) : (if j = 514 + m then .int .i64 (v : Nat) else bkF C O S F j) = bkF C O (fun i => if i = m then v else S i) F j := by
  unfold bkF
  by_cases e : j = 514 + m
  · rw [if_pos e, if_neg (show ¬ j < 257 by omega), if_neg (show ¬ j < 514 by omega), if_pos (show j < 546 by omega)]
    show _ = Value.int .i64 ((if j - 514 = m then v else S (j - 514) : Nat) : Int)
    rw [if_pos (by omega)]
  · rw [if_neg e]
    by_cases h0 : j < 257
    · rw [if_pos h0, if_pos h0]
    rw [if_neg h0, if_neg h0]
    by_cases h1 : j < 514
    · rw [if_pos h1, if_pos h1]
    rw [if_neg h1, if_neg h1]
    by_cases h2 : j < 546
    · rw [if_pos h2, if_pos h2]
      show _ = Value.int .i64 ((if j - 514 = m then v else S (j - 514) : Nat) : Int)
      rw [if_neg (by omega)]
    rw [if_neg h2, if_neg h2]
theorem bkF_F (C O S F : Nat → Nat) (m v : Nat) (hm : m < 32) (j : Nat) : (if j = 546 + m then .int .u32 (v : Nat) else bkF C O S F j) = bkF C O S (fun i => if i = m then v else F i) j := by
  unfold bkF
  by_cases e : j = 546 + m
  · rw [if_pos e, if_neg (show ¬ j < 257 by omega), if_neg (show ¬ j < 514 by omega), if_neg (show ¬ j < 546 by omega)]
    show _ = Value.int .u32 ((if j - 546 = m then v else F (j - 546) : Nat) : Int)
    rw [if_pos (by omega)]
  · rw [if_neg e]
    by_cases h0 : j < 257
    · rw [if_pos h0, if_pos h0]
    rw [if_neg h0, if_neg h0]
    by_cases h1 : j < 514
    · rw [if_pos h1, if_pos h1]
    rw [if_neg h1, if_neg h1]
    by_cases h2 : j < 546
    · rw [if_pos h2, if_pos h2]
    rw [if_neg h2, if_neg h2]
    show _ = Value.int .u32 ((if j - 546 = m then v else F (j - 546) : Nat) : Int)
    rw [if_neg (by omega)]
theorem bkF_C (C O S F : Nat → Nat) (m v : Nat) (hm : m < 257) (j : Nat) : (if j = m then .int .u32 (v : Nat) else bkF C O S F j) = bkF (fun i => if i = m then v else C i) O S F j := by
  unfold bkF
  by_cases e : j = m
  · rw [if_pos e, if_pos (show j < 257 by omega)]
    show _ = Value.int .u32 ((if j = m then v else C (j) : Nat) : Int)
    rw [if_pos (by omega)]
  · rw [if_neg e]
    by_cases h0 : j < 257
    · rw [if_pos h0, if_pos h0]
      show _ = Value.int .u32 ((if j = m then v else C (j) : Nat) : Int)
      rw [if_neg (by omega)]
    rw [if_neg h0, if_neg h0]
theorem bkF_O (C O S F : Nat → Nat) (m v : Nat) (hm : m < 257) (j : Nat) : (if j = 257 + m then .int .u16 (v : Nat) else bkF C O S F j) = bkF C (fun i => if i = m then v else O i) S F j := by
  unfold bkF
  by_cases e : j = 257 + m
  · rw [if_pos e, if_neg (show ¬ j < 257 by omega), if_pos (show j < 514 by omega)]
    show _ = Value.int .u16 ((if j - 257 = m then v else O (j - 257) : Nat) : Int)
    rw [if_pos (by omega)]
  · rw [if_neg e]
    by_cases h0 : j < 257
    · rw [if_pos h0, if_pos h0]
    rw [if_neg h0, if_neg h0]
    by_cases h1 : j < 514
    · rw [if_pos h1, if_pos h1]
      show _ = Value.int .u16 ((if j - 257 = m then v else O (j - 257) : Nat) : Int)
      rw [if_neg (by omega)]
    rw [if_neg h1, if_neg h1]
theorem bkF_ext {C O S F C' O' S' F' : Nat → Nat} (h1 : ∀ i, i < 257 → C i = C' i) (h2 : ∀ i, i < 257 → O i = O' i) (h3 : ∀ i, i < 32 → S i = S' i) (h4 : ∀ i, i < 32 → F i = F' i) : ∀ j, j < 578 → bkF C O S F j = bkF C' O' S' F' j := by
  intro j hj
  unfold bkF
  by_cases a : j < 257
  · rw [if_pos a, if_pos a, h1 j a]
  rw [if_neg a, if_neg a]
  by_cases b : j < 514
  · rw [if_pos b, if_pos b, h2 _ (by omega)]
  rw [if_neg b, if_neg b]
  by_cases c : j < 546
  · rw [if_pos c, if_pos c, h3 _ (by omega)]
  rw [if_neg c, if_neg c, h4 _ (by omega)]
theorem bkF_at_S (C O S F : Nat → Nat) (m : Nat) (hm : m < 32) : bkF C O S F (514 + m) = .int .i64 (S m) := by
  unfold bkF
  rw [if_neg (by omega), if_neg (by omega), if_pos (by omega), show 514 + m - 514 = m from by omega]
theorem bkF_at_F (C O S F : Nat → Nat) (m : Nat) (hm : m < 32) : bkF C O S F (546 + m) = .int .u32 (F m) := by
  unfold bkF
  rw [if_neg (by omega), if_neg (by omega), if_neg (by omega), show 546 + m - 546 = m from by omega]
theorem bkF_at_C (C O S F : Nat → Nat) (m : Nat) (hm : m < 257) : bkF C O S F m = .int .u32 (C m) := by
  unfold bkF
  rw [if_pos hm]
theorem bkF_at_O (C O S F : Nat → Nat) (m : Nat) (hm : m < 257) : bkF C O S F (257 + m) = .int .u16 (O m) := by
  unfold bkF
  rw [if_neg (by omega), if_pos (by omega), show 257 + m - 257 = m from by omega]

/-- How many of the first k symbols have m - 1 bits. -/
def cs (k : Nat) : Nat → Nat
  | 0 => 0
  | m + 1 => H.cnt m k
theorem cs_succ (k m : Nat) : cs (k + 1) m = if m = H.b k + 1 then cs k (H.b k + 1) + 1 else cs k m := by
  cases m with
  | zero => simp [cs]
  | succ m =>
    have e : cs (k + 1) (m + 1) = H.cnt m k + if H.b k = m then 1 else 0 := rfl
    rw [e]
    by_cases h : m = H.b k
    · subst h; simp [cs]
    · rw [if_neg (fun e => h e.symm), if_neg (by omega)]; rfl
theorem cs_le (k m : Nat) : cs k m ≤ k := by
  cases m with
  | zero => simp [cs]
  | succ m => exact H.cnt_le m k

def Bk (w : World) (g : Nat) (C O S F : Nat → Nat) : Prop := Blk w g 578 (bkF C O S F)

theorem Bk.setS {w : World} {g : Nat} {C O S F : Nat → Nat} (h : Bk w g C O S F) {m v : Nat} (hm : m < 32) : Bk (w.setCell ⟨g, 514 + m, none⟩ (.int .i64 (v : Nat))) g C O (fun i => if i = m then v else S i) F :=
  (Blk.set h (by omega) _).ext fun j _ => bkF_S C O S F m v hm j
theorem Bk.setF {w : World} {g : Nat} {C O S F : Nat → Nat} (h : Bk w g C O S F) {m v : Nat} (hm : m < 32) : Bk (w.setCell ⟨g, 546 + m, none⟩ (.int .u32 (v : Nat))) g C O S (fun i => if i = m then v else F i) :=
  (Blk.set h (by omega) _).ext fun j _ => bkF_F C O S F m v hm j
theorem Bk.setC {w : World} {g : Nat} {C O S F : Nat → Nat} (h : Bk w g C O S F) {m v : Nat} (hm : m < 257) : Bk (w.setCell ⟨g, m, none⟩ (.int .u32 (v : Nat))) g (fun i => if i = m then v else C i) O S F :=
  (Blk.set h (by omega) _).ext fun j _ => bkF_C C O S F m v hm j
theorem Bk.setO {w : World} {g : Nat} {C O S F : Nat → Nat} (h : Bk w g C O S F) {m v : Nat} (hm : m < 257) : Bk (w.setCell ⟨g, 257 + m, none⟩ (.int .u16 (v : Nat))) g C (fun i => if i = m then v else O i) S F :=
  (Blk.set h (by omega) _).ext fun j _ => bkF_O C O S F m v hm j
theorem Bk.congr {w : World} {g : Nat} {C O S F C' O' S' F' : Nat → Nat} (h : Bk w g C O S F) (h1 : ∀ i, i < 257 → C i = C' i) (h2 : ∀ i, i < 257 → O i = O' i) (h3 : ∀ i, i < 32 → S i = S' i) (h4 : ∀ i, i < 32 → F i = F' i) : Bk w g C' O' S' F' :=
  Blk.ext h (bkF_ext h1 h2 h3 h4)
theorem Bk.atS {w : World} {g : Nat} {C O S F : Nat → Nat} (h : Bk w g C O S F) (m : Nat) (hm : m < 32) : w.cell? ⟨g, 514 + m, none⟩ = some (.int .i64 (S m)) ∧ w.frozen? ⟨g, 514 + m, none⟩ = false := by
  have := h (514 + m) (by omega)
  rw [bkF_at_S _ _ _ _ m hm] at this
  exact this
theorem Bk.atF {w : World} {g : Nat} {C O S F : Nat → Nat} (h : Bk w g C O S F) (m : Nat) (hm : m < 32) : w.cell? ⟨g, 546 + m, none⟩ = some (.int .u32 (F m)) ∧ w.frozen? ⟨g, 546 + m, none⟩ = false := by
  have := h (546 + m) (by omega)
  rw [bkF_at_F _ _ _ _ m hm] at this
  exact this
theorem Bk.atC {w : World} {g : Nat} {C O S F : Nat → Nat} (h : Bk w g C O S F) (m : Nat) (hm : m < 257) : w.cell? ⟨g, m, none⟩ = some (.int .u32 (C m)) ∧ w.frozen? ⟨g, m, none⟩ = false := by
  have := h m (by omega)
  rw [bkF_at_C _ _ _ _ m hm] at this
  exact this
theorem Bk.atO {w : World} {g : Nat} {C O S F : Nat → Nat} (h : Bk w g C O S F) (m : Nat) (hm : m < 257) : w.cell? ⟨g, 257 + m, none⟩ = some (.int .u16 (O m)) ∧ w.frozen? ⟨g, 257 + m, none⟩ = false := by
  have := h (257 + m) (by omega)
  rw [bkF_at_O _ _ _ _ m hm] at this
  exact this

theorem Bk.new (w : World) : Bk (w.alloc (.cells zeroBook 118)) w.heap.size (fun _ => 0) (fun _ => 0) (fun _ => 0) (fun _ => 0) := by
  have h := Blk.new w zeroBook 118 (bkF (fun _ => 0) (fun _ => 0) (fun _ => 0) (fun _ => 0)) (fun j hj => by
    rw [zero118] at hj ⊢
    simp at hj
    simp [hj])
  rw [show (zeroBook).size = 578 by kernel_rfl] at h
  exact h

def z32 : List Value := List.replicate 32 (.int .i64 0)
theorem run_alloc_32 (w : World) : (Instr.alloc 115 true (.tuple #[])).run Tryd.prog w = .ok (.pointer (some ⟨w.heap.size, 0, none⟩)) (w.alloc (.cells z32.toArray 115)) := by
  kernel_rfl
theorem z32_len : z32.length = 32 := by simp [z32]
theorem z32_get (j : Nat) (hj : j < 32) : z32.toArray[j]? = some (.int .i64 0) := by
  rw [List.getElem?_toArray, z32, List.getElem?_replicate, if_pos hj]

/-- The whole code as a value. -/
def bookL : List Value := (List.range 578).map (bkF H.cod (H.ord 257) H.st H.first)
theorem bookL_len : bookL.length = 578 := by rw [bookL, List.length_map, List.length_range]
theorem bookL_get (j : Nat) (hj : j < 578) : bookL[j]? = some (bkF H.cod (H.ord 257) H.st H.first j) := by
  rw [bookL, List.getElem?_map, List.getElem?_range hj]; rfl
theorem bkF_one (C O S F : Nat → Nat) (j : Nat) : (bkF C O S F j).oneCell' = true := by
  unfold bkF
  split
  · rfl
  · split
    · rfl
    · split <;> rfl
theorem bookL_one : ∀ v ∈ bookL, v.oneCell' = true := by
  intro v hv
  obtain ⟨i, _, rfl⟩ := List.mem_map.1 hv
  exact bkF_one _ _ _ _ i
/-- What newBook hands back. -/
def BookOut (w : World) (e : Ending) (w' : World) : Prop := e = .returned (.agg bookL.toArray) ∧ Below w.heap.size w w'

set_option maxRecDepth 100000 in
set_option maxHeartbeats 1000000 in
theorem newBook_any (w : World) : Calls Tryd.prog 67 #[] w (BookOut w) := by
  have hk0 := Bk.new w
  have hk1 := Bk.new (w.alloc (.cells zeroBook 118))
  have hk0 := Blk.alloc hk0 (.cells zeroBook 118)
  have HR := Lib.hid hk0
  rw [World.size_alloc] at hk1
  have HK := Lib.hid hk1
  have HB0 : Hid (Below w.heap.size w ((w.alloc (.cells zeroBook 118)).alloc (.cells zeroBook 118))) := ((Below.refl _ _).alloc (Nat.le_refl _) _).alloc (by simp) _
  clear hk0 hk1
  go_enter Tryd.func67, Tryd.ntmps67
  go_wp2
  generalize hw0 : (w.alloc (.cells zeroBook 118)).alloc (.cells zeroBook 118) = w0 at *
  have hz0 : Hid (w0.heap.size = w.heap.size + 2) := by rw [← hw0]; show _ = _; simp
  clear hw0
  go_loopw [7] (fun i wr => ∃ k : Nat, k ≤ 257 ∧ i = .int .i64 k ∧ Hid (Bk wr (w.heap.size + 1) (fun _ => 0) (fun _ => 0) (cs k) (fun _ => 0)) ∧ Hid (Blk wr w.heap.size 578 (bkF (fun _ => 0) (fun _ => 0) (fun _ => 0) (fun _ => 0))) ∧ Hid (Below w.heap.size w wr) ∧ Hid (wr.heap.size = w.heap.size + 2)) (fun i _ => 257 - (intOf i).toNat)
  case atStart =>
    refine ⟨0, Nat.zero_le _, rfl, ?_, HR, HB0, hz0⟩
    exact Bk.congr HK.out (fun _ _ => rfl) (fun _ _ => rfl) (fun i _ => by cases i <;> rfl) (fun _ _ => rfl)
  case round =>
    obtain ⟨k, hk, rfl, HBk, HBr, HB, Hz⟩ := hrel
    clear HK HR HB0 hz0
    by_cases hlt : k < 257
    · have hb := H.b_bounds k
      have HS := Lib.hid (cs_succ k)
      obtain ⟨c1, c2⟩ := HBk.out.atS (H.b k + 1) (by omega)
      have hcl := cs_le k (H.b k + 1)
      generalize hcs : cs k (H.b k + 1) = c at *
      have Hcs := Lib.hid hcs
      clear hcs
      go_wp2_with (go_at_call 85; refine (bitsOf_any k _ hlt).mono ?_; rintro e w1 ⟨rfl, rfl⟩)
      go_roundw
      case rel =>
        refine ⟨k + 1, by omega, by go_num, ?_, ?_, ?_, ?_⟩
        · rw [show ((c : Int) + 1) = ((c + 1 : Nat) : Int) from by omega]
          exact (HBk.out.setS (by omega)).congr (fun _ _ => rfl) (fun _ _ => rfl) (fun i _ => (HS.out i).symm) (fun _ _ => rfl)
        · exact HBr.out.set_other (by show w.heap.size + 1 ≠ _; omega) _
        · exact HB.out.setCell (by show w.heap.size ≤ w.heap.size + 1; omega) _
        · show _ = _; rw [World.size_setCell]; exact Hz.out
      case measure => simp [intOf]; omega
    · obtain rfl : k = 257 := by omega
      have HBk2 : Hid (Bk wr (w.heap.size + 1) (fun _ => 0) (fun _ => 0) (fun m => if m < 1 then H.st m else cs 257 m) (fun m => if m < 1 then H.first m else 0)) :=
        HBk.out.congr (fun _ _ => rfl) (fun _ _ => rfl) (fun i _ => by
          by_cases h : i < 1
          · obtain rfl : i = 0 := by omega
            rfl
          · rw [if_neg h]) (fun i _ => by
          by_cases h : i < 1
          · obtain rfl : i = 0 := by omega
            rfl
          · rw [if_neg h])
      clear HBk
      go_wp2
      go_loopw [3] (fun i wq => ∃ k : Nat, k ≤ 31 ∧ i = .int .i64 ((k : Int) + 1) ∧ Hid (Bk wq (w.heap.size + 1) (fun _ => 0) (fun _ => 0) (fun m => if m < k + 1 then H.st m else cs 257 m) (fun m => if m < k + 1 then H.first m else 0)) ∧ Hid (Blk wq w.heap.size 578 (bkF (fun _ => 0) (fun _ => 0) (fun _ => 0) (fun _ => 0))) ∧ Hid (Below w.heap.size w wq) ∧ Hid (wq.heap.size = w.heap.size + 2)) (fun i _ => 32 - (intOf i).toNat)
      case atStart => exact ⟨0, by omega, rfl, HBk2, HBr, HB, Hz⟩
      case round =>
        clear HBk2 HBr HB Hz
        obtain ⟨k, hk, rfl, HBk, HBr, HB, Hz⟩ := hrel
        by_cases hlt : k < 31
        · have ha := HBk.out.atF k (by omega)
          rw [if_pos (by omega)] at ha
          have hb := HBk.out.atS (k + 1) (by omega)
          rw [if_neg (by omega)] at hb
          have hc := HBk.out.atF (k + 1) (by omega)
          have hd := HBk.out.atS k (by omega)
          rw [if_pos (by omega)] at hd
          obtain ⟨a1, _⟩ := ha
          obtain ⟨b1, b2⟩ := hb
          obtain ⟨_, c2⟩ := hc
          obtain ⟨d1, _⟩ := hd
          have E1 : Hid (H.first (k + 1) = (H.first k + cs 257 (k + 1)) * 2) := rfl
          have E2 : Hid (H.st (k + 1) = H.st k + cs 257 (k + 1)) := rfl
          have hf : H.first k + cs 257 (k + 1) ≤ 2147483648 := by
            have h1 := H.first_cnt k (by omega)
            have h2 : 2 ^ k ≤ 2 ^ 30 := Nat.pow_le_pow_right (by omega) (by omega)
            have e : (2 : Nat) ^ 30 = 1073741824 := by decide
            show H.first k + H.cnt k 257 ≤ _
            omega
          have hf2 : (H.first k + cs 257 (k + 1)) * 2 ≤ 4294967295 := by
            have h1 := H.first_cnt k (by omega)
            have h2 : 2 ^ k ≤ 2 ^ 30 := Nat.pow_le_pow_right (by omega) (by omega)
            have e : (2 : Nat) ^ 30 = 1073741824 := by decide
            show (H.first k + H.cnt k 257) * 2 ≤ _
            omega
          have hs : H.st k ≤ 257 := H.st_le k (by omega)
          have hc0 := cs_le 257 (k + 1)
          generalize hcc : cs 257 (k + 1) = c at *
          generalize H.first k = f at *
          generalize hss : H.st k = s at *
          have Hcc := Lib.hid hcc
          have Hss := Lib.hid hss
          clear hcc hss
          have hn1 : 546 + (k + 1) ≠ 546 + k := by omega
          have hn2 : 546 + (k + 1) ≠ 514 + (k + 1) := by omega
          have k0 : (0 : Int) ≤ (k : Int) := by omega
          have k1 : (k : Int) < 32 := by omega
          have k2 : (0 : Int) ≤ (k : Int) + 1 := by omega
          have k3 : (k : Int) + 1 < 32 := by omega
          have k4 : ((k : Int) + 1).toNat = k + 1 := by omega
          have k5 : IntKind.i64.wrap ((k : Int) + 1 - 1) = (k : Int) := by rw [IntKind.wrap_i64]; omega
          have k6 : IntKind.i64.wrap (k : Int) = (k : Int) := by rw [IntKind.wrap_i64]; omega
          have k7 : IntKind.u32.wrap (c : Int) = (c : Int) := by rw [IntKind.wrap_u32]; omega
          have k8 : IntKind.u32.wrap ((f : Int) + c) = (f : Int) + c := by rw [IntKind.wrap_u32]; omega
          have k9 : IntKind.u32.wrap (((f : Int) + c) * 2) = ((f : Int) + c) * 2 := by rw [IntKind.wrap_u32]; omega
          go_wp2
          go_still_tail 15, (by kernel_rfl)
          go_wp2
          clear k6 k7 k8 k9
          have HBk1 : Hid (Bk (wr.setCell ⟨w.heap.size + 1, 546 + (k + 1), none⟩ (.int .u32 (((f : Int) + c) * 2))).drew (w.heap.size + 1) (fun _ => 0) (fun _ => 0) (fun m => if m < k + 1 then H.st m else cs 257 m) (fun m => if m < k + 1 + 1 then H.first m else 0)) := by
            have e : (((f : Int) + c) * 2) = ((((f + c) * 2 : Nat) : Int)) := by omega
            rw [e]
            refine Blk.drew ((HBk.out.setF (v := (f + c) * 2) (by omega)).congr (fun _ _ => rfl) (fun _ _ => rfl) (fun _ _ => rfl) (fun i _ => ?_))
            by_cases hi : i = k + 1
            · subst hi
              rw [if_pos rfl, if_pos (by omega), E1.out]
            · rw [if_neg hi]
              by_cases hi2 : i < k + 1
              · rw [if_pos hi2, if_pos (by omega)]
              · rw [if_neg hi2, if_neg (by omega)]
          have HBr1 : Hid (Blk (wr.setCell ⟨w.heap.size + 1, 546 + (k + 1), none⟩ (.int .u32 (((f : Int) + c) * 2))).drew w.heap.size 578 (bkF (fun _ => 0) (fun _ => 0) (fun _ => 0) (fun _ => 0))) :=
            Blk.drew (HBr.out.set_other (by show w.heap.size + 1 ≠ _; omega) _)
          have HB1 : Hid (Below w.heap.size w (wr.setCell ⟨w.heap.size + 1, 546 + (k + 1), none⟩ (.int .u32 (((f : Int) + c) * 2))).drew) :=
            (HB.out.setCell (by show w.heap.size ≤ w.heap.size + 1; omega) _).drew
          have Hz1 : Hid ((wr.setCell ⟨w.heap.size + 1, 546 + (k + 1), none⟩ (.int .u32 (((f : Int) + c) * 2))).drew.heap.size = w.heap.size + 2) := by
            show _ = _
            show (wr.setCell _ _).heap.size = _
            rw [World.size_setCell]; exact Hz.out
          clear HBk HBr HB Hz a1 b1 b2 c2 d1
          generalize (wr.setCell ⟨w.heap.size + 1, 546 + (k + 1), none⟩ (.int .u32 (((f : Int) + c) * 2))).drew = w2 at *
          clear hn1 hn2
          have hb := HBk1.out.atS (k + 1) (by omega)
          rw [if_neg (by omega)] at hb
          have hd := HBk1.out.atS k (by omega)
          rw [if_pos (by omega)] at hd
          rw [Hcc.out] at hb
          rw [Hss.out] at hd
          obtain ⟨b1, b2⟩ := hb
          obtain ⟨d1, _⟩ := hd
          have k6 : IntKind.i64.wrap (k : Int) = (k : Int) := by rw [IntKind.wrap_i64]; omega
          have k7 : IntKind.i64.wrap ((c : Int) + s) = ((s + c : Nat) : Int) := by rw [IntKind.wrap_i64]; omega
          have hn1 : 514 + (k + 1) ≠ 514 + k := by omega
          go_still_tail 12, (by kernel_rfl)
          go_wp2
          go_roundw
          case rel =>
            clear k5 k6 k7 k4
            refine ⟨k + 1, by omega, by go_num, ?_, ?_, ?_, ?_⟩
            · rw [show ((s : Int) + c) = ((s + c : Nat) : Int) from by omega]
              refine Blk.drew ((HBk1.out.setS (v := s + c) (by omega)).congr (fun _ _ => rfl) (fun _ _ => rfl) (fun i _ => ?_) (fun _ _ => rfl))
              by_cases hi : i = k + 1
              · subst hi
                rw [if_pos rfl, if_pos (by omega), E2.out]
              · rw [if_neg hi]
                by_cases hi2 : i < k + 1
                · rw [if_pos hi2, if_pos (by omega)]
                · rw [if_neg hi2, if_neg (by omega)]
            · exact Blk.drew (HBr1.out.set_other (by show w.heap.size + 1 ≠ _; omega) _)
            · exact (HB1.out.setCell (by show w.heap.size ≤ w.heap.size + 1; omega) _).drew
            · show (w2.setCell _ _).heap.size = _
              rw [World.size_setCell]; exact Hz1.out
          case measure =>
            clear k5 k6 k7 k4
            simp [intOf]; omega
        · obtain rfl : k = 31 := by omega
          have HBk2 : Hid (Bk wr (w.heap.size + 1) (fun _ => 0) (fun _ => 0) H.st H.first) :=
            HBk.out.congr (fun _ _ => rfl) (fun _ _ => rfl) (fun i hi => by rw [if_pos (by omega)]) (fun i hi => by rw [if_pos (by omega)])
          clear HBk
          obtain ⟨SL, hSL⟩ : ∃ l : List Value, l = (List.range 32).map (fun i => .int .i64 (H.st i : Nat)) := ⟨_, rfl⟩
          have hl : SL.length = 32 := by rw [hSL]; simp
          have hget : ∀ j, j < 32 → SL[j]? = some (.int .i64 (H.st j : Nat)) := by
            intro j hj
            rw [hSL, List.getElem?_map, List.getElem?_range hj]; rfl
          have hone : Hid (∀ v ∈ SL, v.oneCell' = true) := by
            intro v hv
            rw [hSL] at hv
            obtain ⟨i, _, rfl⟩ := List.mem_map.1 hv
            rfl
          have hrange : Hid (wr.rangeAt (w.heap.size + 1) 514 SL) := by
            intro j v hv
            have hj : j < 32 := by rw [← hl]; exact (List.getElem?_eq_some_iff.1 hv).1
            rw [hget j hj] at hv
            cases hv
            exact (HBk2.out.atS j hj).1
          have Hget := Lib.hid hget
          have Hl := Lib.hid hl
          clear hSL hget hl
          go_upto_region 12 with (fail)
          go_step
          refine wpList_plain rfl fun K hK => ?_
          go_simp
          refine hK _ _ ?_
          clear hK K
          refine wpList_load_mid rfl 115 (.tmp 51) (by rfl) (w.heap.size + 1) 514 (by rfl) SL _ hrange.out Tryd.underlying115 (by rfl) (by rw [Hl.out]; kernel_rfl) ?_
          refine wpList_alloc_big rfl 115 rfl z32.toArray run_alloc_32 ?_
          have hnew := Blk.new wr z32.toArray 115 (fun _ => .int .i64 0) (fun j hj => z32_get j (by simpa [z32_len] using hj))
          rw [show z32.toArray.size = 32 from by simp [z32_len]] at hnew
          have hsl : SL.toArray.size = 32 := by rw [List.size_toArray]; exact Hl.out
          refine wpList_store_mid rfl 115 (.tmp 4) (.tmp 52) (by rfl) wr.heap.size 0 SL.toArray (by rfl) (by rfl) (by rw [hsl]; exact hnew.there (by omega)) (by rw [hsl]; kernel_rfl) (all_oneCell_toArray hone.out) ?_
          clear hsl
          have hz := Hz.out
          have HN : Hid (Blk ((wr.alloc (.cells z32.toArray 115)).setCells wr.heap.size 0 SL.toArray.toList) (w.heap.size + 2) 32 (fun m => .int .i64 ((H.st m + H.cnt m 0 : Nat) : Int))) := by
            have h := hnew.setCells (vs := SL.toArray.toList) (by rw [List.toList_toArray]; exact Hl.out) (h := fun m => .int .i64 ((H.st m + H.cnt m 0 : Nat) : Int)) (fun j hj => by rw [List.toList_toArray]; exact Hget.out j hj)
            rw [hz] at h ⊢
            exact h
          have HK : Hid (Bk ((wr.alloc (.cells z32.toArray 115)).setCells wr.heap.size 0 SL.toArray.toList) (w.heap.size + 1) (fun j => if j < 0 then H.cod j else 0) (H.ord 0) H.st H.first) :=
            (Blk.setCells_other (Blk.alloc HBk2.out _) (by omega) _ _).ext (bkF_ext (fun _ _ => rfl) (fun _ _ => rfl) (fun _ _ => rfl) (fun _ _ => rfl))
          have HR : Hid (Blk ((wr.alloc (.cells z32.toArray 115)).setCells wr.heap.size 0 SL.toArray.toList) w.heap.size 578 (bkF (fun _ => 0) (fun _ => 0) (fun _ => 0) (fun _ => 0))) :=
            Blk.setCells_other (Blk.alloc HBr.out _) (by omega) _ _
          have HB3 : Hid (Below w.heap.size w ((wr.alloc (.cells z32.toArray 115)).setCells wr.heap.size 0 SL.toArray.toList)) :=
            below_setCells _ (by omega) _ _ (HB.out.alloc (by omega) _)
          rw [Hz.out]
          rw [Hz.out] at HN HK HR HB3
          generalize (wr.alloc (.cells z32.toArray 115)).setCells (w.heap.size + 2) 0 SL.toArray.toList = w3 at *
          clear hnew hone hrange Hget Hl HBr HB Hz HBk2 hz
          go_wp2
          go_loopw [53] (fun i wq => ∃ k : Nat, k ≤ 257 ∧ i = .int .i64 k ∧ Hid (Bk wq (w.heap.size + 1) (fun j => if j < k then H.cod j else 0) (H.ord k) H.st H.first) ∧ Hid (Blk wq (w.heap.size + 2) 32 (fun m => .int .i64 ((H.st m + H.cnt m k : Nat) : Int))) ∧ Hid (Blk wq w.heap.size 578 (bkF (fun _ => 0) (fun _ => 0) (fun _ => 0) (fun _ => 0))) ∧ Hid (Below w.heap.size w wq)) (fun i _ => 257 - (intOf i).toNat)
          case atStart => exact ⟨0, by omega, rfl, HK, HN, HR, HB3⟩
          case round =>
            clear HK HN HR HB3
            obtain ⟨k, hk, rfl, HK, HN, HR, HB⟩ := hrel
            by_cases hlt : k < 257
            · have hb := H.b_bounds k
              obtain ⟨m, q, st0, n, hm, hq, hs, hn⟩ : ∃ m q s n, m = H.b k ∧ q = H.first (H.b k) ∧ s = H.st (H.b k) ∧ n = H.cnt (H.b k) k := ⟨_, _, _, _, rfl, rfl, rfl, rfl⟩
              have hp : st0 + n < 257 := by rw [hs, hn]; exact H.place_lt257 hlt
              have hcl : q + n < 1073741824 := by rw [hq, hn]; exact H.cod_lt32 k hlt
              have Hcod : Hid (H.cod k = q + n) := by show H.cod k = _; rw [hq, hn]; rfl
              have Hpl : Hid (H.place k = st0 + n) := by show H.place k = _; rw [hs, hn]; rfl
              have a := HK.out.atF m (by omega)
              have b := HK.out.atS m (by omega)
              have c0 := HN.out m (by omega)
              have d := HK.out.atC k hlt
              have e := HK.out.atO (st0 + n) hp
              rw [show H.first m = q by rw [hm, hq]] at a
              rw [show H.st m = st0 by rw [hm, hs]] at b
              have c : wr.cell? ⟨w.heap.size + 2, m, none⟩ = some (.int .i64 ((st0 : Int) + n)) ∧ wr.frozen? ⟨w.heap.size + 2, m, none⟩ = false := by
                refine ⟨?_, c0.2⟩
                rw [c0.1]
                show some (Value.int .i64 ((H.st m + H.cnt m k : Nat) : Int)) = _
                rw [hm, ← hs, ← hn, Int.natCast_add]
              have Hcnt : Hid (∀ j, H.cnt j (k + 1) = if j = m then n + 1 else H.cnt j k) := by
                intro j
                show H.cnt j k + (if H.b k = j then 1 else 0) = _
                by_cases hj : j = m
                · rw [if_pos hj, hj, hm, if_pos rfl, hn]
                · rw [if_neg hj, if_neg (fun h => hj (by rw [hm, h])), Nat.add_zero]
              have Hst : Hid (H.st m = st0) := by show _ = _; rw [hm, hs]
              have HC : Hid (∀ w, Calls Tryd.prog 85 #[.int .i64 k] w fun e w' => e = .returned (.int .i64 m) ∧ w = w') := fun w => by rw [hm]; exact bitsOf_any k w hlt
              rw [← hm] at hb
              clear hm hq hs hn c0
              obtain ⟨a1, _⟩ := a
              obtain ⟨b1, _⟩ := b
              obtain ⟨c1, c2⟩ := c
              obtain ⟨d1, d2⟩ := d
              obtain ⟨e1, e2⟩ := e
              have k0 : (0 : Int) ≤ (m : Int) := by omega
              have k1 : (m : Int) < 32 := by omega
              have k2 : (0 : Int) ≤ (k : Int) := by omega
              have k3 : (k : Int) < 257 := by omega
              have k4 : IntKind.i64.wrap ((st0 : Int) + n - st0) = (n : Int) := by rw [IntKind.wrap_i64]; omega
              have k5 : IntKind.u32.wrap (n : Int) = (n : Int) := by rw [IntKind.wrap_u32]; omega
              have k6 : IntKind.u32.wrap ((q : Int) + n) = ((q + n : Nat) : Int) := by rw [IntKind.wrap_u32]; omega
              have hn1 : w.heap.size + 1 ≠ w.heap.size + 2 := by omega
              go_upto_region 17 with (go_at_call 85; refine (HC.out _).mono ?_; rintro e w1 ⟨rfl, rfl⟩)
              go_still_tail 17, (by kernel_rfl)
              go_upto_region 18 with (fail)
              clear k4 k5 k6
              have hx : w.heap.size + 2 ≠ w.heap.size + 1 := by omega
              have HK1 : Hid (Bk (wr.setCell ⟨w.heap.size + 1, k, none⟩ (.int .u32 ((q : Int) + n))).drew (w.heap.size + 1) (fun j => if j < k + 1 then H.cod j else 0) (H.ord k) H.st H.first) := by
                rw [show ((q : Int) + n) = ((q + n : Nat) : Int) from by omega]
                refine Blk.drew ((HK.out.setC (v := q + n) hlt).congr (fun i _ => ?_) (fun _ _ => rfl) (fun _ _ => rfl) (fun _ _ => rfl))
                by_cases hi : i = k
                · rw [if_pos hi, if_pos (by omega), hi, Hcod.out]
                · rw [if_neg hi]
                  by_cases hi2 : i < k
                  · rw [if_pos hi2, if_pos (by omega)]
                  · rw [if_neg hi2, if_neg (by omega)]
              have HN1 : Hid (Blk (wr.setCell ⟨w.heap.size + 1, k, none⟩ (.int .u32 ((q : Int) + n))).drew (w.heap.size + 2) 32 (fun m => .int .i64 ((H.st m + H.cnt m k : Nat) : Int))) :=
                Blk.drew (HN.out.set_other (by show w.heap.size + 1 ≠ _; omega) _)
              have HR1 : Hid (Blk (wr.setCell ⟨w.heap.size + 1, k, none⟩ (.int .u32 ((q : Int) + n))).drew w.heap.size 578 (bkF (fun _ => 0) (fun _ => 0) (fun _ => 0) (fun _ => 0))) :=
                Blk.drew (HR.out.set_other (by show w.heap.size + 1 ≠ _; omega) _)
              have HB1 : Hid (Below w.heap.size w (wr.setCell ⟨w.heap.size + 1, k, none⟩ (.int .u32 ((q : Int) + n))).drew) :=
                (HB.out.setCell (by show w.heap.size ≤ w.heap.size + 1; omega) _).drew
              have c5 : (wr.setCell ⟨w.heap.size + 1, k, none⟩ (.int .u32 ((q : Int) + n))).drew.cell? ⟨w.heap.size + 2, m, none⟩ = some (.int .i64 ((st0 : Int) + n)) :=
                (World.cell?_setCell_other _ _ _ _ (fun h => hn1 (congrArg Addr.block h))).trans c1
              clear HK HN HR HB a1 b1 c1 c2 d1 d2 e1 e2
              generalize (wr.setCell ⟨w.heap.size + 1, k, none⟩ (.int .u32 ((q : Int) + n))).drew = w1 at *
              have c6 := (HN1.out m (by omega)).2
              obtain ⟨e1, e2⟩ := HK1.out.atO (st0 + n) hp
              have k4 : (0 : Int) ≤ (st0 : Int) + n := by omega
              have k5 : (st0 : Int) + n < 257 := by omega
              have k6 : ((st0 : Int) + n).toNat = st0 + n := by omega
              have k7 : IntKind.u16.wrap (k : Int) = (k : Int) := by rw [IntKind.wrap_u16]; omega
              go_wp2
              go_roundw
              case rel =>
                clear k4 k5 k6 k7
                refine ⟨k + 1, by omega, by go_num, ?_, ?_, ?_, ?_⟩
                · exact Blk.set_other ((HK1.out.setO (v := k) hp).congr (fun _ _ => rfl) (fun i _ => by
                    show (if i = st0 + n then k else H.ord k i) = H.ord (k + 1) i
                    rw [← Hpl.out]; rfl) (fun _ _ => rfl) (fun _ _ => rfl)) (by show w.heap.size + 2 ≠ _; omega) _
                · refine Blk.ext (Blk.set (Blk.set_other HN1.out (by show w.heap.size + 1 ≠ _; omega) _) (show m < 32 by omega) _) fun j hj => ?_
                  show (if j = m then Value.int .i64 ((st0 : Int) + n + 1) else Value.int .i64 ((H.st j + H.cnt j k : Nat) : Int)) = Value.int .i64 ((H.st j + H.cnt j (k + 1) : Nat) : Int)
                  rw [Hcnt.out j]
                  by_cases hj2 : j = m
                  · rw [if_pos hj2, if_pos hj2, hj2, Hst.out]
                    congr 1
                  · rw [if_neg hj2, if_neg hj2]
                · exact Blk.set_other (Blk.set_other HR1.out (by show w.heap.size + 1 ≠ _; omega) _) (by show w.heap.size + 2 ≠ _; omega) _
                · exact (HB1.out.setCell (by show w.heap.size ≤ w.heap.size + 1; omega) _).setCell (by show w.heap.size ≤ w.heap.size + 2; omega) _
              case measure => simp [intOf]; omega
            · obtain rfl : k = 257 := by omega
              go_upto_region 21 with (fail)
              have hk2 : Bk wr (w.heap.size + 1) H.cod (H.ord 257) H.st H.first := HK.out.congr (fun i hi => by rw [if_pos hi]) (fun _ _ => rfl) (fun _ _ => rfl) (fun _ _ => rfl)
              have hr : wr.rangeAt (w.heap.size + 1) 0 bookL := Blk.rangeAt hk2 fun j hj => by
                rw [bookL_len] at hj
                rw [Nat.zero_add]
                exact ⟨hj, bookL_get j hj⟩
              have hth := HR.out.there (o := 0) (m := 578) (by omega)
              have hsz : bookL.toArray.size = 578 := by rw [List.size_toArray]; exact bookL_len
              go_step
              refine wpList_load_mid rfl 118 (.tmp 1) (by rfl) (w.heap.size + 1) 0 (by rfl) bookL _ hr Tryd.underlying118 (by rfl) (by rw [bookL_len]; kernel_rfl) ?_
              refine wpList_store_mid rfl 118 (.tmp 0) (.tmp 88) (by rfl) w.heap.size 0 bookL.toArray (by rfl) (by rfl) (by rw [hsz]; exact hth) (by rw [hsz]; kernel_rfl) (all_oneCell_toArray bookL_one) ?_
              have hf := HR.out.setCells (vs := bookL.toArray.toList) (by rw [List.toList_toArray]; exact bookL_len) (h := bkF H.cod (H.ord 257) H.st H.first) (fun j hj => by rw [List.toList_toArray]; exact bookL_get j hj)
              have hb := below_setCells w.heap.size (Nat.le_refl _) bookL.toArray.toList 0 HB.out
              generalize wr.setCells w.heap.size 0 bookL.toArray.toList = w4 at *
              go_wp2
              have hl := run_loadVar_mid (P := Tryd.prog) w4 w.heap.size 0 118 bookL _ (Blk.rangeAt hf fun j hj => by
                rw [bookL_len] at hj
                rw [Nat.zero_add]
                exact ⟨hj, bookL_get j hj⟩) Tryd.underlying118 (by rfl) (by rw [bookL_len]; kernel_rfl)
              clear hf hsz hth hr hk2
              exact bodyPost_ret (v := .agg bookL.toArray) (results_cell1 rfl _ (by rfl) hl) rfl ⟨rfl, hb⟩
end Go.Proofs.YthdgcakbeiocgaaDoor
