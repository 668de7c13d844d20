/-
The plain facts of chapter 2, third part: what the shifts of the writer and of the reader do to rows of bits.
-/
import Derived.StillTailTactics
import Derived.Deep.CutBlock
import Derived.Test.YtcbljbdcnahfhaaDoorMhm
import Derived.Test.YtcbljbdcnahfhaaDoorMga
import Derived.Test.YtcbljbdcnahfhaaDoorProg
/- Hnum -/
namespace Go.Proofs.YtcbljbdcnahfhaaDoor
namespace H

theorem shl_div (x n : Nat) (hn : n ≤ 64) : x * 2 ^ n % 18446744073709551616 = x % 2 ^ (64 - n) * 2 ^ n := by
  have e : (18446744073709551616 : Nat) = 2 ^ (64 - n) * 2 ^ n := by rw [← Nat.pow_add, show 64 - n + n = 64 from by omega]
  rw [e, Nat.mul_mod_mul_right]

theorem mul_add_mod_lt (a b c : Nat) (hc : c < b) : (a * b + c) % b = c := by
  rw [Nat.add_comm, Nat.add_mul_mod_self_right, Nat.mod_eq_of_lt hc]

/-- A code is laid behind what is held. -/
theorem nb_lay (held n last c : Nat) (hn : held + n ≤ 64) (hc : c < 2 ^ n) : nb (held + n) (last * 2 ^ n % 18446744073709551616 + c) = nb held last ++ nb n c := by
  have hp : 0 < 2 ^ n := Nat.two_pow_pos n
  rw [nb_split, shl_div last n (by omega)]
  have e1 : (last % 2 ^ (64 - n) * 2 ^ n + c) / 2 ^ n = last % 2 ^ (64 - n) := by
    rw [Nat.mul_comm, Nat.mul_add_div hp, Nat.div_eq_of_lt hc, Nat.add_zero]
  rw [e1, nb_mod held (64 - n) last (by omega)]
  rw [← nb_mod n n (last % 2 ^ (64 - n) * 2 ^ n + c) (Nat.le_refl _), mul_add_mod_lt _ _ _ hc]

theorem lay_or (last n c : Nat) (hn : n ≤ 64) (hc : c < 2 ^ n) : (last * 2 ^ n % 18446744073709551616) ||| c = last * 2 ^ n % 18446744073709551616 + c := by
  rw [shl_div last n hn, Nat.mul_comm, Nat.two_pow_add_eq_or_of_lt hc]

/-- A byte is taken off the front. -/
theorem nb_off (held last : Nat) (h : 8 ≤ held) : nb held last = nb 8 (last / 2 ^ (held - 8) % 256) ++ nb (held - 8) last := by
  have e := nb_split 8 (held - 8) last
  rw [show 8 + (held - 8) = held from by omega] at e
  rw [e]
  have := nb_mod 8 8 (last / 2 ^ (held - 8)) (Nat.le_refl _)
  rw [show (2 : Nat) ^ 8 = 256 from by decide] at this
  rw [this]

/-- The last byte: what is held, and 1s behind it. -/
theorem nb_last (held last : Nat) (h : held ≤ 8) : nb 8 ((last * 2 ^ (8 - held) % 256) ||| (2 ^ (8 - held) - 1)) = nb held last ++ List.replicate (8 - held) true := by
  have hp : 0 < 2 ^ (8 - held) := Nat.two_pow_pos _
  have e1 : last * 2 ^ (8 - held) % 256 = last % 2 ^ held * 2 ^ (8 - held) := by
    have e : (256 : Nat) = 2 ^ held * 2 ^ (8 - held) := by rw [← Nat.pow_add, show held + (8 - held) = 8 from by omega]
    rw [e, Nat.mul_mod_mul_right]
  rw [e1, Nat.mul_comm, ← Nat.two_pow_add_eq_or_of_lt (by omega), Nat.mul_comm]
  have e2 := nb_split held (8 - held) (last % 2 ^ held * 2 ^ (8 - held) + (2 ^ (8 - held) - 1))
  rw [show held + (8 - held) = 8 from by omega] at e2
  rw [e2]
  have e3 : (last % 2 ^ held * 2 ^ (8 - held) + (2 ^ (8 - held) - 1)) / 2 ^ (8 - held) = last % 2 ^ held := by
    rw [Nat.mul_comm, Nat.mul_add_div hp, Nat.div_eq_of_lt (by omega), Nat.add_zero]
  rw [e3, nb_mod held held last (Nat.le_refl _), ← nb_mod (8 - held) (8 - held) (last % 2 ^ held * 2 ^ (8 - held) + (2 ^ (8 - held) - 1)) (Nat.le_refl _)]
  rw [Nat.add_comm, Nat.add_mul_mod_self_right, Nat.mod_eq_of_lt (by omega), nb_ones]

/-- What is held lies below. -/
theorem nb_keep (held last : Nat) : nb held (last % 2 ^ held) = nb held last := nb_mod held held last (Nat.le_refl _)

/-- The bit that is read next. -/
def bitAt (l : List Nat) (A : Nat) : Nat := l.getD (A / 8) 0 / 2 ^ (7 - A % 8) % 2
theorem bitAt_lt (l : List Nat) (A : Nat) : bitAt l A < 2 := Nat.mod_lt _ (by decide)
theorem drop_bit (l : List Nat) (A : Nat) (h : A < 8 * l.length) : (bb l).drop A = (bitAt l A == 1) :: (bb l).drop (A + 1) := by
  have h2 : A < (bb l).length := by rw [bb_len]; exact h
  rw [List.drop_eq_getElem_cons h2]
  have := bb_get l A h
  rw [List.getElem?_eq_getElem h2] at this
  rw [Option.some.inj this]
  rfl
theorem dec_read (l : List Nat) (A c n : Nat) (h : A < 8 * l.length) : dec ((bb l).drop A) c n = match sym (c * 2 + bitAt l A) (n + 1) with
    | none => dec ((bb l).drop (A + 1)) (c * 2 + bitAt l A) (n + 1)
    | some i => if i = 256 then none else (dec ((bb l).drop (A + 1)) 0 0).map (i :: ·) := by
  rw [drop_bit l A h, dec_cons]
  have e : (if (bitAt l A == 1) = true then 1 else 0) = bitAt l A := by
    have := bitAt_lt l A
    by_cases h1 : bitAt l A = 1
    · rw [if_pos (by simp [h1]), h1]
    · rw [if_neg (by simp [h1])]; omega
  rw [e]
  rfl
theorem dec_end (l : List Nat) (c n : Nat) : dec ((bb l).drop (8 * l.length)) c n = if n < 8 ∧ c = 2 ^ n - 1 then some [] else none := by
  rw [List.drop_of_length_le (by rw [bb_len]; exact Nat.le_refl _)]
  rfl
theorem map_app (t _u : List Nat) (x : Option (List Nat)) (i : Nat) : (x.map (i :: ·)).map (t ++ ·) = x.map ((t ++ [i]) ++ ·) := by
  cases x <;> simp
end H
end Go.Proofs.YtcbljbdcnahfhaaDoor
/- Hsmall -/
namespace Go.Proofs.YtcbljbdcnahfhaaDoor
open Go.RowKit

set_option maxRecDepth 100000 in
set_option maxHeartbeats 400000 in
theorem bitsOf_any (i : Nat) (w : World) (hi : i < 257) : Calls Tryd.prog 85 #[.int .i64 i] w fun e w' => e = .returned (.int .i64 (H.b i)) ∧ w = w' := by
  go_enter Tryd.func85, Tryd.ntmps85
  go_wp2
  go_ret
  refine ⟨?_, rfl⟩
  refine congrArg (fun n => Ending.returned (Value.int IntKind.i64 n)) ?_
  rename_i h1
  clear w
  revert h1; revert hi; revert i
  decide +kernel

theorem ones_any (n : Nat) (w : World) (h : n ≤ 30) : Calls Tryd.prog 68 #[.int .i64 n] w fun e w' => e = .returned (.int .u32 ((2 ^ n - 1 : Nat) : Int)) ∧ w = w' := by
  go_enter Tryd.func68, Tryd.ntmps68
  go_wp2
  go_ret
  refine ⟨?_, rfl⟩
  refine congrArg (fun n => Ending.returned (Value.int IntKind.u32 n)) ?_
  have h1 : 2 ^ n ≤ 2 ^ 30 := Nat.pow_le_pow_right (by omega) h
  have h2 : 0 < 2 ^ n := Nat.two_pow_pos n
  have e : (2 : Nat) ^ 30 = 1073741824 := by decide
  have e2 : (2 : Int) ^ n = ((2 ^ n : Nat) : Int) := by push_cast; rfl
  rw [e2]
  generalize 2 ^ n = k at *
  omega

/-- How many bits the first i bytes of a text have. -/
theorem eb_take_succ (l : List Nat) (i : Nat) (h : i < l.length) : (H.eb (l.take (i + 1))).length = (H.eb (l.take i)).length + H.b (l.getD i 0) := by
  rw [List.take_succ_eq_append_getElem h, H.eb_app, List.length_append, H.eb_one, H.nb_len, List.getD_eq_getElem?_getD, List.getElem?_eq_getElem h]
  rfl

/-- A text's bytes. -/
def by_ (s : ByteArray) : List Nat := s.data.toList.map UInt8.toNat
theorem by_len (s : ByteArray) : (by_ s).length = s.size := by
  unfold by_
  rw [List.length_map]
  rfl
theorem by_lt (s : ByteArray) : ∀ x ∈ by_ s, x < 256 := by
  intro x hx
  obtain ⟨c, _, rfl⟩ := List.mem_map.1 hx
  exact c.toNat_lt
theorem by_get (s : ByteArray) (k : Nat) (h : k < s.size) : (by_ s).getD k 0 = s[k].toNat := by
  rw [List.getD_eq_getElem?_getD, List.getElem?_eq_getElem (by rw [by_len]; exact h)]
  show (by_ s)[k]'(by rw [by_len]; exact h) = _
  unfold by_
  rw [List.getElem_map]
  rfl

theorem hsize_any (s : ByteArray) (w : World) (hs : s.size ≤ 140737488355328) : Calls Tryd.prog 63 #[.string s] w fun e w' => e = .returned (.int .i64 (H.sz (by_ s))) ∧ w = w' := by
  go_enter Tryd.func63, Tryd.ntmps63
  go_wp2
  go_loop [3, 4, 7] (fun n _ i => ∃ k : Nat, k ≤ s.size ∧ i = .int .i64 k ∧ n = .int .i64 ((H.eb ((by_ s).take k)).length : Nat)) (fun _ _ i => s.size - (intOf i).toNat)
  case atStart => exact ⟨0, Nat.zero_le _, rfl, rfl⟩
  case round =>
    obtain ⟨k, hk, rfl, rfl⟩ := hrel
    have hbd := (H.eb_bounds ((by_ s).take k)).2
    have hl : ((by_ s).take k).length ≤ k := List.length_take_le _ _
    have hbd2 : (H.eb ((by_ s).take k)).length ≤ 30 * k := by omega
    by_cases hlt : k < s.size
    · have HS := Lib.hid (eb_take_succ (by_ s) k (by rw [by_len]; exact hlt))
      have HG := Lib.hid (by_get s k hlt)
      have hb := H.b_bounds ((by_ s).getD k 0)
      have hc : s[k].toNat < 256 := s[k].toNat_lt
      rw [HG.out] at hb
      generalize (H.eb ((by_ s).take k)).length = L at *
      clear hbd hl
      go_wp2_with (go_at_call 85; refine (bitsOf_any s[k].toNat _ (by omega)).mono ?_; rintro e w1 ⟨rfl, rfl⟩)
      go_round
      case rel => exact ⟨k + 1, by omega, by go_num, by rw [HS.out, HG.out]; go_num⟩
      case measure => simp [intOf]; omega
    · obtain rfl : k = s.size := by omega
      go_wp2
      go_ret
      refine ⟨?_, rfl⟩
      rw [List.take_of_length_le (by rw [by_len]; exact Nat.le_refl _)]
      refine congrArg (fun n => Ending.returned (Value.int IntKind.i64 n)) ?_
      unfold H.sz
      omega

end Go.Proofs.YtcbljbdcnahfhaaDoor
/- Hstr -/
namespace Go.Proofs.YtcbljbdcnahfhaaDoor
open Go.RowKit

theorem strOf_toList (l : List Nat) : (strOf l).data.toList = l.map UInt8.ofNat := by
  unfold strOf
  rw [strOfNums_data, List.map_map]
  apply List.map_congr_left
  intro x _
  simp
theorem strOf_by (s : ByteArray) : strOf (by_ s) = s := by
  apply ByteArray.ext
  apply Array.toList_inj.1
  rw [strOf_toList]
  unfold by_
  rw [List.map_map]
  conv => rhs; rw [← List.map_id s.data.toList]
  apply List.map_congr_left
  intro x _
  simp
theorem by_strOf (t : List Nat) (h : ∀ x ∈ t, x < 256) : by_ (strOf t) = t := by
  unfold by_
  rw [strOf_toList, List.map_map]
  conv => rhs; rw [← List.map_id t]
  apply List.map_congr_left
  intro x hx
  show (UInt8.ofNat x).toNat = x
  rw [UInt8.toNat_ofNat']
  exact Nat.mod_eq_of_lt (h x hx)
theorem strOf_size (t : List Nat) : (strOf t).size = t.length := by
  show (strOf t).data.size = _
  rw [← Array.length_toList, strOf_toList, List.length_map]
theorem by_app (s t : ByteArray) : by_ (s ++ t) = by_ s ++ by_ t := by
  unfold by_
  rw [ByteArray.data_append, Array.toList_append, List.map_append]

namespace H
theorem dec_len {l t : List Nat} (hl : ∀ x ∈ l, x < 256) (h : decB l = some t) : 5 * t.length ≤ 8 * l.length := by
  have h1 := enc_dec hl h
  have h2 := bb_enc t
  rw [h1] at h2
  have h3 := congrArg List.length h2
  rw [bb_len, List.length_append] at h3
  have := (eb_bounds t).1
  omega
theorem decB_lt {l t : List Nat} (h : decB l = some t) : ∀ x ∈ t, x < 256 := dec_lt _ 0 0 t h

theorem first_step (n : Nat) : ∀ k, (first n + cnt n 257) * 2 ^ (k + 1) ≤ first (n + (k + 1))
  | 0 => by
    show _ ≤ (first n + cnt n 257) * 2
    simp
  | k + 1 => by
    have h := first_step n k
    have e : first (n + (k + 1 + 1)) = (first (n + (k + 1)) + cnt (n + (k + 1)) 257) * 2 := rfl
    rw [e, Nat.pow_succ, ← Nat.mul_assoc]
    exact Nat.mul_le_mul_right 2 (by omega)

/-- No code begins another one's. -/
theorem apart {i j : Nat} (hi : i < 257) (hne : i ≠ j) (hb : b i ≤ b j) : cod j / 2 ^ (b j - b i) ≠ cod i := by
  intro h
  by_cases e : b i = b j
  · rw [e, Nat.sub_self, Nat.pow_zero, Nat.div_one] at h
    exact hne (cod_inj e h.symm)
  · obtain ⟨k, hk⟩ : ∃ k, b j = b i + (k + 1) := ⟨b j - b i - 1, by omega⟩
    have h1 := first_step (b i) k
    rw [← hk] at h1
    have h2 : first (b j) ≤ cod j := Nat.le_add_right _ _
    have h3 : cod i < first (b i) + cnt (b i) 257 := Nat.add_lt_add_left (cnt_lt hi) _
    have h4 : first (b i) + cnt (b i) 257 ≤ cod j / 2 ^ (b j - b i) := by
      rw [hk, Nat.add_sub_cancel_left, Nat.le_div_iff_mul_le (Nat.two_pow_pos _)]
      exact Nat.le_trans h1 h2
    omega

/-- What the first i symbols fill. -/
def fill : Nat → Nat
  | 0 => 0
  | i + 1 => fill i + 2 ^ (30 - b i)
theorem fill_all : fill 257 = 1073741824 := by decide +kernel
theorem fill_mono {i j : Nat} (h : i ≤ j) : fill i ≤ fill j := by
  induction j with
  | zero => rw [Nat.le_zero.1 h]; exact Nat.le_refl _
  | succ j ih =>
    by_cases e : i = j + 1
    · rw [e]; exact Nat.le_refl _
    · exact Nat.le_trans (ih (by omega)) (Nat.le_add_right _ _)
theorem fill_lt {i : Nat} (h : i ≤ 257) : fill i ≤ 1073741824 := by rw [← fill_all]; exact fill_mono h
end H
end Go.Proofs.YtcbljbdcnahfhaaDoor
/- Hzero -/
namespace Go.Proofs.YtcbljbdcnahfhaaDoor
/-- A new book's cells. -/
noncomputable abbrev zeroBook : Array Value := Tryd.zeroCells118
end Go.Proofs.YtcbljbdcnahfhaaDoor
/- Hbook -/
namespace Go.Proofs.YtcbljbdcnahfhaaDoor
open Go.RowKit

/-- What the cells of a book hold. -/
def bkF (C O S F : Nat → Nat) (j : Nat) : Value :=
  if j < 257 then .int .u32 (C j) else if j < 514 then .int .u16 (O (j - 257)) else if j < 546 then .int .i64 (S (j - 514)) else .int .u32 (F (j - 546))

theorem zero118 : zeroBook = ((List.range 578).map (bkF (fun _ => 0) (fun _ => 0) (fun _ => 0) (fun _ => 0))).toArray := by kernel_rfl

theorem bkF_S (C O S F : Nat → Nat) (m v : Nat) (hm : m < 32) (j : Nat) : (if j = 514 + m then .int .i64 (v : Nat) else bkF C O S F j) = bkF C O (fun i => if i = m then v else S i) F j := by
  unfold bkF
  by_cases e : j = 514 + m
  · rw [if_pos e, if_neg (show ¬ j < 257 by omega), if_neg (show ¬ j < 514 by omega), if_pos (show j < 546 by omega)]
    show _ = Value.int .i64 ((if j - 514 = m then v else S (j - 514) : Nat) : Int)
    rw [if_pos (by omega)]
  · rw [if_neg e]
    by_cases h0 : j < 257
    · rw [if_pos h0, if_pos h0]
    rw [if_neg h0, if_neg h0]
    by_cases h1 : j < 514
    · rw [if_pos h1, if_pos h1]
    rw [if_neg h1, if_neg h1]
    by_cases h2 : j < 546
    · rw [if_pos h2, if_pos h2]
      show _ = Value.int .i64 ((if j - 514 = m then v else S (j - 514) : Nat) : Int)
      rw [if_neg (by omega)]
    rw [if_neg h2, if_neg h2]
theorem bkF_F (C O S F : Nat → Nat) (m v : Nat) (hm : m < 32) (j : Nat) : (if j = 546 + m then .int .u32 (v : Nat) else bkF C O S F j) = bkF C O S (fun i => if i = m then v else F i) j := by
  unfold bkF
  by_cases e : j = 546 + m
  · rw [if_pos e, if_neg (show ¬ j < 257 by omega), if_neg (show ¬ j < 514 by omega), if_neg (show ¬ j < 546 by omega)]
    show _ = Value.int .u32 ((if j - 546 = m then v else F (j - 546) : Nat) : Int)
    rw [if_pos (by omega)]
  · rw [if_neg e]
    by_cases h0 : j < 257
    · rw [if_pos h0, if_pos h0]
    rw [if_neg h0, if_neg h0]
    by_cases h1 : j < 514
    · rw [if_pos h1, if_pos h1]
    rw [if_neg h1, if_neg h1]
    by_cases h2 : j < 546
    · rw [if_pos h2, if_pos h2]
    rw [if_neg h2, if_neg h2]
    show _ = Value.int .u32 ((if j - 546 = m then v else F (j - 546) : Nat) : Int)
    rw [if_neg (by omega)]
theorem bkF_C (C O S F : Nat → Nat) (m v : Nat) (hm : m < 257) (j : Nat) : (if j = m then .int .u32 (v : Nat) else bkF C O S F j) = bkF (fun i => if i = m then v else C i) O S F j := by
  unfold bkF
  by_cases e : j = m
  · rw [if_pos e, if_pos (show j < 257 by omega)]
    show _ = Value.int .u32 ((if j = m then v else C (j) : Nat) : Int)
    rw [if_pos (by omega)]
  · rw [if_neg e]
    by_cases h0 : j < 257
    · rw [if_pos h0, if_pos h0]
      show _ = Value.int .u32 ((if j = m then v else C (j) : Nat) : Int)
      rw [if_neg (by omega)]
    rw [if_neg h0, if_neg h0]
theorem bkF_O (C O S F : Nat → Nat) (m v : Nat) (hm : m < 257) (j : Nat) : (if j = 257 + m then .int .u16 (v : Nat) else bkF C O S F j) = bkF C (fun i => if i = m then v else O i) S F j := by
  unfold bkF
  by_cases e : j = 257 + m
  · rw [if_pos e, if_neg (show ¬ j < 257 by omega), if_pos (show j < 514 by omega)]
    show _ = Value.int .u16 ((if j - 257 = m then v else O (j - 257) : Nat) : Int)
    rw [if_pos (by omega)]
  · rw [if_neg e]
    by_cases h0 : j < 257
    · rw [if_pos h0, if_pos h0]
    rw [if_neg h0, if_neg h0]
    by_cases h1 : j < 514
    · rw [if_pos h1, if_pos h1]
      show _ = Value.int .u16 ((if j - 257 = m then v else O (j - 257) : Nat) : Int)
      rw [if_neg (by omega)]
    rw [if_neg h1, if_neg h1]
theorem bkF_ext {C O S F C' O' S' F' : Nat → Nat} (h1 : ∀ i, i < 257 → C i = C' i) (h2 : ∀ i, i < 257 → O i = O' i) (h3 : ∀ i, i < 32 → S i = S' i) (h4 : ∀ i, i < 32 → F i = F' i) : ∀ j, j < 578 → bkF C O S F j = bkF C' O' S' F' j := by
  intro j hj
  unfold bkF
  by_cases a : j < 257
  · rw [if_pos a, if_pos a, h1 j a]
  rw [if_neg a, if_neg a]
  by_cases b : j < 514
  · rw [if_pos b, if_pos b, h2 _ (by omega)]
  rw [if_neg b, if_neg b]
  by_cases c : j < 546
  · rw [if_pos c, if_pos c, h3 _ (by omega)]
  rw [if_neg c, if_neg c, h4 _ (by omega)]
theorem bkF_at_S (C O S F : Nat → Nat) (m : Nat) (hm : m < 32) : bkF C O S F (514 + m) = .int .i64 (S m) := by
  unfold bkF
  rw [if_neg (by omega), if_neg (by omega), if_pos (by omega), show 514 + m - 514 = m from by omega]
theorem bkF_at_F (C O S F : Nat → Nat) (m : Nat) (hm : m < 32) : bkF C O S F (546 + m) = .int .u32 (F m) := by
  unfold bkF
  rw [if_neg (by omega), if_neg (by omega), if_neg (by omega), show 546 + m - 546 = m from by omega]
theorem bkF_at_C (C O S F : Nat → Nat) (m : Nat) (hm : m < 257) : bkF C O S F m = .int .u32 (C m) := by
  unfold bkF
  rw [if_pos hm]
theorem bkF_at_O (C O S F : Nat → Nat) (m : Nat) (hm : m < 257) : bkF C O S F (257 + m) = .int .u16 (O m) := by
  unfold bkF
  rw [if_neg (by omega), if_pos (by omega), show 257 + m - 257 = m from by omega]

/-- How many of the first k symbols have m - 1 bits. -/
def cs (k : Nat) : Nat → Nat
  | 0 => 0
  | m + 1 => H.cnt m k
theorem cs_succ (k m : Nat) : cs (k + 1) m = if m = H.b k + 1 then cs k (H.b k + 1) + 1 else cs k m := by
  cases m with
  | zero => simp [cs]
  | succ m =>
    have e : cs (k + 1) (m + 1) = H.cnt m k + if H.b k = m then 1 else 0 := rfl
    rw [e]
    by_cases h : m = H.b k
    · subst h; simp [cs]
    · rw [if_neg (fun e => h e.symm), if_neg (by omega)]; rfl
theorem cs_le (k m : Nat) : cs k m ≤ k := by
  cases m with
  | zero => simp [cs]
  | succ m => exact H.cnt_le m k

def Bk (w : World) (g : Nat) (C O S F : Nat → Nat) : Prop := Blk w g 578 (bkF C O S F)

theorem Bk.setS {w : World} {g : Nat} {C O S F : Nat → Nat} (h : Bk w g C O S F) {m v : Nat} (hm : m < 32) : Bk (w.setCell ⟨g, 514 + m, none⟩ (.int .i64 (v : Nat))) g C O (fun i => if i = m then v else S i) F :=
  (Blk.set h (by omega) _).ext fun j _ => bkF_S C O S F m v hm j
theorem Bk.setF {w : World} {g : Nat} {C O S F : Nat → Nat} (h : Bk w g C O S F) {m v : Nat} (hm : m < 32) : Bk (w.setCell ⟨g, 546 + m, none⟩ (.int .u32 (v : Nat))) g C O S (fun i => if i = m then v else F i) :=
  (Blk.set h (by omega) _).ext fun j _ => bkF_F C O S F m v hm j
theorem Bk.setC {w : World} {g : Nat} {C O S F : Nat → Nat} (h : Bk w g C O S F) {m v : Nat} (hm : m < 257) : Bk (w.setCell ⟨g, m, none⟩ (.int .u32 (v : Nat))) g (fun i => if i = m then v else C i) O S F :=
  (Blk.set h (by omega) _).ext fun j _ => bkF_C C O S F m v hm j
theorem Bk.setO {w : World} {g : Nat} {C O S F : Nat → Nat} (h : Bk w g C O S F) {m v : Nat} (hm : m < 257) : Bk (w.setCell ⟨g, 257 + m, none⟩ (.int .u16 (v : Nat))) g C (fun i => if i = m then v else O i) S F :=
  (Blk.set h (by omega) _).ext fun j _ => bkF_O C O S F m v hm j
theorem Bk.congr {w : World} {g : Nat} {C O S F C' O' S' F' : Nat → Nat} (h : Bk w g C O S F) (h1 : ∀ i, i < 257 → C i = C' i) (h2 : ∀ i, i < 257 → O i = O' i) (h3 : ∀ i, i < 32 → S i = S' i) (h4 : ∀ i, i < 32 → F i = F' i) : Bk w g C' O' S' F' :=
  Blk.ext h (bkF_ext h1 h2 h3 h4)
theorem Bk.atS {w : World} {g : Nat} {C O S F : Nat → Nat} (h : Bk w g C O S F) (m : Nat) (hm : m < 32) : w.cell? ⟨g, 514 + m, none⟩ = some (.int .i64 (S m)) ∧ w.frozen? ⟨g, 514 + m, none⟩ = false := by
  have := h (514 + m) (by omega)
  rw [bkF_at_S _ _ _ _ m hm] at this
  exact this
theorem Bk.atF {w : World} {g : Nat} {C O S F : Nat → Nat} (h : Bk w g C O S F) (m : Nat) (hm : m < 32) : w.cell? ⟨g, 546 + m, none⟩ = some (.int .u32 (F m)) ∧ w.frozen? ⟨g, 546 + m, none⟩ = false := by
  have := h (546 + m) (by omega)
  rw [bkF_at_F _ _ _ _ m hm] at this
  exact this
theorem Bk.atC {w : World} {g : Nat} {C O S F : Nat → Nat} (h : Bk w g C O S F) (m : Nat) (hm : m < 257) : w.cell? ⟨g, m, none⟩ = some (.int .u32 (C m)) ∧ w.frozen? ⟨g, m, none⟩ = false := by
  have := h m (by omega)
  rw [bkF_at_C _ _ _ _ m hm] at this
  exact this
theorem Bk.atO {w : World} {g : Nat} {C O S F : Nat → Nat} (h : Bk w g C O S F) (m : Nat) (hm : m < 257) : w.cell? ⟨g, 257 + m, none⟩ = some (.int .u16 (O m)) ∧ w.frozen? ⟨g, 257 + m, none⟩ = false := by
  have := h (257 + m) (by omega)
  rw [bkF_at_O _ _ _ _ m hm] at this
  exact this

theorem Bk.new (w : World) : Bk (w.alloc (.cells zeroBook 118)) w.heap.size (fun _ => 0) (fun _ => 0) (fun _ => 0) (fun _ => 0) := by
  have h := Blk.new w zeroBook 118 (bkF (fun _ => 0) (fun _ => 0) (fun _ => 0) (fun _ => 0)) (fun j hj => by
    rw [zero118] at hj ⊢
    simp at hj
    simp [hj])
  rw [show (zeroBook).size = 578 by kernel_rfl] at h
  exact h

def z32 : List Value := List.replicate 32 (.int .i64 0)
theorem run_alloc_32 (w : World) : (Instr.alloc 115 true (.tuple #[])).run Tryd.prog w = .ok (.pointer (some ⟨w.heap.size, 0, none⟩)) (w.alloc (.cells z32.toArray 115)) := by
  kernel_rfl
theorem z32_len : z32.length = 32 := by simp [z32]
theorem z32_get (j : Nat) (hj : j < 32) : z32.toArray[j]? = some (.int .i64 0) := by
  rw [List.getElem?_toArray, z32, List.getElem?_replicate, if_pos hj]

/-- The whole code as a value. -/
def bookL : List Value := (List.range 578).map (bkF H.cod (H.ord 257) H.st H.first)
theorem bookL_len : bookL.length = 578 := by rw [bookL, List.length_map, List.length_range]
theorem bookL_get (j : Nat) (hj : j < 578) : bookL[j]? = some (bkF H.cod (H.ord 257) H.st H.first j) := by
  rw [bookL, List.getElem?_map, List.getElem?_range hj]; rfl
theorem bkF_one (C O S F : Nat → Nat) (j : Nat) : (bkF C O S F j).oneCell' = true := by
  unfold bkF
  split
  · rfl
  · split
    · rfl
    · split <;> rfl
theorem bookL_one : ∀ v ∈ bookL, v.oneCell' = true := by
  intro v hv
  obtain ⟨i, _, rfl⟩ := List.mem_map.1 hv
  exact bkF_one _ _ _ _ i
/-- What newBook hands back. -/
def BookOut (w : World) (e : Ending) (w' : World) : Prop := e = .returned (.agg bookL.toArray) ∧ Below w.heap.size w w'

set_option maxRecDepth 100000 in
set_option maxHeartbeats 1000000 in
theorem newBook_any (w : World) : Calls Tryd.prog 67 #[] w (BookOut w) := by
  have hk0 := Bk.new w
  have hk1 := Bk.new (w.alloc (.cells zeroBook 118))
  have hk0 := Blk.alloc hk0 (.cells zeroBook 118)
  have HR := Lib.hid hk0
  rw [World.size_alloc] at hk1
  have HK := Lib.hid hk1
  have HB0 : Hid (Below w.heap.size w ((w.alloc (.cells zeroBook 118)).alloc (.cells zeroBook 118))) := ((Below.refl _ _).alloc (Nat.le_refl _) _).alloc (by simp) _
  clear hk0 hk1
  go_enter Tryd.func67, Tryd.ntmps67
  go_wp2
  generalize hw0 : (w.alloc (.cells zeroBook 118)).alloc (.cells zeroBook 118) = w0 at *
  have hz0 : Hid (w0.heap.size = w.heap.size + 2) := by rw [← hw0]; show _ = _; simp
  clear hw0
  go_loopw [7] (fun i wr => ∃ k : Nat, k ≤ 257 ∧ i = .int .i64 k ∧ Hid (Bk wr (w.heap.size + 1) (fun _ => 0) (fun _ => 0) (cs k) (fun _ => 0)) ∧ Hid (Blk wr w.heap.size 578 (bkF (fun _ => 0) (fun _ => 0) (fun _ => 0) (fun _ => 0))) ∧ Hid (Below w.heap.size w wr) ∧ Hid (wr.heap.size = w.heap.size + 2)) (fun i _ => 257 - (intOf i).toNat)
  case atStart =>
    refine ⟨0, Nat.zero_le _, rfl, ?_, HR, HB0, hz0⟩
    exact Bk.congr HK.out (fun _ _ => rfl) (fun _ _ => rfl) (fun i _ => by cases i <;> rfl) (fun _ _ => rfl)
  case round =>
    obtain ⟨k, hk, rfl, HBk, HBr, HB, Hz⟩ := hrel
    clear HK HR HB0 hz0
    by_cases hlt : k < 257
    · have hb := H.b_bounds k
      have HS := Lib.hid (cs_succ k)
      obtain ⟨c1, c2⟩ := HBk.out.atS (H.b k + 1) (by omega)
      have hcl := cs_le k (H.b k + 1)
      generalize hcs : cs k (H.b k + 1) = c at *
      have Hcs := Lib.hid hcs
      clear hcs
      go_wp2_with (go_at_call 85; refine (bitsOf_any k _ hlt).mono ?_; rintro e w1 ⟨rfl, rfl⟩)
      go_roundw
      case rel =>
        refine ⟨k + 1, by omega, by go_num, ?_, ?_, ?_, ?_⟩
        · rw [show ((c : Int) + 1) = ((c + 1 : Nat) : Int) from by omega]
          exact (HBk.out.setS (by omega)).congr (fun _ _ => rfl) (fun _ _ => rfl) (fun i _ => (HS.out i).symm) (fun _ _ => rfl)
        · exact HBr.out.set_other (by show w.heap.size + 1 ≠ _; omega) _
        · exact HB.out.setCell (by show w.heap.size ≤ w.heap.size + 1; omega) _
        · show _ = _; rw [World.size_setCell]; exact Hz.out
      case measure => simp [intOf]; omega
    · obtain rfl : k = 257 := by omega
      have HBk2 : Hid (Bk wr (w.heap.size + 1) (fun _ => 0) (fun _ => 0) (fun m => if m < 1 then H.st m else cs 257 m) (fun m => if m < 1 then H.first m else 0)) :=
        HBk.out.congr (fun _ _ => rfl) (fun _ _ => rfl) (fun i _ => by
          by_cases h : i < 1
          · obtain rfl : i = 0 := by omega
            rfl
          · rw [if_neg h]) (fun i _ => by
          by_cases h : i < 1
          · obtain rfl : i = 0 := by omega
            rfl
          · rw [if_neg h])
      clear HBk
      go_wp2
      go_loopw [3] (fun i wq => ∃ k : Nat, k ≤ 31 ∧ i = .int .i64 ((k : Int) + 1) ∧ Hid (Bk wq (w.heap.size + 1) (fun _ => 0) (fun _ => 0) (fun m => if m < k + 1 then H.st m else cs 257 m) (fun m => if m < k + 1 then H.first m else 0)) ∧ Hid (Blk wq w.heap.size 578 (bkF (fun _ => 0) (fun _ => 0) (fun _ => 0) (fun _ => 0))) ∧ Hid (Below w.heap.size w wq) ∧ Hid (wq.heap.size = w.heap.size + 2)) (fun i _ => 32 - (intOf i).toNat)
      case atStart => exact ⟨0, by omega, rfl, HBk2, HBr, HB, Hz⟩
      case round =>
        clear HBk2 HBr HB Hz
        obtain ⟨k, hk, rfl, HBk, HBr, HB, Hz⟩ := hrel
        by_cases hlt : k < 31
        · have ha := HBk.out.atF k (by omega)
          rw [if_pos (by omega)] at ha
          have hb := HBk.out.atS (k + 1) (by omega)
          rw [if_neg (by omega)] at hb
          have hc := HBk.out.atF (k + 1) (by omega)
          have hd := HBk.out.atS k (by omega)
          rw [if_pos (by omega)] at hd
          obtain ⟨a1, _⟩ := ha
          obtain ⟨b1, b2⟩ := hb
          obtain ⟨_, c2⟩ := hc
          obtain ⟨d1, _⟩ := hd
          have E1 : Hid (H.first (k + 1) = (H.first k + cs 257 (k + 1)) * 2) := rfl
          have E2 : Hid (H.st (k + 1) = H.st k + cs 257 (k + 1)) := rfl
          have hf : H.first k + cs 257 (k + 1) ≤ 2147483648 := by
            have h1 := H.first_cnt k (by omega)
            have h2 : 2 ^ k ≤ 2 ^ 30 := Nat.pow_le_pow_right (by omega) (by omega)
            have e : (2 : Nat) ^ 30 = 1073741824 := by decide
            show H.first k + H.cnt k 257 ≤ _
            omega
          have hf2 : (H.first k + cs 257 (k + 1)) * 2 ≤ 4294967295 := by
            have h1 := H.first_cnt k (by omega)
            have h2 : 2 ^ k ≤ 2 ^ 30 := Nat.pow_le_pow_right (by omega) (by omega)
            have e : (2 : Nat) ^ 30 = 1073741824 := by decide
            show (H.first k + H.cnt k 257) * 2 ≤ _
            omega
          have hs : H.st k ≤ 257 := H.st_le k (by omega)
          have hc0 := cs_le 257 (k + 1)
          generalize hcc : cs 257 (k + 1) = c at *
          generalize H.first k = f at *
          generalize hss : H.st k = s at *
          have Hcc := Lib.hid hcc
          have Hss := Lib.hid hss
          clear hcc hss
          have hn1 : 546 + (k + 1) ≠ 546 + k := by omega
          have hn2 : 546 + (k + 1) ≠ 514 + (k + 1) := by omega
          have k0 : (0 : Int) ≤ (k : Int) := by omega
          have k1 : (k : Int) < 32 := by omega
          have k2 : (0 : Int) ≤ (k : Int) + 1 := by omega
          have k3 : (k : Int) + 1 < 32 := by omega
          have k4 : ((k : Int) + 1).toNat = k + 1 := by omega
          have k5 : IntKind.i64.wrap ((k : Int) + 1 - 1) = (k : Int) := by rw [IntKind.wrap_i64]; omega
          have k6 : IntKind.i64.wrap (k : Int) = (k : Int) := by rw [IntKind.wrap_i64]; omega
          have k7 : IntKind.u32.wrap (c : Int) = (c : Int) := by rw [IntKind.wrap_u32]; omega
          have k8 : IntKind.u32.wrap ((f : Int) + c) = (f : Int) + c := by rw [IntKind.wrap_u32]; omega
          have k9 : IntKind.u32.wrap (((f : Int) + c) * 2) = ((f : Int) + c) * 2 := by rw [IntKind.wrap_u32]; omega
          go_wp2
          go_still_tail 15, (by kernel_rfl)
          go_wp2
          clear k6 k7 k8 k9
          have HBk1 : Hid (Bk (wr.setCell ⟨w.heap.size + 1, 546 + (k + 1), none⟩ (.int .u32 (((f : Int) + c) * 2))).drew (w.heap.size + 1) (fun _ => 0) (fun _ => 0) (fun m => if m < k + 1 then H.st m else cs 257 m) (fun m => if m < k + 1 + 1 then H.first m else 0)) := by
            have e : (((f : Int) + c) * 2) = ((((f + c) * 2 : Nat) : Int)) := by omega
            rw [e]
            refine Blk.drew ((HBk.out.setF (v := (f + c) * 2) (by omega)).congr (fun _ _ => rfl) (fun _ _ => rfl) (fun _ _ => rfl) (fun i _ => ?_))
            by_cases hi : i = k + 1
            · subst hi
              rw [if_pos rfl, if_pos (by omega), E1.out]
            · rw [if_neg hi]
              by_cases hi2 : i < k + 1
              · rw [if_pos hi2, if_pos (by omega)]
              · rw [if_neg hi2, if_neg (by omega)]
          have HBr1 : Hid (Blk (wr.setCell ⟨w.heap.size + 1, 546 + (k + 1), none⟩ (.int .u32 (((f : Int) + c) * 2))).drew w.heap.size 578 (bkF (fun _ => 0) (fun _ => 0) (fun _ => 0) (fun _ => 0))) :=
            Blk.drew (HBr.out.set_other (by show w.heap.size + 1 ≠ _; omega) _)
          have HB1 : Hid (Below w.heap.size w (wr.setCell ⟨w.heap.size + 1, 546 + (k + 1), none⟩ (.int .u32 (((f : Int) + c) * 2))).drew) :=
            (HB.out.setCell (by show w.heap.size ≤ w.heap.size + 1; omega) _).drew
          have Hz1 : Hid ((wr.setCell ⟨w.heap.size + 1, 546 + (k + 1), none⟩ (.int .u32 (((f : Int) + c) * 2))).drew.heap.size = w.heap.size + 2) := by
            show _ = _
            show (wr.setCell _ _).heap.size = _
            rw [World.size_setCell]; exact Hz.out
          clear HBk HBr HB Hz a1 b1 b2 c2 d1
          generalize (wr.setCell ⟨w.heap.size + 1, 546 + (k + 1), none⟩ (.int .u32 (((f : Int) + c) * 2))).drew = w2 at *
          clear hn1 hn2
          have hb := HBk1.out.atS (k + 1) (by omega)
          rw [if_neg (by omega)] at hb
          have hd := HBk1.out.atS k (by omega)
          rw [if_pos (by omega)] at hd
          rw [Hcc.out] at hb
          rw [Hss.out] at hd
          obtain ⟨b1, b2⟩ := hb
          obtain ⟨d1, _⟩ := hd
          have k6 : IntKind.i64.wrap (k : Int) = (k : Int) := by rw [IntKind.wrap_i64]; omega
          have k7 : IntKind.i64.wrap ((c : Int) + s) = ((s + c : Nat) : Int) := by rw [IntKind.wrap_i64]; omega
          have hn1 : 514 + (k + 1) ≠ 514 + k := by omega
          go_still_tail 12, (by kernel_rfl)
          go_wp2
          go_roundw
          case rel =>
            clear k5 k6 k7 k4
            refine ⟨k + 1, by omega, by go_num, ?_, ?_, ?_, ?_⟩
            · rw [show ((s : Int) + c) = ((s + c : Nat) : Int) from by omega]
              refine Blk.drew ((HBk1.out.setS (v := s + c) (by omega)).congr (fun _ _ => rfl) (fun _ _ => rfl) (fun i _ => ?_) (fun _ _ => rfl))
              by_cases hi : i = k + 1
              · subst hi
                rw [if_pos rfl, if_pos (by omega), E2.out]
              · rw [if_neg hi]
                by_cases hi2 : i < k + 1
                · rw [if_pos hi2, if_pos (by omega)]
                · rw [if_neg hi2, if_neg (by omega)]
            · exact Blk.drew (HBr1.out.set_other (by show w.heap.size + 1 ≠ _; omega) _)
            · exact (HB1.out.setCell (by show w.heap.size ≤ w.heap.size + 1; omega) _).drew
            · show (w2.setCell _ _).heap.size = _
              rw [World.size_setCell]; exact Hz1.out
          case measure =>
            clear k5 k6 k7 k4
            simp [intOf]; omega
        · obtain rfl : k = 31 := by omega
          have HBk2 : Hid (Bk wr (w.heap.size + 1) (fun _ => 0) (fun _ => 0) H.st H.first) :=
            HBk.out.congr (fun _ _ => rfl) (fun _ _ => rfl) (fun i hi => by rw [if_pos (by omega)]) (fun i hi => by rw [if_pos (by omega)])
          clear HBk
          obtain ⟨SL, hSL⟩ : ∃ l : List Value, l = (List.range 32).map (fun i => .int .i64 (H.st i : Nat)) := ⟨_, rfl⟩
          have hl : SL.length = 32 := by rw [hSL]; simp
          have hget : ∀ j, j < 32 → SL[j]? = some (.int .i64 (H.st j : Nat)) := by
            intro j hj
            rw [hSL, List.getElem?_map, List.getElem?_range hj]; rfl
          have hone : Hid (∀ v ∈ SL, v.oneCell' = true) := by
            intro v hv
            rw [hSL] at hv
            obtain ⟨i, _, rfl⟩ := List.mem_map.1 hv
            rfl
          have hrange : Hid (wr.rangeAt (w.heap.size + 1) 514 SL) := by
            intro j v hv
            have hj : j < 32 := by rw [← hl]; exact (List.getElem?_eq_some_iff.1 hv).1
            rw [hget j hj] at hv
            cases hv
            exact (HBk2.out.atS j hj).1
          have Hget := Lib.hid hget
          have Hl := Lib.hid hl
          clear hSL hget hl
          go_upto_region 12 with (fail)
          go_step
          refine wpList_plain rfl fun K hK => ?_
          go_simp
          refine hK _ _ ?_
          clear hK K
          refine wpList_load_mid rfl 115 (.tmp 51) (by rfl) (w.heap.size + 1) 514 (by rfl) SL _ hrange.out Tryd.underlying115 (by rfl) (by rw [Hl.out]; kernel_rfl) ?_
          refine wpList_alloc_big rfl 115 rfl z32.toArray run_alloc_32 ?_
          have hnew := Blk.new wr z32.toArray 115 (fun _ => .int .i64 0) (fun j hj => z32_get j (by simpa [z32_len] using hj))
          rw [show z32.toArray.size = 32 from by simp [z32_len]] at hnew
          have hsl : SL.toArray.size = 32 := by rw [List.size_toArray]; exact Hl.out
          refine wpList_store_mid rfl 115 (.tmp 4) (.tmp 52) (by rfl) wr.heap.size 0 SL.toArray (by rfl) (by rfl) (by rw [hsl]; exact hnew.there (by omega)) (by rw [hsl]; kernel_rfl) (all_oneCell_toArray hone.out) ?_
          clear hsl
          have hz := Hz.out
          have HN : Hid (Blk ((wr.alloc (.cells z32.toArray 115)).setCells wr.heap.size 0 SL.toArray.toList) (w.heap.size + 2) 32 (fun m => .int .i64 ((H.st m + H.cnt m 0 : Nat) : Int))) := by
            have h := hnew.setCells (vs := SL.toArray.toList) (by rw [List.toList_toArray]; exact Hl.out) (h := fun m => .int .i64 ((H.st m + H.cnt m 0 : Nat) : Int)) (fun j hj => by rw [List.toList_toArray]; exact Hget.out j hj)
            rw [hz] at h ⊢
            exact h
          have HK : Hid (Bk ((wr.alloc (.cells z32.toArray 115)).setCells wr.heap.size 0 SL.toArray.toList) (w.heap.size + 1) (fun j => if j < 0 then H.cod j else 0) (H.ord 0) H.st H.first) :=
            (Blk.setCells_other (Blk.alloc HBk2.out _) (by omega) _ _).ext (bkF_ext (fun _ _ => rfl) (fun _ _ => rfl) (fun _ _ => rfl) (fun _ _ => rfl))
          have HR : Hid (Blk ((wr.alloc (.cells z32.toArray 115)).setCells wr.heap.size 0 SL.toArray.toList) w.heap.size 578 (bkF (fun _ => 0) (fun _ => 0) (fun _ => 0) (fun _ => 0))) :=
            Blk.setCells_other (Blk.alloc HBr.out _) (by omega) _ _
          have HB3 : Hid (Below w.heap.size w ((wr.alloc (.cells z32.toArray 115)).setCells wr.heap.size 0 SL.toArray.toList)) :=
            below_setCells _ (by omega) _ _ (HB.out.alloc (by omega) _)
          rw [Hz.out]
          rw [Hz.out] at HN HK HR HB3
          generalize (wr.alloc (.cells z32.toArray 115)).setCells (w.heap.size + 2) 0 SL.toArray.toList = w3 at *
          clear hnew hone hrange Hget Hl HBr HB Hz HBk2 hz
          go_wp2
          go_loopw [53] (fun i wq => ∃ k : Nat, k ≤ 257 ∧ i = .int .i64 k ∧ Hid (Bk wq (w.heap.size + 1) (fun j => if j < k then H.cod j else 0) (H.ord k) H.st H.first) ∧ Hid (Blk wq (w.heap.size + 2) 32 (fun m => .int .i64 ((H.st m + H.cnt m k : Nat) : Int))) ∧ Hid (Blk wq w.heap.size 578 (bkF (fun _ => 0) (fun _ => 0) (fun _ => 0) (fun _ => 0))) ∧ Hid (Below w.heap.size w wq)) (fun i _ => 257 - (intOf i).toNat)
          case atStart => exact ⟨0, by omega, rfl, HK, HN, HR, HB3⟩
          case round =>
            clear HK HN HR HB3
            obtain ⟨k, hk, rfl, HK, HN, HR, HB⟩ := hrel
            by_cases hlt : k < 257
            · have hb := H.b_bounds k
              obtain ⟨m, q, st0, n, hm, hq, hs, hn⟩ : ∃ m q s n, m = H.b k ∧ q = H.first (H.b k) ∧ s = H.st (H.b k) ∧ n = H.cnt (H.b k) k := ⟨_, _, _, _, rfl, rfl, rfl, rfl⟩
              have hp : st0 + n < 257 := by rw [hs, hn]; exact H.place_lt257 hlt
              have hcl : q + n < 1073741824 := by rw [hq, hn]; exact H.cod_lt32 k hlt
              have Hcod : Hid (H.cod k = q + n) := by show H.cod k = _; rw [hq, hn]; rfl
              have Hpl : Hid (H.place k = st0 + n) := by show H.place k = _; rw [hs, hn]; rfl
              have a := HK.out.atF m (by omega)
              have b := HK.out.atS m (by omega)
              have c0 := HN.out m (by omega)
              have d := HK.out.atC k hlt
              have e := HK.out.atO (st0 + n) hp
              rw [show H.first m = q by rw [hm, hq]] at a
              rw [show H.st m = st0 by rw [hm, hs]] at b
              have c : wr.cell? ⟨w.heap.size + 2, m, none⟩ = some (.int .i64 ((st0 : Int) + n)) ∧ wr.frozen? ⟨w.heap.size + 2, m, none⟩ = false := by
                refine ⟨?_, c0.2⟩
                rw [c0.1]
                show some (Value.int .i64 ((H.st m + H.cnt m k : Nat) : Int)) = _
                rw [hm, ← hs, ← hn, Int.natCast_add]
              have Hcnt : Hid (∀ j, H.cnt j (k + 1) = if j = m then n + 1 else H.cnt j k) := by
                intro j
                show H.cnt j k + (if H.b k = j then 1 else 0) = _
                by_cases hj : j = m
                · rw [if_pos hj, hj, hm, if_pos rfl, hn]
                · rw [if_neg hj, if_neg (fun h => hj (by rw [hm, h])), Nat.add_zero]
              have Hst : Hid (H.st m = st0) := by show _ = _; rw [hm, hs]
              have HC : Hid (∀ w, Calls Tryd.prog 85 #[.int .i64 k] w fun e w' => e = .returned (.int .i64 m) ∧ w = w') := fun w => by rw [hm]; exact bitsOf_any k w hlt
              rw [← hm] at hb
              clear hm hq hs hn c0
              obtain ⟨a1, _⟩ := a
              obtain ⟨b1, _⟩ := b
              obtain ⟨c1, c2⟩ := c
              obtain ⟨d1, d2⟩ := d
              obtain ⟨e1, e2⟩ := e
              have k0 : (0 : Int) ≤ (m : Int) := by omega
              have k1 : (m : Int) < 32 := by omega
              have k2 : (0 : Int) ≤ (k : Int) := by omega
              have k3 : (k : Int) < 257 := by omega
              have k4 : IntKind.i64.wrap ((st0 : Int) + n - st0) = (n : Int) := by rw [IntKind.wrap_i64]; omega
              have k5 : IntKind.u32.wrap (n : Int) = (n : Int) := by rw [IntKind.wrap_u32]; omega
              have k6 : IntKind.u32.wrap ((q : Int) + n) = ((q + n : Nat) : Int) := by rw [IntKind.wrap_u32]; omega
              have hn1 : w.heap.size + 1 ≠ w.heap.size + 2 := by omega
              go_upto_region 17 with (go_at_call 85; refine (HC.out _).mono ?_; rintro e w1 ⟨rfl, rfl⟩)
              go_still_tail 17, (by kernel_rfl)
              go_upto_region 18 with (fail)
              clear k4 k5 k6
              have hx : w.heap.size + 2 ≠ w.heap.size + 1 := by omega
              have HK1 : Hid (Bk (wr.setCell ⟨w.heap.size + 1, k, none⟩ (.int .u32 ((q : Int) + n))).drew (w.heap.size + 1) (fun j => if j < k + 1 then H.cod j else 0) (H.ord k) H.st H.first) := by
                rw [show ((q : Int) + n) = ((q + n : Nat) : Int) from by omega]
                refine Blk.drew ((HK.out.setC (v := q + n) hlt).congr (fun i _ => ?_) (fun _ _ => rfl) (fun _ _ => rfl) (fun _ _ => rfl))
                by_cases hi : i = k
                · rw [if_pos hi, if_pos (by omega), hi, Hcod.out]
                · rw [if_neg hi]
                  by_cases hi2 : i < k
                  · rw [if_pos hi2, if_pos (by omega)]
                  · rw [if_neg hi2, if_neg (by omega)]
              have HN1 : Hid (Blk (wr.setCell ⟨w.heap.size + 1, k, none⟩ (.int .u32 ((q : Int) + n))).drew (w.heap.size + 2) 32 (fun m => .int .i64 ((H.st m + H.cnt m k : Nat) : Int))) :=
                Blk.drew (HN.out.set_other (by show w.heap.size + 1 ≠ _; omega) _)
              have HR1 : Hid (Blk (wr.setCell ⟨w.heap.size + 1, k, none⟩ (.int .u32 ((q : Int) + n))).drew w.heap.size 578 (bkF (fun _ => 0) (fun _ => 0) (fun _ => 0) (fun _ => 0))) :=
                Blk.drew (HR.out.set_other (by show w.heap.size + 1 ≠ _; omega) _)
              have HB1 : Hid (Below w.heap.size w (wr.setCell ⟨w.heap.size + 1, k, none⟩ (.int .u32 ((q : Int) + n))).drew) :=
                (HB.out.setCell (by show w.heap.size ≤ w.heap.size + 1; omega) _).drew
              have c5 : (wr.setCell ⟨w.heap.size + 1, k, none⟩ (.int .u32 ((q : Int) + n))).drew.cell? ⟨w.heap.size + 2, m, none⟩ = some (.int .i64 ((st0 : Int) + n)) :=
                (World.cell?_setCell_other _ _ _ _ (fun h => hn1 (congrArg Addr.block h))).trans c1
              clear HK HN HR HB a1 b1 c1 c2 d1 d2 e1 e2
              generalize (wr.setCell ⟨w.heap.size + 1, k, none⟩ (.int .u32 ((q : Int) + n))).drew = w1 at *
              have c6 := (HN1.out m (by omega)).2
              obtain ⟨e1, e2⟩ := HK1.out.atO (st0 + n) hp
              have k4 : (0 : Int) ≤ (st0 : Int) + n := by omega
              have k5 : (st0 : Int) + n < 257 := by omega
              have k6 : ((st0 : Int) + n).toNat = st0 + n := by omega
              have k7 : IntKind.u16.wrap (k : Int) = (k : Int) := by rw [IntKind.wrap_u16]; omega
              go_wp2
              go_roundw
              case rel =>
                clear k4 k5 k6 k7
                refine ⟨k + 1, by omega, by go_num, ?_, ?_, ?_, ?_⟩
                · exact Blk.set_other ((HK1.out.setO (v := k) hp).congr (fun _ _ => rfl) (fun i _ => by
                    show (if i = st0 + n then k else H.ord k i) = H.ord (k + 1) i
                    rw [← Hpl.out]; rfl) (fun _ _ => rfl) (fun _ _ => rfl)) (by show w.heap.size + 2 ≠ _; omega) _
                · refine Blk.ext (Blk.set (Blk.set_other HN1.out (by show w.heap.size + 1 ≠ _; omega) _) (show m < 32 by omega) _) fun j hj => ?_
                  show (if j = m then Value.int .i64 ((st0 : Int) + n + 1) else Value.int .i64 ((H.st j + H.cnt j k : Nat) : Int)) = Value.int .i64 ((H.st j + H.cnt j (k + 1) : Nat) : Int)
                  rw [Hcnt.out j]
                  by_cases hj2 : j = m
                  · rw [if_pos hj2, if_pos hj2, hj2, Hst.out]
                    congr 1
                  · rw [if_neg hj2, if_neg hj2]
                · exact Blk.set_other (Blk.set_other HR1.out (by show w.heap.size + 1 ≠ _; omega) _) (by show w.heap.size + 2 ≠ _; omega) _
                · exact (HB1.out.setCell (by show w.heap.size ≤ w.heap.size + 1; omega) _).setCell (by show w.heap.size ≤ w.heap.size + 2; omega) _
              case measure => simp [intOf]; omega
            · obtain rfl : k = 257 := by omega
              go_upto_region 21 with (fail)
              have hk2 : Bk wr (w.heap.size + 1) H.cod (H.ord 257) H.st H.first := HK.out.congr (fun i hi => by rw [if_pos hi]) (fun _ _ => rfl) (fun _ _ => rfl) (fun _ _ => rfl)
              have hr : wr.rangeAt (w.heap.size + 1) 0 bookL := Blk.rangeAt hk2 fun j hj => by
                rw [bookL_len] at hj
                rw [Nat.zero_add]
                exact ⟨hj, bookL_get j hj⟩
              have hth := HR.out.there (o := 0) (m := 578) (by omega)
              have hsz : bookL.toArray.size = 578 := by rw [List.size_toArray]; exact bookL_len
              go_step
              refine wpList_load_mid rfl 118 (.tmp 1) (by rfl) (w.heap.size + 1) 0 (by rfl) bookL _ hr Tryd.underlying118 (by rfl) (by rw [bookL_len]; kernel_rfl) ?_
              refine wpList_store_mid rfl 118 (.tmp 0) (.tmp 88) (by rfl) w.heap.size 0 bookL.toArray (by rfl) (by rfl) (by rw [hsz]; exact hth) (by rw [hsz]; kernel_rfl) (all_oneCell_toArray bookL_one) ?_
              have hf := HR.out.setCells (vs := bookL.toArray.toList) (by rw [List.toList_toArray]; exact bookL_len) (h := bkF H.cod (H.ord 257) H.st H.first) (fun j hj => by rw [List.toList_toArray]; exact bookL_get j hj)
              have hb := below_setCells w.heap.size (Nat.le_refl _) bookL.toArray.toList 0 HB.out
              generalize wr.setCells w.heap.size 0 bookL.toArray.toList = w4 at *
              go_wp2
              have hl := run_loadVar_mid (P := Tryd.prog) w4 w.heap.size 0 118 bookL _ (Blk.rangeAt hf fun j hj => by
                rw [bookL_len] at hj
                rw [Nat.zero_add]
                exact ⟨hj, bookL_get j hj⟩) Tryd.underlying118 (by rfl) (by rw [bookL_len]; kernel_rfl)
              clear hf hsz hth hr hk2
              exact bodyPost_ret (v := .agg bookL.toArray) (results_cell1 rfl _ (by rfl) hl) rfl ⟨rfl, hb⟩
end Go.Proofs.YtcbljbdcnahfhaaDoor
/- Henc -/
namespace Go.Proofs.YtcbljbdcnahfhaaDoor
open Go.RowKit

/-- Block g of the world w' is the book, and what lay in w lies there still. -/
def Book (w' : World) (g : Nat) : Prop := Bk w' g H.cod (H.ord 257) H.st H.first

theorem Book.belowB {w w' : World} {B g : Nat} (h : Book w g) (hb : Below B w w') (hg : g < B) : Book w' g := Blk.belowB h hb hg
theorem Book.code {w : World} {g : Nat} (h : Book w g) (m : Nat) (hm : m < 257) : w.cell? ⟨g, m, none⟩ = some (.int .u32 (H.cod m)) := (Bk.atC h m hm).1

theorem book_stored (w1 : World) : Book ((w1.alloc (.cells zeroBook 118)).setCells w1.heap.size 0 bookL.toArray.toList) w1.heap.size ∧
    (∀ {B : Nat} {w : World}, Below B w w1 → B ≤ w1.heap.size → Below B w ((w1.alloc (.cells zeroBook 118)).setCells w1.heap.size 0 bookL.toArray.toList)) ∧
    ((w1.alloc (.cells zeroBook 118)).setCells w1.heap.size 0 bookL.toArray.toList).heap.size = w1.heap.size + 1 := by
  refine ⟨?_, ?_, ?_⟩
  · exact Blk.setCells (Bk.new w1) (vs := bookL.toArray.toList) (by rw [List.toList_toArray]; exact bookL_len) (fun j hj => by rw [List.toList_toArray]; exact bookL_get j hj)
  · intro B w hb hB
    exact below_setCells _ hB _ _ (hb.alloc hB _)
  · rw [size_setCells]; simp
theorem run_alloc_book (w : World) : (Instr.alloc 118 true (.tuple #[])).run Tryd.prog w = .ok (.pointer (some ⟨w.heap.size, 0, none⟩)) (w.alloc (.cells zeroBook 118)) := by
  kernel_rfl

set_option maxRecDepth 100000 in
set_option maxHeartbeats 1000000 in
theorem encode_any (s : ByteArray) (w : World) (hs : s.size ≤ 1000000000) : Calls Tryd.prog 64 #[.string s] w (OwnPost w.heap.size (H.enc (by_ s)) w) := by
  go_enter Tryd.func64, Tryd.ntmps64
  go_wp2_with fail
  refine (newBook_any _).mono ?_
  rintro e w1 ⟨rfl, hb1⟩
  dsimp only
  rename_i hK
  refine hK _ _ ?_
  clear hK
  have hsz : bookL.toArray.size = 578 := by rw [List.size_toArray]; exact bookL_len
  refine wpList_alloc_big rfl 118 rfl zeroBook run_alloc_book ?_
  refine wpList_store_mid rfl 118 (.tmp 3) (.tmp 10) (by rfl) w1.heap.size 0 bookL.toArray (by rfl) (by rfl) (by rw [hsz]; exact (Bk.new w1).there (by omega)) (by rw [hsz]; kernel_rfl) (all_oneCell_toArray bookL_one) ?_
  obtain ⟨hbk, hbel, hz⟩ := book_stored w1
  have hb2 := hbel hb1 hb1.size
  have hz1 := hb1.size
  generalize hg : w1.heap.size = g at *
  generalize (w1.alloc (.cells zeroBook 118)).setCells g 0 bookL.toArray.toList = w2 at *
  have HB := Lib.hid hb2
  have HBk := Lib.hid hbk
  have Hz := Lib.hid hz
  clear hbel hsz hb1 hb2 hbk hz
  have hzle : H.sz (by_ s) ≤ 30 * s.size + 1 := by
    have h1 := (H.eb_bounds (by_ s)).2
    rw [by_len] at h1
    unfold H.sz
    omega
  obtain ⟨i0, hi, hz0, hz1b, hz2⟩ := info_parts info5
  generalize hsz : H.sz (by_ s) = sz at *
  have HS : Hid (∀ w, Calls Tryd.prog 63 #[.string s] w fun e w' => e = .returned (.int .i64 sz) ∧ w = w') := fun w => by rw [← hsz]; exact hsize_any s w (by omega)
  clear hsz
  have hb2 : i0.bytes * sz ≤ 281474976710656 := by rw [hz2]; omega
  have HB2 := Lib.hid hb2
  clear hb2
  have Hz2 := Lib.hid hz2
  go_wp2_with (first | (go_at_call 63; refine (HS.out _).mono ?_; rintro e w3 ⟨rfl, rfl⟩) | (at_make; refine wpList_make_own _ rfl _ _ 22 rfl w2.heap.size 5 i0 (.int .u8 0) 1 Tryd.underlying22 hi hz0 hz1b .i64 .i64 _ sz rfl rfl rfl HB2.out ?_ (Nat.le_refl _) ?_; unfold maxLen; omega; intro w3 hown hgrow))
  have HB3 := Lib.hid (Below.grown (Below.refl w2.heap.size w2) hgrow (Nat.le_refl _) (fun k e => by cases e))
  have hs3 := hgrow.size
  clear hgrow
  go_loopw [4, 5, 6, 16] (fun v x h i wr => ∃ (g' cp last held k : Nat) (out : List Nat), v = .slice (some ⟨g', 0, none⟩) out.length cp ∧ x = .int .u64 last ∧ h = .int .i64 held ∧ i = .int .i64 k ∧ k ≤ s.size ∧ held ≤ 7 ∧ last < 18446744073709551616 ∧ Hid (∀ x ∈ out, x < 256) ∧ Hid (H.bb out ++ H.nb held last = H.eb ((by_ s).take k)) ∧
      wr.ownsRow w2.heap.size 5 1 (.slice (some ⟨g', 0, none⟩) out.length cp) out.length (vals out) ∧ Hid (Below w2.heap.size w2 wr) ∧ w2.heap.size ≤ wr.heap.size) (fun _ _ _ i _ => s.size - (intOf i).toNat)
  case atStart =>
    refine ⟨_, _, 0, 0, 0, [], rfl, rfl, rfl, rfl, Nat.zero_le _, by omega, by omega, by intro x hx; simp at hx, rfl, hown, HB3, hs3⟩
  case round =>
    obtain ⟨g', cp, last, held, k, out, rfl, rfl, rfl, rfl, hk, hh, hl, Hlt, Hb, hown, HBr, hsr⟩ := hrel
    have hgw : g < w2.heap.size := by have := Hz.out; omega
    by_cases hlt : k < s.size
    · have HS2 : Hid (H.eb ((by_ s).take (k + 1)) = H.eb ((by_ s).take k) ++ H.nb (H.b s[k].toNat) (H.cod s[k].toNat)) := by
        show _ = _
        have hk1 : k < (by_ s).length := by rw [by_len]; exact hlt
        have hg := by_get s k hlt
        rw [List.getD_eq_getElem?_getD, List.getElem?_eq_getElem hk1] at hg
        rw [List.take_succ_eq_append_getElem hk1, H.eb_app, H.eb_one]
        rw [show (by_ s)[k] = s[k].toNat from hg]
      have hc : s[k].toNat < 256 := s[k].toNat_lt
      have hcc := (HBk.out.belowB HBr.out hgw).code s[k].toNat (by omega)
      have hbb := H.b_bounds s[k].toNat
      have Hcl := Lib.hid (H.cod_lt s[k].toNat (by omega))
      have hcl := H.cod_lt32 s[k].toNat (by omega)
      have HC : Hid (∀ w, Calls Tryd.prog 85 #[.int .i64 s[k].toNat] w fun e w' => e = .returned (.int .i64 (H.b s[k].toNat)) ∧ w = w') := fun w => bitsOf_any s[k].toNat w (by omega)
      generalize H.b s[k].toNat = n at *
      generalize H.cod s[k].toNat = c at *
      have Hor := Lib.hid (H.lay_or last n c (by omega) Hcl.out)
      have k0 : (0 : Int) ≤ (s[k].toNat : Int) := by omega
      have k1 : (s[k].toNat : Int) < 257 := by omega
      go_upto_region 9 with (go_at_call 85; refine (HC.out _).mono ?_; rintro e w1 ⟨rfl, rfl⟩)
      go_quiet (fail)
      go_upto_block 2 with (fail)
      have hor : bits .or .u64 (IntKind.u64.wrap ((last : Int) * 2 ^ n)) (c : Int) = ((last * 2 ^ n % 18446744073709551616 + c : Nat) : Int) := by
        have e1 : IntKind.u64.wrap ((last : Int) * 2 ^ n) = ((last * 2 ^ n % 18446744073709551616 : Nat) : Int) := by
          have e0 : (2 : Int) ^ n = ((2 ^ n : Nat) : Int) := by push_cast; rfl
          rw [IntKind.wrap_u64, e0, ← Int.natCast_mul]
          generalize last * 2 ^ n = q
          omega
        rw [e1, u64_or_nat _ _ (by omega) (by omega), Hor.out]
      rw [hor]
      have hL : last * 2 ^ n % 18446744073709551616 + c < 18446744073709551616 := by
        rw [← Hor.out]
        exact Nat.or_lt_two_pow (n := 64) (show _ < 2 ^ 64 by omega) (show _ < 2 ^ 64 by omega)
      have HX : Hid (H.bb out ++ H.nb (held + n) (last * 2 ^ n % 18446744073709551616 + c) = H.eb ((by_ s).take (k + 1))) := by
        show _ = _
        rw [H.nb_lay held n last c (by omega) Hcl.out, HS2.out, ← Hb.out, List.append_assoc]
      clear hor Hor Hcl HS2 Hb HC
      generalize last * 2 ^ n % 18446744073709551616 + c = L at *
      rw [show ((held : Int) + (n : Int)) = ((held + n : Nat) : Int) from by omega]
      have hHn : held + n ≤ 37 := by omega
      generalize held + n = hd at *
      go_step
      go_loopw [4, 6] (fun v h wq => ∃ (g' cp held : Nat) (out : List Nat), v = .slice (some ⟨g', 0, none⟩) out.length cp ∧ h = .int .i64 held ∧ held ≤ 37 ∧ Hid (∀ x ∈ out, x < 256) ∧ Hid (H.bb out ++ H.nb held L = H.eb ((by_ s).take (k + 1))) ∧
        wq.ownsRow w2.heap.size 5 1 (.slice (some ⟨g', 0, none⟩) out.length cp) out.length (vals out) ∧ Hid (Below w2.heap.size w2 wq) ∧ w2.heap.size ≤ wq.heap.size) (fun _ h _ => (intOf h).toNat)
      case atStart => exact ⟨g', cp, hd, out, rfl, rfl, hHn, Hlt, HX, hown, below_q HBr.out _, hsr⟩
      case round =>
        clear hown HBr hsr Hlt HX hHn
        obtain ⟨g', cp, held, out, rfl, rfl, hh, Hlt, HX, hown, HBr, hsr⟩ := hrel
        by_cases h8 : 8 ≤ held
        · have hlen : out.length ≤ 4 * s.size + 8 := by
            have h := congrArg List.length HX.out
            rw [List.length_append, H.bb_len, H.nb_len] at h
            have h2 := (H.eb_bounds ((by_ s).take (k + 1))).2
            have h3 : ((by_ s).take (k + 1)).length ≤ s.size := by rw [List.length_take, by_len]; omega
            omega
          have hone := Rd.one wr (L / 2 ^ (held - 8) % 256) 5 (by omega)
          have ex : ((L / 2 ^ (held - 8) % 256 : Nat) : Int) = (L : Int) / 2 ^ (held - 8) % 256 := by push_cast; rfl
          rw [ex] at hone
          have Hx := Lib.hid ex
          clear ex
          go_wp2_with (at_builtin; refine wpList_app _ rfl _ _ 22 rfl w2.heap.size _ 5 i0 (.int .u8 0) Tryd.underlying22 hi hz0 hz1b Hz2.out rfl _ out.length (vals out) rfl (hown.alloc _) (by intro e; cases e) _ 1 1 [L / 2 ^ (held - 8) % 256] rfl rfl hone ?_ ?_ ?_; omega; (simp; omega); intro g2 cp2 w4 hown2 hgrow2)
          go_roundw
          case rel =>
            refine ⟨g2, cp2, held - 8, out ++ [L / 2 ^ (held - 8) % 256], ?_, ?_, by omega, ?_, ?_, ?_, ?_, ?_⟩
            · rw [List.length_append]; rfl
            · first | rfl | (congr 1; omega)
            · intro x hx
              rcases List.mem_append.1 hx with hx | hx
              · exact Hlt.out x hx
              · rw [List.mem_singleton.1 hx]; omega
            · show _ = _
              rw [H.bb_app, H.bb_one, List.append_assoc, ← H.nb_off held L h8]
              exact HX.out
            · rw [vals_append, List.length_append]; exact hown2
            · exact (HBr.out.alloc (by omega) _).grown hgrow2 (by simp; omega) (fun k e => by cases e; exact (hown.lt g' rfl).1)
            · have := hgrow2.size; simp at this; omega
          case measure => simp [intOf]; omega
        · go_wp2_with fail
          go_roundw
          case rel =>
            refine ⟨g', cp, L, held, k + 1, out, rfl, rfl, rfl, by go_num, by omega, by omega, hL, Hlt, HX, hown, HBr, hsr⟩
          case measure => simp [intOf]; omega
    · obtain rfl : k = s.size := by omega
      rw [List.take_of_length_le (by rw [by_len]; exact Nat.le_refl _)] at Hb
      by_cases h0 : held = 0
      · subst h0
        go_wp2_with fail
        go_ret
        obtain rfl := H.enc_of Hlt.out (k := 0) (by omega) (by rw [← Hb.out]; simp [H.nb])
        exact ⟨_, rfl, Own.mono ⟨hown, g', cp, rfl⟩ (by omega), HB.out.trans (HBr.out.mono (by omega))⟩
      · have HC : Hid (∀ w, Calls Tryd.prog 68 #[.int .i64 ((8 : Int) - held)] w fun e w' => e = .returned (.int .u32 ((2 ^ (8 - held) - 1 : Nat) : Int)) ∧ w = w') := fun w => by
          rw [show ((8 : Int) - held) = ((8 - held : Nat) : Int) from by omega]
          exact ones_any (8 - held) w (by omega)
        have k0 : IntKind.i64.wrap ((8 : Int) - held) = (8 : Int) - held := by rw [IntKind.wrap_i64]; omega
        have k1 : (0 : Int) ≤ (8 : Int) - held := by omega
        have k2 : ((8 : Int) - held).toNat = 8 - held := by omega
        have hlen : out.length ≤ 4 * s.size + 8 := by
          have h := congrArg List.length Hb.out
          rw [List.length_append, H.bb_len, H.nb_len] at h
          have h2 := (H.eb_bounds (by_ s)).2
          rw [by_len] at h2
          omega
        have hV : bits .or .u8 (IntKind.u8.wrap (IntKind.u64.wrap ((last : Int) * 2 ^ (8 - held)))) (IntKind.u8.wrap ((2 ^ (8 - held) - 1 : Nat) : Int)) = (((last * 2 ^ (8 - held) % 256) ||| (2 ^ (8 - held) - 1) : Nat) : Int) := by
          have e0 : (2 : Int) ^ (8 - held) = ((2 ^ (8 - held) : Nat) : Int) := by push_cast; rfl
          have hp : 2 ^ (8 - held) ≤ 2 ^ 8 := Nat.pow_le_pow_right (by omega) (by omega)
          have hp0 : 0 < 2 ^ (8 - held) := Nat.two_pow_pos _
          rw [show (2 : Nat) ^ 8 = 256 from by decide] at hp
          have hp1 : 2 ^ (8 - held) - 1 < 256 := by omega
          rw [e0, ← Int.natCast_mul, IntKind.wrap_u64]
          generalize last * 2 ^ (8 - held) = q
          generalize 2 ^ (8 - held) - 1 = r at hp1
          have e1 : IntKind.u8.wrap ((q : Int) % 18446744073709551616) = ((q % 256 : Nat) : Int) := by rw [IntKind.wrap_u8]; omega
          have e2 : IntKind.u8.wrap (r : Int) = (r : Int) := by rw [IntKind.wrap_u8]; omega
          rw [e1, e2]
          exact u8_or_nat (q % 256) r (by omega) (by omega)
        have hX : (last * 2 ^ (8 - held) % 256) ||| (2 ^ (8 - held) - 1) < 256 := by
          refine Nat.or_lt_two_pow (n := 8) (show _ < 256 by omega) ?_
          have hp : 2 ^ (8 - held) ≤ 2 ^ 8 := Nat.pow_le_pow_right (by omega) (by omega)
          have hp0 : 0 < 2 ^ (8 - held) := Nat.two_pow_pos _
          omega
        have HF : Hid (H.bb (out ++ [(last * 2 ^ (8 - held) % 256) ||| (2 ^ (8 - held) - 1)]) = H.eb (by_ s) ++ List.replicate (8 - held) true) := by
          show _ = _
          rw [H.bb_app, H.bb_one, H.nb_last held last (by omega), ← List.append_assoc, Hb.out]
        have hone := Rd.one wr ((last * 2 ^ (8 - held) % 256) ||| (2 ^ (8 - held) - 1)) 5 hX
        rw [← hV] at hone
        have Hone := Lib.hid hone
        generalize (last * 2 ^ (8 - held) % 256) ||| (2 ^ (8 - held) - 1) = X at *
        have HV := Lib.hid hV
        clear hV hone
        go_upto_region 16 with (fail)
        go_region_held3 (fun _ => True) (trivial) (first
          | (go_at_call 68; refine (HC.out _).mono ?_; rintro e w1 ⟨rfl, rfl⟩)
          | (refine step_app rfl (.tmp 51) (.tmp 62) 22 rfl w2.heap.size _ 5 i0 (.int .u8 0) Tryd.underlying22 hi hz0 hz1b Hz2.out rfl _ out.length (vals out) rfl (World.ownsRow.alloc hown _) (by intro e; cases e) _ 1 1 [X] rfl rfl Hone.out (by omega) (by show w2.heap.size ≤ _; simp; omega) ?_; intro g2 cp2 w4 hown2 hgrow2))
        have hgr : World.grownBy _ w4 (Value.slice (some ⟨g', 0, none⟩) out.length cp).ownBlock := hgrow2
        have hb4 := (HBr.out.alloc (by omega) _).drew.grown hgr (by show w2.heap.size ≤ _; simp; omega) (fun k e => by cases e; exact (hown.lt g' rfl).1)
        have HB4 := Lib.hid hb4
        clear hgr hgrow2 hb4
        go_wp2
        go_ret
        have he := H.enc_of (t := by_ s) (out := out ++ [X]) (lt_app Hlt.out (by simpa using hX)) (k := 8 - held) (by omega) HF.out
        rw [← he]
        exact ⟨_, rfl, Own.mono (own_app rfl hown2) (by omega), HB.out.trans (HB4.out.mono (by omega))⟩
end Go.Proofs.YtcbljbdcnahfhaaDoor
/- Hsym -/
namespace Go.Proofs.YtcbljbdcnahfhaaDoor
open Go.RowKit

/-- What the book's symbol hands back. -/
def symV : Option Nat → Value
  | none => .tuple #[.int .i64 0, .bool false]
  | some i => .tuple #[.int .i64 (i : Nat), .bool true]

set_option maxRecDepth 100000 in
theorem symbol_any (g c n : Nat) (w : World) (hB : Book w g) (hn : n ≤ 30) (h1 : H.first n ≤ c) (h2 : c < 4294967296) :
    Calls Tryd.prog 69 #[.pointer (some ⟨g, 0, none⟩), .int .u32 c, .int .i64 n] w fun e w' => e = .returned (symV (H.sym c n)) ∧ ∃ q, w' = w.drewN q := by
  have hst := H.st_le n (by omega)
  have a1 := (Bk.atS hB n (by omega)).1
  have a2 := (Bk.atF hB n (by omega)).1
  have a3 := (Bk.atS hB (n + 1) (by omega)).1
  have hle := H.st_le (n + 1) (by omega)
  by_cases hlt : H.st n + (c - H.first n) < H.st (n + 1)
  · have HS := Lib.hid (H.sym_ord h1 hlt)
    have a4 := (Bk.atO hB (H.st n + (c - H.first n)) (by omega)).1
    have ho : H.ord 257 (H.st n + (c - H.first n)) ≤ 257 := H.ord_le _ _
    generalize H.ord 257 (H.st n + (c - H.first n)) = i at *
    generalize H.st (n + 1) = t at *
    generalize H.st n = s at *
    generalize H.first n = f at *
    clear hB
    obtain ⟨d, hd⟩ : ∃ d, d = c - f := ⟨_, rfl⟩
    have e1 : (c : Int) - f = (d : Int) := by omega
    rw [← hd] at hlt a4 
    have HD := Lib.hid hd
    have hd2 : s + d < 257 := by omega
    clear hd
    have k0 : (0 : Int) ≤ (n : Int) := by omega
    have k1 : (n : Int) < 32 := by omega
    have k2 : IntKind.u32.wrap ((c : Int) - f) = (d : Int) := by rw [e1, IntKind.wrap_u32]; omega
    have k3 : IntKind.u32.wrap ((d : Int)) = (d : Int) := by rw [IntKind.wrap_u32]; omega
    have k4 : IntKind.i64.wrap ((s : Int) + d) = (s : Int) + d := by rw [IntKind.wrap_i64]; omega
    have k5 : ((s : Int) + d).toNat = s + d := by omega
    have k6 : (0 : Int) ≤ (s : Int) + d := by omega
    have k7 : (s : Int) + d < 257 := by omega
    clear e1
    go_enter Tryd.func69, Tryd.ntmps69
    go_upto_region 1 with (fail)
    go_quiet (fail)
    go_wp2
    go_ret2
    refine ⟨?_, _, rfl⟩
    rw [HS.out]
    rfl
  · have HS := Lib.hid (H.sym_ord_none h1 hlt)
    have hq : H.st n + (c - H.first n) < 10000000000 := by omega
    generalize H.st (n + 1) = t at *
    generalize H.st n = s at *
    generalize H.first n = f at *
    clear hB
    obtain ⟨d, hd⟩ : ∃ d, d = c - f := ⟨_, rfl⟩
    have e1 : (c : Int) - f = (d : Int) := by omega
    rw [← hd] at hlt hq
    have hd2 : d < 4294967296 := by omega
    clear hd
    have k0 : (0 : Int) ≤ (n : Int) := by omega
    have k1 : (n : Int) < 32 := by omega
    have k2 : IntKind.u32.wrap ((c : Int) - f) = (d : Int) := by rw [e1, IntKind.wrap_u32]; omega
    have k3 : IntKind.u32.wrap ((d : Int)) = (d : Int) := by rw [IntKind.wrap_u32]; omega
    have k4 : IntKind.i64.wrap ((s : Int) + d) = (s : Int) + d := by rw [IntKind.wrap_i64]; omega
    clear e1
    go_enter Tryd.func69, Tryd.ntmps69
    go_upto_region 1 with (fail)
    go_quiet (fail)
    go_wp2
    go_ret2
    refine ⟨?_, _, rfl⟩
    rw [HS.out]
    rfl
end Go.Proofs.YtcbljbdcnahfhaaDoor
/- Hdec -/
namespace Go.Proofs.YtcbljbdcnahfhaaDoor
open Go.RowKit

/-- What holds between two bits that are read: A of them are, t is said, c of n bits is in the making. -/
def DecSt (w w2 : World) (l : List Nat) (g g2 cp A c n : Nat) (t : List Nat) (w' : World) : Prop :=
  Book w2 g ∧ g < w2.heap.size ∧ Below w.heap.size w w2 ∧ A ≤ 8 * l.length ∧ H.Mid c n ∧ t.length ≤ A ∧ (∀ x ∈ t, x < 256) ∧ H.decB l = (H.dec ((H.bb l).drop A) c n).map (t ++ ·) ∧
    w'.ownsRow w2.heap.size 5 1 (.slice (some ⟨g2, 0, none⟩) t.length cp) t.length (vals t) ∧ Below w2.heap.size w2 w' ∧ w2.heap.size ≤ w'.heap.size

def DecJ1 (w : World) (a : Option Addr) (len cap : Nat) (l : List Nat) (x : Act) (w' : World) : Prop :=
  ∃ (w2 : World) (g : Nat) (u : Nat → Value) (g2 cp A c n : Nat) (t : List Nat), x = { tmps := #[.slice a len cap, undef, .string ⟨#[]⟩, .nilIface, .pointer (some ⟨g, 0, none⟩), .slice (some ⟨g2, 0, none⟩) t.length cp, .int .i64 (A : Nat), .int .u32 (c : Nat), .int .i64 (n : Nat), u 9, u 10, u 11, u 12, u 13, u 14, u 15, u 16, u 17, u 18, u 19, u 20, u 21, u 22, u 23, u 24, u 25, u 26, u 27, u 28, u 29, u 30, u 31, u 32, u 33, u 34, u 35, u 36, u 37, u 38, u 39, u 40, u 41, u 42, u 43, u 44, u 45, u 46, u 47, u 48, u 49, u 50, u 51, u 52, u 53, u 54, u 55, u 56, u 57, u 58, u 59, u 60, u 61, u 62, u 63, u 64, u 65, u 66], defers := [] } ∧ DecSt w w2 l g g2 cp A c n t w'
def DecJ0 (w : World) (a : Option Addr) (len cap : Nat) (l : List Nat) (x : Act) (w' : World) : Prop :=
  ∃ (w2 : World) (g : Nat) (u : Nat → Value) (g2 cp A : Nat) (t : List Nat), x = { tmps := #[.slice a len cap, undef, .string ⟨#[]⟩, .nilIface, .pointer (some ⟨g, 0, none⟩), .slice (some ⟨g2, 0, none⟩) t.length cp, .int .i64 (A : Nat), u 7, u 8, u 9, u 10, u 11, u 12, u 13, u 14, u 15, u 16, u 17, u 18, u 19, u 20, u 21, u 22, u 23, u 24, u 25, u 26, u 27, u 28, u 29, u 30, u 31, u 32, u 33, u 34, u 35, u 36, u 37, u 38, u 39, u 40, u 41, u 42, u 43, u 44, u 45, u 46, u 47, u 48, u 49, u 50, u 51, u 52, u 53, u 54, u 55, u 56, u 57, u 58, u 59, u 60, u 61, u 62, u 63, u 64, u 65, u 66], defers := [] } ∧ DecSt w w2 l g g2 cp A 0 0 t w'

theorem decJ1_mk {w : World} {a : Option Addr} {len cap : Nat} {l : List Nat} {x : Act} {w' : World} (w2 : World) (g g2 cp A c n : Nat) (t : List Nat) (hx : x = { tmps := #[.slice a len cap, undef, .string ⟨#[]⟩, .nilIface, .pointer (some ⟨g, 0, none⟩), .slice (some ⟨g2, 0, none⟩) t.length cp, .int .i64 (A : Nat), .int .u32 (c : Nat), .int .i64 (n : Nat), x.tmps.getD 9 undef, x.tmps.getD 10 undef, x.tmps.getD 11 undef, x.tmps.getD 12 undef, x.tmps.getD 13 undef, x.tmps.getD 14 undef, x.tmps.getD 15 undef, x.tmps.getD 16 undef, x.tmps.getD 17 undef, x.tmps.getD 18 undef, x.tmps.getD 19 undef, x.tmps.getD 20 undef, x.tmps.getD 21 undef, x.tmps.getD 22 undef, x.tmps.getD 23 undef, x.tmps.getD 24 undef, x.tmps.getD 25 undef, x.tmps.getD 26 undef, x.tmps.getD 27 undef, x.tmps.getD 28 undef, x.tmps.getD 29 undef, x.tmps.getD 30 undef, x.tmps.getD 31 undef, x.tmps.getD 32 undef, x.tmps.getD 33 undef, x.tmps.getD 34 undef, x.tmps.getD 35 undef, x.tmps.getD 36 undef, x.tmps.getD 37 undef, x.tmps.getD 38 undef, x.tmps.getD 39 undef, x.tmps.getD 40 undef, x.tmps.getD 41 undef, x.tmps.getD 42 undef, x.tmps.getD 43 undef, x.tmps.getD 44 undef, x.tmps.getD 45 undef, x.tmps.getD 46 undef, x.tmps.getD 47 undef, x.tmps.getD 48 undef, x.tmps.getD 49 undef, x.tmps.getD 50 undef, x.tmps.getD 51 undef, x.tmps.getD 52 undef, x.tmps.getD 53 undef, x.tmps.getD 54 undef, x.tmps.getD 55 undef, x.tmps.getD 56 undef, x.tmps.getD 57 undef, x.tmps.getD 58 undef, x.tmps.getD 59 undef, x.tmps.getD 60 undef, x.tmps.getD 61 undef, x.tmps.getD 62 undef, x.tmps.getD 63 undef, x.tmps.getD 64 undef, x.tmps.getD 65 undef, x.tmps.getD 66 undef], defers := [] }) (h : DecSt w w2 l g g2 cp A c n t w') : DecJ1 w a len cap l x w' :=
  ⟨w2, g, fun k => x.tmps.getD k undef, g2, cp, A, c, n, t, hx, h⟩
theorem decJ0_mk {w : World} {a : Option Addr} {len cap : Nat} {l : List Nat} {x : Act} {w' : World} (w2 : World) (g g2 cp A : Nat) (t : List Nat) (hx : x = { tmps := #[.slice a len cap, undef, .string ⟨#[]⟩, .nilIface, .pointer (some ⟨g, 0, none⟩), .slice (some ⟨g2, 0, none⟩) t.length cp, .int .i64 (A : Nat), x.tmps.getD 7 undef, x.tmps.getD 8 undef, x.tmps.getD 9 undef, x.tmps.getD 10 undef, x.tmps.getD 11 undef, x.tmps.getD 12 undef, x.tmps.getD 13 undef, x.tmps.getD 14 undef, x.tmps.getD 15 undef, x.tmps.getD 16 undef, x.tmps.getD 17 undef, x.tmps.getD 18 undef, x.tmps.getD 19 undef, x.tmps.getD 20 undef, x.tmps.getD 21 undef, x.tmps.getD 22 undef, x.tmps.getD 23 undef, x.tmps.getD 24 undef, x.tmps.getD 25 undef, x.tmps.getD 26 undef, x.tmps.getD 27 undef, x.tmps.getD 28 undef, x.tmps.getD 29 undef, x.tmps.getD 30 undef, x.tmps.getD 31 undef, x.tmps.getD 32 undef, x.tmps.getD 33 undef, x.tmps.getD 34 undef, x.tmps.getD 35 undef, x.tmps.getD 36 undef, x.tmps.getD 37 undef, x.tmps.getD 38 undef, x.tmps.getD 39 undef, x.tmps.getD 40 undef, x.tmps.getD 41 undef, x.tmps.getD 42 undef, x.tmps.getD 43 undef, x.tmps.getD 44 undef, x.tmps.getD 45 undef, x.tmps.getD 46 undef, x.tmps.getD 47 undef, x.tmps.getD 48 undef, x.tmps.getD 49 undef, x.tmps.getD 50 undef, x.tmps.getD 51 undef, x.tmps.getD 52 undef, x.tmps.getD 53 undef, x.tmps.getD 54 undef, x.tmps.getD 55 undef, x.tmps.getD 56 undef, x.tmps.getD 57 undef, x.tmps.getD 58 undef, x.tmps.getD 59 undef, x.tmps.getD 60 undef, x.tmps.getD 61 undef, x.tmps.getD 62 undef, x.tmps.getD 63 undef, x.tmps.getD 64 undef, x.tmps.getD 65 undef, x.tmps.getD 66 undef], defers := [] }) (h : DecSt w w2 l g g2 cp A 0 0 t w') : DecJ0 w a len cap l x w' :=
  ⟨w2, g, fun k => x.tmps.getD k undef, g2, cp, A, t, hx, h⟩

/-- What Decode hands back. -/
def DecOut (e0 : Addr) (l : List Nat) (w : World) (e : Ending) (w' : World) : Prop :=
  Below w.heap.size w w' ∧ e = .returned (match H.decB l with
    | some t => .tuple #[.string (strOf t), .nilIface]
    | none => .tuple #[.string ⟨#[]⟩, .iface 166 (.pointer (some e0))])

set_option maxRecDepth 100000 in
set_option maxHeartbeats 1000000 in
theorem decode_any {B : Nat} (a : Option Addr) (len cap : Nat) (l : List Nat) (e0 : Addr) (w : World) (hl : l.length = len) (hlen : len ≤ 1000000000) (hr : Rd B w a l) (hE : w.cell? ⟨4, 0, none⟩ = some (.iface 166 (.pointer (some e0)))) :
    Calls Tryd.prog 46 #[.slice a len cap] w (DecOut e0 l w) := by
  obtain ⟨i0, hi, hz0, hz1b, hz2⟩ := info_parts info5
  have Hz2 := Lib.hid hz2
  have Hr := Lib.hid hr
  have HE := Lib.hid hE
  have Hl := Lib.hid hl
  clear hr hE hl hz2
  go_enter Tryd.func46, Tryd.ntmps46
  go_wp2_with fail
  refine wp_scope_fall 0 1 (DecJ0 w a len cap l) (DecJ1 w a len cap l) (fun x _ => 8 * len - (intOf (x.tmps.getD 6 undef)).toNat) (by decide) rfl rfl ?first ?enter ?round
  case first =>
    intro H1
    have HH := Lib.hid H1
    clear H1
    go_wp2_with fail
    refine (newBook_any _).mono ?_
    rintro e w1 ⟨rfl, hb1⟩
    dsimp only
    rename_i hK
    refine hK _ _ ?_
    clear hK
    have hsz : bookL.toArray.size = 578 := by rw [List.size_toArray]; exact bookL_len
    refine wpList_alloc_big rfl 118 rfl zeroBook run_alloc_book ?_
    refine wpList_store_mid rfl 118 (.tmp 4) (.tmp 11) (by rfl) w1.heap.size 0 bookL.toArray (by rfl) (by rfl) (by rw [hsz]; exact (Bk.new w1).there (by omega)) (by rw [hsz]; kernel_rfl) (all_oneCell_toArray bookL_one) ?_
    obtain ⟨hbk, hbel, hz⟩ := book_stored w1
    have hb2 := hbel hb1 hb1.size
    have hz1 := hb1.size
    generalize hg : w1.heap.size = g at *
    generalize (w1.alloc (.cells zeroBook 118)).setCells g 0 bookL.toArray.toList = w2 at *
    have HB := Lib.hid hb2
    have HBk := Lib.hid hbk
    have Hz := Lib.hid hz
    clear hbel hsz hb1 hb2 hbk hz
    have hC : Hid ((len : Int) * 8 / 5 = ((len * 8 / 5 : Nat) : Int)) := by show _ = _; omega
    have hb2 : i0.bytes * (len * 8 / 5) ≤ 281474976710656 := by rw [Hz2.out]; omega
    have HB2 := Lib.hid hb2
    clear hb2
    go_wp2_with (at_make; refine wpList_make_own _ rfl _ _ 22 rfl w2.heap.size 5 i0 (.int .u8 0) 1 Tryd.underlying22 hi hz0 hz1b .i64 .i64 _ (len * 8 / 5) rfl rfl hC.out HB2.out ?_ (Nat.le_refl _) ?_; unfold maxLen; omega; intro w3 hown hgrow)
    have HB3 := Lib.hid (Below.grown (Below.refl w2.heap.size w2) hgrow (Nat.le_refl _) (fun k e => by cases e))
    have hs3 := hgrow.size
    clear hgrow
    refine wp_label ?_
    go_wp2
    refine wp_label ?_
    simp only [Exit.then]
    rename_i hK
    refine hK _ _ (HH.out _ _ ?_)
    exact decJ1_mk w2 g w2.heap.size (len * 8 / 5) 0 0 0 [] rfl ⟨HBk.out, by have := Hz.out; omega, HB.out, by omega, H.mid0, by simp, by simp, by simp [H.decB], hown, HB3.out, hs3⟩
  case enter =>
    rintro x wr ⟨w2, g, u, g2, cp, A, t, rfl, h⟩
    have HS := Lib.hid h
    clear h
    go_wp2
    exact decJ1_mk w2 g g2 cp A 0 0 t rfl HS.out
  case round =>
    rintro x wr ⟨w2, g, u, g2, cp, A, c, n, t, rfl, hbk, hg, hbw, hA, hmid, htA, htl, hdec, hown, hbel, hs2⟩
    have HBk := Lib.hid hbk
    have HB := Lib.hid hbw
    have HM := Lib.hid hmid
    have HT := Lib.hid htl
    have HD := Lib.hid hdec
    have HB2 := Lib.hid hbel
    have hcw : w.heap.size ≤ w2.heap.size := hbw.size
    have HW : Hid (Below w.heap.size w wr) := hbw.trans (hbel.mono hcw)
    have hn29 := hmid.2.1
    have hc29 : c < 1073741824 := by
      have h1 := hmid.1
      have h2 : 2 ^ n ≤ 2 ^ 30 := Nat.pow_le_pow_right (by omega) (by omega)
      have e : (2 : Nat) ^ 30 = 1073741824 := by decide
      omega
    clear hbk hbw hmid htl hdec hbel
    rw [Hl.out] at hA
    by_cases hend : A = 8 * len
    · have HD2 : Hid (H.decB l = if n < 8 ∧ c = 2 ^ n - 1 then some t else none) := by
        show _ = _
        rw [HD.out, hend, ← Hl.out, H.dec_end]
        split <;> simp
      clear HD
      subst hend
      have hE := cell_below HW.out HE.out
      by_cases h8 : 8 ≤ n
      · rw [if_neg (by omega)] at HD2
        go_wp2_with fail
        go_quiet (fail)
        go_wp2
        simp only [jumps]
        go_ret2
        refine ⟨below_q HW.out _, ?_⟩
        rw [HD2.out]
        rfl
      · have HC : Hid (∀ w, Calls Tryd.prog 68 #[.int .i64 (n : Nat)] w fun e w' => e = .returned (.int .u32 ((2 ^ n - 1 : Nat) : Int)) ∧ w = w') := fun w => ones_any n w (by omega)
        by_cases hc : c = 2 ^ n - 1
        · rw [if_pos ⟨by omega, hc⟩] at HD2
          rw [← hc] at HC
          clear hc
          have ⟨aT, cpT, eT, hleT, hrT⟩ := Own.rd (v := .slice (some ⟨g2, 0, none⟩) t.length cp) ⟨hown, g2, cp, rfl⟩ HT.out
          cases eT
          have hstr := run_str (some ⟨g2, 0, none⟩) cp t wr hrT
          have hne : (!(c == c)) = false := by simp
          go_wp2_with (go_at_call 68; refine (HC.out _).mono ?_; rintro e w1 ⟨rfl, rfl⟩)
          simp only [jumps]
          go_ret2
          refine ⟨HW.out, ?_⟩
          rw [HD2.out]
          rfl
        · rw [if_neg (fun h => hc h.2)] at HD2
          have hp : 0 < 2 ^ n := Nat.two_pow_pos n
          generalize 2 ^ n - 1 = q at *
          have hne : ((c : Int) != (q : Int)) = true := by simp; omega
          clear hp
          go_wp2_with (go_at_call 68; refine (HC.out _).mono ?_; rintro e w1 ⟨rfl, rfl⟩)
          go_quiet (fail)
          go_wp2
          simp only [jumps]
          go_ret2
          refine ⟨below_q HW.out _, ?_⟩
          rw [HD2.out]
          rfl
    · have hlt : A < 8 * len := by omega
      have HR : Hid (H.dec ((H.bb l).drop A) c n = match H.sym (c * 2 + H.bitAt l A) (n + 1) with
        | none => H.dec ((H.bb l).drop (A + 1)) (c * 2 + H.bitAt l A) (n + 1)
        | some i => if i = 256 then none else (H.dec ((H.bb l).drop (A + 1)) 0 0).map (i :: ·)) := H.dec_read l A c n (by rw [Hl.out]; exact hlt)
      have hq : A / 8 < l.length := by rw [Hl.out]; omega
      obtain ⟨b, o, rfl, hcell⟩ := (Hr.out.below HW.out).cell hq
      have hx := Hr.out.lt (A / 8)
      have HX : Hid (H.bitAt l A = l.getD (A / 8) 0 / 2 ^ (7 - A % 8) % 2) := rfl
      generalize l.getD (A / 8) 0 = X at *
      have hb2 := H.bitAt_lt l A
      generalize H.bitAt l A = x at *
      have hge := (HM.out.ge (x := x))
      have hpl := HM.out.lt hb2
      have HMS := Lib.hid (fun h => HM.out.step hb2 h)
      clear hend
      have hne : ((A : Int) == (len : Int) * 8) = false := by simp; omega
      have Hge := Lib.hid hge
      have Hpl := Lib.hid hpl
      clear hge hpl
      go_upto_region 14 with (fail)
      have hval : bits .or .u32 ((c : Int) * 2) (bits .and .u8 ((X : Int) / 2 ^ (7 - A % 8)) 1 % 4294967296) = ((c * 2 + x : Nat) : Int) := by
        have e0 : (2 : Int) ^ (7 - A % 8) = ((2 ^ (7 - A % 8) : Nat) : Int) := by push_cast; rfl
        have hXd : X / 2 ^ (7 - A % 8) < 256 := Nat.lt_of_le_of_lt (Nat.div_le_self _ _) hx
        rw [e0, ← Int.natCast_ediv]
        have HXo := HX.out
        generalize X / 2 ^ (7 - A % 8) = Y at *
        have e1 : bits .and .u8 (Y : Int) 1 = (Y : Int) % 2 := bits_mask .u8 8 (by decide) wraps_u8 1 (by decide) Y (by omega) (by omega)
        have e2 : (Y : Int) % 2 % 4294967296 = (x : Int) := by omega
        rw [e1, e2, show ((c : Int) * 2) = ((c * 2 : Nat) : Int) from by omega, u32_or_nat _ _ (by omega) (by omega)]
        have e3 := Nat.two_pow_add_eq_or_of_lt (i := 1) (show x < 2 ^ 1 by omega) c
        rw [Nat.pow_one, Nat.mul_comm 2 c] at e3
        rw [e3]
      rw [hval]
      clear hval hcell HX hx hne
      have hc2 : c * 2 + x < 4294967296 := by omega
      generalize c * 2 + x = c2 at *
      have HC : Hid (∀ ww, Book ww g → Calls Tryd.prog 69 #[.pointer (some ⟨g, 0, none⟩), .int .u32 (c2 : Nat), .int .i64 ((n : Int) + 1)] ww fun e w' => e = .returned (symV (H.sym c2 (n + 1))) ∧ ∃ q, w' = ww.drewN q) := fun ww hb => by
        have h := symbol_any g c2 (n + 1) ww hb (by omega) Hge.out hc2
        rw [show (((n + 1 : Nat)) : Int) = (n : Int) + 1 from by omega] at h
        exact h
      have hbw := HBk.out.belowB HB2.out hg
      cases hsym : H.sym c2 (n + 1) with
      | none =>
        have HM2 := Lib.hid (HMS.out hsym)
        rw [hsym] at HC HR
        clear hsym HMS
        go_wp2_with (go_at_call 69; refine (HC.out _ hbw).mono ?_; rintro e w1 ⟨rfl, q, rfl⟩; simp only [symV])
        refine wp_goto ?_
        simp only [Exit.then]
        refine Or.inr ⟨rfl, decJ1_mk w2 g g2 cp (A + 1) c2 (n + 1) t rfl ⟨HBk.out, hg, HB.out, by rw [Hl.out]; omega, HM2.out, by omega, HT.out, HD.out.trans (congrArg (Option.map (t ++ ·)) HR.out), hown, below_q HB2.out q, hs2⟩, ?_⟩
        simp [intOf]
        omega
      | some i =>
        have hi257 := (H.sym_some hsym).1
        rw [hsym] at HC HR
        clear hsym HMS
        by_cases h256 : i = 256
        · subst h256
          have HD2 : Hid (H.decB l = none) := by
            show _ = _
            rw [HD.out, HR.out]
            rfl
          have hE := cell_below HW.out HE.out
          go_wp2_with (go_at_call 69; refine (HC.out _ hbw).mono ?_; rintro e w1 ⟨rfl, q, rfl⟩; simp only [symV])
          go_quiet (fail)
          go_wp2
          simp only [jumps]
          go_ret2
          refine ⟨below_q HW.out _, ?_⟩
          rw [HD2.out]
          rfl
        · have hi8 : i < 256 := by omega
          have hne : ((i : Int) == 256) = false := by simp; omega
          have HD2 : Hid (H.decB l = (H.dec ((H.bb l).drop (A + 1)) 0 0).map ((t ++ [i]) ++ ·)) := by
            show _ = _
            rw [HD.out, HR.out]
            show (if i = 256 then none else _).map _ = _
            rw [if_neg h256, H.map_app t t]
          clear h256 HD HR
          have hone := fun q : Nat => Rd.one (wr.drewN q) i 5 hi8
          have Hone := Lib.hid hone
          clear hone
          go_wp2_with (first | (go_at_call 69; refine (HC.out _ hbw).mono ?_; rintro e w1 ⟨rfl, q, rfl⟩; simp only [symV]) | (at_builtin; refine wpList_app _ rfl _ _ 22 rfl w2.heap.size _ 5 i0 (.int .u8 0) Tryd.underlying22 hi hz0 hz1b Hz2.out rfl _ t.length (vals t) rfl (World.ownsRow.alloc (w := wr.drewN q) hown _) (by intro e; cases e) _ 1 1 [i] rfl rfl (Hone.out q) ?_ ?_ ?_; omega; (simp; omega); intro g3 cp3 w4 hown2 hgrow2))
          have hb4 := ((below_q HB2.out q).alloc (by exact hs2) (.cells #[.int .u8 i] 5)).grown hgrow2 (by simp; omega) (fun k e => by cases e; exact (hown.lt g2 rfl).1)
          have hs4 := hb4.size
          have hown3 : w4.ownsRow w2.heap.size 5 1 (.slice (some ⟨g3, 0, none⟩) (t ++ [i]).length cp3) (t ++ [i]).length (vals (t ++ [i])) := by
            rw [vals_append, List.length_append]
            exact hown2
          have HO := Lib.hid hown3
          have HB4 := Lib.hid hb4
          have HT2 : Hid (∀ x ∈ t ++ [i], x < 256) := lt_app HT.out (by simpa using hi8)
          clear hown2 hown3 hb4 hgrow2 hown
          refine wp_goto ?_
          refine Or.inl ⟨rfl, decJ0_mk w2 g g3 cp3 (A + 1) (t ++ [i]) (by rw [List.length_append]; rfl) ⟨HBk.out, hg, HB.out, by rw [Hl.out]; omega, H.mid0, by simp; omega, HT2.out, HD2.out, HO.out, HB4.out, hs4⟩, ?_⟩
          simp [intOf]
          omega
end Go.Proofs.YtcbljbdcnahfhaaDoor
