/-
The walks of huff's small functions: bitsOf, Size, ones.
-/
import Derived.Test.YthdgcakbeiocgaaDoorGapp
import Derived.Test.YthdgcakbeiocgaaDoorHbits
namespace Go.Proofs.YthdgcakbeiocgaaDoor
open Go.RowKit

set_option maxRecDepth 100000 in
set_option maxHeartbeats 400000 in
theorem bitsOf_any (i : Nat) (w : World) (hi : i < 257) : Calls Tryd.prog 85 #[.int .i64 i] w fun e w' => e = .returned (.int .i64 (H.b i)) ∧ w = w' := by
  go_enter Tryd.func85, Tryd.ntmps85
  go_wp2
  go_ret
  refine ⟨?_, rfl⟩
  refine congrArg (fun n => Ending.returned (Value.int IntKind.i64 n)) ?_
  rename_i h1
  clear w
  revert h1; revert hi; revert i
  decide +kernel

theorem ones_any (n : Nat) (w : World) (h : n ≤ 30) : Calls Tryd.prog 68 #[.int .i64 n] w fun e w' => e = .returned (.int .u32 ((2 ^ n - 1 : Nat) : Int)) ∧ w = w' := by
  go_enter Tryd.func68, Tryd.ntmps68
  go_wp2
  go_ret
  refine ⟨?_, rfl⟩
  refine congrArg (fun n => Ending.returned (Value.int IntKind.u32 n)) ?_
  have h1 : 2 ^ n ≤ 2 ^ 30 := Nat.pow_le_pow_right (by omega) h
  have h2 : 0 < 2 ^ n := Nat.two_pow_pos n
  have e : (2 : Nat) ^ 30 = 1073741824 := by decide
  have e2 : (2 : Int) ^ n = ((2 ^ n : Nat) : Int) := by push_cast; rfl
  rw [e2]
  generalize 2 ^ n = k at *
  omega

/-- How many bits the first i bytes of a text have. -/
theorem eb_take_succ (l : List Nat) (i : Nat) (h : i < l.length) : (H.eb (l.take (i + 1))).length = (H.eb (l.take i)).length + H.b (l.getD i 0) := by
  rw [List.take_succ_eq_append_getElem h, H.eb_app, List.length_append, H.eb_one, H.nb_len, List.getD_eq_getElem?_getD, List.getElem?_eq_getElem h]
  rfl

/-- A text's bytes. -/
def by_ (s : ByteArray) : List Nat := s.data.toList.map UInt8.toNat
theorem by_len (s : ByteArray) : (by_ s).length = s.size := by
  unfold by_
  rw [List.length_map]
  rfl
theorem by_lt (s : ByteArray) : ∀ x ∈ by_ s, x < 256 := by
  intro x hx
  obtain ⟨c, _, rfl⟩ := List.mem_map.1 hx
  exact c.toNat_lt
theorem by_get (s : ByteArray) (k : Nat) (h : k < s.size) : (by_ s).getD k 0 = s[k].toNat := by
  rw [List.getD_eq_getElem?_getD, List.getElem?_eq_getElem (by rw [by_len]; exact h)]
  show (by_ s)[k]'(by rw [by_len]; exact h) = _
  unfold by_
  rw [List.getElem_map]
  rfl

theorem hsize_any (s : ByteArray) (w : World) (hs : s.size ≤ 140737488355328) : Calls Tryd.prog 63 #[.string s] w fun e w' => e = .returned (.int .i64 (H.sz (by_ s))) ∧ w = w' := by
  go_enter Tryd.func63, Tryd.ntmps63
  go_wp2
  go_loop [3, 4, 7] (fun n _ i => ∃ k : Nat, k ≤ s.size ∧ i = .int .i64 k ∧ n = .int .i64 ((H.eb ((by_ s).take k)).length : Nat)) (fun _ _ i => s.size - (intOf i).toNat)
  case atStart => exact ⟨0, Nat.zero_le _, rfl, rfl⟩
  case round =>
    obtain ⟨k, hk, rfl, rfl⟩ := hrel
    have hbd := (H.eb_bounds ((by_ s).take k)).2
    have hl : ((by_ s).take k).length ≤ k := List.length_take_le _ _
    have hbd2 : (H.eb ((by_ s).take k)).length ≤ 30 * k := by omega
    by_cases hlt : k < s.size
    · have HS := Lib.hid (eb_take_succ (by_ s) k (by rw [by_len]; exact hlt))
      have HG := Lib.hid (by_get s k hlt)
      have hb := H.b_bounds ((by_ s).getD k 0)
      have hc : s[k].toNat < 256 := s[k].toNat_lt
      rw [HG.out] at hb
      generalize (H.eb ((by_ s).take k)).length = L at *
      clear hbd hl
      go_wp2_with (go_at_call 85; refine (bitsOf_any s[k].toNat _ (by omega)).mono ?_; rintro e w1 ⟨rfl, rfl⟩)
      go_round
      case rel => exact ⟨k + 1, by omega, by go_num, by rw [HS.out, HG.out]; go_num⟩
      case measure => simp [intOf]; omega
    · obtain rfl : k = s.size := by omega
      go_wp2
      go_ret
      refine ⟨?_, rfl⟩
      rw [List.take_of_length_le (by rw [by_len]; exact Nat.le_refl _)]
      refine congrArg (fun n => Ending.returned (Value.int IntKind.i64 n)) ?_
      unfold H.sz
      omega

end Go.Proofs.YthdgcakbeiocgaaDoor
