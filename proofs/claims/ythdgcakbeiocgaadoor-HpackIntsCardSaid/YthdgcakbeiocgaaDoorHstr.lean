/-
Texts and their bytes; what two codes behind one another have.
-/
import Derived.Test.YthdgcakbeiocgaaDoorHsmall
import Derived.Test.YthdgcakbeiocgaaDoorHbits
import Derived.Test.YthdgcakbeiocgaaDoorGapp
namespace Go.Proofs.YthdgcakbeiocgaaDoor
open Go.RowKit

theorem strOf_toList (l : List Nat) : (strOf l).data.toList = l.map UInt8.ofNat := by
  unfold strOf
  rw [strOfNums_data, List.map_map]
  apply List.map_congr_left
  intro x _
  simp
theorem strOf_by (s : ByteArray) : strOf (by_ s) = s := by
  apply ByteArray.ext
  apply Array.toList_inj.1
  rw [strOf_toList]
  unfold by_
  rw [List.map_map]
  conv => rhs; rw [← List.map_id s.data.toList]
  apply List.map_congr_left
  intro x _
  simp
theorem by_strOf (t : List Nat) (h : ∀ x ∈ t, x < 256) : by_ (strOf t) = t := by
  unfold by_
  rw [strOf_toList, List.map_map]
  conv => rhs; rw [← List.map_id t]
  apply List.map_congr_left
  intro x hx
  show (UInt8.ofNat x).toNat = x
  rw [UInt8.toNat_ofNat']
  exact Nat.mod_eq_of_lt (h x hx)
theorem strOf_size (t : List Nat) : (strOf t).size = t.length := by
  show (strOf t).data.size = _
  rw [← Array.length_toList, strOf_toList, List.length_map]
theorem by_app (s t : ByteArray) : by_ (s ++ t) = by_ s ++ by_ t := by
  unfold by_
  rw [ByteArray.data_append, Array.toList_append, List.map_append]

namespace H
theorem dec_len {l t : List Nat} (hl : ∀ x ∈ l, x < 256) (h : decB l = some t) : 5 * t.length ≤ 8 * l.length := by
  have h1 := enc_dec hl h
  have h2 := bb_enc t
  rw [h1] at h2
  have h3 := congrArg List.length h2
  rw [bb_len, List.length_append] at h3
  have := (eb_bounds t).1
  omega
theorem decB_lt {l t : List Nat} (h : decB l = some t) : ∀ x ∈ t, x < 256 := dec_lt _ 0 0 t h

theorem first_step (n : Nat) : ∀ k, (first n + cnt n 257) * 2 ^ (k + 1) ≤ first (n + (k + 1))
  | 0 => by
    show _ ≤ (first n + cnt n 257) * 2
    simp
  | k + 1 => by
    have h := first_step n k
    have e : first (n + (k + 1 + 1)) = (first (n + (k + 1)) + cnt (n + (k + 1)) 257) * 2 := rfl
    rw [e, Nat.pow_succ, ← Nat.mul_assoc]
    exact Nat.mul_le_mul_right 2 (by omega)

/-- No code begins another one's. -/
theorem apart {i j : Nat} (hi : i < 257) (hne : i ≠ j) (hb : b i ≤ b j) : cod j / 2 ^ (b j - b i) ≠ cod i := by
  intro h
  by_cases e : b i = b j
  · rw [e, Nat.sub_self, Nat.pow_zero, Nat.div_one] at h
    exact hne (cod_inj e h.symm)
  · obtain ⟨k, hk⟩ : ∃ k, b j = b i + (k + 1) := ⟨b j - b i - 1, by omega⟩
    have h1 := first_step (b i) k
    rw [← hk] at h1
    have h2 : first (b j) ≤ cod j := Nat.le_add_right _ _
    have h3 : cod i < first (b i) + cnt (b i) 257 := Nat.add_lt_add_left (cnt_lt hi) _
    have h4 : first (b i) + cnt (b i) 257 ≤ cod j / 2 ^ (b j - b i) := by
      rw [hk, Nat.add_sub_cancel_left, Nat.le_div_iff_mul_le (Nat.two_pow_pos _)]
      exact Nat.le_trans h1 h2
    omega

/-- What the first i symbols fill. -/
def fill : Nat → Nat
  | 0 => 0
  | i + 1 => fill i + 2 ^ (30 - b i)
theorem fill_all : fill 257 = 1073741824 := by decide +kernel
theorem fill_mono {i j : Nat} (h : i ≤ j) : fill i ≤ fill j := by
  induction j with
  | zero => rw [Nat.le_zero.1 h]; exact Nat.le_refl _
  | succ j ih =>
    by_cases e : i = j + 1
    · rw [e]; exact Nat.le_refl _
    · exact Nat.le_trans (ih (by omega)) (Nat.le_add_right _ _)
theorem fill_lt {i : Nat} (h : i ≤ 257) : fill i ≤ 1073741824 := by rw [← fill_all]; exact fill_mono h
end H
end Go.Proofs.YthdgcakbeiocgaaDoor
