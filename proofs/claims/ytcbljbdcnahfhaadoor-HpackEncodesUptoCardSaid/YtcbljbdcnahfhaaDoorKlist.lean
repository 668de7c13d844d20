/-
Lists of headers: the copy of one; whether one is light; its size.
-/
import Derived.Test.YtcbljbdcnahfhaaDoorMkd
import Derived.Test.YtcbljbdcnahfhaaDoorMkg
import Derived.Test.YtcbljbdcnahfhaaDoorMkb
import Derived.Deep.QuietTactic
import Derived.BigQuiet
import Derived.Deep.Onto
namespace Go.Proofs.YtcbljbdcnahfhaaDoor
open Go.RowKit

theorem QRdB.belowB {K K2 : Nat} {w w' : World} {a : Option Addr} {l : List (B.HD × Bool)} (h : QRdB K w a l) (hb : Below K2 w w') (hk : K ≤ K2) : QRdB K w' a l := fun j x hx => by
  obtain ⟨b, o, e, h0, h1, h2, h3⟩ := h j x hx
  exact ⟨b, o, e, h0, cell_belowB hb (by omega) h1, cell_belowB hb (by omega) h2, cell_belowB hb (by omega) h3⟩
theorem QRdB.mono {K K' : Nat} {w : World} {a : Option Addr} {l : List (B.HD × Bool)} (h : QRdB K w a l) (hk : K ≤ K') : QRdB K' w a l := fun j x hx => by
  obtain ⟨b, o, e, h0, h1⟩ := h j x hx
  exact ⟨b, o, e, by omega, h1⟩
theorem QOwn.rdB {K : Nat} {w : World} {v : Value} {l : List (B.HD × Bool)} (h : QOwn K w v l) : ∃ a cp, v = .slice a l.length cp ∧ l.length ≤ cp ∧ QRdB w.heap.size w a l := by
  rcases h.cases with ⟨rfl, rfl⟩ | ⟨g, cp, rfl, h1, _, h3, h2⟩
  · exact ⟨none, 0, rfl, Nat.le_refl _, fun j x hx => by simp at hx⟩
  · exact ⟨_, cp, rfl, h1, fun j x hx => by
      obtain ⟨b, o, e, c⟩ := h2 j x hx
      exact ⟨b, o, e, World.block_lt_of_cell? _ _ c.1, c⟩⟩

/-- A copy of headers. -/
def QOut (l : List (B.HD × Bool)) (w : World) (e : Ending) (w' : World) : Prop := ∃ v, e = .returned v ∧ QOwn w.heap.size w' v l ∧ Below w.heap.size w w'

set_option maxRecDepth 100000 in
set_option maxHeartbeats 4000000 in
theorem qheaders_any {K : Nat} (a : Option Addr) (n c : Nat) (l : List (B.HD × Bool)) (w : World) (hl : l.length = n) (hn : n ≤ 1048576) (hr : QRdB K w a l) (hK : K ≤ w.heap.size) :
    Calls Tryd.prog 27 #[.slice a n c] w (QOut l w) := by
  obtain ⟨i0, hi, hz0, hz1, hz2⟩ := info_parts infoQ
  have HL := Lib.hid hl
  have HR := Lib.hid hr
  clear hl hr
  have HB2 : Hid (i0.bytes * n ≤ 281474976710656) := by show _ ≤ _; rw [hz2]; omega
  go_enter Tryd.func27, Tryd.ntmps27
  go_wp2_with (at_make; refine wpList_make_own _ rfl _ _ 50 rfl w.heap.size 66 i0 _ 3 Tryd.underlying50 hi hz0 hz1 .i64 .i64 _ n rfl rfl rfl HB2.out ?_ (Nat.le_refl _) ?_; unfold maxLen; omega; intro w1 hown hgrow)
  have H0 : Hid (QOwn w.heap.size w1 (.slice (some ⟨w.heap.size, 0, none⟩) 0 n) []) := hown
  have HB1 := Lib.hid (Below.grown (Below.refl w.heap.size w) hgrow (Nat.le_refl _) (fun k e => by cases e))
  clear hown hgrow
  go_wp2
  go_loopw [3, 4] (fun al i wr => ∃ k : Nat, k ≤ n ∧ i = .int .i64 k ∧ Hid (QOwn w.heap.size wr al (l.take k)) ∧ Hid (Below w.heap.size w wr)) (fun _ i _ => n - (intOf i).toNat)
  case atStart => exact ⟨0, by omega, rfl, H0, HB1⟩
  case round =>
    obtain ⟨k, hk, rfl, HO, HB⟩ := hrel
    clear H0 HB1
    have hz := HB.out.size
    by_cases hlt : k < n
    · obtain ⟨x, hx⟩ : ∃ x, l[k]? = some x := ⟨_, List.getElem?_eq_getElem (by rw [HL.out]; exact hlt)⟩
      obtain ⟨b, o, rfl, hbK, d0, d1, d2⟩ := (HR.out.belowB HB.out hK) k x hx
      obtain ⟨⟨xn, xv⟩, xb⟩ := x
      have HT : Hid (l.take (k + 1) = l.take k ++ [((xn, xv), xb)]) := by
        show _ = _
        rw [List.take_add_one, hx]; rfl
      have hlk : (l.take k).length = k := by rw [List.length_take, HL.out]; omega
      have hsz : (l.take k).length + 1 ≤ 2097152 := by omega
      clear hx
      have q0 : (0 : Int) ≤ (k : Int) := by omega
      have q1 : (k : Int) < (n : Int) := by omega
      have hba : Below wr.heap.size wr (wr.alloc (.cells #[.string xn, .string xv, .bool xb] 66)) := (Below.refl _ _).alloc (Nat.le_refl _) _
      have HBa := Lib.hid (HB.out.trans (hba.mono hz))
      have HOa := Lib.hid (HO.out.below hba)
      have HRn := Lib.hid (QRd.one wr xn xv xb)
      clear hba HO HB
      go_wp2_with (at_builtin; refine wpList_appQ _ rfl _ _ rfl rfl w.heap.size _ (l.take k) rfl HOa.out ⟨wr.heap.size, 0, none⟩ 1 1 [((xn, xv), xb)] rfl rfl (by omega) HRn.out hsz ?_ ?_; (have := HBa.out.size; omega); intro g7 cp7 w7 hA7 hg7)
      have HA7 := Lib.hid hA7
      have HB7 := Lib.hid (HBa.out.grown hg7 HBa.out.size (fun r e => (HOa.out.lt r e).1))
      clear hA7 hg7 HOa HBa HRn
      go_wp2
      go_roundw
      case rel => exact ⟨k + 1, by omega, by rw [Int.natCast_add]; rfl, by have h := HA7.out; rw [hlk] at h; rw [HT.out]; exact h, HB7⟩
      case measure => simp [intOf]; omega
    · obtain rfl : k = n := by omega
      have hO := HO.out
      rw [List.take_of_length_le (by rw [HL.out]; exact Nat.le_refl _)] at hO
      have HO2 := Lib.hid hO
      clear hO HO
      go_wp2
      go_ret
      exact ⟨_, rfl, HO2.out, HB.out⟩

/-- The texts of headers are of at most n bytes. -/
def QSz (n : Nat) (l : List (B.HD × Bool)) : Prop := ∀ x ∈ l, x.1.1.size ≤ n ∧ x.1.2.size ≤ n
theorem totA_take (l : List (B.HD × Bool)) (k : Nat) (x : B.HD × Bool) (hx : l[k]? = some x) : P.totA (l.take (k + 1)) = P.totA (l.take k) + B.sz x.1 := by
  rw [List.take_add_one, hx, P.totA_app]
  simp [P.totA, B.tot]

theorem totA_le (l : List (B.HD × Bool)) (hs : QSz 1000000000 l) : P.totA l ≤ l.length * 2000000032 := by
  induction l with
  | nil => exact Nat.le_refl _
  | cons x t ih =>
    have h1 := ih (fun y hy => hs y (List.mem_cons_of_mem _ hy))
    have h2 := hs x List.mem_cons_self
    have e : P.totA (x :: t) = B.sz x.1 + P.totA t := by simp only [P.totA, List.map_cons, B.tot]
    rw [e]
    unfold B.sz
    simp only [List.length_cons, Nat.add_mul]
    omega
set_option maxRecDepth 100000 in
set_option maxHeartbeats 2000000 in
theorem ksize_any {K : Nat} (a : Option Addr) (n c : Nat) (l : List (B.HD × Bool)) (w : World) (hl : l.length = n) (hn : n ≤ 1048576) (hr : QRdB K w a l) (hK : K ≤ w.heap.size) (hs : QSz 1000000000 l) :
    Calls Tryd.prog 31 #[.slice a n c] w fun e w' => e = .returned (.int .i64 (P.totA l : Nat)) ∧ Below w.heap.size w w' := by
  have HL := Lib.hid hl
  have HR := Lib.hid hr
  have HS := Lib.hid hs
  clear hl hr hs
  go_enter Tryd.func31, Tryd.ntmps31
  go_wp2
  go_loopw [3, 8] (fun z i wr => ∃ k : Nat, k ≤ n ∧ i = .int .i64 (k : Nat) ∧ z = .int .i64 (P.totA (l.take k) : Nat) ∧ Hid (Below w.heap.size w wr)) (fun _ i _ => n - (intOf i).toNat)
  case atStart => exact ⟨0, Nat.zero_le _, rfl, rfl, Below.refl _ _⟩
  case round =>
    obtain ⟨k, hk, rfl, rfl, HB⟩ := hrel
    have hz := HB.out.size
    by_cases hlt : k < n
    · obtain ⟨x, hx⟩ : ∃ x, l[k]? = some x := ⟨_, List.getElem?_eq_getElem (by rw [HL.out]; exact hlt)⟩
      have HT := Lib.hid (totA_take l k x hx)
      obtain ⟨z1, z2⟩ := HS.out x (List.mem_of_getElem? hx)
      obtain ⟨b, o, rfl, hbK, d0, d1, d2⟩ := (HR.out.belowB HB.out hK) k x hx
      obtain ⟨⟨xn, xv⟩, xb⟩ := x
      simp only at d0 d1 d2 z1 z2
      have hbd : P.totA (l.take k) ≤ k * 2000000032 := by
        have h1 := totA_le (l.take k) (fun y hy => HS.out y (List.mem_of_mem_take hy))
        have h3 : (l.take k).length ≤ k := List.length_take_le _ _
        exact Nat.le_trans h1 (Nat.mul_le_mul_right _ h3)
      have hbd2 : B.sz (xn, xv) ≤ 2000000032 := by unfold B.sz; simp only; omega
      clear hx
      have q1 : (k : Int) < (n : Int) := by omega
      have q0 : (0 : Int) ≤ (k : Int) := by omega
      have hba : Below wr.heap.size wr (wr.alloc (.cells #[.string xn, .string xv, .bool xb] 66)) := (Below.refl _ _).alloc (Nat.le_refl _) _
      have HBa := Lib.hid (HB.out.trans (hba.mono hz))
      have HA := Lib.hid (size_any xn xv xb (wr.alloc (.cells #[.string xn, .string xv, .bool xb] 66)) (by omega) (by omega))
      have e : (P.totA (l.take (k + 1)) : Int) = (P.totA (l.take k) : Int) + (B.sz (xn, xv) : Int) := by rw [HT.out, Int.natCast_add]
      have HEq := Lib.hid e
      clear hba HB HT e
      generalize P.totA (l.take k) = T at *
      go_wp2_with fail
      refine HA.out.mono ?_
      rintro e w4 ⟨rfl, hb4⟩
      have HB4 := Lib.hid (HBa.out.trans (hb4.mono HBa.out.size))
      generalize B.sz (xn, xv) = S at *
      clear hb4 HA HBa d0 d1 d2
      go_wp2
      go_roundw
      case rel => exact ⟨k + 1, by omega, by rw [Int.natCast_add]; rfl, by rw [HEq.out], HB4⟩
      case measure => simp [intOf]; omega
    · obtain rfl : k = n := by omega
      have q1 : ¬ (k : Int) < (k : Int) := by omega
      rw [List.take_of_length_le (by rw [HL.out]; exact Nat.le_refl _)]
      go_wp2
      go_ret
      exact ⟨rfl, HB.out⟩

/-- Some Bool is handed back, and old memory is as it was. -/
def LightPost (n : Nat) (w : World) (e : Ending) (w' : World) : Prop := (∃ b, e = .returned (.bool b) ∧ (b = true → n ≤ 60)) ∧ Below w.heap.size w w'

set_option maxRecDepth 100000 in
set_option maxHeartbeats 1000000 in
theorem klight_any {K : Nat} (a : Option Addr) (n c : Nat) (l : List (B.HD × Bool)) (w : World) (hl : l.length = n) (hr : QRdB K w a l) (hK : K ≤ w.heap.size) (hs : QSz 140737488355328 l) :
    Calls Tryd.prog 35 #[.slice a n c] w (LightPost n w) := by
  have HL := Lib.hid hl
  have HR := Lib.hid hr
  have HS := Lib.hid hs
  clear hl hr hs
  go_enter Tryd.func35, Tryd.ntmps35
  go_wp2
  go_loopw [3, 4] (fun z i wr => ∃ k m : Nat, k ≤ 61 ∧ k ≤ n ∧ i = .int .i64 k ∧ z = .int .i64 m ∧ m ≤ k * 60000 ∧ Hid (Below w.heap.size w wr)) (fun _ i _ => 61 - (intOf i).toNat)
  case atStart => exact ⟨0, 0, by omega, by omega, rfl, rfl, by omega, Below.refl _ _⟩
  case round =>
    obtain ⟨k, m, hk, hkn, rfl, rfl, hm, HB⟩ := hrel
    by_cases hlt : k < n ∧ k ≤ 60
    · obtain ⟨hlt1, hlt2⟩ := hlt
      obtain ⟨x, hx⟩ : ∃ x, l[k]? = some x := ⟨_, List.getElem?_eq_getElem (by rw [HL.out]; exact hlt1)⟩
      obtain ⟨b, o, rfl, _, c2, c3, c4⟩ := (HR.out.belowB HB.out hK) k x hx
      obtain ⟨z1, z2⟩ := HS.out x (List.mem_of_getElem? hx)
      obtain ⟨⟨xn, xv⟩, xb⟩ := x
      simp only at c2 c3 c4 z1 z2
      clear hx
      have k0 : (0 : Int) ≤ (k : Int) := by omega
      have k1 : (k : Int) < (n : Int) := by omega
      have hd : decide ((k : Int) < (n : Int)) = true := by simp; omega
      go_upto_region 5 with (fail)
      go_quiet (fail)
      go_wp2
      go_roundw
      case rel =>
        refine ⟨k + 1, m + (if 30000 < xn.size then 30000 else xn.size) + (if 30000 < xv.size then 30000 else xv.size), by omega, by omega, by rw [Int.natCast_add]; rfl, ?_, ?_, below_q HB.out _⟩
        · congr 1
          split <;> split <;> split <;> split <;> omega
        · split <;> split <;> omega
      case measure => simp [intOf]; omega
    · by_cases hlt1 : k < n
      · obtain rfl : k = 61 := by omega
        have hd : decide (((61 : Nat) : Int) < (n : Int)) = true := by simp; omega
        have h60 : ¬ (n : Int) ≤ 60 := by omega
        go_wp2
        go_ret
        exact ⟨⟨_, rfl, by intro h; simp at h⟩, HB.out⟩
      · have hd : decide ((k : Int) < (n : Int)) = false := by simp; omega
        by_cases h60 : n ≤ 60
        · have hd2 : decide ((n : Int) ≤ 60) = true := by simp; omega
          go_wp2
          go_ret
          exact ⟨⟨_, rfl, fun _ => h60⟩, HB.out⟩
        · have hd2 : decide ((n : Int) ≤ 60) = false := by simp; omega
          go_wp2
          go_ret
          exact ⟨⟨_, rfl, by intro h; simp at h⟩, HB.out⟩
end Go.Proofs.YtcbljbdcnahfhaaDoor
