/-
The reference's table that moves: what its cells are; its slices' laws; the copy of headers.
-/
import Derived.Test.YtplajeboeckhhaaDoorBref
import Derived.Test.YtplajeboeckhhaaDoorBrow
import Derived.Test.YtplajeboeckhhaaDoorBmath
import Derived.Deep.Onto
namespace Go.Proofs.YtplajeboeckhhaaDoor
open Go.RowKit

theorem HOwn.mono {K K' : Nat} {w : World} {v : Value} {l : List B.HD} (h : HOwn K w v l) (hk : K' ≤ K) : HOwn K' w v l := World.ownsRow.mono h hk
/-- The value, whatever it is. -/
theorem HOwn.form {K : Nat} {w : World} {v : Value} {l : List B.HD} (h : HOwn K w v l) : ∃ a cp, v = .slice a l.length cp ∧ l.length ≤ cp ∧ HRd w a l := by
  rcases h.cases with ⟨rfl, rfl⟩ | ⟨g, cp, rfl, h1, _, _, h2⟩
  · exact ⟨none, 0, rfl, Nat.le_refl _, HRd.nil _ _⟩
  · exact ⟨_, cp, rfl, h1, h2⟩

theorem HOwn.one (w : World) (n v : ByteArray) : HOwn w.heap.size (w.alloc (.cells #[.string n, .string v, .bool false] 51)) (.slice (some ⟨w.heap.size, 0, none⟩) 1 1) [(n, v)] :=
  World.ownsRow_lit w #[.string n, .string v, .bool false] 1 (Nat.le_refl _) (by decide) rfl

theorem hrd_one (w : World) (n v : ByteArray) : HRd (w.alloc (.cells #[.string n, .string v, .bool false] 51)) (some ⟨w.heap.size, 0, none⟩) [(n, v)] := fun j x hx => by
  cases j with
  | zero =>
    simp at hx
    subst hx
    exact ⟨_, 0, rfl, by simp, by simp, by simp⟩
  | succ j => simp at hx
/-- 'append(own, others...)', where something is owned. -/
theorem run_appT (w : World) (K : Nat) (v : Value) (l : List B.HD) (hown : HOwn K w v l) (x : Value) (K2 : Nat) (m : List B.HD) (hm : 0 < l.length) (hx : HOwn K2 w x m) (hsz : l.length + m.length ≤ 2097152) (hbase : K ≤ w.heap.size) :
    ∃ g cp w', (Builtin.append_ #[66, 66] 66 #[v, x]).run Tryd.prog w = .ok (.slice (some ⟨g, 0, none⟩) (l.length + m.length) cp) w' ∧ HOwn K w' (.slice (some ⟨g, 0, none⟩) (l.length + m.length) cp) (l ++ m) ∧ w.grownBy w' v.ownBlock := by
  obtain ⟨i0, hi, hz0, hz1, hz2⟩ := info_parts infoH
  rcases hx.cases with ⟨rfl, rfl⟩ | ⟨gx, cx, rfl, _, _, _, hr⟩
  · rcases hown.cases with ⟨rfl, rfl⟩ | ⟨g, cp, hv, _⟩
    · simp at hm
    · subst hv
      refine ⟨g, cp, w, run_append_owned_none w K 66 66 51 i0 3 Tryd.underlying66 hi _ l.length (hvs l) hown, ?_, World.grownBy.refl _ _⟩
      rw [List.append_nil]
      exact hown
  · obtain ⟨v', w', h1, h2, h3, h4⟩ := run_append_own (P := Tryd.prog) (w := w) K 66 66 51 i0 _ 3 40 Tryd.underlying66 hi hz0 hz1 hz2 rfl (by omega) v l.length (hvs l) hown ⟨gx, 0, none⟩ m.length cx (hvs m) (hvs_length m) hr.news (hvs_one m) (by unfold maxLen; omega) (by omega) hbase
    have h2' : w'.ownsRow K 51 3 v' (l.length + m.length) (hvs l ++ hvs m) := h2
    rcases h2'.2 with ⟨e1, _⟩ | ⟨g, cp, cur, rfl, rest⟩
    · obtain ⟨hv, _⟩ := h4.1 e1
      rcases hown.cases with ⟨_, rfl⟩ | ⟨g, cp, hv', _⟩
      · simp at hm
      · rw [hv'] at hv; cases hv
    · refine ⟨g, cp, w', h1, ?_, h3⟩
      show w'.ownsRow K 51 3 _ (l ++ m).length (hvs (l ++ m))
      rw [List.length_append, hvs_append]
      exact h2

/-- The same at a step of a region that draws its order. -/
theorem step_appT (w : World) {ops : Array Oper} {o : Oper} {a : Act} {K' : Act → World → Prop} {Q : Exit → Act → World → Prop} {E : Prop} (hgd : o.guard = none) (s x : Operand)
    (ho : o.op = .call { callee := .builtin .append, args := #[s, x], argTypes := #[66, 66] }) (hty : o.type = 66)
    (K : Nat) (v : Value) (l : List B.HD) (hs : a.eval s = v) (hown : HOwn K w v l) (y : Value) (K2 : Nat) (m : List B.HD) (hx : a.eval x = y) (hm : 0 < l.length) (hr : HOwn K2 w y m) (hsz : l.length + m.length ≤ 2097152) (hbase : K ≤ w.heap.size)
    (hK : ∀ g cp w', HOwn K w' (.slice (some ⟨g, 0, none⟩) (l.length + m.length) cp) (l ++ m) → w.grownBy w' v.ownBlock → K' (a.put o.dst (.slice (some ⟨g, 0, none⟩) (l.length + m.length) cp)) w') :
    if Region.wanted o (yielded ops a.tmps) = true then Oper.wp Tryd.prog o a w K' Q else E := by
  obtain ⟨g, cp, w', hrun, h2, h3⟩ := run_appT w K v l hown y K2 m hm hr hsz hbase
  rw [if_pos (by unfold Region.wanted; rw [hgd])]
  unfold Oper.wp
  simp [execOp, ho, hty, resolve, invoke, builtin, hs, hx, hrun, Result.andThen]
  exact hK _ _ _ h2 h3

/-- A copy of headers. -/
def HOut (l : List B.HD) (w : World) (e : Ending) (w' : World) : Prop := ∃ v, e = .returned v ∧ HOwn w.heap.size w' v l ∧ Below w.heap.size w w'

set_option maxRecDepth 100000 in
set_option maxHeartbeats 4000000 in
theorem headers_any (a : Option Addr) (n c : Nat) (l : List B.HD) (w : World) (hl : l.length = n) (hn : n ≤ 1048576) (hr : HRd w a l) :
    Calls Tryd.prog 76 #[.slice a n c] w (HOut l w) := by
  obtain ⟨i0, hi, hz0, hz1, hz2⟩ := info_parts infoH
  have HL := Lib.hid hl
  have HR := Lib.hid hr
  clear hl hr
  have HB2 : Hid (i0.bytes * n ≤ 281474976710656) := by show _ ≤ _; rw [hz2]; omega
  go_enter Tryd.func76, Tryd.ntmps76
  go_wp2_with (at_make; refine wpList_make_own _ rfl _ _ 66 rfl w.heap.size 51 i0 _ 3 Tryd.underlying66 hi hz0 hz1 .i64 .i64 _ n rfl rfl rfl HB2.out ?_ (Nat.le_refl _) ?_; unfold maxLen; omega; intro w1 hown hgrow)
  have H0 : Hid (HOwn w.heap.size w1 (.slice (some ⟨w.heap.size, 0, none⟩) 0 n) []) := hown
  have HB1 := Lib.hid (Below.grown (Below.refl w.heap.size w) hgrow (Nat.le_refl _) (fun k e => by cases e))
  clear hown hgrow
  go_wp2
  go_loopw [3, 4] (fun al i wr => ∃ k : Nat, k ≤ n ∧ i = .int .i64 k ∧ Hid (HOwn w.heap.size wr al (l.take k)) ∧ Hid (Below w.heap.size w wr)) (fun _ i _ => n - (intOf i).toNat)
  case atStart => exact ⟨0, by omega, rfl, H0, HB1⟩
  case round =>
    obtain ⟨k, hk, rfl, HO, HB⟩ := hrel
    clear H0 HB1
    have hz := HB.out.size
    by_cases hlt : k < n
    · obtain ⟨x, hx⟩ : ∃ x, l[k]? = some x := ⟨_, List.getElem?_eq_getElem (by rw [HL.out]; exact hlt)⟩
      obtain ⟨b, o, rfl, d0, d1, d2⟩ := (HR.out.below HB.out) k x hx
      obtain ⟨xn, xv⟩ := x
      have HT : Hid (l.take (k + 1) = l.take k ++ [(xn, xv)]) := by
        show _ = _
        rw [List.take_add_one, hx]; rfl
      have hlk : (l.take k).length = k := by rw [List.length_take, HL.out]; omega
      have hsz : (l.take k).length + 1 ≤ 2097152 := by omega
      clear hx
      have q0 : (0 : Int) ≤ (k : Int) := by omega
      have q1 : (k : Int) < (n : Int) := by omega
      have hba : Below wr.heap.size wr (wr.alloc (.cells #[.string xn, .string xv, .bool false] 51)) := (Below.refl _ _).alloc (Nat.le_refl _) _
      have HBa := Lib.hid (HB.out.trans (hba.mono hz))
      have HOa := Lib.hid (HO.out.below hba)
      have HRn := Lib.hid (hrd_one wr xn xv)
      clear hba HO HB
      go_wp2_with (at_builtin; refine wpList_appH _ rfl _ _ rfl rfl w.heap.size _ (l.take k) rfl HOa.out ⟨wr.heap.size, 0, none⟩ 1 1 [(xn, xv)] rfl rfl (by omega) HRn.out hsz ?_ ?_; (have := HBa.out.size; omega); intro g7 cp7 w7 hA7 hg7)
      have HA7 := Lib.hid hA7
      have HB7 := Lib.hid (HBa.out.grown hg7 HBa.out.size (fun r e => (HOa.out.lt r e).1))
      clear hA7 hg7 HOa HBa HRn
      go_wp2
      go_roundw
      case rel => exact ⟨k + 1, by omega, by rw [Int.natCast_add]; rfl, by have h := HA7.out; rw [hlk] at h; rw [HT.out]; exact h, HB7⟩
      case measure => simp [intOf]; omega
    · obtain rfl : k = n := by omega
      have hO := HO.out
      rw [List.take_of_length_le (by rw [HL.out]; exact Nat.le_refl _)] at hO
      have HO2 := Lib.hid hO
      clear hO HO
      go_wp2
      go_ret
      exact ⟨_, rfl, HO2.out, HB.out⟩
end Go.Proofs.YtplajeboeckhhaaDoor
