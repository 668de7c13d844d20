/-
The walks of head.Trailers and head.join.
-/
import Derived.Test.YtihlcecincijgaaDoorDname
import Derived.Test.YtihlcecincijgaaDoorQrow
namespace Go.Proofs.YtihlcecincijgaaDoor
open Go.RowKit

/-- The error's variable. -/
def EH (w : World) (p : Addr) : Prop := w.cell? ⟨0, 0, none⟩ = some (.iface 146 (.pointer (some p)))
theorem EH.below {w w' : World} {p : Addr} (h : EH w p) (hb : Below w.heap.size w w') : EH w' p := cell_below hb h
theorem EH.belowB {K : Nat} {w w' : World} {p : Addr} (h : EH w p) (hb : Below K w w') (hK : 0 < K) : EH w' p := cell_belowB hb hK h
/-- Nil, or the error. -/
def ehV (p : Addr) (b : Bool) : Value := if b then .nilIface else .iface 146 (.pointer (some p))

theorem allH_take {l : List (B.HD × Bool)} {k : Nat} {x : B.HD × Bool} (h : l[k]? = some x) (ha : (l.take k).all D.plainH = true) : (l.take (k + 1)).all D.plainH = D.plainH x := by
  rw [List.take_add_one, h, List.all_append, ha]
  simp
theorem allH_no {l : List (B.HD × Bool)} {k : Nat} {x : B.HD × Bool} (h : l[k]? = some x) (hp : D.plainH x = false) : l.all D.plainH = false := by
  rw [List.all_eq_false]
  exact ⟨x, List.mem_of_getElem? h, by simp [hp]⟩

set_option maxRecDepth 100000 in
set_option maxHeartbeats 2000000 in
theorem Trailers_any {K : Nat} (a : Option Addr) (n c : Nat) (l : List (B.HD × Bool)) (p : Addr) (w : World) (hl : l.length = n) (hn : n ≤ 1048576) (hr : QRdB K w a l) (hK : K ≤ w.heap.size) (hs : QSz 1048576 l) (hE : EH w p) :
    Calls Tryd.prog 15 #[.slice a n c] w fun e w' => e = .returned (ehV p (l.all D.plainH)) ∧ Below w.heap.size w w' := by
  have HL := Lib.hid hl
  have HR := Lib.hid hr
  have HS := Lib.hid hs
  have HE := Lib.hid hE
  clear hl hr hs hE
  go_enter Tryd.func15, Tryd.ntmps15
  go_wp2
  go_loopw [7] (fun i wr => ∃ k : Nat, k ≤ n ∧ i = .int .i64 (k : Nat) ∧ Hid (Below w.heap.size w wr) ∧ Hid ((l.take k).all D.plainH = true)) (fun i _ => n - (intOf i).toNat)
  case atStart => exact ⟨0, Nat.zero_le _, rfl, Below.refl _ _, by show _ = _; simp⟩
  case round =>
    obtain ⟨k, hk, rfl, HB, HA⟩ := hrel
    have hz := HB.out.size
    by_cases hlt : k < n
    · obtain ⟨x, hx⟩ : ∃ x, l[k]? = some x := ⟨_, List.getElem?_eq_getElem (by rw [HL.out]; exact hlt)⟩
      obtain ⟨z1, z2⟩ := HS.out x (List.mem_of_getElem? hx)
      have Hx := Lib.hid hx
      obtain ⟨b, o, rfl, hbK, d0, d1, d2⟩ := (HR.out.belowB HB.out hK) k x hx
      obtain ⟨⟨xn, xv⟩, xb⟩ := x
      simp only at d0 d1 d2 z1 z2
      clear hx
      have q1 : (k : Int) < (n : Int) := by omega
      have q0 : (0 : Int) ≤ (k : Int) := by omega
      have hba : Below wr.heap.size wr (wr.alloc (.cells #[.string xn, .string xv, .bool xb] 54)) := (Below.refl _ _).alloc (Nat.le_refl _) _
      have HBa := Lib.hid (HB.out.trans (hba.mono hz))
      have HP := Lib.hid (isPlain_any xn xv xb (wr.alloc (.cells #[.string xn, .string xv, .bool xb] 54)) z1 z2)
      clear hba HB
      cases hp : D.plain xn xv
      · rw [hp] at HP
        have hp2 : D.plainH ((xn, xv), xb) = false := hp
        have HN := Lib.hid (allH_no Hx.out hp2)
        clear hp hp2
        go_wp2_with (go_at_call 38; refine HP.out.mono ?_; rintro e w2 ⟨rfl, hb2⟩; have HB2 := Lib.hid (HBa.out.trans (hb2.mono HBa.out.size)); have hE2 : EH w2 p := HE.out.below HB2.out; unfold EH at hE2; clear hb2)
        go_ret
        exact ⟨by rw [HN.out]; rfl, HB2.out⟩
      · rw [hp] at HP
        have hp2 : D.plainH ((xn, xv), xb) = true := hp
        have HN : Hid ((l.take (k + 1)).all D.plainH = true) := by show _ = _; rw [allH_take Hx.out HA.out]; exact hp2
        clear hp hp2
        go_wp2_with (go_at_call 38; refine HP.out.mono ?_; rintro e w2 ⟨rfl, hb2⟩; have HB2 := Lib.hid (HBa.out.trans (hb2.mono HBa.out.size)); clear hb2)
        go_roundw
        case rel => exact ⟨k + 1, by omega, by rw [Int.natCast_add]; rfl, HB2, HN⟩
        case measure => simp [intOf]; omega
    · obtain rfl : k = n := by omega
      have q1 : ¬ (k : Int) < (k : Int) := by omega
      have hA := HA.out
      rw [List.take_of_length_le (by rw [HL.out]; exact Nat.le_refl _)] at hA
      have HN := Lib.hid hA
      clear hA
      go_wp2
      go_ret
      exact ⟨by rw [HN.out]; rfl, HB.out⟩
/-- 'append(own, headers...)', nil or not, of headers or none. -/
theorem run_appQ2 (w : World) (K : Nat) (v : Value) (l : List (B.HD × Bool)) (hown : QOwn K w v l) (a : Option Addr) (c : Nat) (m : List (B.HD × Bool)) (hr : QRd w a m) (hsz : l.length + m.length ≤ 2097152) (hbase : K ≤ w.heap.size) :
    ∃ v' w', (Builtin.append_ #[22, 22] 22 #[v, .slice a m.length c]).run Tryd.prog w = .ok v' w' ∧ QOwn K w' v' (l ++ m) ∧ w.grownBy w' v.ownBlock := by
  obtain ⟨i0, hi, hz0, hz1, hz2⟩ := info_parts infoQ
  cases a with
  | some ad =>
    obtain ⟨v', w', h1, h2, h3, h4⟩ := run_append_own (P := Tryd.prog) (w := w) K 22 22 54 i0 _ 3 40 Tryd.underlying22 hi hz0 hz1 hz2 rfl (by omega) v l.length (nvs l) hown ad m.length c (nvs m) (nvs_length m) hr.news (nvs_one m) (by unfold maxLen; omega) (by omega) hbase
    refine ⟨v', w', h1, ?_, h3⟩
    show w'.ownsRow K 54 3 _ (l ++ m).length (nvs (l ++ m))
    rw [List.length_append, nvs_append]
    exact h2
  | none =>
    have hm : m = [] := by
      cases m with
      | nil => rfl
      | cons x t =>
        obtain ⟨b, o, e, _⟩ := hr 0 x rfl
        cases e
    subst hm
    refine ⟨v, w, ?_, by rw [List.append_nil]; exact hown, ⟨rfl, rfl, rfl, Nat.le_refl _, fun _ _ _ => rfl⟩⟩
    rcases hown.2 with ⟨rfl, h0⟩ | ⟨g, cap, cur, rfl, _, _, hnc, _⟩
    · simp [Builtin.append_, run_underlying Tryd.underlying22, sizeOf, typeInfo, hi, Builtin.lenOf, Builtin.firstCells]
    · simp [Builtin.append_, run_underlying Tryd.underlying22, sizeOf, typeInfo, hi, Builtin.lenOf, Builtin.firstCells, hnc, storeCells]

theorem wpList_appQ2 (w : World) {ops : Array Oper} {rest : List Oper} {o : Oper} {a : Act} {Q : Exit → Act → World → Prop} (hgd : o.guard = none) (s x : Operand)
    (ho : o.op = .call { callee := .builtin .append, args := #[s, x], argTypes := #[22, 22] }) (hty : o.type = 22)
    (K : Nat) (v : Value) (l : List (B.HD × Bool)) (hs : a.eval s = v) (hown : QOwn K w v l) (ad : Option Addr) (mm c : Nat) (m : List (B.HD × Bool)) (hx : a.eval x = .slice ad mm c) (hmm : m.length = mm) (hr : QRd w ad m) (hsz : l.length + mm ≤ 2097152) (hbase : K ≤ w.heap.size)
    (hK : ∀ v' w', QOwn K w' v' (l ++ m) → w.grownBy w' v.ownBlock → wpList Tryd.prog ops Q rest (a.put o.dst v') w') :
    wpList Tryd.prog ops Q (o :: rest) a w := by
  subst hmm
  refine wpList_plain hgd fun K' hK' => ?_
  obtain ⟨v', w', hrun, h2, h3⟩ := run_appQ2 w K v l hown ad c m hr hsz hbase
  unfold Oper.wp
  simp [execOp, ho, hty, resolve, invoke, builtin, hs, hx, hrun, Result.andThen]
  exact hK' _ _ (hK v' w' h2 h3)

theorem QRdB.rd {K : Nat} {w : World} {a : Option Addr} {l : List (B.HD × Bool)} (h : QRdB K w a l) : QRd w a l := fun j x hx => by
  obtain ⟨b, o, e, _, h1, h2, h3⟩ := h j x hx
  exact ⟨b, o, e, h1, h2, h3⟩

/-- A list of the call's own, or the error. -/
def JoinOut (K : Nat) (p : Addr) (L : Option (List (B.HD × Bool))) (w : World) (e : Ending) (w' : World) : Prop :=
  ∃ v, e = .returned (.tuple #[v, ehV p L.isSome]) ∧ QOwn K w' v (L.getD []) ∧ Below K w w'

set_option maxRecDepth 100000 in
set_option maxHeartbeats 2000000 in
theorem join_any {K : Nat} (v : Value) (L : List (B.HD × Bool)) (a : Option Addr) (n c : Nat) (l : List (B.HD × Bool)) (p : Addr) (w : World) (hv : QOwn K w v L) (hl : l.length = n) (hn : n ≤ 1048576) (hL : L.length ≤ 1048576) (hr : QRdB w.heap.size w a l) (hK : K ≤ w.heap.size) (hs : QSz 1048576 l) (hE : EH w p) :
    Calls Tryd.prog 48 #[v, .slice a n c] w (JoinOut K p (if l.all D.plainH = true then some (L ++ l) else none) w) := by
  have HT := Lib.hid (Trailers_any a n c l p w hl hn hr (Nat.le_refl _) hs hE)
  obtain ⟨va, vc, rfl⟩ := hv.form
  have HO := Lib.hid hv
  have HR := Lib.hid hr
  clear hv hr hE
  cases hp : l.all D.plainH
  · rw [hp] at HT
    unfold ehV at HT
    simp only [Bool.false_eq_true, if_false] at HT
    go_enter Tryd.func48, Tryd.ntmps48
    go_wp2_with (go_at_call 15; refine HT.out.mono ?_; rintro e w1 ⟨rfl, hb1⟩; have HB1 := Lib.hid (hb1.mono hK); clear hb1)
    go_ret2
    exact ⟨.slice none 0 0, by simp [ehV], QOwn.nil _ _, HB1.out⟩
  · rw [hp] at HT
    unfold ehV at HT
    simp only [if_true] at HT
    go_enter Tryd.func48, Tryd.ntmps48
    go_wp2_with (first | (go_at_call 15; refine HT.out.mono ?_; rintro e w1 ⟨rfl, hb1⟩; have HB1 := Lib.hid (hb1.mono hK); have HO1 := Lib.hid (HO.out.below hb1); have HR1 := Lib.hid (HR.out.belowB hb1 (Nat.le_refl _)).rd; have hz1 := hb1.size; clear hb1) | (at_builtin; refine wpList_appQ2 _ rfl _ _ rfl rfl K _ L rfl HO1.out _ n c l rfl hl HR1.out ?_ ?_ ?_; omega; omega; intro v2 w2 hO2 hg2; have HO2 := Lib.hid hO2; have HB2 := Lib.hid (HB1.out.grown hg2 (by omega) (fun r e => (HO1.out.lt r e).1)); clear hO2 hg2))
    go_ret2
    exact ⟨v2, by simp [ehV], HO2.out, HB2.out⟩
end Go.Proofs.YtihlcecincijgaaDoor
