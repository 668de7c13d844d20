/-
The walks of head.decimal, of the functions by which a request and an answer are told, and of the maps that hold them.
-/
import Derived.Test.YtihlcecincijgaaDoorDfollow
namespace Go.Proofs.YtihlcecincijgaaDoor
open Go.RowKit

theorem digs_none {c : UInt8} {t : List UInt8} {n : Nat} (h : ¬ (48 ≤ c.toNat ∧ c.toNat ≤ 57)) : D.digs (c :: t) n = none := by
  simp only [D.digs, decide_eq_false h, Bool.false_eq_true, if_false]
theorem digs_some {c : UInt8} {t : List UInt8} {n : Nat} (h : 48 ≤ c.toNat ∧ c.toNat ≤ 57) : D.digs (c :: t) n = D.digs t (n * 10 + (c.toNat - 48)) := by
  simp only [D.digs, decide_eq_true h, if_true]

set_option maxRecDepth 100000 in
set_option maxHeartbeats 2000000 in
theorem decimal_any (s : ByteArray) (a b : Nat) (w : World) (_ha : a ≤ 10) (hb : b ≤ 10) (hs : s.size ≤ 140737488355328) :
    Calls Tryd.prog 39 #[.string s, .int .i64 (a : Nat), .int .i64 (b : Nat)] w fun e w' => e = .returned (.tuple #[.int .i64 ((D.dec s a b).getD 0 : Nat), .bool (D.dec s a b).isSome]) ∧ w = w' := by
  by_cases hlen : a ≤ s.size ∧ s.size ≤ b
  · obtain ⟨h1, h2⟩ := hlen
    have HD : Hid (D.dec s a b = D.digs s.data.toList 0) := by show _ = _; unfold D.dec; rw [decide_eq_true ⟨h1, h2⟩]; rfl
    have q1 : ¬ (s.size : Int) < (a : Int) := by omega
    have q2 : ¬ (b : Int) < (s.size : Int) := by omega
    go_enter Tryd.func39, Tryd.ntmps39
    go_wp2
    go_loop [8, 22] (fun z i => ∃ k acc : Nat, k ≤ s.size ∧ i = .int .i64 (k : Nat) ∧ z = .int .i64 (acc : Nat) ∧ acc < 10000000000 ∧ Hid (acc < 10 ^ k) ∧ Hid (D.dec s a b = D.digs (s.data.toList.drop k) acc)) (fun _ i => s.size - (intOf i).toNat)
    case atStart => exact ⟨0, 0, Nat.zero_le _, rfl, rfl, by omega, by show _ < _; simp, by show _ = _; rw [HD.out]; rfl⟩
    case round =>
      obtain ⟨k, acc, hk, rfl, rfl, hacc, HA, HD2⟩ := hrel
      by_cases hlt : k < s.size
      · obtain ⟨x, hx⟩ : ∃ x : UInt8, s[k]'hlt = x := ⟨_, rfl⟩
        have Hx : Hid (s.data.toList[k]? = some x) := by show _ = _; rw [← hx]; exact Lib.data_getElem? s k hlt
        have Hdr : Hid (s.data.toList.drop k = x :: s.data.toList.drop (k + 1)) := by
          show _ = _
          obtain ⟨hj, e⟩ := List.getElem?_eq_some_iff.1 Hx.out
          rw [List.drop_eq_getElem_cons hj, e]
        have q3 : (k : Int) < (s.size : Int) := by omega
        have hx256 := x.toNat_lt
        by_cases hd : 48 ≤ x.toNat ∧ x.toNat ≤ 57
        · have HN : Hid (D.dec s a b = D.digs (s.data.toList.drop (k + 1)) (acc * 10 + (x.toNat - 48))) := by
            show _ = _
            rw [HD2.out, Hdr.out, digs_some hd]
          have hp : 10 ^ k ≤ 10 ^ 9 := Nat.pow_le_pow_right (by omega) (by omega)
          have ha1 : acc < 10 ^ k := HA.out
          have ha9 : acc < 1000000000 := by omega
          have HA1 : Hid (acc * 10 + (x.toNat - 48) < 10 ^ (k + 1)) := by show _ < _; rw [Nat.pow_succ]; omega
          obtain ⟨d1, d2⟩ := hd
          clear ha1 hp
          obtain ⟨v, hv⟩ : ∃ v : Nat, v = x.toNat := ⟨_, rfl⟩
          have e1 : ((acc * 10 + (x.toNat - 48) : Nat) : Int) = (acc : Int) * 10 + ((x.toNat : Int) - 48) := by omega
          have HEq := Lib.hid e1
          rw [← hv] at d1 d2 HN HA1 HEq
          have hx2 : (s[k]'hlt).toNat = v := by rw [hx, hv]
          clear e1 hx hv
          have r1 : ¬ (v : Int) < 48 := by omega
          have r2 : ¬ (57 : Int) < (v : Int) := by omega
          go_wp2
          go_round
          case rel => exact ⟨k + 1, acc * 10 + (v - 48), by omega, by rw [Int.natCast_add]; rfl, by rw [HEq.out], by omega, HA1, HN⟩
          case measure => simp [intOf]; omega
        · have HN : Hid (D.dec s a b = none) := by
            show _ = _
            rw [HD2.out, Hdr.out, digs_none hd]
          have hcase : x.toNat < 48 ∨ 48 ≤ x.toNat ∧ 57 < x.toNat := by omega
          rcases hcase with r | ⟨r, r2⟩
          · have r1 : (x.toNat : Int) < 48 := by omega
            go_wp2
            go_ret2
            exact ⟨by rw [HN.out]; rfl, rfl⟩
          · have r1 : ¬ (x.toNat : Int) < 48 := by omega
            have r2 : (57 : Int) < (x.toNat : Int) := by omega
            go_wp2
            go_ret2
            exact ⟨by rw [HN.out]; rfl, rfl⟩
      · obtain rfl : k = s.size := by omega
        have q3 : ¬ (s.size : Int) < (s.size : Int) := by omega
        have HN : Hid (D.dec s a b = some acc) := by
          show _ = _
          rw [HD2.out, List.drop_of_length_le (by rw [← Lib.size_eq]; exact Nat.le_refl _)]
          rfl
        go_wp2
        go_ret2
        exact ⟨by rw [HN.out]; rfl, rfl⟩
  · have HN : Hid (D.dec s a b = none) := by show _ = _; unfold D.dec; rw [decide_eq_false hlen]; rfl
    have hcase : s.size < a ∨ a ≤ s.size ∧ b < s.size := by omega
    rcases hcase with r | ⟨r, r2⟩
    · have r1 : (s.size : Int) < (a : Int) := by omega
      go_enter Tryd.func39, Tryd.ntmps39
      go_wp2
      go_ret2
      exact ⟨by rw [HN.out]; rfl, rfl⟩
    · have r1 : ¬ (s.size : Int) < (a : Int) := by omega
      have r3 : (b : Int) < (s.size : Int) := by omega
      go_enter Tryd.func39, Tryd.ntmps39
      go_wp2
      go_ret2
      exact ⟨by rw [HN.out]; rfl, rfl⟩
/-- A block known whole. -/
def BA (T : TypeId) (w : World) (g : Nat) (c : Array Value) : Prop := w.heap[g]? = some (.cells c T (0, 0))
theorem BA.cell {T : TypeId} {w : World} {g i : Nat} {c : Array Value} {v : Value} (h : BA T w g c) (hv : c[i]? = some v) : w.cell? ⟨g, i, none⟩ = some v := by
  rw [cell_of_row w g i _ _ _ h]; exact hv
theorem BA.frozen {T : TypeId} {w : World} {g : Nat} {c : Array Value} (h : BA T w g c) (j : Nat) : w.frozen? ⟨g, j, none⟩ = false := by simp [World.frozen?, show w.heap[g]? = _ from h]
theorem BA.lt {T : TypeId} {w : World} {g : Nat} {c : Array Value} (h : BA T w g c) : g < w.heap.size := (Array.getElem?_eq_some_iff.1 h).1
theorem BA.set {T : TypeId} {w : World} {g : Nat} {c : Array Value} (h : BA T w g c) (i : Nat) (v : Value) : BA T (w.setCell ⟨g, i, none⟩ v) g (c.setIfInBounds i v) := heap_setCell_same w g i c T v h
theorem BA.below {T : TypeId} {w w' : World} {g : Nat} {c : Array Value} (h : BA T w g c) (hb : Below w.heap.size w w') : BA T w' g c := (hb.block g h.lt).trans h
theorem BA.belowB {T : TypeId} {K : Nat} {w w' : World} {g : Nat} {c : Array Value} (h : BA T w g c) (hb : Below K w w') (hg : g < K) : BA T w' g c := (hb.block g hg).trans h
theorem BA.grown {T : TypeId} {w w' : World} {g m : Nat} {c : Array Value} (h : BA T w g c) (hb : w.grownBy w' (some m)) (hne : m ≠ g) : BA T w' g c := (hb.block g h.lt (fun e => hne (Option.some.inj e).symm)).trans h
theorem set_grownC (w : World) (g i : Nat) (v : Value) : w.grownBy (w.setCell ⟨g, i, none⟩ v) (some g) :=
  ⟨rfl, rfl, rfl, by simp, fun k _ hk => Below.heap_setCell _ _ _ _ (fun e => hk (by rw [e]))⟩

/-- A request's rules. -/
def rqC (g : D.Rq) (rest : Value) : Array Value := #[.string g.m, .string g.s, .string g.a, .string g.p, rest]
def rqF (k : Nat) : Nat := if k = 0 then 50 else if k = 1 then 51 else if k = 2 then 52 else 53
def FQ (bx tb : Nat) : FK D.Rq := ⟨D.RQ, rqF, bx, tb, fun g w => bx ≠ tb ∧ BA 71 w bx #[.pointer (some ⟨tb, 0, none⟩)] ∧ BA 27 w tb (rqC g (.slice none 0 0))⟩

theorem bne_empty (v : ByteArray) : (!v.toList.isEmpty) = !decide (v = ⟨#[]⟩) := by
  rw [Lib.toList_data, Array.isEmpty_toList]
  by_cases h : v = ⟨#[]⟩
  · subst h; rfl
  · rw [decide_eq_false h]
    have : v.data.isEmpty = false := by
      cases e : v.data.isEmpty with
      | false => rfl
      | true =>
        exfalso
        apply h
        cases v with
        | mk d =>
          rw [Array.isEmpty_iff] at e
          rw [show d = #[] from e]
    rw [this]

set_option maxHeartbeats 1000000 in
theorem rule1_any (bx tb : Nat) (g : D.Rq) (v : ByteArray) (w : World) (hA : (FQ bx tb).At g w) : Calls Tryd.prog 50 #[.string v, .pointer (some ⟨bx, 0, none⟩)] w fun e w' => e = .returned (.bool (!decide (v = ⟨#[]⟩))) ∧ (FQ bx tb).At { g with m := v } w' ∧ w.grownBy w' (some tb) := by
  obtain ⟨hne, hb, ht⟩ := hA
  have c0 := hb.cell (i := 0) (v := .pointer (some ⟨tb, 0, none⟩)) rfl
  have c1 := ht.cell (i := 0) (v := .string g.m) rfl
  have f1 := ht.frozen 0
  have HT := Lib.hid (And.intro (hb.grown (set_grownC w tb 0 (.string v)) (Ne.symm hne)) (ht.set 0 (.string v)))
  have hbe := Lib.hid (bne_empty v)
  clear hb ht
  go_enter Tryd.func50, Tryd.ntmps50
  go_wp2
  go_ret
  exact ⟨by rw [← hbe.out]; rfl, ⟨hne, HT.out.1, HT.out.2⟩, set_grownC _ _ _ _⟩
set_option maxHeartbeats 1000000 in
theorem rule2_any (bx tb : Nat) (g : D.Rq) (v : ByteArray) (w : World) (hA : (FQ bx tb).At g w) : Calls Tryd.prog 51 #[.string v, .pointer (some ⟨bx, 0, none⟩)] w fun e w' => e = .returned (.bool (!decide (v = ⟨#[]⟩))) ∧ (FQ bx tb).At { g with s := v } w' ∧ w.grownBy w' (some tb) := by
  obtain ⟨hne, hb, ht⟩ := hA
  have c0 := hb.cell (i := 0) (v := .pointer (some ⟨tb, 0, none⟩)) rfl
  have c1 := ht.cell (i := 1) (v := .string g.s) rfl
  have f1 := ht.frozen 1
  have HT := Lib.hid (And.intro (hb.grown (set_grownC w tb 1 (.string v)) (Ne.symm hne)) (ht.set 1 (.string v)))
  have hbe := Lib.hid (bne_empty v)
  clear hb ht
  go_enter Tryd.func51, Tryd.ntmps51
  go_wp2
  go_ret
  exact ⟨by rw [← hbe.out]; rfl, ⟨hne, HT.out.1, HT.out.2⟩, set_grownC _ _ _ _⟩
set_option maxHeartbeats 1000000 in
theorem rule3_any (bx tb : Nat) (g : D.Rq) (v : ByteArray) (w : World) (hA : (FQ bx tb).At g w) : Calls Tryd.prog 52 #[.string v, .pointer (some ⟨bx, 0, none⟩)] w fun e w' => e = .returned (.bool (true)) ∧ (FQ bx tb).At { g with a := v } w' ∧ w.grownBy w' (some tb) := by
  obtain ⟨hne, hb, ht⟩ := hA
  have c0 := hb.cell (i := 0) (v := .pointer (some ⟨tb, 0, none⟩)) rfl
  have c1 := ht.cell (i := 2) (v := .string g.a) rfl
  have f1 := ht.frozen 2
  have HT := Lib.hid (And.intro (hb.grown (set_grownC w tb 2 (.string v)) (Ne.symm hne)) (ht.set 2 (.string v)))
  clear hb ht
  go_enter Tryd.func52, Tryd.ntmps52
  go_wp2
  go_ret
  exact ⟨rfl, ⟨hne, HT.out.1, HT.out.2⟩, set_grownC _ _ _ _⟩
theorem star_eq (v : ByteArray) : (v.toList == [42]) = decide (v = D.star) := eqL v D.star
theorem pre47 (n : ByteArray) : Lib.hasPrefix n.data.toList (⟨#[47]⟩ : ByteArray).data.toList = decide (n.data.toList.head? = some 47) := by
  show List.isPrefixOf [47] n.data.toList = _
  cases n.data.toList with
  | nil => rfl
  | cons c t =>
    simp only [List.isPrefixOf, List.head?_cons, Bool.and_true]
    by_cases h : c = 47
    · subst h; rfl
    · have h2 : (47 == c) = false := beq_eq_false_iff_ne.2 (fun e => h e.symm)
      simp [h, h2]
set_option maxHeartbeats 1000000 in
theorem rule4_any (bx tb : Nat) (g : D.Rq) (v : ByteArray) (w : World) (hA : (FQ bx tb).At g w) : Calls Tryd.prog 53 #[.string v, .pointer (some ⟨bx, 0, none⟩)] w fun e w' => e = .returned (.bool (D.pathOk v)) ∧ (FQ bx tb).At { g with p := v } w' ∧ w.grownBy w' (some tb) := by
  obtain ⟨hne, hb, ht⟩ := hA
  have c0 := hb.cell (i := 0) (v := .pointer (some ⟨tb, 0, none⟩)) rfl
  have c1 := ht.cell (i := 3) (v := .string g.p) rfl
  have f1 := ht.frozen 3
  have HT := Lib.hid (And.intro (hb.grown (set_grownC w tb 3 (.string v)) (Ne.symm hne)) (ht.set 3 (.string v)))
  have hst := star_eq v
  have hP : Hid (∀ ww, Calls Tryd.prog 54 #[.string v, .string ⟨#[47]⟩] ww fun e w' => e = .returned (.bool (decide (v.data.toList.head? = some 47))) ∧ ww = w') := fun ww => by
    refine (hasPrefix_any v _ ww).mono ?_
    rintro e w' ⟨rfl, rfl⟩
    exact ⟨by rw [pre47], rfl⟩
  clear hb ht
  have HPo : Hid (D.pathOk v = (decide (v = D.star) || decide (v.data.toList.head? = some 47))) := rfl
  generalize decide (v.data.toList.head? = some 47) = hd at *
  cases hs : decide (v = D.star)
  · rw [hs] at hst HPo
    go_enter Tryd.func53, Tryd.ntmps53
    go_wp2_with (go_at_call 54; refine (hP.out _).mono ?_; rintro e w1 ⟨rfl, rfl⟩)
    go_ret
    exact ⟨by rw [HPo.out]; rfl, ⟨hne, HT.out.1, HT.out.2⟩, set_grownC _ _ _ _⟩
  · rw [hs] at hst HPo
    go_enter Tryd.func53, Tryd.ntmps53
    go_wp2
    go_ret
    exact ⟨by rw [HPo.out]; rfl, ⟨hne, HT.out.1, HT.out.2⟩, set_grownC _ _ _ _⟩

theorem fn_call (fn : Nat) (g : Func) (h1 : Tryd.prog.funcs[fn]? = some g) (h2 : (g.name == "runtime.NumGoroutine") = false) (h3 : g.body.isNone = false) (ww : World) (args : Array Value) : (callFunc fn args).run Tryd.prog ww = .ok (.enter fn args) ww := by
  have e2 : ¬ g.name = "runtime.NumGoroutine" := fun e => by rw [e] at h2; simp at h2
  have e3 : ¬ g.body = none := fun e => by rw [e] at h3; cases h3
  simp [callFunc, h1, e2, e3]
theorem FQ_ok (K bx tb : Nat) (hb : K ≤ bx) (ht : K ≤ tb) : (FQ bx tb).Ok K where
  lowB := hb
  lowT := ht
  below := fun g w w' h hb => ⟨h.1, h.2.1.below hb, h.2.2.below hb⟩
  grown := fun g w w' m h1 h2 h hg => ⟨h.1, h.2.1.grown hg h1, h.2.2.grown hg h2⟩
  lt := fun g w h => h.2.2.lt
  call := fun k v g w _ h => by
    show Calls _ (rqF k) _ _ fun e w' => e = .returned (.bool (D.qtk k v)) ∧ (FQ bx tb).At (D.qupd g k v) w' ∧ _
    unfold rqF D.qtk D.qupd
    by_cases h0 : k = 0
    · simp only [if_pos h0]; exact rule1_any bx tb g v w h
    · simp only [if_neg h0]
      by_cases h1 : k = 1
      · simp only [if_pos h1]; exact rule2_any bx tb g v w h
      · simp only [if_neg h1]
        by_cases h2 : k = 2
        · simp only [if_pos h2]; exact rule3_any bx tb g v w h
        · simp only [if_neg h2]; exact rule4_any bx tb g v w h
  fnc := fun k ww args => by
    show (callFunc (rqF k) args).run _ _ = .ok (.enter (rqF k) args) _
    unfold rqF
    split
    · exact fn_call _ _ Tryd.func50 (by kernel_rfl) (by kernel_rfl) ww args
    · split
      · exact fn_call _ _ Tryd.func51 (by kernel_rfl) (by kernel_rfl) ww args
      · split
        · exact fn_call _ _ Tryd.func52 (by kernel_rfl) (by kernel_rfl) ww args
        · exact fn_call _ _ Tryd.func53 (by kernel_rfl) (by kernel_rfl) ww args
/-- An answer's rule. -/
def FA (bx tb : Nat) : FK Nat := ⟨D.RA, fun _ => 56, bx, tb, fun g w => bx ≠ tb ∧ BA 75 w bx #[.pointer (some ⟨tb, 0, none⟩)] ∧ BA 36 w tb #[.int .i64 (g : Nat), .slice none 0 0]⟩
set_option maxHeartbeats 1000000 in
theorem ruleA_any (bx tb : Nat) (g : Nat) (v : ByteArray) (w : World) (hv : v.size ≤ 1048576) (hA : (FA bx tb).At g w) : Calls Tryd.prog 56 #[.string v, .pointer (some ⟨bx, 0, none⟩)] w fun e w' => e = .returned (.bool (D.stOk v)) ∧ (FA bx tb).At ((D.dec v 3 3).getD 0) w' ∧ w.grownBy w' (some tb) := by
  obtain ⟨hne, hb, ht⟩ := hA
  have c0 := hb.cell (i := 0) (v := .pointer (some ⟨tb, 0, none⟩)) rfl
  have c1 := ht.cell (i := 0) (v := .int .i64 (g : Nat)) rfl
  have f1 := ht.frozen 0
  have HT : Hid (∀ x : Nat, (FA bx tb).At x (w.setCell ⟨tb, 0, none⟩ (.int .i64 (x : Nat)))) := fun x => ⟨hne, hb.grown (set_grownC w tb 0 _) (Ne.symm hne), ht.set 0 _⟩
  have hD := Lib.hid (decimal_any v 3 3 w (by omega) (by omega) (by omega))
  have HS : Hid (D.stOk v = (D.dec v 3 3).any (fun n => decide (100 ≤ n ∧ n ≤ 599))) := rfl
  clear hb ht
  cases hd : D.dec v 3 3 with
  | none =>
    rw [hd] at hD HS
    simp only [Option.getD_none, Option.isSome_none] at hD
    go_enter Tryd.func56, Tryd.ntmps56
    go_wp2_with (go_at_call 39; refine hD.out.mono ?_; rintro e w1 ⟨rfl, rfl⟩)
    go_ret
    exact ⟨by rw [HS.out]; rfl, HT.out 0, set_grownC _ _ _ _⟩
  | some n =>
    rw [hd] at hD HS
    simp only [Option.getD_some, Option.isSome_some] at hD
    have hcase : (100 ≤ n ∧ n ≤ 599) ∨ n < 100 ∨ 599 < n ∧ 100 ≤ n := by omega
    rcases hcase with ⟨h1, h2⟩ | h1 | ⟨h1, h2⟩
    · have HR : Hid (D.stOk v = true) := by show _ = _; rw [HS.out]; simp [h1, h2]
      have q1 : (100 : Int) ≤ (n : Int) := by omega
      have q2 : (n : Int) ≤ 599 := by omega
      go_enter Tryd.func56, Tryd.ntmps56
      go_wp2_with (go_at_call 39; refine hD.out.mono ?_; rintro e w1 ⟨rfl, rfl⟩)
      go_ret
      exact ⟨by rw [HR.out]; rfl, HT.out n, set_grownC _ _ _ _⟩
    · have HR : Hid (D.stOk v = false) := by show _ = _; rw [HS.out]; simp; omega
      have q1 : ¬ (100 : Int) ≤ (n : Int) := by omega
      go_enter Tryd.func56, Tryd.ntmps56
      go_wp2_with (go_at_call 39; refine hD.out.mono ?_; rintro e w1 ⟨rfl, rfl⟩)
      go_ret
      exact ⟨by rw [HR.out]; rfl, HT.out n, set_grownC _ _ _ _⟩
    · have HR : Hid (D.stOk v = false) := by show _ = _; rw [HS.out]; simp; omega
      have q1 : (100 : Int) ≤ (n : Int) := by omega
      have q2 : ¬ (n : Int) ≤ 599 := by omega
      go_enter Tryd.func56, Tryd.ntmps56
      go_wp2_with (go_at_call 39; refine hD.out.mono ?_; rintro e w1 ⟨rfl, rfl⟩)
      go_ret
      exact ⟨by rw [HR.out]; show Ending.returned (.bool (decide ((n : Int) ≤ 599))) = _; rw [decide_eq_false (by omega)], HT.out n, set_grownC _ _ _ _⟩
theorem FA_ok (K bx tb : Nat) (hb : K ≤ bx) (ht : K ≤ tb) : (FA bx tb).Ok K where
  lowB := hb
  lowT := ht
  below := fun g w w' h hb => ⟨h.1, h.2.1.below hb, h.2.2.below hb⟩
  grown := fun g w w' m h1 h2 h hg => ⟨h.1, h.2.1.grown hg h1, h.2.2.grown hg h2⟩
  lt := fun g w h => h.2.2.lt
  call := fun k v g w hv h => ruleA_any bx tb g v w hv h
  fnc := fun k ww args => fn_call _ _ Tryd.func56 (by kernel_rfl) (by kernel_rfl) ww args

set_option maxRecDepth 100000 in
set_option maxHeartbeats 1000000 in
theorem ofAnswer_any (tb : Nat) (w : World) (ht : BA 36 w tb #[.int .i64 0, .slice none 0 0]) : Calls Tryd.prog 37 #[.pointer (some ⟨tb, 0, none⟩)] w fun e w' => ∃ bx m, e = .returned (.map (some m)) ∧ w.heap.size ≤ bx ∧ w.heap.size ≤ m ∧ m ≠ bx ∧ (FA bx tb).At 0 w' ∧ (FA bx tb).map w' m [0] ∧ Below w.heap.size w w' := by
  have htl := ht.lt
  have hmm := @run_makeMap Tryd.prog
  have HTB := Lib.hid ht
  have HB0 : Hid (Below w.heap.size w ((w.alloc (.cells #[.pointer (some ⟨tb, 0, none⟩)] 75)).alloc (.map #[] 0))) := ((Below.refl _ _).alloc (Nat.le_refl _) _).alloc (by simp) _
  have hX : BA 75 ((w.alloc (.cells #[.pointer (some ⟨tb, 0, none⟩)] 75)).alloc (.map #[] 0)) w.heap.size #[.pointer (some ⟨tb, 0, none⟩)] := by
    show _ = _
    rw [heap_alloc_old _ _ (by simp)]
    exact heap_alloc_new w _
  have HX := Lib.hid hX
  have hM : ((w.alloc (.cells #[.pointer (some ⟨tb, 0, none⟩)] 75)).alloc (.map #[] 0)).heap[w.heap.size + 1]? = some (.map #[] 0) := by
    have := heap_alloc_new (w.alloc (.cells #[.pointer (some ⟨tb, 0, none⟩)] 75)) (.map #[] 0)
    simpa using this
  have HM := Lib.hid hM
  have hz : w.heap.size ≤ ((w.alloc (.cells #[.pointer (some ⟨tb, 0, none⟩)] 75)).alloc (.map #[] 0)).heap.size := by simp; omega
  clear ht hX hM
  go_enter Tryd.func37, Tryd.ntmps37
  go_wp2_with (refine sWp_put _ rfl _ _ _ _ rfl _ _ u_rules Tryd.underlying9 (w.heap.size + 1) _ _ _ _ rfl rfl rfl HM.out (by rfl) ?_; intro w1 hb1 hg1; have HG1 := Lib.hid hg1; have HM1 := Lib.hid hb1; clear hb1 hg1)
  go_ret
  refine ⟨w.heap.size, w.heap.size + 1, rfl, Nat.le_refl _, by omega, by omega, ⟨by omega, HX.out.grown HG1.out (by omega), (HTB.out.below HB0.out).grown HG1.out (by omega)⟩, ⟨_, HM1.out⟩, HB0.out.grown HG1.out hz (fun r e => by cases e; omega)⟩
/-- What stands while the rules of a request are put. -/
def RqInv (w : World) (tb : Nat) (w1 : World) : Prop := w.heap.size + 2 ≤ w1.heap.size ∧ Below w.heap.size w w1 ∧ BA 71 w1 w.heap.size #[.pointer (some ⟨tb, 0, none⟩)] ∧ BA 27 w1 tb (rqC D.rq0 (.slice none 0 0))
theorem RqInv.step {w w1 w2 : World} {tb : Nat} (h : RqInv w tb w1) (ht : tb < w.heap.size) (hg : w1.grownBy w2 (some (w.heap.size + 1))) : RqInv w tb w2 := by
  obtain ⟨h0, h1, h2, h3⟩ := h
  exact ⟨Nat.le_trans h0 hg.size, h1.grown hg (by omega) (fun r e => by cases e; omega), h2.grown hg (by omega), h3.grown hg (by omega)⟩

set_option maxRecDepth 100000 in
set_option maxHeartbeats 1000000 in
theorem ofRequest_any (tb : Nat) (w : World) (ht : BA 27 w tb (rqC D.rq0 (.slice none 0 0))) : Calls Tryd.prog 33 #[.pointer (some ⟨tb, 0, none⟩)] w fun e w' => ∃ bx m, e = .returned (.map (some m)) ∧ w.heap.size ≤ bx ∧ w.heap.size ≤ m ∧ m ≠ bx ∧ (FQ bx tb).At D.rq0 w' ∧ (FQ bx tb).map w' m [0, 1, 2, 3] ∧ Below w.heap.size w w' := by
  have htl := ht.lt
  have hmm := @run_makeMap Tryd.prog
  have hX : BA 71 ((w.alloc (.cells #[.pointer (some ⟨tb, 0, none⟩)] 71)).alloc (.map #[] 0)) w.heap.size #[.pointer (some ⟨tb, 0, none⟩)] := by
    show _ = _
    rw [heap_alloc_old _ _ (by simp)]
    exact heap_alloc_new w _
  have hB : Below w.heap.size w ((w.alloc (.cells #[.pointer (some ⟨tb, 0, none⟩)] 71)).alloc (.map #[] 0)) := ((Below.refl _ _).alloc (Nat.le_refl _) _).alloc (by simp) _
  have HI : Hid (RqInv w tb ((w.alloc (.cells #[.pointer (some ⟨tb, 0, none⟩)] 71)).alloc (.map #[] 0))) := ⟨by simp, hB, hX, ht.below hB⟩
  have hM : ((w.alloc (.cells #[.pointer (some ⟨tb, 0, none⟩)] 71)).alloc (.map #[] 0)).heap[w.heap.size + 1]? = some (.map #[] 0) := by
    have := heap_alloc_new (w.alloc (.cells #[.pointer (some ⟨tb, 0, none⟩)] 71)) (.map #[] 0)
    simpa using this
  have HM := Lib.hid hM
  clear ht hX hB hM
  go_enter Tryd.func33, Tryd.ntmps33
  go_wp2_with (refine sWp_put _ rfl _ _ _ _ rfl _ _ u_rules Tryd.underlying9 (w.heap.size + 1) _ _ _ _ rfl rfl rfl HM.out (by rfl) ?_; intro w1 hb1 hg1; replace HI := Lib.hid (HI.out.step htl hg1); replace HM := Lib.hid hb1; clear hb1 hg1)
  go_ret
  refine ⟨w.heap.size, w.heap.size + 1, rfl, Nat.le_refl _, by omega, by omega, ⟨by omega, HI.out.2.2.1, HI.out.2.2.2⟩, ⟨_, HM.out⟩, HI.out.2.1⟩
end Go.Proofs.YtihlcecincijgaaDoor
