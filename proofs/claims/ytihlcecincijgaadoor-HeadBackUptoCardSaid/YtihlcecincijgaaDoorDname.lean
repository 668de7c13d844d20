/-
The walks of head.inName, Name, Value, isPlain, decimal.
-/
import Derived.Test.YtihlcecincijgaaDoorDrune
import Derived.Test.YtihlcecincijgaaDoorDmath
import Derived.Deep.RegionHeld3
namespace Go.Proofs.YtihlcecincijgaaDoor
open Go.RowKit

theorem marks_idx (x : UInt8) : D.marks.contains x = decide (0 ≤ Lib.indexByte D.marks x) := Lib.contains_iff_indexByte _ x
theorem nmC_small {x : UInt8} (h : 97 ≤ x.toNat ∧ x.toNat ≤ 122 ∨ 48 ≤ x.toNat ∧ x.toNat ≤ 57) : D.nmC x = true := by
  unfold D.nmC
  rcases h with h | h
  · rw [decide_eq_true h]; rfl
  · rw [decide_eq_true h]; simp
theorem nmC_else {x : UInt8} (h1 : ¬ (97 ≤ x.toNat ∧ x.toNat ≤ 122)) (h2 : ¬ (48 ≤ x.toNat ∧ x.toNat ≤ 57)) : D.nmC x = decide (0 ≤ Lib.indexByte D.marks x) := by
  unfold D.nmC
  rw [decide_eq_false h1, decide_eq_false h2, marks_idx]; rfl

set_option maxHeartbeats 1000000 in
theorem inName_any (x : UInt8) (w : World) : Calls Tryd.prog 41 #[.int .u8 (x.toNat : Nat)] w fun e w' => e = .returned (.bool (D.nmC x)) ∧ w = w' := by
  have hI := Lib.hid (indexByte_any ⟨#[33, 35, 36, 37, 38, 39, 42, 43, 45, 46, 94, 95, 96, 124, 126]⟩ ((x.toNat : Nat) : Int) w)
  have hback : ((x.toNat : Int)).toNat.toUInt8 = x := by simp
  have hm : (⟨#[33, 35, 36, 37, 38, 39, 42, 43, 45, 46, 94, 95, 96, 124, 126]⟩ : ByteArray).data.toList = D.marks := rfl
  rw [hback, hm] at hI
  have hx := x.toNat_lt
  by_cases h1 : 97 ≤ x.toNat ∧ x.toNat ≤ 122
  · obtain ⟨a, b⟩ := h1
    have HE := Lib.hid (nmC_small (x := x) (.inl ⟨a, b⟩))
    clear hback hm
    generalize x.toNat = c at *
    have q1 : (97 : Int) ≤ (c : Int) := by omega
    have q2 : (c : Int) ≤ 122 := by omega
    go_enter Tryd.func41, Tryd.ntmps41
    go_wp2
    go_ret
    exact ⟨by rw [HE.out]; rfl, rfl⟩
  · by_cases h2 : 48 ≤ x.toNat ∧ x.toNat ≤ 57
    · obtain ⟨a, b⟩ := h2
      have HE := Lib.hid (nmC_small (x := x) (.inr ⟨a, b⟩))
      clear hback hm
      generalize x.toNat = c at *
      have q1 : (48 : Int) ≤ (c : Int) := by omega
      have q2 : (c : Int) ≤ 57 := by omega
      have q3 : ¬ (97 : Int) ≤ (c : Int) := by omega
      go_enter Tryd.func41, Tryd.ntmps41
      go_wp2
      go_ret
      exact ⟨by rw [HE.out]; rfl, rfl⟩
    · have HE := Lib.hid (nmC_else h1 h2)
      clear hback hm
      generalize Lib.indexByte D.marks x = I at *
      have hcase : (97 ≤ x.toNat ∧ ¬ x.toNat ≤ 122) ∨ (¬ 97 ≤ x.toNat ∧ 48 ≤ x.toNat ∧ ¬ x.toNat ≤ 57) ∨ (¬ 97 ≤ x.toNat ∧ ¬ 48 ≤ x.toNat) := by omega
      clear h1 h2
      generalize x.toNat = c at *
      rcases hcase with ⟨a, b⟩ | ⟨a, b, d⟩ | ⟨a, b⟩
      · have q1 : (97 : Int) ≤ (c : Int) := by omega
        have q2 : ¬ (c : Int) ≤ 122 := by omega
        have q3 : (48 : Int) ≤ (c : Int) := by omega
        have q4 : ¬ (c : Int) ≤ 57 := by omega
        go_enter Tryd.func41, Tryd.ntmps41
        go_wp2_with (go_at_call 57; refine hI.out.mono ?_; rintro e w1 ⟨rfl, rfl⟩)
        go_ret
        exact ⟨by rw [HE.out]; rfl, rfl⟩
      · have q2 : ¬ (97 : Int) ≤ (c : Int) := by omega
        have q3 : (48 : Int) ≤ (c : Int) := by omega
        have q4 : ¬ (c : Int) ≤ 57 := by omega
        go_enter Tryd.func41, Tryd.ntmps41
        go_wp2_with (go_at_call 57; refine hI.out.mono ?_; rintro e w1 ⟨rfl, rfl⟩)
        go_ret
        exact ⟨by rw [HE.out]; rfl, rfl⟩
      · have q2 : ¬ (97 : Int) ≤ (c : Int) := by omega
        have q3 : ¬ (48 : Int) ≤ (c : Int) := by omega
        go_enter Tryd.func41, Tryd.ntmps41
        go_wp2_with (go_at_call 57; refine hI.out.mono ?_; rintro e w1 ⟨rfl, rfl⟩)
        go_ret
        exact ⟨by rw [HE.out]; rfl, rfl⟩

theorem all_take {p : UInt8 → Bool} {l : List UInt8} {k : Nat} {x : UInt8} (h : l[k]? = some x) (ha : (l.take k).all p = true) : (l.take (k + 1)).all p = p x := by
  rw [List.take_add_one, h, List.all_append, ha]
  simp
theorem all_no {p : UInt8 → Bool} {l : List UInt8} {k : Nat} {x : UInt8} (h : l[k]? = some x) (hp : p x = false) : l.all p = false := by
  rw [List.all_eq_false]
  exact ⟨x, List.mem_of_getElem? h, by simp [hp]⟩

set_option maxHeartbeats 1000000 in
theorem Name_any (s : ByteArray) (w : World) (hs : s.size ≤ 140737488355328) : Calls Tryd.prog 23 #[.string s] w fun e w' => e = .returned (.bool (D.name s)) ∧ w = w' := by
  go_enter Tryd.func23, Tryd.ntmps23
  go_wp2
  go_loop [3, 6] (fun _ i => ∃ k : Nat, k ≤ s.size ∧ i = .int .i64 (k : Nat) ∧ Hid ((s.data.toList.take k).all D.nmC = true)) (fun _ i => s.size - (intOf i).toNat)
  case atStart => exact ⟨0, Nat.zero_le _, rfl, by show _ = _; simp⟩
  case round =>
    obtain ⟨k, hk, rfl, HA⟩ := hrel
    by_cases hlt : k < s.size
    · obtain ⟨x, hx⟩ : ∃ x : UInt8, s[k]'hlt = x := ⟨_, rfl⟩
      have Hx : Hid (s.data.toList[k]? = some x) := by show _ = _; rw [← hx]; exact Lib.data_getElem? s k hlt
      have hI := Lib.hid (inName_any x w)
      have q1 : (k : Int) < (s.size : Int) := by omega
      cases hc : D.nmC x
      · rw [hc] at hI
        have HN : Hid (D.name s = false) := by
          show _ = _
          unfold D.name D.nameL
          rw [all_no Hx.out hc]; rfl
        go_wp2_with (go_at_call 41; refine hI.out.mono ?_; rintro e w1 ⟨rfl, rfl⟩)
        go_ret
        exact ⟨by rw [HN.out]; rfl, rfl⟩
      · rw [hc] at hI
        have HA1 : Hid ((s.data.toList.take (k + 1)).all D.nmC = true) := by show _ = _; rw [all_take Hx.out HA.out]; exact hc
        go_wp2_with (go_at_call 41; refine hI.out.mono ?_; rintro e w1 ⟨rfl, rfl⟩)
        go_round
        case rel => exact ⟨k + 1, by omega, by rw [Int.natCast_add]; rfl, HA1⟩
        case measure => simp [intOf]; omega
    · obtain rfl : k = s.size := by omega
      have q1 : ¬ (s.size : Int) < (s.size : Int) := by omega
      have hA := HA.out
      rw [List.take_of_length_le (by rw [← Lib.size_eq]; exact Nat.le_refl _)] at hA
      have HN : Hid (D.name s = !s.data.toList.isEmpty) := by
        show _ = _
        unfold D.name D.nameL
        rw [hA]; rfl
      clear hA HA
      have ht : s.toList = s.data.toList := Lib.toList_data s
      go_wp2
      go_ret
      exact ⟨by rw [HN.out]; show Ending.returned (.bool (!s.data.isEmpty)) = _; rw [Array.isEmpty_toList], rfl⟩
theorem containsAny_cons (b : UInt8) (l cs : List UInt8) : Lib.containsAny (b :: l) cs = (cs.contains b || Lib.containsAny l cs) := by
  unfold Lib.containsAny
  rw [Lib.indexAny]
  have := Lib.indexAny_ge cs l
  cases cs.contains b
  · simp only [Bool.false_or]
    by_cases h : Lib.indexAny l cs = -1
    · simp [h]
    · have h1 : (Lib.indexAny l cs == -1) = false := beq_eq_false_iff_ne.2 h
      simp only [h1]
      have : 0 ≤ Lib.indexAny l cs := by omega
      simp [this]
      omega
  · simp
theorem vl_contains (l : List UInt8) : l.all D.vlC = !Lib.containsAny l ch3.data.toList := by
  induction l with
  | nil => rfl
  | cons b l ih =>
    rw [containsAny_cons, List.all_cons, ih, ch3_in]
    unfold D.vlC
    cases (b == 0) <;> cases (b == 10) <;> cases (b == 13) <;> simp

theorem dropWhile_eq {p : UInt8 → Bool} (l : List UInt8) : (l.dropWhile p = l) ↔ l.head?.any p = false := by
  cases l with
  | nil => simp
  | cons b l =>
    rw [List.dropWhile_cons]
    by_cases h : p b = true
    · rw [if_pos h]
      simp only [List.head?_cons, Option.any_some, h]
      constructor
      · intro e
        have h1 := congrArg List.length e
        have h2 : (l.dropWhile p).length ≤ l.length := (List.dropWhile_sublist p).length_le
        simp only [List.length_cons] at h1
        omega
      · intro e; cases e
    · rw [if_neg h]; simp [h]
theorem trim_ends (l : List UInt8) : (Lib.trimS l [32, 9] = l) ↔ D.endsL l = true := by
  have hp : (fun x => ([32, 9] : List UInt8).contains x) = D.blank := by
    funext x
    simp [D.blank]
    rfl
  have hL : ∀ m : List UInt8, (Lib.trimLeftS m [32, 9] = m) ↔ m.head?.any D.blank = false := fun m => by
    unfold Lib.trimLeftS
    rw [hp]
    exact dropWhile_eq m
  have hR : (Lib.trimRightS l [32, 9] = l) ↔ l.getLast?.any D.blank = false := by
    unfold Lib.trimRightS
    rw [hp, List.reverse_eq_iff, dropWhile_eq, List.head?_reverse]
  have hl1 : (Lib.trimS l [32, 9]).length ≤ (Lib.trimRightS l [32, 9]).length := by
    unfold Lib.trimS Lib.trimLeftS
    exact (List.dropWhile_sublist _).length_le
  have hl2 : (Lib.trimRightS l [32, 9]).length ≤ l.length := by
    unfold Lib.trimRightS
    rw [List.length_reverse]
    have := (List.dropWhile_sublist (l := l.reverse) (fun x => ([32, 9] : List UInt8).contains x)).length_le
    rw [List.length_reverse] at this
    exact this
  have hr2 : (Lib.trimRightS l [32, 9]).length = l.length → Lib.trimRightS l [32, 9] = l := fun h => by
    unfold Lib.trimRightS at h ⊢
    rw [List.reverse_eq_iff]
    have hs := List.dropWhile_sublist (l := l.reverse) (fun x => ([32, 9] : List UInt8).contains x)
    exact hs.eq_of_length (by rw [List.length_reverse] at h; rw [h, List.length_reverse])
  unfold D.endsL
  constructor
  · intro h
    have hlen : (Lib.trimRightS l [32, 9]).length = l.length := by rw [h] at hl1; omega
    have e := hr2 hlen
    have h2 : Lib.trimLeftS l [32, 9] = l := by
      unfold Lib.trimS at h
      rw [e] at h
      exact h
    rw [(hL l).1 h2, hR.1 e]; rfl
  · intro h
    rw [Bool.and_eq_true, Bool.not_eq_true', Bool.not_eq_true'] at h
    unfold Lib.trimS
    rw [hR.2 h.2, (hL l).2 h.1]

theorem value_eq (s : ByteArray) : D.value s = (!Lib.containsAny s.data.toList ch3.data.toList && decide (Lib.trimS s.data.toList [32, 9] = s.data.toList)) := by
  unfold D.value D.valueL
  rw [vl_contains]
  congr 1
  rw [Bool.eq_iff_iff, decide_eq_true_eq]
  exact (trim_ends _).symm

set_option maxHeartbeats 1000000 in
theorem Value_any (s : ByteArray) (w : World) (hs : s.size < 4294967281) : Calls Tryd.prog 25 #[.string s] w fun e w' => e = .returned (.bool (D.value s)) ∧ Below w.heap.size w w' := by
  have HC := Lib.hid (containsAny_any s w hs)
  have hV := Lib.hid (value_eq s)
  have HT : Hid (∀ ww, Calls Tryd.prog 44 #[.string s, .string ⟨#[32, 9]⟩] ww fun e w' => e = .returned (.string ⟨(Lib.trimS s.data.toList [32, 9]).toArray⟩) ∧ Below ww.heap.size ww w') := fun ww => trim_any s _ ww (by omega) (by decide) (fun j b hb => by
    have hj : j < 2 := (List.getElem?_eq_some_iff.1 hb).1
    have h2 : ∀ j, j < 2 → ∀ b, (⟨#[32, 9]⟩ : ByteArray).data.toList[j]? = some b → b.toNat < 128 := by decide
    exact h2 j hj b hb)
  generalize Lib.containsAny s.data.toList ch3.data.toList = c at *
  generalize Lib.trimS s.data.toList [32, 9] = t at *
  cases c
  · have ht : (⟨t.toArray⟩ : ByteArray).toList = t := by rw [Lib.toList_data]
    have ht2 : s.toList = s.data.toList := Lib.toList_data s
    go_enter Tryd.func25, Tryd.ntmps25
    go_wp2_with (first | (go_at_call 43; refine HC.out.mono ?_; rintro e w1 ⟨rfl, hb1⟩; have HB1 := Lib.hid hb1; clear hb1) | (go_at_call 44; refine (HT.out _).mono ?_; rintro e w2 ⟨rfl, hb2⟩; have HB2 := Lib.hid hb2; clear hb2))
    go_ret
    exact ⟨by rw [hV.out]; show Ending.returned (.bool (t == s.data.toList)) = _; by_cases h : t = s.data.toList <;> simp [h], HB1.out.trans (HB2.out.mono HB1.out.size)⟩
  · go_enter Tryd.func25, Tryd.ntmps25
    go_wp2_with (go_at_call 43; refine HC.out.mono ?_; rintro e w1 ⟨rfl, hb1⟩; have HB1 := Lib.hid hb1; clear hb1)
    go_ret
    exact ⟨by rw [hV.out]; rfl, HB1.out⟩
theorem eqL (n c : ByteArray) : (n.toList == c.data.toList) = decide (n = c) := by
  rw [Lib.toList_data]
  by_cases h : n = c
  · subst h; simp
  · have h2 : n.data.toList ≠ c.data.toList := fun e => h (by
      cases n; cases c
      simp only at e
      rw [Array.toList_inj] at e
      rw [e])
    rw [decide_eq_false h]
    exact beq_eq_false_iff_ne.2 h2

set_option maxHeartbeats 1000000 in
theorem isPlain_any (n v : ByteArray) (b : Bool) (w : World) (hn : n.size ≤ 1048576) (hv : v.size ≤ 1048576) : Calls Tryd.prog 38 #[.agg #[.string n, .string v, .bool b]] w fun e w' => e = .returned (.bool (D.plain n v)) ∧ Below w.heap.size w w' := by
  have e1 : (n.toList == [99, 111, 110, 110, 101, 99, 116, 105, 111, 110]) = decide (n = D.b1) := eqL n D.b1
  have e2 : (n.toList == [112, 114, 111, 120, 121, 45, 99, 111, 110, 110, 101, 99, 116, 105, 111, 110]) = decide (n = D.b2) := eqL n D.b2
  have e3 : (n.toList == [107, 101, 101, 112, 45, 97, 108, 105, 118, 101]) = decide (n = D.b3) := eqL n D.b3
  have e4 : (n.toList == [116, 114, 97, 110, 115, 102, 101, 114, 45, 101, 110, 99, 111, 100, 105, 110, 103]) = decide (n = D.b4) := eqL n D.b4
  have e5 : (n.toList == [117, 112, 103, 114, 97, 100, 101]) = decide (n = D.b5) := eqL n D.b5
  have e6 : (n.toList == [116, 101]) = decide (n = D.te) := eqL n D.te
  have e7 : (v.toList == [116, 114, 97, 105, 108, 101, 114, 115]) = decide (v = D.trailers) := eqL v D.trailers
  have HB0 : Hid (Below w.heap.size w (w.alloc (.cells #[.string n, .string v, .bool b] 54))) := (Below.refl _ _).alloc (Nat.le_refl _) _
  have hz : w.heap.size ≤ (w.alloc (.cells #[.string n, .string v, .bool b] 54)).heap.size := HB0.out.size
  have HN : Hid (∀ ww, Calls Tryd.prog 23 #[.string n] ww fun e w' => e = .returned (.bool (D.name n)) ∧ ww = w') := fun ww => Name_any n ww (by omega)
  have HV : Hid (∀ ww, Calls Tryd.prog 25 #[.string v] ww fun e w' => e = .returned (.bool (D.value v)) ∧ Below ww.heap.size ww w') := fun ww => Value_any v ww (by omega)
  have hban : (D.banned n = true → D.plain n v = false) := D.plain_banned
  by_cases k1 : n = D.b1
  · have HR : Hid (D.plain n v = false) := hban (by unfold D.banned; simp [k1])
    rw [decide_eq_true k1] at e1
    clear e2 e3 e4 e5 e6 e7 k1
    go_enter Tryd.func38, Tryd.ntmps38
    go_wp2
    go_ret
    exact ⟨by rw [HR.out]; rfl, HB0.out⟩
  rw [decide_eq_false k1] at e1
  by_cases k2 : n = D.b2
  · have HR : Hid (D.plain n v = false) := hban (by unfold D.banned; simp [k2])
    rw [decide_eq_true k2] at e2
    clear e3 e4 e5 e6 e7 k1 k2
    go_enter Tryd.func38, Tryd.ntmps38
    go_wp2
    go_ret
    exact ⟨by rw [HR.out]; rfl, HB0.out⟩
  rw [decide_eq_false k2] at e2
  by_cases k3 : n = D.b3
  · have HR : Hid (D.plain n v = false) := hban (by unfold D.banned; simp [k3])
    rw [decide_eq_true k3] at e3
    clear e4 e5 e6 e7 k1 k2 k3
    go_enter Tryd.func38, Tryd.ntmps38
    go_wp2
    go_ret
    exact ⟨by rw [HR.out]; rfl, HB0.out⟩
  rw [decide_eq_false k3] at e3
  by_cases k4 : n = D.b4
  · have HR : Hid (D.plain n v = false) := hban (by unfold D.banned; simp [k4])
    rw [decide_eq_true k4] at e4
    clear e5 e6 e7 k1 k2 k3 k4
    go_enter Tryd.func38, Tryd.ntmps38
    go_wp2
    go_ret
    exact ⟨by rw [HR.out]; rfl, HB0.out⟩
  rw [decide_eq_false k4] at e4
  by_cases k5 : n = D.b5
  · have HR : Hid (D.plain n v = false) := hban (by unfold D.banned; simp [k5])
    rw [decide_eq_true k5] at e5
    clear e6 e7 k1 k2 k3 k4 k5
    go_enter Tryd.func38, Tryd.ntmps38
    go_wp2
    go_ret
    exact ⟨by rw [HR.out]; rfl, HB0.out⟩
  rw [decide_eq_false k5] at e5
  have hb : D.banned n = false := by unfold D.banned; simp [k1, k2, k3, k4, k5]
  clear hban k1 k2 k3 k4 k5
  by_cases k6 : n = D.te
  · have HR : Hid (D.plain n v = decide (v = D.trailers)) := D.plain_te k6
    rw [decide_eq_true k6] at e6
    clear k6 hb
    cases hd : decide (v = D.trailers)
    all_goals
      rw [hd] at e7 HR
      clear hd
      go_enter Tryd.func38, Tryd.ntmps38
      go_wp2
      go_ret
      exact ⟨by rw [HR.out]; rfl, HB0.out⟩
  · have HR : Hid (D.plain n v = (D.name n && D.value v)) := D.plain_else hb k6
    rw [decide_eq_false k6] at e6
    clear k6 hb e7
    cases hnm : D.name n
    · rw [hnm] at HN HR
      clear hnm
      go_enter Tryd.func38, Tryd.ntmps38
      go_wp2_with (go_at_call 23; refine (HN.out _).mono ?_; rintro e w1 ⟨rfl, rfl⟩)
      go_ret
      exact ⟨by rw [HR.out]; rfl, HB0.out⟩
    · rw [hnm] at HN HR
      clear hnm
      go_enter Tryd.func38, Tryd.ntmps38
      go_wp2_with (first | (go_at_call 23; refine (HN.out _).mono ?_; rintro e w1 ⟨rfl, rfl⟩) | (go_at_call 25; refine (HV.out _).mono ?_; rintro e w2 ⟨rfl, hb2⟩; have HB2 := Lib.hid (HB0.out.trans (hb2.mono hz)); clear hb2))
      go_ret
      exact ⟨by rw [HR.out]; rfl, HB2.out⟩
end Go.Proofs.YtihlcecincijgaaDoor
