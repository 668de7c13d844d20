/-
strings.IndexRune over three letters of ASCII at a rune beyond; strings.ContainsAny at the three letters that no value has, over any text.
-/
import Derived.Test.YtihlcecincijgaaDoorDshelf
import Derived.Test.YtihlcecincijgaaDoorGjump
import Derived.Laws.Runes
import Derived.Laws.RangeAny
import Derived.Lib.DecodeN
import Derived.Lib.OthersKept
import Derived.Deep.RegionHeld3
import Derived.LoopTactic
namespace Go.Proofs.YtihlcecincijgaaDoor
open Go.RowKit

/-- A scope that the run leaves without a jump. -/
theorem wp_scope_none {P : Program} {a : Act} {w : World} {Q : Exit → Act → World → Prop} {c : Code} (h : c.wp P (jumps (fun _ _ _ => False) Q) a w) : (Code.scope c).wp P Q a w :=
  wp_scope_many (fun _ => .skip) (fun _ => False) (fun _ _ _ => False) (fun _ _ => 0) (fun _ h => h.elim) (jumps_weaken (fun _ _ _ h => h.elim) h) (fun _ _ _ h => h.elim)

theorem idx_no : ∀ (l : List UInt8) (c : UInt8), (∀ b ∈ l, b ≠ c) → Lib.indexByte l c = -1
  | [], _, _ => rfl
  | b :: l, c, h => by
    have h1 : (b == c) = false := beq_eq_false_iff_ne.2 (h b List.mem_cons_self)
    simp [Lib.indexByte, h1, idx_no l c (fun x hx => h x (List.mem_cons_of_mem _ hx))]

set_option maxRecDepth 100000 in
set_option maxHeartbeats 2000000 in
theorem idxRune_err (s : ByteArray) (w : World) (ha : ∀ i (h : i < s.size), (s[i]'h).toNat < 128) :
    Calls Tryd.prog 71 #[.string s, .int .i32 65533] w fun e w' => e = .returned (.int .i64 (-1)) ∧ Below w.heap.size w w' := by
  have HA := Lib.hid ha
  clear ha
  go_enter Tryd.func71, Tryd.ntmps71
  go_wp2
  go_loopg [5, 6] s.size (fun g _ _ wx => ∃ i : Nat, i + g = s.size ∧ wx = w.iter s i)
  case atStart => exact ⟨0, by omega, rfl⟩
  case round =>
    obtain ⟨i, hig, rfl⟩ := hrel
    cases gk with
    | zero =>
      obtain rfl : i = s.size := by omega
      have hnx := run_next_end (P := Tryd.prog) w s s.size
      go_wp2
      go_ret
      exact ⟨rfl, (Below.refl _ _).alloc (Nat.le_refl _) _⟩
    | succ g =>
      have hi : i < s.size := by omega
      obtain ⟨x, hx⟩ : ∃ x : UInt8, s[i]'hi = x := ⟨_, rfl⟩
      have hx128 : x.toNat < 128 := by rw [← hx]; exact HA.out i hi
      have hnx := fun ty => run_next_ascii (P := Tryd.prog) w s i ty hi (by rw [hx]; exact hx128)
      rw [hx] at hnx
      clear hx
      have hne : ((x.toNat : Int) == 65533) = false := beq_eq_false_iff_ne.2 (by omega)
      go_wp2
      go_roundg g
      case measure => omega
      case rel => exact ⟨i + 1, by omega, rfl⟩

set_option maxRecDepth 100000 in
set_option maxHeartbeats 4000000 in
theorem idxRune_hi (s : ByteArray) (r : Int) (w : World) (hs : s.size = 3) (ha : ∀ i (h : i < s.size), (s[i]'h).toNat < 128) (h128 : 128 ≤ r) :
    Calls Tryd.prog 71 #[.string s, .int .i32 r] w fun e w' => e = .returned (.int .i64 (-1)) ∧ Below w.heap.size w w' := by
  by_cases hr : r = 65533
  · subst hr
    exact idxRune_err s w ha
  have hne : (r == 65533) = false := beq_eq_false_iff_ne.2 hr
  have hV := Lib.hid (validRune_any r w)
  have q0 : ¬ r < 128 := by omega
  cases hv : Lib.validRune r
  · rw [hv] at hV
    go_enter Tryd.func71, Tryd.ntmps71
    go_wp2_with (go_at_call 82; refine hV.out.mono ?_; rintro e w1 ⟨rfl, rfl⟩)
    go_ret
    exact ⟨rfl, Below.refl _ _⟩
  · rw [hv] at hV
    obtain ⟨e2, e4, eL⟩ := encode_facts r (by rw [validRune_eq]; exact hv) h128
    obtain ⟨rs, hrs⟩ : ∃ rs, rs = Utf8.encode r := ⟨_, rfl⟩
    rw [← hrs] at e2 e4 eL
    have hconv : ∀ ww, (convert 21 9 (.int .i32 r)).run Tryd.prog ww = .ok (.string rs) ww := fun ww => by
      rw [hrs]; exact run_convert_int_string ww _ _ _ _ (by rw [Tryd.underlying21]; rfl) Tryd.underlying9
    clear hrs
    have h3 : rs.size = 2 ∨ rs.size = 3 ∨ rs.size = 4 := by omega
    have hcase : rs.size = 4 ∨ ∃ i : Nat, (i = 1 ∨ i = 2) ∧ rs.size = i + 1 := by
      rcases h3 with h | h | h
      · exact .inr ⟨1, .inl rfl, h⟩
      · exact .inr ⟨2, .inr rfl, h⟩
      · exact .inl h
    clear h3
    rcases hcase with hz | ⟨i, hi, hz⟩
    · clear eL e2 e4
      go_enter Tryd.func71, Tryd.ntmps71
      go_wp2_with (go_at_call 82; refine hV.out.mono ?_; rintro e w1 ⟨rfl, rfl⟩)
      refine wp_scope_none ?_
      go_wp2
      go_loopw [9] (fun i wr => i = .int .i64 3 ∧ wr = w1) (fun _ _ => 0)
      case atStart => exact ⟨rfl, rfl⟩
      case round =>
        obtain ⟨rfl, rfl⟩ := hrel
        go_wp2
        simp only [jumps]
        go_ret
        exact ⟨rfl, Below.refl _ _⟩
    · have b1 : i < s.size := by omega
      have b2 : i < rs.size := by omega
      obtain ⟨x, hx⟩ : ∃ x : UInt8, s[i]'b1 = x := ⟨_, rfl⟩
      obtain ⟨y, hy⟩ : ∃ y : UInt8, rs[i]'b2 = y := ⟨_, rfl⟩
      have hx128 : x.toNat < 128 := by rw [← hx]; exact ha _ _
      have hy128 : 128 ≤ y.toNat := by
        have e : rs.size - 1 = i := by omega
        have h := eL (by omega)
        simp only [e] at h
        rw [hy] at h
        exact h
      have hI : Hid (∀ ww, Calls Tryd.prog 57 #[.string (s.extract (i + 1) 3), .int .u8 (y.toNat : Nat)] ww fun e w' => e = .returned (.int .i64 (-1)) ∧ w' = ww) := fun ww => by
        refine (indexByte_any _ _ ww).mono ?_
        rintro e w' ⟨rfl, rfl⟩
        refine ⟨?_, rfl⟩
        rw [idx_no]
        intro b hb hc
        have h := mem_extract hb
        obtain ⟨j, hj, e⟩ := List.getElem_of_mem h
        have hj' : j < s.size := by simpa using hj
        have h2 := ha j hj'
        have e2 : s[j]'hj' = b := e
        rw [e2, hc] at h2
        simp at h2
        omega
      have hne2 : ((x.toNat : Int) == (y.toNat : Int)) = false := beq_eq_false_iff_ne.2 (by omega)
      clear eL e2 e4
      go_enter Tryd.func71, Tryd.ntmps71
      go_wp2_with (go_at_call 82; refine hV.out.mono ?_; rintro e w1 ⟨rfl, rfl⟩)
      refine wp_scope_none ?_
      go_wp2
      go_loopw [9] (fun j wr => j = .int .i64 (i : Nat) ∧ wr = w1) (fun _ _ => 0)
      case atStart => exact ⟨rfl, rfl⟩
      case round =>
        obtain ⟨rfl, rfl⟩ := hrel
        have q1 : (i : Int) < 3 := by omega
        have q2 : (i : Int) + 1 ≤ 3 := by omega
        go_wp2
        refine wp_scope_none ?_
        go_wp2
        go_quiet (fail)
        go_wp2
        have hbq := below_q (Below.refl wr.heap.size wr) nq
        generalize wr.drewN nq = w2 at *
        have e1 : IntKind.i64.wrap ((i : Int) + 1) = (i : Int) + 1 := IntWalk.i64_in _ (by omega)
        have e0 : (0 : Int) ≤ (i : Int) + 1 := by omega
        have e3 : ((i : Int) + 1).toNat = i + 1 := by omega
        have hsl : ∀ ww, (Instr.slice 9 (.string s) (some (.int .i64 ((i : Int) + 1))) none none).run Tryd.prog ww = .ok (.string (s.extract (i + 1) 3)) ww := fun ww => by
          have h := run_slice_string_from_if (P := Tryd.prog) (w := ww) 9 s .i64 ((i : Int) + 1) Tryd.underlying9
          rw [if_pos ⟨e0, by rw [hs]; exact q2⟩, e3, hs] at h
          exact h
        have hix : ∀ ww, (Instr.index 9 (.string rs) (.int .i64 (i : Int))).run Tryd.prog ww = .ok (.int .u8 (y.toNat : Nat)) ww := fun ww => by
          have h := run_index_string (P := Tryd.prog) (w := ww) 9 rs .i64 (i : Int) Tryd.underlying9
          simp [b2, hy] at h
          exact h
        clear e0 e3
        go_quiet ((go_at_call 57; exact Calls.quiet_of_same (hI.out _)))
        go_wp2
        simp +zetaDelta only [jumps, Exit.inBlock, Exit.then]
        go_ret
        exact ⟨rfl, below_q hbq _⟩
theorem get_bang (s : ByteArray) (j : Nat) (x : UInt8) (h : s.data.toList[j]? = some x) : s.get! j = x := by
  obtain ⟨hj, e⟩ := List.getElem?_eq_some_iff.1 h
  have hj' : j < s.size := by simpa using hj
  have := get_at s j hj'
  rw [Nat.add_zero] at this
  rw [this]
  exact e

set_option maxRecDepth 100000 in
set_option maxHeartbeats 2000000 in
/-- What a letter beyond ASCII takes: bytes beyond ASCII. -/
theorem decode_wide (s : ByteArray) (i : Nat) (hi : i < s.size) (h : 128 ≤ (s[i]'hi).toNat) : i + (Utf8.decode s i).2 ≤ s.size ∧ ∀ j x, i ≤ j → j < i + (Utf8.decode s i).2 → s.data.toList[j]? = some x → 128 ≤ x.toNat := by
  have h0 : 128 ≤ (s.get! i).toNat := by
    have := get_at s i hi
    rw [Nat.add_zero] at this
    rw [this]; exact h
  rw [Lib.decode_at]
  have key : ∀ n b0 b1 b2 b3 : Nat, 128 ≤ b0 → 1 ≤ n → (Lib.decodeN n b0 b1 b2 b3).2 ≤ n ∧ (1 < (Lib.decodeN n b0 b1 b2 b3).2 → 128 ≤ b1) ∧ (2 < (Lib.decodeN n b0 b1 b2 b3).2 → 128 ≤ b2) ∧ (3 < (Lib.decodeN n b0 b1 b2 b3).2 → 128 ≤ b3) ∧ (Lib.decodeN n b0 b1 b2 b3).2 ≤ 4 := by
    intro n b0 b1 b2 b3 hb hn
    unfold Lib.decodeN
    repeat' split
    all_goals (simp only; omega)
  obtain ⟨k1, k2, k3, k4, k5⟩ := key (s.size - i) (s.get! i).toNat (s.get! (i + 1)).toNat (s.get! (i + 2)).toNat (s.get! (i + 3)).toNat h0 (by omega)
  generalize (Lib.decodeN (s.size - i) (s.get! i).toNat (s.get! (i + 1)).toNat (s.get! (i + 2)).toNat (s.get! (i + 3)).toNat).2 = d at *
  refine ⟨by omega, fun j x h1 h2 hx => ?_⟩
  have hg := get_bang s j x hx
  have hj : j = i ∨ j = i + 1 ∨ j = i + 2 ∨ j = i + 3 := by omega
  rcases hj with e | e | e | e
  · rw [e] at hg; rw [← hg]; exact h0
  · rw [e] at hg; rw [← hg]; exact k2 (by omega)
  · rw [e] at hg; rw [← hg]; exact k3 (by omega)
  · rw [e] at hg; rw [← hg]; exact k4 (by omega)

/-- The three letters that no value has. -/
def ch3 : ByteArray := ⟨#[0, 10, 13]⟩
theorem ch3_ascii : ∀ i (h : i < ch3.size), (ch3[i]'h).toNat < 128 := by decide
theorem ch3_in (x : UInt8) : ch3.data.toList.contains x = !(!(x == 0) && !(x == 10) && !(x == 13)) := by
  show ([0, 10, 13] : List UInt8).contains x = _
  rw [List.contains_cons, List.contains_cons, List.contains_cons]
  cases (x == 0) <;> cases (x == 10) <;> cases (x == 13) <;> rfl
theorem noAny_wide {s : ByteArray} {i d : Nat} (h : Lib.NoAny s.data.toList ch3.data.toList i) (hd : ∀ j x, i ≤ j → j < i + d → s.data.toList[j]? = some x → 128 ≤ x.toNat) : Lib.NoAny s.data.toList ch3.data.toList (i + d) := fun j b hj hb => by
  by_cases hji : j < i
  · exact h j b hji hb
  · have h1 := hd j b (by omega) hj hb
    rw [ch3_in]
    have e0 : (b == 0) = false := beq_eq_false_iff_ne.2 (fun e => by rw [e] at h1; simp at h1)
    have e1 : (b == 10) = false := beq_eq_false_iff_ne.2 (fun e => by rw [e] at h1; simp at h1)
    have e2 : (b == 13) = false := beq_eq_false_iff_ne.2 (fun e => by rw [e] at h1; simp at h1)
    simp [e0, e1, e2]

set_option maxHeartbeats 8000000 in
set_option maxRecDepth 1000000 in
/-- strings.IndexAny at them, over a short text. -/
theorem indexAny_short (s : ByteArray) (w : World) (h8 : s.size ≤ 8) :
    Calls Tryd.prog 58 #[.string s, .string ch3] w fun e w' => e = .returned (.int .i64 (Lib.indexAny s.data.toList ch3.data.toList)) ∧ Below w.heap.size w w' := by
  have h8z : decide ((8 : Int) < (s.size : Int)) = false := decide_eq_false (by omega)
  have hA := ch3_ascii
  have HC : Hid (∀ (r : Int) ww, 0 ≤ r → r < 128 → Calls Tryd.prog 71 #[.string ch3, .int .i32 r] ww fun e w' => e = .returned (.int .i64 (Lib.indexByte ch3.data.toList r.toNat.toUInt8)) ∧ w' = ww) := fun r ww h0 h1 => Any.strings_IndexRune_ascii lays152 _ r ww h0 h1
  have HD : Hid (∀ (r : Int) ww, 128 ≤ r → Calls Tryd.prog 71 #[.string ch3, .int .i32 r] ww fun e w' => e = .returned (.int .i64 (-1)) ∧ Below ww.heap.size ww w') := fun r ww h => idxRune_hi _ r ww rfl hA h
  have HU : Hid (∀ n ww, Calls Tryd.prog 72 #[.int .i64 n] ww fun e w' => e = .returned (.bool (decide (8 < n))) ∧ w' = ww) := fun n ww => Any.strings_shouldUseASCIISet lays226 n ww
  have hIn := fun x => ch3_in x
  have HCon : Hid (∀ x, ch3.data.toList.contains x = decide (0 ≤ Lib.indexByte ch3.data.toList x)) := fun x => Lib.contains_iff_indexByte _ x
  have hemp : ch3.toList.isEmpty = false := by rw [Lib.toList_data]; rfl
  have hn1 : ((ch3.size : Int) == 1) = false := by decide
  have hNA : Hid (∀ i d, Lib.NoAny s.data.toList ch3.data.toList i → (∀ j x, i ≤ j → j < i + d → s.data.toList[j]? = some x → 128 ≤ x.toNat) → Lib.NoAny s.data.toList ch3.data.toList (i + d)) := fun i d h hd => noAny_wide h hd
  generalize ch3 = ch at *
  clear hA hIn
  go_enter Tryd.func58, Tryd.ntmps58
  go_wp2_with (go_at_call 72; refine (HU.out _ _).mono ?_; rintro e w' ⟨rfl, hw⟩; rw [hw, h8z])
  have hb0 : Below w.heap.size w (w.iter s 0) := (Below.refl _ _).alloc (Nat.le_refl _) _
  have HB0 := Lib.hid hb0
  have hk0 : (w.iter s 0).heap[w.heap.size]? = some (.stringIter s 0) := World.iter_heap ..
  have HN0 := Lib.hid (Lib.NoAny.zero s.data.toList ch.data.toList)
  clear hb0
  go_loopg [9, 10] s.size (fun g _ _ wx => ∃ i : Nat, i + g = s.size ∧ wx.heap[w.heap.size]? = some (.stringIter s i) ∧ Hid (Below w.heap.size w wx) ∧ Hid (Lib.NoAny s.data.toList ch.data.toList i))
  case atStart => exact ⟨0, by omega, hk0, HB0, HN0⟩
  case round =>
    obtain ⟨i, hig, hk, HB, HN⟩ := hrel
    have hz := HB.out.size
    cases gk with
    | zero =>
      obtain rfl : i = s.size := by omega
      have hnx := fun ty => Lib.run_next_end_at (P := Tryd.prog) _ w.heap.size s s.size ty hk (by omega)
      go_wp2
      go_ret
      exact ⟨by rw [Lib.indexAny_none (by rw [← Lib.size_eq]; exact HN.out)]; rfl, HB.out⟩
    | succ g =>
      have hi : i < s.size := by omega
      obtain ⟨x, hx⟩ : ∃ x : UInt8, s[i]'hi = x := ⟨_, rfl⟩
      have hxl : s.data.toList[i]? = some x := by rw [← hx]; exact Lib.data_getElem? s i hi
      by_cases h128 : x.toNat < 128
      · have hnx := fun ty => Lib.run_next_ascii_at (P := Tryd.prog) _ w.heap.size s i ty hk hi (by rw [hx]; exact h128)
        rw [hx] at hnx
        have Hx : Hid (s.data.toList[i]? = some x) := hxl
        have HB1 := Lib.hid (Lib.below_iterAt HB.out (Nat.le_refl _) s (i + 1))
        have hk1 := Lib.iterAt_heap _ _ s i (i + 1) hk
        have HI := Lib.hid (HC.out (x.toNat : Nat))
        have hback : ((x.toNat : Int)).toNat.toUInt8 = x := by simp
        have hx0 : (0 : Int) ≤ (x.toNat : Int) := by omega
        have hx1 : (x.toNat : Int) < 128 := by omega
        clear hxl hx
        cases hin : ch.data.toList.contains x
        · have hlt : ¬ ((0 : Int) ≤ Lib.indexByte ch.data.toList x) := by
            have := HCon.out x
            rw [hin] at this
            exact of_decide_eq_false this.symm
          have HN1 := Lib.hid (HN.out.succ Hx.out hin)
          generalize wr.iterAt w.heap.size s (i + 1) = w2 at *
          go_wp2_with (go_at_call 71; refine (HI.out _ hx0 hx1).mono ?_; rintro e w' ⟨rfl, hw⟩; rw [hw, hback])
          go_roundg g
          case measure => omega
          case rel => exact ⟨i + 1, by omega, hk1, HB1, HN1⟩
        · have hge : (0 : Int) ≤ Lib.indexByte ch.data.toList x := by
            have := HCon.out x
            rw [hin] at this
            exact of_decide_eq_true this.symm
          generalize wr.iterAt w.heap.size s (i + 1) = w2 at *
          go_wp2_with (go_at_call 71; refine (HI.out _ hx0 hx1).mono ?_; rintro e w' ⟨rfl, hw⟩; rw [hw, hback])
          go_ret
          exact ⟨by rw [Lib.indexAny_hit HN.out Hx.out hin]; rfl, HB1.out⟩
      · have hx128 : 128 ≤ (s[i]'hi).toNat := by rw [hx]; omega
        obtain ⟨d1, d2⟩ := decode_high s i hi hx128
        obtain ⟨d3, d4⟩ := decode_wide s i hi hx128
        have hnx := fun ty => Lib.run_next_any_at (P := Tryd.prog) _ w.heap.size s i ty hk hi
        have HN1 := Lib.hid (hNA.out i _ HN.out d4)
        have HI := Lib.hid (HD.out ((Utf8.decode s i).1 : Nat))
        generalize (Utf8.decode s i).1 = c at *
        generalize (Utf8.decode s i).2 = d at *
        have HB1 := Lib.hid (Lib.below_iterAt HB.out (Nat.le_refl _) s (i + d))
        have hk1 := Lib.iterAt_heap _ _ s i (i + d) hk
        have hc1 : (128 : Int) ≤ (c : Int) := by omega
        clear hxl hx hx128 d4 h128 d1
        generalize wr.iterAt w.heap.size s (i + d) = w2 at *
        have hz2 := (Array.getElem?_eq_some_iff.1 hk1).1
        go_wp2_with (go_at_call 71; refine (HI.out _ hc1).mono ?_; rintro e w3 ⟨rfl, hb3⟩; have HB3 := Lib.hid (HB1.out.trans (hb3.mono (by omega))); have hk3 := (hb3.block _ hz2).trans hk1; clear hb3)
        go_roundg (g - (d - 1))
        case measure => omega
        case rel => exact ⟨i + d, by omega, hk3, HB3, HN1⟩

/-- strings.ContainsAny at them, over any text. -/
theorem containsAny_any (s : ByteArray) (w : World) (hs : s.size < 4294967281) :
    Calls Tryd.prog 43 #[.string s, .string ⟨#[0, 10, 13]⟩] w fun e w' => e = .returned (.bool (Lib.containsAny s.data.toList ch3.data.toList)) ∧ Below w.heap.size w w' := by
  have HI : Hid (Calls Tryd.prog 58 #[.string s, .string ⟨#[0, 10, 13]⟩] w fun e w' => e = .returned (.int .i64 (Lib.indexAny s.data.toList ch3.data.toList)) ∧ Below w.heap.size w w') := by
    by_cases h8 : s.size ≤ 8
    · exact indexAny_short s w h8
    · have h116 : (Tryd.prog.info? (lays153_ren.t 116)).map (fun i => (i.zero, i.size)) = some (some (.agg (Array.replicate 256 (.bool false))), 256) := by kernel_rfl
      refine (Any.strings_IndexAny_long lays153 (zero_of_info h116).1 (zero_of_info h116).2 s ch3 w (by decide) (by omega) hs (by decide) ?_).mono ?_
      · intro j b hb
        have hj : j < 3 := by
          have := (List.getElem?_eq_some_iff.1 hb).1
          simpa [ch3] using this
        have h3 : ∀ j, j < 3 → ∀ b, ch3.data.toList[j]? = some b → b.toNat < 128 := by decide
        exact h3 j hj b hb
      · rintro e w' ⟨rfl, rfl⟩
        exact ⟨rfl, ((Below.refl _ _).alloc (Nat.le_refl _) _).alloc (by simp) _⟩
  go_enter Tryd.func43, Tryd.ntmps43
  go_wp2_with (go_at_call 58; refine HI.out.mono ?_; rintro e w' ⟨rfl, hw⟩)
  go_ret
  exact ⟨rfl, hw⟩
end Go.Proofs.YtihlcecincijgaaDoor
