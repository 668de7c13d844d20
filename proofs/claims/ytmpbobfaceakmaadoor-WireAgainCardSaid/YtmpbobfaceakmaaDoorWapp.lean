/-
What an append to a slice of the call's own does with a source that reads as bytes; the walks of wire.fresh, Size, appendVarint, Varint, and of SameBytes.
-/
import Derived.Test.YtmpbobfaceakmaaDoorWnext
import Derived.Test.YtmpbobfaceakmaaDoorWlen
import Derived.Test.YtmpbobfaceakmaaDoorWmathb
import Derived.OwnWalk
import Derived.Laws.OwnMore
import Derived.Laws.BytesArg
import Derived.Laws.Bits128
namespace Go.Proofs.YtmpbobfaceakmaaDoor
open Go.RowKit

/-- bytes as cells -/
def vals (l : List Nat) : List Value := l.map fun x => .int .u8 (x : Nat)
theorem vals_length (l : List Nat) : (vals l).length = l.length := by simp [vals]
theorem vals_append (l m : List Nat) : vals (l ++ m) = vals l ++ vals m := by simp [vals]
theorem vals_one (l : List Nat) : ∀ u ∈ vals l, u.oneCell' = true := by
  intro u hu
  obtain ⟨x, _, rfl⟩ := List.mem_map.1 hu
  rfl

/-- A slice of the call's own that holds the bytes l. -/
def Own (B : Nat) (w : World) (v : Value) (l : List Nat) : Prop := w.ownsRow B 5 1 v l.length (vals l) ∧ ∃ g cp, v = .slice (some ⟨g, 0, none⟩) l.length cp

theorem Rd.news {B : Nat} {w : World} {ad : Addr} {l : List Nat} (h : Rd B w (some ad) l) : ∀ j u, (vals l)[j]? = some u → w.cell? (ad.add j) = some u := by
  intro j u hu
  have hj : j < l.length := by
    rcases Nat.lt_or_ge j l.length with h | h
    · exact h
    · simp [vals, List.getElem?_eq_none h] at hu
  obtain ⟨b, o, e, _, hc⟩ := h.2 j hj
  cases e
  have e1 : (⟨b, o, none⟩ : Addr).add j = ⟨b, o + j, none⟩ := by unfold Addr.add; split <;> simp_all
  rw [e1, hc]
  simp [vals, List.getElem?_eq_getElem hj] at hu
  rw [List.getD_eq_getElem?_getD, List.getElem?_eq_getElem hj, ← hu]
  rfl

theorem Own.rd {B : Nat} {w : World} {v : Value} {l : List Nat} (h : Own B w v l) (hl : ∀ x ∈ l, x < 256) : ∃ a cp, v = .slice a l.length cp ∧ l.length ≤ cp ∧ Rd w.heap.size w a l := by
  obtain ⟨h1, g, cp, rfl⟩ := h
  refine ⟨_, cp, rfl, ?_, ?_⟩
  · rcases h1.2 with ⟨e, _⟩ | ⟨g', cap, cur, e, _, _, hn, _⟩
    · cases e
    · cases e; exact hn
  · refine Rd.mk hl (h1.lt g rfl).2 (fun j hj => ?_)
    have := h1.cells (g := g) rfl j (.int .u8 (l.getD j 0 : Nat)) (by simp [vals, List.getElem?_eq_getElem hj, List.getD_eq_getElem?_getD])
    have e1 : (⟨g, 0, none⟩ : Addr).add j = ⟨g, 0 + j, none⟩ := by unfold Addr.add; split <;> simp_all
    rw [← e1]; exact this

theorem run_app {P : Program} (w : World) (B B2 : Nat) (t ty e : TypeId) (i : TypeInfo) (z : Value) (ht : P.underlying t = some (.slice e)) (hi : P.info? e = some i) (hz : i.zero = some z)
    (hsize : i.size = 1) (hby : i.bytes = 1) (hzs : z.cells.size = 1) (v : Value) (n : Nat) (xs : List Value) (hown : w.ownsRow B e 1 v n xs) (hv : v ≠ .slice none 0 0)
    (a : Option Addr) (c : Nat) (l : List Nat) (hr : Rd B2 w a l) (h63 : n + l.length ≤ 140737488355328) (hbase : B ≤ w.heap.size) :
    ∃ v' w', (Builtin.append_ #[t, t] ty #[v, .slice a l.length c]).run P w = .ok v' w' ∧ w'.ownsRow B e 1 v' (n + l.length) (xs ++ vals l) ∧ w.grownBy w' v.ownBlock ∧ v' ≠ .slice none 0 0 := by
  cases a with
  | some ad =>
    obtain ⟨v', w', h1, h2, h3, h4⟩ := run_append_own (P := P) w B t ty e i z 1 1 ht hi hz hsize hby hzs (by omega) v n xs hown ad l.length c (vals l) (by simp [vals]) hr.news (vals_one l) (by unfold maxLen; omega) (by omega) hbase
    exact ⟨v', w', h1, h2, h3, fun e => hv (h4.1 e).1⟩
  | none =>
    have hl : l = [] := by
      apply Classical.byContradiction
      intro hne
      obtain ⟨b, o, e, _⟩ := hr.ptr hne
      cases e
    subst hl
    refine ⟨v, w, ?_, by simpa [vals] using hown, ⟨rfl, rfl, rfl, Nat.le_refl _, fun _ _ _ => rfl⟩, hv⟩
    rcases hown.2 with ⟨rfl, _⟩ | ⟨g, cap, cur, rfl, _, _, hnc, _⟩
    · exact absurd rfl hv
    · simp [Builtin.append_, run_underlying ht, sizeOf, typeInfo, hi, Builtin.lenOf, Builtin.firstCells, hnc, storeCells]

/-- 'append(own, bytes...)' at the operation. -/
theorem wpList_app {P : Program} (w : World) {ops : Array Oper} {rest : List Oper} {o : Oper} {a : Act} {Q : Exit → Act → World → Prop} (hgd : o.guard = none) (s x : Operand) (t : TypeId)
    (ho : o.op = .call { callee := .builtin .append, args := #[s, x], argTypes := #[t, t] })
    (B B2 : Nat) (e : TypeId) (i : TypeInfo) (z : Value) (ht : P.underlying t = some (.slice e)) (hi : P.info? e = some i) (hz : i.zero = some z)
    (hsize : i.size = 1) (hby : i.bytes = 1) (hzs : z.cells.size = 1) (v : Value) (n : Nat) (xs : List Value) (hs : a.eval s = v) (hown : w.ownsRow B e 1 v n xs) (hv : v ≠ .slice none 0 0)
    (ad : Option Addr) (m c : Nat) (l : List Nat) (hx : a.eval x = .slice ad m c) (hm : l.length = m) (hr : Rd B2 w ad l) (h63 : n + m ≤ 140737488355328) (hbase : B ≤ w.heap.size)
    (hK : ∀ g cp w', w'.ownsRow B e 1 (.slice (some ⟨g, 0, none⟩) (n + m) cp) (n + m) (xs ++ vals l) → w.grownBy w' v.ownBlock → wpList P ops Q rest (a.put o.dst (.slice (some ⟨g, 0, none⟩) (n + m) cp)) w') :
    wpList P ops Q (o :: rest) a w := by
  subst hm
  refine wpList_plain hgd fun K' hK' => ?_
  obtain ⟨v', w', hrun, h2, h3, h4⟩ := run_app (P := P) w B B2 t o.type e i z ht hi hz hsize hby hzs v n xs hown hv ad c l hr h63 hbase
  unfold Oper.wp
  simp [execOp, ho, resolve, invoke, builtin, hs, hx, hrun, Result.andThen]
  refine hK' _ _ ?_
  rcases h2.2 with ⟨e1, _⟩ | ⟨g, cp, cur, rfl, _⟩
  · exact absurd e1 h4
  · exact hK g cp w' h2 h3

theorem info5 : (Tryd.prog.info? 5).map (fun i => (i.zero, i.size, i.bytes)) = some (some (.int .u8 0), 1, 1) := by kernel_rfl

/-- What a function hands back that makes bytes of its own. -/
def OwnPost (B : Nat) (l : List Nat) (w : World) (e : Ending) (w' : World) : Prop := ∃ v, e = .returned v ∧ Own B w' v l ∧ Below B w w'

set_option maxRecDepth 100000 in
theorem fresh_any {B2 : Nat} (a : Option Addr) (len cap : Nat) (l : List Nat) (room : Nat) (w : World) (hl : l.length = len) (hr : Rd B2 w a l) (hsz : len + room ≤ 140737488355328) :
    Calls Tryd.prog 45 #[.slice a len cap, .int .i64 room] w (OwnPost w.heap.size l w) := by
  obtain ⟨i0, hi, hz0, hz1, hz2⟩ := info_parts info5
  have Hr := Lib.hid hr
  have Hl := Lib.hid hl
  clear hr hl
  have hC : ((len : Int) + (room : Int)) = ((len + room : Nat) : Int) := (Int.natCast_add len room).symm
  have hb2 : i0.bytes * (len + room) ≤ 281474976710656 := by rw [hz2]; omega
  have HC := Lib.hid hC
  have HB2 := Lib.hid hb2
  clear hC hb2
  go_enter Tryd.func45, Tryd.ntmps45
  go_wp2_with (first | (at_make; refine wpList_make_own _ rfl _ _ 23 rfl w.heap.size 5 i0 (.int .u8 0) 1 Tryd.underlying23 hi hz0 hz1 .i64 .i64 _ (len + room) rfl rfl HC.out HB2.out ?_ (Nat.le_refl _) ?_; unfold maxLen; omega; intro w1 hown hgrow; have HR1 := Lib.hid (Hr.out.below (Below.grown (Below.refl w.heap.size w) hgrow (Nat.le_refl _) (fun k e => by cases e))); have hs1 := hgrow.size) | (at_builtin; refine wpList_app _ rfl _ _ 23 rfl w.heap.size B2 5 i0 (.int .u8 0) Tryd.underlying23 hi hz0 hz1 hz2 rfl _ 0 [] rfl hown (by intro e; cases e) a len cap l rfl Hl.out HR1.out ?_ hs1 ?_; omega; intro g cp w2 hown2 hgrow2))
  go_ret
  have hl := Hl.out
  subst hl
  rw [Nat.zero_add, List.nil_append] at hown2
  refine ⟨_, rfl, ⟨hown2, g, cp, rfl⟩, ?_⟩
  exact (Below.grown (Below.refl w.heap.size w) hgrow (Nat.le_refl _) (fun k e => by cases e)).grown hgrow2 hs1 (fun k e => by cases e; exact Nat.le_refl _)

theorem Rd.one (w : World) (c : Nat) (t : TypeId) (hc : c < 256) : Rd (w.heap.size + 1) (w.alloc (.cells #[.int .u8 (c : Nat)] t)) (some ⟨w.heap.size, 0, none⟩) [c] := by
  refine Rd.mk (by simpa using hc) (by omega) (fun j hj => ?_)
  have : j = 0 := by simpa using hj
  subst this
  simp

theorem and127 (u : Nat) (h : u < 18446744073709551616) : bits .and .u64 (u : Int) 127 = (u : Int) % 128 :=
  bits_mask .u64 64 (by decide) (fun n h0 h1 => by rw [IntKind.wrap_u64]; omega) 7 (by decide) u (by omega) (by omega)
theorem or128 (u : Nat) : bits .or .u64 ((u : Int) % 128) 128 = (u : Int) % 128 + 128 := by
  have h := u64_or_nat (u % 128) 128 (by omega) (by omega)
  have e : (u % 128 ||| 128) = u % 128 + 128 := by
    have := Nat.two_pow_add_eq_or_of_lt (i := 7) (show u % 128 < 2 ^ 7 by omega) 1
    rw [Nat.or_comm]
    simp at this
    rw [← this]; omega
  rw [e] at h
  simpa using h

set_option maxRecDepth 100000 in
theorem appendVarint_any (B : Nat) (v : Value) (l : List Nat) (u : Nat) (w : World) (hv : Own B w v l) (hu : Hid (u < 18446744073709551616)) (hsz : l.length + 10 ≤ 140737488355328) (hB : B ≤ w.heap.size) :
    Calls Tryd.prog 44 #[v, .int .u64 u] w (OwnPost B (l ++ W.vbs u) w) := by
  obtain ⟨i0, hi, hz0, hz1, hz2⟩ := info_parts info5
  obtain ⟨hown0, g0, cp0, rfl⟩ := hv
  go_enter Tryd.func44, Tryd.ntmps44
  go_wp2
  go_loopw [0, 1] (fun x y wr => ∃ (g cp u' f : Nat) (l' : List Nat), x = .slice (some ⟨g, 0, none⟩) l'.length cp ∧ y = .int .u64 u' ∧ Hid (u' < 128 ^ (f + 1)) ∧ Hid (u' < 18446744073709551616) ∧ f ≤ 9 ∧ l'.length + f = l.length + 9 ∧ Hid (l' ++ W.vb f u' = l ++ W.vbs u) ∧
      wr.ownsRow B 5 1 (.slice (some ⟨g, 0, none⟩) l'.length cp) l'.length (vals l') ∧ Hid (Below B w wr) ∧ w.heap.size ≤ wr.heap.size) (fun x _ _ => (match x with | .slice _ n _ => l.length + 10 - n | _ => 0))
  case atStart => exact ⟨g0, cp0, u, 9, l, rfl, rfl, Nat.lt_of_lt_of_le hu.out (by decide), hu, by omega, rfl, rfl, hown0, Below.refl _ _, Nat.le_refl _⟩
  case round =>
    obtain ⟨g, cp, u', f, l', rfl, rfl, Hf, Hu, hf9, hlf, HL, hown, HB, hsz2⟩ := hrel
    have ea := and127 u' Hu.out
    have eo := or128 u'
    by_cases hlt : u' < 128
    · have hone := Rd.one wr u' 5 (by omega)
      have HS : Hid (W.vb f u' = [u']) := by
        show W.vb f u' = _
        cases f <;> simp [W.vb, hlt]
      go_wp2_with (at_builtin; refine wpList_app _ rfl _ _ 23 rfl B _ 5 i0 (.int .u8 0) Tryd.underlying23 hi hz0 hz1 hz2 rfl _ l'.length (vals l') rfl (hown.alloc _) (by intro e; cases e) _ 1 1 [u'] rfl rfl hone ?_ ?_ ?_; omega; (simp; omega); intro g2 cp2 w2 hown2 hgrow2)
      go_ret
      refine ⟨_, rfl, ?_, ?_⟩
      · have h := HL.out
        rw [HS.out] at h
        rw [← h]
        refine ⟨?_, g2, cp2, ?_⟩
        · rw [vals_append, List.length_append]; exact hown2
        · rw [List.length_append]; rfl
      · exact (HB.out.alloc (by omega) _).grown hgrow2 (by simp; omega) (fun k e => by cases e; exact (hown.lt g rfl).1)
    · have hone := Rd.one wr (u' % 128 + 128) 5 (by omega)
      rw [show ((u' % 128 + 128 : Nat) : Int) = (u' : Int) % 128 + 128 from by omega] at hone
      have hf1 : 1 ≤ f := by
        rcases Nat.eq_zero_or_pos f with h0 | h0
        · subst h0; have := Hf.out; simp at this; omega
        · exact h0
      obtain ⟨f, rfl⟩ : ∃ m, f = m + 1 := ⟨f - 1, by omega⟩
      have HS : Hid (W.vb (f + 1) u' = (u' % 128 + 128) :: W.vb f (u' / 128)) := by
        show W.vb (f + 1) u' = _
        simp [W.vb, hlt]
      go_wp2_with (at_builtin; refine wpList_app _ rfl _ _ 23 rfl B _ 5 i0 (.int .u8 0) Tryd.underlying23 hi hz0 hz1 hz2 rfl _ l'.length (vals l') rfl (hown.alloc _) (by intro e; cases e) _ 1 1 [u' % 128 + 128] rfl rfl hone ?_ ?_ ?_; omega; (simp; omega); intro g2 cp2 w2 hown2 hgrow2)
      go_roundw
      case rel =>
        refine ⟨g2, cp2, u' / 128, f, l' ++ [u' % 128 + 128], ?_, ?_, ?_, ?_, by omega, ?_, ?_, ?_, ?_, ?_⟩
        · rw [List.length_append]; rfl
        · first | rfl | (congr 1)
        · have h := Hf.out
          rw [Nat.pow_succ] at h
          exact Nat.div_lt_of_lt_mul (by rw [Nat.mul_comm]; exact h)
        · have := Hu.out; show u' / 128 < _; omega
        · simp; omega
        · show _ = _
          rw [← HL.out, HS.out]; simp
        · rw [vals_append, List.length_append]; exact hown2
        · exact (HB.out.alloc (by omega) _).grown hgrow2 (by simp; omega) (fun k e => by cases e; exact (hown.lt g rfl).1)
        · have := hgrow2.size; simp at this; omega
      case measure => simp; omega

theorem bl_le : ∀ f x, Lib.bitLenAux f x ≤ f
  | 0, x => by simp [Lib.bitLenAux]
  | f + 1, x => by
    unfold Lib.bitLenAux
    split
    · omega
    · have := bl_le f (x / 2); omega

set_option maxRecDepth 100000 in
theorem size_any (u : Nat) (w : World) (hu : Hid (u < 18446744073709551616)) :
    Calls Tryd.prog 32 #[.int .u64 u] w fun e w' => (∃ n : Nat, e = .returned (.int .i64 n) ∧ n ≤ 10) ∧ w = w' := by
  have eo : ∃ m : Nat, bits .or .u64 (u : Int) 1 = (m : Int) ∧ m < 18446744073709551616 := by
    have h := u64_or_nat u 1 hu.out (by omega)
    refine ⟨u ||| 1, h, ?_⟩
    exact Nat.or_lt_two_pow (n := 64) (show u < 2 ^ 64 from hu.out) (by decide)
  obtain ⟨m, eo, hm⟩ := eo
  have Hm := Lib.hid hm
  clear hm
  have hl : Lib.bitLen m ≤ 64 := bl_le 64 m
  go_enter Tryd.func32, Tryd.ntmps32
  go_wp2_with fail
  refine (len64_any m w (by omega) (by have := Hm.out; omega)).mono ?_
  rintro e w1 ⟨rfl, rfl⟩
  rw [Int.toNat_natCast]
  generalize Lib.bitLen m = n at hl
  go_wp2
  go_ret
  refine ⟨⟨(n + 6) / 7, ?_, by omega⟩, rfl⟩
  congr 1

set_option maxRecDepth 100000 in
theorem varint_any {B2 : Nat} (a : Option Addr) (len cap : Nat) (l : List Nat) (u : Nat) (w : World) (hl : l.length = len) (hr : Rd B2 w a l) (hu : Hid (u < 18446744073709551616)) (hsz : len + 10 ≤ 140737488355328) :
    Calls Tryd.prog 15 #[.slice a len cap, .int .u64 u] w (OwnPost w.heap.size (l ++ W.vbs u) w) := by
  have Hr := Lib.hid hr
  have Hl := Lib.hid hl
  clear hr hl
  go_enter Tryd.func15, Tryd.ntmps15
  go_wp2_with fail
  refine (size_any u w hu).mono ?_
  rintro e w1 ⟨⟨n, rfl, hn⟩, rfl⟩
  go_wp2_with fail
  refine (fresh_any a len cap l n w Hl.out Hr.out (by omega)).mono ?_
  rintro e w2 ⟨v, rfl, hv, hb⟩
  have HV := Lib.hid hv
  have HB := Lib.hid hb
  clear hv hb
  go_wp2_with fail
  refine (appendVarint_any w.heap.size v l u w2 HV.out hu (by rw [Hl.out]; exact hsz) HB.out.size).mono ?_
  rintro e w3 ⟨v3, rfl, hv3, hb3⟩
  have HV3 := Lib.hid hv3
  have HB3 := Lib.hid hb3
  clear hv3 hb3
  go_wp2
  go_ret
  exact ⟨_, rfl, HV3.out, HB.out.trans HB3.out⟩

/-- The string of bytes. -/
def strOf (l : List Nat) : ByteArray := strOfNums (l.map fun x : Nat => (x : Int))

theorem strOf_inj {l m : List Nat} (hl : ∀ x ∈ l, x < 256) (hm : ∀ x ∈ m, x < 256) (h1 : (strOf l).data.toList = (strOf m).data.toList) : l = m := by
  unfold strOf at h1
  rw [strOfNums_data, strOfNums_data, List.map_map, List.map_map] at h1
  have key : ∀ (l : List Nat), (∀ x ∈ l, x < 256) → (l.map ((fun n : Int => UInt8.ofNat n.toNat) ∘ fun x : Nat => (x : Int))).map (fun b => b.toNat) = l := by
    intro l hl
    rw [List.map_map]
    conv => rhs; rw [← List.map_id l]
    apply List.map_congr_left
    intro x hx
    simp only [Function.comp_apply, Int.toNat_natCast, id_eq]
    rw [UInt8.toNat_ofNat']
    exact Nat.mod_eq_of_lt (hl x hx)
  have h2 := congrArg (List.map fun b => UInt8.toNat b) h1
  rw [key l hl, key m hm] at h2
  exact h2

theorem run_str {B : Nat} (a : Option Addr) (cap : Nat) (l : List Nat) (w : World) (hr : Rd B w a l) :
    (convert 23 9 (.slice a l.length cap)).run Tryd.prog w = .ok (.string (strOf l)) w := by
  by_cases hl : l = []
  · subst hl
    rw [run_convert_bytes_string w 23 9 5 a _ cap Tryd.underlying23 Tryd.underlying5 Tryd.underlying9]
    cases a with
    | none => simp [Conv.bytesToString]; rfl
    | some ad =>
      rw [run_bytesToString w ad _ cap [] (by simp [loadCells, loadCellsFrom])]
      rfl
  · obtain ⟨b, o, rfl, _, hc⟩ := hr.ptr hl
    exact run_convert_bytes_arg w 23 5 Tryd.underlying23 Tryd.underlying5 b o l.length cap (l.map fun x : Nat => (x : Int)) (by simp) (fun i hi => by
      rw [hc i hi]
      simp [List.getD_eq_getElem?_getD, List.getElem?_eq_getElem hi]) 9 Tryd.underlying9

set_option maxRecDepth 100000 in
theorem same_any {B1 B2 : Nat} (a b : Option Addr) (n m ca cb : Nat) (l k : List Nat) (w : World) (hl : l.length = n) (hk : k.length = m) (ha : Rd B1 w a l) (hb : Rd B2 w b k) :
    Calls Tryd.prog 14 #[.slice a n ca, .slice b m cb] w fun e w' => e = .returned (.bool (decide (l = k))) ∧ w = w' := by
  subst hl hk
  have h1 := run_str a ca l w ha
  have h2 := run_str b cb k w hb
  have hd : ((strOf l).toList == (strOf k).toList) = decide (l = k) := by
    rw [Bool.eq_iff_iff, beq_iff_eq, decide_eq_true_eq, ByteArray.toList_eq, ByteArray.toList_eq]
    exact ⟨fun h => strOf_inj ha.1 hb.1 h, fun h => by rw [h]⟩
  have HD := Lib.hid hd
  clear hd ha hb
  generalize strOf l = x at h1 HD
  generalize strOf k = y at h2 HD
  go_enter Tryd.func14, Tryd.ntmps14
  go_wp2
  go_ret
  exact ⟨by rw [HD.out]; rfl, rfl⟩
end Go.Proofs.YtmpbobfaceakmaaDoor
