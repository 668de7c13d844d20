/-
Slices of texts of the call's own; the walks of head.All, Get, Length.
-/
import Derived.Test.YtihlcecincijgaaDoorDrules
import Derived.Test.YtihlcecincijgaaDoorDspec
namespace Go.Proofs.YtihlcecincijgaaDoor
open Go.RowKit

/-- Texts as cells. -/
def svs (l : List ByteArray) : List Value := l.map .string
theorem svs_length (l : List ByteArray) : (svs l).length = l.length * 1 := by simp [svs]
theorem svs_append (l m : List ByteArray) : svs (l ++ m) = svs l ++ svs m := by simp [svs]
theorem svs_one (l : List ByteArray) : ∀ u ∈ svs l, u.oneCell' = true := by
  intro u hu
  obtain ⟨x, _, rfl⟩ := List.mem_map.1 hu
  rfl
theorem infoS : (Tryd.prog.info? 9).map (fun i => (i.zero, i.size, i.bytes)) = some (some (.string ⟨#[]⟩), 1, 16) := by kernel_rfl
/-- A slice of the call's own that holds the texts l. -/
def SOwn (K : Nat) (w : World) (v : Value) (l : List ByteArray) : Prop := w.ownsRow K 9 1 v l.length (svs l)
theorem SOwn.nil (K : Nat) (w : World) : SOwn K w (.slice none 0 0) [] := World.ownsRow_nil w K _ _
theorem SOwn.kept {K : Nat} {w w' : World} {v : Value} {l : List ByteArray} {row : Option Nat} (h : SOwn K w v l) (hg : w.grownBy w' row) (hne : v.ownBlock = none ∨ v.ownBlock ≠ row) : SOwn K w' v l := World.ownsRow.kept h hg hne
theorem SOwn.below {K : Nat} {w w' : World} {v : Value} {l : List ByteArray} (h : SOwn K w v l) (hb : Below w.heap.size w w') : SOwn K w' v l :=
  h.kept (row := none) ⟨hb.os, hb.tape, hb.output, hb.size, fun i hi _ => hb.block i hi⟩ (by
    cases e : v.ownBlock with
    | none => exact Or.inl rfl
    | some b => exact Or.inr (by simp))
theorem SOwn.lt {K : Nat} {w : World} {v : Value} {l : List ByteArray} (h : SOwn K w v l) : ∀ k, v.ownBlock = some k → K ≤ k ∧ k < w.heap.size := World.ownsRow.lt h
theorem SOwn.form {K : Nat} {w : World} {v : Value} {l : List ByteArray} (h : SOwn K w v l) : ∃ a cp, v = .slice a l.length cp := by
  rcases h.2 with ⟨e, h0⟩ | ⟨g, cp, _, e, _⟩
  · exact ⟨none, 0, by rw [e, h0]⟩
  · exact ⟨_, _, e⟩
/-- What it reads as: each text in its place, in a block below K. -/
def SRdB (K : Nat) (w : World) (a : Option Addr) (l : List ByteArray) : Prop := ∀ j x, l[j]? = some x → ∃ b o, a = some ⟨b, o, none⟩ ∧ b < K ∧ w.cell? ⟨b, o + j, none⟩ = some (.string x)
theorem SRdB.belowB {K K2 : Nat} {w w' : World} {a : Option Addr} {l : List ByteArray} (h : SRdB K w a l) (hb : Below K2 w w') (hk : K ≤ K2) : SRdB K w' a l := fun j x hx => by
  obtain ⟨b, o, e, h0, h1⟩ := h j x hx
  exact ⟨b, o, e, h0, cell_belowB hb (by omega) h1⟩
theorem SRdB.mono {K K2 : Nat} {w : World} {a : Option Addr} {l : List ByteArray} (h : SRdB K w a l) (hk : K ≤ K2) : SRdB K2 w a l := fun j x hx => by
  obtain ⟨b, o, e, h0, h1⟩ := h j x hx
  exact ⟨b, o, e, by omega, h1⟩
theorem SOwn.rdB {K : Nat} {w : World} {v : Value} {l : List ByteArray} (h : SOwn K w v l) : ∃ a cp, v = .slice a l.length cp ∧ l.length ≤ cp ∧ SRdB w.heap.size w a l := by
  rcases h.2 with ⟨h1, h2⟩ | ⟨g, cap, cur, rfl, hb, hgg, hn, hm, hs, ht⟩
  · have : l = [] := List.length_eq_zero_iff.1 h2
    subst this
    exact ⟨none, 0, h1, Nat.le_refl _, fun j x hx => by simp at hx⟩
  · refine ⟨some ⟨g, 0, none⟩, cap, rfl, hn, fun j x hx => ⟨g, 0, rfl, (Array.getElem?_eq_some_iff.1 hgg).1, ?_⟩⟩
    have := World.ownsRow.cells (g := g) h rfl j (.string x) (by simp [svs, hx])
    rwa [Addr.add_lit] at this

/-- 'append(own, a text)'. -/
theorem wpList_appS (w : World) {ops : Array Oper} {rest : List Oper} {o : Oper} {a : Act} {Q : Exit → Act → World → Prop} (hgd : o.guard = none) (s x : Operand)
    (ho : o.op = .call { callee := .builtin .append, args := #[s, x], argTypes := #[50, 50] }) (hty : o.type = 50)
    (K : Nat) (v : Value) (l : List ByteArray) (hs : a.eval s = v) (hown : SOwn K w v l) (ad : Addr) (t : ByteArray) (hx : a.eval x = .slice (some ad) 1 1) (hr : w.cell? ad = some (.string t)) (hsz : l.length ≤ 1048576) (hbase : K ≤ w.heap.size)
    (hK : ∀ v' w', SOwn K w' v' (l ++ [t]) → w.grownBy w' v.ownBlock → wpList Tryd.prog ops Q rest (a.put o.dst v') w') :
    wpList Tryd.prog ops Q (o :: rest) a w := by
  refine wpList_plain hgd fun K' hK' => ?_
  obtain ⟨i0, hi, hz0, hz1, hz2⟩ := info_parts infoS
  have hnews : ∀ j u, (svs [t])[j]? = some u → w.cell? (ad.add j) = some u := by
    intro j u hu
    have hj : j = 0 := by
      have := (List.getElem?_eq_some_iff.1 hu).1
      simp [svs] at this
      omega
    subst hj
    simp [svs] at hu
    subst hu
    have e : ad.add 0 = ad := by
      unfold Addr.add
      split <;> simp_all
    rw [e]; exact hr
  obtain ⟨v', w', h1, h2, h3, h4⟩ := run_append_own (P := Tryd.prog) (w := w) K 50 50 9 i0 _ 1 16 Tryd.underlying50 hi hz0 hz1 hz2 rfl (by omega) v l.length (svs l) hown ad 1 1 (svs [t]) (by simp [svs]) hnews (svs_one _) (by unfold maxLen; omega) (by omega) hbase
  unfold Oper.wp
  simp [execOp, ho, hty, resolve, invoke, builtin, hs, hx, h1, Result.andThen]
  refine hK' _ _ (hK v' w' ?_ h3)
  show w'.ownsRow K 9 1 _ (l ++ [t]).length (svs (l ++ [t]))
  rw [List.length_append, svs_append]
  exact h2

theorem eqL2 (n c : ByteArray) : (n.toList == c.toList) = decide (n = c) := by rw [Lib.toList_data c]; exact eqL n c
theorem allN_take {l : List (B.HD × Bool)} {k : Nat} {n : ByteArray} {x : B.HD × Bool} (h : l[k]? = some x) : D.allN n (l.take (k + 1)) = D.allN n (l.take k) ++ (if x.1.1 = n then [x.1.2] else []) := by
  rw [List.take_add_one, h, D.allN_app]
  congr 1
  by_cases e : x.1.1 = n
  · simp [D.allN, D.ofN, e]
  · simp [D.allN, D.ofN, e]
theorem allN_len (n : ByteArray) (l : List (B.HD × Bool)) : (D.allN n l).length ≤ l.length := by
  unfold D.allN D.ofN
  rw [List.length_map]
  exact List.length_filter_le _ _

/-- The values of a name. -/
def AllOut (r : List ByteArray) (w : World) (e : Ending) (w' : World) : Prop := ∃ v, e = .returned v ∧ SOwn w.heap.size w' v r ∧ Below w.heap.size w w'

set_option maxRecDepth 100000 in
set_option maxHeartbeats 2000000 in
theorem All_any {K : Nat} (a : Option Addr) (n c : Nat) (l : List (B.HD × Bool)) (nm : ByteArray) (w : World) (hl : l.length = n) (hn : n ≤ 1048576) (hr : QRdB K w a l) (hK : K ≤ w.heap.size) :
    Calls Tryd.prog 22 #[.slice a n c, .string nm] w (AllOut (D.allN nm l) w) := by
  have HL := Lib.hid hl
  have HR := Lib.hid hr
  clear hl hr
  have H0 : Hid (SOwn w.heap.size w (.slice none 0 0) []) := SOwn.nil _ _
  go_enter Tryd.func22, Tryd.ntmps22
  go_wp2
  go_loopw [5, 10] (fun al i wr => ∃ k : Nat, k ≤ n ∧ i = .int .i64 (k : Nat) ∧ Hid (SOwn w.heap.size wr al (D.allN nm (l.take k))) ∧ Hid (Below w.heap.size w wr)) (fun _ i _ => n - (intOf i).toNat)
  case atStart => exact ⟨0, Nat.zero_le _, rfl, H0, Below.refl _ _⟩
  case round =>
    obtain ⟨k, hk, rfl, HO, HB⟩ := hrel
    clear H0
    have hz := HB.out.size
    by_cases hlt : k < n
    · obtain ⟨x, hx⟩ : ∃ x, l[k]? = some x := ⟨_, List.getElem?_eq_getElem (by rw [HL.out]; exact hlt)⟩
      have HA := Lib.hid (allN_take (n := nm) hx)
      obtain ⟨b, o, rfl, hbK, d0, d1, d2⟩ := (HR.out.belowB HB.out hK) k x hx
      obtain ⟨⟨xn, xv⟩, xb⟩ := x
      simp only at d0 d1 d2
      have hlk : (D.allN nm (l.take k)).length ≤ 1048576 := Nat.le_trans (allN_len _ _) (Nat.le_trans (List.length_take_le _ _) (by omega))
      clear hx
      have q1 : (k : Int) < (n : Int) := by omega
      have q0 : (0 : Int) ≤ (k : Int) := by omega
      have hba : Below wr.heap.size wr (wr.alloc (.cells #[.string xn, .string xv, .bool xb] 54)) := (Below.refl _ _).alloc (Nat.le_refl _) _
      have HB1 := Lib.hid (HB.out.trans (hba.mono hz))
      have HO1 := Lib.hid (HO.out.below hba)
      have heq := eqL2 xn nm
      obtain ⟨va, vc, hv⟩ := HO.out.form
      clear hba HB
      by_cases he : xn = nm
      · have HA2 : Hid (D.allN nm (l.take (k + 1)) = D.allN nm (l.take k) ++ [xv]) := by show _ = _; rw [HA.out, if_pos he]
        rw [decide_eq_true he] at heq
        clear he HA
        have hbb : Below (wr.alloc (.cells #[.string xn, .string xv, .bool xb] 54)).heap.size (wr.alloc (.cells #[.string xn, .string xv, .bool xb] 54)) ((wr.alloc (.cells #[.string xn, .string xv, .bool xb] 54)).alloc (.cells #[.string xv] 9)) := (Below.refl _ _).alloc (Nat.le_refl _) _
        have HB2 := Lib.hid (HB1.out.trans (hbb.mono (by simp; omega)))
        have HO2 := Lib.hid (HO1.out.below hbb)
        clear hbb
        go_wp2_with (at_builtin; refine wpList_appS _ rfl _ _ rfl rfl w.heap.size _ _ rfl HO2.out ⟨wr.heap.size + 1, 0, none⟩ xv rfl (by simp) hlk (by simp; omega) ?_; intro v3 w3 hO3 hg3; have HO3 := Lib.hid hO3; have HB3 := Lib.hid (HB2.out.grown hg3 (by simp; omega) (fun r e => (HO2.out.lt r e).1)); clear hO3 hg3)
        go_roundw
        case rel => exact ⟨k + 1, by omega, by rw [Int.natCast_add]; rfl, by rw [HA2.out]; exact HO3.out, HB3⟩
        case measure => simp [intOf]; omega
      · have HA2 : Hid (D.allN nm (l.take (k + 1)) = D.allN nm (l.take k)) := by show _ = _; rw [HA.out, if_neg he, List.append_nil]
        rw [decide_eq_false he] at heq
        clear he HA
        go_wp2
        go_roundw
        case rel => exact ⟨k + 1, by omega, by rw [Int.natCast_add]; rfl, by rw [HA2.out]; exact HO1.out, HB1⟩
        case measure => simp [intOf]; omega
    · obtain rfl : k = n := by omega
      have q1 : ¬ (k : Int) < (k : Int) := by omega
      have hO := HO.out
      rw [List.take_of_length_le (by rw [HL.out]; exact Nat.le_refl _)] at hO
      have HO2 := Lib.hid hO
      clear hO HO
      go_wp2
      go_ret
      exact ⟨_, rfl, HO2.out, HB.out⟩
theorem allN_sz {l : List (B.HD × Bool)} (hs : QSz 1048576 l) (n : ByteArray) : ∀ t ∈ D.allN n l, t.size ≤ 1048576 := fun t ht => by
  unfold D.allN D.ofN at ht
  obtain ⟨x, hx, rfl⟩ := List.mem_map.1 ht
  exact (hs x (List.mem_filter.1 hx).1).2
theorem lenV_cons (t : ByteArray) (r : List ByteArray) : D.lenV (t :: r) = if (t :: r).all (fun x => decide (x = t)) then (match D.dec t 1 10 with | some n => (n, true, true) | none => (0, false, false)) else (0, false, false) := rfl
/-- A number, whether there is one, the error. -/
def LenOut (p : Addr) (r : Nat × Bool × Bool) (w : World) (e : Ending) (w' : World) : Prop := e = .returned (.tuple #[.int .i64 (r.1 : Nat), .bool r.2.1, ehV p r.2.2]) ∧ Below w.heap.size w w'
theorem all_takeB {t : ByteArray} {l : List ByteArray} {k : Nat} {x : ByteArray} (h : l[k]? = some x) (ha : (l.take k).all (fun x => decide (x = t)) = true) : (l.take (k + 1)).all (fun x => decide (x = t)) = decide (x = t) := by
  rw [List.take_add_one, h, List.all_append, ha]
  simp
theorem all_noB {t : ByteArray} {l : List ByteArray} {k : Nat} {x : ByteArray} (h : l[k]? = some x) (hx : x ≠ t) : l.all (fun x => decide (x = t)) = false := by
  rw [List.all_eq_false]
  exact ⟨x, List.mem_of_getElem? h, by simp [hx]⟩

set_option maxRecDepth 100000 in
set_option maxHeartbeats 2000000 in
theorem Length_any {K : Nat} (a : Option Addr) (n c : Nat) (l : List (B.HD × Bool)) (p : Addr) (w : World) (hl : l.length = n) (hn : n ≤ 1048576) (hr : QRdB K w a l) (hK : K ≤ w.heap.size) (hs : QSz 1048576 l) (hE : EH w p) :
    Calls Tryd.prog 16 #[.slice a n c] w (LenOut p (D.lenV (D.allN D.cLength l)) w) := by
  have HA : Hid (Calls Tryd.prog 22 #[.slice a n c, .string ⟨#[99, 111, 110, 116, 101, 110, 116, 45, 108, 101, 110, 103, 116, 104]⟩] w (AllOut (D.allN D.cLength l) w)) := All_any a n c l D.cLength w hl hn hr hK
  have hsz := allN_sz hs D.cLength
  have hlen : (D.allN D.cLength l).length ≤ 1048576 := by
    have := allN_len D.cLength l
    omega
  clear hl hr hs
  generalize D.allN D.cLength l = told at *
  have HE := Lib.hid hE
  have HS := Lib.hid hsz
  clear hE hsz
  go_enter Tryd.func16, Tryd.ntmps16
  go_wp2_with fail
  refine HA.out.mono ?_
  rintro e w1 ⟨v, rfl, hv, hb1⟩
  obtain ⟨sa, sc, rfl, hcap, hrd⟩ := hv.rdB
  have HB1 := Lib.hid hb1
  have HR := Lib.hid hrd
  have hE1 : EH w1 p := HE.out.below hb1
  unfold EH at hE1
  clear hb1 hrd hv HA HE
  cases told with
  | nil =>
    go_wp2
    refine bodyPost_ret (v := .tuple #[.int .i64 0, .bool false, .nilIface]) (by simp [results, Tryd.results16, go_sem]) rfl ⟨rfl, HB1.out⟩
  | cons t r =>
    obtain ⟨b, o, rfl, hbK, d0⟩ := HR.out 0 t rfl
    obtain ⟨n2, hn2⟩ : ∃ n2, n2 = (t :: r).length := ⟨_, rfl⟩
    have h0 : 0 < n2 := by rw [hn2]; simp
    rw [← hn2] at hlen hcap ⊢
    have Hn2 := Lib.hid hn2
    simp only [Nat.add_zero] at d0
    have q0 : (0 : Int) < (n2 : Int) := by omega
    have q00 : ((n2 : Int) == 0) = false := beq_eq_false_iff_ne.2 (by omega)
    clear hn2
    go_wp2
    go_loop [17] (fun i => ∃ k : Nat, k ≤ n2 ∧ i = .int .i64 (k : Nat) ∧ Hid (((t :: r).take k).all (fun x => decide (x = t)) = true)) (fun i => n2 - (intOf i).toNat)
    case atStart => exact ⟨0, Nat.zero_le _, rfl, by show _ = _; simp⟩
    case round =>
      obtain ⟨k, hk, rfl, HT⟩ := hrel
      by_cases hlt : k < n2
      · obtain ⟨x, hx⟩ : ∃ x, (t :: r)[k]? = some x := ⟨_, List.getElem?_eq_getElem (by rw [← Hn2.out]; exact hlt)⟩
        obtain ⟨b', o', e', _, dk⟩ := HR.out k x hx
        cases e'
        have Hx := Lib.hid hx
        have heq := eqL2 x t
        have q1 : (k : Int) < (n2 : Int) := by omega
        have q2 : (0 : Int) ≤ (k : Int) := by omega
        clear hx
        by_cases he : x = t
        · have HT2 : Hid (((t :: r).take (k + 1)).all (fun x => decide (x = t)) = true) := by show _ = _; rw [all_takeB Hx.out HT.out]; exact decide_eq_true he
          rw [decide_eq_true he] at heq
          clear he
          go_wp2
          go_round
          case rel => exact ⟨k + 1, by omega, by rw [Int.natCast_add]; rfl, HT2⟩
          case measure => simp [intOf]; omega
        · have HN : Hid (D.lenV (t :: r) = (0, false, false)) := by
            show _ = _
            rw [lenV_cons]
            rw [all_noB Hx.out he]; rfl
          rw [decide_eq_false he] at heq
          clear he
          go_wp2_with fail
          go_quiet (fail)
          go_wp2
          refine bodyPost_ret (v := .tuple #[.int .i64 0, .bool false, .iface 146 (.pointer (some p))]) (by simp [results, Tryd.results16, go_sem]) rfl ⟨?_, below_q HB1.out _⟩
          rw [HN.out]; rfl
      · obtain rfl : k = n2 := by omega
        have q1 : ¬ (k : Int) < (k : Int) := by omega
        have hT := HT.out
        rw [List.take_of_length_le (by rw [← Hn2.out]; exact Nat.le_refl _)] at hT
        have HD := Lib.hid (decimal_any t 1 10 w1 (by omega) (by omega) (by have := HS.out t List.mem_cons_self; omega))
        cases hd : D.dec t 1 10 with
        | none =>
          have HN : Hid (D.lenV (t :: r) = (0, false, false)) := by
            show _ = _
            rw [lenV_cons]
            rw [hT, hd]; rfl
          rw [hd] at HD
          simp only [Option.getD_none, Option.isSome_none] at HD
          clear hT hd
          go_wp2_with fail
          refine HD.out.mono ?_
          rintro e w2 ⟨rfl, rfl⟩
          go_wp2_with fail
          go_quiet (fail)
          go_wp2
          refine bodyPost_ret (v := .tuple #[.int .i64 0, .bool false, .iface 146 (.pointer (some p))]) (by simp [results, Tryd.results16, go_sem]) rfl ⟨?_, below_q HB1.out _⟩
          rw [HN.out]; rfl
        | some m =>
          have HN : Hid (D.lenV (t :: r) = (m, true, true)) := by
            show _ = _
            rw [lenV_cons]
            rw [hT, hd]; rfl
          rw [hd] at HD
          simp only [Option.getD_some, Option.isSome_some] at HD
          clear hT hd
          go_wp2_with fail
          refine HD.out.mono ?_
          rintro e w2 ⟨rfl, rfl⟩
          go_wp2
          refine bodyPost_ret (v := .tuple #[.int .i64 (m : Nat), .bool true, .nilIface]) (by simp [results, Tryd.results16, go_sem]) rfl ⟨?_, HB1.out⟩
          rw [HN.out]; rfl
end Go.Proofs.YtihlcecincijgaaDoor
