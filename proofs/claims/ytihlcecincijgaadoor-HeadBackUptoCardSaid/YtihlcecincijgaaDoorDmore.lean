/-
HeadMore: a list that may be, with a plain header more, may be; with one that is none it may not.
-/
import Derived.Test.YtihlcecincijgaaDoorDfirst
import Derived.Test.YtihlcecincijgaaDoorDlight
import Derived.Test.YtihlcecincijgaaDoorDprops
import Derived.Deep.RegionHeld3
import Derived.Deep.CutRange
namespace Go.Proofs.YtihlcecincijgaaDoor
open Go.RowKit

theorem OpenOut.form {p : Addr} {o : Option (D.Rq × List (B.HD × Bool))} {w w' : World} {e : Ending} (h : OpenOut p o w e w') : ∃ m s a q va n vc, e = .returned (.tuple #[.agg #[.string m, .string s, .string a, .string q, .slice va n vc], ehV p o.isSome]) ∧ Below w.heap.size w w' := by
  obtain ⟨v, he, ho, hb⟩ := h
  obtain ⟨va, vc, hv⟩ := ho.form
  rw [hv] at he
  exact ⟨_, _, _, _, va, _, vc, he, hb⟩
theorem OpenAOut.form {p : Addr} {o : Option (Nat × List (B.HD × Bool))} {w w' : World} {e : Ending} (h : OpenAOut p o w e w') : ∃ (k : Nat) (va : Option Addr) (n vc : Nat), e = .returned (.tuple #[.agg #[.int .i64 (k : Nat), .slice va n vc], ehV p o.isSome]) ∧ Below w.heap.size w w' := by
  obtain ⟨v, he, ho, hb⟩ := h
  obtain ⟨va, vc, hv⟩ := ho.form
  rw [hv] at he
  exact ⟨_, va, _, vc, he, hb⟩
theorem run_eqN (p : Addr) (b : Bool) (w : World) : (binOp .eql 29 (ehV p b) .nilIface).run Tryd.prog w = .ok (.bool b) w := by
  cases b <;> kernel_rfl
theorem run_neN (p : Addr) (b : Bool) (w : World) : (binOp .neq 29 (ehV p b) .nilIface).run Tryd.prog w = .ok (.bool (!b)) w := by
  cases b <;> kernel_rfl

theorem run_gdN (p : Addr) (b : Bool) (op : BinOp) (o : Operand) (w : World) : (eqGuard op 29 o (.const .nilIface) (ehV p b) .nilIface).run Tryd.prog w = .ok () w := by
  unfold eqGuard ehV
  cases b <;> cases op <;> simp
/-- make, append and a slice's building, as steps of a region that draws its order. -/
theorem step_makeQ (w : World) {ops : Array Oper} {o : Oper} {a : Act} {K' : Act → World → Prop} {Q : Exit → Act → World → Prop} {E : Prop} (hgd : o.guard = none) (l c : Operand) (hop : o.op = Op.makeSlice 22 l c)
    (K : Nat) (kl kc : IntKind) (n : Nat) (hl : a.eval l = .int kl 0) (hc : a.eval c = .int kc (n : Int)) (hn : n ≤ 1048576) (hbase : K ≤ w.heap.size)
    (hK : ∀ w', QOwn K w' (.slice (some ⟨w.heap.size, 0, none⟩) 0 n) [] → w.grownBy w' none → K' (a.put o.dst (.slice (some ⟨w.heap.size, 0, none⟩) 0 n)) w') :
    if Region.wanted o (yielded ops a.tmps) = true then Oper.wp Tryd.prog o a w K' Q else E := by
  obtain ⟨i0, hi, hz0, hz1, hz2⟩ := info_parts infoQ
  obtain ⟨w', hrun, r1, r2⟩ := run_make_own (P := Tryd.prog) w K 22 54 i0 _ 3 Tryd.underlying22 hi hz0 hz1 kl kc n (by rw [hz2]; omega) (by unfold maxLen; omega) hbase
  rw [if_pos (by unfold Region.wanted; rw [hgd])]
  unfold Oper.wp
  simp [execOp, hop, hl, hc, hrun, Result.andThen]
  exact hK w' r1 r2
theorem step_appQ2 (w : World) {ops : Array Oper} {o : Oper} {a : Act} {K' : Act → World → Prop} {Q : Exit → Act → World → Prop} {E : Prop} (hgd : o.guard = none) (s x : Operand)
    (ho : o.op = .call { callee := .builtin .append, args := #[s, x], argTypes := #[22, 22] }) (hty : o.type = 22)
    (K : Nat) (v : Value) (l : List (B.HD × Bool)) (hs : a.eval s = v) (hown : QOwn K w v l) (ad : Option Addr) (mm c : Nat) (m : List (B.HD × Bool)) (hx : a.eval x = .slice ad mm c) (hmm : m.length = mm) (hr : QRd w ad m) (hsz : l.length + mm ≤ 2097152) (hbase : K ≤ w.heap.size)
    (hK : ∀ v' w', QOwn K w' v' (l ++ m) → w.grownBy w' v.ownBlock → K' (a.put o.dst v') w') :
    if Region.wanted o (yielded ops a.tmps) = true then Oper.wp Tryd.prog o a w K' Q else E := by
  subst hmm
  obtain ⟨v', w', hrun, h2, h3⟩ := run_appQ2 w K v l hown ad c m hr hsz hbase
  rw [if_pos (by unfold Region.wanted; rw [hgd])]
  unfold Oper.wp
  simp [execOp, ho, hty, resolve, invoke, builtin, hs, hx, hrun, Result.andThen]
  exact hK _ _ h2 h3
theorem step_buildQ (w : World) {ops : Array Oper} {o : Oper} {a : Act} {K' : Act → World → Prop} {Q : Exit → Act → World → Prop} {E : Prop} (hgd : o.guard = none) (x : Operand)
    (hop : o.op = Op.buildSlice 22 1 #[(0, x)]) (n v : ByteArray) (b : Bool) (hx : a.eval x = .agg #[.string n, .string v, .bool b])
    (hK : ∀ w', w'.heap[w.heap.size]? = some (.cells #[.string n, .string v, .bool b] 54 (0, 0)) → Below w.heap.size w w' → K' (a.put o.dst (.slice (some ⟨w.heap.size, 0, none⟩) 1 1)) w') :
    if Region.wanted o (yielded ops a.tmps) = true then Oper.wp Tryd.prog o a w K' Q else E := by
  have hrun : (Instr.buildSlice 22 1 #[(0, .agg #[.string n, .string v, .bool b])]).run Tryd.prog w = .ok (.slice (some ⟨w.heap.size, 0, none⟩) 1 1) (w.alloc (.cells #[.string n, .string v, .bool b] 54)) := by kernel_rfl
  rw [if_pos (by unfold Region.wanted; rw [hgd])]
  unfold Oper.wp
  simp [execOp, hop, hx, hrun, Result.andThen]
  exact hK _ (heap_alloc_new w _) ((Below.refl _ _).alloc (Nat.le_refl _) _)
theorem colon_empty {n : ByteArray} (h : n.size = 0) : D.colonN n = false := by
  unfold D.colonN
  have : n.data.toList = [] := List.length_eq_zero_iff.1 (by rw [← Lib.size_eq]; exact h)
  rw [this]; rfl
theorem colon_at {n : ByteArray} (h : 0 < n.size) : D.colonN n = decide (n[0]'h = 58) := by
  unfold D.colonN
  have := Lib.data_getElem? n 0 h
  rw [← List.head?_eq_getElem?] at this
  rw [this]
  simp only [Option.some.injEq]
theorem u8_58 (x : UInt8) : decide (x = 58) = ((x.toNat : Int) == 58) := by
  by_cases h : x = 58
  · subst h; rfl
  · rw [decide_eq_false h]
    refine (beq_eq_false_iff_ne.2 (fun e => h ?_)).symm
    have : x.toNat = 58 := by omega
    exact UInt8.toNat_inj.1 this
theorem QOwn.ne_one {T : TypeId} {K : Nat} {w : World} {g k cap b : Nat} {l : List (B.HD × Bool)} {x y z : Value} (h : QOwn K w (.slice (some ⟨g, 0, none⟩) k cap) l) (hb : BA T w b #[x, y, z]) (hc : 2 ≤ cap) : g ≠ b := by
  rcases h.2 with ⟨h1, _⟩ | ⟨g', cap', cur, h1, _, hg, _, _, hs, _⟩
  · cases h1
  · cases h1
    intro e
    subst e
    have hb' : w.heap[g]? = some (.cells #[x, y, z] T (0, 0)) := hb
    rw [hg] at hb'
    cases hb'
    simp at hs
    omega
theorem BA.qrd {w : World} {b : Nat} {n v : ByteArray} {f : Bool} (h : BA 54 w b #[.string n, .string v, .bool f]) : QRd w (some ⟨b, 0, none⟩) [((n, v), f)] := (QRdB.blk (l := [((n, v), f)]) h).rd
theorem grown_below {w w' : World} (h : w.grownBy w' none) : Below w.heap.size w w' := Below.grown (Below.refl _ _) h (Nat.le_refl _) (fun r e => by cases e)
theorem qsz_up {l : List (B.HD × Bool)} (h : QSz 1048576 l) : QSz 140737488355328 l := fun x hx => ⟨by have := (h x hx).1; omega, by have := (h x hx).2; omega⟩

set_option maxRecDepth 100000 in
set_option maxHeartbeats 4000000 in
theorem headMore_law (p : Addr) (a : Option Addr) (n c : Nat) (l : List (B.HD × Bool)) (vn vv : ByteArray) (vb : Bool) (w : World) (hl : l.length = n) (hcap : n ≤ c) (hr : QRdB w.heap.size w a l) (hs : QSz 1048576 l) (zn : vn.size ≤ 1048576) (zv : vv.size ≤ 1048576) (hE : EH w p) :
    Calls Tryd.prog 7 #[.slice a n c, .agg #[.string vn, .string vv, .bool vb]] w (TruePost w) := by
  obtain ⟨w0, hw0⟩ : ∃ w0, w0 = w.alloc (.cells #[.string vn, .string vv, .bool vb] 54) := ⟨_, rfl⟩
  have hb0 : Below w.heap.size w w0 := by rw [hw0]; exact (Below.refl _ _).alloc (Nat.le_refl _) _
  have HX0 : Hid (BA 54 w0 w.heap.size #[.string vn, .string vv, .bool vb]) := by rw [hw0]; exact heap_alloc_new w _
  have hz0 : w.heap.size + 1 ≤ w0.heap.size := by rw [hw0]; simp
  have Hw0 := Lib.hid hw0
  have HB0 := Lib.hid hb0
  have HE0 := Lib.hid (hE.below hb0)
  have HQ0 := Lib.hid (hr.belowB hb0 (Nat.le_refl _))
  have HL := Lib.hid hl
  have HS := Lib.hid hs
  have HF := Lib.hid (first_any p w0 HE0.out)
  have hgE0 := World.block_lt_of_cell? _ _ hE
  simp only at hgE0
  replace hgE0 : 0 < w.heap.size + 1 := by omega
  clear hw0 hb0 hE hr hl hs
  go_enter Tryd.func7, Tryd.ntmps7
  go_wp2_with fail
  rw [← Hw0.out]
  refine HF.out.mono ?_
  rintro e w1 ⟨rfl, hb1⟩
  have HB1 := Lib.hid (HB0.out.trans (hb1.mono (by omega)))
  have HE1 := Lib.hid (HE0.out.below hb1)
  have HX1 := Lib.hid (HX0.out.below hb1)
  have HQ1 := Lib.hid (HQ0.out.belowB hb1 (by omega))
  have hz1 := hb1.size
  clear hb1 HF HX0 HQ0
  have HLt := Lib.hid (klight_any a n c l w1 HL.out HQ1.out (by omega) (qsz_up HS.out))
  go_wp2_with fail
  refine HLt.out.mono ?_
  rintro e w2 ⟨⟨lb, rfl, h60⟩, hb2⟩
  have HB2 := Lib.hid (HB1.out.trans (hb2.mono (by omega)))
  have HE2 := Lib.hid (HE1.out.below hb2)
  have hx2 := HX1.out.below hb2
  have HX2 := Lib.hid hx2
  have HQ2 := Lib.hid (HQ1.out.belowB hb2 (by omega))
  have hz2 := hb2.size
  have c0 := hx2.cell (i := 0) (v := .string vn) rfl
  have c1 := hx2.cell (i := 1) (v := .string vv) rfl
  have c2 := hx2.cell (i := 2) (v := .bool vb) rfl
  clear hb2 HLt HX1 HQ1 hx2
  cases lb
  · go_wp2
    go_ret
    exact ⟨rfl, HB2.out⟩
  have hn60 := h60 rfl
  clear h60
  by_cases hn0 : n = 0
  · have q1 : ((n : Int) == 0) = true := by simp [hn0]
    go_wp2
    go_ret
    exact ⟨rfl, HB2.out⟩
  have q1 : ((n : Int) == 0) = false := beq_eq_false_iff_ne.2 (by omega)
  by_cases hbig : 3000 < vn.size + vv.size
  · have q2 : (3000 : Int) < (vn.size : Int) + (vv.size : Int) := by omega
    go_wp2
    go_ret
    exact ⟨rfl, HB2.out⟩
  have q2 : ¬ (3000 : Int) < (vn.size : Int) + (vv.size : Int) := by omega
  have q2d : decide ((3000 : Int) < (vn.size : Int) + (vv.size : Int)) = false := decide_eq_false q2
  have hS : Hid (∀ ww, Below (w.heap.size + 1) w2 ww → ww.cell? ⟨w.heap.size, 0, none⟩ = some (.string vn) ∧ ww.cell? ⟨w.heap.size, 1, none⟩ = some (.string vv) ∧ ww.cell? ⟨w.heap.size, 2, none⟩ = some (.bool vb)) := fun ww h => by
    have hx := HX2.out.belowB h (by omega)
    exact ⟨hx.cell rfl, hx.cell rfl, hx.cell rfl⟩
  have HBc : Hid (Below (w.heap.size + 1) w2 w2) := Below.refl _ _
  have HBd : Hid (Below (w.heap.size + 1) w2 w2.drew) := ⟨rfl, rfl, rfl, Nat.le_refl _, fun _ _ => rfl⟩
  have COl : Hid (∀ ww, Below (w.heap.size + 1) w2 ww → w.heap.size + 1 ≤ ww.heap.size → Calls Tryd.prog 11 #[.slice a n c] ww fun e w' => ∃ m s a q va n vc, e = .returned (.tuple #[.agg #[.string m, .string s, .string a, .string q, .slice va n vc], ehV p (D.okR l)]) ∧ Below ww.heap.size ww w') := fun ww h hz => (Open_any a n c l p ww HL.out (by omega) hcap (HQ2.out.belowB h (by omega)) (by omega) HS.out (HE2.out.belowB h hgE0)).mono fun e w' ho => ho.form
  have CAl : Hid (∀ ww, Below (w.heap.size + 1) w2 ww → w.heap.size + 1 ≤ ww.heap.size → Calls Tryd.prog 13 #[.slice a n c] ww fun e w' => ∃ (k : Nat) (va : Option Addr) (n vc : Nat), e = .returned (.tuple #[.agg #[.int .i64 (k : Nat), .slice va n vc], ehV p (D.okA l)]) ∧ Below ww.heap.size ww w') := fun ww h hz => (OpenAnswer_any a n c l p ww HL.out (by omega) hcap (HQ2.out.belowB h (by omega)) (by omega) HS.out (HE2.out.belowB h hgE0)).mono fun e w' ho => ho.form
  have CTl : Hid (∀ ww, Below (w.heap.size + 1) w2 ww → w.heap.size + 1 ≤ ww.heap.size → Calls Tryd.prog 15 #[.slice a n c] ww fun e w' => e = .returned (ehV p (D.okT l)) ∧ Below ww.heap.size ww w') := fun ww h hz => Trailers_any a n c l p ww HL.out (by omega) (HQ2.out.belowB h (by omega)) (by omega) HS.out (HE2.out.belowB h hgE0)
  go_upto_region 4 with (fail)
  clear c0 c1 c2
  go_cut [6] from 44 to 49 (fun v wx => ∃ va vc, v = .slice va (n + 1) vc ∧ Hid (QOwn (w.heap.size + 1) wx (.slice va (n + 1) vc) (l ++ [((vn, vv), vb)])) ∧ Hid (Below (w.heap.size + 1) w2 wx))
  case first =>
    obtain ⟨i0, hi, hi0, hi1, hi2⟩ := info_parts infoQ
    have hwd : w2.drew.heap.size = w2.heap.size := rfl
    obtain ⟨wm1, hm1, ho1, hg1⟩ := run_make_own (P := Tryd.prog) w2.drew (w.heap.size + 1) 22 54 i0 _ 3 Tryd.underlying22 hi hi0 hi1 .i64 .i64 64 (by rw [hi2]; decide) (by decide) (by omega)
    obtain ⟨wb, hwb⟩ : ∃ wb, wb = (w2.alloc (.cells #[.string vn, .string vv, .bool vb] 54)).drew := ⟨_, rfl⟩
    have hwbs : wb.heap.size = w2.heap.size + 1 := by rw [hwb]; show (w2.alloc _).heap.size = _; simp
    obtain ⟨wm2, hm2, ho2, hg2⟩ := run_make_own (P := Tryd.prog) wb (w.heap.size + 1) 22 54 i0 _ 3 Tryd.underlying22 hi hi0 hi1 .i64 .i64 64 (by rw [hi2]; decide) (by decide) (by omega)
    have hbb : Below w2.heap.size w2 wb := by rw [hwb]; exact ((Below.refl _ _).alloc (Nat.le_refl _) _).drew
    have HM1 : Hid (QOwn (w.heap.size + 1) wm1 (.slice (some ⟨w2.heap.size, 0, none⟩) 0 64) []) := ho1
    have HM2 : Hid (QOwn (w.heap.size + 1) wm2 (.slice (some ⟨w2.heap.size + 1, 0, none⟩) 0 64) []) := by rw [← hwbs]; exact ho2
    have HBm1 : Hid (Below (w.heap.size + 1) w2 wm1) := HBd.out.trans ((grown_below hg1).mono (by omega))
    have HBm2 : Hid (Below (w.heap.size + 1) w2 wm2) := (hbb.mono (by omega)).trans ((grown_below hg2).mono (by omega))
    have HFb : Hid (BA 54 wm2 w2.heap.size #[.string vn, .string vv, .bool vb]) := by
      refine BA.below ?_ (grown_below hg2)
      rw [hwb]
      exact heap_alloc_new w2 _
    have HBm1' : Hid (Below (w.heap.size + 1) w2 (wm1.alloc (.cells #[.string vn, .string vv, .bool vb] 54))) := HBm1.out.alloc (by have := HBm1.out.size; omega) _
    have HM1' : Hid (QOwn (w.heap.size + 1) (wm1.alloc (.cells #[.string vn, .string vv, .bool vb] 54)) (.slice (some ⟨w2.heap.size, 0, none⟩) 0 64) []) := HM1.out.below ((Below.refl _ _).alloc (Nat.le_refl _) _)
    have HFb' : Hid (BA 54 (wm1.alloc (.cells #[.string vn, .string vv, .bool vb] 54)) wm1.heap.size #[.string vn, .string vv, .bool vb]) := heap_alloc_new wm1 _
    have hm1' : (Instr.makeSlice 22 (.int .i64 0) (.int .i64 64)).run Tryd.prog w2.drew = .ok (.slice (some ⟨w2.heap.size, 0, none⟩) 0 64) wm1 := hm1
    have hm2' : (Instr.makeSlice 22 (.int .i64 0) (.int .i64 64)).run Tryd.prog (w2.alloc (.cells #[.string vn, .string vv, .bool vb] 54)).drew = .ok (.slice (some ⟨w2.heap.size + 1, 0, none⟩) 0 64) wm2 := by rw [← hwb, ← hwbs]; exact hm2
    obtain ⟨e0, e1, e2⟩ := hS.out _ HBd.out
    obtain ⟨e3, e4, e5⟩ := hS.out _ HBm1.out
    have hzm : w2.heap.size ≤ wm1.heap.size := HBm1.out.size
    have hzm2 : w2.heap.size ≤ wm2.heap.size := HBm2.out.size
    clear hm1 hm2 ho1 ho2 hg1 hg2 hbb hwb hwbs hi hi0 hi1 hi2 hwd
    go_region_law (first
      | (refine step_appQ2 _ rfl _ _ rfl rfl (w.heap.size + 1) _ l rfl HO1.out _ 1 1 [((vn, vv), vb)] rfl rfl HF2.out.qrd (by have := HL.out; omega) (by have := HBc.out.size; omega) ?_; intro v2 w6 hO hg; obtain ⟨va, vc, rfl⟩ := hO.form; have HO2 := Lib.hid hO; have HB6 := Lib.hid (HBc.out.grown hg (by have := HBc.out.size; omega) (fun r e => (HO1.out.lt r e).1)); clear hO hg)
      | (refine step_appQ2 _ rfl _ _ rfl rfl (w.heap.size + 1) _ l rfl (HO1.out.below ((Below.refl _ _).alloc (Nat.le_refl _) _)) _ 1 1 [((vn, vv), vb)] rfl rfl (QRd.one _ _ _ _) (by have := HL.out; omega) (by have := HBc.out.size; simp; omega) ?_; intro v2 w6 hO hg; obtain ⟨va, vc, rfl⟩ := hO.form; have HO2 := Lib.hid hO; have HB6 := Lib.hid ((HBc.out.alloc (by have := HBc.out.size; omega) _).grown hg (by have := HBc.out.size; simp; omega) (fun r e => (HO1.out.lt r e).1)); clear hO hg)
      | (refine step_appQ2 _ rfl _ _ rfl rfl (w.heap.size + 1) _ [] rfl HM1.out a n c l rfl HL.out (HQ2.out.belowB HBm1.out (by omega)).rd (by simp; omega) (by omega) ?_; intro v1 w4 hO hg; rw [List.nil_append] at hO; obtain ⟨x1, y1, rfl⟩ := hO.form; have HO1 := Lib.hid hO; have HBc := Lib.hid (HBm1.out.grown hg (by omega) (fun r e => (HM1.out.lt r e).1)); obtain ⟨e0, e1, e2⟩ := hS.out _ HBc.out; clear hO hg)
      | (refine step_appQ2 _ rfl _ _ rfl rfl (w.heap.size + 1) _ [] rfl HM1'.out a n c l rfl HL.out (HQ2.out.belowB HBm1'.out (by omega)).rd (by simp; omega) (by simp; omega) ?_; intro v1 w4 hO hg; rw [List.nil_append] at hO; obtain ⟨x1, y1, rfl⟩ := hO.form; have HO1 := Lib.hid hO; have HF2 := Lib.hid (HFb'.out.grown hg (HM1'.out.ne_one HFb'.out (by decide))); have HBc := Lib.hid (HBm1'.out.grown hg (by simp; omega) (fun r e => (HM1'.out.lt r e).1)); clear hO hg)
      | (refine step_appQ2 _ rfl _ _ rfl rfl (w.heap.size + 1) _ [] rfl HM2.out a n c l rfl HL.out (HQ2.out.belowB HBm2.out (by omega)).rd (by simp; omega) (by omega) ?_; intro v1 w4 hO hg; rw [List.nil_append] at hO; obtain ⟨x1, y1, rfl⟩ := hO.form; have HO1 := Lib.hid hO; have HF2 := Lib.hid (HFb.out.grown hg (HM2.out.ne_one HFb.out (by decide))); have HBc := Lib.hid (HBm2.out.grown hg (by omega) (fun r e => (HM2.out.lt r e).1)); clear hO hg))
    all_goals
      have hl1 : (l ++ [((vn, vv), vb)]).length = n + 1 := by rw [List.length_append, HL.out]; rfl
      rw [hl1] at HO2
      go_wp2
      go_meet
      exact ⟨va, vc, by rw [HL.out], HO2, HB6⟩
  case rest =>
    obtain ⟨va, vc, rfl, HO2, HB6⟩ := hcut
    have hz6 := HB6.out.size
    obtain ⟨am, cm, hv, hcapm, hrm⟩ := HO2.out.rdB
    have hlm : (l ++ [((vn, vv), vb)]).length = n + 1 := by rw [List.length_append, HL.out]; rfl
    rw [hlm] at hv hcapm
    cases hv
    have HLm := Lib.hid hlm
    have HRm := Lib.hid hrm
    have HSm : Hid (QSz 1048576 (l ++ [((vn, vv), vb)])) := fun x hx => by
      rw [List.mem_append] at hx
      rcases hx with hx | hx
      · exact HS.out x hx
      · have : x = ((vn, vv), vb) := by simpa using hx
        subst this
        exact ⟨zn, zv⟩
    have HR1 : Hid (D.okR l = true → D.okR (l ++ [((vn, vv), vb)]) = D.plainH ((vn, vv), vb) ∨ D.colonN vn = true ∧ l.length ≤ 4) := fun h => D.moreR l ((vn, vv), vb) h
    have HA1 : Hid (D.okA l = true → D.okA (l ++ [((vn, vv), vb)]) = D.plainH ((vn, vv), vb)) := fun h => D.moreA l _ h
    have HT1 : Hid (D.okT l = true → D.okT (l ++ [((vn, vv), vb)]) = D.plainH ((vn, vv), vb)) := fun h => D.moreT l _ h
    have hwc : w.heap.size + 1 ≤ wc.heap.size := by omega
    have COm : Hid (∀ ww, Below wc.heap.size wc ww → Calls Tryd.prog 11 #[.slice va (n + 1) vc] ww fun e w' => ∃ m s a q va n vc, e = .returned (.tuple #[.agg #[.string m, .string s, .string a, .string q, .slice va n vc], ehV p (D.okR (l ++ [((vn, vv), vb)]))]) ∧ Below ww.heap.size ww w') := fun ww h => (Open_any va (n + 1) vc (l ++ [((vn, vv), vb)]) p ww HLm.out (by omega) hcapm (HRm.out.belowB h (Nat.le_refl _)) h.size HSm.out ((HE2.out.belowB HB6.out hgE0).below h)).mono fun e w' ho => ho.form
    have CAm : Hid (∀ ww, Below wc.heap.size wc ww → Calls Tryd.prog 13 #[.slice va (n + 1) vc] ww fun e w' => ∃ (k : Nat) (va : Option Addr) (n vc : Nat), e = .returned (.tuple #[.agg #[.int .i64 (k : Nat), .slice va n vc], ehV p (D.okA (l ++ [((vn, vv), vb)]))]) ∧ Below ww.heap.size ww w') := fun ww h => (OpenAnswer_any va (n + 1) vc (l ++ [((vn, vv), vb)]) p ww HLm.out (by omega) hcapm (HRm.out.belowB h (Nat.le_refl _)) h.size HSm.out ((HE2.out.belowB HB6.out hgE0).below h)).mono fun e w' ho => ho.form
    have CTm : Hid (∀ ww, Below wc.heap.size wc ww → Calls Tryd.prog 15 #[.slice va (n + 1) vc] ww fun e w' => e = .returned (ehV p (D.okT (l ++ [((vn, vv), vb)]))) ∧ Below ww.heap.size ww w') := fun ww h => Trailers_any va (n + 1) vc (l ++ [((vn, vv), vb)]) p ww HLm.out (by omega) (HRm.out.belowB h (Nat.le_refl _)) h.size HSm.out ((HE2.out.belowB HB6.out hgE0).below h)
    have CTh : Hid (Calls Tryd.prog 15 #[.slice (some ⟨wc.heap.size, 0, none⟩) 1 1] (wc.alloc (.cells #[.string vn, .string vv, .bool vb] 54)) fun e w' => e = .returned (ehV p (D.plainH ((vn, vv), vb))) ∧ Below (wc.alloc (.cells #[.string vn, .string vv, .bool vb] 54)).heap.size (wc.alloc (.cells #[.string vn, .string vv, .bool vb] 54)) w') := by
      have h := Trailers_any (some ⟨wc.heap.size, 0, none⟩) 1 1 [((vn, vv), vb)] p (wc.alloc (.cells #[.string vn, .string vv, .bool vb] 54)) rfl (by decide) (QRdB.blk (heap_alloc_new wc _)) (by simp) (fun x hx => by have : x = ((vn, vv), vb) := (by simpa using hx); subst this; exact ⟨zn, zv⟩) ((HE2.out.belowB HB6.out hgE0).below ((Below.refl _ _).alloc (Nat.le_refl _) _))
      have e1 : [((vn, vv), vb)].all D.plainH = D.plainH ((vn, vv), vb) := by simp
      rw [e1] at h
      exact h
    have hbw : ∀ ww, Below wc.heap.size wc ww → Below (w.heap.size + 1) w2 ww := fun ww h => HB6.out.trans (h.mono hwc)
    have HBW := Lib.hid hbw
    have hll : l.length = n := HL.out
    rw [hll] at HR1
    clear hbw hll hrm HRm HLm HSm hlm
    generalize D.okR l = bl at *
    generalize D.okA l = al at *
    generalize D.okT l = tl at *
    generalize D.okR (l ++ [((vn, vv), vb)]) = bm at *
    generalize D.okA (l ++ [((vn, vv), vb)]) = am2 at *
    generalize D.okT (l ++ [((vn, vv), vb)]) = tm at *
    generalize D.plainH ((vn, vv), vb) = ph at *
    obtain ⟨c0, c1, c2⟩ := hS.out _ HB6.out
    have hqe := run_eqN p
    have hqn := run_neN p
    have hgd := run_gdN p
    go_wp2_with fail
    refine CTh.out.mono ?_
    rintro e w7 ⟨rfl, hb⟩
    have HB7 : Hid (Below wc.heap.size wc w7) := ((Below.refl _ _).alloc (Nat.le_refl _) _).trans (hb.mono (by simp))
    clear hb c0 c1 c2
    have hz7 := HB7.out.size
    go_wp2_with fail
    refine (COl.out _ (HBW.out _ HB7.out) (by omega)).mono ?_
    rintro e w8 ⟨m8, s8, a8, q8, x8, n8, y8, rfl, hb⟩
    have HB8 : Hid (Below wc.heap.size wc (w8.alloc (.cells #[.string m8, .string s8, .string a8, .string q8, .slice x8 n8 y8] 27))) := (HB7.out.trans (hb.mono hz7)).alloc (by have := hb.size; omega) _
    clear hb
    have hz8 := HB8.out.size
    go_wp2_with fail
    refine (COm.out _ HB8.out).mono ?_
    rintro e w9 ⟨m9, s9, a9, q9, x9, n9, y9, rfl, hb⟩
    have HB9 : Hid (Below wc.heap.size wc (w9.alloc (.cells #[.string m9, .string s9, .string a9, .string q9, .slice x9 n9 y9] 27))) := (HB8.out.trans (hb.mono hz8)).alloc (by have := hb.size; omega) _
    clear hb
    have hz9 := HB9.out.size
    go_wp2_with fail
    refine (CAl.out _ (HBW.out _ HB9.out) (by omega)).mono ?_
    rintro e w10 ⟨k10, x10, n10, y10, rfl, hb⟩
    have HB10 : Hid (Below wc.heap.size wc (w10.alloc (.cells #[.int .i64 (k10 : Nat), .slice x10 n10 y10] 36))) := (HB9.out.trans (hb.mono hz9)).alloc (by have := hb.size; omega) _
    clear hb
    have hz10 := HB10.out.size
    go_wp2_with fail
    refine (CAm.out _ HB10.out).mono ?_
    rintro e w11 ⟨k11, x11, n11, y11, rfl, hb⟩
    have HB11 : Hid (Below wc.heap.size wc (w11.alloc (.cells #[.int .i64 (k11 : Nat), .slice x11 n11 y11] 36))) := (HB10.out.trans (hb.mono hz10)).alloc (by have := hb.size; omega) _
    clear hb
    have hz11 := HB11.out.size
    go_wp2_with fail
    refine (CTl.out _ (HBW.out _ HB11.out) (by omega)).mono ?_
    rintro e w12 ⟨rfl, hb⟩
    have HB12 := Lib.hid (HB11.out.trans (hb.mono hz11))
    clear hb
    have hz12 := HB12.out.size
    go_wp2_with fail
    refine (CTm.out _ HB12.out).mono ?_
    rintro e w13 ⟨rfl, hb⟩
    have HB13 := Lib.hid (HB12.out.trans (hb.mono hz12))
    clear hb
    obtain ⟨c0, c1, c2⟩ := hS.out _ (HBW.out _ HB13.out)
    have HEnd : Hid (Below w.heap.size w w13) := HB2.out.trans ((HBW.out _ HB13.out).mono (by omega))
    clear HB6 HB7 HB8 HB9 HB10 HB11 HB12 HB13 HBW COl COm CAl CAm CTl CTm CTh
    go_upto_region 12 with (fail)
    go_cut [18] from 78 to 87 (fun v wx => v = .bool (D.colonN vn) ∧ w13 = wx)
    case first =>
      by_cases h0 : vn.size = 0
      · have hc : D.colonN vn = false := colon_empty h0
        have q3 : ¬ (0 : Int) < (vn.size : Int) := by omega
        clear h0
        go_wp2
        go_meet
        exact ⟨by rw [hc], rfl⟩
      · have h1 : 0 < vn.size := by omega
        obtain ⟨x, hx⟩ : ∃ x : UInt8, vn[0]'h1 = x := ⟨_, rfl⟩
        have hc : D.colonN vn = ((x.toNat : Int) == 58) := by rw [colon_at h1, hx]; exact u8_58 x
        have q3 : (0 : Int) < (vn.size : Int) := by omega
        go_wp2
        go_meet
        exact ⟨by rw [hc], rfl⟩
    case rest =>
      obtain ⟨rfl, rfl⟩ := hcut
      generalize D.colonN vn = cb at *
      go_upto_region 13 with (fail)
      go_cut [19] from 88 to 103 (fun v wx => v = .bool true ∧ w13 = wx)
      case first =>
        cases bl
        · go_wp2
          go_meet
          exact ⟨rfl, rfl⟩
        · rcases HR1.out rfl with h | ⟨h, h4⟩
          · subst h
            cases bm
            all_goals
              go_wp2
              go_meet
              exact ⟨rfl, rfl⟩
          · subst h
            have q4 : (n : Int) ≤ 4 := by omega
            cases bm <;> cases ph
            all_goals
              go_wp2
              go_meet
              exact ⟨rfl, rfl⟩
      case rest =>
        obtain ⟨rfl, rfl⟩ := hcut
        have hA2 : al = false ∨ al = true ∧ am2 = ph := by
          cases al
          · exact .inl rfl
          · exact .inr ⟨rfl, HA1.out rfl⟩
        have hT2 : tl = false ∨ tl = true ∧ tm = ph := by
          cases tl
          · exact .inl rfl
          · exact .inr ⟨rfl, HT1.out rfl⟩
        rcases hA2 with rfl | ⟨rfl, rfl⟩
        · rcases hT2 with rfl | ⟨rfl, rfl⟩
          · go_wp2
            go_ret
            exact ⟨rfl, HEnd.out⟩
          · cases tm
            all_goals
              go_wp2
              go_ret
              exact ⟨rfl, HEnd.out⟩
        · rcases hT2 with rfl | ⟨rfl, rfl⟩
          · cases am2
            all_goals
              go_wp2
              go_ret
              exact ⟨rfl, HEnd.out⟩
          · cases tm
            all_goals
              go_wp2
              go_ret
              exact ⟨rfl, HEnd.out⟩
end Go.Proofs.YtihlcecincijgaaDoor
