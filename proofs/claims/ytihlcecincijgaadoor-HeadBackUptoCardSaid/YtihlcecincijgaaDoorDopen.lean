/-
The walks of head.Open and OpenAnswer.
-/
import Derived.Test.YtihlcecincijgaaDoorDrules
import Derived.Test.YtihlcecincijgaaDoorDspec
namespace Go.Proofs.YtihlcecincijgaaDoor
open Go.RowKit

theorem auth_tab : ∀ b0 b1 b2 b3 : Bool, leftR (D.remB b0 b1 b2 b3) ((D.remB b0 b1 b2 b3).findIdx? (fun k => decide (D.qkey k = D.kAuthority))) = (D.remB b0 b1 b2 b3).erase 2 := by decide
theorem follow_rem {l : List D.HB} {r : List Nat × D.Rq × List D.HB} (h : D.follow D.RQ [0, 1, 2, 3] D.rq0 l = some r) : ∃ b0 b1 b2 b3, r.1 = D.remB b0 b1 b2 b3 := by
  unfold D.follow at h
  have e := D.foll_P l [] (by rfl)
  rw [show D.remP [] = [0, 1, 2, 3] from rfl, show D.rqP [] = D.rq0 from rfl] at e
  rw [e] at h
  by_cases hg : D.good ([] ++ l.takeWhile D.colon) = true
  · rw [if_pos hg] at h
    simp only at h
    split at h
    · cases h
      exact ⟨_, _, _, _, rfl⟩
    · cases h
  · rw [if_neg hg] at h
    cases h

theorem alloc_at2 {w : World} {k : Nat} (o : Obj) (h : w.heap.size = k) : (w.alloc o).heap[k]? = some o := by
  subst h
  exact heap_alloc_new w o
theorem QOwn.ne_map {γ : Type} {F : FK γ} {K : Nat} {w : World} {v : Value} {l : List (B.HD × Bool)} {m : Nat} {rem : List Nat} (h : QOwn K w v l) (hm : F.map w m rem) : v.ownBlock ≠ some m := by
  obtain ⟨c, hm⟩ := hm
  rcases h.2 with ⟨rfl, _⟩ | ⟨g, cap, cur, rfl, _, hg, _⟩
  · simp [Value.ownBlock]
  · intro e
    simp [Value.ownBlock] at e
    subst e
    rw [hg] at hm
    cases hm
theorem QOwn.ne_cells {T : TypeId} {K : Nat} {w : World} {v : Value} {l : List (B.HD × Bool)} {b : Nat} {c : Array Value} (h : QOwn K w v l) (hm : BA T w b c) (hT : T ≠ 54) : v.ownBlock ≠ some b := by
  rcases h.2 with ⟨rfl, _⟩ | ⟨g, cap, cur, rfl, _, hg, _⟩
  · simp [Value.ownBlock]
  · intro e
    simp [Value.ownBlock] at e
    subst e
    have hm' : w.heap[g]? = some (.cells c T (0, 0)) := hm
    rw [hg] at hm'
    cases hm'
    exact hT rfl
theorem QOwn.set {T : TypeId} {K : Nat} {w : World} {v : Value} {l : List (B.HD × Bool)} {b : Nat} {c : Array Value} (h : QOwn K w v l) (hm : BA T w b c) (hT : T ≠ 54) (i : Nat) (x : Value) : QOwn K (w.setCell ⟨b, i, none⟩ x) v l :=
  h.kept (set_grownC w b i x) (.inr (h.ne_cells hm hT))
theorem QOwn.set5 {T : TypeId} {K : Nat} {w : World} {v : Value} {l : List (B.HD × Bool)} {b : Nat} {c : Array Value} (h : QOwn K w v l) (hm : BA T w b c) (hT : T ≠ 54) (x0 x1 x2 x3 x4 : Value) :
    QOwn K (((((w.setCell ⟨b, 0, none⟩ x0).setCell ⟨b, 1, none⟩ x1).setCell ⟨b, 2, none⟩ x2).setCell ⟨b, 3, none⟩ x3).setCell ⟨b, 4, none⟩ x4) v l :=
  ((((h.set hm hT 0 x0).set (hm.set 0 x0) hT 1 x1).set ((hm.set 0 x0).set 1 x1) hT 2 x2).set (((hm.set 0 x0).set 1 x1).set 2 x2) hT 3 x3).set ((((hm.set 0 x0).set 1 x1).set 2 x2).set 3 x3) hT 4 x4
/-- A request, or the error. -/
def OpenOut (p : Addr) (o : Option (D.Rq × List (B.HD × Bool))) (w : World) (e : Ending) (w' : World) : Prop :=
  ∃ v, e = .returned (.tuple #[.agg (rqC ((o.map (·.1)).getD D.rq0) v), ehV p o.isSome]) ∧ QOwn w.heap.size w' v ((o.map (·.2)).getD []) ∧ Below w.heap.size w w'

set_option maxRecDepth 100000 in
set_option maxHeartbeats 4000000 in
theorem Open_any {K0 : Nat} (a : Option Addr) (n c : Nat) (l : List (B.HD × Bool)) (p : Addr) (w : World) (hl : l.length = n) (hn : n ≤ 1048576) (hcap : n ≤ c) (hr : QRdB K0 w a l) (hK0 : K0 ≤ w.heap.size) (hs : QSz 1048576 l) (hE : EH w p) :
    Calls Tryd.prog 11 #[.slice a n c] w (OpenOut p (D.opn l) w) := by
  have hgE := World.block_lt_of_cell? _ _ hE
  simp only at hgE
  obtain ⟨w0, hw0⟩ : ∃ w0, w0 = (w.alloc (.cells #[.string ⟨#[]⟩, .string ⟨#[]⟩, .string ⟨#[]⟩, .string ⟨#[]⟩, .slice none 0 0] 27)).alloc (.cells #[.string ⟨#[]⟩, .string ⟨#[]⟩, .string ⟨#[]⟩, .string ⟨#[]⟩, .slice none 0 0] 27) := ⟨_, rfl⟩
  have hb0 : Below w.heap.size w w0 := by rw [hw0]; exact ((Below.refl _ _).alloc (Nat.le_refl _) _).alloc (by simp) _
  have hT : BA 27 w0 (w.heap.size + 1) (rqC D.rq0 (.slice none 0 0)) := by
    rw [hw0]
    exact alloc_at2 _ (by simp)
  have hR : BA 27 w0 w.heap.size (rqC D.rq0 (.slice none 0 0)) := by
    rw [hw0]
    show _ = _
    rw [heap_alloc_old _ _ (by simp)]
    exact heap_alloc_new w _
  have HW0 := Lib.hid hw0
  have HB0 := Lib.hid hb0
  have HT := Lib.hid hT
  have HR0 := Lib.hid hR
  have HE0 := Lib.hid (hE.below hb0)
  have HQ0 := Lib.hid (hr.belowB hb0 hK0)
  have HL := Lib.hid hl
  have HS := Lib.hid hs
  have hz0 : w.heap.size + 2 ≤ w0.heap.size := by rw [hw0]; simp
  clear hw0 hb0 hT hR hE hr hl hs
  go_enter Tryd.func11, Tryd.ntmps11
  go_wp2_with fail
  rw [← HW0.out]
  refine (ofRequest_any _ _ HT.out).mono ?_
  rintro e w1 ⟨bx, m, rfl, hbx, hm, hmb, hA1, hM1, hb1⟩
  have hFok := FQ_ok (w.heap.size + 1) bx (w.heap.size + 1) (by omega) (Nat.le_refl _)
  have hz1 := hb1.size
  have HFol := Lib.hid (follow_any (FQ bx (w.heap.size + 1)) hFok m [0, 1, 2, 3] D.rq0 a n c l p w1 HL.out hn hcap (HQ0.out.belowB hb1 (by omega)) (by omega) (by omega) HS.out (HE0.out.below hb1) (by omega) hmb (show m ≠ w.heap.size + 1 by omega) (by omega) hM1 hA1)
  have HB1 := Lib.hid (HB0.out.trans (hb1.mono (by omega)))
  have HR1 := Lib.hid (HR0.out.below hb1)
  have HE1 := Lib.hid (HE0.out.below hb1)
  clear hb1 hA1 hM1 hFok
  go_wp2_with fail
  refine HFol.out.mono ?_
  rintro e w2 ⟨v, rfl, hb2, ⟨rem2, hm2⟩, hr2⟩
  have HB2 := Lib.hid (HB1.out.trans (hb2.mono (by omega)))
  have HR2 := Lib.hid (HR1.out.belowB hb2 (by omega))
  have HE2 := Lib.hid (HE1.out.belowB hb2 (by omega))
  clear hb2 HFol
  cases hfo : D.follow D.RQ [0, 1, 2, 3] D.rq0 l with
  | none =>
    have HO : Hid (D.opn l = none) := by show _ = _; unfold D.opn; rw [hfo]
    rw [show (FQ bx (w.heap.size + 1)).R = D.RQ from rfl, hfo]
    obtain ⟨w3, hdel, hm3, hg3⟩ := hm2.del (n := D.kAuthority) rfl
    have HB3 := Lib.hid (HB2.out.grown hg3 (by have := HB2.out.size; omega) (fun r e => by cases e; omega))
    have HR3 := Lib.hid (HR2.out.grown hg3 (by omega))
    have hE3 : EH w3 p := hg3.cell HE2.out (by intro e; simp at e; omega)
    unfold EH at hE3
    have hdel2 : (Builtin.delete_ #[69, 9] 0 #[.map (some m), .string ⟨#[58, 97, 117, 116, 104, 111, 114, 105, 116, 121]⟩]).run Tryd.prog w2 = .ok (.tuple #[]) w3 := hdel
    clear hdel hm3 hg3 hm2 hr2 hfo
    unfold ehV
    simp only [Option.isSome_none, Bool.false_eq_true, if_false]
    have c0 := HR3.out.cell (i := 0) (v := .string ⟨#[]⟩) rfl
    have c1 := HR3.out.cell (i := 1) (v := .string ⟨#[]⟩) rfl
    have c2 := HR3.out.cell (i := 2) (v := .string ⟨#[]⟩) rfl
    have c3 := HR3.out.cell (i := 3) (v := .string ⟨#[]⟩) rfl
    have c4 := HR3.out.cell (i := 4) (v := .slice none 0 0) rfl
    have f0 := HR3.out.frozen 0
    have f1 := HR3.out.frozen 1
    have f2 := HR3.out.frozen 2
    have f3 := HR3.out.frozen 3
    have f4 := HR3.out.frozen 4
    have hdr : ∀ q, Below w3.heap.size w3 (w3.drewN q) := fun q => below_q (Below.refl _ _) q
    go_wp2_with fail
    go_region
    all_goals
      go_wp2
      refine bodyPost_ret (v := .tuple #[.agg #[.string ⟨#[]⟩, .string ⟨#[]⟩, .string ⟨#[]⟩, .string ⟨#[]⟩, .slice none 0 0], .iface 146 (.pointer (some p))]) (by simp [results, Tryd.results11, go_sem, c0, c1, c2, c3, c4]) rfl ?_
      rw [HO.out]
      exact ⟨.slice none 0 0, rfl, QOwn.nil _ _, HB3.out.trans (Below.drew ((((((Below.refl w.heap.size w3).setCell (Nat.le_refl _) _).setCell (Nat.le_refl _) _).setCell (Nat.le_refl _) _).setCell (Nat.le_refl _) _).setCell (Nat.le_refl _) _))⟩
  | some r =>
    obtain ⟨b0, b1, b2, b3, hrem⟩ := follow_rem hfo
    obtain ⟨r1, g, t⟩ := r
    simp only at hrem
    rw [show (FQ bx (w.heap.size + 1)).R = D.RQ from rfl, hfo]
    obtain ⟨hm2', hA2, hO2⟩ := hr2 _ hfo
    simp only at hm2' hA2 hO2
    obtain ⟨w3, hdel, hm3, hg3⟩ := hm2'.del (n := D.kAuthority) rfl
    have he := auth_tab b0 b1 b2 b3
    rw [← hrem] at he
    have hm3 : (FQ bx (w.heap.size + 1)).map w3 m (r1.erase 2) := by rw [← he]; exact hm3
    have HB3 := Lib.hid (HB2.out.grown hg3 (by have := HB2.out.size; omega) (fun r e => by cases e; omega))
    have HR3 := Lib.hid (HR2.out.grown hg3 (by omega))
    have HE3 : Hid (EH w3 p) := hg3.cell HE2.out (by intro e; simp at e; omega)
    have hdel2 : (Builtin.delete_ #[69, 9] 0 #[.map (some m), .string ⟨#[58, 97, 117, 116, 104, 111, 114, 105, 116, 121]⟩]).run Tryd.prog w2 = .ok (.tuple #[]) w3 := hdel
    have HT3 : Hid (BA 27 w3 (w.heap.size + 1) (rqC g (.slice none 0 0))) := hA2.2.2.grown hg3 (by omega)
    have HO3 : Hid (QOwn (w.heap.size + 1) w3 v t) := hO2.kept hg3 (.inr (hO2.ne_map hm2'))
    obtain ⟨clk, hm3'⟩ := hm3
    have hlen : (Builtin.len_ #[69] 3 #[.map (some m)]).run Tryd.prog w3 = .ok (.int .i64 ((r1.erase 2).length : Nat)) w3 := by
      have := sRun_len (P := Tryd.prog) w3 69 _ _ 3 #[69] rfl m clk _ u_rules hm3'
      rw [this]
      simp [FK.ents]
    have HOpn : Hid (D.opn l = if (r1.erase 2).isEmpty then some (g, t) else none) := by show _ = _; unfold D.opn; rw [hfo]
    have HLen : Hid ((r1.erase 2).isEmpty = decide ((r1.erase 2).length = 0)) := by
      show _ = _
      cases r1.erase 2 <;> simp
    clear hdel hm3' hg3 hm2 hm2' hA2 hO2 hr2 hfo he hrem
    generalize (r1.erase 2).length = ln at *
    unfold ehV
    simp only [Option.isSome_some, if_true]
    have c0 := HR3.out.cell (i := 0) (v := .string ⟨#[]⟩) rfl
    have c1 := HR3.out.cell (i := 1) (v := .string ⟨#[]⟩) rfl
    have c2 := HR3.out.cell (i := 2) (v := .string ⟨#[]⟩) rfl
    have c3 := HR3.out.cell (i := 3) (v := .string ⟨#[]⟩) rfl
    have c4 := HR3.out.cell (i := 4) (v := .slice none 0 0) rfl
    have f0 := HR3.out.frozen 0
    have f1 := HR3.out.frozen 1
    have f2 := HR3.out.frozen 2
    have f3 := HR3.out.frozen 3
    have f4 := HR3.out.frozen 4
    by_cases hln : ln = 0
    · subst hln
      have HO2 : Hid (D.opn l = some (g, t)) := by show _ = _; rw [HOpn.out, HLen.out]; rfl
      obtain ⟨va, vc, hv⟩ := HO3.out.form
      subst hv
      have t0 := HT3.out.cell (i := 0) (v := .string g.m) rfl
      have t1 := HT3.out.cell (i := 1) (v := .string g.s) rfl
      have t2 := HT3.out.cell (i := 2) (v := .string g.a) rfl
      have t3 := HT3.out.cell (i := 3) (v := .string g.p) rfl
      have t4 := HT3.out.cell (i := 4) (v := .slice none 0 0) rfl
      have g4 := HT3.out.frozen 4
      have HO4 := Lib.hid (HO3.out.set HT3.out (by decide) 4 (.slice va t.length vc))
      have HB4 : Hid (Below w.heap.size w (w3.setCell ⟨w.heap.size + 1, 4, none⟩ (.slice va t.length vc))) := HB3.out.setCell (by simp) _
      have HR4 := Lib.hid (HR3.out.grown (set_grownC w3 (w.heap.size + 1) 4 (.slice va t.length vc)) (by omega))
      go_wp2
      refine bodyPost_ret (v := .tuple #[.agg #[.string g.m, .string g.s, .string g.a, .string g.p, .slice va t.length vc], .nilIface]) (by simp [results, Tryd.results11, go_sem, c0, c1, c2, c3, c4]) rfl ?_
      rw [HO2.out]
      exact ⟨.slice va t.length vc, rfl, QOwn.mono (HO4.out.set5 HR4.out (by decide) _ _ _ _ _) (by omega), (((((HB4.out.setCell (Nat.le_refl _) _).setCell (Nat.le_refl _) _).setCell (Nat.le_refl _) _).setCell (Nat.le_refl _) _).setCell (Nat.le_refl _) _)⟩
    · have HO2 : Hid (D.opn l = none) := by show _ = _; rw [HOpn.out, HLen.out, decide_eq_false hln]; rfl
      have q1 : (0 : Int) < (ln : Int) := by omega
      have hE3 := HE3.out
      unfold EH at hE3
      go_wp2_with fail
      go_region
      all_goals
        go_wp2
        refine bodyPost_ret (v := .tuple #[.agg #[.string ⟨#[]⟩, .string ⟨#[]⟩, .string ⟨#[]⟩, .string ⟨#[]⟩, .slice none 0 0], .iface 146 (.pointer (some p))]) (by simp [results, Tryd.results11, go_sem, c0, c1, c2, c3, c4]) rfl ?_
        rw [HO2.out]
        exact ⟨.slice none 0 0, rfl, QOwn.nil _ _, HB3.out.trans (Below.drew ((((((Below.refl w.heap.size w3).setCell (Nat.le_refl _) _).setCell (Nat.le_refl _) _).setCell (Nat.le_refl _) _).setCell (Nat.le_refl _) _).setCell (Nat.le_refl _) _))⟩
theorem QOwn.set2 {T : TypeId} {K : Nat} {w : World} {v : Value} {l : List (B.HD × Bool)} {b : Nat} {c : Array Value} (h : QOwn K w v l) (hm : BA T w b c) (hT : T ≠ 54) (x0 x1 : Value) :
    QOwn K ((w.setCell ⟨b, 0, none⟩ x0).setCell ⟨b, 1, none⟩ x1) v l := (h.set hm hT 0 x0).set (hm.set 0 x0) hT 1 x1
/-- An answer, or the error. -/
def OpenAOut (p : Addr) (o : Option (Nat × List (B.HD × Bool))) (w : World) (e : Ending) (w' : World) : Prop :=
  ∃ v, e = .returned (.tuple #[.agg #[.int .i64 ((o.map (·.1)).getD 0 : Nat), v], ehV p o.isSome]) ∧ QOwn w.heap.size w' v ((o.map (·.2)).getD []) ∧ Below w.heap.size w w'

set_option maxRecDepth 100000 in
set_option maxHeartbeats 4000000 in
theorem OpenAnswer_any {K0 : Nat} (a : Option Addr) (n c : Nat) (l : List (B.HD × Bool)) (p : Addr) (w : World) (hl : l.length = n) (hn : n ≤ 1048576) (hcap : n ≤ c) (hr : QRdB K0 w a l) (hK0 : K0 ≤ w.heap.size) (hs : QSz 1048576 l) (hE : EH w p) :
    Calls Tryd.prog 13 #[.slice a n c] w (OpenAOut p (D.opnA l) w) := by
  have hgE := World.block_lt_of_cell? _ _ hE
  simp only at hgE
  obtain ⟨w0, hw0⟩ : ∃ w0, w0 = (w.alloc (.cells #[.int .i64 0, .slice none 0 0] 36)).alloc (.cells #[.int .i64 0, .slice none 0 0] 36) := ⟨_, rfl⟩
  have hb0 : Below w.heap.size w w0 := by rw [hw0]; exact ((Below.refl _ _).alloc (Nat.le_refl _) _).alloc (by simp) _
  have hT : BA 36 w0 (w.heap.size + 1) #[.int .i64 0, .slice none 0 0] := by
    rw [hw0]
    exact alloc_at2 _ (by simp)
  have hR : BA 36 w0 w.heap.size #[.int .i64 0, .slice none 0 0] := by
    rw [hw0]
    show _ = _
    rw [heap_alloc_old _ _ (by simp)]
    exact heap_alloc_new w _
  have HW0 := Lib.hid hw0
  have HB0 := Lib.hid hb0
  have HT := Lib.hid hT
  have HR0 := Lib.hid hR
  have HE0 := Lib.hid (hE.below hb0)
  have HQ0 := Lib.hid (hr.belowB hb0 hK0)
  have HL := Lib.hid hl
  have HS := Lib.hid hs
  have hz0 : w.heap.size + 2 ≤ w0.heap.size := by rw [hw0]; simp
  clear hw0 hb0 hT hR hE hr hl hs
  go_enter Tryd.func13, Tryd.ntmps13
  go_wp2_with fail
  rw [← HW0.out]
  refine (ofAnswer_any _ _ HT.out).mono ?_
  rintro e w1 ⟨bx, m, rfl, hbx, hm, hmb, hA1, hM1, hb1⟩
  have hFok := FA_ok (w.heap.size + 1) bx (w.heap.size + 1) (by omega) (Nat.le_refl _)
  have hz1 := hb1.size
  have HFol := Lib.hid (follow_any (FA bx (w.heap.size + 1)) hFok m [0] 0 a n c l p w1 HL.out hn hcap (HQ0.out.belowB hb1 (by omega)) (by omega) (by omega) HS.out (HE0.out.below hb1) (by omega) hmb (show m ≠ w.heap.size + 1 by omega) (by omega) hM1 hA1)
  have HB1 := Lib.hid (HB0.out.trans (hb1.mono (by omega)))
  have HR1 := Lib.hid (HR0.out.below hb1)
  have HE1 := Lib.hid (HE0.out.below hb1)
  clear hb1 hA1 hM1 hFok
  go_wp2_with fail
  refine HFol.out.mono ?_
  rintro e w2 ⟨v, rfl, hb2, ⟨rem2, hm2⟩, hr2⟩
  have HB2 := Lib.hid (HB1.out.trans (hb2.mono (by omega)))
  have HR2 := Lib.hid (HR1.out.belowB hb2 (by omega))
  have hE2 : EH w2 p := HE1.out.belowB hb2 (by omega)
  unfold EH at hE2
  have c0 := HR2.out.cell (i := 0) (v := .int .i64 0) rfl
  have c1 := HR2.out.cell (i := 1) (v := .slice none 0 0) rfl
  have f0 := HR2.out.frozen 0
  have f1 := HR2.out.frozen 1
  clear hb2 HFol
  cases hfo : D.follow D.RA [0] 0 l with
  | none =>
    have HO : Hid (D.opnA l = none) := by show _ = _; unfold D.opnA; rw [hfo]
    rw [show (FA bx (w.heap.size + 1)).R = D.RA from rfl, hfo]
    clear hm2 hr2 hfo
    unfold ehV
    simp only [Option.isSome_none, Bool.false_eq_true, if_false]
    go_wp2_with fail
    go_region
    all_goals
      go_wp2
      refine bodyPost_ret (v := .tuple #[.agg #[.int .i64 0, .slice none 0 0], .iface 146 (.pointer (some p))]) (by simp [results, Tryd.results13, go_sem, c0, c1]) rfl ?_
      rw [HO.out]
      exact ⟨.slice none 0 0, rfl, QOwn.nil _ _, HB2.out.trans (Below.drew (((Below.refl w.heap.size w2).setCell (Nat.le_refl _) _).setCell (Nat.le_refl _) _))⟩
  | some r =>
    obtain ⟨r1, g, t⟩ := r
    rw [show (FA bx (w.heap.size + 1)).R = D.RA from rfl, hfo]
    obtain ⟨hm2', hA2, hO2⟩ := hr2 _ hfo
    simp only at hm2' hA2 hO2
    have HT2 : Hid (BA 36 w2 (w.heap.size + 1) #[.int .i64 (g : Nat), .slice none 0 0]) := hA2.2.2
    have HO2 : Hid (QOwn (w.heap.size + 1) w2 v t) := hO2
    obtain ⟨clk, hm2''⟩ := hm2'
    have hlen : (Builtin.len_ #[69] 3 #[.map (some m)]).run Tryd.prog w2 = .ok (.int .i64 (r1.length : Nat)) w2 := by
      have := sRun_len (P := Tryd.prog) w2 69 _ _ 3 #[69] rfl m clk _ u_rules hm2''
      rw [this]
      simp [FK.ents]
    have HOpn : Hid (D.opnA l = if r1.isEmpty then some (g, t) else none) := by show _ = _; unfold D.opnA; rw [hfo]
    have HLen : Hid (r1.isEmpty = decide (r1.length = 0)) := by
      show _ = _
      cases r1 <;> simp
    clear hm2 hm2'' hA2 hO2 hr2 hfo
    generalize r1.length = ln at *
    unfold ehV
    simp only [Option.isSome_some, if_true]
    by_cases hln : ln = 0
    · subst hln
      have HO3 : Hid (D.opnA l = some (g, t)) := by show _ = _; rw [HOpn.out, HLen.out]; rfl
      obtain ⟨va, vc, hv⟩ := HO2.out.form
      subst hv
      have t0 := HT2.out.cell (i := 0) (v := .int .i64 (g : Nat)) rfl
      have t1 := HT2.out.cell (i := 1) (v := .slice none 0 0) rfl
      have g1 := HT2.out.frozen 1
      have HO4 := Lib.hid (HO2.out.set HT2.out (by decide) 1 (.slice va t.length vc))
      have HB4 : Hid (Below w.heap.size w (w2.setCell ⟨w.heap.size + 1, 1, none⟩ (.slice va t.length vc))) := HB2.out.setCell (by simp) _
      have HR4 := Lib.hid (HR2.out.grown (set_grownC w2 (w.heap.size + 1) 1 (.slice va t.length vc)) (by omega))
      go_wp2
      refine bodyPost_ret (v := .tuple #[.agg #[.int .i64 (g : Nat), .slice va t.length vc], .nilIface]) (by simp [results, Tryd.results13, go_sem, c0, c1]) rfl ?_
      rw [HO3.out]
      exact ⟨.slice va t.length vc, rfl, QOwn.mono (HO4.out.set2 HR4.out (by decide) _ _) (by omega), (HB4.out.setCell (Nat.le_refl _) _).setCell (Nat.le_refl _) _⟩
    · have HO3 : Hid (D.opnA l = none) := by show _ = _; rw [HOpn.out, HLen.out, decide_eq_false hln]; rfl
      have q1 : (0 : Int) < (ln : Int) := by omega
      go_wp2_with fail
      go_region
      all_goals
        go_wp2
        refine bodyPost_ret (v := .tuple #[.agg #[.int .i64 0, .slice none 0 0], .iface 146 (.pointer (some p))]) (by simp [results, Tryd.results13, go_sem, c0, c1]) rfl ?_
        rw [HO3.out]
        exact ⟨.slice none 0 0, rfl, QOwn.nil _ _, HB2.out.trans (Below.drew (((Below.refl w.heap.size w2).setCell (Nat.le_refl _) _).setCell (Nat.le_refl _) _))⟩
end Go.Proofs.YtihlcecincijgaaDoor
