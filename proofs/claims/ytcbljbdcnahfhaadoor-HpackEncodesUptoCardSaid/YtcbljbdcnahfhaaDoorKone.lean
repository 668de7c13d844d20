/-
The walk of the reference's header.
-/
import Derived.Test.YtcbljbdcnahfhaaDoorKenr
import Derived.Test.YtcbljbdcnahfhaaDoorKints
namespace Go.Proofs.YtcbljbdcnahfhaaDoor
open Go.RowKit

/-- A header's bytes, and the table behind it. -/
def OnePost (K gx m : Nat) (r : List Nat × List B.HD) (w : World) (e : Ending) (w' : World) : Prop :=
  ∃ g cp, e = .returned (.slice (some ⟨g, 0, none⟩) r.1.length cp) ∧ OwnN w.heap.size w' (.slice (some ⟨g, 0, none⟩) r.1.length cp) r.1 ∧ Rx w' K gx r.2.reverse m ∧ OnlyB w.heap.size gx w w'
theorem P.putT_ne (s : List Nat) : P.putT s ≠ [] := by
  unfold P.putT
  split
  · exact fun h => P.put_ne _ _ _ (List.append_eq_nil_iff.1 h).1
  · exact fun h => P.put_ne _ _ _ (List.append_eq_nil_iff.1 h).1

set_option maxRecDepth 100000 in
set_option maxHeartbeats 8000000 in
theorem xone_any (K xB gx m : Nat) (L : List B.HD) (n v : ByteArray) (nv : Bool) (asked : Bool) (least last : Nat) (w : World) (hK : K ≤ w.heap.size) (hne : xB ≠ gx) (hE : ExC w xB gx asked least last) (hR : Rx w K gx L.reverse m) (htL : B.tot L ≤ m) (hm : m ≤ 4096) (hn : n.size ≤ 10000000) (hvs : v.size ≤ 10000000) :
    Calls Tryd.prog 54 #[.pointer (some ⟨xB, 0, none⟩), .agg #[.string n, .string v, .bool nv]] w (OnePost K gx m (P.one m L ((n, v), nv)) w) := by
  obtain ⟨i0, hi, hi0, hi1, hi2⟩ := info_parts info5
  have Hi2 := Lib.hid hi2
  clear hi2
  have hLl := B.tot_len L
  have hl128 : L.length ≤ 128 := by omega
  obtain ⟨w0, hw0⟩ : ∃ w0, w0 = w.alloc (.cells #[.string n, .string v, .bool nv] 66) := ⟨_, rfl⟩
  have hb0 : Below w.heap.size w w0 := by rw [hw0]; exact (Below.refl _ _).alloc (Nat.le_refl _) _
  have hx : HBox w0 w.heap.size n v nv := by rw [hw0]; exact HBox.new w n v nv
  have hz0 : w.heap.size + 1 = w0.heap.size := by rw [hw0]; simp
  obtain ⟨K1, hK1⟩ : ∃ K1, K1 = w.heap.size + 1 := ⟨_, rfl⟩
  have hgx := hR.lt
  have hxl := hE.lt
  have HR0 := Lib.hid (hR.below hb0)
  have HE0 := Lib.hid (hE.below hb0).c0
  have HX := Lib.hid hx
  have HB0 := Lib.hid (OnlyB.of_below (g := gx) hb0)
  have hfd := P.fd_bd L (n, v) hl128
  obtain ⟨zi, hzi⟩ : ∃ zi : Nat, (B.fnd n.toList v.toList 0 (B.allL L)).1 = (zi : Int) := ⟨(B.fnd n.toList v.toList 0 (B.allL L)).1.toNat, by simp only at hfd; omega⟩
  have hzi2 : zi ≤ 190 := by simp only at hfd; omega
  obtain ⟨zb, hzb⟩ : ∃ zb, zb = (B.fnd n.toList v.toList 0 (B.allL L)).2 := ⟨_, rfl⟩
  have HFd : Hid (∀ ww, Rx ww K gx L.reverse m → Calls Tryd.prog 78 #[.pointer (some ⟨gx, 0, none⟩), .string n, .string v] ww fun e w' => e = .returned (.tuple #[.int .i64 (zi : Nat), .bool zb]) ∧ Below ww.heap.size ww w') := fun ww h => by
    have := refFind_any K gx m L n v ww h (by omega)
    rw [hzi, ← hzb] at this
    exact this
  have hfdv : P.fd L (n, v) = (zi, zb) := by
    unfold P.fd
    rw [hzb]
    simp only [hzi, Int.toNat_natCast]
  have HOne : Hid (P.one m L ((n, v), nv) = if nv = true then (P.put 16 4 zi ++ ((if zi = 0 then P.putT (by_ n) else []) ++ P.putT (by_ v)), L) else if zb = true then (P.put 128 7 zi, L) else if m < B.sz (n, v) then (P.put 0 4 zi ++ ((if zi = 0 then P.putT (by_ n) else []) ++ P.putT (by_ v)), L) else (P.put 64 6 zi ++ ((if zi = 0 then P.putT (by_ n) else []) ++ P.putT (by_ v)), B.add m L (n, v))) := by
    show _ = _
    unfold P.one
    simp only [hfdv]
    rfl
  have HPn : Hid (∀ w, Calls Tryd.prog 19 #[.string n] w (NewPost (P.putT (by_ n)) w)) := fun w => refPutT_any n w (by omega)
  have HPv : Hid (∀ w, Calls Tryd.prog 19 #[.string v] w (NewPost (P.putT (by_ v)) w)) := fun w => refPutT_any v w (by omega)
  have HNn := Lib.hid (P.putT_ne (by_ n))
  have HNv := Lib.hid (P.putT_ne (by_ v))
  have HLn := Lib.hid (putT_lt (by_ n) (by_lt n) (by rw [by_len]; omega))
  have HLv := Lib.hid (putT_lt (by_ v) (by_lt v) (by rw [by_len]; omega))
  have hln := P.putT_len (by_ n)
  rw [by_len] at hln
  have hlv := P.putT_len (by_ v)
  rw [by_len] at hlv
  have HPI : Hid (∀ (f b : Nat) w, 1 ≤ b → b ≤ 8 → f ≤ 255 → ((f : Nat) : Int) % 2 ^ (b : Int).toNat = 0 → Calls Tryd.prog 14 #[.int .i64 (f : Nat), .int .i64 (b : Nat), .int .i64 (zi : Nat)] w (NewPost (P.put f b zi) w)) := fun f b w h1 h2 h3 h4 => by
    rw [← P.putI_put f b zi h1 h2 (by omega) h3 h4]
    exact refPut_any f b _ w
  clear hfdv hzi hzb hfd hR hE hx hb0
  go_enter Tryd.func54, Tryd.ntmps54
  go_upto_region 1 with (fail)
  rw [← hw0]
  clear hw0
  have hS : Hid (w0.cell? ⟨xB, 0, none⟩ = some (.pointer (some ⟨gx, 0, none⟩)) ∧ w0.cell? ⟨w.heap.size, 0, none⟩ = some (.string n) ∧ w0.cell? ⟨w.heap.size, 1, none⟩ = some (.string v)) := ⟨HE0.out, HX.out.cells.1, HX.out.cells.2.1⟩
  go_region_held3 (fun ww => ww.cell? ⟨xB, 0, none⟩ = some (.pointer (some ⟨gx, 0, none⟩)) ∧ ww.cell? ⟨w.heap.size, 0, none⟩ = some (.string n) ∧ ww.cell? ⟨w.heap.size, 1, none⟩ = some (.string v)) (first | exact hS.out | exact HS1.out) (first | (go_at_call 78; refine (HFd.out w0.drew (HR0.out.below (below_drew' w0))).mono ?_; rintro e w1 ⟨rfl, hb1⟩; have HB1 : Hid (Below w0.heap.size w0 w1) := (below_drew' w0).trans hb1; clear hb1; have HS1 : Hid (w1.cell? ⟨xB, 0, none⟩ = some (.pointer (some ⟨gx, 0, none⟩)) ∧ w1.cell? ⟨w.heap.size, 0, none⟩ = some (.string n) ∧ w1.cell? ⟨w.heap.size, 1, none⟩ = some (.string v)) := ⟨cell_below HB1.out hS.out.1, cell_below HB1.out hS.out.2.1, cell_below HB1.out hS.out.2.2⟩))
  have hz1 := HB1.out.size
  have HR1 := Lib.hid (HR0.out.below HB1.out)
  have HX1 : Hid (HBox w1 w.heap.size n v nv) := HX.out.noB (NoB.below HB1.out)
  have HB2 := Lib.hid (HB0.out.trans (OnlyB.of_below (g := gx) (HB1.out.mono (by omega))))
  obtain ⟨x0, x1, x2⟩ := HX1.out.cells
  have HE1 := Lib.hid HS1.out.1
  clear HR0 HX HB0 HB1 hS HS1 HE0 HFd
  by_cases hnv : nv = true
  · subst hnv
    rw [if_pos rfl] at HOne
    have HP1 : Hid (Calls Tryd.prog 14 #[.int .i64 16, .int .i64 4, .int .i64 (zi : Nat)] w1 (NewPost (P.put 16 4 zi) w1)) := HPI.out 16 4 w1 (by omega) (by omega) (by omega) (by decide)
    have hql := (P.put_len 16 4 zi).2
    have HQn := Lib.hid (P.put_ne 16 4 zi)
    generalize P.put 16 4 zi = q at *
    cases zb
    all_goals
      go_wp2_with fail
      refine HP1.out.mono ?_
      intro e w3 h3
      obtain ⟨g3, cp3, rfl, hv3, hg3, hb3⟩ := h3.cons HQn.out
      have hz3 : w.heap.size ≤ w3.heap.size := by have := hb3.size; omega
      have hz3' : w.heap.size < w3.heap.size := by have := hb3.size; omega
      have hg3K : K1 ≤ g3 := by have := (World.ownsRow.lt hv3 g3 rfl).1; omega
      have HV3 : Hid (OwnN K1 w3 (.slice (some ⟨g3, 0, none⟩) q.length cp3) q) := World.ownsRow.mono hv3 (by omega)
      have HR3 := Lib.hid (HR1.out.below hb3)
      have HX3 : Hid (HBox w3 w.heap.size n v true) := HX1.out.noB (NoB.below hb3)
      have H3 := Lib.hid (HB2.out.trans (OnlyB.of_below (g := gx) (hb3.mono (by omega))))
      obtain ⟨nv, hnv⟩ : ∃ nv, nv = true := ⟨_, rfl⟩
      rw [← hnv] at HX3
      clear h3 hv3 hb3 HR1 HX1 HB2 x0 x1 x2 HE1 HPI HP1
      obtain ⟨y0, y1, y2⟩ := HX3.out.cells
      by_cases h0 : zi = 0
      · have q0 : ((zi : Int) == 0) = true := by simp [h0]
        have hI : (if zi = 0 then P.putT (by_ n) else []) = P.putT (by_ n) := if_pos h0
        rw [hI] at HOne
        go_wp2_with fail
        refine (HPn.out w3).mono ?_
        intro e w4 h4
        obtain ⟨g4, cp4, rfl, hv4, hg4, hb4⟩ := h4.cons HNn.out
        obtain ⟨_, _, e4, hr4⟩ := ownN_rd2 hv4 HLn.out
        cases e4
        have HRd4 := Lib.hid hr4
        have hz4 := hb4.size
        have HV4 : Hid (w4.ownsRow K1 5 1 (.slice (some ⟨g3, 0, none⟩) q.length cp3) q.length (vals q)) := OwnN.below HV3.out hb4
        have HR4 := Lib.hid (HR3.out.below hb4)
        have HX4 : Hid (HBox w4 w.heap.size n v nv) := HX3.out.noB (NoB.below hb4)
        have H4 := Lib.hid (H3.out.trans (OnlyB.of_below (g := gx) (hb4.mono hz3)))
        have hg3l := (HV3.out.lt g3 rfl).2
        clear h4 hv4 hb4 hr4 HV3 HR3 HX3 H3 y0 y1 y2
        go_wp2_with (at_builtin; refine wpList_app _ rfl _ _ 22 rfl K1 _ 5 i0 (.int .u8 0) Tryd.underlying22 hi hi0 hi1 Hi2.out rfl _ q.length (vals q) rfl HV4.out (by intro e; cases e) _ (P.putT (by_ n)).length cp4 (P.putT (by_ n)) rfl rfl HRd4.out ?_ ?_ ?_; omega; omega; intro g5 cp5 w5 hown5 hgrow5; have y1 : w5.cell? ⟨w.heap.size, 1, none⟩ = some (.string v) := (World.cell?_of_block (a := ⟨w.heap.size, 1, none⟩) (hgrow5.block w.heap.size (by omega) (fun e => by have e' : some w.heap.size = some g3 := e; have := Option.some.inj e'; omega))).trans HX4.out.cells.2.1)
        have hz5 := hgrow5.size
        have HV5 : Hid (OwnN K1 w5 (.slice (some ⟨g5, 0, none⟩) (q ++ P.putT (by_ n)).length cp5) (q ++ P.putT (by_ n))) := by
          show World.ownsRow _ _ _ _ _ _ _
          rw [vals_append, List.length_append]; exact hown5
        have HR5 := Lib.hid (HR4.out.grown (g := g3) (show OwnN K1 w4 _ q from HV4.out) hgrow5 (by omega))
        have HX5 : Hid (HBox w5 w.heap.size n v nv) := (hgrow5.block w.heap.size (by omega) (fun e => by have e' : some w.heap.size = some g3 := e; have := Option.some.inj e'; omega)).trans HX4.out
        have H5 := Lib.hid (H4.out.trans (OnlyB.grow (v := .slice (some ⟨g3, 0, none⟩) q.length cp3) hgrow5 (fun k e => by have e' : some g3 = some k := e; have := Option.some.inj e'; omega) (by omega)))
        clear hown5 hgrow5 HV4 HR4 HX4 H4 HRd4
        refine (HPv.out w5).mono ?_
        intro e w6 h6
        obtain ⟨g6, cp6, rfl, hv6, hg6, hb6⟩ := h6.cons HNv.out
        obtain ⟨_, _, e6, hr6⟩ := ownN_rd2 hv6 HLv.out
        cases e6
        have HRd6 := Lib.hid hr6
        have hz6 := hb6.size
        have HV6 : Hid (w6.ownsRow K1 5 1 (.slice (some ⟨g5, 0, none⟩) (q ++ P.putT (by_ n)).length cp5) (q ++ P.putT (by_ n)).length (vals (q ++ P.putT (by_ n)))) := OwnN.below HV5.out hb6
        have HR6 := Lib.hid (HR5.out.below hb6)
        have H6 := Lib.hid (H5.out.trans (OnlyB.of_below (g := gx) (hb6.mono (by omega))))
        have hg5l := HV5.out.lt g5 rfl
        clear h6 hv6 hb6 hr6 HV5 HR5 HX5 H5 y1
        go_wp2_with (at_builtin; refine wpList_app _ rfl _ _ 22 rfl K1 _ 5 i0 (.int .u8 0) Tryd.underlying22 hi hi0 hi1 Hi2.out rfl _ (q ++ P.putT (by_ n)).length (vals (q ++ P.putT (by_ n))) (by simp only [List.length_append]; rfl) HV6.out (by intro e; cases e) _ (P.putT (by_ v)).length cp6 (P.putT (by_ v)) rfl rfl HRd6.out ?_ ?_ ?_; (rw [List.length_append]; omega); omega; intro g7 cp7 w7 hown7 hgrow7)
        have hz7 := hgrow7.size
        have HR7 := Lib.hid (HR6.out.grown (g := g5) (show OwnN K1 w6 _ (q ++ P.putT (by_ n)) from HV6.out) hgrow7 (by omega))
        have H7 := Lib.hid (H6.out.trans (OnlyB.grow (v := .slice (some ⟨g5, 0, none⟩) (q ++ P.putT (by_ n)).length cp5) hgrow7 (fun k e => by have e' : some g5 = some k := e; have := Option.some.inj e'; omega) (by omega)))
        have HV7 : Hid (OwnN w.heap.size w7 (.slice (some ⟨g7, 0, none⟩) (q ++ (P.putT (by_ n) ++ P.putT (by_ v))).length cp7) (q ++ (P.putT (by_ n) ++ P.putT (by_ v)))) := by
          rw [← List.append_assoc]
          show World.ownsRow _ _ _ _ _ _ _
          rw [vals_append, List.length_append]; exact World.ownsRow.mono hown7 (by omega)
        clear hown7 hgrow7
        go_wp2
        go_ret
        rw [HOne.out]
        exact ⟨g7, cp7, by show _ = Ending.returned (.slice (some ⟨g7, 0, none⟩) (q ++ (P.putT (by_ n) ++ P.putT (by_ v))).length cp7); rw [show (q ++ (P.putT (by_ n) ++ P.putT (by_ v))).length = q.length + (P.putT (by_ n)).length + (P.putT (by_ v)).length by simp only [List.length_append]; omega]; rfl, HV7.out, HR7.out, H7.out⟩
      · have q0 : ((zi : Int) == 0) = false := by simp; omega
        have hI : (if zi = 0 then P.putT (by_ n) else []) = [] := if_neg h0
        rw [hI, List.nil_append] at HOne
        go_wp2_with fail
        refine (HPv.out w3).mono ?_
        intro e w4 h4
        obtain ⟨g4, cp4, rfl, hv4, hg4, hb4⟩ := h4.cons HNv.out
        obtain ⟨_, _, e4, hr4⟩ := ownN_rd2 hv4 HLv.out
        cases e4
        have HRd4 := Lib.hid hr4
        have hz4 := hb4.size
        have HV4 : Hid (w4.ownsRow K1 5 1 (.slice (some ⟨g3, 0, none⟩) q.length cp3) q.length (vals q)) := OwnN.below HV3.out hb4
        have HR4 := Lib.hid (HR3.out.below hb4)
        have H4 := Lib.hid (H3.out.trans (OnlyB.of_below (g := gx) (hb4.mono hz3)))
        have hg3l := (HV3.out.lt g3 rfl).2
        clear h4 hv4 hb4 hr4 HV3 HR3 HX3 H3 y0 y1 y2
        go_wp2_with (at_builtin; refine wpList_app _ rfl _ _ 22 rfl K1 _ 5 i0 (.int .u8 0) Tryd.underlying22 hi hi0 hi1 Hi2.out rfl _ q.length (vals q) rfl HV4.out (by intro e; cases e) _ (P.putT (by_ v)).length cp4 (P.putT (by_ v)) rfl rfl HRd4.out ?_ ?_ ?_; omega; omega; intro g5 cp5 w5 hown5 hgrow5)
        have hz5 := hgrow5.size
        have HR5 := Lib.hid (HR4.out.grown (g := g3) (show OwnN K1 w4 _ q from HV4.out) hgrow5 (by omega))
        have H5 := Lib.hid (H4.out.trans (OnlyB.grow (v := .slice (some ⟨g3, 0, none⟩) q.length cp3) hgrow5 (fun k e => by have e' : some g3 = some k := e; have := Option.some.inj e'; omega) (by omega)))
        have HV5 : Hid (OwnN w.heap.size w5 (.slice (some ⟨g5, 0, none⟩) (q ++ P.putT (by_ v)).length cp5) (q ++ P.putT (by_ v))) := by
          show World.ownsRow _ _ _ _ _ _ _
          rw [vals_append, List.length_append]; exact World.ownsRow.mono hown5 (by omega)
        clear hown5 hgrow5
        go_wp2
        go_ret
        rw [HOne.out]
        exact ⟨g5, cp5, by rw [List.length_append]; rfl, HV5.out, HR5.out, H5.out⟩
  · have hnv' : nv = false := by simpa using hnv
    subst hnv'
    rw [if_neg (by simp)] at HOne
    cases zb with
    | true =>
      rw [if_pos rfl] at HOne
      have HP1 : Hid (Calls Tryd.prog 14 #[.int .i64 128, .int .i64 7, .int .i64 (zi : Nat)] w1 (NewPost (P.put 128 7 zi) w1)) := HPI.out 128 7 w1 (by omega) (by omega) (by omega) (by decide)
      go_wp2_with fail
      refine HP1.out.mono ?_
      intro e w3 h3
      obtain ⟨g3, cp3, rfl, hv3, hg3, hb3⟩ := h3.cons (P.put_ne _ _ _)
      have HV3 : Hid (OwnN w.heap.size w3 (.slice (some ⟨g3, 0, none⟩) (P.put 128 7 zi).length cp3) (P.put 128 7 zi)) := World.ownsRow.mono hv3 (by omega)
      have HR3 := Lib.hid (HR1.out.below hb3)
      have H3 := Lib.hid (HB2.out.trans (OnlyB.of_below (g := gx) (hb3.mono (by omega))))
      clear h3 hv3 hb3 x0 x1 x2
      go_wp2
      go_ret
      rw [HOne.out]
      exact ⟨g3, cp3, rfl, HV3.out, HR3.out, H3.out⟩
    | false =>
      rw [if_neg (by simp)] at HOne
      have HSz := Lib.hid (fun w => refSize_any n v false w (by omega) (by omega))
      have hszz : B.sz (n, v) ≤ 281474976710688 := by unfold B.sz; simp only; omega
      have HAd := Lib.hid (B.rm_add m L (n, v))
      obtain ⟨s, hs⟩ : ∃ s, s = B.sz (n, v) := ⟨_, rfl⟩
      rw [← hs] at HSz HOne hszz HAd
      have Hs := Lib.hid hs
      clear hs
      have hc1 : w1.cell? ⟨gx, 1, none⟩ = some (.int .i64 (m : Nat)) := by obtain ⟨_, _, h, _⟩ := HR1.out; exact h.1
      go_upto_region 9 with (fail)
      have hS : Hid (w1.cell? ⟨xB, 0, none⟩ = some (.pointer (some ⟨gx, 0, none⟩)) ∧ w1.cell? ⟨w.heap.size, 0, none⟩ = some (.string n) ∧ w1.cell? ⟨w.heap.size, 1, none⟩ = some (.string v) ∧ w1.cell? ⟨w.heap.size, 2, none⟩ = some (.bool false) ∧ w1.cell? ⟨gx, 1, none⟩ = some (.int .i64 (m : Nat))) := ⟨HE1.out, x0, x1, x2, hc1⟩
      clear x0 x1 x2 hc1
      go_region_held3 (fun ww => ww.cell? ⟨xB, 0, none⟩ = some (.pointer (some ⟨gx, 0, none⟩)) ∧ ww.cell? ⟨w.heap.size, 0, none⟩ = some (.string n) ∧ ww.cell? ⟨w.heap.size, 1, none⟩ = some (.string v) ∧ ww.cell? ⟨w.heap.size, 2, none⟩ = some (.bool false) ∧ ww.cell? ⟨gx, 1, none⟩ = some (.int .i64 (m : Nat))) (first | exact hS.out | exact HS2.out) (first
        | (go_at_call 57; refine (HSz.out w1.drew).mono ?_; rintro e w2 ⟨rfl, hb2⟩; have HB3 : Hid (Below w1.heap.size w1 w2) := (below_drew' w1).trans hb2; clear hb2; have HS2 : Hid (w2.cell? ⟨xB, 0, none⟩ = some (.pointer (some ⟨gx, 0, none⟩)) ∧ w2.cell? ⟨w.heap.size, 0, none⟩ = some (.string n) ∧ w2.cell? ⟨w.heap.size, 1, none⟩ = some (.string v) ∧ w2.cell? ⟨w.heap.size, 2, none⟩ = some (.bool false) ∧ w2.cell? ⟨gx, 1, none⟩ = some (.int .i64 (m : Nat))) := ⟨cell_below HB3.out hS.out.1, cell_below HB3.out hS.out.2.1, cell_below HB3.out hS.out.2.2.1, cell_below HB3.out hS.out.2.2.2.1, cell_below HB3.out hS.out.2.2.2.2⟩))
      have hz2 := HB3.out.size
      have HR2 := Lib.hid (HR1.out.below HB3.out)
      have HX2 := Lib.hid (HX1.out.noB (NoB.below HB3.out))
      have HB4 := Lib.hid (HB2.out.trans (OnlyB.of_below (g := gx) (HB3.out.mono (by omega))))
      clear HR1 HX1 HB2 HB3 hS HE1 HSz
      by_cases hms : m < s
      · rw [if_pos hms] at HOne
        have HP1 : Hid (Calls Tryd.prog 14 #[.int .i64 0, .int .i64 4, .int .i64 (zi : Nat)] w2 (NewPost (P.put 0 4 zi) w2)) := HPI.out 0 4 w2 (by omega) (by omega) (by omega) (by decide)
        have hql := (P.put_len 0 4 zi).2
        have HQn := Lib.hid (P.put_ne 0 4 zi)
        generalize P.put 0 4 zi = q at *
        have qms : (m : Int) < (s : Int) := by omega
        obtain ⟨_, y0, y1, y2, _⟩ := HS2.out
        clear HS2
        go_wp2_with fail
        refine HP1.out.mono ?_
        intro e w3 h3
        obtain ⟨g3, cp3, rfl, hv3, hg3, hb3⟩ := h3.cons HQn.out
        have hz3 : w.heap.size ≤ w3.heap.size := by have := hb3.size; omega
        have hz3' : w.heap.size < w3.heap.size := by have := hb3.size; omega
        have hg3K : K1 ≤ g3 := by have := (World.ownsRow.lt hv3 g3 rfl).1; omega
        have HV3 : Hid (OwnN K1 w3 (.slice (some ⟨g3, 0, none⟩) q.length cp3) q) := World.ownsRow.mono hv3 (by omega)
        have HR3 := Lib.hid (HR2.out.below hb3)
        have HX3 : Hid (HBox w3 w.heap.size n v false) := HX2.out.noB (NoB.below hb3)
        have H3 := Lib.hid (HB4.out.trans (OnlyB.of_below (g := gx) (hb3.mono (by omega))))
        obtain ⟨nv, hnv2⟩ : ∃ nv, nv = false := ⟨_, rfl⟩
        rw [← hnv2] at HX3
        clear h3 hv3 hb3 HR2 HX2 HB4 y0 y1 y2 HPI HP1
        obtain ⟨y0, y1, y2⟩ := HX3.out.cells
        by_cases h0 : zi = 0
        · have q0 : ((zi : Int) == 0) = true := by simp [h0]
          have hI : (if zi = 0 then P.putT (by_ n) else []) = P.putT (by_ n) := if_pos h0
          rw [hI] at HOne
          go_wp2_with fail
          refine (HPn.out w3).mono ?_
          intro e w4 h4
          obtain ⟨g4, cp4, rfl, hv4, hg4, hb4⟩ := h4.cons HNn.out
          obtain ⟨_, _, e4, hr4⟩ := ownN_rd2 hv4 HLn.out
          cases e4
          have HRd4 := Lib.hid hr4
          have hz4 := hb4.size
          have HV4 : Hid (w4.ownsRow K1 5 1 (.slice (some ⟨g3, 0, none⟩) q.length cp3) q.length (vals q)) := OwnN.below HV3.out hb4
          have HR4 := Lib.hid (HR3.out.below hb4)
          have HX4 : Hid (HBox w4 w.heap.size n v nv) := HX3.out.noB (NoB.below hb4)
          have H4 := Lib.hid (H3.out.trans (OnlyB.of_below (g := gx) (hb4.mono hz3)))
          have hg3l := (HV3.out.lt g3 rfl).2
          clear h4 hv4 hb4 hr4 HV3 HR3 HX3 H3 y0 y1 y2
          go_wp2_with (at_builtin; refine wpList_app _ rfl _ _ 22 rfl K1 _ 5 i0 (.int .u8 0) Tryd.underlying22 hi hi0 hi1 Hi2.out rfl _ q.length (vals q) rfl HV4.out (by intro e; cases e) _ (P.putT (by_ n)).length cp4 (P.putT (by_ n)) rfl rfl HRd4.out ?_ ?_ ?_; omega; omega; intro g5 cp5 w5 hown5 hgrow5; have y1 : w5.cell? ⟨w.heap.size, 1, none⟩ = some (.string v) := (World.cell?_of_block (a := ⟨w.heap.size, 1, none⟩) (hgrow5.block w.heap.size (by omega) (fun e => by have e' : some w.heap.size = some g3 := e; have := Option.some.inj e'; omega))).trans HX4.out.cells.2.1)
          have hz5 := hgrow5.size
          have HV5 : Hid (OwnN K1 w5 (.slice (some ⟨g5, 0, none⟩) (q ++ P.putT (by_ n)).length cp5) (q ++ P.putT (by_ n))) := by
            show World.ownsRow _ _ _ _ _ _ _
            rw [vals_append, List.length_append]; exact hown5
          have HR5 := Lib.hid (HR4.out.grown (g := g3) (show OwnN K1 w4 _ q from HV4.out) hgrow5 (by omega))
          have HX5 : Hid (HBox w5 w.heap.size n v nv) := (hgrow5.block w.heap.size (by omega) (fun e => by have e' : some w.heap.size = some g3 := e; have := Option.some.inj e'; omega)).trans HX4.out
          have H5 := Lib.hid (H4.out.trans (OnlyB.grow (v := .slice (some ⟨g3, 0, none⟩) q.length cp3) hgrow5 (fun k e => by have e' : some g3 = some k := e; have := Option.some.inj e'; omega) (by omega)))
          clear hown5 hgrow5 HV4 HR4 HX4 H4 HRd4
          refine (HPv.out w5).mono ?_
          intro e w6 h6
          obtain ⟨g6, cp6, rfl, hv6, hg6, hb6⟩ := h6.cons HNv.out
          obtain ⟨_, _, e6, hr6⟩ := ownN_rd2 hv6 HLv.out
          cases e6
          have HRd6 := Lib.hid hr6
          have hz6 := hb6.size
          have HV6 : Hid (w6.ownsRow K1 5 1 (.slice (some ⟨g5, 0, none⟩) (q ++ P.putT (by_ n)).length cp5) (q ++ P.putT (by_ n)).length (vals (q ++ P.putT (by_ n)))) := OwnN.below HV5.out hb6
          have HR6 := Lib.hid (HR5.out.below hb6)
          have H6 := Lib.hid (H5.out.trans (OnlyB.of_below (g := gx) (hb6.mono (by omega))))
          have hg5l := HV5.out.lt g5 rfl
          clear h6 hv6 hb6 hr6 HV5 HR5 HX5 H5 y1
          go_wp2_with (at_builtin; refine wpList_app _ rfl _ _ 22 rfl K1 _ 5 i0 (.int .u8 0) Tryd.underlying22 hi hi0 hi1 Hi2.out rfl _ (q ++ P.putT (by_ n)).length (vals (q ++ P.putT (by_ n))) (by simp only [List.length_append]; rfl) HV6.out (by intro e; cases e) _ (P.putT (by_ v)).length cp6 (P.putT (by_ v)) rfl rfl HRd6.out ?_ ?_ ?_; (rw [List.length_append]; omega); omega; intro g7 cp7 w7 hown7 hgrow7)
          have hz7 := hgrow7.size
          have HR7 := Lib.hid (HR6.out.grown (g := g5) (show OwnN K1 w6 _ (q ++ P.putT (by_ n)) from HV6.out) hgrow7 (by omega))
          have H7 := Lib.hid (H6.out.trans (OnlyB.grow (v := .slice (some ⟨g5, 0, none⟩) (q ++ P.putT (by_ n)).length cp5) hgrow7 (fun k e => by have e' : some g5 = some k := e; have := Option.some.inj e'; omega) (by omega)))
          have HV7 : Hid (OwnN w.heap.size w7 (.slice (some ⟨g7, 0, none⟩) (q ++ (P.putT (by_ n) ++ P.putT (by_ v))).length cp7) (q ++ (P.putT (by_ n) ++ P.putT (by_ v)))) := by
            rw [← List.append_assoc]
            show World.ownsRow _ _ _ _ _ _ _
            rw [vals_append, List.length_append]; exact World.ownsRow.mono hown7 (by omega)
          clear hown7 hgrow7
          go_wp2
          go_ret
          rw [HOne.out]
          exact ⟨g7, cp7, by show _ = Ending.returned (.slice (some ⟨g7, 0, none⟩) (q ++ (P.putT (by_ n) ++ P.putT (by_ v))).length cp7); rw [show (q ++ (P.putT (by_ n) ++ P.putT (by_ v))).length = q.length + (P.putT (by_ n)).length + (P.putT (by_ v)).length by simp only [List.length_append]; omega]; rfl, HV7.out, HR7.out, H7.out⟩
        · have q0 : ((zi : Int) == 0) = false := by simp; omega
          have hI : (if zi = 0 then P.putT (by_ n) else []) = [] := if_neg h0
          rw [hI, List.nil_append] at HOne
          go_wp2_with fail
          refine (HPv.out w3).mono ?_
          intro e w4 h4
          obtain ⟨g4, cp4, rfl, hv4, hg4, hb4⟩ := h4.cons HNv.out
          obtain ⟨_, _, e4, hr4⟩ := ownN_rd2 hv4 HLv.out
          cases e4
          have HRd4 := Lib.hid hr4
          have hz4 := hb4.size
          have HV4 : Hid (w4.ownsRow K1 5 1 (.slice (some ⟨g3, 0, none⟩) q.length cp3) q.length (vals q)) := OwnN.below HV3.out hb4
          have HR4 := Lib.hid (HR3.out.below hb4)
          have H4 := Lib.hid (H3.out.trans (OnlyB.of_below (g := gx) (hb4.mono hz3)))
          have hg3l := (HV3.out.lt g3 rfl).2
          clear h4 hv4 hb4 hr4 HV3 HR3 HX3 H3 y0 y1 y2
          go_wp2_with (at_builtin; refine wpList_app _ rfl _ _ 22 rfl K1 _ 5 i0 (.int .u8 0) Tryd.underlying22 hi hi0 hi1 Hi2.out rfl _ q.length (vals q) rfl HV4.out (by intro e; cases e) _ (P.putT (by_ v)).length cp4 (P.putT (by_ v)) rfl rfl HRd4.out ?_ ?_ ?_; omega; omega; intro g5 cp5 w5 hown5 hgrow5)
          have hz5 := hgrow5.size
          have HR5 := Lib.hid (HR4.out.grown (g := g3) (show OwnN K1 w4 _ q from HV4.out) hgrow5 (by omega))
          have H5 := Lib.hid (H4.out.trans (OnlyB.grow (v := .slice (some ⟨g3, 0, none⟩) q.length cp3) hgrow5 (fun k e => by have e' : some g3 = some k := e; have := Option.some.inj e'; omega) (by omega)))
          have HV5 : Hid (OwnN w.heap.size w5 (.slice (some ⟨g5, 0, none⟩) (q ++ P.putT (by_ v)).length cp5) (q ++ P.putT (by_ v))) := by
            show World.ownsRow _ _ _ _ _ _ _
            rw [vals_append, List.length_append]; exact World.ownsRow.mono hown5 (by omega)
          clear hown5 hgrow5
          go_wp2
          go_ret
          rw [HOne.out]
          exact ⟨g5, cp5, by rw [List.length_append]; rfl, HV5.out, HR5.out, H5.out⟩
      · rw [if_neg hms] at HOne
        have HP1 : Hid (Calls Tryd.prog 14 #[.int .i64 64, .int .i64 6, .int .i64 (zi : Nat)] w2 (NewPost (P.put 64 6 zi) w2)) := HPI.out 64 6 w2 (by omega) (by omega) (by omega) (by decide)
        have hql := (P.put_len 64 6 zi).2
        have HQn := Lib.hid (P.put_ne 64 6 zi)
        generalize P.put 64 6 zi = q at *
        have qms : ¬ (m : Int) < (s : Int) := by omega
        obtain ⟨yx, y0, y1, y2, _⟩ := HS2.out
        clear HS2
        go_wp2_with fail
        refine HP1.out.mono ?_
        intro e w2b h3
        obtain ⟨g3, cp3, rfl, hv3, hg3, hb3⟩ := h3.cons HQn.out
        have hz2b := hb3.size
        have hg3K : K1 ≤ g3 := by have := (World.ownsRow.lt hv3 g3 rfl).1; omega
        have HVb : Hid (OwnN K1 w2b (.slice (some ⟨g3, 0, none⟩) q.length cp3) q) := World.ownsRow.mono hv3 (by omega)
        have HRb := Lib.hid (HR2.out.below hb3)
        have HXb : Hid (HBox w2b w.heap.size n v false) := HX2.out.noB (NoB.below hb3)
        have Hb := Lib.hid (HB4.out.trans (OnlyB.of_below (g := gx) (hb3.mono (by omega))))
        have hS : Hid (w2b.cell? ⟨xB, 0, none⟩ = some (.pointer (some ⟨gx, 0, none⟩)) ∧ w2b.cell? ⟨w.heap.size, 0, none⟩ = some (.string n) ∧ w2b.cell? ⟨w.heap.size, 1, none⟩ = some (.string v) ∧ w2b.cell? ⟨w.heap.size, 2, none⟩ = some (.bool false)) := ⟨cell_below hb3 yx, HXb.out.cells.1, HXb.out.cells.2.1, HXb.out.cells.2.2⟩
        have HA := Lib.hid (refAdd_any K gx m L.reverse n v false w2b.drew (by have : w2b.drew.heap.size = w2b.heap.size := rfl; omega) (by omega) (by omega) (HRb.out.below (below_drew' w2b)) (by rw [B.tot_rev]; omega) hm)
        rw [← Hs.out, if_pos (by omega)] at HA
        rw [if_pos (by omega)] at HAd
        rw [← HAd.out] at HA
        clear h3 hv3 hb3 HR2 HX2 HB4 y0 y1 y2 yx HPI HP1
        go_upto_region 6 with (fail)
        go_region_held3 (fun ww => ww.cell? ⟨xB, 0, none⟩ = some (.pointer (some ⟨gx, 0, none⟩)) ∧ ww.cell? ⟨w.heap.size, 0, none⟩ = some (.string n) ∧ ww.cell? ⟨w.heap.size, 1, none⟩ = some (.string v) ∧ ww.cell? ⟨w.heap.size, 2, none⟩ = some (.bool false)) (first | exact hS.out | exact HS3.out) (first
          | (go_at_call 79; refine HA.out.mono ?_; rintro e w3 ⟨rfl, hR3, hO3⟩; have HR3 := Lib.hid hR3; have HO3 : Hid (Only gx w2b w3) := (Below.only (below_drew' w2b)).trans hO3; clear hR3 hO3; have HX3 : Hid (HBox w3 w.heap.size n v false) := HXb.out.only HO3.out (by omega); have HS3 : Hid (w3.cell? ⟨xB, 0, none⟩ = some (.pointer (some ⟨gx, 0, none⟩)) ∧ w3.cell? ⟨w.heap.size, 0, none⟩ = some (.string n) ∧ w3.cell? ⟨w.heap.size, 1, none⟩ = some (.string v) ∧ w3.cell? ⟨w.heap.size, 2, none⟩ = some (.bool false)) := ⟨HO3.out.cell hne hS.out.1, HX3.out.cells.1, HX3.out.cells.2.1, HX3.out.cells.2.2⟩))
        have hz23 := HO3.out.size
        have hz3 : w.heap.size ≤ w3.heap.size := by omega
        have hz3' : w.heap.size < w3.heap.size := by omega
        have HV3 := Lib.hid (HVb.out.only HO3.out (by omega))
        have H3 := Lib.hid (Hb.out.trans (OnlyB.of_only HO3.out (by omega)))
        obtain ⟨nv, hnv2⟩ : ∃ nv, nv = false := ⟨_, rfl⟩
        rw [← hnv2] at HX3
        clear HVb HRb HXb Hb hS HS3 HA HO3 HAd
        obtain ⟨y0, y1, y2⟩ := HX3.out.cells
        by_cases h0 : zi = 0
        · have q0 : ((zi : Int) == 0) = true := by simp [h0]
          have hI : (if zi = 0 then P.putT (by_ n) else []) = P.putT (by_ n) := if_pos h0
          rw [hI] at HOne
          go_wp2_with fail
          refine (HPn.out w3).mono ?_
          intro e w4 h4
          obtain ⟨g4, cp4, rfl, hv4, hg4, hb4⟩ := h4.cons HNn.out
          obtain ⟨_, _, e4, hr4⟩ := ownN_rd2 hv4 HLn.out
          cases e4
          have HRd4 := Lib.hid hr4
          have hz4 := hb4.size
          have HV4 : Hid (w4.ownsRow K1 5 1 (.slice (some ⟨g3, 0, none⟩) q.length cp3) q.length (vals q)) := OwnN.below HV3.out hb4
          have HR4 := Lib.hid (HR3.out.below hb4)
          have HX4 : Hid (HBox w4 w.heap.size n v nv) := HX3.out.noB (NoB.below hb4)
          have H4 := Lib.hid (H3.out.trans (OnlyB.of_below (g := gx) (hb4.mono hz3)))
          have hg3l := (HV3.out.lt g3 rfl).2
          clear h4 hv4 hb4 hr4 HV3 HR3 HX3 H3 y0 y1 y2
          go_wp2_with (at_builtin; refine wpList_app _ rfl _ _ 22 rfl K1 _ 5 i0 (.int .u8 0) Tryd.underlying22 hi hi0 hi1 Hi2.out rfl _ q.length (vals q) rfl HV4.out (by intro e; cases e) _ (P.putT (by_ n)).length cp4 (P.putT (by_ n)) rfl rfl HRd4.out ?_ ?_ ?_; omega; omega; intro g5 cp5 w5 hown5 hgrow5; have y1 : w5.cell? ⟨w.heap.size, 1, none⟩ = some (.string v) := (World.cell?_of_block (a := ⟨w.heap.size, 1, none⟩) (hgrow5.block w.heap.size (by omega) (fun e => by have e' : some w.heap.size = some g3 := e; have := Option.some.inj e'; omega))).trans HX4.out.cells.2.1)
          have hz5 := hgrow5.size
          have HV5 : Hid (OwnN K1 w5 (.slice (some ⟨g5, 0, none⟩) (q ++ P.putT (by_ n)).length cp5) (q ++ P.putT (by_ n))) := by
            show World.ownsRow _ _ _ _ _ _ _
            rw [vals_append, List.length_append]; exact hown5
          have HR5 := Lib.hid (HR4.out.grown (g := g3) (show OwnN K1 w4 _ q from HV4.out) hgrow5 (by omega))
          have HX5 : Hid (HBox w5 w.heap.size n v nv) := (hgrow5.block w.heap.size (by omega) (fun e => by have e' : some w.heap.size = some g3 := e; have := Option.some.inj e'; omega)).trans HX4.out
          have H5 := Lib.hid (H4.out.trans (OnlyB.grow (v := .slice (some ⟨g3, 0, none⟩) q.length cp3) hgrow5 (fun k e => by have e' : some g3 = some k := e; have := Option.some.inj e'; omega) (by omega)))
          clear hown5 hgrow5 HV4 HR4 HX4 H4 HRd4
          refine (HPv.out w5).mono ?_
          intro e w6 h6
          obtain ⟨g6, cp6, rfl, hv6, hg6, hb6⟩ := h6.cons HNv.out
          obtain ⟨_, _, e6, hr6⟩ := ownN_rd2 hv6 HLv.out
          cases e6
          have HRd6 := Lib.hid hr6
          have hz6 := hb6.size
          have HV6 : Hid (w6.ownsRow K1 5 1 (.slice (some ⟨g5, 0, none⟩) (q ++ P.putT (by_ n)).length cp5) (q ++ P.putT (by_ n)).length (vals (q ++ P.putT (by_ n)))) := OwnN.below HV5.out hb6
          have HR6 := Lib.hid (HR5.out.below hb6)
          have H6 := Lib.hid (H5.out.trans (OnlyB.of_below (g := gx) (hb6.mono (by omega))))
          have hg5l := HV5.out.lt g5 rfl
          clear h6 hv6 hb6 hr6 HV5 HR5 HX5 H5 y1
          go_wp2_with (at_builtin; refine wpList_app _ rfl _ _ 22 rfl K1 _ 5 i0 (.int .u8 0) Tryd.underlying22 hi hi0 hi1 Hi2.out rfl _ (q ++ P.putT (by_ n)).length (vals (q ++ P.putT (by_ n))) (by simp only [List.length_append]; rfl) HV6.out (by intro e; cases e) _ (P.putT (by_ v)).length cp6 (P.putT (by_ v)) rfl rfl HRd6.out ?_ ?_ ?_; (rw [List.length_append]; omega); omega; intro g7 cp7 w7 hown7 hgrow7)
          have hz7 := hgrow7.size
          have HR7 := Lib.hid (HR6.out.grown (g := g5) (show OwnN K1 w6 _ (q ++ P.putT (by_ n)) from HV6.out) hgrow7 (by omega))
          have H7 := Lib.hid (H6.out.trans (OnlyB.grow (v := .slice (some ⟨g5, 0, none⟩) (q ++ P.putT (by_ n)).length cp5) hgrow7 (fun k e => by have e' : some g5 = some k := e; have := Option.some.inj e'; omega) (by omega)))
          have HV7 : Hid (OwnN w.heap.size w7 (.slice (some ⟨g7, 0, none⟩) (q ++ (P.putT (by_ n) ++ P.putT (by_ v))).length cp7) (q ++ (P.putT (by_ n) ++ P.putT (by_ v)))) := by
            rw [← List.append_assoc]
            show World.ownsRow _ _ _ _ _ _ _
            rw [vals_append, List.length_append]; exact World.ownsRow.mono hown7 (by omega)
          clear hown7 hgrow7
          go_wp2
          go_ret
          rw [HOne.out]
          exact ⟨g7, cp7, by show _ = Ending.returned (.slice (some ⟨g7, 0, none⟩) (q ++ (P.putT (by_ n) ++ P.putT (by_ v))).length cp7); rw [show (q ++ (P.putT (by_ n) ++ P.putT (by_ v))).length = q.length + (P.putT (by_ n)).length + (P.putT (by_ v)).length by simp only [List.length_append]; omega]; rfl, HV7.out, HR7.out, H7.out⟩
        · have q0 : ((zi : Int) == 0) = false := by simp; omega
          have hI : (if zi = 0 then P.putT (by_ n) else []) = [] := if_neg h0
          rw [hI, List.nil_append] at HOne
          go_wp2_with fail
          refine (HPv.out w3).mono ?_
          intro e w4 h4
          obtain ⟨g4, cp4, rfl, hv4, hg4, hb4⟩ := h4.cons HNv.out
          obtain ⟨_, _, e4, hr4⟩ := ownN_rd2 hv4 HLv.out
          cases e4
          have HRd4 := Lib.hid hr4
          have hz4 := hb4.size
          have HV4 : Hid (w4.ownsRow K1 5 1 (.slice (some ⟨g3, 0, none⟩) q.length cp3) q.length (vals q)) := OwnN.below HV3.out hb4
          have HR4 := Lib.hid (HR3.out.below hb4)
          have H4 := Lib.hid (H3.out.trans (OnlyB.of_below (g := gx) (hb4.mono hz3)))
          have hg3l := (HV3.out.lt g3 rfl).2
          clear h4 hv4 hb4 hr4 HV3 HR3 HX3 H3 y0 y1 y2
          go_wp2_with (at_builtin; refine wpList_app _ rfl _ _ 22 rfl K1 _ 5 i0 (.int .u8 0) Tryd.underlying22 hi hi0 hi1 Hi2.out rfl _ q.length (vals q) rfl HV4.out (by intro e; cases e) _ (P.putT (by_ v)).length cp4 (P.putT (by_ v)) rfl rfl HRd4.out ?_ ?_ ?_; omega; omega; intro g5 cp5 w5 hown5 hgrow5)
          have hz5 := hgrow5.size
          have HR5 := Lib.hid (HR4.out.grown (g := g3) (show OwnN K1 w4 _ q from HV4.out) hgrow5 (by omega))
          have H5 := Lib.hid (H4.out.trans (OnlyB.grow (v := .slice (some ⟨g3, 0, none⟩) q.length cp3) hgrow5 (fun k e => by have e' : some g3 = some k := e; have := Option.some.inj e'; omega) (by omega)))
          have HV5 : Hid (OwnN w.heap.size w5 (.slice (some ⟨g5, 0, none⟩) (q ++ P.putT (by_ v)).length cp5) (q ++ P.putT (by_ v))) := by
            show World.ownsRow _ _ _ _ _ _ _
            rw [vals_append, List.length_append]; exact World.ownsRow.mono hown5 (by omega)
          clear hown5 hgrow5
          go_wp2
          go_ret
          rw [HOne.out]
          exact ⟨g5, cp5, by rw [List.length_append]; rfl, HV5.out, HR5.out, H5.out⟩
end Go.Proofs.YtcbljbdcnahfhaaDoor
