/-
The walks of the reference's Encode and Size.
-/
import Derived.Test.YtcbljbdcnahfhaaDoorKone
import Derived.Test.YtcbljbdcnahfhaaDoorKlist
import Derived.Test.YtcbljbdcnahfhaaDoorKaux
import Derived.Deep.QuietTactic
import Derived.Deep.CutRange
namespace Go.Proofs.YtcbljbdcnahfhaaDoor
open Go.RowKit

theorem Rx.appended {w w' : World} {K gx M Bd : Nat} {v : Value} {A : List B.HD} {l : List Nat} (h : Rx w K gx A M) (ho : OwnN Bd w v l) (hg : w.grownBy w' v.ownBlock) (hne : gx < Bd) : Rx w' K gx A M := by
  rcases ho.owned with ⟨e, _⟩ | ⟨g, cp, e, hgB, _⟩
  · subst e
    exact h.same (hg.block gx h.lt (fun e => by cases e)) (fun i v hc e => by
      obtain ⟨v', h0, _, h2, _⟩ := h
      rw [h0.1] at hc
      cases hc
      exact hg.block i (h2.lt i e).2 (fun e2 => by cases e2))
  · subst e
    exact h.grown ho hg (by omega)

theorem xfin {K xB gx m least last : Nat} {A : List B.HD} {w w5 : World} {v : Value} {s0 : List Nat} (hB : Below w.heap.size w w5) (hE : ExC w xB gx true least last) (hR : Rx w K gx A m) (hxK : xB < K) (hne : xB ≠ gx) (ho : OwnN w.heap.size w5 v s0) :
    OwnN w.heap.size (w5.setCell ⟨xB, 1, none⟩ (.bool false)) v s0 ∧ ExC (w5.setCell ⟨xB, 1, none⟩ (.bool false)) xB gx false least last ∧ Rx (w5.setCell ⟨xB, 1, none⟩ (.bool false)) K gx A m ∧ Only2 w.heap.size gx xB w (w5.setCell ⟨xB, 1, none⟩ (.bool false)) ∧ w.heap.size ≤ (w5.setCell ⟨xB, 1, none⟩ (.bool false)).heap.size := by
  have hxl := hE.lt
  refine ⟨ho.same (fun g e => Below.heap_setCell _ _ _ _ (fun e2 => by have := World.ownsRow.lt ho g e; simp only at e2; omega)), (hE.below hB).set1 false, (hR.below hB).setX hxK hne 1 _, ⟨hB.os, hB.tape, hB.output, by simpa using hB.size, fun i hi h1 h2 => (Below.heap_setCell _ _ _ _ h2).trans (hB.block i hi)⟩, by simpa using hB.size⟩
theorem szs_len2 (asked : Bool) (least m : Nat) : (P.szs asked least m).length ≤ 22 := by
  unfold P.szs
  have h1 := (P.put_len 32 5 least).2
  have h2 := (P.put_len 32 5 m).2
  split
  · rw [List.length_append]
    split
    · omega
    · simp only [List.length_nil]; omega
  · simp
/-- What the reference's Encode leaves. -/
def XEncPost (K xB gx m least last : Nat) (bs : List Nat) (L' : List B.HD) (w : World) (e : Ending) (w' : World) : Prop :=
  ∃ v, e = .returned v ∧ OwnN w.heap.size w' v bs ∧ ExC w' xB gx false least last ∧ Rx w' K gx L'.reverse m ∧ Only2 w.heap.size gx xB w w'

set_option maxRecDepth 100000 in
set_option maxHeartbeats 8000000 in
theorem xEncode_any (K xB gx m : Nat) (L : List B.HD) (asked : Bool) (least last : Nat) (a : Option Addr) (n cp : Nat) (xs : List (B.HD × Bool)) (w : World) (hK : K ≤ w.heap.size) (hxK : xB < K) (hne : xB ≠ gx) (hE : ExC w xB gx asked least last) (hlast : asked = true → last = m) (hle : asked = true → least ≤ 4096) (hR : Rx w K gx L.reverse m) (htL : B.tot L ≤ m) (hm : m ≤ 4096)
    (hxs : xs.length = n) (hr : NRd (fun b => b < w.heap.size ∧ b ≠ gx ∧ b ≠ xB) w a xs) (hn : n ≤ 1000) (hsz : ∀ x ∈ xs, x.1.1.size ≤ 1048576 ∧ x.1.2.size ≤ 1048576) :
    Calls Tryd.prog 29 #[.pointer (some ⟨xB, 0, none⟩), .slice a n cp] w (XEncPost K xB gx m least last (P.szs asked least m ++ (P.enc m L xs).1) (P.enc m L xs).2 w) := by
  obtain ⟨i0, hi, hi0, hi1, hi2⟩ := info_parts info5
  have Hi2 := Lib.hid hi2
  have HE := Lib.hid hE
  have HR := Lib.hid hR
  have HXs := Lib.hid hxs
  have HN := Lib.hid hr
  have HSz := Lib.hid hsz
  have c1 := hE.c1.1
  have HPI : Hid (∀ (k : Nat) w, k ≤ 4096 → Calls Tryd.prog 14 #[.int .i64 32, .int .i64 5, .int .i64 (k : Nat)] w (NewPost (P.put 32 5 k) w)) := fun k w hk => by
    rw [← P.putI_put 32 5 k (by omega) (by omega) (by omega) (by omega) (by decide)]
    exact refPut_any 32 5 _ w
  have HPL : Hid (∀ k : Nat, k ≤ 4096 → ∀ x ∈ P.put 32 5 k, x < 256) := fun k hk => P.put_lt (by decide) (by omega)
  clear hE hR hxs hr hsz hi2
  go_enter Tryd.func29, Tryd.ntmps29
  go_upto_if 10 with (fail)
  go_cut [5] from 7 (fun v wx => ∃ (a1 : Option Addr) (cp1 : Nat) (s0 : List Nat), v = .slice a1 s0.length cp1 ∧ Hid (s0 = P.szs asked least m) ∧ Hid (OwnN w.heap.size wx (.slice a1 s0.length cp1) s0) ∧ Hid (ExC wx xB gx false least last) ∧ Hid (Rx wx K gx L.reverse m) ∧ Hid (Only2 w.heap.size gx xB w wx) ∧ w.heap.size ≤ wx.heap.size)
  case first =>
    have hxl := HE.out.lt
    by_cases ha : asked = false
    · subst ha
      go_wp2
      go_meet
      exact ⟨none, 0, [], rfl, (by show _ = _; rfl), ownN_nil _ _, HE, HR, ⟨rfl, rfl, rfl, Nat.le_refl _, fun _ _ _ _ => rfl⟩, Nat.le_refl _⟩
    · have ha' : asked = true := by simpa using ha
      subst ha'
      obtain rfl := hlast rfl
      have hle4 := hle rfl
      obtain ⟨d0, ⟨d1, d1f⟩, ⟨d2, d2f⟩, ⟨d3, d3f⟩⟩ := HE.out
      have hS0 : P.szs true least last = (if least < last then P.put 32 5 least else []) ++ P.put 32 5 last := if_pos rfl
      have hpl := P.put_len 32 5 least
      have hpl2 := P.put_len 32 5 last
      by_cases hlt : least < last
      · rw [if_pos hlt] at hS0
        have HS0 := Lib.hid hS0
        have q : (least : Int) < (last : Int) := by omega
        clear hS0
        go_upto_region 3 with (fail)
        go_quiet (fail)
        go_wp2_with fail
        refine (HPI.out least _ hle4).mono ?_
        intro e w2 h2
        obtain ⟨g2, cp2, rfl, hv2, hg2, hb2⟩ := h2.cons (P.put_ne _ _ _)
        obtain ⟨_, _, e2, hr2⟩ := ownN_rd2 hv2 (HPL.out least hle4)
        cases e2
        have HB2 := Lib.hid ((below_q (Below.refl w.heap.size w) _).trans hb2)
        have hz2 := HB2.out.size
        have HRd2 := Lib.hid hr2
        clear h2 hv2 hb2 hr2 d0 d1 d1f d2 d2f d3 d3f
        generalize hq1 : P.put 32 5 least = q1 at *
        generalize hq2 : P.put 32 5 last = q2 at *
        go_wp2_with (at_builtin; refine wpList_app1 _ rfl _ _ 22 rfl w.heap.size _ 5 i0 (.int .u8 0) Tryd.underlying22 hi hi0 hi1 Hi2.out rfl (.slice none 0 0) 0 [] rfl (World.ownsRow_nil _ _ _ _) _ q1.length cp2 q1 rfl rfl (by omega) HRd2.out ?_ ?_ ?_; omega; omega; intro g3 cp3 w3 hown3 hgrow3; have HB3 : Hid (Below w.heap.size w w3) := HB2.out.grown hgrow3 (by omega) (fun k e => by cases e); obtain ⟨d0, ⟨d1, d1f⟩, ⟨d2, d2f⟩, ⟨d3, d3f⟩⟩ := HE.out.below HB3.out)
        have hz3 := HB3.out.size
        have hown3' : w3.ownsRow w.heap.size 5 1 (.slice (some ⟨g3, 0, none⟩) q1.length cp3) q1.length (vals q1) := by simpa using hown3
        have HO3 := Lib.hid hown3'
        clear hown3 hgrow3 HB2 HRd2 hown3'
        refine ((hq2 ▸ HPI.out last _ hm : Calls _ _ _ w3 (NewPost q2 w3))).mono ?_
        intro e w4 h4
        obtain ⟨g4, cp4, rfl, hv4, hg4, hb4⟩ := h4.cons (by rw [← hq2]; exact P.put_ne _ _ _)
        obtain ⟨_, _, e4, hr4⟩ := ownN_rd2 hv4 (by rw [← hq2]; exact HPL.out last hm)
        cases e4
        have HB4 := Lib.hid (HB3.out.trans (hb4.mono hz3))
        have hz4 := HB4.out.size
        have HRd4 := Lib.hid hr4
        have HO4 : Hid (w4.ownsRow w.heap.size 5 1 (.slice (some ⟨g3, 0, none⟩) q1.length cp3) q1.length (vals q1)) := OwnN.below (l := q1) HO3.out hb4
        clear h4 hv4 hb4 hr4 d0 d1 d1f d2 d2f d3 d3f HB3 HO3
        go_wp2_with (at_builtin; refine wpList_app _ rfl _ _ 22 rfl w.heap.size _ 5 i0 (.int .u8 0) Tryd.underlying22 hi hi0 hi1 Hi2.out rfl _ q1.length (vals q1) rfl HO4.out (by intro e; cases e) _ q2.length cp4 q2 rfl rfl HRd4.out ?_ ?_ ?_; omega; omega; intro g5 cp5 w5 hown5 hgrow5; have HB5 : Hid (Below w.heap.size w w5) := HB4.out.grown hgrow5 (by omega) (fun k e => by have e' : some g3 = some k := e; have := (HO4.out.lt g3 rfl).1; have := Option.some.inj e'; omega); obtain ⟨d0, ⟨d1, d1f⟩, ⟨d2, d2f⟩, ⟨d3, d3f⟩⟩ := HE.out.below HB5.out)
        have hO5 : OwnN w.heap.size w5 (.slice (some ⟨g5, 0, none⟩) (q1 ++ q2).length cp5) (q1 ++ q2) := by
          show World.ownsRow _ _ _ _ _ _ _
          rw [vals_append, List.length_append]; exact hown5
        obtain ⟨f1, f2, f3, f4, f5⟩ := xfin HB5.out HE.out HR.out hxK hne hO5
        go_meet
        exact ⟨some ⟨g5, 0, none⟩, cp5, q1 ++ q2, by rw [List.length_append], (by show _ = _; rw [HS0.out]), f1, f2, f3, f4, f5⟩
      · rw [if_neg hlt, List.nil_append] at hS0
        have HS0 := Lib.hid hS0
        have q : ¬ (least : Int) < (last : Int) := by omega
        clear hS0
        go_upto_region 3 with (fail)
        go_quiet (fail)
        go_wp2_with fail
        refine (HPI.out last _ hm).mono ?_
        intro e w2 h2
        obtain ⟨g2, cp2, rfl, hv2, hg2, hb2⟩ := h2.cons (P.put_ne _ _ _)
        obtain ⟨_, _, e2, hr2⟩ := ownN_rd2 hv2 (HPL.out last hm)
        cases e2
        have HB2 := Lib.hid ((below_q (Below.refl w.heap.size w) _).trans hb2)
        have hz2 := HB2.out.size
        have HRd2 := Lib.hid hr2
        clear h2 hv2 hb2 hr2 d0 d1 d1f d2 d2f d3 d3f
        generalize hq2 : P.put 32 5 last = q2 at *
        go_wp2_with (at_builtin; refine wpList_app1 _ rfl _ _ 22 rfl w.heap.size _ 5 i0 (.int .u8 0) Tryd.underlying22 hi hi0 hi1 Hi2.out rfl (.slice none 0 0) 0 [] rfl (World.ownsRow_nil _ _ _ _) _ q2.length cp2 q2 rfl rfl (by omega) HRd2.out ?_ ?_ ?_; omega; omega; intro g3 cp3 w3 hown3 hgrow3; have HB3 : Hid (Below w.heap.size w w3) := HB2.out.grown hgrow3 (by omega) (fun k e => by cases e); obtain ⟨d0, ⟨d1, d1f⟩, ⟨d2, d2f⟩, ⟨d3, d3f⟩⟩ := HE.out.below HB3.out)
        have hO3 : OwnN w.heap.size w3 (.slice (some ⟨g3, 0, none⟩) q2.length cp3) q2 := by
          show World.ownsRow _ _ _ _ _ _ _
          simpa using hown3
        obtain ⟨f1, f2, f3, f4, f5⟩ := xfin HB3.out HE.out HR.out hxK hne hO3
        go_meet
        exact ⟨some ⟨g3, 0, none⟩, cp3, q2, by simp, (by show _ = _; rw [HS0.out]), f1, f2, f3, f4, f5⟩
  case rest =>
    obtain ⟨a1, cp1, s0, rfl, HS0, HO1, HE1, HR1, H1, hz1⟩ := hcut
    have hxl := HE.out.lt
    have hgl := HR.out.lt
    clear HE HR c1 HPI HPL
    have hs0l : s0.length ≤ 22 := by rw [HS0.out]; exact szs_len2 _ _ _
    go_wp2
    go_loopw [5, 6] (fun v i wr => ∃ (k : Nat) (a' : Option Addr) (cp' : Nat) (l' : List Nat), k ≤ n ∧ i = .int .i64 (k : Nat) ∧ v = .slice a' l'.length cp' ∧ Hid (l' = s0 ++ (P.enc m L (xs.take k)).1) ∧ Hid (OwnN w.heap.size wr (.slice a' l'.length cp') l') ∧ Hid (ExC wr xB gx false least last) ∧ Hid (Rx wr K gx (P.enc m L (xs.take k)).2.reverse m) ∧ Hid (Only2 w.heap.size gx xB w wr) ∧ w.heap.size ≤ wr.heap.size) (fun _ i _ => n - (intOf i).toNat)
    case atStart => exact ⟨0, a1, cp1, s0, by omega, rfl, rfl, by show _ = _; simp [P.enc], HO1, HE1, by simpa [P.enc] using HR1, H1, hz1⟩
    case round =>
      clear HO1 HE1 HR1 H1 hz1
      obtain ⟨k, a', cp', l', hk, rfl, rfl, HL', HO, HE, HR, H, hz⟩ := hrel
      by_cases hlt : k < n
      · obtain ⟨x, hx⟩ : ∃ x, xs[k]? = some x := ⟨_, List.getElem?_eq_getElem (by rw [HXs.out]; exact hlt)⟩
        have HTk := Lib.hid (P.enc_take m L xs k x hx)
        obtain ⟨hx1, hx2⟩ := HSz.out x (List.mem_of_getElem? hx)
        obtain ⟨b, o, rfl, hrb, d0, d1, d2⟩ := HN.out.two (fun b h => h) H.out k x hx
        have hll : l'.length ≤ 10000000000 := by
          have h1 := P.enc_len m 2097152 (xs.take k) L (fun y hy => by have := HSz.out y (List.mem_of_mem_take hy); omega)
          have h2 := HL'.out
          have h3 : (xs.take k).length ≤ 1000 := Nat.le_trans (List.length_take_le _ _) (by omega)
          have h4 : (xs.take k).length * (2097152 + 33) ≤ 1000 * (2097152 + 33) := Nat.mul_le_mul_right _ h3
          rw [h2, List.length_append]
          omega
        have htk := P.enc_tot (m := m) (xs.take k) L htL
        have hLk := B.tot_len (P.enc m L (xs.take k)).2
        obtain ⟨⟨xn, xv⟩, xb⟩ := x
        simp only at d0 d1 d2 hx1 hx2
        clear hx hrb
        have q1 : (k : Int) < (n : Int) := by omega
        have q0 : (0 : Int) ≤ (k : Int) := by omega
        have HOn := Lib.hid (xone_any K xB gx m (P.enc m L (xs.take k)).2 xn xv xb false least last wr (by omega) hne HE.out HR.out htk hm (by omega) (by omega))
        have hol := P.one_len m (P.enc m L (xs.take k)).2 ((xn, xv), xb)
        have HOlt := Lib.hid (P.one_lt (m := m) (L := (P.enc m L (xs.take k)).2) (x := ((xn, xv), xb)) (by omega) (by simp only; omega) (by simp only; omega))
        have hone : 0 < (P.one m (P.enc m L (xs.take k)).2 ((xn, xv), xb)).1.length := List.length_pos_iff.2 (P.one_ne _ _ _)
        simp only at hol
        generalize (P.enc m L (xs.take k)).2 = Lk at *
        generalize (P.enc m L (xs.take k)).1 = bk at *
        generalize P.one m Lk ((xn, xv), xb) = r at *
        obtain ⟨rb, rL⟩ := r
        simp only at hol hone HTk
        go_wp2_with fail
        refine HOn.out.mono ?_
        rintro e w2 ⟨g2, cp2, rfl, hv2, hr2, ho2⟩
        simp only at hv2 hr2 ⊢
        obtain ⟨_, _, e2, hrd2⟩ := ownN_rd2 hv2 HOlt.out
        cases e2
        have hz2 := ho2.size
        have HO2 : Hid (w2.ownsRow w.heap.size 5 1 (.slice a' l'.length cp') l'.length (vals l')) := OwnN.same (l := l') HO.out (fun g e => by have := World.ownsRow.lt HO.out g e; exact ho2.block g (by omega) (by omega))
        have HRd2 := Lib.hid hrd2
        have HR2 := Lib.hid hr2
        have HE2 := Lib.hid (HE.out.block (ho2.block xB (by omega) hne))
        have H2 := Lib.hid (H.out.trans ((ho2.mono hz).two1 (h := xB)))
        clear hv2 hr2 ho2 hrd2 HO HE HR H HOn d0 d1 d2
        go_wp2_with (at_builtin; refine wpList_app1 _ rfl _ _ 22 rfl w.heap.size _ 5 i0 (.int .u8 0) Tryd.underlying22 hi hi0 hi1 Hi2.out rfl _ l'.length (vals l') rfl HO2.out _ rb.length cp2 rb rfl rfl hone HRd2.out ?_ ?_ ?_; omega; omega; intro g3 cp3 w3 hown3 hgrow3)
        have hO2 : OwnN w.heap.size w2 (.slice a' l'.length cp') l' := HO2.out
        have hgb : ∀ i, i < w.heap.size → w3.heap[i]? = w2.heap[i]? := fun i hi' => hgrow3.block i (by omega) (fun e => by have := World.ownsRow.lt hO2 i e.symm; omega)
        have HR3 := Lib.hid (HR2.out.appended hO2 hgrow3 hgl)
        have HE3 := Lib.hid (HE2.out.block (hgb xB hxl))
        have H3 : Hid (Only2 w.heap.size gx xB w w3) := H2.out.trans ⟨hgrow3.os, hgrow3.tape, hgrow3.output, hgrow3.size, fun i hi' _ _ => hgb i hi'⟩
        have hz3 : w.heap.size ≤ w3.heap.size := H3.out.size
        have HO3 : Hid (OwnN w.heap.size w3 (.slice (some ⟨g3, 0, none⟩) (l' ++ rb).length cp3) (l' ++ rb)) := by
          show World.ownsRow _ _ _ _ _ _ _
          rw [vals_append, List.length_append]; exact hown3
        clear hown3 hgrow3 hgb hO2 HO2 HR2 HE2 H2 HRd2
        go_wp2
        go_roundw
        case rel =>
          refine ⟨k + 1, some ⟨g3, 0, none⟩, cp3, l' ++ rb, by omega, by rw [Int.natCast_add]; rfl, by rw [List.length_append], ?_, HO3, HE3, ?_, H3, hz3⟩
          · show _ = _
            rw [HTk.out, HL'.out, List.append_assoc]
          · show Rx _ _ _ _ _
            rw [HTk.out]
            exact HR3.out
        case measure => simp [intOf]; omega
      · obtain rfl : k = n := by omega
        have q1 : ¬ (k : Int) < (k : Int) := by omega
        have ht : xs.take k = xs := List.take_of_length_le (by rw [HXs.out]; exact Nat.le_refl _)
        rw [ht] at HL' HR
        clear ht
        go_wp2
        go_ret
        refine ⟨_, rfl, ?_, HE.out, HR.out, H.out⟩
        rw [← HS0.out, ← HL'.out]
        exact HO.out
end Go.Proofs.YtcbljbdcnahfhaaDoor
