/-
The walks of wire.Tag, appendFixed, Size to the byte, and wire.Put.
-/
import Derived.Test.YtnejachdacakcaaDoorWchk
import Derived.Test.YtnejachdacakcaaDoorWmathp
import Derived.Test.YtnejachdacakcaaDoorWsize
namespace Go.Proofs.YtnejachdacakcaaDoor
open Go.RowKit

theorem size_vbs (u : Nat) (h : u < 18446744073709551616) : (Lib.bitLen (u ||| 1) + 6) / 7 = (W.vbs u).length :=
  size_len 9 u (Nat.lt_of_lt_of_le h (by decide)) h

theorem sizeX (u : Nat) (w : World) (hu : Hid (u < 18446744073709551616)) :
    Calls Tryd.prog 38 #[.int .u64 u] w fun e w' => e = .returned (.int .i64 ((W.vbs u).length : Nat)) ∧ w = w' := by
  have eo : ∃ m : Nat, bits .or .u64 (u : Int) 1 = (m : Int) ∧ m < 18446744073709551616 ∧ (Lib.bitLen m + 6) / 7 = (W.vbs u).length := by
    have h := u64_or_nat u 1 hu.out (by omega)
    refine ⟨u ||| 1, h, ?_, size_vbs u hu.out⟩
    exact Nat.or_lt_two_pow (n := 64) (show u < 2 ^ 64 from hu.out) (by decide)
  obtain ⟨m, eo, hm, hs⟩ := eo
  have Hm := Lib.hid hm
  have Hs := Lib.hid hs
  clear hm hs
  have hl : Lib.bitLen m ≤ 64 := bl_le 64 m
  generalize (W.vbs u).length = L at *
  go_enter Tryd.func38, Tryd.ntmps38
  go_wp2_with fail
  refine (len64_any m w (by omega) (by have := Hm.out; omega)).mono ?_
  rintro e w1 ⟨rfl, rfl⟩
  rw [Int.toNat_natCast]
  generalize Lib.bitLen m = n at *
  go_wp2
  go_ret
  refine ⟨?_, rfl⟩
  rw [← Hs.out]
  congr 1

/-- Size as a small number. -/
theorem size_some (u : Nat) (hu : Hid (u < 18446744073709551616)) : ∃ n : Nat, n ≤ 10 ∧ ∀ w, Calls Tryd.prog 38 #[.int .u64 u] w fun e w' => e = .returned (.int .i64 n) ∧ w = w' :=
  ⟨_, (W.vb_len 9 u).2, fun w => sizeX u w hu⟩

/-- Tag of a field and a kind that may be. -/
theorem tag_ok (f kd : Nat) (w : World) (h1 : 1 ≤ f) (h2 : f ≤ 536870911) (h3 : kd ≤ 5) :
    Calls Tryd.prog 25 #[.int .i64 f, .int .i64 kd] w fun e w' => e = .returned (.tuple #[.int .u64 ((f * 8 + kd : Nat) : Int), .nilIface]) ∧ w = w' := by
  have ho : bits .or .u64 ((f : Int) * 8) (kd : Int) = ((f * 8 + kd : Nat) : Int) := by
    have h := u64_or_nat (f * 8) kd (by omega) (by omega)
    have e : f * 8 ||| kd = f * 8 + kd := by
      have := Nat.two_pow_add_eq_or_of_lt (i := 3) (show kd < 2 ^ 3 by omega) f
      rw [show f * 8 = 2 ^ 3 * f from by omega, ← this]
    rw [e] at h
    have e2 : ((f * 8 : Nat) : Int) = (f : Int) * 8 := by push_cast; rfl
    rw [e2] at h
    exact h
  go_enter Tryd.func25, Tryd.ntmps25
  go_wp2
  go_ret2
  refine ⟨?_, rfl⟩
  first | rfl | (simp only [ho]; rfl) | (rw [ho]; rfl)

theorem tag_no (f kd : Int) (E : Nat → Addr) (w : World) (hE : Errs w E) (h : f < 1 ∨ 536870911 < f ∨ kd < 0 ∨ 5 < kd) :
    Calls Tryd.prog 25 #[.int .i64 f, .int .i64 kd] w fun e w' => e = .returned (.tuple #[.int .u64 0, .iface 121 (.pointer (some (E 3)))]) ∧ ∃ q, w' = w.drewN q := by
  have h0 := hE.tag
  generalize E 3 = E0 at h0 ⊢
  have Hh := Lib.hid h
  clear hE h
  go_enter Tryd.func25, Tryd.ntmps25
  go_wp2
  all_goals
    first
    | (go_quiet (fail)
       go_wp2
       go_ret2
       exact ⟨rfl, _, rfl⟩)
    | (exfalso; have := Hh.out; omega)

set_option maxRecDepth 100000 in
theorem appendFixed_any (B : Nat) (v : Value) (l : List Nat) (u n : Nat) (w : World) (hv : Own B w v l) (hn : n ≤ 8) (hu : Hid (u < 18446744073709551616)) (hsz : l.length + 10 ≤ 140737488355328) (hB : B ≤ w.heap.size) :
    Calls Tryd.prog 40 #[v, .int .u64 u, .int .i64 n] w (OwnPost B (l ++ W.leB n u) w) := by
  obtain ⟨i0, hi, hz0, hz1, hz2⟩ := info_parts info5
  obtain ⟨hown0, g0, cp0, rfl⟩ := hv
  go_enter Tryd.func40, Tryd.ntmps40
  go_wp2
  go_loopw [0, 1, 8] (fun x y i wr => ∃ (g cp u' k : Nat) (l' : List Nat), x = .slice (some ⟨g, 0, none⟩) l'.length cp ∧ y = .int .u64 u' ∧ i = .int .i64 k ∧ k ≤ n ∧ Hid (u' < 18446744073709551616) ∧ l'.length = l.length + k ∧ Hid (l' ++ W.leB (n - k) u' = l ++ W.leB n u) ∧
      wr.ownsRow B 5 1 (.slice (some ⟨g, 0, none⟩) l'.length cp) l'.length (vals l') ∧ Hid (Below B w wr) ∧ w.heap.size ≤ wr.heap.size) (fun _ _ i _ => n - (intOf i).toNat)
  case atStart => exact ⟨g0, cp0, u, 0, l, rfl, rfl, rfl, by omega, hu, rfl, rfl, hown0, Below.refl _ _, Nat.le_refl _⟩
  case round =>
    obtain ⟨g, cp, u', k, l', rfl, rfl, rfl, hk, Hu, hlk, HL, hown, HB, hsz2⟩ := hrel
    have ea : bits .and .u64 (u' : Int) 255 = (u' : Int) % 256 := bits_mask .u64 64 (by decide) (fun n h0 h1 => by rw [IntKind.wrap_u64]; omega) 8 (by decide) u' (by omega) (by have := Hu.out; omega)
    by_cases hlt : k < n
    · have hone := Rd.one wr (u' % 256) 5 (by omega)
      rw [show ((u' % 256 : Nat) : Int) = (u' : Int) % 256 from by omega] at hone
      have HS : Hid (W.leB (n - k) u' = (u' % 256) :: W.leB (n - (k + 1)) (u' / 256)) := by
        show W.leB (n - k) u' = _
        rw [show n - k = (n - (k + 1)) + 1 from by omega]
        rfl
      go_wp2_with (at_builtin; refine wpList_app _ rfl _ _ 22 rfl B _ 5 i0 (.int .u8 0) Tryd.underlying22 hi hz0 hz1 hz2 rfl _ l'.length (vals l') rfl (hown.alloc _) (by intro e; cases e) _ 1 1 [u' % 256] rfl rfl hone ?_ ?_ ?_; omega; (simp; omega); intro g2 cp2 w2 hown2 hgrow2)
      go_roundw
      case rel =>
        refine ⟨g2, cp2, u' / 256, k + 1, l' ++ [u' % 256], ?_, ?_, by go_num, by omega, ?_, ?_, ?_, ?_, ?_, ?_⟩
        · rw [List.length_append, hlk]; rfl
        · first | rfl | (congr 1)
        · have := Hu.out; show u' / 256 < _; omega
        · simp; omega
        · show _ = _
          rw [← HL.out, HS.out]; simp
        · rw [vals_append, List.length_append]; exact hown2
        · exact (HB.out.alloc (by omega) _).grown hgrow2 (by simp; omega) (fun k e => by cases e; exact (hown.lt g rfl).1)
        · have := hgrow2.size; simp at this; omega
      case measure => simp [intOf]; omega
    · obtain rfl : k = n := by omega
      go_wp2
      go_ret
      refine ⟨_, rfl, ?_, HB.out⟩
      have h := HL.out
      rw [Nat.sub_self] at h
      rw [← h]
      simp only [W.leB, List.append_nil]
      exact ⟨hown, g, cp, rfl⟩

/-- What Put hands back of a record that may be. -/
def PutOk (lp : List Nat) (w : World) (e : Ending) (w' : World) : Prop := ∃ v, e = .returned (.tuple #[v, .nilIface]) ∧ Own w.heap.size w' v lp ∧ Below w.heap.size w w'

/-- fresh, as seen from the world w1 ahead. -/
theorem fresh_from {B : Nat} {w1 : World} (a : Option Addr) (len cap : Nat) (l : List Nat) (hl : l.length = len) (hr : Rd B w1 a l) :
    ∀ (ww : World) (room : Nat) (R : Int), Below w1.heap.size w1 ww → R = (room : Int) → len + room ≤ 140737488355328 → Calls Tryd.prog 29 #[.slice a len cap, .int .i64 R] ww (OwnPost w1.heap.size l w1) := by
  rintro ww room R hb rfl hsz
  refine (fresh_any (B2 := B) a len cap l room ww hl (hr.below hb) hsz).mono ?_
  rintro e w2 ⟨v, he, hv, hb2⟩
  exact ⟨v, he, hv.mono hb.size, hb.trans (hb2.mono hb.size)⟩

/-- appendVarint likewise. -/
theorem appendVarint_from {w1 : World} : ∀ (ww : World) (v : Value) (l : List Nat) (u : Nat), Own w1.heap.size ww v l → Below w1.heap.size w1 ww → Hid (u < 18446744073709551616) → Hid (l.length + 10 ≤ 140737488355328) →
    Calls Tryd.prog 39 #[v, .int .u64 u] ww (OwnPost w1.heap.size (l ++ W.vbs u) w1) := by
  rintro ww v l u hv hb hu hsz
  refine (appendVarint_any w1.heap.size v l u ww hv hu hsz hb.size).mono ?_
  rintro e w2 ⟨v2, he, hv2, hb2⟩
  exact ⟨v2, he, hv2, hb.trans hb2⟩

/-- appendFixed likewise. -/
theorem appendFixed_from {w1 : World} : ∀ (ww : World) (v : Value) (l : List Nat) (u n : Nat) (N : Int), Own w1.heap.size ww v l → Below w1.heap.size w1 ww → Hid (u < 18446744073709551616) → Hid (l.length + 10 ≤ 140737488355328) → N = (n : Int) → n ≤ 8 →
    Calls Tryd.prog 40 #[v, .int .u64 u, .int .i64 N] ww (OwnPost w1.heap.size (l ++ W.leB n u) w1) := by
  rintro ww v l u n N hv hb hu hsz rfl hn
  refine (appendFixed_any w1.heap.size v l u n ww hv hn hu hsz hb.size).mono ?_
  rintro e w2 ⟨v2, he, hv2, hb2⟩
  exact ⟨v2, he, hv2, hb.trans hb2⟩

set_option maxRecDepth 100000 in
set_option maxHeartbeats 4000000 in
theorem put0 {B : Nat} (f u : Nat) (a ab : Option Addr) (len cap nb cb : Nat) (l bs : List Nat) (w : World) (h1 : 1 ≤ f) (h2 : f ≤ 536870911) (hu : Hid (u < 18446744073709551616)) (hl : l.length = len) (hsz : len + 40 ≤ 140737488355328) (hr : Rd B w a l) :
    Calls Tryd.prog 20 #[.slice a len cap, .agg #[.int .i64 f, .int .i64 0, .int .u64 u, .slice ab nb cb]] w (PutOk (l ++ W.putF f 0 u bs) w) := by
  have hT64 : f * 8 + 0 < 18446744073709551616 := by omega
  have hPF : Hid (W.putF f 0 u bs = W.vbs (f * 8 + 0) ++ W.vbs u) := by show _ = _; simp [W.putF]
  have HPF := hPF
  clear hPF
  have HB0 : Below w.heap.size w (w.alloc (.cells #[.int .i64 f, .int .i64 0, .int .u64 u, .slice ab nb cb] 27)) := (Below.refl _ _).alloc (Nat.le_refl _) _
  have hF0 := fresh_from (B := B) (w1 := w.alloc (.cells #[.int .i64 f, .int .i64 0, .int .u64 u, .slice ab nb cb] 27)) a len cap l hl (hr.below HB0)
  have HF := Lib.hid hF0
  have Hl := Lib.hid hl
  clear hF0 hr hl HB0
  go_enter Tryd.func20, Tryd.ntmps20
  go_wp2_with fail
  refine (show Calls _ _ #[_, .int .i64 0] _ _ from tag_ok f 0 _ h1 h2 (by omega)).mono ?_
  rintro e w0 ⟨rfl, rfl⟩
  generalize hT : f * 8 + 0 = T at *
  have HT : Hid (T < 18446744073709551616) := hT64
  clear hT hT64
  generalize hw1 : w.alloc (.cells #[.int .i64 f, .int .i64 0, .int .u64 u, .slice ab nb cb] 27) = w1 at *
  have hb1 : Below (w.alloc (.cells #[.int .i64 f, .int .i64 0, .int .u64 u, .slice ab nb cb] 27)).heap.size (w.alloc (.cells #[.int .i64 f, .int .i64 0, .int .u64 u, .slice ab nb cb] 27)) w1 := by rw [hw1]; exact Below.refl _ _
  obtain ⟨⟨c0, c1, c2, c3⟩, ⟨f0, f1, f2, f3⟩, hs1⟩ := cells4 hb1
  have HB1 := Lib.hid (below_over hb1)
  have HBd : Hid (Below w1.heap.size w1 w1.drew) := (Below.refl _ _).drew
  obtain ⟨nT, hnT, hST⟩ := size_some T HT
  obtain ⟨nU, hnU, hSU⟩ := size_some u hu
  have HST := Lib.hid hST
  have HSU := Lib.hid hSU
  have HlT : Hid ((W.vbs T).length ≤ 10) := (W.vb_len 9 T).2
  have HL1 : Hid (l.length + 10 ≤ 140737488355328) := by show _ ≤ _; have := Hl.out; omega
  have HL2 : Hid ((l ++ W.vbs T).length + 10 ≤ 140737488355328) := by show _ ≤ _; rw [List.length_append]; have := Hl.out; have := HlT.out; omega
  obtain ⟨l1, hl1, HA1⟩ : ∃ l1, l1 = l ++ W.vbs T ∧ Hid (∀ ww v, Own w1.heap.size ww v l → Below w1.heap.size w1 ww → Calls Tryd.prog 39 #[v, .int .u64 T] ww (OwnPost w1.heap.size l1 w1)) :=
    ⟨_, rfl, fun ww v h1 h2 => appendVarint_from ww v l T h1 h2 HT HL1⟩
  obtain ⟨l2, hl2, HA2⟩ : ∃ l2, l2 = l1 ++ W.vbs u ∧ Hid (∀ ww v, Own w1.heap.size ww v l1 → Below w1.heap.size w1 ww → Calls Tryd.prog 39 #[v, .int .u64 u] ww (OwnPost w1.heap.size l2 w1)) :=
    ⟨_, rfl, fun ww v h1 h2 => appendVarint_from ww v l1 u h1 h2 hu (by subst hl1; exact HL2)⟩
  have HF2 : Hid (l ++ W.putF f 0 u bs = l2) := by show _ = _; rw [HPF.out, hl2, hl1, List.append_assoc]
  clear hl1 hl2 HL1 HL2 HPF HlT
  have HR : Hid (IntKind.i64.wrap ((nT : Int) + nU) = ((nT + nU : Nat) : Int)) := by show _ = _; rw [IntKind.wrap_i64]; omega
  clear hST hSU hb1 hw1
  go_wp2
  go_region_with (first
    | (with_reducible refine (HST.out _).mono ?_; rintro e w2 ⟨rfl, rfl⟩)
    | (with_reducible refine (HSU.out _).mono ?_; rintro e w2 ⟨rfl, rfl⟩)
    | (with_reducible refine (HF.out _ (nT + nU) _ ?_ ?_ ?_).mono ?_
       · repeat (first | with_reducible exact Below.refl _ _ | with_reducible refine Below.drew ?_ | with_reducible refine below_q ?_ _)
       · exact HR.out
       · omega
       rintro e w2 ⟨v, rfl, hv, hb2⟩
       obtain ⟨gv, cp, rfl⟩ := hv.2
       have d2 := cell_below hb2 c2
       have HV := Lib.hid hv
       have HB2 := Lib.hid hb2
       clear hv hb2))
  all_goals
    clear HF HST HSU
    go_wp2
    go_region_with (first
      | (with_reducible refine (HA1.out _ _ ?_ ?_).mono ?_
         · exact HV.out
         · have hov := HB2.out
           repeat (first | with_reducible exact hov | with_reducible refine Below.drew ?_ | with_reducible refine below_q ?_ _)
         rintro e w3 ⟨v3, rfl, hv3, hb3⟩
         obtain ⟨g3, cp3, rfl⟩ := hv3.2
         have e2 := cell_below hb3 c2
         have HV3 := Lib.hid hv3
         have HB3 := Lib.hid hb3
         clear hv3 hb3)
      | (with_reducible refine (HA2.out _ _ ?_ ?_).mono ?_
         · exact HV3.out
         · have hov := HB3.out
           repeat (first | with_reducible exact hov | with_reducible refine Below.drew ?_ | with_reducible refine below_q ?_ _)
         rintro e w4 ⟨v4, rfl, hv4, hb4⟩
         have HV4 := Lib.hid hv4
         have HB4 := Lib.hid hb4
         clear hv4 hb4))
    all_goals
      obtain ⟨g4, cp4, rfl⟩ := HV4.out.2
      go_wp2
      refine bodyPost_ret (v := .tuple #[.slice (some ⟨g4, 0, none⟩) l2.length cp4, .nilIface]) (by simp [results, Tryd.results20, go_sem]) rfl ?_
      refine ⟨_, rfl, ?_, HB1.out.trans (HB4.out.mono (by omega))⟩
      rw [HF2.out]
      exact HV4.out.mono (by omega)
set_option maxRecDepth 100000 in
set_option maxHeartbeats 4000000 in
theorem put1 {B : Nat} (f u : Nat) (a ab : Option Addr) (len cap nb cb : Nat) (l bs : List Nat) (w : World) (h1 : 1 ≤ f) (h2 : f ≤ 536870911) (hu : Hid (u < 18446744073709551616)) (hl : l.length = len) (hsz : len + 40 ≤ 140737488355328) (hr : Rd B w a l) :
    Calls Tryd.prog 20 #[.slice a len cap, .agg #[.int .i64 f, .int .i64 1, .int .u64 u, .slice ab nb cb]] w (PutOk (l ++ W.putF f 1 u bs) w) := by
  have hT64 : f * 8 + 1 < 18446744073709551616 := by omega
  have hPF : Hid (W.putF f 1 u bs = W.vbs (f * 8 + 1) ++ W.leB 8 u) := by show _ = _; simp [W.putF]
  have HPF := hPF
  clear hPF
  have HB0 : Below w.heap.size w (w.alloc (.cells #[.int .i64 f, .int .i64 1, .int .u64 u, .slice ab nb cb] 27)) := (Below.refl _ _).alloc (Nat.le_refl _) _
  have hF0 := fresh_from (B := B) (w1 := w.alloc (.cells #[.int .i64 f, .int .i64 1, .int .u64 u, .slice ab nb cb] 27)) a len cap l hl (hr.below HB0)
  have HF := Lib.hid hF0
  have Hl := Lib.hid hl
  clear hF0 hr hl HB0
  go_enter Tryd.func20, Tryd.ntmps20
  go_wp2_with fail
  refine (show Calls _ _ #[_, .int .i64 1] _ _ from tag_ok f 1 _ h1 h2 (by omega)).mono ?_
  rintro e w0 ⟨rfl, rfl⟩
  generalize hT : f * 8 + 1 = T at *
  have HT : Hid (T < 18446744073709551616) := hT64
  clear hT hT64
  generalize hw1 : w.alloc (.cells #[.int .i64 f, .int .i64 1, .int .u64 u, .slice ab nb cb] 27) = w1 at *
  have hb1 : Below (w.alloc (.cells #[.int .i64 f, .int .i64 1, .int .u64 u, .slice ab nb cb] 27)).heap.size (w.alloc (.cells #[.int .i64 f, .int .i64 1, .int .u64 u, .slice ab nb cb] 27)) w1 := by rw [hw1]; exact Below.refl _ _
  obtain ⟨⟨c0, c1, c2, c3⟩, ⟨f0, f1, f2, f3⟩, hs1⟩ := cells4 hb1
  have HB1 := Lib.hid (below_over hb1)
  have HBd : Hid (Below w1.heap.size w1 w1.drew) := (Below.refl _ _).drew
  obtain ⟨nT, hnT, hST⟩ := size_some T HT
  have HST := Lib.hid hST
  have HlT : Hid ((W.vbs T).length ≤ 10) := (W.vb_len 9 T).2
  have HL1 : Hid (l.length + 10 ≤ 140737488355328) := by show _ ≤ _; have := Hl.out; omega
  have HL2 : Hid ((l ++ W.vbs T).length + 10 ≤ 140737488355328) := by show _ ≤ _; rw [List.length_append]; have := Hl.out; have := HlT.out; omega
  obtain ⟨l1, hl1, HA1⟩ : ∃ l1, l1 = l ++ W.vbs T ∧ Hid (∀ ww v, Own w1.heap.size ww v l → Below w1.heap.size w1 ww → Calls Tryd.prog 39 #[v, .int .u64 T] ww (OwnPost w1.heap.size l1 w1)) :=
    ⟨_, rfl, fun ww v h1 h2 => appendVarint_from ww v l T h1 h2 HT HL1⟩
  obtain ⟨l2, hl2, HA2⟩ : ∃ l2, l2 = l1 ++ W.leB 8 u ∧ Hid (∀ ww v, Own w1.heap.size ww v l1 → Below w1.heap.size w1 ww → Calls Tryd.prog 40 #[v, .int .u64 u, .int .i64 8] ww (OwnPost w1.heap.size l2 w1)) :=
    ⟨_, rfl, fun ww v h1 h2 => appendFixed_from ww v l1 u 8 8 h1 h2 hu (by subst hl1; exact HL2) rfl (by omega)⟩
  have HF2 : Hid (l ++ W.putF f 1 u bs = l2) := by show _ = _; rw [HPF.out, hl2, hl1, List.append_assoc]
  clear hl1 hl2 HL1 HL2 HPF HlT
  clear hST hb1 hw1
  go_wp2_with fail
  refine (HST.out _).mono ?_
  rintro e w2 ⟨rfl, rfl⟩
  go_wp2_with fail
  refine (HF.out _ (nT + 8) _ (Below.refl _ _) (by omega) (by omega)).mono ?_
  rintro e w2 ⟨v, rfl, hv, hb2⟩
  obtain ⟨gv, cp, rfl⟩ := hv.2
  have d2 := cell_below hb2 c2
  have HV := Lib.hid hv
  have HB2 := Lib.hid hb2
  clear hv hb2
  all_goals
    clear HF HST
    go_wp2
    go_region_with (first
      | (with_reducible refine (HA1.out _ _ ?_ ?_).mono ?_
         · exact HV.out
         · have hov := HB2.out
           repeat (first | with_reducible exact hov | with_reducible refine Below.drew ?_ | with_reducible refine below_q ?_ _)
         rintro e w3 ⟨v3, rfl, hv3, hb3⟩
         obtain ⟨g3, cp3, rfl⟩ := hv3.2
         have e2 := cell_below hb3 c2
         have HV3 := Lib.hid hv3
         have HB3 := Lib.hid hb3
         clear hv3 hb3)
      | (with_reducible refine (HA2.out _ _ ?_ ?_).mono ?_
         · exact HV3.out
         · have hov := HB3.out
           repeat (first | with_reducible exact hov | with_reducible refine Below.drew ?_ | with_reducible refine below_q ?_ _)
         rintro e w4 ⟨v4, rfl, hv4, hb4⟩
         have HV4 := Lib.hid hv4
         have HB4 := Lib.hid hb4
         clear hv4 hb4))
    all_goals
      obtain ⟨g4, cp4, rfl⟩ := HV4.out.2
      go_wp2
      refine bodyPost_ret (v := .tuple #[.slice (some ⟨g4, 0, none⟩) l2.length cp4, .nilIface]) (by simp [results, Tryd.results20, go_sem]) rfl ?_
      refine ⟨_, rfl, ?_, HB1.out.trans (HB4.out.mono (by omega))⟩
      rw [HF2.out]
      exact HV4.out.mono (by omega)
set_option maxRecDepth 100000 in
set_option maxHeartbeats 4000000 in
theorem put5 {B : Nat} (f u : Nat) (a ab : Option Addr) (len cap nb cb : Nat) (l bs : List Nat) (w : World) (h1 : 1 ≤ f) (h2 : f ≤ 536870911) (hu : Hid (u < 18446744073709551616)) (hl : l.length = len) (hsz : len + 40 ≤ 140737488355328) (hr : Rd B w a l) :
    Calls Tryd.prog 20 #[.slice a len cap, .agg #[.int .i64 f, .int .i64 5, .int .u64 u, .slice ab nb cb]] w (PutOk (l ++ W.putF f 5 u bs) w) := by
  have hT64 : f * 8 + 5 < 18446744073709551616 := by omega
  have hPF : Hid (W.putF f 5 u bs = W.vbs (f * 8 + 5) ++ W.leB 4 u) := by show _ = _; simp [W.putF]
  have HPF := hPF
  clear hPF
  have HB0 : Below w.heap.size w (w.alloc (.cells #[.int .i64 f, .int .i64 5, .int .u64 u, .slice ab nb cb] 27)) := (Below.refl _ _).alloc (Nat.le_refl _) _
  have hF0 := fresh_from (B := B) (w1 := w.alloc (.cells #[.int .i64 f, .int .i64 5, .int .u64 u, .slice ab nb cb] 27)) a len cap l hl (hr.below HB0)
  have HF := Lib.hid hF0
  have Hl := Lib.hid hl
  clear hF0 hr hl HB0
  go_enter Tryd.func20, Tryd.ntmps20
  go_wp2_with fail
  refine (show Calls _ _ #[_, .int .i64 5] _ _ from tag_ok f 5 _ h1 h2 (by omega)).mono ?_
  rintro e w0 ⟨rfl, rfl⟩
  generalize hT : f * 8 + 5 = T at *
  have HT : Hid (T < 18446744073709551616) := hT64
  clear hT hT64
  generalize hw1 : w.alloc (.cells #[.int .i64 f, .int .i64 5, .int .u64 u, .slice ab nb cb] 27) = w1 at *
  have hb1 : Below (w.alloc (.cells #[.int .i64 f, .int .i64 5, .int .u64 u, .slice ab nb cb] 27)).heap.size (w.alloc (.cells #[.int .i64 f, .int .i64 5, .int .u64 u, .slice ab nb cb] 27)) w1 := by rw [hw1]; exact Below.refl _ _
  obtain ⟨⟨c0, c1, c2, c3⟩, ⟨f0, f1, f2, f3⟩, hs1⟩ := cells4 hb1
  have HB1 := Lib.hid (below_over hb1)
  have HBd : Hid (Below w1.heap.size w1 w1.drew) := (Below.refl _ _).drew
  obtain ⟨nT, hnT, hST⟩ := size_some T HT
  have HST := Lib.hid hST
  have HlT : Hid ((W.vbs T).length ≤ 10) := (W.vb_len 9 T).2
  have HL1 : Hid (l.length + 10 ≤ 140737488355328) := by show _ ≤ _; have := Hl.out; omega
  have HL2 : Hid ((l ++ W.vbs T).length + 10 ≤ 140737488355328) := by show _ ≤ _; rw [List.length_append]; have := Hl.out; have := HlT.out; omega
  obtain ⟨l1, hl1, HA1⟩ : ∃ l1, l1 = l ++ W.vbs T ∧ Hid (∀ ww v, Own w1.heap.size ww v l → Below w1.heap.size w1 ww → Calls Tryd.prog 39 #[v, .int .u64 T] ww (OwnPost w1.heap.size l1 w1)) :=
    ⟨_, rfl, fun ww v h1 h2 => appendVarint_from ww v l T h1 h2 HT HL1⟩
  obtain ⟨l2, hl2, HA2⟩ : ∃ l2, l2 = l1 ++ W.leB 4 u ∧ Hid (∀ ww v, Own w1.heap.size ww v l1 → Below w1.heap.size w1 ww → Calls Tryd.prog 40 #[v, .int .u64 u, .int .i64 4] ww (OwnPost w1.heap.size l2 w1)) :=
    ⟨_, rfl, fun ww v h1 h2 => appendFixed_from ww v l1 u 4 4 h1 h2 hu (by subst hl1; exact HL2) rfl (by omega)⟩
  have HF2 : Hid (l ++ W.putF f 5 u bs = l2) := by show _ = _; rw [HPF.out, hl2, hl1, List.append_assoc]
  clear hl1 hl2 HL1 HL2 HPF HlT
  clear hST hb1 hw1
  go_wp2_with fail
  refine (HST.out _).mono ?_
  rintro e w2 ⟨rfl, rfl⟩
  go_wp2_with fail
  refine (HF.out _ (nT + 4) _ (Below.refl _ _) (by omega) (by omega)).mono ?_
  rintro e w2 ⟨v, rfl, hv, hb2⟩
  obtain ⟨gv, cp, rfl⟩ := hv.2
  have d2 := cell_below hb2 c2
  have HV := Lib.hid hv
  have HB2 := Lib.hid hb2
  clear hv hb2
  all_goals
    clear HF HST
    go_wp2
    go_region_with (first
      | (with_reducible refine (HA1.out _ _ ?_ ?_).mono ?_
         · exact HV.out
         · have hov := HB2.out
           repeat (first | with_reducible exact hov | with_reducible refine Below.drew ?_ | with_reducible refine below_q ?_ _)
         rintro e w3 ⟨v3, rfl, hv3, hb3⟩
         obtain ⟨g3, cp3, rfl⟩ := hv3.2
         have e2 := cell_below hb3 c2
         have HV3 := Lib.hid hv3
         have HB3 := Lib.hid hb3
         clear hv3 hb3)
      | (with_reducible refine (HA2.out _ _ ?_ ?_).mono ?_
         · exact HV3.out
         · have hov := HB3.out
           repeat (first | with_reducible exact hov | with_reducible refine Below.drew ?_ | with_reducible refine below_q ?_ _)
         rintro e w4 ⟨v4, rfl, hv4, hb4⟩
         have HV4 := Lib.hid hv4
         have HB4 := Lib.hid hb4
         clear hv4 hb4))
    all_goals
      obtain ⟨g4, cp4, rfl⟩ := HV4.out.2
      go_wp2
      refine bodyPost_ret (v := .tuple #[.slice (some ⟨g4, 0, none⟩) l2.length cp4, .nilIface]) (by simp [results, Tryd.results20, go_sem]) rfl ?_
      refine ⟨_, rfl, ?_, HB1.out.trans (HB4.out.mono (by omega))⟩
      rw [HF2.out]
      exact HV4.out.mono (by omega)
end Go.Proofs.YtnejachdacakcaaDoor
