/-
The walk of parleylaw1.WireNext: it returns true whatever is asked.
-/
import Derived.Test.YtnejachdacakcaaDoorWgood
import Derived.Test.YtnejachdacakcaaDoorWisat
import Derived.Test.YtnejachdacakcaaDoorWfirst
import Derived.Test.YtnejachdacakcaaDoorTtexts
import Derived.Test.YtnejachdacakcaaDoorTref
import Derived.RegionTactic
import Derived.ChangeAlike
namespace Go.Proofs.YtnejachdacakcaaDoor
open Go.RowKit

/-- But for block g all cells are as they were. -/
def Far (g : Nat) (w w' : World) : Prop := w'.heap.size = w.heap.size ∧ ∀ b o, b ≠ g → w'.cell? ⟨b, o, none⟩ = w.cell? ⟨b, o, none⟩
/-- Block g's first n cells are bytes that may be written. -/
def Wr (g n : Nat) (w : World) : Prop := ∀ q, q < n → (∃ c : Nat, c < 256 ∧ w.cell? ⟨g, q, none⟩ = some (.int .u8 (c : Nat))) ∧ w.frozen? ⟨g, q, none⟩ = false

theorem Far.step {g j : Nat} {w w' : World} {v : Value} (h : Far g w w') : Far g w ((w'.setCell ⟨g, j, none⟩ v).drew) := by
  refine ⟨by simp; exact h.1, fun b o hb => ?_⟩
  show (w'.setCell ⟨g, j, none⟩ v).cell? ⟨b, o, none⟩ = _
  rw [World.cell?_setCell_other (h := fun e => hb (congrArg Addr.block e).symm)]
  exact h.2 b o hb

theorem Wr.step {g n j c : Nat} {w : World} (h : Wr g n w) (hc : c < 256) : Wr g n ((w.setCell ⟨g, j, none⟩ (.int .u8 (c : Nat))).drew) := by
  intro q hq
  obtain ⟨⟨d, hd, hcell⟩, hf⟩ := h q hq
  refine ⟨?_, by simpa using hf⟩
  by_cases e : j = q
  · subst e
    exact ⟨c, hc, show (w.setCell ⟨g, j, none⟩ (.int .u8 (c : Nat))).cell? ⟨g, j, none⟩ = _ from World.cell?_setCell_same (h := hcell) ..⟩
  · refine ⟨d, hd, ?_⟩
    show (w.setCell ⟨g, j, none⟩ (.int .u8 (c : Nat))).cell? ⟨g, q, none⟩ = _
    rw [World.cell?_setCell_other (h := fun h => e (congrArg Addr.off h))]
    exact hcell

theorem xor1 : ∀ X : Fin 256, bits .xor .u8 ((X.val : Nat) : Int) 1 = (((X.val ^^^ 1 : Nat) % 256 : Nat) : Int) := by decide +kernel

theorem Own.wr {B : Nat} {w : World} {g cp : Nat} {l : List Nat} (h : Own B w (.slice (some ⟨g, 0, none⟩) l.length cp) l) (hl : ∀ x ∈ l, x < 256) : Wr g l.length w := by
  intro q hq
  obtain ⟨b, o, e, _, hc⟩ := (own_rd h rfl hl).1.2 q hq
  cases e
  refine ⟨⟨l.getD q 0, ?_, by simpa using hc⟩, ?_⟩
  · exact Rd.lt (own_rd h rfl hl).1 q
  · exact h.1.frozenAt q

/-- What Next hands back: bytes of its own, or none. -/
theorem next_bs {B : Nat} {a : Option Addr} {len cap : Nat} {l : List Nat} {E : Nat → Addr} {w : World} (hlen : l.length = len) (hcap : len ≤ cap) (hn : len ≤ 140737488355328) (hBw : B ≤ w.heap.size) (hr : Rd B w a l) (hE : Errs w E)
    {f k u : Nat} {bs : List Nat} {sz e : Nat} (hx : W.nextF 32 l = (f, k, u, bs, sz, e)) :
    Calls Tryd.prog 10 #[.slice a len cap] w fun x w' => ∃ v, x = .returned (.tuple #[.agg #[.int .i64 f, .int .i64 k, .int .u64 u, v], .int .i64 sz, er E e]) ∧ Bs w.heap.size w' v bs ∧ Below w.heap.size w w' := by
  refine (Next_any a len cap l E w hlen hcap hn hBw hr hE).mono ?_
  rintro x w' ⟨v, h1, h2, h3, h4⟩
  rw [hx] at h1 h2 h3
  refine ⟨v, h1, ?_, h4⟩
  by_cases he : e = 0
  · exact Or.inr (h2 he)
  · obtain ⟨k', rfl⟩ : ∃ k', e = k' + 1 := ⟨e - 1, by omega⟩
    have := W.nextF_err (lv := 32) (l := l) (k := k') (by rw [hx])
    rw [hx] at this
    cases this
    exact Or.inl ⟨h3 he, rfl⟩

/-- What Check handed back, in the world w. -/
def CV (E : Nat → Addr) (p c lo hi : Nat) (w : World) (v : Value) : Prop :=
  (c = 0 ∧ v = .nilIface) ∨ ∃ g k, c = k + 1 ∧ v = .iface 68 (.pointer (some ⟨g, 0, none⟩)) ∧ lo ≤ g ∧ g < hi ∧ w.cell? ⟨g, 0, none⟩ = some (.int .i64 (p : Nat)) ∧ w.cell? ⟨g, 1, none⟩ = some (er E (k + 1))

/-- Same, of what both Checks say. -/
theorem same_chk {E : Nat → Addr} {p c lo hi : Nat} {v : Value} {w w1 : World} {e : Ending} (hG : Good c) (hE : ErrsAll w1 E egs) (hv : CV E p c lo hi w v) (hb : Below w.heap.size w w1) (hr : ∃ w0, RefChk (p, c) w0 e w1) :
    ∃ x, e = .returned (.agg x) ∧ Calls Tryd.prog 16 #[v, .agg x] w1 fun e w' => e = .returned (.bool true) ∧ Below w1.heap.size w1 w' := by
  obtain ⟨w0, y, he, hor, _⟩ := hr
  refine ⟨_, he, ?_⟩
  rcases hv with ⟨h0, rfl⟩ | ⟨g, k, h0, rfl, _, _, h1, h2⟩
  · obtain rfl : y = .slice none 0 0 := by
      rcases hor with ⟨_, h⟩ | ⟨h, _⟩
      · exact h
      · exact absurd h0 h
    subst h0
    have := Same_any (E := E) none 0 0 0 none 0 0 [] w1 hE (fun i h => by cases h) rfl (RdZ.nil _ _)
    have e1 : FAgree (oC none) 0 0 0 0 0 [] [] = true := by unfold FAgree; simp [oC]
    rw [e1] at this
    exact this
  · subst h0
    obtain ⟨g3, rfl, h3⟩ : ∃ g3, y = .slice (some ⟨g3, 0, none⟩) 1 1 ∧ w1.cell? ⟨g3, 0, none⟩ = some (.int .i64 (p : Nat)) := by
      rcases hor with ⟨h, _⟩ | ⟨_, g3, h, h'⟩
      · exact absurd h (by simp)
      · exact ⟨g3, h, h'⟩
    obtain ⟨i, hi, hix⟩ := good_succ hG
    have e1 : er E (k + 1) = eV E (eg i) := by rw [er_ix hG, hix]; rfl
    have e2 : cd (k + 1) = 101 + (i : Int) := by rw [cd_ix hG, hix]; rfl
    rw [e1] at h2
    have := SameAt_any i g g3 p w1 hE hi (cell_below hb h1) (cell_below hb h2) h3
    show Calls _ _ #[_, fV (cd (k + 1)) 0 0 _] _ _
    rw [e2]
    exact this

set_option maxRecDepth 100000 in
set_option maxHeartbeats 8000000 in
theorem wireNext_law (E : Nat → Addr) (a : Option Addr) (len cap : Nat) (l : List Nat) (w : World) (hl : l.length = len) (hcap : len ≤ cap) (hr : Rd w.heap.size w a l) (hE : ErrsAll w E egs) (hT : Lib.Utf8Tabs 4 5 w) :
    Calls Tryd.prog 3 #[.slice a len cap] w (TruePost w) := by
  have HE := Lib.hid hE
  have HR := Lib.hid hr
  have HT := Lib.hid hT
  subst hl
  clear hE hr hT
  by_cases h : 16384 < l.length
  · go_enter Tryd.func3, Tryd.ntmps3
    go_wp2_with (go_at_call 8; refine (first_any E _ (errs_of_all HE.out)).mono ?_; rintro e w1 ⟨rfl, hb1⟩; have HB1 := Lib.hid hb1; clear hb1)
    go_ret
    exact ⟨rfl, HB1.out⟩
  have hd : decide (16384 < (l.length : Int)) = false := by simp; omega
  obtain ⟨f, kd, u, bs, sz, e9, hx⟩ : ∃ f k u bs sz e, W.nextF 32 l = (f, k, u, bs, sz, e) := ⟨_, _, _, _, _, _, rfl⟩
  obtain ⟨pc, ec, hy⟩ : ∃ p e, W.chk 32 l = (p, e) := ⟨_, _, rfl⟩
  have G9 : Hid (Good e9) := by have := good_next 32 l; rw [hx] at this; exact this
  have GC : Hid (Good ec) := by have := good_chk 32 l; rw [hy] at this; exact this
  have HBl : Hid (∀ x ∈ bs, x < 256) := fun x hxx => by
    have := W.nextF_mem 32 l
    rw [hx] at this
    exact HR.out.1 x (this x hxx)
  have hbl : bs.length ≤ l.length := by have := W.nextF_bytes 32 l; rw [hx] at this; exact this
  have HX := Lib.hid hx
  have HY := Lib.hid hy
  clear hx hy
  obtain ⟨i0, hi, hz0, hz1b, hz2⟩ := info_parts info5
  have Hz2 := Lib.hid hz2
  clear hz2
  go_enter Tryd.func3, Tryd.ntmps3
  go_wp2_with fail
  refine (first_any E _ (errs_of_all HE.out)).mono ?_
  rintro e w1 ⟨rfl, hb1⟩
  have HB1 := Lib.hid hb1
  have hs1 := hb1.size
  clear hb1
  go_wp2_with fail
  refine (bytes_any a l.length cap l w1 rfl (HR.out.below HB1.out) (by omega)).mono ?_
  rintro e w2 ⟨v2, rfl, hv2, hb2⟩
  obtain ⟨g2, cp2, rfl⟩ := hv2.2
  have HV2 := Lib.hid hv2
  have HB2 := Lib.hid (HB1.out.trans (hb2.mono hs1))
  have hs2 := HB2.out.size
  have Hlit := Lib.hid (Rd.lit w2 #[.int .u8 47, .int .u8 11] 5 [47, 11] (by decide) rfl)
  have hs12 := hb2.size
  clear hb2 hv2
  go_upto_region 5 with (at_builtin; refine wpList_app _ rfl _ _ 22 rfl w1.heap.size _ 5 i0 (.int .u8 0) Tryd.underlying22 hi hz0 hz1b Hz2.out rfl _ l.length (vals l) rfl (HV2.out.1.alloc _) (by intro e; cases e) _ 2 2 [47, 11] rfl rfl Hlit.out ?_ ?_ ?_; omega; (simp; omega); intro g3 cp3 w3 hown3 hgrow3)
  have hlt3 : ∀ x ∈ l ++ [47, 11], x < 256 := lt_app HR.out.1 (by decide)
  have HLt := Lib.hid hlt3
  have hv3 := own_app (l := l) (bs := [47, 11]) rfl hown3
  obtain ⟨hr3, hcp3⟩ := own_rd hv3 (by simp) hlt3
  have hb3 : Below w.heap.size w w3 := (HB2.out.alloc hs2 (.cells #[.int .u8 47, .int .u8 11] 5)).grown hgrow3 (by simp; omega) (fun k e => by cases e; have := (HV2.out.1.lt g2 rfl).1; show w.heap.size ≤ g2; omega)
  have HB3 := Lib.hid hb3
  have HR3 := Lib.hid hr3
  have hs3 := hb3.size
  have hr3l := hr3.take l.length
  rw [List.take_left] at hr3l
  have HM := Lib.hid hr3l
  have HA := Lib.hid (HR.out.below hb3)
  have HE3 := Lib.hid (HE.out.below hb3)
  have HT3 := Lib.hid (tabs_below HT.out hb3)
  have hcp : l.length + 2 ≤ cp3 := by simpa using hcp3
  clear hown3 hgrow3 hv3 hb3 hr3 hr3l hs12 HV2 Hlit hcp3 HE HR HB1 HB2 hlt3 hs1 hs2 HT
  go_wp2_with fail
  refine (next_bs (B := w3.heap.size) rfl (by omega) (by omega) (Nat.le_refl _) HM.out (errs_of_all HE3.out) HX.out).mono ?_
  rintro e w4 ⟨v4, rfl, hv4, hb4⟩
  obtain ⟨a4, cp4, rfl⟩ := hv4.sl
  have HV4 := Lib.hid hv4
  have H4 := Lib.hid hb4
  have hs4 := hb4.size
  clear hb4 hv4
  -- the reference's record
  have hA5 := HA.out.below (H4.out.alloc hs4 (.cells #[.int .i64 f, .int .i64 kd, .int .u64 u, .slice a4 bs.length cp4] 27))
  have K6 := refNext_all (B := w.heap.size) a l.length cap l (w4.alloc (.cells #[.int .i64 f, .int .i64 kd, .int .u64 u, .slice a4 bs.length cp4] 27)) rfl (by omega) hcap (by simp; omega) hA5
  rw [HX.out] at K6
  have K6 := Lib.hid K6
  clear hA5
  go_wp2_with fail
  refine K6.out.mono ?_
  rintro e w6 ⟨v6, rfl, hv6, hb6⟩
  obtain ⟨a6, cp6, rfl⟩ := hv6.sl
  have HV6 := Lib.hid hv6
  have H6 := Lib.hid hb6
  have hs6 := hb6.size
  simp only [World.size_alloc] at hs6
  clear hb6 hv6 K6
  simp only
  -- Check
  have h7 : Below (w4.alloc (.cells #[.int .i64 f, .int .i64 kd, .int .u64 u, .slice a4 bs.length cp4] 27)).heap.size (w4.alloc (.cells #[.int .i64 f, .int .i64 kd, .int .u64 u, .slice a4 bs.length cp4] 27)) (w6.alloc (.cells #[.int .i64 f, .int .i64 kd, .int .u64 u, .slice a6 bs.length cp6] 32)) := H6.out.alloc (by simp; omega) _
  have h37 : Below w3.heap.size w3 (w6.alloc (.cells #[.int .i64 f, .int .i64 kd, .int .u64 u, .slice a6 bs.length cp6] 32)) := H4.out.trans ((below_over h7).mono hs4)
  have K8 := check_any (B := w3.heap.size) (some ⟨g3, 0, none⟩) l.length cp3 l E _ rfl (by omega) (by omega) h37.size (HM.out.below h37) (errs_of_all (HE3.out.below h37))
  rw [HY.out] at K8
  have K8 := Lib.hid K8
  have H7 := Lib.hid h7
  have H37 := Lib.hid h37
  clear h7 h37
  go_wp2_with fail
  refine K8.out.mono ?_
  rintro e w8 ⟨hb8, hor⟩
  have hs8 := hb8.size
  simp only [World.size_alloc] at hs8
  obtain ⟨fv, rfl, hcv⟩ : ∃ fv, e = .returned fv ∧ CV E pc ec (w6.heap.size + 1) w8.heap.size w8 fv := by
    rcases hor with ⟨h1, h2⟩ | ⟨g, k, h1, h2, h3, h4, h5⟩
    · exact ⟨_, h2, Or.inl ⟨h1, rfl⟩⟩
    · have := World.block_lt_of_cell? _ _ h4
      simp only [World.size_alloc] at this h3
      exact ⟨_, h2, Or.inr ⟨g, k, h1, rfl, h3, this, h4, h5⟩⟩
  have HCV := Lib.hid hcv
  have h58 := H7.out.trans (hb8.mono H7.out.size)
  have H38 := Lib.hid (H37.out.trans (hb8.mono H37.out.size))
  obtain ⟨⟨c0, c1, c2, c3⟩, ⟨f0, f1, f2, f3⟩, hz5⟩ := cells4 h58
  obtain ⟨⟨k0, k1, k2, k3⟩, ⟨m0, m1, m2, m3⟩, hz8⟩ := cells4 hb8
  have hrd4 := HV4.out.rd HBl.out
  have hrd6 := HV6.out.rd HBl.out
  have K9 := Lib.hid (is_same f kd u a4 a6 bs.length bs.length cp4 cp6 bs w8 rfl rfl (hrd4.1.below (below_over h58)) (hrd6.1.below (below_over hb8)))
  have H58 := Lib.hid h58
  clear hor hcv hb8 h58 hrd4 hrd6 K8 H37 H7
  go_wp2_with fail
  refine K9.out.mono ?_
  rintro e w9 ⟨rfl, hb9⟩
  have h59 := H58.out.trans (hb9.mono H58.out.size)
  have H39 := Lib.hid (H38.out.trans (hb9.mono H38.out.size))
  clear c0 c1 c2 c3 f0 f1 f2 f3 k0 k1 k2 k3 m0 m1 m2 m3
  obtain ⟨⟨_, _, _, c3⟩, _, hz9⟩ := cells4 h59
  have H49 := Lib.hid (below_over h59)
  have hs9 := hb9.size
  have HCV9 : Hid (CV E pc ec (w6.heap.size + 1) w8.heap.size w9 fv) := by
    rcases HCV.out with h | ⟨g, k, h1, h2, h3, h4, h5, h6⟩
    · exact Or.inl h
    · exact Or.inr ⟨g, k, h1, h2, h3, h4, cell_below hb9 h5, cell_below hb9 h6⟩
  obtain ⟨g, hg1, hg2, hg3, hg4⟩ : ∃ g, w3.heap.size ≤ g ∧ (g < w4.heap.size ∨ w9.heap.size ≤ g) ∧ (bs.length ≠ 0 → a4 = some ⟨g, 0, none⟩) ∧ Wr g bs.length w9 := by
    rcases HV4.out with ⟨h1, h2⟩ | h1
    · subst h2
      exact ⟨w9.heap.size, by omega, Or.inr (Nat.le_refl _), fun h => absurd rfl h, fun q hq => by simp at hq⟩
    · obtain ⟨_, g, cp, e⟩ := id h1
      cases e
      have hlt := h1.1.lt g rfl
      exact ⟨g, hlt.1, Or.inl hlt.2, fun _ => rfl, (h1.below H49.out).wr HBl.out⟩
  have HG := Lib.hid hg3
  have HWr := Lib.hid hg4
  have HC3 := Lib.hid c3
  clear hb9 h59 K9 H58 H38 HCV HV4 HV6 H4 H6 hg3 hg4 c3
  go_wp2
  go_loopw [13] (fun x wr => ∃ j : Nat, j ≤ bs.length ∧ x = .int .i64 j ∧ Hid (Far g w9 wr) ∧ Hid (Below w3.heap.size w3 wr) ∧ Hid (Wr g bs.length wr)) (fun x _ => bs.length - (intOf x).toNat)
  case atStart => exact ⟨0, Nat.zero_le _, rfl, ⟨rfl, fun _ _ _ => rfl⟩, H39, HWr⟩
  case round =>
    obtain ⟨j, hj, rfl, HF, H3r, HWj⟩ := hrel
    have c3 := (HF.out.2 w4.heap.size 3 (by omega)).trans HC3.out
    by_cases hlt : j < bs.length
    · have ha4 := HG.out (by omega)
      subst ha4
      obtain ⟨⟨c, hc, hcell⟩, hfr⟩ := HWj.out j hlt
      have hxr := xor1 ⟨c, hc⟩
      simp only at hxr
      obtain ⟨y, hy, hy2⟩ : ∃ y, y < 256 ∧ (c ^^^ 1) % 256 = y := ⟨_, Nat.mod_lt _ (by omega), rfl⟩
      rw [hy2] at hxr
      clear hy2
      go_wp2
      go_region
      all_goals
        go_wp2
        go_roundw
        case rel => exact ⟨j + 1, by omega, by push_cast; rfl, HF.out.step, (H3r.out.setCell hg1 _).drew, HWj.out.step hy⟩
        case measure => simp [intOf]; omega
    · obtain rfl : j = bs.length := by omega
      have HCVr : Hid (CV E pc ec (w6.heap.size + 1) w8.heap.size wr fv) := by
        rcases HCV9.out with h | ⟨g', k, h1, h2, h3, h4, h5, h6⟩
        · exact Or.inl h
        · exact Or.inr ⟨g', k, h1, h2, h3, h4, (HF.out.2 g' 0 (by omega)).trans h5, (HF.out.2 g' 1 (by omega)).trans h6⟩
      have hs3r := H3r.out.size
      have hlen3 : w3.heap.size ≤ wr.heap.size := hs3r
      clear HF HWj HC3 HCV9 HG HWr H49 H39
      go_wp2_with fail
      refine (bytes_any a l.length cap l wr rfl (HA.out.below H3r.out) (by omega)).mono ?_
      rintro e w20 ⟨v20, rfl, hv20, hb20⟩
      obtain ⟨g20, cp20, rfl⟩ := hv20.2
      have HV20 := Lib.hid hv20
      have X20 := Lib.hid hb20
      have Hlit20 := Lib.hid (Rd.lit w20 #[.int .u8 47, .int .u8 11] 5 [47, 11] (by decide) rfl)
      have hs20 := hb20.size
      clear hb20 hv20
      go_wp2_with (at_builtin; refine wpList_app _ rfl _ _ 22 rfl wr.heap.size _ 5 i0 (.int .u8 0) Tryd.underlying22 hi hz0 hz1b Hz2.out rfl _ l.length (vals l) rfl (HV20.out.1.alloc _) (by intro e; cases e) _ 2 2 [47, 11] rfl rfl Hlit20.out ?_ ?_ ?_; omega; (simp; omega); intro g21 cp21 w21 hown21 hgrow21)
      have hv21 := own_app (l := l) (bs := [47, 11]) rfl hown21
      have HR21 := Lib.hid (own_rd hv21 (by simp) HLt.out).1
      have X21 : Below wr.heap.size wr w21 := (X20.out.alloc hs20 (.cells #[.int .u8 47, .int .u8 11] 5)).grown hgrow21 (by simp; omega) (fun k e => by cases e; exact (HV20.out.1.lt g20 rfl).1)
      have H21 := Lib.hid (H3r.out.trans (X21.mono hs3r))
      have XR := Lib.hid X21
      clear hown21 hgrow21 hv21 X21 HV20 Hlit20 X20
      refine (same_any _ _ _ _ _ _ (l ++ [47, 11]) (l ++ [47, 11]) _ (by simp) (by simp) (HR3.out.below H21.out) HR21.out).mono ?_
      rintro e w22 ⟨rfl, rfl⟩
      rw [decide_eq_true rfl]
      clear HR21
      go_wp2_with fail
      refine (is_er G9.out w21 (HE3.out.below H21.out)).mono ?_
      rintro e w22 ⟨rfl, hb22⟩
      have H22 := Lib.hid (H21.out.trans (hb22.mono H21.out.size))
      have XR22 := Lib.hid (XR.out.trans (hb22.mono XR.out.size))
      clear hb22
      go_wp2_with fail
      have K23 := refCheck_any (B := w.heap.size) a l.length cap l w22 rfl (by omega) hcap (by have := H22.out.size; omega) (HA.out.below H22.out)
      rw [HY.out] at K23
      refine K23.mono ?_
      intro e w23 hp23
      obtain ⟨x, rfl, K24⟩ := same_chk GC.out (HE3.out.below (H22.out.trans (hp23.choose_spec.2.2.mono H22.out.size))) HCVr.out (XR22.out.trans (hp23.choose_spec.2.2.mono XR22.out.size)) ⟨w22, hp23⟩
      have H23 := Lib.hid (H22.out.trans (hp23.choose_spec.2.2.mono H22.out.size))
      have K24 := Lib.hid K24
      clear hp23 K23
      go_wp2_with fail
      refine K24.out.mono ?_
      rintro e w24 ⟨rfl, hb24⟩
      have H24 := Lib.hid (H23.out.trans (hb24.mono H23.out.size))
      clear hb24 K24
      go_wp2_with fail
      refine (text_any (B := w.heap.size) a l.length cap l w24 rfl hcap (by omega) (HA.out.below H24.out) (tabs_below HT3.out H24.out)).mono ?_
      rintro e w25 ⟨rfl, hb25⟩
      have H25 := Lib.hid (H24.out.trans (hb25.mono H24.out.size))
      clear hb25
      go_wp2_with fail
      refine (refText_any (B := w.heap.size) a cap l w25 (by omega) (HA.out.below H25.out)).mono ?_
      rintro e w26 ⟨rfl, rfl⟩
      generalize T.tx l = t
      cases t
      all_goals
        go_wp2
        go_ret
        exact ⟨rfl, HB3.out.trans (H25.out.mono hs3)⟩
end Go.Proofs.YtnejachdacakcaaDoor
