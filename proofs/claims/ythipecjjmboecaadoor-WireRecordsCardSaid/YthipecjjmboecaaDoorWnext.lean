/-
The walks of wire.readGroup, its closure in the map, and wire.next: by induction on the levels of groups that are left.
-/
import Derived.Test.YthipecjjmboecaaDoorWby
import Derived.Test.YthipecjjmboecaaDoorGcells
import Derived.Deep.RegionWith
namespace Go.Proofs.YthipecjjmboecaaDoor
open Go.RowKit

theorem tg_len {B : Nat} (a : Option Addr) (len cap : Nat) (l : List Nat) (E : Nat → Addr) (w : World) (hlen : l.length = len) (hn : len ≤ 9223372036854775807) (hr : Rd B w a l) (hE : Errs w E) :
    Calls Tryd.prog 69 #[.slice a len cap] w fun e w' => e = .returned (tgV E (W.tg l)) ∧ ∃ q, w' = w.drewN q := by
  subst hlen; exact tg_any a cap l E w hn hr hE

/-- A reader of one kind, wherever old memory stands. -/
def ReaderOK (w0 : World) (E : Nat → Addr) (lv kd fn : Nat) (cp : Array Value) : Prop :=
  ∀ (B : Nat) (ww : World) (a : Option Addr) (len cap : Nat) (l : List Nat) (f : Nat) (d : Int) (r : Nat × List Nat × Nat × Nat), Below w0.heap.size w0 ww → l.length = len → len ≤ 9223372036854775807 → len ≤ cap → B ≤ ww.heap.size → Rd B ww a l → d = 32 - lv → W.bodyF lv kd l f = r →
    Calls Tryd.prog fn (#[.slice a len cap, .int .i64 f, .int .i64 d] ++ cp) ww (BodyPost B E cap r ww)

/-- What a call of a reader found in the map leaves: as BodyPost, seen from the world w ahead of the world ww of the call. -/
def FoundPost (B : Nat) (E : Nat → Addr) (capM : Nat) (r : Nat × List Nat × Nat × Nat) (w ww : World) (e : Ending) (w' : World) : Prop :=
  ∃ a' cap', e = .returned (.tuple #[.agg #[.int .u64 (r.1 : Nat), .slice a' r.2.1.length cap', .int .i64 (r.2.2.1 : Nat)], er E r.2.2.2]) ∧ Rd B w' a' r.2.1 ∧ r.2.1.length ≤ cap' ∧ cap' ≤ capM ∧ Below w.heap.size w w' ∧ Below ww.heap.size ww w'

/-- The walk of a group, lv levels left. -/
def GroupOK (lv : Nat) : Prop :=
  ∀ (B bm : Nat) (a : Option Addr) (len cap : Nat) (l : List Nat) (f : Nat) (d : Int) (E : Nat → Addr) (w : World), l.length = len → len ≤ 9223372036854775807 → len ≤ cap → B ≤ w.heap.size → Rd B w a l → Errs w E → ByAt w bm → d = 32 - lv →
    Calls Tryd.prog 67 #[.map (some bm), .slice a len cap, .int .i64 f, .int .i64 d] w (BodyPost B E cap (W.groupF lv f l) w)

set_option maxRecDepth 100000 in
theorem closure_any {B lv : Nat} (hG : GroupOK lv) (cb bm : Nat) (a : Option Addr) (len cap : Nat) (l : List Nat) (f : Nat) (d : Int) (E : Nat → Addr) (w : World) (hlen : l.length = len) (hn : len ≤ 9223372036854775807) (hcap : len ≤ cap) (hBw : B ≤ w.heap.size) (hr : Rd B w a l) (hE : Errs w E) (hB : ByAt w bm)
    (hd : d = 32 - lv) (hcb : w.cell? ⟨cb, 0, none⟩ = some (.map (some bm))) :
    Calls Tryd.prog 66 #[.slice a len cap, .int .i64 f, .int .i64 d, .pointer (some ⟨cb, 0, none⟩)] w (BodyPost B E cap (W.groupF lv f l) w) := by
  have hs := World.block_lt_of_cell? w _ hcb
  simp only at hs
  have b0 := (Below.refl w.heap.size w).alloc (Nat.le_refl _) (.cells #[.int .u64 0, .slice none 0 0, .int .i64 0] 108)
  have HG := hG B bm a len cap l f d E _ hlen hn hcap (by simp; omega) (hr.below b0) (hE.below b0) (hB.below b0) hd
  obtain ⟨u, bs, sz, k, hx⟩ : ∃ u bs sz k, W.groupF lv f l = (u, bs, sz, k) := ⟨_, _, _, _, rfl⟩
  rw [hx] at HG ⊢
  clear hx hG hd hE hB b0
  have HC := Lib.hid HG
  have Hr := Lib.hid hr
  have Hl := Lib.hid hlen
  clear HG hr hlen
  go_enter Tryd.func66, Tryd.ntmps66
  go_wp2_with fail
  refine HC.out.mono ?_
  rintro e w1 ⟨a', cap', he, h1, h2, h3, hb⟩
  subst he
  obtain ⟨⟨c0, c1, c2⟩, ⟨f0, f1, f2⟩, hs1⟩ := cells3 hb
  have HB1 := Lib.hid (below_over hb)
  have HR := Lib.hid h1
  have H2 := Lib.hid h2
  have H3 := Lib.hid h3
  clear h1 h2 h3 hb
  simp only
  generalize hk : er E k = ek
  generalize hnb : bs.length = nb
  have HK := Lib.hid hk
  have HN := Lib.hid hnb
  clear hk hnb
  go_wp2
  refine bodyPost_ret (v := .tuple #[.agg #[.int .u64 u, .slice a' nb cap', .int .i64 sz], ek]) (by simp [results, Tryd.results66, go_sem, c0, c1, c2]) rfl ?_
  have hB : Below w.heap.size w (((w1.setCell ⟨w.heap.size, 0, none⟩ (.int .u64 u)).setCell ⟨w.heap.size, 1, none⟩ (.slice a' nb cap')).setCell ⟨w.heap.size, 2, none⟩ (.int .i64 sz)) :=
    ((HB1.out.setCell (by simp) _).setCell (by simp) _).setCell (by simp) _
  refine ⟨a', cap', ?_, ?_, H2.out, H3.out, hB⟩
  · rw [← HK.out, ← HN.out]
  · exact HR.out.belowB ((((Below.refl _ w1).setCell hBw _).setCell hBw _).setCell hBw _)

/-- What a look-up in the map gives, at whatever old memory stands behind it. -/
theorem found {lv : Nat} (hG : GroupOK lv) {w : World} {bm : Nat} {E : Nat → Addr} (hE : Errs w E) (hB : ByAt w bm) (kd : Nat) (hk : kd ≤ 5) :
    ∃ fn cp, (∀ ww args, (callFunc fn args).run Tryd.prog ww = .ok (.enter fn args) ww) ∧ ReaderOK w E lv kd fn cp ∧
      ∀ ww, Below w.heap.size w ww → (Instr.lookup 83 (.map (some bm)) (.int .i64 (kd : Nat)) false).run Tryd.prog ww = .ok (.func (.func fn) #[] cp) ww := by
  obtain ⟨c8, c4, cb, h8, h4, hcb, hl⟩ := by_get hB
  have call : ∀ (fn : Nat) (g : Func), Tryd.prog.funcs[fn]? = some g → (g.name == "runtime.NumGoroutine") = false → g.body.isNone = false → ∀ ww args, (callFunc fn args).run Tryd.prog ww = .ok (.enter fn args) ww := by
    intro fn g h1 h2 h3 ww args
    have e2 : ¬ g.name = "runtime.NumGoroutine" := fun e => by rw [e] at h2; simp at h2
    have e3 : ¬ g.body = none := fun e => by rw [e] at h3; cases h3
    simp [callFunc, h1, e2, e3]
  match kd, hk with
  | 0, _ =>
    refine ⟨63, #[], call _ _ Tryd.func63 (by kernel_rfl) (by kernel_rfl), ?_, fun ww hb => (hl ww hb).1⟩
    rintro B ww a len cap l f d r hb rfl hn hcap hBw hr hd rfl
    rw [W.bodyF_eq]
    exact readVarint_any a cap l f d E ww hn hr (hE.below hb)
  | 1, _ =>
    refine ⟨78, #[.pointer (some ⟨c8, 0, none⟩)], call _ _ Tryd.func78 (by kernel_rfl) (by kernel_rfl), ?_, fun ww hb => (hl ww hb).2.1⟩
    rintro B ww a len cap l f d r hb rfl hn hcap hBw hr hd rfl
    rw [W.bodyF_eq]
    exact readFixed_any _ a cap l 8 (Or.inr rfl) f d E ww hn hcap hr (hE.below hb) (cell_below hb h8)
  | 2, _ =>
    refine ⟨65, #[], call _ _ Tryd.func65 (by kernel_rfl) (by kernel_rfl), ?_, fun ww hb => (hl ww hb).2.2.1⟩
    rintro B ww a len cap l f d r hb rfl hn hcap hBw hr hd rfl
    rw [W.bodyF_eq]
    exact readBytes_any a cap l f d E ww hn hcap hr (hE.below hb)
  | 3, _ =>
    refine ⟨66, #[.pointer (some ⟨cb, 0, none⟩)], call _ _ Tryd.func66 (by kernel_rfl) (by kernel_rfl), ?_, fun ww hb => (hl ww hb).2.2.2.1⟩
    rintro B ww a len cap l f d r hb hlen hn hcap hBw hr hd rfl
    rw [W.bodyF_eq]
    exact closure_any hG cb bm a len cap l f d E ww hlen hn hcap hBw hr (hE.below hb) (hB.below hb) hd (cell_below hb hcb)
  | 4, _ =>
    refine ⟨68, #[], call _ _ Tryd.func68 (by kernel_rfl) (by kernel_rfl), ?_, fun ww hb => (hl ww hb).2.2.2.2.1⟩
    rintro B ww a len cap l f d r hb hlen hn hcap hBw hr hd rfl
    rw [W.bodyF_eq]
    exact readEnd_any a len cap f d E ww (hE.below hb)
  | 5, _ =>
    refine ⟨78, #[.pointer (some ⟨c4, 0, none⟩)], call _ _ Tryd.func78 (by kernel_rfl) (by kernel_rfl), ?_, fun ww hb => (hl ww hb).2.2.2.2.2⟩
    rintro B ww a len cap l f d r hb rfl hn hcap hBw hr hd rfl
    rw [W.bodyF_eq]
    exact readFixed_any _ a cap l 4 (Or.inl rfl) f d E ww hn hcap hr (hE.below hb) (cell_below hb h4)
end Go.Proofs.YthipecjjmboecaaDoor
