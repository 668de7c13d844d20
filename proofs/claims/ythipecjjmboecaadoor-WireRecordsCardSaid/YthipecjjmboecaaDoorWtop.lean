/-
The walks of wire.Next and wire.faultOf, wire.Check.
-/
import Derived.Test.YthipecjjmboecaaDoorWgroup
import Derived.Test.YthipecjjmboecaaDoorWrec
import Derived.Test.YthipecjjmboecaaDoorWapp
import Derived.Test.YthipecjjmboecaaDoorWmathc
namespace Go.Proofs.YthipecjjmboecaaDoor
open Go.RowKit

/-- What wire.Next hands back: as the plain function says; its bytes are the call's own. -/
def NextOut (E : Nat → Addr) (r : Nat × Nat × Nat × List Nat × Nat × Nat) (w : World) (e : Ending) (w' : World) : Prop :=
  ∃ v, e = .returned (.tuple #[.agg #[.int .i64 (r.1 : Nat), .int .i64 (r.2.1 : Nat), .int .u64 (r.2.2.1 : Nat), v], .int .i64 (r.2.2.2.2.1 : Nat), er E r.2.2.2.2.2]) ∧
    (r.2.2.2.2.2 = 0 → Own w.heap.size w' v r.2.2.2.1) ∧ (r.2.2.2.2.2 ≠ 0 → v = .slice none 0 0) ∧ Below w.heap.size w w'

theorem Own.set {B : Nat} {w : World} {v : Value} {l : List Nat} (h : Own B w v l) {p : Addr} (hp : p.block < B) (u : Value) : Own B (w.setCell p u) v l :=
  ⟨ownsRow_setCell_below h.1 hp u, h.2⟩

set_option maxRecDepth 100000 in
set_option maxHeartbeats 2000000 in
theorem Next_any {B : Nat} (a : Option Addr) (len cap : Nat) (l : List Nat) (E : Nat → Addr) (w : World) (hlen : l.length = len) (hcap : len ≤ cap) (hn : len ≤ 140737488355328) (hBw : B ≤ w.heap.size) (hr : Rd B w a l) (hE : Errs w E) :
    Calls Tryd.prog 40 #[.slice a len cap] w (NextOut E (W.nextF 32 l) w) := by
  obtain ⟨f, kd, u, bs, sz, k, hx⟩ : ∃ f kd u bs sz k, W.nextF 32 l = (f, kd, u, bs, sz, k) := ⟨_, _, _, _, _, _, rfl⟩
  have hbl := W.nextF_bytes 32 l
  rw [hx, hlen] at hbl
  have Hbl : Hid (bs.length ≤ len) := hbl
  clear hbl
  have HX := Lib.hid hx
  clear hx
  have Hr := Lib.hid hr
  have HE := Lib.hid hE
  have Hl := Lib.hid hlen
  clear hr hE hlen
  rw [HX.out]
  go_enter Tryd.func40, Tryd.ntmps40
  go_wp2_with fail
  refine (readers_any _).mono ?_
  rintro e w1 ⟨bm, rfl, hbm, hBy, hb1⟩
  obtain ⟨⟨c0, c1, c2, c3⟩, ⟨f0, f1, f2, f3⟩, hs1⟩ := cells4 hb1
  have HBy := Lib.hid hBy
  have HB1 := Lib.hid (below_over hb1)
  have HB1' := Lib.hid hb1
  clear hBy hb1
  go_wp2_with fail
  refine (next_any (B := B) (group_all 32 (by omega)) (by omega) bm a len cap l 0 E w1 Hl.out (by omega) hcap (by omega) (Hr.out.below HB1.out) (HE.out.below HB1.out) HBy.out (by simp)).mono ?_
  rintro e w2 ⟨a', cap', he, h1, h2, h3, h4⟩
  subst he
  rw [HX.out] at h1 h2 ⊢
  simp only at h1 h2 ⊢
  have hb2 : Below (w.alloc (.cells #[.int .i64 0, .int .i64 0, .int .u64 0, .slice none 0 0] 29)).heap.size (w.alloc (.cells #[.int .i64 0, .int .i64 0, .int .u64 0, .slice none 0 0] 29)) w2 :=
    HB1'.out.trans (h4.mono (by simp; omega))
  obtain ⟨⟨d0, d1, d2, d3⟩, ⟨e0, e1, e2, e3⟩, hs2⟩ := cells4 hb2
  have HB2 := Lib.hid (below_over hb2)
  have HB2' := Lib.hid hb2
  have H1 := Lib.hid h1
  have H2 := Lib.hid h2
  clear c0 c1 c2 c3 f0 f1 f2 f3 HB1' h4 hb2 h1 h2
  cases k with
  | succ k =>
    unfold er
    go_wp2
    refine bodyPost_ret (v := .tuple #[.agg #[.int .i64 0, .int .i64 0, .int .u64 0, .slice none 0 0], .int .i64 0, .iface 124 (.pointer (some (E k)))]) (by simp [results, Tryd.results40, go_sem, d0, d1, d2, d3, hs2]) rfl ?_
    have hz := W.nextF_err (lv := 32) (l := l) (k := k) (by rw [HX.out])
    rw [HX.out] at hz
    cases hz
    refine ⟨_, rfl, fun h => absurd h (by simp), fun _ => rfl, ?_⟩
    have hov := HB2.out
    repeat (first | with_reducible exact hov | with_reducible refine Below.drew ?_ | with_reducible refine below_q ?_ _ | with_reducible refine Below.setCell ?_ (by first | omega | (simp; done) | (simp; omega)) _ | with_reducible refine Below.alloc ?_ (by first | omega | (simp; done) | (simp; omega)) _)
  | zero =>
    generalize hnb : bs.length = nb at *
    have HN := Lib.hid hnb
    clear hnb
    unfold er
    go_wp2_with fail
    refine (show Calls _ _ #[_, .int .i64 0] _ _ from fresh_any (B2 := B) a' nb cap' bs 0 _ HN.out (H1.out.below ((Below.refl _ _).alloc (Nat.le_refl _) _)) (by have h2 := Hbl.out; have h3 := HN.out; omega)).mono ?_
    rintro e w3 ⟨v, rfl, hv, hb3⟩
    obtain ⟨gb, cp, rfl⟩ := hv.2
    obtain ⟨⟨g0, g1, g2, g3⟩, ⟨p0, p1, p2, p3⟩, hs3⟩ := cells4 hb3
    have hb4 := HB2'.out.trans ((below_over hb3).mono (by simp; omega))
    clear d0 d1 d2 d3 e0 e1 e2 e3
    obtain ⟨⟨d0, d1, d2, d3⟩, ⟨e0, e1, e2, e3⟩, hs4⟩ := cells4 hb4
    have HB4 := Lib.hid (below_over hb4)
    have HV := Lib.hid hv
    clear hb3 hb4 hv HB2'
    go_wp2
    refine bodyPost_ret (v := .tuple #[.agg #[.int .i64 f, .int .i64 kd, .int .u64 u, .slice (some ⟨gb, 0, none⟩) bs.length cp], .int .i64 sz, .nilIface]) (by simp [results, Tryd.results40, go_sem, d0, d1, d2, d3]) rfl ?_
    refine ⟨_, rfl, fun _ => ?_, fun h => absurd rfl h, ?_⟩
    · have h := HV.out
      have hlt : w.heap.size < (w2.alloc (.cells #[.int .i64 f, .int .i64 kd, .int .u64 u, .slice a' nb cap'] 29)).heap.size := by simp; omega
      have hlt2 : w2.heap.size < (w2.alloc (.cells #[.int .i64 f, .int .i64 kd, .int .u64 u, .slice a' nb cap'] 29)).heap.size := by simp
      exact (((((h.set hlt2 _).set hlt _).set hlt _).set hlt _).set hlt _).mono (by omega)
    · have hov := HB4.out
      repeat (first | with_reducible exact hov | with_reducible refine Below.drew ?_ | with_reducible refine below_q ?_ _ | with_reducible refine Below.setCell ?_ (by first | omega | (simp; done) | (simp; omega)) _ | with_reducible refine Below.alloc ?_ (by first | omega | (simp; done) | (simp; omega)) _)
end Go.Proofs.YthipecjjmboecaaDoor
