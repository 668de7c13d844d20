/-
The walk of parleyref1.Next.
-/
import Derived.Test.YthipecjjmboecaaDoorWrefg
namespace Go.Proofs.YthipecjjmboecaaDoor
open Go.RowKit

theorem refNext_all {B : Nat} (a : Option Addr) (len cap : Nat) (l : List Nat) (w : World) (hlen : l.length = len) (hn : len ≤ 140737488355328) (hcap : len ≤ cap) (hBw : B ≤ w.heap.size) (hr : Rd B w a l) :
    Calls Tryd.prog 12 #[.slice a len cap] w (RefOut (W.nextF 32 l) w) := by
  have HN := Lib.hid (refNext_of (refGroup_all 32 (by omega)) a len cap l 0 (w.alloc (.cells #[.int .i64 0, .int .i64 0, .int .u64 0, .slice none 0 0] 30)) hlen hn hcap (by simp; omega) (hr.below ((Below.refl _ _).alloc (Nat.le_refl _) _)) (by simp))
  obtain ⟨f, k, u, bs, sz, e, hx⟩ : ∃ f k u bs sz e, W.nextF 32 l = (f, k, u, bs, sz, e) := ⟨_, _, _, _, _, _, rfl⟩
  rw [hx] at HN ⊢
  clear hx hr hlen
  go_enter Tryd.func12, Tryd.ntmps12
  go_wp2_with fail
  refine HN.out.mono ?_
  rintro e' w2 ⟨v, rfl, hv, hb2⟩
  obtain ⟨a', cap', rfl⟩ := hv.sl
  obtain ⟨⟨c0, c1, c2, c3⟩, ⟨f0, f1, f2, f3⟩, hs2⟩ := cells4 hb2
  have HB2 := Lib.hid (below_over hb2)
  have HV : Hid (Bs (w.heap.size + 1) w2 (.slice a' bs.length cap') bs) := by have := hv; simp only [World.size_alloc] at this; exact this
  clear hv hb2 HN
  simp only
  go_wp2
  refine bodyPost_ret (v := .tuple #[.agg #[.int .i64 f, .int .i64 k, .int .u64 u, .slice a' bs.length cap'], .int .i64 sz, .int .i64 (cd e)]) (by simp [results, Tryd.results12, go_sem, c0, c1, c2, c3]) rfl ?_
  refine ⟨_, rfl, Bs.mono (B := w.heap.size + 1) ?_ (by omega), ?_⟩
  · show Bs _ _ _ bs
    have hown := HV.out
    repeat (first | with_reducible exact hown | with_reducible refine Bs.set ?_ (by first | omega | (simp; done) | (simp; omega)) _)
  · have hov := HB2.out
    repeat (first | with_reducible exact hov | with_reducible refine Below.setCell ?_ (by first | omega | (simp; done) | (simp; omega)) _)
end Go.Proofs.YthipecjjmboecaaDoor
