/-
The walks of wire.faultOf and wire.Check.
-/
import Derived.Test.YthipecjjmboecaaDoorWtop
namespace Go.Proofs.YthipecjjmboecaaDoor
open Go.RowKit

def FaultOut (E : Nat → Addr) (r : Nat × Nat) (w : World) (e : Ending) (w' : World) : Prop :=
  e = .returned (.tuple #[.int .i64 (r.1 : Nat), er E r.2]) ∧ Below w.heap.size w w'

set_option maxRecDepth 100000 in
set_option maxHeartbeats 2000000 in
theorem fault_any {B lv : Nat} (hlv : lv ≤ 32) (a : Option Addr) (len cap : Nat) (l : List Nat) (d : Int) (E : Nat → Addr) (w : World) (hlen : l.length = len) (hcap : len ≤ cap) (hn : len ≤ 9223372036854775807) (hBw : B ≤ w.heap.size) (hr : Rd B w a l) (hE : Errs w E) (hd : d = 32 - lv) :
    Calls Tryd.prog 50 #[.slice a len cap, .int .i64 d] w (FaultOut E (W.chk lv l) w) := by
  have Hd := Lib.hid hd
  have Hr := Lib.hid hr
  have HE := Lib.hid hE
  have Hl := Lib.hid hlen
  clear hr hE hlen hd
  go_enter Tryd.func50, Tryd.ntmps50
  go_wp2_with fail
  refine (readers_any _).mono ?_
  rintro e w1 ⟨bm, rfl, hbm, hBy, hb1⟩
  have HBy := Lib.hid hBy
  have HB1 := Lib.hid hb1
  have hs1 := hb1.size
  clear hBy hb1
  go_wp2
  go_loopw [7] (fun i wr => ∃ at_ n : Nat, at_ ≤ len ∧ i = .int .i64 at_ ∧ len + 1 ≤ n + at_ ∧ Hid (W.chk lv l = W.faultF lv l n at_) ∧ Hid (Below w1.heap.size w1 wr)) (fun i _ => len - (intOf i).toNat)
  case atStart => exact ⟨0, l.length + 1, by omega, rfl, by rw [Hl.out]; omega, rfl, Below.refl _ _⟩
  case round =>
    obtain ⟨at_, n, hat, rfl, hna, HL, HBr⟩ := hrel
    have hsr := HBr.out.size
    have HBw : Hid (Below w.heap.size w wr) := HB1.out.trans (HBr.out.mono hs1)
    obtain ⟨n, rfl⟩ : ∃ m, n = m + 1 := ⟨n - 1, by omega⟩
    by_cases hlt : at_ < len
    · obtain ⟨f, kd, u, bs, sz, k, hx⟩ : ∃ f kd u bs sz k, W.nextF lv (l.drop at_) = (f, kd, u, bs, sz, k) := ⟨_, _, _, _, _, _, rfl⟩
      have hok := fun h => W.nextF_ok (lv := lv) (l := l.drop at_) (show (W.nextF lv (l.drop at_)).2.2.2.2.2 = 0 by rw [hx]; exact h)
      rw [hx, List.length_drop, Hl.out] at hok
      simp only at hok
      have hst : Hid (W.chk lv l = if k ≠ 0 then (at_, k) else W.faultF lv l n (at_ + sz)) := by
        show _ = _
        rw [HL.out]
        show (if l.length ≤ at_ then _ else _) = _
        rw [if_neg (by rw [Hl.out]; omega), hx]
      have HX := Lib.hid hx
      have HOK := Lib.hid hok
      clear hx hok HL
      have hrf := run_from a len cap at_ hat
      have hR : Hid (Rd B wr (cutA a cap at_) (l.drop at_)) := (Hr.out.below HBw.out).drop (by rw [Hl.out]; exact hcap)
      generalize cutA a cap at_ = a2 at hrf hR
      go_wp2_with fail
      refine (next_any (B := B) (group_all lv hlv) hlv bm a2 (len - at_) (cap - at_) (l.drop at_) d E wr (by rw [List.length_drop, Hl.out]) (by omega) (by omega) (by omega) hR.out (HE.out.below HBw.out) (HBy.out.below HBr.out) Hd.out).mono ?_
      rintro e w2 ⟨a', cap', he, h1, h2, h3, h4⟩
      subst he
      rw [HX.out] at h1 h2 ⊢
      simp only at h1 h2 ⊢
      have HB2 := Lib.hid (HBr.out.trans (h4.mono hsr))
      have hs2 := h4.size
      clear h1 h2 h3 h4 hrf
      cases k with
      | succ k =>
        unfold er
        go_wp2
        go_ret2
        refine ⟨?_, ?_⟩
        · rw [hst.out, if_pos (by omega)]; rfl
        · have hov := HB1.out.trans (HB2.out.mono hs1)
          repeat (first | with_reducible exact hov | with_reducible refine Below.drew ?_ | with_reducible refine below_q ?_ _ | with_reducible refine Below.setCell ?_ (by first | omega | (simp; done) | (simp; omega)) _ | with_reducible refine Below.alloc ?_ (by first | omega | (simp; done) | (simp; omega)) _)
      | zero =>
        obtain ⟨hz1, hz2⟩ := HOK.out rfl
        have hsum : at_ + sz ≤ len := by omega
        unfold er
        go_wp2
        go_roundw
        case rel =>
          refine ⟨at_ + sz, n, hsum, by push_cast; rfl, by omega, ?_, ?_⟩
          · show _ = _
            rw [hst.out, if_neg (by omega)]
          · show Below _ _ _
            have hov := HB2.out
            repeat (first | with_reducible exact hov | with_reducible refine Below.drew ?_ | with_reducible refine below_q ?_ _ | with_reducible refine Below.setCell ?_ (by first | omega | (simp; done) | (simp; omega)) _ | with_reducible refine Below.alloc ?_ (by first | omega | (simp; done) | (simp; omega)) _)
        case measure => simp [intOf]; omega
    · obtain rfl : at_ = len := by omega
      have hst : Hid (W.chk lv l = (0, 0)) := by
        show _ = _
        rw [HL.out]
        show (if l.length ≤ _ then _ else _) = _
        rw [if_pos (by rw [Hl.out]; omega)]
      go_wp2
      go_ret2
      refine ⟨?_, HBw.out⟩
      rw [hst.out]
      rfl

/-- What Check hands back: nil, or a new *api.At. -/
def CheckOut (E : Nat → Addr) (r : Nat × Nat) (w : World) (e : Ending) (w' : World) : Prop :=
  Below w.heap.size w w' ∧ ((r.2 = 0 ∧ e = .returned .nilIface) ∨
    ∃ g k, r.2 = k + 1 ∧ e = .returned (.iface 90 (.pointer (some ⟨g, 0, none⟩))) ∧ w.heap.size ≤ g ∧ w'.cell? ⟨g, 0, none⟩ = some (.int .i64 (r.1 : Nat)) ∧ w'.cell? ⟨g, 1, none⟩ = some (er E (k + 1)))

set_option maxRecDepth 100000 in
theorem check_any {B : Nat} (a : Option Addr) (len cap : Nat) (l : List Nat) (E : Nat → Addr) (w : World) (hlen : l.length = len) (hcap : len ≤ cap) (hn : len ≤ 9223372036854775807) (hBw : B ≤ w.heap.size) (hr : Rd B w a l) (hE : Errs w E) :
    Calls Tryd.prog 17 #[.slice a len cap] w (CheckOut E (W.chk 32 l) w) := by
  obtain ⟨p, k, hx⟩ : ∃ p k, W.chk 32 l = (p, k) := ⟨_, _, rfl⟩
  have HF := Lib.hid (fault_any (B := B) (lv := 32) (by omega) a len cap l 0 E w hlen hcap hn hBw hr hE (by simp))
  rw [hx] at HF ⊢
  clear hx hr hE hlen
  go_enter Tryd.func17, Tryd.ntmps17
  go_wp2_with fail
  refine HF.out.mono ?_
  rintro e w1 ⟨rfl, hb⟩
  have HB := Lib.hid hb
  have hs1 := hb.size
  clear hb HF
  cases k with
  | succ k =>
    simp only
    unfold er
    go_wp2
    go_ret
    refine ⟨HB.out.alloc hs1 _, Or.inr ⟨w1.heap.size, k, rfl, rfl, hs1, ?_, ?_⟩⟩
    · simp
    · simp [er]
  | zero =>
    simp only
    unfold er
    go_wp2
    go_ret
    exact ⟨HB.out, Or.inl ⟨rfl, rfl⟩⟩
end Go.Proofs.YthipecjjmboecaaDoor
