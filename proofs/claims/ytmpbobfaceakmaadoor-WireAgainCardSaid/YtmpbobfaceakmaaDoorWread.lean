/-
The readers over bytes that a function has made itself, with the answer that they give.
-/
import Derived.Test.YtmpbobfaceakmaaDoorWnum
import Derived.Test.YtmpbobfaceakmaaDoorWfirst
namespace Go.Proofs.YtmpbobfaceakmaaDoor
open Go.RowKit

theorem own_rd {B : Nat} {w : World} {g n cp : Nat} {L : List Nat} (h : Own B w (.slice (some ⟨g, 0, none⟩) n cp) L) (hn : L.length = n) (hl : ∀ x ∈ L, x < 256) :
    Rd w.heap.size w (some ⟨g, 0, none⟩) L ∧ n ≤ cp := by
  subst hn
  obtain ⟨a, cp', e, h1, h2⟩ := h.rd hl
  cases e
  exact ⟨h2, h1⟩

theorem uv_read {B B0 : Nat} {w0 w : World} {g n cp : Nat} {L : List Nat} (E : Nat → Addr) (u m : Nat) (h : Own B w (.slice (some ⟨g, 0, none⟩) n cp) L) (hn : L.length = n) (hl : ∀ x ∈ L, x < 256) (hs : n ≤ 140737488355328) (hE : Errs w E) (hb : Below B0 w0 w)
    (hX : W.uvA L = (u, m, 0)) :
    Calls Tryd.prog 17 #[.slice (some ⟨g, 0, none⟩) n cp] w fun e w' => e = .returned (.tuple #[.int .u64 u, .int .i64 m, .nilIface]) ∧ Below B0 w0 w' := by
  obtain ⟨hr, hc⟩ := own_rd h hn hl
  subst hn
  refine (uv_any _ cp L E w (by omega) hr hE).mono ?_
  rintro e w' ⟨rfl, q, rfl⟩
  rw [hX]
  exact ⟨rfl, below_q hb q⟩

theorem unf_read {B B0 : Nat} {w0 w : World} {g n cp : Nat} {L : List Nat} (E : Nat → Addr) (k u m : Nat) (hk : k = 4 ∨ k = 8) (h : Own B w (.slice (some ⟨g, 0, none⟩) n cp) L) (hn : L.length = n) (hl : ∀ x ∈ L, x < 256) (hs : n ≤ 140737488355328) (hE : Errs w E) (hb : Below B0 w0 w)
    (hX : W.ufx k L = (u, m, 0)) :
    Calls Tryd.prog 21 #[.slice (some ⟨g, 0, none⟩) n cp, .int .i64 k] w fun e w' => e = .returned (.tuple #[.int .u64 u, .int .i64 m, .nilIface]) ∧ Below B0 w0 w' := by
  obtain ⟨hr, hc⟩ := own_rd h hn hl
  subst hn
  refine (unfixed_any _ cp L k hk E w (by omega) hc hr hE).mono ?_
  rintro e w' ⟨rfl, q, rfl⟩
  rw [hX]
  exact ⟨rfl, below_q hb q⟩

theorem untag_read {B0 : Nat} {w0 w : World} (E : Nat → Addr) (f kd : Nat) (h1 : 1 ≤ f) (h2 : f ≤ 536870911) (h3 : kd ≤ 5) (hE : Errs w E) (hb : Below B0 w0 w) :
    Calls Tryd.prog 25 #[.int .u64 ((f * 8 + kd : Nat) : Int)] w fun e w' => e = .returned (.tuple #[.int .i64 f, .int .i64 kd, .nilIface]) ∧ Below B0 w0 w' := by
  refine (untag_any _ E w (by show _ < _; omega) hE).mono ?_
  rintro e w' ⟨rfl, q, rfl⟩
  have e : W.untag (f * 8 + kd) = (f, kd, 0) := by
    unfold W.untag
    rw [show (f * 8 + kd) / 8 = f by omega, show (f * 8 + kd) % 8 = kd by omega, if_neg (by omega)]
  rw [e]
  exact ⟨rfl, below_q hb q⟩

theorem untag_zero {B0 : Nat} {w0 w : World} (E : Nat → Addr) (hE : Errs w E) (hb : Below B0 w0 w) :
    Calls Tryd.prog 25 #[.int .u64 0] w fun e w' => (∃ p, e = .returned (.tuple #[.int .i64 0, .int .i64 0, .iface 125 (.pointer (some p))])) ∧ Below B0 w0 w' := by
  refine (show Calls _ _ #[.int .u64 ((0 : Nat) : Int)] _ _ from untag_any 0 E w (by show _ < _; omega) hE).mono ?_
  rintro e w' ⟨rfl, q, rfl⟩
  have e : W.untag 0 = (0, 0, 3 + 1) := by decide
  rw [e]
  exact ⟨⟨_, rfl⟩, below_q hb q⟩

/-- What reading a record whole gives, as a value. -/
def NextOk (B0 : Nat) (w0 : World) (f kd u : Nat) (bs : List Nat) (m : Nat) (e : Ending) (w' : World) : Prop :=
  ∃ g cp, e = .returned (.tuple #[.agg #[.int .i64 f, .int .i64 kd, .int .u64 u, .slice (some ⟨g, 0, none⟩) bs.length cp], .int .i64 m, .nilIface]) ∧ Own B0 w' (.slice (some ⟨g, 0, none⟩) bs.length cp) bs ∧ Below B0 w0 w'

theorem next_read {B B0 : Nat} {w0 w : World} {g n cp : Nat} {L : List Nat} (E : Nat → Addr) (f kd u m : Nat) (bs : List Nat) (h : Own B w (.slice (some ⟨g, 0, none⟩) n cp) L) (hn : L.length = n) (hl : ∀ x ∈ L, x < 256) (hs : n ≤ 140737488355328) (hE : Errs w E) (hb : Below B0 w0 w) (h0 : B0 ≤ w.heap.size)
    (hX : W.nextF 32 L = (f, kd, u, bs, m, 0)) :
    Calls Tryd.prog 33 #[.slice (some ⟨g, 0, none⟩) n cp] w (NextOk B0 w0 f kd u bs m) := by
  obtain ⟨hr, hc⟩ := own_rd h hn hl
  refine (Next_any _ n cp L E w hn hc hs (Nat.le_refl _) hr hE).mono ?_
  rintro e w' ⟨v, rfl, h1, h2, h3⟩
  rw [hX] at h1 ⊢
  have ho := h1 rfl
  obtain ⟨gv, cv, rfl⟩ := ho.2
  exact ⟨gv, cv, rfl, ho.mono h0, hb.trans (h3.mono h0)⟩

theorem check_read {B B0 : Nat} {w0 w : World} {g n cp : Nat} {L : List Nat} (E : Nat → Addr) (h : Own B w (.slice (some ⟨g, 0, none⟩) n cp) L) (hn : L.length = n) (hl : ∀ x ∈ L, x < 256) (hs : n ≤ 140737488355328) (hE : Errs w E) (hb : Below B0 w0 w) (h0 : B0 ≤ w.heap.size)
    (hX : W.chk 32 L = (0, 0)) :
    Calls Tryd.prog 35 #[.slice (some ⟨g, 0, none⟩) n cp] w fun e w' => e = .returned .nilIface ∧ Below B0 w0 w' := by
  obtain ⟨hr, hc⟩ := own_rd h hn hl
  refine (check_any _ n cp L E w hn hc (by omega) (Nat.le_refl _) hr hE).mono ?_
  rintro e w' ⟨h1, h2⟩
  rw [hX] at h2
  rcases h2 with ⟨_, rfl⟩ | ⟨g', k, h3, _⟩
  · exact ⟨rfl, hb.trans (h1.mono h0)⟩
  · exact absurd h3 (by simp)

theorem lt_app {l r : List Nat} (hl : ∀ x ∈ l, x < 256) (hr : ∀ x ∈ r, x < 256) : ∀ x ∈ l ++ r, x < 256 := by
  intro x hx
  rcases List.mem_append.1 hx with h | h
  · exact hl x h
  · exact hr x h

theorem Rd.all {B : Nat} {w : World} {a : Option Addr} {l : List Nat} (h : Rd B w a l) : ∀ x ∈ l, x < 256 := h.1
end Go.Proofs.YtmpbobfaceakmaaDoor
