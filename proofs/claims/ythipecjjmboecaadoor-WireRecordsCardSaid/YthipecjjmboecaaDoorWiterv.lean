/-
The iterator of wire.Records once more, under rounds that turn blocks of their own caller (X), none of which the errors lie in; a loop by what holds at its head.
-/
import Derived.Test.YthipecjjmboecaaDoorWiter
namespace Go.Proofs.YthipecjjmboecaaDoor
open Go.RowKit Go.Shelf
attribute [local go_sem] Oper.semAt_some

/-- A loop of few rounds, by what holds at its head: I (k + 1) where k rounds more may come. -/
theorem wpIn_loop_inv {F : Fence} {n : Nat} {P : Program} {Q : Exit → Act → World → Prop} {a : Act} {w : World} {c : Code} (I : Nat → Act → World → Prop) (m : Nat)
    (h0 : I m a w) (hz : ∀ a w, ¬ I 0 a w) (step : ∀ k a w, I (k + 1) a w → c.wpIn F n P (Exit.then (I k) Q) a w) : (Code.loop c).wpIn F n P Q a w := by
  refine wpIn_loop_rounds m ?_
  have key : ∀ m a w, I m a w → Code.roundsIn F n P c Q m a w := by
    intro m
    induction m with
    | zero => intro a w h; exact (hz a w h).elim
    | succ m ih =>
      intro a w h
      rw [roundsIn_succ]
      refine Code.wpIn_mono ?_ (step m a w h)
      rintro e a' w' hq
      cases e with
      | normal => exact ih a' w' hq
      | exit id => exact hq
      | ret => exact hq
      | goto t => exact hq
      | panic c => exact hq
      | outgrown => exact hq
  exact key m a w h0

theorem Kx.errsV {X : Nat → Prop} {B : Nat} {W W' V : World} {E : Nat → Addr} (h : Kx X B W W') (hB : V.heap.size ≤ B) (hX : ∀ k, k < V.heap.size → ¬ X k) (hV : Errs V E) (hE : Errs W E) : Errs W' E := by
  have key : ∀ (g : Nat) (v u : Value), V.cell? ⟨g, 0, none⟩ = some u → W.cell? ⟨g, 0, none⟩ = some v → W'.cell? ⟨g, 0, none⟩ = some v := fun g v u hu hc =>
    h.cell (p := ⟨g, 0, none⟩) (Nat.lt_of_lt_of_le (World.block_lt_of_cell? _ _ hu) hB) (hX g (World.block_lt_of_cell? _ _ hu)) hc
  exact ⟨key _ _ _ hV.long hE.long, key _ _ _ hV.fin hE.fin, key _ _ _ hV.number hE.number, key _ _ _ hV.tag hE.tag, key _ _ _ hV.group hE.group, key _ _ _ hV.deep hE.deep⟩

set_option maxRecDepth 100000 in
set_option maxHeartbeats 4000000 in
/-- The iterator: J says what holds where the records up to a place have come, Jx what holds where a round has said 'no more'. X: the blocks that a round may turn, which are none of the iterator's. -/
theorem records1_inV (n l Bt : Nat) (hn : 1 ≤ n) (X : Nat → Prop) (n₀ K : Nat) (hX : ∀ k, n₀ ≤ k → ¬ X k) (hXt : ¬ X Bt) (a : Option Addr) (len cap : Nat) (b : List Nat) (E : Nat → Addr) (V : World) (hV : Errs V E) (hVn : V.heap.size ≤ n₀) (hX40 : ∀ k, k < V.heap.size → ¬ X k)
    (hlen : b.length = len) (hcap : len ≤ cap) (hn4 : len ≤ 1048576) (hXa : ∀ bl o, a = some ⟨bl, o, none⟩ → ¬ X bl)
    (J Jx : Nat → World → Prop) (hJ : ∀ s A C, J s A → Below A.heap.size A C → J s C)
    (hY : ∀ s f kd u bs sz v B1 W1, s < len → W.nextF 32 (b.drop s) = (f, kd, u, bs, sz, 0) → J s W1 → n₀ ≤ B1 → B1 ≤ W1.heap.size → Own B1 W1 v bs →
      YieldAt Fence.wide (n - 1) Tryd.prog l (encR s f kd u v) W1 fun e W' => (e = .returned (.bool true) ∧ J (s + sz) W' ∧ Kx X B1 W1 W') ∨ (e = .returned (.bool false) ∧ Jx s W'))
    (w : World) (hw : n₀ ≤ w.heap.size) (hKw : K ≤ w.heap.size) (hE : Errs w E) (hBt : w.cell? ⟨Bt, 0, none⟩ = some (.slice a len cap)) (hr : Rd K w a b) (h0 : J 0 w) :
    CallsIn Fence.wide n Tryd.prog 44 #[.func (.yield l) #[] #[], .pointer (some ⟨Bt, 0, none⟩)] w fun e W' => (∃ v, e = .returned v) ∧
      ((∃ s, J s W' ∧ (len ≤ s ∨ (W.nextF 32 (b.drop s)).2.2.2.2.2 ≠ 0)) ∨ ∃ s, Jx s W') := by
  have HY := Lib.hid hY
  have HJ := Lib.hid hJ
  have HXn := Lib.hid hX
  have HX4 := Lib.hid hX40
  have HV := Lib.hid hV
  have HXt := Lib.hid hXt
  have HXa := Lib.hid hXa
  have HE := Lib.hid hE
  have HR := Lib.hid hr
  have H0 := Lib.hid h0
  have HLb := Lib.hid hlen
  clear hY hJ hX hX40 hV hXt hXa hE hr h0 hlen
  refine callsIn_of_wp Tryd.func44 rfl trivial ?_ rfl
  simp only [Tryd.ntmps44, List.size_toArray, List.length_cons, List.length_nil, Nat.reduceAdd, Nat.reduceSub, Array.replicate_succ, Array.replicate_zero, List.push_toArray, List.append_toArray, List.nil_append, List.cons_append]
  gi_wp2_with (refine ⟨trivial, ?_⟩; gi_at_call 45; refine (callsIn_wide.2 (readers_new _)).mono ?_; rintro e w1 ⟨bm, c8, c4, cb, rfl, ⟨hm1, hm2, hm3, hm4⟩, hBy, hb1⟩)
  have hs1 := hb1.size
  have HBy1 := Lib.hid hBy
  have HE1 := Lib.hid (HE.out.below hb1)
  have HR1 := Lib.hid (HR.out.below hb1)
  have HB1 : Hid (w1.cell? ⟨Bt, 0, none⟩ = some (.slice a len cap)) := cell_below hb1 hBt
  have HJ1 := Lib.hid (HJ.out _ _ _ H0.out hb1)
  have Hm := Lib.hid (And.intro hm1 (And.intro hm2 (And.intro hm3 hm4)))
  clear hBy hb1 HE HR hBt H0 hm1 hm2 hm3 hm4
  gi_wp2
  gi_loopw [4] (fun p wr => ∃ s : Nat, s ≤ len ∧ p = .int .i64 s ∧ Hid (J s wr) ∧ Hid (ByIn wr bm c8 c4 cb) ∧ Hid (Errs wr E) ∧ Hid (Rd K wr a b) ∧ Hid (wr.cell? ⟨Bt, 0, none⟩ = some (.slice a len cap)) ∧ w1.heap.size ≤ wr.heap.size) (fun p _ => len - (intOf p).toNat)
  case atStart => exact ⟨0, by omega, rfl, HJ1, HBy1, HE1, HR1, HB1, Nat.le_refl _⟩
  case round =>
    clear HJ1 HBy1 HE1 HR1 HB1
    obtain ⟨s, hs, rfl, HJr, HByr, HEr, HRr, HBtr, hsr⟩ := hrel
    have cB := HBtr.out
    have q0 : (0 : Int) ≤ (s : Int) := by omega
    by_cases hlt : s < len
    · obtain ⟨f, kd, u, bs, sz, k, hx⟩ : ∃ f kd u bs sz k, W.nextF 32 (b.drop s) = (f, kd, u, bs, sz, k) := ⟨_, _, _, _, _, _, rfl⟩
      have hok := fun h => W.nextF_ok (lv := 32) (l := b.drop s) (show (W.nextF 32 (b.drop s)).2.2.2.2.2 = 0 by rw [hx]; exact h)
      rw [hx, List.length_drop, HLb.out] at hok
      simp only at hok
      have hbl := W.nextF_bytes 32 (b.drop s)
      rw [hx, List.length_drop, HLb.out] at hbl
      have Hbl : Hid (bs.length ≤ len - s) := hbl
      have HX := Lib.hid hx
      have HOK := Lib.hid hok
      clear hx hok hbl
      have hrf := run_from a len cap s hs
      have hR : Hid (Rd K wr (cutA a cap s) (b.drop s)) := HRr.out.drop (by rw [HLb.out]; exact hcap)
      generalize cutA a cap s = a2 at hrf hR
      gi_wp2_with fail
      refine ⟨trivial, ?_⟩
      refine (callsIn_wide.2 (next_any (B := K) (group_all 32 (by omega)) (by omega) bm a2 (len - s) (cap - s) (b.drop s) 0 E wr (by rw [List.length_drop, HLb.out]) (by omega) (by omega) (by omega) hR.out HEr.out HByr.out.at (by simp))).mono ?_
      rintro e w2 ⟨a', cap', he, h1, h2, h3, h4⟩
      subst he
      rw [HX.out] at h1 h2 ⊢
      simp only at h1 h2 ⊢
      have HB2 := Lib.hid h4
      have hs2 := h4.size
      have H1 := Lib.hid h1
      clear h1 h2 h3 h4 hrf hR
      cases k with
      | succ k =>
        unfold er
        gi_wp2
        refine bodyPost_ret (results_none rfl _ _ _) rfl ⟨⟨_, rfl⟩, .inl ⟨s, ?_, .inr (by rw [HX.out]; simp)⟩⟩
        exact HJ.out _ _ _ HJr.out (HB2.out.alloc hs2 _)
      | zero =>
        unfold er
        generalize hnb : bs.length = nb at *
        have HN := Lib.hid hnb
        clear hnb
        gi_wp2_with fail
        refine ⟨trivial, ?_⟩
        refine (callsIn_wide.2 (show Calls _ _ #[_, .int .i64 0] _ _ from fresh_any (B2 := K) a' nb cap' bs 0 _ HN.out (H1.out.below ((Below.refl _ _).alloc (Nat.le_refl _) _)) (by have h2 := Hbl.out; have h3 := HN.out; omega))).mono ?_
        rintro e w3 ⟨v, rfl, hv, hb3⟩
        obtain ⟨gb, cp, rfl⟩ := hv.2
        obtain ⟨⟨g0, g1, g2, g3⟩, ⟨p0, p1, p2, p3⟩, hs3⟩ := cells4 hb3
        have hB3 := HB2.out.trans ((below_over hb3).mono hs2)
        have hBW := hB3.setCell (p := ⟨w2.heap.size, 3, none⟩) hs2 (.slice (some ⟨gb, 0, none⟩) bs.length cp)
        have hOW := (hv.set (p := ⟨w2.heap.size, 3, none⟩) (by simp) (.slice (some ⟨gb, 0, none⟩) bs.length cp)).mono (B' := wr.heap.size) (by simp; omega)
        obtain ⟨fn, tmps, assign, body, hy, hR⟩ := HY.out s f kd u bs sz _ wr.heap.size _ hlt HX.out (HJ.out _ _ _ HJr.out hBW) (by omega) hBW.size hOW
        dsimp only [encR] at hy
        have HBW := Lib.hid hBW
        have hsz : 0 < sz ∧ sz ≤ len - s := HOK.out trivial
        have q1 : IntKind.i64.wrap ((s : Int) + (sz : Int)) = (s : Int) + (sz : Int) := by rw [IntKind.wrap_i64]; omega
        clear hb3 hB3 hBW hOW hv
        gi_wp2
        refine hR.mono ?_
        clear hR hy g0 g1 g2 g3 p0 p1 p2 p3
        have hby := (HByr.out.below HBW.out)
        have hlt4 := HByr.out.lts
        rintro e W4 (⟨rfl, hJ4, hk4⟩ | ⟨rfl, hJx4⟩)
        · have HJ4 := Lib.hid hJ4
          have HBy4 := Lib.hid (hk4.by hlt4 (by have h := Hm.out; exact ⟨HXn.out _ (by omega), HXn.out _ (by omega), HXn.out _ (by omega), HXn.out _ (by omega)⟩) hby)
          have HE4 := Lib.hid (hk4.errsV (V := V) (by omega) HX4.out HV.out (HEr.out.below HBW.out))
          have HR4 := Lib.hid (hk4.rd (K := K) (by omega) HXa.out (HRr.out.below HBW.out))
          have HB4 : Hid (W4.cell? ⟨Bt, 0, none⟩ = some (.slice a len cap)) := hk4.cell (p := ⟨Bt, 0, none⟩) (World.block_lt_of_cell? _ _ cB) HXt.out (cell_below HBW.out cB)
          have hs4 : w1.heap.size ≤ W4.heap.size := Nat.le_trans hsr (Nat.le_trans HBW.out.size hk4.1)
          clear hJ4 hk4 hby hlt4 HBW cB
          gi_wp2
          go_roundw
          case rel => exact ⟨s + sz, by omega, by rw [Int.natCast_add], HJ4, HBy4, HE4, HR4, HB4, hs4⟩
          case measure => simp [intOf]; omega
        · have HJx4 := Lib.hid hJx4
          clear hJx4 hby hlt4 HBW cB
          gi_wp2
          exact bodyPost_ret (results_none rfl _ _ _) rfl ⟨⟨_, rfl⟩, .inr ⟨s, HJx4.out⟩⟩
    · gi_wp2
      go_end0
      exact ⟨⟨_, rfl⟩, .inl ⟨s, HJr.out, .inl (by omega)⟩⟩
end Go.Proofs.YthipecjjmboecaaDoor
