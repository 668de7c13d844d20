/-
The walks of the reference's room, New, Add and Resize.
-/
import Derived.Test.YtplajeboeckhhaaDoorBrts
namespace Go.Proofs.YtplajeboeckhhaaDoor
open Go.RowKit

theorem below_drew (w : World) : Below w.heap.size w w.drew := Below.drew (Below.refl _ w)
theorem below_drewN (w : World) (q : Nat) : Below w.heap.size w (w.drewN q) := ⟨rfl, rfl, rfl, Nat.le_refl _, fun _ _ => rfl⟩
theorem Rx.set0 {w : World} {K gx M : Nat} {A A' : List B.HD} {v : Value} (h : Rx w K gx A M) (hv : HOwn K w v A') (hne : v.ownBlock ≠ some gx) : Rx (w.setCell ⟨gx, 0, none⟩ v) K gx A' M := by
  obtain ⟨v0, ⟨c0, f0⟩, ⟨c1, f1⟩, _, _⟩ := h
  exact ⟨v, ⟨World.cell?_setCell_same _ _ _ c0, by rw [World.frozen?_setCell]; exact f0⟩, ⟨(World.cell?_setCell_other _ _ _ _ (by simp)).trans c1, by rw [World.frozen?_setCell]; exact f1⟩, hv.only ((Only.refl gx w).set 0 v) hne, hne⟩
theorem Rx.set1 {w : World} {K gx M : Nat} {A : List B.HD} (h : Rx w K gx A M) (M' : Nat) : Rx (w.setCell ⟨gx, 1, none⟩ (.int .i64 M')) K gx A M' := by
  obtain ⟨v0, ⟨c0, f0⟩, ⟨c1, f1⟩, h2, h3⟩ := h
  exact ⟨v0, ⟨(World.cell?_setCell_other _ _ _ _ (by simp)).trans c0, by rw [World.frozen?_setCell]; exact f0⟩, ⟨World.cell?_setCell_same _ _ _ c1, by rw [World.frozen?_setCell]; exact f1⟩, h2.only ((Only.refl gx w).set 1 _) h3, h3⟩
theorem HRd.init {w : World} {a : Option Addr} {l m : List B.HD} (h : HRd w a (l ++ m)) : HRd w a l := fun j x hx => h j x (by
  have hj : j < l.length := (List.getElem?_eq_some_iff.1 hx).1
  rw [List.getElem?_append_left hj]; exact hx)

set_option maxRecDepth 100000 in
set_option maxHeartbeats 4000000 in
theorem room_any (K gx M n : Nat) (A : List B.HD) (w : World) (hK : K ≤ w.heap.size) (hR : Rx w K gx A M) (ht : B.tot A ≤ 1048576) (hn : n ≤ 281474976710688) :
    Calls Tryd.prog 54 #[.pointer (some ⟨gx, 0, none⟩), .int .i64 n] w fun e w' => e = .returned (.tuple #[]) ∧ Rx w' K gx (B.rm M n A) M ∧ Only gx w w' := by
  have HR := Lib.hid hR
  clear hR
  go_enter Tryd.func54, Tryd.ntmps54
  go_wp2
  go_loopg [] A.length (fun i wr => ∃ A', A'.length = i ∧ Hid (Rx wr K gx A' M) ∧ B.tot A' ≤ 1048576 ∧ Hid (B.rm M n A' = B.rm M n A) ∧ Hid (Only gx w wr))
  case atStart => exact ⟨A, rfl, HR, ht, rfl, Only.refl _ _⟩
  case round =>
    obtain ⟨A', hA', HR', ht', HS, HO⟩ := hrel
    clear HR ht
    have hg := HR'.out.lt
    obtain ⟨v, ⟨c0, f0⟩, ⟨c1, f1⟩, hO, hne⟩ := id HR'.out
    obtain ⟨a, cp, rfl, hcp, hrd⟩ := hO.form
    obtain ⟨ln, hln⟩ : ∃ ln, ln = A'.length := ⟨_, rfl⟩
    rw [← hln] at c0 hcp
    have HLn := Lib.hid hln
    have HRd' := Lib.hid hrd
    have HNe := Lib.hid hne
    have HC := Lib.hid (refTot_any K gx M A' wr.drew (HR'.out.below (below_drew wr)) ht')
    have HGk := Lib.hid hA'
    clear hO hrd hne hln hA'
    have hl32 := B.tot_len A'
    rw [← HLn.out] at hl32
    have S0 : Hid (wr.cell? ⟨gx, 0, none⟩ = some (.slice a ln cp) ∧ wr.cell? ⟨gx, 1, none⟩ = some (.int .i64 M)) := ⟨c0, c1⟩
    by_cases h0 : 0 < ln
    · have q3 : IntKind.i64.wrap ((B.tot A' : Int) + (n : Int)) = (B.tot A' : Int) + (n : Int) := by rw [IntKind.wrap_i64]; omega
      have q5 : (0 : Int) < (ln : Int) := by omega
      by_cases hlt : M < B.tot A' + n
      · have q4 : (M : Int) < (B.tot A' : Int) + (n : Int) := by omega
        clear c0 c1
        go_upto_region 0 with (fail)
        go_region_held3 (fun ww => ww.cell? ⟨gx, 0, none⟩ = some (.slice a ln cp) ∧ ww.cell? ⟨gx, 1, none⟩ = some (.int .i64 M)) (first | exact S0.out | exact HS5.out) (first | (go_at_call 56; refine HC.out.mono ?_; rintro e w5 ⟨rfl, hb5⟩; have HS5 : Hid (w5.cell? ⟨gx, 0, none⟩ = some (.slice a ln cp) ∧ w5.cell? ⟨gx, 1, none⟩ = some (.int .i64 M)) := ⟨(hb5.cell (p := ⟨gx, 0, none⟩) hg).trans S0.out.1, (hb5.cell (p := ⟨gx, 1, none⟩) hg).trans S0.out.2⟩; have HB5 := Lib.hid hb5; clear hb5))
        have hb05 := (below_drew wr).trans HB5.out
        have HR5 := Lib.hid (HR'.out.below hb05)
        have HO5 := Lib.hid (HO.out.below hb05)
        have hg5 := HR5.out.lt
        obtain ⟨d0, d1⟩ := HS5.out
        have f5 := (by obtain ⟨_, ⟨_, f⟩, _⟩ := HR5.out; exact f : w5.frozen? ⟨gx, 0, none⟩ = false)
        obtain ⟨A1, x, hA1⟩ : ∃ A1 x, A' = A1 ++ [x] := by
          rcases List.eq_nil_or_concat A' with h | ⟨A1, x, h⟩
          · have := HLn.out; rw [h] at this; simp at this; omega
          · exact ⟨A1, x, by rw [h, List.concat_eq_append]⟩
        obtain ⟨p, hp⟩ : ∃ p, p = A1.length := ⟨_, rfl⟩
        have hlp : ln = p + 1 := by rw [HLn.out, hA1, hp]; simp
        obtain ⟨b, o, ha, _⟩ := HRd'.out A1.length x (by rw [hA1]; simp)
        subst ha
        have q6 : IntKind.i64.wrap ((ln : Int) - 1) = (p : Int) := by rw [IntKind.wrap_i64]; omega
        have q7 : (0 : Int) ≤ (p : Int) := by omega
        have q8 : (p : Int) ≤ (cp : Int) := by omega
        have HH := Lib.hid (headers_any (some ⟨b, o, none⟩) p cp A1 w5.drew hp.symm (by omega) (HRd.init (m := [x]) (by rw [← hA1]; exact (HRd'.out.below hb05).below (below_drew w5))))
        have htA : B.tot A1 ≤ 1048576 := by rw [hA1, B.tot_app] at ht'; omega
        have HRm : Hid (B.rm M n A1 = B.rm M n A) := by
          show _ = _
          rw [← HS.out, hA1, B.rm_drop (by rw [← hA1]; exact hlt)]
        have HPP := Lib.hid (And.intro hp hlp)
        clear hp hlp hA1 hb05 HS5 HB5 S0 HC HRd' HNe q4 q5
        go_upto_region 1 with (fail)
        go_region_with (go_at_call 76; refine HH.out.mono ?_; rintro e w6 ⟨v6, rfl, hO6, hb6⟩; obtain ⟨a6, cp6, hv6, _, _⟩ := hO6.form; subst hv6; have e0 := (hb6.cell (p := ⟨gx, 0, none⟩) hg5).trans d0; have g0 := (World.frozen?_of_block (a := ⟨gx, 0, none⟩) (hb6.block gx hg5)).trans f5; have HB6 := Lib.hid hb6; have HO6 := Lib.hid hO6; clear hb6 hO6)
        all_goals
          have hbd := (below_drew w5).trans HB6.out
          have HX := Lib.hid (And.intro (Rx.set0 (HR5.out.below hbd) (HO6.out.mono (Nat.le_trans hK HO5.out.size)) (fun e => by have h := (HO6.out.lt _ e).1; have : gx < w5.heap.size := hg5; exact absurd h (by show ¬ w5.heap.size ≤ gx; omega))) ((HO5.out.below hbd).set 0 (.slice a6 A1.length cp6)))
          clear hbd HB6 HO6 e0 g0 HR5 HO5 d0 d1 f5
          go_wp2
          go_roundg A1.length
        all_goals first
          | (have h1 := HGk.out; have h2 := HLn.out; have h3 := HPP.out; omega)
          | exact ⟨A1, rfl, HX.out.1, htA, HRm, HX.out.2⟩
      · have q4 : ¬ (M : Int) < (B.tot A' : Int) + (n : Int) := by omega
        clear c0 c1
        go_upto_region 0 with (fail)
        go_region_held3 (fun ww => ww.cell? ⟨gx, 0, none⟩ = some (.slice a ln cp) ∧ ww.cell? ⟨gx, 1, none⟩ = some (.int .i64 M)) (first | exact S0.out | exact HS5.out) (first | (go_at_call 56; refine HC.out.mono ?_; rintro e w5 ⟨rfl, hb5⟩; have HS5 : Hid (w5.cell? ⟨gx, 0, none⟩ = some (.slice a ln cp) ∧ w5.cell? ⟨gx, 1, none⟩ = some (.int .i64 M)) := ⟨(hb5.cell (p := ⟨gx, 0, none⟩) hg).trans S0.out.1, (hb5.cell (p := ⟨gx, 1, none⟩) hg).trans S0.out.2⟩; have HB5 := Lib.hid hb5; clear hb5))
        have hb05 := (below_drew wr).trans HB5.out
        have HE := Lib.hid (And.intro (HR'.out.below hb05) (HO.out.below hb05))
        clear hb05 HB5 HS5
        go_wp2
        go_end0
        exact ⟨rfl, by rw [← HS.out, B.rm_fit (by omega)]; exact HE.out.1, HE.out.2⟩
    · obtain rfl : ln = 0 := by omega
      have q5 : ¬ (0 : Int) < ((0 : Nat) : Int) := by omega
      go_upto_region 0 with (fail)
      go_quiet (fail)
      go_wp2
      go_end0
      have hA0 : A' = [] := List.length_eq_zero_iff.1 HLn.out.symm
      exact ⟨rfl, by rw [← HS.out, hA0, B.rm_nil, ← hA0]; exact HR'.out.below (below_drewN _ _), HO.out.below (below_drewN _ _)⟩
end Go.Proofs.YtplajeboeckhhaaDoor
