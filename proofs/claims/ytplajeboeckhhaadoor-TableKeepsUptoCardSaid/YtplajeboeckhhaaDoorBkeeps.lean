/-
The walk of parleylaw3.TableKeeps: it returns true whatever is asked.
-/
import Derived.Test.YtplajeboeckhhaaDoorBempt
import Derived.Test.YtplajeboeckhhaaDoorBrow
import Derived.Test.YtplajeboeckhhaaDoorBfndm
import Derived.Deep.RegionHeld3
import Derived.StillTailTactics
namespace Go.Proofs.YtplajeboeckhhaaDoor
open Go.RowKit

theorem TE.below {w w' : World} {e0 : Addr} (h : TE w e0) (hb : Below w.heap.size w w') : TE w' e0 := cell_below hb h
theorem Tab.same {w w' : World} {g m : Nat} {L : List B.HD} (h : Tab w g L m) (e : w'.heap[g]? = w.heap[g]?) : Tab w' g L m := by
  obtain ⟨R, o, h1, h2, h3⟩ := h
  exact ⟨R, o, h1, fun j hj => ⟨(World.cell?_of_block (a := ⟨g, j, none⟩) e).trans (h2 j hj).1, (World.frozen?_of_block (a := ⟨g, j, none⟩) e).trans (h2 j hj).2⟩, h3⟩
theorem Tab.grown {w w' : World} {g m : Nat} {L : List B.HD} {row : Option Nat} (h : Tab w g L m) (hg : w.grownBy w' row) (hne : some g ≠ row) : Tab w' g L m := h.same (hg.block g h.lt hne)

theorem get_nth (l : List B.HD) (k : Nat) (hk : k < l.length) : B.get l ((62 : Int) + (k : Int)) = B.nth l k ∧ B.has l ((62 : Int) + (k : Int)) = true := by
  refine ⟨?_, decide_eq_true (by omega)⟩
  unfold B.get
  rw [if_neg (by omega), if_pos (by omega), show ((62 : Int) + (k : Int)).toNat - 62 = k by omega]
theorem get_past (l : List B.HD) : B.has l ((62 : Int) + (l.length : Int)) = false := decide_eq_false (by omega)

/-- A header's cells at a place. -/
def H3 (w : World) (b o : Nat) (n v : ByteArray) (y : Bool) : Prop := w.cell? ⟨b, o + 2, none⟩ = some (.string n) ∧ w.cell? ⟨b, o + 3, none⟩ = some (.string v) ∧ w.cell? ⟨b, o + 4, none⟩ = some (.bool y)
theorem H3.below {K : Nat} {w w' : World} {b o : Nat} {n v : ByteArray} {y : Bool} (h : H3 w b o n v y) (hb : Below K w w') (hk : b < K) : H3 w' b o n v y :=
  ⟨(hb.cell (p := ⟨b, o + 2, none⟩) hk).trans h.1, (hb.cell (p := ⟨b, o + 3, none⟩) hk).trans h.2.1, (hb.cell (p := ⟨b, o + 4, none⟩) hk).trans h.2.2⟩
theorem hrd_new (w : World) (n v : ByteArray) : HRd ((w.alloc (.cells #[.string n, .string v, .bool false] 51)).drew) (some ⟨w.heap.size, 0, none⟩) [(n, v)] := fun j x hx => by
  cases j with
  | zero =>
    simp at hx
    subst hx
    exact ⟨_, 0, rfl, by simp, by simp, by simp⟩
  | succ j => simp at hx

theorem cells_grown {w w' : World} {b x y : Nat} {u v : Value} {row : Option Nat} (hg : w.grownBy w' row) (h : w.cell? ⟨b, x, none⟩ = some u ∧ w.cell? ⟨b, y, none⟩ = some v) (hlt : b < w.heap.size) (hne : some b ≠ row) : w'.cell? ⟨b, x, none⟩ = some u ∧ w'.cell? ⟨b, y, none⟩ = some v :=
  ⟨(World.cell?_of_block (a := ⟨b, x, none⟩) (hg.block b hlt hne)).trans h.1, (World.cell?_of_block (a := ⟨b, y, none⟩) (hg.block b hlt hne)).trans h.2⟩

set_option maxRecDepth 100000 in
set_option maxHeartbeats 8000000 in
theorem tableKeeps_law (e0 : Addr) (n : Int) (a1 : Option Addr) (n1 c1 : Nat) (l1 : List CL) (w : World) (hl1 : l1.length = n1) (hn1 : n1 ≤ 1048576) (hr1 : CRd w.heap.size w a1 l1) (hs1 : CSz 140737488355328 l1) (hE : TE w e0) :
    Calls Tryd.prog 8 #[.int .i64 n, .slice a1 n1 c1] w (TruePost w) := by
  have HL1 := Lib.hid hl1
  have HR1 := Lib.hid hr1
  have HS1 := Lib.hid hs1
  have HE := Lib.hid hE
  clear hl1 hr1 hs1 hE
  go_enter Tryd.func8, Tryd.ntmps8
  go_wp2_with fail
  refine (bfirst_any w).mono ?_
  rintro e w1 ⟨rfl, hb1⟩
  have HB1 := Lib.hid hb1
  have hz1 := hb1.size
  clear hb1
  go_wp2_with fail
  refine (light_any a1 n1 c1 l1 w1 HL1.out (HR1.out.below HB1.out) HS1.out).mono ?_
  rintro e w3 ⟨⟨b1, rfl⟩, hb2⟩
  have HB3 := Lib.hid (HB1.out.trans (hb2.mono hz1))
  have hz3 := HB3.out.size
  clear hb2 HB1 hz1
  cases b1
  · go_wp2_with fail
    go_ret
    exact ⟨rfl, HB3.out⟩
  by_cases hn : 0 ≤ n ∧ n ≤ 4096
  case neg =>
    have HC := can_any n w3
    rw [decide_eq_false hn] at HC
    go_wp2_with fail
    refine HC.mono ?_
    rintro e w4 ⟨rfl, rfl⟩
    go_wp2_with fail
    go_ret
    exact ⟨rfl, HB3.out⟩
  have HC := can_any n w3
  rw [decide_eq_true hn] at HC
  obtain ⟨m, rfl⟩ : ∃ m : Nat, n = m := ⟨n.toNat, by omega⟩
  have hm : m ≤ 4096 := by omega
  clear hn
  go_wp2_with fail
  refine HC.mono ?_
  rintro e w4 ⟨rfl, rfl⟩
  clear HC
  go_wp2_with fail
  refine (new_yes m w3 hm).mono ?_
  rintro e w4 ⟨rfl, hT4, hb4⟩
  obtain ⟨g, hg⟩ : ∃ g, g = w3.heap.size := ⟨_, rfl⟩
  rw [← hg] at hT4 ⊢
  have HT4 := Lib.hid hT4
  have HB4 := Lib.hid (HB3.out.trans (hb4.mono hz3))
  have hgw : w.heap.size ≤ g := by omega
  obtain ⟨K, hK⟩ : ∃ K, K = w4.heap.size := ⟨_, rfl⟩
  have hgK : g < K := by rw [hK]; exact HT4.out.lt
  have hKz : K ≤ w4.heap.size := Nat.le_of_eq hK
  clear hT4 hb4 hg HB3 hz3 hK
  go_wp2
  go_loopw [8, 9] (fun al i wr => ∃ k : Nat, k ≤ n1 ∧ i = .int .i64 k ∧ (∃ L m A, Hid (Tab wr g L m) ∧ L.length ≤ A.length ∧ A.length ≤ k ∧ Hid (HOwn K wr al A)) ∧ Hid (Below w.heap.size w wr) ∧ K ≤ wr.heap.size) (fun _ i _ => n1 - (intOf i).toNat)
  case atStart => exact ⟨0, by omega, rfl, ⟨[], m, [], HT4, Nat.le_refl _, Nat.le_refl _, HOwn.nil _ _⟩, HB4, hKz⟩
  case round =>
    obtain ⟨k, hk, rfl, ⟨L, m, A, HTr, hLA, hAk, HAr⟩, HBr, hKr⟩ := hrel
    clear HT4 HB4 hKz
    have hzr := HBr.out.size
    by_cases hlt : k < n1
    · obtain ⟨x, hx⟩ : ∃ x, l1[k]? = some x := ⟨_, List.getElem?_eq_getElem (by rw [HL1.out]; exact hlt)⟩
      obtain ⟨b, o, rfl, hbw, d0, d1, d2, d3, d4⟩ := HR1.out k x hx
      obtain ⟨z1, z2⟩ := HS1.out x (List.mem_of_getElem? hx)
      obtain ⟨kd, nn, ⟨hn, hv⟩, bb⟩ := x
      simp only at d0 d1 d2 d3 d4 z1 z2
      clear hx
      have HD : Hid (H3 w b (o + k * 5) hn hv bb) := ⟨d2, d3, d4⟩
      have d0 := (HBr.out.cell (p := ⟨b, o + k * 5, none⟩) hbw).trans d0
      have d1 := (HBr.out.cell (p := ⟨b, o + k * 5 + 1, none⟩) hbw).trans d1
      clear d2 d3 d4
      go_upto_if 56 with (fail)
      go_cut [8] from 45 to 163 (fun al wx => ∃ L m A, Hid (Tab wx g L m) ∧ L.length ≤ A.length ∧ A.length ≤ k + 1 ∧ Hid (HOwn K wx al A) ∧ Hid (Below w.heap.size w wx) ∧ K ≤ wx.heap.size)
      case first =>
        by_cases h1 : kd = 1
        · subst h1
          have hAg : ∀ v w, HOwn K w v A → v.ownBlock ≠ some g := fun v w h e => by have := (h.lt g e).1; omega
          have HA := Lib.hid (add_any g L m hn hv bb wr z1 z2 HTr.out)
          obtain ⟨L', hL'⟩ : ∃ L', L' = B.add m L (hn, hv) := ⟨_, rfl⟩
          rw [← hL'] at HA
          have hlen' : L'.length ≤ L.length + 1 := by rw [hL']; exact B.add_len m L (hn, hv)
          have HL' := Lib.hid hL'
          clear hL'
          obtain ⟨d2, d3, d4⟩ := HD.out.below HBr.out hbw
          go_wp2_with fail
          refine HA.out.mono ?_
          rintro e w6 ⟨rfl, hT6, hO6⟩
          have HT6 := Lib.hid hT6
          have HA6 := Lib.hid (HAr.out.only hO6 (hAg _ _ HAr.out))
          have HB6 := Lib.hid (Below.only_trans HBr.out hO6 hzr hgw)
          have hK6 := Nat.le_trans hKr hO6.size
          have hz6 := HB6.out.size
          clear hT6 hO6 HA HTr HAr HBr d0 d1 d2 d3 d4 hKr
          obtain ⟨e2, e3, e4⟩ := HD.out.below HB6.out hbw
          have q0 : (0 : Int) ≤ (k : Int) := by omega
          have q1 : (k : Int) < (n1 : Int) := by omega
          have hba : Below w6.heap.size w6 (w6.alloc (.cells #[.string hn, .string hv, .bool false] 51)) := (Below.refl _ _).alloc (Nat.le_refl _) _
          have HAa := Lib.hid (HA6.out.below hba)
          have HRn := Lib.hid (hrd_new w6 hn hv)
          have HTa := Lib.hid (HT6.out.below hba)
          have HBa := Lib.hid (HB6.out.trans (hba.mono hz6))
          clear hba HA6 HT6 HB6
          go_upto_region 14 with (fail)
          obtain ⟨s2, s3, _⟩ := HD.out.below HBa.out hbw
          have S0 : Hid (w6.cell? ⟨b, o + k * 5 + 2, none⟩ = some (.string hn) ∧ w6.cell? ⟨b, o + k * 5 + 3, none⟩ = some (.string hv)) := ⟨e2, e3⟩
          have S1 : Hid ((w6.alloc (.cells #[.string hn, .string hv, .bool false] 51)).cell? ⟨b, o + k * 5 + 2, none⟩ = some (.string hn) ∧ (w6.alloc (.cells #[.string hn, .string hv, .bool false] 51)).cell? ⟨b, o + k * 5 + 3, none⟩ = some (.string hv)) := ⟨s2, s3⟩
          clear s2 s3
          go_region_held3 (fun ww => ww.cell? ⟨b, o + k * 5 + 2, none⟩ = some (.string hn) ∧ ww.cell? ⟨b, o + k * 5 + 3, none⟩ = some (.string hv)) (first | exact S0.out | exact S1.out | exact cells_grown hg7 S1.out (by simp; omega) (fun e => by have := (HAa.out.lt b e.symm).1; omega)) ((refine step_appH _ rfl _ _ rfl rfl K _ A rfl HAa.out ⟨w6.heap.size, 0, none⟩ 1 1 [(hn, hv)] rfl rfl (by omega) HRn.out ?_ ?_ ?_; omega; (simp; omega); intro g7 cp7 w7 hA7 hg7))
          have hK7 : w6.heap.size + 1 ≤ w7.heap.size := by simpa using hg7.size
          have HT7 := Lib.hid (Tab.grown (w := ((w6.alloc (.cells #[.string hn, .string hv, .bool false] 51)).drew)) HTa.out hg7 (fun e => hAg _ _ HAa.out e.symm))
          have HB7 := Lib.hid ((Below.drew HBa.out).grown hg7 (by simp; omega) (fun r e => by have := (HAa.out.lt r e).1; omega))
          have HA7 := Lib.hid hA7
          have hz7 := HB7.out.size
          clear hA7 hg7 HTa HBa HAa HRn e2 e3 e4
          have hsz0 := B.sz_ge (hn, hv)
          have hzz : B.sz (hn, hv) ≤ 281474976710688 := by unfold B.sz; simp only; omega
          have HSz := Lib.hid (fun w => size_any hn hv bb w z1 z2)
          by_cases hf : B.sz (hn, hv) ≤ m
          · obtain ⟨hp1, hp2⟩ : B.get L' 62 = (hn, hv) ∧ B.has L' 62 = true := by
              have e := HL'.out
              rw [B.add_fit (by omega)] at e
              have h0 := get_nth L' 0 (by rw [e]; simp)
              rw [e, B.nth_last, ← e] at h0
              exact h0
            have HG := Lib.hid (get_any g L' m 62 w7 (by omega) HT7.out)
            rw [hp1, hp2] at HG
            clear hp1 hp2
            go_wp2_with fail
            refine HG.out.mono ?_
            rintro e w8 ⟨rfl, hb8⟩
            have HB8 := Lib.hid (HB7.out.trans (hb8.mono hz7))
            have hz8 := HB8.out.size
            have HT8 := Lib.hid (HT7.out.below hb8)
            have HA8 := Lib.hid (HA7.out.below hb8)
            have hz78 := hb8.size
            clear hb8 HG HT7 HA7 HB7
            have hba : Below w8.heap.size w8 (w8.alloc (.cells #[.string hn, .string hv, .bool false] 51)) := (Below.refl _ _).alloc (Nat.le_refl _) _
            obtain ⟨e2, e3, e4⟩ := HD.out.below (HB8.out.trans (hba.mono hz8)) hbw
            clear hba
            simp only
            go_wp2_with fail
            refine (HSz.out _).mono ?_
            rintro e w9 ⟨rfl, hb9⟩
            obtain ⟨⟨x0, x1, x2⟩, _, hz9⟩ := cells3 hb9
            have hb89 := below_over hb9
            have HB9 := Lib.hid (HB8.out.trans (hb89.mono hz8))
            have HT9 := Lib.hid (HT8.out.below hb89)
            have HA9 := Lib.hid (HA8.out.below hb89)
            have cm := (by obtain ⟨R, o, _, h2, _⟩ := HT9.out; exact h2.m.1 : w9.cell? ⟨g, 387, none⟩ = some (.int .i64 m))
            clear hb9 hb89 HB8 HT8 HA8 e2 e3 e4 HSz
            have hf2 : decide ((B.sz (hn, hv) : Int) ≤ (m : Int)) = true := by simp; omega
            go_wp2_with fail
            refine (most_any w9 g m cm).mono ?_
            rintro e wA ⟨rfl, rfl⟩
            obtain ⟨bq, cq, hq, hr9⟩ : ∃ b2 cp2, Value.slice (some ⟨g7, 0, none⟩) (A.length + 1) cp7 = .slice (some ⟨b2, 0, none⟩) (A ++ [(hn, hv)]).length cp2 ∧ HRd w9 (some ⟨b2, 0, none⟩) (A ++ [(hn, hv)]) := by
              rcases HA9.out.cases with ⟨h, _⟩ | ⟨b2, cp2, h, _, _, _, hr⟩
              · cases h
              · exact ⟨b2, cp2, h, hr⟩
            obtain ⟨b3, o3, he, y0, y1, y2⟩ := hr9 A.length (hn, hv) (by simp)
            cases he
            obtain rfl : bq = g7 := by simp only [Value.slice.injEq, Option.some.injEq, Addr.mk.injEq] at hq; exact hq.1.1.symm
            rw [Nat.zero_add] at y0 y1 y2
            clear hq hr9 cm
            go_upto_region 17 with (fail)
            have S0 : Hid (w9.cell? ⟨w8.heap.size, 0, none⟩ = some (.string hn) ∧ w9.cell? ⟨w8.heap.size, 1, none⟩ = some (.string hv) ∧ w9.cell? ⟨w8.heap.size, 2, none⟩ = some (.bool false) ∧ w9.cell? ⟨bq, A.length * 3, none⟩ = some (.string hn) ∧ w9.cell? ⟨bq, A.length * 3 + 1, none⟩ = some (.string hv) ∧ w9.cell? ⟨bq, A.length * 3 + 2, none⟩ = some (.bool false)) := ⟨x0, x1, x2, y0, y1, y2⟩
            have hbq : bq < w9.heap.size := World.block_lt_of_cell? _ _ y0
            have h89 : w8.heap.size < w9.heap.size := World.block_lt_of_cell? _ _ x0
            clear x0 x1 x2 y0 y1 y2
            obtain ⟨p, hp⟩ : ∃ p, p = A.length := ⟨_, rfl⟩
            obtain ⟨qn, hqn⟩ : ∃ qn, qn = p + 1 := ⟨_, rfl⟩
            have q2 : (0 : Int) ≤ (p : Int) := by omega
            have q3 : (p : Int) < (qn : Int) := by omega
            have q4 : IntKind.i64.wrap ((qn : Int) - 1) = p := by rw [IntKind.wrap_i64]; omega
            have HSH := Lib.hid (fun w => sameHeader_eq hn hv false w)
            rw [← hp] at S0
            rw [← hp, ← hqn]
            have Hpq := Lib.hid (And.intro hp hqn)
            clear hp hqn
            have HB9S : ∀ w', Below w9.drew.heap.size w9.drew w' → Hid (w'.cell? ⟨w8.heap.size, 0, none⟩ = some (.string hn) ∧ w'.cell? ⟨w8.heap.size, 1, none⟩ = some (.string hv) ∧ w'.cell? ⟨w8.heap.size, 2, none⟩ = some (.bool false) ∧ w'.cell? ⟨bq, p * 3, none⟩ = some (.string hn) ∧ w'.cell? ⟨bq, p * 3 + 1, none⟩ = some (.string hv) ∧ w'.cell? ⟨bq, p * 3 + 2, none⟩ = some (.bool false)) := fun w' h => ⟨(h.cell (p := ⟨w8.heap.size, 0, none⟩) h89).trans S0.out.1, (h.cell (p := ⟨w8.heap.size, 1, none⟩) h89).trans S0.out.2.1, (h.cell (p := ⟨w8.heap.size, 2, none⟩) h89).trans S0.out.2.2.1, (h.cell (p := ⟨bq, p * 3, none⟩) hbq).trans S0.out.2.2.2.1, (h.cell (p := ⟨bq, p * 3 + 1, none⟩) hbq).trans S0.out.2.2.2.2.1, (h.cell (p := ⟨bq, p * 3 + 2, none⟩) hbq).trans S0.out.2.2.2.2.2⟩
            have HH := Lib.hid HB9S
            clear HB9S
            go_region_held3 (fun ww => (ww.cell? ⟨w8.heap.size, 0, none⟩ = some (.string hn) ∧ ww.cell? ⟨w8.heap.size, 1, none⟩ = some (.string hv) ∧ ww.cell? ⟨w8.heap.size, 2, none⟩ = some (.bool false) ∧ ww.cell? ⟨bq, p * 3, none⟩ = some (.string hn) ∧ ww.cell? ⟨bq, p * 3 + 1, none⟩ = some (.string hv) ∧ ww.cell? ⟨bq, p * 3 + 2, none⟩ = some (.bool false))) (first | exact S0.out | exact HS5.out) (first | (go_at_call 32; refine (HSH.out _).mono ?_; rintro e w5 ⟨rfl, hb5⟩; have HS5 := HH.out w5 hb5; have HB5 := Lib.hid hb5; clear hb5))
            have hbd : Below w9.heap.size w9 w5 := (Below.drew (Below.refl _ w9)).trans HB5.out
            have HF := Lib.hid (And.intro (HT9.out.below hbd) (And.intro (HA9.out.below hbd) (HB9.out.trans (hbd.mono HB9.out.size))))
            have hK9 := Nat.le_trans hK7 (Nat.le_trans hz78 (Nat.le_of_lt h89))
            have hK5 := Nat.le_trans hK9 hbd.size
            clear hbd HB5 HH HS5 S0 HSH HT9 HA9 HB9
            go_wp2
            go_meet
            obtain ⟨f1, f2, f3⟩ := HF.out
            exact ⟨L', m, A ++ [(hn, hv)], f1, by simp; omega, by simp; omega, by rw [Hpq.out.2, Hpq.out.1]; exact f2, f3, by omega⟩
          · have e1 : L' = [] := by
              have e := HL'.out
              rw [B.add_big (by omega)] at e
              exact e
            have HG := Lib.hid (get_any g L' m 62 w7 (by omega) HT7.out)
            have hp2 : B.has L' 62 = false := by rw [e1]; rfl
            clear e1
            obtain ⟨G1, hG1⟩ : ∃ G1, G1 = (B.get L' 62).1 := ⟨_, rfl⟩
            obtain ⟨G2, hG2⟩ : ∃ G2, G2 = (B.get L' 62).2 := ⟨_, rfl⟩
            rw [hp2, ← hG1, ← hG2] at HG
            clear hp2 hG1 hG2
            go_wp2_with fail
            refine HG.out.mono ?_
            rintro e w8 ⟨rfl, hb8⟩
            have HB8 := Lib.hid (HB7.out.trans (hb8.mono hz7))
            have hz8 := HB8.out.size
            have HT8 := Lib.hid (HT7.out.below hb8)
            have HA8 := Lib.hid (HA7.out.below hb8)
            have hz78 := hb8.size
            clear hb8 HG HT7 HA7 HB7
            have hba : Below w8.heap.size w8 (w8.alloc (.cells #[.string G1, .string G2, .bool false] 51)) := (Below.refl _ _).alloc (Nat.le_refl _) _
            obtain ⟨e2, e3, e4⟩ := HD.out.below (HB8.out.trans (hba.mono hz8)) hbw
            clear hba
            go_wp2_with fail
            refine (HSz.out _).mono ?_
            rintro e w9 ⟨rfl, hb9⟩
            obtain ⟨⟨x0, x1, x2⟩, _, hz9⟩ := cells3 hb9
            have hb89 := below_over hb9
            have HB9 := Lib.hid (HB8.out.trans (hb89.mono hz8))
            have HT9 := Lib.hid (HT8.out.below hb89)
            have HA9 := Lib.hid (HA8.out.below hb89)
            have cm := (by obtain ⟨R, o, _, h2, _⟩ := HT9.out; exact h2.m.1 : w9.cell? ⟨g, 387, none⟩ = some (.int .i64 m))
            clear hb9 hb89 HB8 HT8 HA8 e2 e3 e4 HSz x0 x1 x2
            have hf2 : decide ((B.sz (hn, hv) : Int) ≤ (m : Int)) = false := by simp; omega
            go_wp2_with fail
            refine (most_any w9 g m cm).mono ?_
            rintro e wA ⟨rfl, rfl⟩
            go_upto_region 17 with (fail)
            go_quiet (fail)
            go_wp2
            go_meet
            have HF := Lib.hid (And.intro HT9.out (And.intro HA9.out HB9.out))
            obtain ⟨f1, f2, f3⟩ := HF.out
            have hbd : Below w9.heap.size w9 (w9.drewN nq) := ⟨rfl, rfl, rfl, Nat.le_refl _, fun _ _ => rfl⟩
            exact ⟨L', m, A ++ [(hn, hv)], f1.below hbd, by simp; omega, by simp; omega, f2.below hbd, f3.trans (hbd.mono f3.size), by have := hbd.size; omega⟩
        · have h1b : (kd == 1) = false := by simp [h1]
          by_cases hN : 0 ≤ nn ∧ nn ≤ 4096
          · obtain ⟨N, rfl⟩ : ∃ N : Nat, nn = N := ⟨nn.toNat, by omega⟩
            have HA := Lib.hid (resize_yes g L m N wr (by omega) HTr.out)
            go_wp2_with (go_at_call 25; refine HA.out.mono ?_; rintro e w6 ⟨rfl, hT6, hO6⟩; have HT6 := Lib.hid hT6; have HO6 := Lib.hid hO6; clear hT6 hO6)
            go_meet
            have hAg : ∀ v, HOwn K wr v A → v.ownBlock ≠ some g := fun v h e => by have := (h.lt g e).1; omega
            exact ⟨_, N, A, HT6, Nat.le_trans (B.shr_len N L) hLA, by omega, HAr.out.only HO6.out (hAg _ HAr.out), Below.only_trans HBr.out HO6.out hzr hgw, Nat.le_trans hKr HO6.out.size⟩
          · have HA := Lib.hid (resize_no g nn e0 wr hN (TE.below HE.out HBr.out))
            go_wp2_with (go_at_call 25; refine HA.out.mono ?_; rintro e w6 ⟨rfl, rfl⟩)
            go_meet
            exact ⟨L, m, A, HTr, hLA, by omega, HAr, HBr, hKr⟩
      case rest =>
        obtain ⟨L1, m1, A1, HT, hLA1, hAk1, HA, HB, hK⟩ := hcut
        clear HTr HAr HBr hLA hAk hKr hzr d0 d1 HD z1 z2 hbw
        have hzw := HB.out.size
        obtain ⟨ln, hln⟩ : ∃ ln, ln = L1.length := ⟨_, rfl⟩
        obtain ⟨na, hna⟩ : ∃ na, na = A1.length := ⟨_, rfl⟩
        obtain ⟨a8, c8, rfl⟩ : ∃ a8 c8, u8 = .slice a8 na c8 := by
          rcases HA.out.cases with ⟨h1, h2⟩ | ⟨g2, cp, h1, _⟩
          · exact ⟨none, 0, by rw [h1, hna, h2]; rfl⟩
          · exact ⟨_, _, by rw [h1, hna]⟩
        have hlna : ln ≤ na := by omega
        obtain ⟨hl128, htm, hm4⟩ := HT.out.le
        rw [← hln] at hl128
        have HLn := Lib.hid hln
        have HNa := Lib.hid hna
        have HTM := Lib.hid htm
        clear hln hna htm
        have HR := Lib.hid (And.intro HA (And.intro hLA1 hAk1))
        clear HA hLA1 hAk1
        go_wp2
        go_loopw [13, 14] (fun al i wr => ∃ j : Nat, j ≤ ln ∧ i = .int .i64 j ∧ al = .int .i64 (B.totN L1 j : Nat) ∧ Hid (Below wc.heap.size wc wr)) (fun _ i _ => ln - (intOf i).toNat)
        case atStart => exact ⟨0, by omega, rfl, by rfl, Below.refl _ _⟩
        case round =>
          obtain ⟨j, hj, rfl, rfl, HBi⟩ := hrel
          have hzi := HBi.out.size
          have cn := (by obtain ⟨R, o, _, h2, _⟩ := HT.out.below HBi.out; rw [HLn.out]; exact h2.n.1 : wr.cell? ⟨g, 385, none⟩ = some (.int .i64 ln))
          by_cases hlt2 : j < ln
          · obtain ⟨p1, p2⟩ := get_nth L1 j (by rw [← HLn.out]; exact hlt2)
            have HG := Lib.hid (get_any g L1 m1 ((62 : Int) + (j : Int)) wr (by omega) (HT.out.below HBi.out))
            rw [p1, p2] at HG
            clear p1 p2
            have HTS := Lib.hid (B.totN_succ L1 j (by rw [← HLn.out]; exact hlt2))
            have htot := B.totN_le L1 (j + 1)
            obtain ⟨X, hX⟩ : ∃ X, X = B.nth L1 j := ⟨_, rfl⟩
            rw [← hX] at HG HTS
            clear hX
            obtain ⟨Xn, Xv⟩ := X
            have hXs : B.sz (Xn, Xv) ≤ 4096 := by have := HTS.out; have := HTM.out; omega
            have hx1 : Xn.size ≤ 140737488355328 := by unfold B.sz at hXs; simp only at hXs; omega
            have hx2 : Xv.size ≤ 140737488355328 := by unfold B.sz at hXs; simp only at hXs; omega
            have HSz := Lib.hid (fun w => size_any Xn Xv false w hx1 hx2)
            have q1 : IntKind.i64.wrap ((62 : Int) + (j : Int)) = 62 + (j : Int) := by rw [IntKind.wrap_i64]; omega
            have q2 : (j : Int) < (ln : Int) := by omega
            go_wp2_with fail
            refine (len_any wr g ln cn).mono ?_
            rintro e wA ⟨rfl, rfl⟩
            go_wp2_with fail
            refine HG.out.mono ?_
            rintro e wb ⟨rfl, hb8⟩
            have HB8 := Lib.hid (HBi.out.trans (hb8.mono hzi))
            have hz8 := HB8.out.size
            clear hb8 HG HBi hzi cn
            have hba : Below wb.heap.size wb (wb.alloc (.cells #[.string Xn, .string Xv, .bool false] 51)) := (Below.refl _ _).alloc (Nat.le_refl _) _
            have HBa := Lib.hid (HB8.out.trans (hba.mono hz8))
            clear hba HB8
            have hsm : (B.totN L1 j : Int) + (B.sz (Xn, Xv) : Int) = ((B.totN L1 (j + 1) : Nat) : Int) := by rw [HTS.out]; omega
            have hs9 : (B.totN L1 (j + 1) : Int) ≤ 4096 := by have := HTM.out; omega
            have q3 : IntKind.i64.wrap ((B.totN L1 j : Int) + (B.sz (Xn, Xv) : Int)) = ((B.totN L1 (j + 1) : Nat) : Int) := by rw [IntKind.wrap_i64, hsm]; omega
            clear hsm hs9
            go_wp2_with fail
            refine (HSz.out _).mono ?_
            rintro e w9 ⟨rfl, hb9⟩
            have HB9 := Lib.hid (HBa.out.trans (hb9.mono HBa.out.size))
            clear hb9 HSz
            have q4 : ¬ (na : Int) ≤ (j : Int) := by omega
            go_wp2
            go_roundw
            case rel => exact ⟨j + 1, by omega, by rw [Int.natCast_add]; rfl, rfl, HB9⟩
            case measure => simp [intOf]; omega
          · have q2 : ¬ (j : Int) < (ln : Int) := by omega
            obtain rfl : j = ln := by omega
            have q1 : IntKind.i64.wrap ((62 : Int) + (j : Int)) = 62 + (j : Int) := by rw [IntKind.wrap_i64]; omega
            have q5 : B.totN L1 j = B.tot L1 := by rw [HLn.out]; exact B.totN_all L1
            obtain ⟨tz, htz⟩ : ∃ tz, tz = B.tot L1 := ⟨_, rfl⟩
            have q6 : ¬ (m1 : Int) < (tz : Int) := by have := HTM.out; omega
            rw [q5, ← htz]
            have HTZ := Lib.hid htz
            have HG := Lib.hid (get_any g L1 m1 ((62 : Int) + (j : Int)) wr (by omega) (HT.out.below HBi.out))
            have hp2 : B.has L1 ((62 : Int) + (j : Int)) = false := by rw [HLn.out]; exact get_past L1
            obtain ⟨G1, hG1⟩ : ∃ G1, G1 = (B.get L1 ((62 : Int) + (j : Int))).1 := ⟨_, rfl⟩
            obtain ⟨G2, hG2⟩ : ∃ G2, G2 = (B.get L1 ((62 : Int) + (j : Int))).2 := ⟨_, rfl⟩
            rw [hp2, ← hG1, ← hG2] at HG
            clear hp2 hG1 hG2 q5 htz
            go_wp2_with fail
            refine (len_any wr g j cn).mono ?_
            rintro e wA ⟨rfl, rfl⟩
            go_wp2_with fail
            refine (len_any wr g j cn).mono ?_
            rintro e wA ⟨rfl, rfl⟩
            go_wp2_with fail
            refine HG.out.mono ?_
            rintro e wb ⟨rfl, hb8⟩
            have HB8 := Lib.hid (HBi.out.trans (hb8.mono hzi))
            have hz8 := HB8.out.size
            clear hb8 HG HBi hzi cn
            have hba : Below wb.heap.size wb (wb.alloc (.cells #[.string G1, .string G2, .bool false] 51)) := (Below.refl _ _).alloc (Nat.le_refl _) _
            have HBa := Lib.hid (HB8.out.trans (hba.mono hz8))
            clear hba HB8
            have cs := (by obtain ⟨R, o, _, h2, _⟩ := HT.out.below HBa.out; rw [HTZ.out]; exact h2.s.1 : (wb.alloc (.cells #[.string G1, .string G2, .bool false] 51)).cell? ⟨g, 386, none⟩ = some (.int .i64 tz))
            have cm := (by obtain ⟨R, o, _, h2, _⟩ := HT.out.below HBa.out; exact h2.m.1 : (wb.alloc (.cells #[.string G1, .string G2, .bool false] 51)).cell? ⟨g, 387, none⟩ = some (.int .i64 m1))
            go_wp2_with fail
            refine (sizeM_any _ g tz cs).mono ?_
            rintro e wA ⟨rfl, rfl⟩
            go_wp2_with fail
            refine (most_any _ g m1 cm).mono ?_
            rintro e wA ⟨rfl, rfl⟩
            go_wp2
            go_roundw
            case rel =>
              obtain ⟨HA, hLA1, hAk1⟩ := HR.out
              exact ⟨k + 1, by omega, by rw [Int.natCast_add]; rfl, ⟨L1, m1, A1, HT.out.below HBa.out, hLA1, hAk1, HA.out.below HBa.out⟩, HB.out.trans (HBa.out.mono hzw), Nat.le_trans hK HBa.out.size⟩
            case measure => simp [intOf]; omega
    · have hk2 : ¬ (k : Int) < (n1 : Int) := by omega
      obtain ⟨ln, hln⟩ : ∃ ln, ln = L.length := ⟨_, rfl⟩
      have HLn := Lib.hid hln
      obtain ⟨hl128, htm, hm4⟩ := HTr.out.le
      rw [← hln] at hl128
      have HTM := Lib.hid htm
      clear hln htm HAr hLA hAk
      obtain ⟨wo, hwo⟩ : ∃ wo, wo = wr := ⟨_, rfl⟩
      subst hwo
      go_wp2
      go_loopw [19] (fun i wr => ∃ j : Nat, j ≤ ln ∧ i = .int .i64 j ∧ Hid (Below wo.heap.size wo wr)) (fun i _ => ln - (intOf i).toNat)
      case atStart => exact ⟨0, by omega, rfl, Below.refl _ _⟩
      case round =>
        obtain ⟨j, hj, rfl, HBi⟩ := hrel
        have hzi := HBi.out.size
        have cn := (by obtain ⟨R, o, _, h2, _⟩ := HTr.out.below HBi.out; rw [HLn.out]; exact h2.n.1 : wr.cell? ⟨g, 385, none⟩ = some (.int .i64 ln))
        by_cases hlt2 : j < ln
        · obtain ⟨p1, p2⟩ := get_nth L j (by rw [← HLn.out]; exact hlt2)
          obtain ⟨jf, f1, f2⟩ := B.fnd_nth L j (by rw [← HLn.out]; exact hlt2)
          have HG := Lib.hid (get_any g L m ((62 : Int) + (j : Int)) wr (by omega) (HTr.out.below HBi.out))
          rw [p1, p2] at HG
          clear p1 p2
          obtain ⟨X, hX⟩ : ∃ X, X = B.nth L j := ⟨_, rfl⟩
          rw [← hX] at HG f1
          clear hX
          obtain ⟨Xn, Xv⟩ := X
          have Hf1 := Lib.hid f1
          clear f1
          have q1 : IntKind.i64.wrap ((62 : Int) + (j : Int)) = 62 + (j : Int) := by rw [IntKind.wrap_i64]; omega
          have q2 : (j : Int) < (ln : Int) := by omega
          have q3 : ¬ (62 : Int) + (j : Int) < jf := by omega
          clear f2
          go_wp2_with fail
          refine (len_any wr g ln cn).mono ?_
          rintro e wA ⟨rfl, rfl⟩
          go_wp2_with fail
          refine HG.out.mono ?_
          rintro e wb ⟨rfl, hb8⟩
          have HB8 := Lib.hid (HBi.out.trans (hb8.mono hzi))
          have hz8 := HB8.out.size
          clear hb8 HG HBi hzi cn
          have hba : Below wb.heap.size wb (wb.alloc (.cells #[.string Xn, .string Xv, .bool false] 51)) := (Below.refl _ _).alloc (Nat.le_refl _) _
          have HBa := Lib.hid (HB8.out.trans (hba.mono hz8))
          clear hba HB8
          have HF := find_any g m L Xn Xv _ (HTr.out.below HBa.out)
          rw [Hf1.out] at HF
          go_wp2_with fail
          refine HF.mono ?_
          rintro e wf ⟨rfl, hb9⟩
          have HB9 := Lib.hid (HBa.out.trans (hb9.mono HBa.out.size))
          clear hb9 HF HBa
          go_wp2
          go_roundw
          case rel => exact ⟨j + 1, by omega, by rw [Int.natCast_add]; rfl, HB9⟩
          case measure => simp [intOf]; omega
        · have q2 : ¬ (j : Int) < (ln : Int) := by omega
          go_wp2_with fail
          refine (len_any wr g ln cn).mono ?_
          rintro e wA ⟨rfl, rfl⟩
          go_wp2
          go_ret
          exact ⟨rfl, HBr.out.trans (HBi.out.mono hzr)⟩
end Go.Proofs.YtplajeboeckhhaaDoor
