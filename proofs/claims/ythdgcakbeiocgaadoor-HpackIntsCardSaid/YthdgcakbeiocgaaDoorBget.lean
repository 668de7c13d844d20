/-
The walks of table.Resize, moved, standing, Static, Get.
-/
import Derived.Test.YthdgcakbeiocgaaDoorBadd
namespace Go.Proofs.YthdgcakbeiocgaaDoor
open Go.RowKit

set_option maxRecDepth 100000 in
theorem resize_yes (g : Nat) (L : List B.HD) (m k : Nat) (w : World) (hk : k ≤ 4096) (hT : Tab w g L m) :
    Calls Tryd.prog 50 #[.pointer (some ⟨g, 0, none⟩), .int .i64 k] w fun e w' => e = .returned .nilIface ∧ Tab w' g (B.shr k L) k ∧ Only g w w' := by
  have HM : Hid (∀ w, Calls Tryd.prog 71 #[.int .i64 k] w fun e w' => e = .returned (.bool true) ∧ w = w') := fun w => by
    have := mayBe_any k w
    rw [decide_eq_true (by omega)] at this
    exact this
  obtain ⟨hl0, hm1, hm2⟩ := hT.le
  obtain ⟨R, o, HR, HTb, _, _⟩ := hT
  obtain ⟨cm, cm2⟩ := HTb.m
  have HTb := Lib.hid HTb
  go_enter Tryd.func50, Tryd.ntmps50
  go_upto_region 4 with (go_at_call 71; refine (HM.out _).mono ?_; rintro e w1 ⟨rfl, rfl⟩)
  have HT1 : Hid (Tb (w.setCell ⟨g, 387, none⟩ (.int .i64 k)) g R o L.length (B.tot L) k) := Tb.setm HTb.out k
  have HO1 : Hid (Only g w (w.setCell ⟨g, 387, none⟩ (.int .i64 k))) := (Only.refl g w).set _ _
  have HSh := Lib.hid (shrink_any g L k k _ hk ⟨R, o, HR, HT1.out, by omega, hk⟩)
  clear HT1 cm cm2 HTb
  generalize w.setCell ⟨g, 387, none⟩ (.int .i64 k) = w1 at *
  go_wp2_with (go_at_call 72; refine HSh.out.mono ?_; rintro e w2 ⟨rfl, hT2, hO2⟩; have HT2 := Lib.hid hT2; have HO2 := Lib.hid (HO1.out.trans hO2); clear hT2 hO2)
  go_ret
  exact ⟨rfl, HT2.out.tab (B.shr_tot k L), HO2.out⟩

set_option maxRecDepth 100000 in
theorem resize_no (g : Nat) (k : Int) (e0 : Addr) (w : World) (hk : ¬ (0 ≤ k ∧ k ≤ 4096)) (hE : TE w e0) :
    Calls Tryd.prog 50 #[.pointer (some ⟨g, 0, none⟩), .int .i64 k] w fun e w' => e = .returned (.iface 166 (.pointer (some e0))) ∧ w = w' := by
  have HM : Hid (∀ w, Calls Tryd.prog 71 #[.int .i64 k] w fun e w' => e = .returned (.bool false) ∧ w = w') := fun w => by
    have := mayBe_any k w
    rw [decide_eq_false hk] at this
    exact this
  unfold TE at hE
  go_enter Tryd.func50, Tryd.ntmps50
  go_wp2_with (go_at_call 71; refine (HM.out _).mono ?_; rintro e w1 ⟨rfl, rfl⟩)
  go_ret
  exact ⟨rfl, rfl⟩

set_option maxRecDepth 100000 in
theorem moved_any (g : Nat) (L : List B.HD) (m j : Nat) (w : World) (hj : j < L.length) (hT : Tab w g L m) :
    Calls Tryd.prog 109 #[.pointer (some ⟨g, 0, none⟩), .int .i64 (62 + j : Nat)] w fun e w' => e = .returned (.agg #[.string (B.nth L j).1, .string (B.nth L j).2, .bool false]) ∧ Below w.heap.size w w' := by
  rw [B.nth_eq L j hj]
  have hg := hT.lt
  obtain ⟨R, o, HR, HTb, hm1, hm2⟩ := hT
  obtain ⟨ho, hl, hr⟩ := HR
  have hr2 := hr (L.length - 1 - j) (by omega)
  obtain ⟨h, hh⟩ : ∃ h, h = L.getD (L.length - 1 - j) (⟨#[]⟩, ⟨#[]⟩) := ⟨_, rfl⟩
  rw [← hh] at hr2 ⊢
  obtain ⟨n, v⟩ := h
  obtain ⟨q, hq⟩ : ∃ q, q = (o + (L.length - 1 - j)) % 128 := ⟨_, rfl⟩
  rw [← hq] at hr2
  have hq1 : q < 128 := by omega
  obtain ⟨⟨a0, a1, a2⟩, _⟩ := HTb.at q hq1
  rw [hr2] at a0 a1
  obtain ⟨co, _⟩ := HTb.o
  obtain ⟨cn, _⟩ := HTb.n
  clear hr hr2 hh HTb
  generalize L.length = l at *
  have e1 : IntKind.i64.wrap ((o : Int) + (l : Int)) = (o : Int) + (l : Int) := by rw [IntKind.wrap_i64]; omega
  have e2 : IntKind.i64.wrap ((o : Int) + (l : Int) - 1) = (o : Int) + (l : Int) - 1 := by rw [IntKind.wrap_i64]; omega
  have e3 : IntKind.i64.wrap ((62 : Int) + (j : Int) - 62) = (j : Int) := by rw [IntKind.wrap_i64]; omega
  have e4 : IntKind.i64.wrap ((o : Int) + (l : Int) - 1 - (j : Int)) = (o : Int) + (l : Int) - 1 - (j : Int) := by rw [IntKind.wrap_i64]; omega
  have e5 : ((o : Int) + (l : Int) - 1 - (j : Int)) % 128 = (q : Int) := by omega
  have e6 : ((o : Int) + (l : Int) - 1 - (j : Int)).tmod 128 = (q : Int) := by
    rw [Int.tmod_eq_emod_of_nonneg (by omega)]
    exact e5
  have k0 : (0 : Int) ≤ (q : Int) := by omega
  have k1 : (q : Int) < 128 := by omega
  clear hq hm1 hm2
  go_enter Tryd.func109, Tryd.ntmps109
  go_upto_region 1 with (fail)
  obtain ⟨z0, z1, z2, y0, y1, y2, HB1, hkeep⟩ : ∃ (_ : (w.alloc (.cells #[.string ⟨#[]⟩, .string ⟨#[]⟩, .bool false] 66)).cell? ⟨w.heap.size, 0, none⟩ = some (.string ⟨#[]⟩)) (_ : (w.alloc (.cells #[.string ⟨#[]⟩, .string ⟨#[]⟩, .bool false] 66)).cell? ⟨w.heap.size, 1, none⟩ = some (.string ⟨#[]⟩)) (_ : (w.alloc (.cells #[.string ⟨#[]⟩, .string ⟨#[]⟩, .bool false] 66)).cell? ⟨w.heap.size, 2, none⟩ = some (.bool false))
      (_ : (w.alloc (.cells #[.string ⟨#[]⟩, .string ⟨#[]⟩, .bool false] 66)).frozen? ⟨w.heap.size, 0, none⟩ = false) (_ : (w.alloc (.cells #[.string ⟨#[]⟩, .string ⟨#[]⟩, .bool false] 66)).frozen? ⟨w.heap.size, 1, none⟩ = false) (_ : (w.alloc (.cells #[.string ⟨#[]⟩, .string ⟨#[]⟩, .bool false] 66)).frozen? ⟨w.heap.size, 2, none⟩ = false)
      (_ : Hid (Below w.heap.size w (w.alloc (.cells #[.string ⟨#[]⟩, .string ⟨#[]⟩, .bool false] 66)))),
      (∀ o, (w.alloc (.cells #[.string ⟨#[]⟩, .string ⟨#[]⟩, .bool false] 66)).cell? ⟨g, o, none⟩ = w.cell? ⟨g, o, none⟩) :=
    ⟨by simp, by simp, by simp, by simp, by simp, by simp, (Below.refl _ _).alloc (Nat.le_refl _) _, fun o => World.cell?_alloc_lt _ _ _ (show (⟨g, o, none⟩ : Addr).block < w.heap.size from hg)⟩
  rw [← hkeep] at co cn a0 a1 a2
  clear hkeep
  have hne : w.heap.size ≠ g := by omega
  generalize hs : w.heap.size = sb at *
  have HS := Lib.hid hs
  clear hs
  generalize w.alloc (.cells #[.string ⟨#[]⟩, .string ⟨#[]⟩, .bool false] 66) = w1 at *
  go_still_tail 19, (by kernel_rfl)
  go_wp2
  refine bodyPost_ret (v := .agg #[.string n, .string v, .bool false]) (by simp [results, Tryd.results109, go_sem, z0, z1, z2]) rfl ?_
  refine ⟨rfl, ?_⟩
  rw [HS.out]
  exact (((HB1.out.setCell (Nat.le_refl _) _).setCell (Nat.le_refl _) _).setCell (Nat.le_refl _) _).drew
end Go.Proofs.YthdgcakbeiocgaaDoor
