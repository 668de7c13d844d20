/-
wire.Put whole: of groups, of ends, of tags that may not be, and all together.
-/
import Derived.Test.YtnejachdacakcaaDoorWputc
namespace Go.Proofs.YtnejachdacakcaaDoor
open Go.RowKit

set_option maxRecDepth 100000 in
theorem put_bad (F K : Int) (u : Nat) (a ab : Option Addr) (len cap nb cb : Nat) (E : Nat → Addr) (w : World) (h : F < 1 ∨ 536870911 < F ∨ K < 0 ∨ 5 < K) (hE : Errs w E) :
    Calls Tryd.prog 20 #[.slice a len cap, .agg #[.int .i64 F, .int .i64 K, .int .u64 u, .slice ab nb cb]] w (PutNo (E 3) w) := by
  have HB0 := Lib.hid (show Below w.heap.size w (w.alloc (.cells #[.int .i64 F, .int .i64 K, .int .u64 u, .slice ab nb cb] 27)) from (Below.refl _ _).alloc (Nat.le_refl _) _)
  have HT := Lib.hid (tag_no F K E (w.alloc (.cells #[.int .i64 F, .int .i64 K, .int .u64 u, .slice ab nb cb] 27)) (hE.below HB0.out) h)
  clear hE h
  generalize E 3 = E0 at *
  go_enter Tryd.func20, Tryd.ntmps20
  go_wp2_with fail
  refine HT.out.mono ?_
  rintro e w1 ⟨rfl, q, rfl⟩
  go_wp2
  refine bodyPost_ret (v := .tuple #[.slice none 0 0, .iface 121 (.pointer (some E0))]) (by simp [results, Tryd.results20, go_sem]) rfl ?_
  refine ⟨rfl, ?_⟩
  have hov := HB0.out
  repeat (first | with_reducible exact hov | with_reducible refine Below.drew ?_ | with_reducible refine below_q ?_ _)

set_option maxRecDepth 100000 in
theorem put4 (f : Nat) (u : Nat) (a ab : Option Addr) (len cap nb cb : Nat) (E : Nat → Addr) (w : World) (h1 : 1 ≤ f) (h2 : f ≤ 536870911) (hE : Errs w E) :
    Calls Tryd.prog 20 #[.slice a len cap, .agg #[.int .i64 f, .int .i64 4, .int .u64 u, .slice ab nb cb]] w (PutNo (E 0) w) := by
  have HB0 := Lib.hid (show Below w.heap.size w (w.alloc (.cells #[.int .i64 f, .int .i64 4, .int .u64 u, .slice ab nb cb] 27)) from (Below.refl _ _).alloc (Nat.le_refl _) _)
  have hg := (hE.below HB0.out).group
  clear hE
  generalize E 0 = E0 at *
  go_enter Tryd.func20, Tryd.ntmps20
  go_wp2_with fail
  refine (show Calls _ _ #[_, .int .i64 4] _ _ from tag_ok f 4 _ h1 h2 (by omega)).mono ?_
  rintro e w0 ⟨rfl, rfl⟩
  generalize f * 8 + 4 = T at *
  go_wp2
  go_quiet (fail)
  go_wp2
  refine bodyPost_ret (v := .tuple #[.slice none 0 0, .iface 121 (.pointer (some E0))]) (by simp [results, Tryd.results20, go_sem]) rfl ?_
  refine ⟨rfl, ?_⟩
  have hov := HB0.out
  repeat (first | with_reducible exact hov | with_reducible refine Below.drew ?_ | with_reducible refine below_q ?_ _)

set_option maxRecDepth 100000 in
theorem put3 {B Bb : Nat} (f u : Nat) (a ab : Option Addr) (len cap nb cb : Nat) (l bs : List Nat) (E : Nat → Addr) (w : World) (h1 : 1 ≤ f) (h2 : f ≤ 536870911) (hl : l.length = len) (hb : bs.length = nb) (hcb : nb ≤ cb) (hsz : len + nb + 60 ≤ 140737488355328) (hr : Rd B w a l) (hrb : Rd Bb w ab bs) (hBw : Bb ≤ w.heap.size) (hE : Errs w E) :
    Calls Tryd.prog 20 #[.slice a len cap, .agg #[.int .i64 f, .int .i64 3, .int .u64 u, .slice ab nb cb]] w
      (GroupOut (E 0) (W.chk 31 bs).2 (l ++ W.putF f 3 u bs) w) := by
  have HPF : Hid (W.putF f 3 u bs = W.vbs (f * 8 + 3) ++ bs ++ W.vbs (f * 8 + 4)) := by show _ = _; simp [W.putF]
  have HB0 := Lib.hid (show Below w.heap.size w (w.alloc (.cells #[.int .i64 f, .int .i64 3, .int .u64 u, .slice ab nb cb] 27)) from (Below.refl _ _).alloc (Nat.le_refl _) _)
  have hT64 : f * 8 + 3 < 18446744073709551616 := by omega
  have HG := Lib.hid (putG f (f * 8 + 3) u a ab len cap nb cb l bs E (w.alloc (.cells #[.int .i64 f, .int .i64 3, .int .u64 u, .slice ab nb cb] 27)) h1 h2 hT64 hl hb hcb hsz (hr.below HB0.out) (hrb.below HB0.out) (Nat.le_trans hBw HB0.out.size) (hE.below HB0.out))
  rw [HPF.out]
  clear hE hr hrb hl hb HPF hT64
  generalize E 0 = E0 at *
  generalize (W.chk 31 bs).2 = k at *
  generalize f * 8 + 4 = T4 at *
  generalize l ++ (W.vbs (f * 8 + 3) ++ bs ++ W.vbs T4) = L at *
  go_enter Tryd.func20, Tryd.ntmps20
  go_wp2_with fail
  refine (show Calls _ _ #[_, .int .i64 3] _ _ from tag_ok f 3 _ h1 h2 (by omega)).mono ?_
  rintro e w0 ⟨rfl, rfl⟩
  generalize f * 8 + 3 = T at *
  go_wp2_with fail
  refine HG.out.mono ?_
  rintro e w2 hp
  unfold GroupOut at hp
  by_cases hk : k = 0
  · rw [if_pos hk] at hp
    obtain ⟨v, rfl, hv, hb2⟩ := hp
    obtain ⟨gv, cp, rfl⟩ := hv.2
    have HV := Lib.hid hv
    have HB2 := Lib.hid hb2
    clear hv hb2
    go_wp2
    refine bodyPost_ret (v := .tuple #[.slice (some ⟨gv, 0, none⟩) L.length cp, .nilIface]) (by simp [results, Tryd.results20, go_sem]) rfl ?_
    unfold GroupOut
    rw [if_pos hk]
    exact ⟨_, rfl, HV.out.mono (by simp), HB0.out.trans (HB2.out.mono (by simp))⟩
  · rw [if_neg hk] at hp
    obtain ⟨rfl, hb2⟩ := hp
    have HB2 := Lib.hid hb2
    clear hb2
    go_wp2
    refine bodyPost_ret (v := .tuple #[.slice none 0 0, .iface 121 (.pointer (some E0))]) (by simp [results, Tryd.results20, go_sem]) rfl ?_
    unfold GroupOut
    rw [if_neg hk]
    exact ⟨rfl, HB0.out.trans (HB2.out.mono (by simp))⟩

/-- Put, whatever it is asked. -/
def PutAll (l : List Nat) (F K : Int) (u : Nat) (bs : List Nat) (w : World) (e : Ending) (w' : World) : Prop :=
  (∃ p, PutNo p w e w') ∨ ∃ f kd : Nat, F = f ∧ K = kd ∧ 1 ≤ f ∧ f ≤ 536870911 ∧ kd ≤ 5 ∧ kd ≠ 4 ∧ (kd = 3 → (W.chk 31 bs).2 = 0) ∧ PutOk (l ++ W.putF f kd u bs) w e w'

theorem put_all {B Bb : Nat} (F K : Int) (u : Nat) (a ab : Option Addr) (len cap nb cb : Nat) (l bs : List Nat) (E : Nat → Addr) (w : World) (hu : Hid (u < 18446744073709551616)) (hl : l.length = len) (hb : bs.length = nb) (hcb : nb ≤ cb) (hsz : len + nb + 60 ≤ 140737488355328) (hr : Rd B w a l) (hrb : Rd Bb w ab bs) (hBw : Bb ≤ w.heap.size) (hE : Errs w E) :
    Calls Tryd.prog 20 #[.slice a len cap, .agg #[.int .i64 F, .int .i64 K, .int .u64 u, .slice ab nb cb]] w (PutAll l F K u bs w) := by
  by_cases h : F < 1 ∨ 536870911 < F ∨ K < 0 ∨ 5 < K
  · exact (put_bad F K u a ab len cap nb cb E w h hE).mono fun e w' hp => Or.inl ⟨_, hp⟩
  obtain ⟨f, rfl⟩ : ∃ f : Nat, F = f := ⟨F.toNat, by omega⟩
  obtain ⟨kd, rfl⟩ : ∃ k : Nat, K = k := ⟨K.toNat, by omega⟩
  have h1 : 1 ≤ f := by omega
  have h2 : f ≤ 536870911 := by omega
  have h3 : kd ≤ 5 := by omega
  clear h
  match kd, h3 with
  | 0, _ => exact (put0 f u a ab len cap nb cb l bs w h1 h2 hu hl (by omega) hr).mono fun e w' hp => Or.inr ⟨f, 0, rfl, rfl, h1, h2, by omega, by omega, fun h => absurd h (by omega), hp⟩
  | 1, _ => exact (put1 f u a ab len cap nb cb l bs w h1 h2 hu hl (by omega) hr).mono fun e w' hp => Or.inr ⟨f, 1, rfl, rfl, h1, h2, by omega, by omega, fun h => absurd h (by omega), hp⟩
  | 2, _ => exact (put2 f u a ab len cap nb cb l bs w h1 h2 hl hb (by omega) hr hrb).mono fun e w' hp => Or.inr ⟨f, 2, rfl, rfl, h1, h2, by omega, by omega, fun h => absurd h (by omega), hp⟩
  | 3, _ =>
    refine (put3 f u a ab len cap nb cb l bs E w h1 h2 hl hb hcb hsz hr hrb hBw hE).mono fun e w' hp => ?_
    unfold GroupOut at hp
    by_cases hk : (W.chk 31 bs).2 = 0
    · rw [if_pos hk] at hp
      exact Or.inr ⟨f, 3, rfl, rfl, h1, h2, by omega, by omega, fun _ => hk, hp⟩
    · rw [if_neg hk] at hp
      exact Or.inl ⟨_, hp⟩
  | 4, _ => exact (put4 f u a ab len cap nb cb E w h1 h2 hE).mono fun e w' hp => Or.inl ⟨_, hp⟩
  | 5, _ => exact (put5 f u a ab len cap nb cb l bs w h1 h2 hu hl (by omega) hr).mono fun e w' hp => Or.inr ⟨f, 5, rfl, rfl, h1, h2, by omega, by omega, fun h => absurd h (by omega), hp⟩

theorem putF_len (f kd u : Nat) (bs : List Nat) : (W.putF f kd u bs).length ≤ bs.length + 20 := by
  have v := fun x => (W.vb_len 9 x).2
  have e : ∀ x, (W.vbs x).length = (W.vb 9 x).length := fun _ => rfl
  have a := v (f * 8 + kd)
  have b := v u
  have c := v bs.length
  have d := v (f * 8 + 4)
  unfold W.putF
  repeat' split
  all_goals simp only [List.length_append, W.leB_len, e]; omega

theorem putF_lt (f kd u : Nat) (bs : List Nat) (h2 : f ≤ 536870911) (h3 : kd ≤ 5) (hu : u < 18446744073709551616) (hb : bs.length < 18446744073709551616) (hbs : ∀ x ∈ bs, x < 256) : ∀ x ∈ W.putF f kd u bs, x < 256 := by
  have a := W.vbs_lt (f * 8 + kd) (by omega)
  have b := W.vbs_lt u hu
  have c := W.vbs_lt bs.length hb
  have d := W.vbs_lt (f * 8 + 4) (by omega)
  unfold W.putF
  repeat' split
  · exact lt_app a b
  · exact lt_app a (W.leB_lt 8 u)
  · exact lt_app a (W.leB_lt 4 u)
  · exact lt_app (lt_app a c) hbs
  · exact lt_app (lt_app a hbs) d
end Go.Proofs.YtnejachdacakcaaDoor
