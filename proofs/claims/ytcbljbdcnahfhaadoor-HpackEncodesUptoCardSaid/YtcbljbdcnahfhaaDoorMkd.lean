/-
The walks of hpack's readIndexed, readPlain, readNever, readAdded, readSize.
-/
import Derived.Deep.RegionHeld3
import Derived.Laws.EntriesVeiled
import Derived.Defers
import Derived.Recover
import Derived.Test.YtcbljbdcnahfhaaDoorMkc
/- Kread -/
namespace Go.Proofs.YtcbljbdcnahfhaaDoor
open Go.RowKit

/-- What stays the same for a reader: the world of the errors, bounds, blocks. -/
structure RK where
  V : World
  E : Nat → Addr
  Kb : Nat
  Kl : Nat
  rB : Nat
  g : Nat
  lim : Nat
structure RK.Ok (k : RK) : Prop where
  br : k.Kb ≤ k.rB
  vr : k.V.heap.size ≤ k.rB
  vg : k.V.heap.size ≤ k.g
  ne : k.rB ≠ k.g
  rl : k.rB < k.Kl
  gl : k.g < k.Kl
  lim : k.lim ≤ 4096

/-- Below block B, but for two blocks, all is as it was. -/
structure OnlyT (B g h : Nat) (w w' : World) : Prop where
  os : w'.os = w.os
  tape : w'.tape = w.tape
  output : w'.output = w.output
  size : w.heap.size ≤ w'.heap.size
  block : ∀ k, k < B → k ≠ g → k ≠ h → w'.heap[k]? = w.heap[k]?
theorem OnlyT.refl (B g h : Nat) (w : World) : OnlyT B g h w w := ⟨rfl, rfl, rfl, Nat.le_refl _, fun _ _ _ _ => rfl⟩
theorem OnlyT.trans {B g h : Nat} {a b c : World} (x : OnlyT B g h a b) (y : OnlyT B g h b c) : OnlyT B g h a c :=
  ⟨y.os.trans x.os, y.tape.trans x.tape, y.output.trans x.output, Nat.le_trans x.size y.size, fun i hi h1 h2 => (y.block i hi h1 h2).trans (x.block i hi h1 h2)⟩
theorem OnlyB.t1 {B g h : Nat} {a b : World} (x : OnlyB B g a b) : OnlyT B g h a b := ⟨x.os, x.tape, x.output, x.size, fun i hi h1 _ => x.block i hi h1⟩
theorem OnlyB.t2 {B g h : Nat} {a b : World} (x : OnlyB B h a b) : OnlyT B g h a b := ⟨x.os, x.tape, x.output, x.size, fun i hi _ h2 => x.block i hi h2⟩

/-- A reader in the midst of a block: the state s, and the bytes l to come. -/
def RSt (k : RK) (s : P.St) (l : List Nat) (w : World) : Prop :=
  ∃ a n c lv, RC w k.rB k.g k.lim a n c lv s.z ∧ RdS k.Kb k.g w a n c l ∧ n ≤ 1000000000 ∧ QOwn k.Kl w lv s.A ∧ Tab w k.g s.L s.m ∧ EK k.V k.E w ∧ s.z ≤ 16384 ∧ s.A.length * 32 ≤ s.z ∧ k.Kl ≤ w.heap.size
theorem RSt.below {k : RK} {s : P.St} {l : List Nat} {w w' : World} (hk : k.Ok) (h : RSt k s l w) (hb : Below w.heap.size w w') : RSt k s l w' := by
  obtain ⟨a, n, c, lv, h1, h2, h3, h4, h5, h6, h7, h8, h9⟩ := h
  exact ⟨a, n, c, lv, h1.below hb, h2.below hb, h3, h4.below hb, h5.below hb, h6.below hb (by have := hk.vr; have := hk.rl; omega), h7, h8, Nat.le_trans h9 hb.size⟩

/-- What a function hands back that reads one thing of a block, or the fault. -/
def StepPost (k : RK) (r : Except Nat (P.St × List Nat)) (w : World) (e : Ending) (w' : World) : Prop :=
  OnlyT k.Kl k.rB k.g w w' ∧ match r with
  | .error i => e = Pan k.E i
  | .ok (s', l') => e = .returned (.tuple #[]) ∧ RSt k s' l' w'

theorem only_t {k : RK} (_hk : k.Ok) {w w' : World} (h : Only k.rB w w') (hw : k.Kl ≤ w.heap.size) : OnlyT k.Kl k.rB k.g w w' := (OnlyB.of_only h hw).t1
/-- Only the reader's block has changed: the list is still there, and the table. -/
theorem qown_r {k : RK} (hk : k.Ok) {w w' : World} {lv : Value} {A : List (B.HD × Bool)} (h : QOwn k.Kl w lv A) (ho : Only k.rB w w') : QOwn k.Kl w' lv A := h.only ho (fun e => by have := (h.lt _ e).1; have := hk.rl; omega)

/-- tell, from a state on: what is behind it; what was new ahead of it stands. -/
theorem tell_box (k : RK) (hk : k.Ok) (s : P.St) (l : List Nat) (hn hv : ByteArray) (nv : Bool) (w0 w : World) (hS0 : RSt k s l w0) (hbw : Below w0.heap.size w0 w) (hsn : hn.size ≤ 100000) (hsv : hv.size ≤ 100000) :
    Calls Tryd.prog 101 #[.pointer (some ⟨k.rB, 0, none⟩), .agg #[.string hn, .string hv, .bool nv]] w fun e w' => OnlyB k.Kl k.rB w w' ∧ (∀ x, w0.heap.size ≤ x → x < w.heap.size → w'.heap[x]? = w.heap[x]?) ∧ w.heap.size ≤ w'.heap.size ∧ match P.tell s ((hn, hv), nv) with
      | .error i => e = Pan k.E i
      | .ok s' => e = .returned (.tuple #[]) ∧ RSt k s' l w' := by
  have hS := hS0.below hk hbw
  obtain ⟨a, n, c, lv, h1, h2, h3, h4, h5, h6, h7, h8, h9⟩ := hS0
  have hr0 := h1.lt
  have hl0 := h4.lt
  replace h1 := h1.below hbw
  replace h2 := h2.below hbw
  replace h4 := h4.below hbw
  replace h5 := h5.below hbw
  have hk1 := hk.rl
  have hk2 := hk.br
  have hk3 := hk.vr
  replace h6 := h6.below hbw (by omega)
  have h9' : k.Kl ≤ w.heap.size := Nat.le_trans h9 hbw.size
  refine (tell_any k.Kl k.V k.E k.rB k.g k.lim a n c lv s.z s.A hn hv nv w h1 h4 h6 hk.vr hk.rl h9' h7 h8 (by omega) (by omega)).mono ?_
  rintro e w' ⟨ho, hkp, hp⟩
  refine ⟨ho, fun x hx1 hx2 => hkp.block x hx2 (by omega) (fun e => by have := (hl0 x e).2; omega), hkp.size, ?_⟩
  unfold P.tell
  by_cases hbig : 16384 < s.z + B.sz (hn, hv)
  · rw [if_pos hbig] at hp ⊢
    exact hp
  · rw [if_neg hbig] at hp ⊢
    obtain ⟨he, lv', hc, hq⟩ := hp
    have hsz := B.sz_ge (hn, hv)
    refine ⟨he, a, n, c, lv', hc, ⟨h2.len, h2.cap, ⟨h2.rd.1, fun j hj => ?_⟩, h2.ng⟩, h3, hq, ?_, ?_, by simp only; omega, by simp only [List.length_append, List.length_cons, List.length_nil]; omega, Nat.le_trans h9' ho.size⟩
    · obtain ⟨b, o, e1, hb, hcell⟩ := h2.rd.2 j hj
      exact ⟨b, o, e1, hb, ho.cell (by omega) (by omega) hcell⟩
    · obtain ⟨R, o, t1, t2, t3⟩ := h5
      exact ⟨R, o, t1, fun j hj => ⟨ho.cell hk.gl (Ne.symm hk.ne) (t2 j hj).1, ho.frozen hk.gl (Ne.symm hk.ne) (t2 j hj).2⟩, t3⟩
    · exact ⟨h6.1, fun i hi => (ho.block i (by omega) (by omega)).trans (h6.2 i hi)⟩
theorem tell_st (k : RK) (hk : k.Ok) (s : P.St) (l : List Nat) (hn hv : ByteArray) (nv : Bool) (w : World) (hS : RSt k s l w) (hsn : hn.size ≤ 100000) (hsv : hv.size ≤ 100000) :
    Calls Tryd.prog 101 #[.pointer (some ⟨k.rB, 0, none⟩), .agg #[.string hn, .string hv, .bool nv]] w fun e w' => OnlyB k.Kl k.rB w w' ∧ match P.tell s ((hn, hv), nv) with
      | .error i => e = Pan k.E i
      | .ok s' => e = .returned (.tuple #[]) ∧ RSt k s' l w' :=
  (tell_box k hk s l hn hv nv w w hS (Below.refl _ _) hsn hsv).mono fun _ _ h => ⟨h.1, h.2.2.2⟩

/-- named, from a state on. -/
theorem named_st (k : RK) (hk : k.Ok) (b : Nat) (s : P.St) (l : List Nat) (w : World) (hb1 : 1 ≤ b) (hb : b ≤ 8) (hS : RSt k s l w) (hl : ∀ x ∈ l, x < 256) :
    Calls Tryd.prog 104 #[.pointer (some ⟨k.rB, 0, none⟩), .int .i64 (b : Nat)] w fun e w' => OnlyT k.Kl k.rB k.g w w' ∧ match P.named s.L b l with
      | .error i => e = Pan k.E i
      | .ok (h, l') => e = .returned (.agg #[.string h.1, .string h.2, .bool false]) ∧ RSt k s l' w' ∧ h.1.size ≤ 100000 ∧ h.2.size ≤ 100000 := by
  obtain ⟨a, n, c, lv, h1, h2, h3, h4, h5, h6, h7, h8, h9⟩ := hS
  have hk1 := hk.rl
  have hk2 := hk.br
  have hk3 := hk.vr
  refine (named_any k.V k.E b k.rB k.g k.lim a n c lv s.z l s.L s.m w hb1 hb h1 h2 h3 h6 h5 hk.br hk.vr hk.ne).mono ?_
  rintro e w' ⟨ho, hp⟩
  refine ⟨only_t hk ho h9, ?_⟩
  cases hn : P.named s.L b l with
  | error i => rw [hn] at hp; exact hp
  | ok p =>
    obtain ⟨h, l'⟩ := p
    rw [hn] at hp
    simp only at hp ⊢
    obtain ⟨he, a', n', c', hc, hr⟩ := hp
    have htot := h5.le
    have hsz := P.named_size (by omega) hb hl hn
    refine ⟨he, ⟨a', n', c', lv, hc, hr, ?_, qown_r hk h4 ho, h5.onlyR ho (Ne.symm hk.ne), h6.only ho hk.vr (by omega), h7, h8, Nat.le_trans h9 ho.size⟩, by omega, by omega⟩
    have e1 := h2.len
    have e2 := hr.len
    omega

set_option maxRecDepth 100000 in
set_option maxHeartbeats 1000000 in
theorem readIndexed_any (k : RK) (hk : k.Ok) (s : P.St) (l : List Nat) (w : World) (hS : RSt k s l w) (hc : 128 ≤ l.headD 0) :
    Calls Tryd.prog 90 #[.pointer (some ⟨k.rB, 0, none⟩)] w (StepPost k (P.step k.lim s l) w) := by
  have HT := Lib.hid (fun l hn hv nv w hS h1 h2 => tell_st k hk s l hn hv nv w hS h1 h2)
  have HS := Lib.hid hS
  obtain ⟨a, n, c, lv, h1, h2, h3, h4, h5, h6, h7, h8, h9⟩ := hS
  have hkl := hk.rl
  have hkb := hk.br
  cases hrn : P.rnum 7 l with
  | error i =>
    have HP : Hid (P.step k.lim s l = .error i) := by show _ = _; unfold P.step; rw [if_pos hc, hrn]
    have HN := Lib.hid (number_no (B := k.Kb) k.E 7 k.rB k.g k.lim a n c lv s.z l i w (by omega) (by omega) h1 h2.len (by omega) h2.rd h6.all (P.rnum_err hrn))
    clear HT HS h1 h2 h4 h5 h6
    go_enter Tryd.func90, Tryd.ntmps90
    go_wp2_with fail
    refine (show Calls _ _ #[_, .int .i64 7] _ _ from HN.out).mono ?_
    rintro e w1 ⟨rfl, hb1⟩
    unfold Pan
    go_wp2
    refine ⟨rfl, (OnlyB.of_below (hb1.mono h9)).t1, ?_⟩
    rw [HP.out]
    rfl
  | ok p =>
    obtain ⟨i, l1⟩ := p
    obtain ⟨hl1, hi, kk, hg, rfl⟩ := P.rnum_len (by omega) hrn
    have hkn : kk ≤ n := by
      have := (P.get_ok (b := 7) (l := l) (by omega) (by rw [hg])).2.1
      rw [hg, h2.len] at this
      exact this
    have HN := Lib.hid (number_yes (B := k.Kb) k.E 7 k.rB k.g k.lim a n c lv s.z l i kk w (by omega) (by omega) h1 h2.len (by omega) h2.rd h6.all hg)
    have HSt : Hid (∀ w1, RC w1 k.rB k.g k.lim (cutA a c kk) (n - kk) (c - kk) lv s.z → Only k.rB w w1 → RSt k s (l.drop kk) w1) := fun w1 hc1 ho1 =>
      ⟨_, _, _, lv, hc1, (h2.only ho1 (Or.inl hk.br)).cut hkn, by omega, qown_r hk h4 ho1, h5.onlyR ho1 (Ne.symm hk.ne), h6.only ho1 hk.vr (by have := hk.vr; omega), h7, h8, Nat.le_trans h9 ho1.size⟩
    have H5 := Lib.hid h5
    have H6 := Lib.hid h6
    have htot := h5.le
    clear h1 h2 h4 h5 h6
    go_enter Tryd.func90, Tryd.ntmps90
    go_wp2_with fail
    refine (show Calls _ _ #[_, .int .i64 7] _ _ from HN.out).mono ?_
    rintro e w1 ⟨rfl, hc1, ho1⟩
    have HS1 := Lib.hid (HSt.out w1 hc1 ho1)
    have HC1 := Lib.hid hc1
    have HO1 := Lib.hid (only_t hk ho1 h9)
    have HT1 := Lib.hid (H5.out.onlyR ho1 (Ne.symm hk.ne))
    have HE1 := Lib.hid (H6.out.only ho1 hk.vr (by have := hk.vr; omega))
    have hz1 := ho1.size
    clear hc1 ho1 HSt HN H5 H6
    cases hh : B.has s.L (i : Int) with
    | false =>
      have HP : Hid (P.step k.lim s l = .error 7) := by show _ = _; unfold P.step; rw [if_pos hc, hrn]; simp only; rw [if_neg (by rw [hh]; simp)]
      go_wp2_with fail
      refine (header_no k.E k.rB k.g k.lim _ _ _ lv s.z s.L s.m i w1 HC1.out HT1.out hi HE1.out.all hh).mono ?_
      rintro e w2 ⟨rfl, hb2⟩
      unfold Pan
      go_wp2
      refine ⟨rfl, HO1.out.trans (OnlyB.of_below (hb2.mono (by omega))).t1, ?_⟩
      rw [HP.out]
      rfl
    | true =>
      have HP : Hid (P.step k.lim s l = match P.tell s (B.get s.L (i : Int), false) with | .error e => .error e | .ok s1 => .ok (s1, l.drop kk)) := by show _ = _; unfold P.step; rw [if_pos hc, hrn]; simp only; rw [if_pos hh]; rfl
      have hgs := P.get_size (L := s.L) (i := (i : Int)) (by omega)
      go_wp2_with fail
      refine (header_yes k.rB k.g k.lim _ _ _ lv s.z s.L s.m i w1 HC1.out HT1.out hi hh).mono ?_
      rintro e w2 ⟨rfl, hb2⟩
      have HS2 := Lib.hid (HS1.out.below hk hb2)
      have HO2 := Lib.hid (HO1.out.trans (OnlyB.of_below (hb2.mono (by omega))).t1)
      clear hb2 HS1 HC1 HO1 HT1 HE1
      generalize B.get s.L (i : Int) = gx at *
      obtain ⟨gn, gv⟩ := gx
      simp only at hgs ⊢
      go_wp2_with fail
      refine (HT.out (l.drop kk) gn gv false w2 HS2.out (by omega) (by omega)).mono ?_
      rintro e w3 ⟨ho3, hp3⟩
      have HO3 := Lib.hid (HO2.out.trans ho3.t1)
      cases htl : P.tell s ((gn, gv), false) with
      | error j =>
        rw [htl] at hp3 HP
        simp only at hp3 HP
        subst hp3
        unfold Pan
        go_wp2
        refine ⟨rfl, HO3.out, ?_⟩
        rw [HP.out]
        rfl
      | ok s1 =>
        rw [htl] at hp3 HP
        simp only at hp3 HP
        obtain ⟨rfl, hs1⟩ := hp3
        go_wp2
        go_end0
        refine ⟨HO3.out, ?_⟩
        rw [HP.out]
        exact ⟨rfl, hs1⟩
end Go.Proofs.YtcbljbdcnahfhaaDoor
/- Kreadb -/
namespace Go.Proofs.YtcbljbdcnahfhaaDoor
open Go.RowKit

theorem step_plain {lim : Nat} {s : P.St} {l : List Nat} (hc : l.headD 0 < 32) : P.step lim s l = match P.named s.L 4 l with
    | .error e => .error e
    | .ok (h, l1) => match P.tell s (h, decide (16 ≤ l.headD 0)) with | .error e => .error e | .ok s1 => .ok (s1, l1) := by
  unfold P.step
  rw [if_neg (by omega), if_neg (by omega), if_neg (by omega)]
  rfl
theorem step_added {lim : Nat} {s : P.St} {l : List Nat} (h1 : 64 ≤ l.headD 0) (h2 : l.headD 0 < 128) : P.step lim s l = match P.named s.L 6 l with
    | .error e => .error e
    | .ok (h, l1) => match P.tell s (h, false) with | .error e => .error e | .ok s1 => .ok ({ s1 with L := B.add s.m s.L h }, l1) := by
  unfold P.step
  rw [if_neg (by omega), if_pos (by omega)]
  rfl

set_option maxRecDepth 100000 in
set_option maxHeartbeats 1000000 in
theorem readPlain_any (k : RK) (hk : k.Ok) (s : P.St) (l : List Nat) (w : World) (hS : RSt k s l w) (hl : ∀ x ∈ l, x < 256) (hc : l.headD 0 < 16) :
    Calls Tryd.prog 94 #[.pointer (some ⟨k.rB, 0, none⟩)] w (StepPost k (P.step k.lim s l) w) := by
  have HT := Lib.hid (fun l hn hv nv w hS h1 h2 => tell_st k hk s l hn hv nv w hS h1 h2)
  have HP := Lib.hid (step_plain (lim := k.lim) (s := s) (l := l) (by omega))
  rw [decide_eq_false (by omega)] at HP
  have HN := Lib.hid (named_st k hk 4 s l w (by omega) (by omega) hS hl)
  have h9 : k.Kl ≤ w.heap.size := by obtain ⟨_, _, _, _, _, _, _, _, _, _, _, _, h9⟩ := hS; exact h9
  clear hS hl
  go_enter Tryd.func94, Tryd.ntmps94
  go_wp2_with fail
  refine (show Calls _ _ #[_, .int .i64 4] _ _ from HN.out).mono ?_
  rintro e w1 ⟨ho1, hp1⟩
  have HO1 := Lib.hid ho1
  clear ho1 HN
  cases hn : P.named s.L 4 l with
  | error i =>
    rw [hn] at hp1 HP
    simp only at hp1 HP
    subst hp1
    unfold Pan
    go_wp2
    refine ⟨rfl, HO1.out, ?_⟩
    rw [HP.out]
    rfl
  | ok p =>
    obtain ⟨⟨gn, gv⟩, l1⟩ := p
    rw [hn] at hp1 HP
    simp only at hp1 HP
    obtain ⟨rfl, hs1, hz1, hz2⟩ := hp1
    have HS1 := Lib.hid hs1
    clear hs1
    go_wp2_with fail
    refine (HT.out l1 gn gv false w1 HS1.out hz1 hz2).mono ?_
    rintro e w3 ⟨ho3, hp3⟩
    have HO3 := Lib.hid (HO1.out.trans ho3.t1)
    clear ho3
    cases htl : P.tell s ((gn, gv), false) with
    | error j =>
      rw [htl] at hp3 HP
      simp only at hp3 HP
      subst hp3
      unfold Pan
      go_wp2
      refine ⟨rfl, HO3.out, ?_⟩
      rw [HP.out]
      rfl
    | ok s1 =>
      rw [htl] at hp3 HP
      simp only at hp3 HP
      obtain ⟨rfl, hs1⟩ := hp3
      go_wp2
      go_end0
      refine ⟨HO3.out, ?_⟩
      rw [HP.out]
      exact ⟨rfl, hs1⟩

theorem OnlyT.of_below {B g h : Nat} {w w' : World} (x : Below B w w') : OnlyT B g h w w' := (OnlyB.of_below x).t1
theorem OnlyT.setNew {B g h : Nat} {w w' : World} (x : OnlyT B g h w w') {b : Nat} (hb : B ≤ b) (j : Nat) (v : Value) : OnlyT B g h w (w'.setCell ⟨b, j, none⟩ v) :=
  x.trans ⟨rfl, rfl, rfl, by simp, fun i hi _ _ => Below.heap_setCell _ _ _ _ (by simp only; omega)⟩

set_option maxRecDepth 100000 in
set_option maxHeartbeats 1000000 in
theorem readNever_any (k : RK) (hk : k.Ok) (s : P.St) (l : List Nat) (w : World) (hS : RSt k s l w) (hl : ∀ x ∈ l, x < 256) (hc : 16 ≤ l.headD 0) (hc2 : l.headD 0 < 32) :
    Calls Tryd.prog 93 #[.pointer (some ⟨k.rB, 0, none⟩)] w (StepPost k (P.step k.lim s l) w) := by
  have HT := Lib.hid (fun l hn hv nv w hS h1 h2 => tell_st k hk s l hn hv nv w hS h1 h2)
  have HP := Lib.hid (step_plain (lim := k.lim) (s := s) (l := l) (by omega))
  rw [decide_eq_true (by omega)] at HP
  have HN := Lib.hid (named_st k hk 4 s l w (by omega) (by omega) hS hl)
  have h9 : k.Kl ≤ w.heap.size := by obtain ⟨_, _, _, _, _, _, _, _, _, _, _, _, h9⟩ := hS; exact h9
  clear hS hl
  go_enter Tryd.func93, Tryd.ntmps93
  go_wp2_with fail
  refine (show Calls _ _ #[_, .int .i64 4] _ _ from HN.out).mono ?_
  rintro e w1 ⟨ho1, hp1⟩
  have HO1 := Lib.hid ho1
  have hz1' := ho1.size
  clear ho1 HN
  cases hn : P.named s.L 4 l with
  | error i =>
    rw [hn] at hp1 HP
    simp only at hp1 HP
    subst hp1
    unfold Pan
    go_wp2
    refine ⟨rfl, HO1.out, ?_⟩
    rw [HP.out]
    rfl
  | ok p =>
    obtain ⟨⟨gn, gv⟩, l1⟩ := p
    rw [hn] at hp1 HP
    simp only at hp1 HP
    obtain ⟨rfl, hs1, hz1, hz2⟩ := hp1
    have hb2 : Below w1.heap.size w1 (w1.alloc (.cells #[.string gn, .string gv, .bool true] 66)) := (Below.refl _ _).alloc (Nat.le_refl _) _
    have HS2 := Lib.hid (hs1.below hk hb2)
    have HO2 := Lib.hid (HO1.out.trans (OnlyT.of_below (hb2.mono (by omega))))
    clear hs1 hb2 HO1
    go_wp2_with fail
    refine (HT.out l1 gn gv true _ HS2.out hz1 hz2).mono ?_
    rintro e w3 ⟨ho3, hp3⟩
    have HO3 := Lib.hid (HO2.out.trans ho3.t1)
    clear ho3
    cases htl : P.tell s ((gn, gv), true) with
    | error j =>
      rw [htl] at hp3 HP
      simp only at hp3 HP
      subst hp3
      unfold Pan
      go_wp2
      refine ⟨rfl, HO3.out, ?_⟩
      rw [HP.out]
      rfl
    | ok s1 =>
      rw [htl] at hp3 HP
      simp only at hp3 HP
      obtain ⟨rfl, hs1⟩ := hp3
      go_wp2
      go_end0
      refine ⟨HO3.out, ?_⟩
      rw [HP.out]
      exact ⟨rfl, hs1⟩

theorem OnlyB.t3 {B g h : Nat} {a b : World} (x : OnlyB B g a b) : OnlyT B h g a b := x.t2
/-- The table has turned, and nothing else. -/
theorem RSt.tab {k : RK} {s : P.St} {l : List Nat} {w w' : World} (hk : k.Ok) (h : RSt k s l w) (ho : Only k.g w w') {L' : List B.HD} {m' : Nat} (hT : Tab w' k.g L' m') : RSt k { s with L := L', m := m' } l w' := by
  obtain ⟨a, n, c, lv, h1, h2, h3, h4, h5, h6, h7, h8, h9⟩ := h
  have hk1 := hk.gl
  have hk2 := hk.vg
  exact ⟨a, n, c, lv, h1.only ho hk.ne, h2.only ho (Or.inr rfl), h3, h4.only ho (fun e => by have := (h4.lt _ e).1; omega), hT, h6.only ho hk2 (by omega), h7, h8, Nat.le_trans h9 ho.size⟩

set_option maxRecDepth 100000 in
set_option maxHeartbeats 1000000 in
theorem readAdded_any (k : RK) (hk : k.Ok) (s : P.St) (l : List Nat) (w : World) (hS : RSt k s l w) (hl : ∀ x ∈ l, x < 256) (hc : 64 ≤ l.headD 0) (hc2 : l.headD 0 < 128) :
    Calls Tryd.prog 91 #[.pointer (some ⟨k.rB, 0, none⟩)] w (StepPost k (P.step k.lim s l) w) := by
  have HT := Lib.hid (fun l hn hv nv w0 w hS hb h1 h2 => tell_box k hk s l hn hv nv w0 w hS hb h1 h2)
  have HP := Lib.hid (step_added (lim := k.lim) (s := s) (l := l) hc hc2)
  have HN := Lib.hid (named_st k hk 6 s l w (by omega) (by omega) hS hl)
  have h9 : k.Kl ≤ w.heap.size := by obtain ⟨_, _, _, _, _, _, _, _, _, _, _, _, h9⟩ := hS; exact h9
  clear hS hl
  go_enter Tryd.func91, Tryd.ntmps91
  go_wp2_with fail
  refine (show Calls _ _ #[_, .int .i64 6] _ _ from HN.out).mono ?_
  rintro e w1 ⟨ho1, hp1⟩
  have HO1 := Lib.hid ho1
  have hz1' := ho1.size
  clear ho1 HN
  cases hn : P.named s.L 6 l with
  | error i =>
    rw [hn] at hp1 HP
    simp only at hp1 HP
    subst hp1
    unfold Pan
    go_wp2
    refine ⟨rfl, HO1.out, ?_⟩
    rw [HP.out]
    rfl
  | ok p =>
    obtain ⟨⟨gn, gv⟩, l1⟩ := p
    rw [hn] at hp1 HP
    simp only at hp1 HP
    obtain ⟨rfl, hs1, hz1, hz2⟩ := hp1
    have hb2 : Below w1.heap.size w1 (w1.alloc (.cells #[.string gn, .string gv, .bool false] 66)) := (Below.refl _ _).alloc (Nat.le_refl _) _
    have HO2 := Lib.hid (HO1.out.trans (OnlyT.of_below (hb2.mono (by omega))))
    have HX2 := Lib.hid (HBox.new w1 gn gv false)
    have HC := Lib.hid (HT.out l1 gn gv false w1 _ hs1 hb2 hz1 hz2)
    clear hs1 hb2 HO1
    go_wp2_with fail
    refine HC.out.mono ?_
    rintro e w3 ⟨ho3, hblk, hz3, hp3⟩
    have HO3 := Lib.hid (HO2.out.trans ho3.t1)
    have HX3 : Hid (HBox w3 w1.heap.size gn gv false) := (hblk _ (Nat.le_refl _) (by simp)).trans HX2.out
    have hz3' : k.Kl ≤ w3.heap.size := by simp at hz3; omega
    clear ho3 HC HX2 HO2 hblk hz3
    cases htl : P.tell s ((gn, gv), false) with
    | error j =>
      rw [htl] at hp3 HP
      simp only at hp3 HP
      subst hp3
      unfold Pan
      go_wp2
      refine ⟨rfl, HO3.out, ?_⟩
      rw [HP.out]
      rfl
    | ok s1 =>
      rw [htl] at hp3 HP
      simp only at hp3 HP
      obtain ⟨rfl, hs1⟩ := hp3
      have hL : s1.L = s.L ∧ s1.m = s.m := by rw [(P.tell_ok htl).2]; exact ⟨rfl, rfl⟩
      have HS3 := Lib.hid (hs1.below hk (below_drew' w3))
      have hr1 : w3.cell? ⟨k.rB, 1, none⟩ = some (.pointer (some ⟨k.g, 0, none⟩)) := by obtain ⟨_, _, _, _, h1, _⟩ := hs1; exact h1.c1
      have hS : Hid (w3.cell? ⟨k.rB, 1, none⟩ = some (.pointer (some ⟨k.g, 0, none⟩)) ∧ w3.cell? ⟨w1.heap.size, 0, none⟩ = some (.string gn) ∧ w3.cell? ⟨w1.heap.size, 1, none⟩ = some (.string gv) ∧ w3.cell? ⟨w1.heap.size, 2, none⟩ = some (.bool false)) := ⟨hr1, HX3.out.cells⟩
      have HA : Hid (Calls Tryd.prog 77 #[.pointer (some ⟨k.g, 0, none⟩), .agg #[.string gn, .string gv, .bool false]] w3.drew fun e w' => e = .returned (.tuple #[]) ∧ Tab w' k.g (B.add s.m s.L (gn, gv)) s.m ∧ Only k.g w3.drew w') := by
        obtain ⟨_, _, _, _, _, _, _, _, h5, _⟩ := HS3.out
        rw [hL.1, hL.2] at h5
        exact add_any k.g s.L s.m gn gv false _ (by omega) (by omega) h5
      have HF : Hid (∀ w4, Tab w4 k.g (B.add s.m s.L (gn, gv)) s.m → Only k.g w3.drew w4 → StepPost k (P.step k.lim s l) w (.returned (.tuple #[])) w4) := fun w4 ht ho => by
        refine ⟨HO3.out.trans ((OnlyT.of_below ((below_drew' w3).mono hz3')).trans (OnlyB.of_only ho (Nat.le_trans hz3' (Nat.le_refl w3.heap.size))).t2), ?_⟩
        rw [HP.out]
        have := HS3.out.tab hk ho ht
        rw [← hL.2] at this ⊢
        exact ⟨rfl, this⟩
      have hng : w1.heap.size ≠ k.g ∧ k.rB ≠ k.g := ⟨by have := hk.gl; omega, hk.ne⟩
      clear hs1 hr1 HS3 HX3 HP hL
      go_upto_region 2 with (fail)
      go_region_held3 (fun ww => ww.cell? ⟨k.rB, 1, none⟩ = some (.pointer (some ⟨k.g, 0, none⟩)) ∧ ww.cell? ⟨w1.heap.size, 0, none⟩ = some (.string gn) ∧ ww.cell? ⟨w1.heap.size, 1, none⟩ = some (.string gv) ∧ ww.cell? ⟨w1.heap.size, 2, none⟩ = some (.bool false)) (first | exact hS.out | exact HS4.out) (first | (go_at_call 77; refine HA.out.mono ?_; rintro e w4 ⟨rfl, ht4, ho4⟩; have HFin := Lib.hid (HF.out w4 ht4 ho4); have HS4 : Hid (w4.cell? ⟨k.rB, 1, none⟩ = some (.pointer (some ⟨k.g, 0, none⟩)) ∧ w4.cell? ⟨w1.heap.size, 0, none⟩ = some (.string gn) ∧ w4.cell? ⟨w1.heap.size, 1, none⟩ = some (.string gv) ∧ w4.cell? ⟨w1.heap.size, 2, none⟩ = some (.bool false)) := ⟨ho4.cell hng.2 hS.out.1, ho4.cell hng.1 hS.out.2.1, ho4.cell hng.1 hS.out.2.2.1, ho4.cell hng.1 hS.out.2.2.2⟩; clear ht4 ho4))
      all_goals
        go_end0
        exact HFin.out
end Go.Proofs.YtcbljbdcnahfhaaDoor
/- Kreadc -/
namespace Go.Proofs.YtcbljbdcnahfhaaDoor
open Go.RowKit

theorem step_size {lim : Nat} {s : P.St} {l : List Nat} (h1 : 32 ≤ l.headD 0) (h2 : l.headD 0 < 64) : P.step lim s l = if s.A ≠ [] then .error 8 else
    match P.rnum 5 l with
    | .error e => .error e
    | .ok (n, l1) => if lim < n then .error 8 else .ok ({ s with L := B.shr n s.L, m := n }, l1) := by
  unfold P.step
  rw [if_neg (by omega), if_neg (by omega), if_pos (by omega)]
  rfl

set_option maxRecDepth 100000 in
set_option maxHeartbeats 1000000 in
theorem readSize_any (k : RK) (hk : k.Ok) (s : P.St) (l : List Nat) (w : World) (hS : RSt k s l w) (hc : 32 ≤ l.headD 0) (hc2 : l.headD 0 < 64) :
    Calls Tryd.prog 92 #[.pointer (some ⟨k.rB, 0, none⟩)] w (StepPost k (P.step k.lim s l) w) := by
  have HP := Lib.hid (step_size (lim := k.lim) (s := s) (l := l) hc hc2)
  have HS := Lib.hid hS
  obtain ⟨a, n, c, lv, h1, h2, h3, h4, h5, h6, h7, h8, h9⟩ := hS
  have hkl := hk.rl
  have hkb := hk.br
  have hlim := hk.lim
  have H1 := Lib.hid h1
  have H6 := Lib.hid h6
  have H4 := Lib.hid h4
  obtain ⟨al, cpl, rfl⟩ := h4.form
  obtain ⟨_, _, c2, ⟨c3, f3⟩, _, _⟩ := h1
  have h8e : w.cell? ⟨0, 0, none⟩ = some (eV k.E (eg 8)) := kgs_cell h6.all 8 (by decide)
  unfold eV at h8e
  by_cases hA : s.A = []
  · rw [if_neg (by simp [hA])] at HP
    have hA0 : s.A.length = 0 := by rw [hA]; rfl
    cases hrn : P.rnum 5 l with
    | error i =>
      try rw [hrn] at HP
      try simp only at HP
      have HN := Lib.hid (number_no (B := k.Kb) k.E 5 k.rB k.g k.lim a n c _ s.z l i w (by omega) (by omega) H1.out h2.len (by omega) h2.rd h6.all (P.rnum_err hrn))
      clear HS H1 h2 H4 h4 h5 h6 H6
      rw [hA0] at c3
      go_enter Tryd.func92, Tryd.ntmps92
      go_wp2_with fail
      refine (show Calls _ _ #[_, .int .i64 5] _ _ from HN.out).mono ?_
      rintro e w1 ⟨rfl, hb1⟩
      unfold Pan
      go_wp2
      refine ⟨rfl, (OnlyB.of_below (hb1.mono h9)).t1, ?_⟩
      rw [HP.out]
      rfl
    | ok p =>
      obtain ⟨i, l1⟩ := p
      try rw [hrn] at HP
      try simp only at HP
      obtain ⟨hl1, hi, kk, hg, rfl⟩ := P.rnum_len (by omega) hrn
      have hkn : kk ≤ n := by
        have := (P.get_ok (b := 5) (l := l) (by omega) (by rw [hg])).2.1
        rw [hg, h2.len] at this
        exact this
      have HN := Lib.hid (number_yes (B := k.Kb) k.E 5 k.rB k.g k.lim a n c _ s.z l i kk w (by omega) (by omega) H1.out h2.len (by omega) h2.rd h6.all hg)
      have HSt : Hid (∀ w1, RC w1 k.rB k.g k.lim (cutA a c kk) (n - kk) (c - kk) (.slice al s.A.length cpl) s.z → Only k.rB w w1 → RSt k s (l.drop kk) w1) := fun w1 hc1 ho1 =>
        ⟨_, _, _, _, hc1, (h2.only ho1 (Or.inl hk.br)).cut hkn, by omega, qown_r hk h4 ho1, h5.onlyR ho1 (Ne.symm hk.ne), h6.only ho1 hk.vr (by have := hk.vr; omega), h7, h8, Nat.le_trans h9 ho1.size⟩
      have htot := h5.le
      have hvw : k.V.heap.size ≤ w.heap.size := by have := hk.vr; omega
      clear HS H1 h2 H4 h4 h5 h6
      rw [hA0] at c3 HN HSt
      go_enter Tryd.func92, Tryd.ntmps92
      go_wp2_with fail
      refine (show Calls _ _ #[_, .int .i64 5] _ _ from HN.out).mono ?_
      rintro e w1 ⟨rfl, hc1, ho1⟩
      have HS1 := Lib.hid (HSt.out w1 hc1 ho1)
      have HO1 := Lib.hid (only_t hk ho1 h9)
      have HE1 := Lib.hid (H6.out.only ho1 hk.vr hvw)
      have hz1 := ho1.size
      have k1 := hc1.c1
      have k2 := hc1.c2
      have h8f : w1.cell? ⟨0, 0, none⟩ = some (eV k.E (eg 8)) := kgs_cell HE1.out.all 8 (by decide)
      unfold eV at h8f
      clear hc1 ho1 HSt HN H6 h8e c2 c3 f3
      by_cases hbig : k.lim < i
      · rw [if_pos hbig] at HP
        have q1 : (k.lim : Int) < (i : Int) := by omega
        go_wp2
        refine ⟨rfl, HO1.out, ?_⟩
        rw [HP.out]
        rfl
      · rw [if_neg hbig] at HP
        have q1 : ¬ (k.lim : Int) < (i : Int) := by omega
        have HR : Hid (Calls Tryd.prog 50 #[.pointer (some ⟨k.g, 0, none⟩), .int .i64 i] w1 fun e w' => e = .returned .nilIface ∧ Tab w' k.g (B.shr i s.L) i ∧ Only k.g w1 w') := by
          obtain ⟨_, _, _, _, _, _, _, _, t5, _⟩ := HS1.out
          exact resize_yes k.g s.L s.m i w1 (by omega) t5
        go_wp2_with fail
        refine HR.out.mono ?_
        rintro e w2 ⟨rfl, ht2, ho2⟩
        have HS2 := Lib.hid (HS1.out.tab hk ho2 ht2)
        have HO2 := Lib.hid (HO1.out.trans (OnlyB.of_only ho2 (by omega)).t2)
        clear ht2 ho2 HS1 HO1 HE1 h8f k1 k2 HR
        go_wp2_with fail
        refine (check_yes _ w2).mono ?_
        rintro e w3 ⟨rfl, rfl⟩
        go_wp2
        go_end0
        refine ⟨HO2.out, ?_⟩
        rw [HP.out]
        exact ⟨rfl, HS2.out⟩
  · rw [if_pos hA] at HP
    have hA0 : 0 < s.A.length := by
      cases hx : s.A with
      | nil => exact absurd hx hA
      | cons x r => simp
    have q1 : (0 : Int) < (s.A.length : Int) := by omega
    clear HS H1 h2 H4 h4 h5 h6 H6
    generalize s.A.length = nA at *
    go_enter Tryd.func92, Tryd.ntmps92
    go_wp2
    refine ⟨rfl, OnlyT.of_below (Below.refl _ _), ?_⟩
    rw [HP.out]
    rfl
end Go.Proofs.YtcbljbdcnahfhaaDoor
/- Kkind -/
namespace Go.Proofs.YtcbljbdcnahfhaaDoor
open Go.RowKit

/-- The five kinds, in their block. -/
def KBlk (w : World) (g : Nat) : Prop := w.heap[g]? = some (.cells #[.int .u8 128, .func (.func 90) #[] #[], .int .u8 64, .func (.func 91) #[] #[], .int .u8 32, .func (.func 92) #[] #[], .int .u8 16, .func (.func 93) #[] #[], .int .u8 0, .func (.func 94) #[] #[]] 136 (0, 0))
theorem KBlk.cells {w : World} {g : Nat} (h : KBlk w g) : w.cell? ⟨g, 0, none⟩ = some (.int .u8 128) ∧ w.cell? ⟨g, 1, none⟩ = some (.func (.func 90) #[] #[]) ∧ w.cell? ⟨g, 2, none⟩ = some (.int .u8 64) ∧ w.cell? ⟨g, 3, none⟩ = some (.func (.func 91) #[] #[])
    ∧ w.cell? ⟨g, 4, none⟩ = some (.int .u8 32) ∧ w.cell? ⟨g, 5, none⟩ = some (.func (.func 92) #[] #[]) ∧ w.cell? ⟨g, 6, none⟩ = some (.int .u8 16) ∧ w.cell? ⟨g, 7, none⟩ = some (.func (.func 93) #[] #[]) ∧ w.cell? ⟨g, 8, none⟩ = some (.int .u8 0) ∧ w.cell? ⟨g, 9, none⟩ = some (.func (.func 94) #[] #[]) :=
  ⟨by rw [cell_of_row w g 0 _ _ _ h]; rfl, by rw [cell_of_row w g 1 _ _ _ h]; rfl, by rw [cell_of_row w g 2 _ _ _ h]; rfl, by rw [cell_of_row w g 3 _ _ _ h]; rfl, by rw [cell_of_row w g 4 _ _ _ h]; rfl, by rw [cell_of_row w g 5 _ _ _ h]; rfl, by rw [cell_of_row w g 6 _ _ _ h]; rfl, by rw [cell_of_row w g 7 _ _ _ h]; rfl, by rw [cell_of_row w g 8 _ _ _ h]; rfl, by rw [cell_of_row w g 9 _ _ _ h]; rfl⟩
theorem KBlk.below {w w' : World} {g : Nat} (h : KBlk w g) (hb : Below w.heap.size w w') : KBlk w' g := (hb.block g (Array.getElem?_eq_some_iff.1 h).1).trans h
theorem KBlk.lt {w : World} {g : Nat} (h : KBlk w g) : g < w.heap.size := (Array.getElem?_eq_some_iff.1 h).1

set_option maxRecDepth 100000 in
theorem kinds_any (w : World) : Calls Tryd.prog 80 #[] w fun e w' => e = .returned (.slice (some ⟨w.heap.size, 0, none⟩) 5 5) ∧ KBlk w' w.heap.size ∧ Below w.heap.size w w' ∧ w'.heap.size = w.heap.size + 1 := by
  go_enter Tryd.func80, Tryd.ntmps80
  go_wp2
  go_ret
  exact ⟨rfl, heap_alloc_new w _, (Below.refl _ _).alloc (Nat.le_refl _) _, by simp⟩

/-- The number of the function that reads a thing whose first byte is b; its place; what its kind begins with. -/
def kr (b : Nat) : Nat := if 128 ≤ b then 90 else if 64 ≤ b then 91 else if 32 ≤ b then 92 else if 16 ≤ b then 93 else 94
def kc (b : Nat) : Nat := if 128 ≤ b then 0 else if 64 ≤ b then 1 else if 32 ≤ b then 2 else if 16 ≤ b then 3 else 4
def kf (b : Nat) : Nat := if 128 ≤ b then 128 else if 64 ≤ b then 64 else if 32 ≤ b then 32 else if 16 ≤ b then 16 else 0

set_option maxRecDepth 100000 in
set_option maxHeartbeats 1000000 in
theorem kindOf_any (g b : Nat) (w : World) (hK : KBlk w g) : Calls Tryd.prog 81 #[.slice (some ⟨g, 0, none⟩) 5 5, .int .u8 (b : Nat)] w fun e w' => e = .returned (.agg #[.int .u8 (kf b : Nat), .func (.func (kr b)) #[] #[]]) ∧ Below w.heap.size w w' := by
  obtain ⟨w0, hw0⟩ : ∃ w0, w0 = w.alloc (.cells #[.int .u8 0, .nilFunc] 136) := ⟨_, rfl⟩
  go_enter Tryd.func81, Tryd.ntmps81
  go_wp2
  rw [← hw0]
  have hb0 : Below w.heap.size w w0 := by rw [hw0]; exact (Below.refl _ _).alloc (Nat.le_refl _) _
  have HB0 := Lib.hid hb0
  have HBx : Hid (w0.heap[w.heap.size]? = some (.cells #[.int .u8 0, .nilFunc] 136 (0, 0))) := by rw [hw0]; exact heap_alloc_new w _
  have HK := Lib.hid (hK.below hb0)
  have hKlt := hK.lt
  obtain ⟨c0, c1, c2, c3, c4, c5, c6, c7, c8, c9⟩ := HK.out.cells
  clear hw0 hb0 hK
  have hz0 : w.heap.size < w0.heap.size := (Array.getElem?_eq_some_iff.1 HBx.out).1
  have x0 : w0.cell? ⟨w.heap.size, 0, none⟩ = some (.int .u8 0) := by rw [cell_of_row w0 _ 0 _ _ _ HBx.out]; rfl
  have x1 : w0.cell? ⟨w.heap.size, 1, none⟩ = some .nilFunc := by rw [cell_of_row w0 _ 1 _ _ _ HBx.out]; rfl
  have f0 : w0.frozen? ⟨w.heap.size, 0, none⟩ = false := by simp [World.frozen?, HBx.out]
  have f1 : w0.frozen? ⟨w.heap.size, 1, none⟩ = false := by simp [World.frozen?, HBx.out]
  go_loopw [5] (fun i wr => ∃ k : Nat, k ≤ kc b ∧ i = .int .i64 (k : Nat) ∧ wr = w0) (fun i _ => 5 - (intOf i).toNat)
  case atStart => exact ⟨0, Nat.zero_le _, rfl, rfl⟩
  case round =>
    obtain ⟨k, hk, rfl, rfl⟩ := hrel
    have hk5 : k = 0 ∨ k = 1 ∧ b < 128 ∨ k = 2 ∧ b < 64 ∨ k = 3 ∧ b < 32 ∨ k = 4 ∧ b < 16 := by
      unfold kc at hk
      split at hk
      · omega
      · split at hk
        · omega
        · split at hk
          · omega
          · split at hk <;> omega
    clear hk
    rcases hk5 with rfl | ⟨rfl, hlt⟩ | ⟨rfl, hlt⟩ | ⟨rfl, hlt⟩ | ⟨rfl, hlt⟩
    · by_cases h : b < 128
      · have q1 : (b : Int) < 128 := by omega
        go_wp2
        go_roundw
        case rel => exact ⟨1, by unfold kc; (repeat' split) <;> omega, by simp⟩
        case measure => simp [intOf]
      · have q1 : ¬ (b : Int) < 128 := by omega
        have e1 : kf b = 128 := by unfold kf; rw [if_pos (by omega)]
        have e2 : kr b = 90 := by unfold kr; rw [if_pos (by omega)]
        go_wp2
        refine bodyPost_ret (v := .agg #[.int .u8 128, .func (.func 90) #[] #[]]) (by simp [results, Tryd.results81, go_sem, x0, x1]) rfl ⟨by first | rfl | (rw [e1, e2]; rfl), (HB0.out.setCell (Nat.le_refl _) _).setCell (Nat.le_refl _) _⟩
    · by_cases h : b < 64
      · have q1 : (b : Int) < 64 := by omega
        go_wp2
        go_roundw
        case rel => exact ⟨2, by unfold kc; (repeat' split) <;> omega, by simp⟩
        case measure => simp [intOf]
      · have q1 : ¬ (b : Int) < 64 := by omega
        have e1 : kf b = 64 := by unfold kf; rw [if_neg (by omega)]; rw [if_pos (by omega)]
        have e2 : kr b = 91 := by unfold kr; rw [if_neg (by omega)]; rw [if_pos (by omega)]
        go_wp2
        refine bodyPost_ret (v := .agg #[.int .u8 64, .func (.func 91) #[] #[]]) (by simp [results, Tryd.results81, go_sem, x0, x1]) rfl ⟨by first | rfl | (rw [e1, e2]; rfl), (HB0.out.setCell (Nat.le_refl _) _).setCell (Nat.le_refl _) _⟩
    · by_cases h : b < 32
      · have q1 : (b : Int) < 32 := by omega
        go_wp2
        go_roundw
        case rel => exact ⟨3, by unfold kc; (repeat' split) <;> omega, by simp⟩
        case measure => simp [intOf]
      · have q1 : ¬ (b : Int) < 32 := by omega
        have e1 : kf b = 32 := by unfold kf; rw [if_neg (by omega)]; rw [if_neg (by omega)]; rw [if_pos (by omega)]
        have e2 : kr b = 92 := by unfold kr; rw [if_neg (by omega)]; rw [if_neg (by omega)]; rw [if_pos (by omega)]
        go_wp2
        refine bodyPost_ret (v := .agg #[.int .u8 32, .func (.func 92) #[] #[]]) (by simp [results, Tryd.results81, go_sem, x0, x1]) rfl ⟨by first | rfl | (rw [e1, e2]; rfl), (HB0.out.setCell (Nat.le_refl _) _).setCell (Nat.le_refl _) _⟩
    · by_cases h : b < 16
      · have q1 : (b : Int) < 16 := by omega
        go_wp2
        go_roundw
        case rel => exact ⟨4, by unfold kc; (repeat' split) <;> omega, by simp⟩
        case measure => simp [intOf]
      · have q1 : ¬ (b : Int) < 16 := by omega
        have e1 : kf b = 16 := by unfold kf; rw [if_neg (by omega)]; rw [if_neg (by omega)]; rw [if_neg (by omega)]; rw [if_pos (by omega)]
        have e2 : kr b = 93 := by unfold kr; rw [if_neg (by omega)]; rw [if_neg (by omega)]; rw [if_neg (by omega)]; rw [if_pos (by omega)]
        go_wp2
        refine bodyPost_ret (v := .agg #[.int .u8 16, .func (.func 93) #[] #[]]) (by simp [results, Tryd.results81, go_sem, x0, x1]) rfl ⟨by first | rfl | (rw [e1, e2]; rfl), (HB0.out.setCell (Nat.le_refl _) _).setCell (Nat.le_refl _) _⟩
    · skip
      · have q1 : ¬ (b : Int) < 0 := by omega
        have e1 : kf b = 0 := by unfold kf; rw [if_neg (by omega)]; rw [if_neg (by omega)]; rw [if_neg (by omega)]; rw [if_neg (by omega)]
        have e2 : kr b = 94 := by unfold kr; rw [if_neg (by omega)]; rw [if_neg (by omega)]; rw [if_neg (by omega)]; rw [if_neg (by omega)]
        go_wp2
        refine bodyPost_ret (v := .agg #[.int .u8 0, .func (.func 94) #[] #[]]) (by simp [results, Tryd.results81, go_sem, x0, x1]) rfl ⟨by first | rfl | (rw [e1, e2]; rfl), (HB0.out.setCell (Nat.le_refl _) _).setCell (Nat.le_refl _) _⟩

/-- The readers, as one. -/
theorem step_any (k : RK) (hk : k.Ok) (s : P.St) (l : List Nat) (w : World) (hS : RSt k s l w) (hl : ∀ x ∈ l, x < 256) :
    Calls Tryd.prog (kr (l.headD 0)) #[.pointer (some ⟨k.rB, 0, none⟩)] w (StepPost k (P.step k.lim s l) w) := by
  unfold kr
  split
  · exact readIndexed_any k hk s l w hS (by omega)
  · split
    · exact readAdded_any k hk s l w hS hl (by omega) (by omega)
    · split
      · exact readSize_any k hk s l w hS (by omega) (by omega)
      · split
        · exact readNever_any k hk s l w hS hl (by omega) (by omega)
        · exact readPlain_any k hk s l w hS hl (by omega)
end Go.Proofs.YtcbljbdcnahfhaaDoor
/- Kmathe -/
namespace Go.Proofs.YtcbljbdcnahfhaaDoor
namespace P
open B (HD)
theorem named_drop {L : List HD} {b : Nat} {l r : List Nat} {h : HD} (hb : b ≤ 8) (hn : named L b l = .ok (h, r)) : ∃ k, r = l.drop k ∧ r.length < l.length := by
  unfold named at hn
  cases hr : rnum b l with
  | error e => rw [hr] at hn; simp at hn
  | ok p =>
    obtain ⟨i, l1⟩ := p
    obtain ⟨h1, _, k, _, rfl⟩ := rnum_len hb hr
    rw [hr] at hn
    simp only at hn
    split at hn
    · split at hn
      · cases hv : rtxt (l.drop k) with
        | error e => rw [hv] at hn; simp at hn
        | ok p2 =>
          obtain ⟨v, l2⟩ := p2
          rw [hv] at hn
          simp only [Except.ok.injEq, Prod.mk.injEq] at hn
          obtain ⟨rfl, rfl⟩ := hn
          obtain ⟨h2, t, k2, _, _, rfl⟩ := rtxt_len hv
          exact ⟨k + k2, by rw [List.drop_drop], by omega⟩
      · simp at hn
    · cases hv : rtxt (l.drop k) with
      | error e => rw [hv] at hn; simp at hn
      | ok p2 =>
        obtain ⟨v, l2⟩ := p2
        rw [hv] at hn
        simp only at hn
        obtain ⟨h2, t, k2, _, _, rfl⟩ := rtxt_len hv
        cases hv2 : rtxt ((l.drop k).drop k2) with
        | error e => rw [hv2] at hn; simp at hn
        | ok p3 =>
          obtain ⟨v2, l3⟩ := p3
          rw [hv2] at hn
          simp only [Except.ok.injEq, Prod.mk.injEq] at hn
          obtain ⟨rfl, rfl⟩ := hn
          obtain ⟨h3, t3, k3, _, _, rfl⟩ := rtxt_len hv2
          exact ⟨k + k2 + k3, by rw [List.drop_drop, List.drop_drop, Nat.add_assoc], by omega⟩
theorem step_drop {lim : Nat} {s s' : St} {l r : List Nat} (h : step lim s l = .ok (s', r)) : ∃ k, r = l.drop k ∧ r.length < l.length := by
  unfold step at h
  split at h
  · cases hr : rnum 7 l with
    | error e => rw [hr] at h; simp at h
    | ok p =>
      obtain ⟨i, l1⟩ := p
      obtain ⟨h1, _, k, _, rfl⟩ := rnum_len (by omega) hr
      rw [hr] at h
      simp only at h
      split at h
      · cases ht : tell s (B.get s.L (i : Int), false) with
        | error e => rw [ht] at h; simp at h
        | ok s1 =>
          rw [ht] at h
          simp only [Except.ok.injEq, Prod.mk.injEq] at h
          exact ⟨k, h.2.symm, by rw [← h.2]; exact h1⟩
      · simp at h
  · split at h
    · cases hr : named s.L 6 l with
      | error e => rw [hr] at h; simp at h
      | ok p =>
        obtain ⟨x, l1⟩ := p
        rw [hr] at h
        simp only at h
        cases ht : tell s (x, false) with
        | error e => rw [ht] at h; simp at h
        | ok s1 =>
          rw [ht] at h
          simp only [Except.ok.injEq, Prod.mk.injEq] at h
          rw [← h.2]
          exact named_drop (by omega) hr
    · split at h
      · split at h
        · simp at h
        · cases hr : rnum 5 l with
          | error e => rw [hr] at h; simp at h
          | ok p =>
            obtain ⟨i, l1⟩ := p
            obtain ⟨h1, _, k, _, rfl⟩ := rnum_len (by omega) hr
            rw [hr] at h
            simp only at h
            split at h
            · simp at h
            · simp only [Except.ok.injEq, Prod.mk.injEq] at h
              exact ⟨k, h.2.symm, by rw [← h.2]; exact h1⟩
      · cases hr : named s.L 4 l with
        | error e => rw [hr] at h; simp at h
        | ok p =>
          obtain ⟨x, l1⟩ := p
          rw [hr] at h
          simp only at h
          cases ht : tell s (x, decide (16 ≤ l.headD 0)) with
          | error e => rw [ht] at h; simp at h
          | ok s1 =>
            rw [ht] at h
            simp only [Except.ok.injEq, Prod.mk.injEq] at h
            rw [← h.2]
            exact named_drop (by omega) hr
/-- More steps than bytes change nothing. -/
theorem blk_fuel (lim : Nat) : ∀ (f g : Nat) (s : St) (l : List Nat), l.length ≤ f → l.length ≤ g → blk lim f s l = blk lim g s l
  | f, g, s, [], _, _ => by simp [blk]
  | 0, _, _, _ :: _, h, _ => by simp at h
  | _ + 1, 0, _, _ :: _, _, h => by simp at h
  | f + 1, g + 1, s, c :: r, h1, h2 => by
    simp only [blk]
    cases hs : step lim s (c :: r) with
    | error e => rfl
    | ok p =>
      obtain ⟨s1, l1⟩ := p
      obtain ⟨_, _, hl⟩ := step_drop hs
      simp only [List.length_cons] at h1 h2 hl
      exact blk_fuel lim f g s1 l1 (by omega) (by omega)
theorem blk_nil (lim f : Nat) (s : St) : blk lim f s [] = .ok s := by cases f <;> rfl
theorem blk_step {lim : Nat} {s : St} {l : List Nat} (hl : l ≠ []) : blk lim l.length s l = match step lim s l with
    | .error e => .error e
    | .ok (s1, l1) => blk lim l1.length s1 l1 := by
  cases l with
  | nil => exact absurd rfl hl
  | cons c r =>
    simp only [List.length_cons, blk]
    cases hs : step lim s (c :: r) with
    | error e => rfl
    | ok p =>
      obtain ⟨s1, l1⟩ := p
      obtain ⟨_, _, hlt⟩ := step_drop hs
      simp only [List.length_cons] at hlt
      exact blk_fuel lim _ _ s1 l1 (by omega) (Nat.le_refl _)
end P
end Go.Proofs.YtcbljbdcnahfhaaDoor
/- Kblk -/
namespace Go.Proofs.YtcbljbdcnahfhaaDoor
open Go.RowKit

/-- The readers may be called by their numbers. -/
theorem kr_call (x : Nat) (ww : World) (args : Array Value) : (callFunc (kr x) args).run Tryd.prog ww = .ok (.enter (kr x) args) ww := by
  have call : ∀ (fn : Nat) (g : Func), Tryd.prog.funcs[fn]? = some g → (g.name == "runtime.NumGoroutine") = false → g.body.isNone = false → ∀ ww args, (callFunc fn args).run Tryd.prog ww = .ok (.enter fn args) ww := by
    intro fn g h1 h2 h3 ww args
    have e2 : ¬ g.name = "runtime.NumGoroutine" := fun e => by rw [e] at h2; simp at h2
    have e3 : ¬ g.body = none := fun e => by rw [e] at h3; cases h3
    simp [callFunc, h1, e2, e3]
  unfold kr
  split
  · exact call _ _ Tryd.func90 (by kernel_rfl) (by kernel_rfl) _ _
  · split
    · exact call _ _ Tryd.func91 (by kernel_rfl) (by kernel_rfl) _ _
    · split
      · exact call _ _ Tryd.func92 (by kernel_rfl) (by kernel_rfl) _ _
      · split
        · exact call _ _ Tryd.func93 (by kernel_rfl) (by kernel_rfl) _ _
        · exact call _ _ Tryd.func94 (by kernel_rfl) (by kernel_rfl) _ _

/-- How many bytes a reader still has. -/
def restN (w : World) (rB : Nat) : Nat := match w.cell? ⟨rB, 0, none⟩ with
  | some (.slice _ n _) => n
  | _ => 0

def RK.up (k : RK) (K : Nat) : RK := { k with Kl := K }
theorem RK.up_ok {k : RK} (hk : k.Ok) {K : Nat} (h : k.Kl ≤ K) : (k.up K).Ok := by
  have h1 := hk.rl
  have h2 := hk.gl
  exact ⟨hk.br, hk.vr, hk.vg, hk.ne, by show k.rB < K; omega, by show k.g < K; omega, hk.lim⟩
/-- With an empty list, what is new may be kept apart. -/
theorem RSt.rise {k : RK} (hk : k.Ok) {s : P.St} {l : List Nat} {w w1 : World} (h : RSt k s l w) (hA : s.A = []) (hK : k.Kl = w.heap.size) (hb : Below w.heap.size w w1) : RSt (k.up w1.heap.size) s l w1 := by
  have hk1 := hk.vr
  have hk2 := hk.rl
  obtain ⟨a, n, c, lv, h1, h2, h3, h4, h5, h6, h7, h8, h9⟩ := h
  refine ⟨a, n, c, lv, h1.below hb, h2.below hb, h3, ?_, h5.below hb, h6.below hb (by omega), h7, h8, Nat.le_refl _⟩
  rcases h4.cases with ⟨rfl, _⟩ | ⟨g, cp, _, _, hg1, hg2, _⟩
  · rw [hA]; exact QOwn.nil _ _
  · omega

/-- What readBlock hands back, or the fault. -/
def BlkPost (k : RK) (r : Except Nat P.St) (w : World) (e : Ending) (w' : World) : Prop :=
  OnlyT w.heap.size k.rB k.g w w' ∧ match r with
  | .error i => e = Pan k.E i
  | .ok s' => e = .returned (.tuple #[]) ∧ ∃ K, w.heap.size ≤ K ∧ RSt (k.up K) s' [] w'

theorem OnlyT.mono {B B' g h : Nat} {a b : World} (x : OnlyT B g h a b) (hB : B' ≤ B) : OnlyT B' g h a b := ⟨x.os, x.tape, x.output, x.size, fun i hi h1 h2 => x.block i (by omega) h1 h2⟩

set_option maxRecDepth 100000 in
set_option maxHeartbeats 2000000 in
theorem readBlock_any (k : RK) (hk : k.Ok) (s : P.St) (l : List Nat) (w : World) (hS : RSt k s l w) (hA : s.A = []) (hK : k.Kl = w.heap.size) :
    Calls Tryd.prog 59 #[.pointer (some ⟨k.rB, 0, none⟩)] w (BlkPost k (P.blk k.lim l.length s l) w) := by
  have HS0 := Lib.hid hS
  have hkr := hk.rl
  have hkg := hk.gl
  clear hS
  go_enter Tryd.func59, Tryd.ntmps59
  go_wp2_with fail
  refine (kinds_any w).mono ?_
  rintro e w1 ⟨rfl, hk1, hb1, hz1⟩
  have hk' := RK.up_ok hk (K := w1.heap.size) (by omega)
  have HS1 := Lib.hid (HS0.out.rise hk hA hK hb1)
  have HK1 := Lib.hid hk1
  have HB1 : Hid (OnlyT w.heap.size k.rB k.g w w1) := OnlyT.of_below hb1
  have HStep := Lib.hid (fun s l w hS hl => step_any (k.up w1.heap.size) hk' s l w hS hl)
  have Hk' := Lib.hid hk'
  have hr1 : k.rB < w1.heap.size := by omega
  have hr2 : w.heap.size ≠ k.rB := by omega
  have hr3 : w.heap.size ≠ k.g := by omega
  have hr4 : w.heap.size < w1.heap.size := by omega
  clear hb1 hk1 HS0 hk' hz1
  go_wp2
  go_loopw [] (fun wr => ∃ (s' : P.St) (l' : List Nat), Hid (RSt (k.up w1.heap.size) s' l' wr) ∧ Hid (OnlyT w1.heap.size k.rB k.g w1 wr) ∧ Hid (P.blk k.lim l'.length s' l' = P.blk k.lim l.length s l) ∧ w1.heap.size ≤ wr.heap.size) (fun wr => restN wr k.rB)
  case atStart => exact ⟨s, l, HS1, OnlyT.of_below (Below.refl _ _), rfl, Nat.le_refl _⟩
  case round =>
    obtain ⟨s', l', HS, HO, HB, hz⟩ := hrel
    have HKr : Hid (KBlk wr w.heap.size) := (HO.out.block _ hr4 hr2 hr3).trans HK1.out
    obtain ⟨a, n, c, c0', hlen, hrd⟩ : ∃ a n c, wr.cell? ⟨k.rB, 0, none⟩ = some (.slice a n c) ∧ l'.length = n ∧ Rd k.Kb wr a l' := by
      obtain ⟨a, n, c, lv, q1, q2, _⟩ := HS.out
      exact ⟨a, n, c, q1.c0.1, q2.len, q2.rd⟩
    have hrest : restN wr k.rB = n := by unfold restN; rw [c0']
    cases l' with
    | nil =>
      obtain rfl : n = 0 := hlen.symm
      have HBn : Hid (P.blk k.lim l.length s l = .ok s') := by show _ = _; rw [← HB.out, P.blk_nil]
      clear hrest hrd HStep
      go_wp2
      go_end0
      refine ⟨HB1.out.trans (HO.out.mono (by omega)), ?_⟩
      rw [HBn.out]
      exact ⟨rfl, _, Nat.le_of_lt hr4, HS.out⟩
    | cons x r =>
      obtain ⟨bb, o, rfl, _, hcell⟩ := hrd.2 0 (by simp)
      have hx := hrd.1 x (by simp)
      have hn0 : 0 < n := by rw [← hlen]; simp
      have q1 : (0 : Int) < (n : Int) := by omega
      have HBs := Lib.hid (P.blk_step (lim := k.lim) (s := s') (l := x :: r) (by simp))
      rw [HB.out] at HBs
      have HC : Hid (∀ ww, RSt (k.up w1.heap.size) s' (x :: r) ww → Calls Tryd.prog (kr x) #[.pointer (some ⟨k.rB, 0, none⟩)] ww (StepPost (k.up w1.heap.size) (P.step k.lim s' (x :: r)) ww)) := fun ww h => HStep.out s' (x :: r) ww h hrd.1
      have HR := Lib.hid hrest
      have Hlen := Lib.hid hlen
      have hcell' : wr.cell? ⟨bb, o, none⟩ = some (.int .u8 (x : Nat)) := hcell
      clear hcell hrd hrest HStep HB hlen
      have hfd : ∀ (n : Nat) (f : Nat) (w : World), (Instr.field 136 (.agg #[.int .u8 (n : Nat), .func (.func f) #[] #[]]) 1).run Tryd.prog w = .ok (.func (.func f) #[] #[]) w := fun _ _ _ => by kernel_rfl
      go_wp2_with fail
      refine (kindOf_any w.heap.size x wr HKr.out).mono ?_
      rintro e w2 ⟨rfl, hb2⟩
      have HS2 := Lib.hid (HS.out.below Hk'.out hb2)
      have HO2 := Lib.hid (HO.out.trans (OnlyT.of_below (hb2.mono hz)))
      have hz2 := hb2.size
      clear hb2 c0' hcell' HS HO
      generalize hq : kr x = fx at *
      have hcl : ∀ ww args, (callFunc fx args).run Tryd.prog ww = .ok (.enter fx args) ww := fun ww args => by rw [← hq]; exact kr_call x ww args
      clear hq
      go_wp2_with fail
      refine (HC.out w2 HS2.out).mono ?_
      rintro e w3 ⟨ho3, hp3⟩
      have HO3 : Hid (OnlyT w1.heap.size k.rB k.g w1 w3) := HO2.out.trans ho3
      have hz3 := HO3.out.size
      clear ho3 HC
      cases hst : P.step k.lim s' (x :: r) with
      | error i =>
        rw [hst] at hp3 HBs
        simp only at hp3 HBs
        have hp3' : e = Pan k.E i := hp3
        subst hp3'
        unfold Pan
        go_wp2
        refine ⟨rfl, HB1.out.trans (HO3.out.mono (by omega)), ?_⟩
        rw [HBs.out]
        rfl
      | ok p =>
        obtain ⟨s2, l2⟩ := p
        rw [hst] at hp3 HBs
        simp only at hp3 HBs
        obtain ⟨rfl, hs2⟩ := hp3
        obtain ⟨_, _, hl2⟩ := P.step_drop hst
        have hrest3 : restN w3 k.rB = l2.length := by
          obtain ⟨a, n, c, lv, q1, q2, _⟩ := hs2
          unfold restN
          rw [show w3.cell? ⟨k.rB, 0, none⟩ = some (.slice a n c) from q1.c0.1]
          exact q2.len.symm
        have HS3 := Lib.hid hs2
        have HBs' : Hid (P.blk k.lim l2.length s2 l2 = P.blk k.lim l.length s l) := HBs.out.symm
        have HR3 := Lib.hid hrest3
        have Hl2 : Hid (l2.length < n) := by rw [← Hlen.out]; exact hl2
        clear hs2 HBs hrest3 hl2
        go_wp2
        go_roundw
        case rel => exact ⟨s2, l2, HS3, HO3, HBs', hz3⟩
        case measure => rw [HR.out, HR3.out]; exact Hl2.out
end Go.Proofs.YtcbljbdcnahfhaaDoor
/- Kdec -/
namespace Go.Proofs.YtcbljbdcnahfhaaDoor
open Go.RowKit

/-- The closure where the frame panics: the error is laid as the result, and the decoder loses its table. -/
theorem caught (E : Nat → Addr) (i eC dC dB : Nat) (g : Option Addr) (w : World) (he : w.cell? ⟨eC, 0, none⟩ = some .nilIface) (hef : w.frozen? ⟨eC, 0, none⟩ = false) (hd : w.cell? ⟨dC, 0, none⟩ = some (.pointer (some ⟨dB, 0, none⟩))) (h0 : w.cell? ⟨dB, 0, none⟩ = some (.pointer g)) (h0f : w.frozen? ⟨dB, 0, none⟩ = false) (h1 : eC ≠ dC) (h2 : eC ≠ dB) :
    CallsD Tryd.prog 58 #[.pointer (some ⟨eC, 0, none⟩), .pointer (some ⟨dC, 0, none⟩)] (.panicking [{ v := .iface 102 (.agg #[eV E (eg i)]), recovered := false }]) w fun e u' w' =>
      e = .returned (.tuple #[]) ∧ u' = .panicking [{ v := .iface 102 (.agg #[eV E (eg i)]), recovered := true }] ∧ w' = (w.setCell ⟨eC, 0, none⟩ (eV E (eg i))).setCell ⟨dB, 0, none⟩ (.pointer none) := by
  have hta : ∀ (x : Value) (w : World), (Instr.typeAssert (.iface 102 x) 20 102 false).run Tryd.prog w = .ok x w := fun _ _ => by kernel_rfl
  have hfd : ∀ (x : Value) (w : World), (Instr.field 102 (.agg #[x]) 0).run Tryd.prog w = .ok x w := fun _ _ => by kernel_rfl
  unfold eV
  generalize E (eg i) = p0
  refine callsD_of_wpS Tryd.func58 rfl fun c₀ cs hu => ?_
  apply wpS_seq
  apply wpS_region
  simp [wpOpsS, go_sem, recoverD, hu, Tryd.ntmps58, Exit.thenS]
  refine wpS_of_wp ?_
  show Code.wp _ _ _ { tmps := #[.pointer (some ⟨eC, 0, none⟩), .pointer (some ⟨dC, 0, none⟩), .iface 102 (.agg #[.iface 166 (.pointer (some p0))]), .iface 102 (.agg #[.iface 166 (.pointer (some p0))]), undef, undef, undef, undef, undef, undef, undef, undef], defers := [] } w
  go_wp2
  simp [bodyPostS, results, Tryd.results58]
/-- The closure where the frame returns: nothing. -/
theorem idle (p q : Value) (w : World) :
    CallsD Tryd.prog 58 #[p, q] .returning w fun e u' w' => e = .returned (.tuple #[]) ∧ u' = .returning ∧ w' = w := by
  refine callsD_of_wpS Tryd.func58 rfl fun c₀ cs hu => ?_
  apply wpS_seq
  apply wpS_region
  simp [wpOpsS, go_sem, recoverD, hu, Tryd.ntmps58, Exit.thenS]
  refine wpS_of_wp ?_
  show Code.wp _ _ _ { tmps := #[p, q, .nilIface, .nilIface, undef, undef, undef, undef, undef, undef, undef, undef], defers := [] } w
  go_wp2
  cases c₀
  simp_all [bodyPostS, results, Tryd.results58]

/-- A decoder's cells; its table's block, or none. -/
structure DecC (w : World) (dB : Nat) (g : Option Addr) (lim held : Nat) : Prop where
  c0 : w.cell? ⟨dB, 0, none⟩ = some (.pointer g) ∧ w.frozen? ⟨dB, 0, none⟩ = false
  c1 : w.cell? ⟨dB, 1, none⟩ = some (.int .i64 (lim : Nat))
  c2 : w.cell? ⟨dB, 2, none⟩ = some (.int .i64 (held : Nat)) ∧ w.frozen? ⟨dB, 2, none⟩ = false
theorem DecC.block {w w' : World} {dB : Nat} {g : Option Addr} {lim held : Nat} (h : DecC w dB g lim held) (hb : w'.heap[dB]? = w.heap[dB]?) : DecC w' dB g lim held :=
  ⟨⟨(World.cell?_of_block (a := ⟨dB, 0, none⟩) hb).trans h.c0.1, (World.frozen?_of_block (a := ⟨dB, 0, none⟩) hb).trans h.c0.2⟩, (World.cell?_of_block (a := ⟨dB, 1, none⟩) hb).trans h.c1, ⟨(World.cell?_of_block (a := ⟨dB, 2, none⟩) hb).trans h.c2.1, (World.frozen?_of_block (a := ⟨dB, 2, none⟩) hb).trans h.c2.2⟩⟩
theorem DecC.lt {w : World} {dB : Nat} {g : Option Addr} {lim held : Nat} (h : DecC w dB g lim held) : dB < w.heap.size := World.block_lt_of_cell? _ _ h.c1
theorem DecC.below {w w' : World} {dB : Nat} {g : Option Addr} {lim held : Nat} (h : DecC w dB g lim held) (hb : Below w.heap.size w w') : DecC w' dB g lim held := h.block (hb.block dB h.lt)
theorem DecC.held {w : World} {dB : Nat} {g : Option Addr} {lim held : Nat} (h : DecC w dB g lim held) (held' : Nat) : DecC (w.setCell ⟨dB, 2, none⟩ (.int .i64 (held' : Nat))) dB g lim held' :=
  ⟨cell_sib (by omega) h.c0, (World.cell?_setCell_other _ _ _ _ (addr_ne (by omega))).trans h.c1, cell_own h.c2⟩
theorem DecC.gone {w : World} {dB : Nat} {g : Option Addr} {lim held : Nat} (h : DecC w dB g lim held) : DecC (w.setCell ⟨dB, 0, none⟩ (.pointer none)) dB none lim held :=
  ⟨cell_own h.c0, (World.cell?_setCell_other _ _ _ _ (addr_ne (by omega))).trans h.c1, cell_sib (by omega) h.c2⟩

/-- NewDecoder, of a limit that may be. -/
theorem NewDecoder_yes (m : Nat) (w : World) (hm : m ≤ 4096) : Calls Tryd.prog 33 #[.int .i64 (m : Nat)] w fun e w' =>
    ∃ dB, e = .returned (.tuple #[.pointer (some ⟨dB, 0, none⟩), .nilIface]) ∧ w.heap.size < dB ∧ DecC w' dB (some ⟨w.heap.size, 0, none⟩) m 0 ∧ Tab w' w.heap.size [] m ∧ Below w.heap.size w w' := by
  have HN := Lib.hid (new_yes m w hm)
  go_enter Tryd.func33, Tryd.ntmps33
  go_wp2_with fail
  refine HN.out.mono ?_
  rintro e w1 ⟨rfl, hT, hb⟩
  have HT := Lib.hid hT
  have HB := Lib.hid hb
  have hz := hT.lt
  clear hT hb
  go_wp2
  go_ret2
  have hba : Below w1.heap.size w1 (w1.alloc (.cells #[.pointer (some ⟨w.heap.size, 0, none⟩), .int .i64 (m : Nat), .int .i64 0] 100)) := (Below.refl _ _).alloc (Nat.le_refl _) _
  exact ⟨w1.heap.size, rfl, hz, ⟨⟨by simp, by simp⟩, by simp, ⟨by simp, by simp⟩⟩, HT.out.below hba, HB.out.trans (hba.mono HB.out.size)⟩
theorem NewDecoder_no (m : Int) (e0 : Addr) (w : World) (hm : ¬ (0 ≤ m ∧ m ≤ 4096)) (hE : TE w e0) : Calls Tryd.prog 33 #[.int .i64 m] w fun e w' =>
    e = .returned (.tuple #[.pointer none, .iface 166 (.pointer (some e0))]) ∧ Below w.heap.size w w' := by
  have HN := Lib.hid (new_no m e0 w hm hE)
  clear hE
  go_enter Tryd.func33, Tryd.ntmps33
  go_wp2_with fail
  refine HN.out.mono ?_
  rintro e w1 ⟨rfl, hb⟩
  go_wp2
  go_ret2
  exact ⟨rfl, hb⟩
theorem declen_any (dB held : Nat) (w : World) (h : w.cell? ⟨dB, 2, none⟩ = some (.int .i64 (held : Nat))) : Calls Tryd.prog 36 #[.pointer (some ⟨dB, 0, none⟩)] w fun e w' => e = .returned (.int .i64 (held : Nat)) ∧ w = w' := by
  go_enter Tryd.func36, Tryd.ntmps36
  go_wp2
  go_ret
  exact ⟨rfl, rfl⟩
end Go.Proofs.YtcbljbdcnahfhaaDoor
/- Ksame -/
namespace Go.Proofs.YtcbljbdcnahfhaaDoor
open Go.RowKit

theorem sameHeader_eq2 (n v : ByteArray) (b : Bool) (w : World) :
    Calls Tryd.prog 55 #[.agg #[.string n, .string v, .bool b], .agg #[.string n, .string v, .bool b]] w fun e w' => e = .returned (.bool true) ∧ Below w.heap.size w w' := by
  have HB : Hid (Below w.heap.size w ((w.alloc (.cells #[.string n, .string v, .bool b] 66)).alloc (.cells #[.string n, .string v, .bool b] 66))) := ((Below.refl _ _).alloc (Nat.le_refl _) _).alloc (by simp) _
  go_enter Tryd.func55, Tryd.ntmps55
  go_wp2
  go_ret
  exact ⟨by simp, HB.out⟩
theorem cell_belowB {B b o : Nat} {w w' : World} {v : Value} (h : Below B w w') (hb : b < B) (hc : w.cell? ⟨b, o, none⟩ = some v) : w'.cell? ⟨b, o, none⟩ = some v :=
  (World.cell?_of_block (a := ⟨b, o, none⟩) (h.block b hb)).trans hc

/-- A list's cells, in a block below B. -/
def QRdB (K : Nat) (w : World) (a : Option Addr) (l : List (B.HD × Bool)) : Prop := ∀ j x, l[j]? = some x → ∃ b o, a = some ⟨b, o, none⟩ ∧ b < K ∧ w.cell? ⟨b, o + j * 3, none⟩ = some (.string x.1.1) ∧ w.cell? ⟨b, o + j * 3 + 1, none⟩ = some (.string x.1.2) ∧ w.cell? ⟨b, o + j * 3 + 2, none⟩ = some (.bool x.2)

set_option maxRecDepth 100000 in
set_option maxHeartbeats 1000000 in
theorem sameHeaders_eq (a a2 : Option Addr) (n c c2 : Nat) (l : List (B.HD × Bool)) (w : World) (hl : l.length = n) (hn : n ≤ 1000000) (hr : QRdB w.heap.size w a l) (hr2 : QRdB w.heap.size w a2 l) :
    Calls Tryd.prog 30 #[.slice a n c, .slice a2 n c2] w (TruePost w) := by
  have HL := Lib.hid hl
  have HR := Lib.hid hr
  have HR2 := Lib.hid hr2
  clear hl hr hr2
  go_enter Tryd.func30, Tryd.ntmps30
  go_wp2
  go_loopw [5] (fun i wr => ∃ k : Nat, k ≤ n ∧ i = .int .i64 (k : Nat) ∧ Hid (Below w.heap.size w wr)) (fun i _ => n - (intOf i).toNat)
  case atStart => exact ⟨0, Nat.zero_le _, rfl, Below.refl _ _⟩
  case round =>
    obtain ⟨k, hk, rfl, HB⟩ := hrel
    by_cases hlt : k < n
    · obtain ⟨x, hx⟩ : ∃ x, l[k]? = some x := ⟨_, List.getElem?_eq_getElem (by rw [HL.out]; exact hlt)⟩
      obtain ⟨b, o, rfl, hb, d0, d1, d2⟩ := HR.out k x hx
      obtain ⟨b2, o2, rfl, hb2, e0, e1, e2⟩ := HR2.out k x hx
      obtain ⟨⟨xn, xv⟩, xb⟩ := x
      simp only at d0 d1 d2 e0 e1 e2
      replace d0 := cell_belowB HB.out hb d0
      replace d1 := cell_belowB HB.out hb d1
      replace d2 := cell_belowB HB.out hb d2
      replace e0 := cell_belowB HB.out hb2 e0
      replace e1 := cell_belowB HB.out hb2 e1
      replace e2 := cell_belowB HB.out hb2 e2
      have q1 : (k : Int) < (n : Int) := by omega
      have q0 : (0 : Int) ≤ (k : Int) := by omega
      have hz := HB.out.size
      clear hx
      have HS : Hid (∀ ww, Calls Tryd.prog 55 #[.agg #[.string xn, .string xv, .bool xb], .agg #[.string xn, .string xv, .bool xb]] ww fun e w' => e = .returned (.bool true) ∧ Below ww.heap.size ww w') := fun ww => sameHeader_eq2 xn xv xb ww
      have hF : Hid (∀ ww, Below wr.heap.size wr ww → ww.cell? ⟨b, o + k * 3, none⟩ = some (.string xn) ∧ ww.cell? ⟨b, o + k * 3 + 1, none⟩ = some (.string xv) ∧ ww.cell? ⟨b, o + k * 3 + 2, none⟩ = some (.bool xb) ∧ ww.cell? ⟨b2, o2 + k * 3, none⟩ = some (.string xn) ∧ ww.cell? ⟨b2, o2 + k * 3 + 1, none⟩ = some (.string xv) ∧ ww.cell? ⟨b2, o2 + k * 3 + 2, none⟩ = some (.bool xb)) := fun ww h =>
        ⟨cell_below h d0, cell_below h d1, cell_below h d2, cell_below h e0, cell_below h e1, cell_below h e2⟩
      have hF0 := Lib.hid (hF.out wr (Below.refl _ _))
      clear d0 d1 d2 e0 e1 e2
      go_upto_region 6 with (fail)
      go_region_held3 (fun ww => ww.cell? ⟨b, o + k * 3, none⟩ = some (.string xn) ∧ ww.cell? ⟨b, o + k * 3 + 1, none⟩ = some (.string xv) ∧ ww.cell? ⟨b, o + k * 3 + 2, none⟩ = some (.bool xb) ∧ ww.cell? ⟨b2, o2 + k * 3, none⟩ = some (.string xn) ∧ ww.cell? ⟨b2, o2 + k * 3 + 1, none⟩ = some (.string xv) ∧ ww.cell? ⟨b2, o2 + k * 3 + 2, none⟩ = some (.bool xb)) (first | exact hF0.out | exact hF1.out) (first | (go_at_call 55; refine (HS.out _).mono ?_; rintro e w2 ⟨rfl, hb2'⟩; have HB2 : Hid (Below wr.heap.size wr w2) := (below_drew' wr).trans hb2'; clear hb2'; have hF1 := Lib.hid (hF.out w2 HB2.out)))
      all_goals
        go_wp2
        go_roundw
        case rel => exact ⟨k + 1, by omega, by rw [Int.natCast_add]; rfl, HB.out.trans (HB2.out.mono hz)⟩
        case measure => simp [intOf]; omega
    · obtain rfl : k = n := by omega
      have q1 : ¬ (k : Int) < (k : Int) := by omega
      go_wp2
      go_ret
      exact ⟨rfl, HB.out⟩
end Go.Proofs.YtcbljbdcnahfhaaDoor
