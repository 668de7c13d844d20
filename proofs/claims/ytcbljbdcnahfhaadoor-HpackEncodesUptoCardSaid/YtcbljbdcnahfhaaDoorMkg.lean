/-
The walk of the reference's PutText; that a text is read back.
-/
import Derived.Test.YtcbljbdcnahfhaaDoorMkf
import Derived.Test.YtcbljbdcnahfhaaDoorMhr
import Derived.Test.YtcbljbdcnahfhaaDoorMka
import Derived.Test.YtcbljbdcnahfhaaDoorMkb
import Derived.Test.YtcbljbdcnahfhaaDoorMkd
import Derived.Test.YtcbljbdcnahfhaaDoorMba
/- Krefs -/
namespace Go.Proofs.YtcbljbdcnahfhaaDoor
open Go.RowKit

theorem P.getT_putT (s r : List Nat) (hs : ∀ x ∈ s, x < 256) (hl : s.length ≤ 16384) : P.getT (P.putT s ++ r) = (s, (P.putT s).length, none) := by
  unfold P.putT
  split
  · rename_i h
    have hg := P.get_put (first := 128) (b := 7) (n := H.sz s) (H.enc s ++ r) (by omega) (by omega) (by omega) (by decide)
    obtain ⟨c, q, e, h1, _⟩ := P.put_head (first := 128) (b := 7) (n := H.sz s)
    unfold P.getT
    rw [List.append_assoc, hg]
    simp only
    have hel : (H.enc s).length = H.sz s := H.enc_len s
    rw [if_neg (by omega), if_neg (by rw [List.length_append, List.length_append, hel]; omega), if_neg (by rw [e, List.cons_append, List.headD_cons]; omega), List.drop_left, ← hel, List.take_left, H.dec_enc s hs]
    simp only [List.length_append]
  · rename_i h
    have hg := P.get_put (first := 0) (b := 7) (n := s.length) (s ++ r) (by omega) (by omega) (by omega) (by decide)
    obtain ⟨c, q, e, _, h2⟩ := P.put_head (first := 0) (b := 7) (n := s.length)
    have hf : P.full 7 = 127 := by decide
    unfold P.getT
    rw [List.append_assoc, hg]
    simp only
    rw [if_neg (by omega), if_neg (by rw [List.length_append, List.length_append]; omega), if_pos (by rw [e, List.cons_append, List.headD_cons]; omega), List.drop_left, List.take_left]
    simp only [List.length_append]
theorem putT_lt (s : List Nat) (hs : ∀ x ∈ s, x < 256) (hl : s.length ≤ 100000000) : ∀ x ∈ P.putT s, x < 256 := by
  intro x hx
  have he := (H.eb_bounds s).2
  have h4 : H.sz s ≤ 4 * s.length := by unfold H.sz; omega
  unfold P.putT at hx
  split at hx
  · rcases List.mem_append.1 hx with h | h
    · exact P.put_lt (by decide) (by omega) x h
    · exact H.enc_lt s x h
  · rcases List.mem_append.1 hx with h | h
    · exact P.put_lt (by decide) (by omega) x h
    · exact hs x h
theorem P.putI_put (f b n : Nat) (h1 : 1 ≤ b) (h2 : b ≤ 8) (hn : n ≤ 2147483647) (hf : f ≤ 255) (hm : ((f : Nat) : Int) % 2 ^ (b : Int).toNat = 0) : P.putI f b n = P.put f b n := by
  unfold P.putI
  rw [if_pos ⟨by omega, by omega, by omega, by omega, by omega, by omega, hm⟩]
  simp only [Int.toNat_natCast]
theorem NewPost.cons {l : List Nat} {w : World} {e : Ending} {w' : World} (h : NewPost l w e w') (hl : l ≠ []) : ∃ g cp, e = .returned (.slice (some ⟨g, 0, none⟩) l.length cp) ∧ OwnN w.heap.size w' (.slice (some ⟨g, 0, none⟩) l.length cp) l ∧ g < w'.heap.size ∧ Below w.heap.size w w' := by
  obtain ⟨v, rfl, hv, hb⟩ := h
  rcases hv.2 with ⟨_, e2⟩ | ⟨g, cp, cur, e1, h1, h2, _⟩
  · exact absurd (List.length_eq_zero_iff.1 e2) hl
  · subst e1
    exact ⟨g, cp, rfl, hv, (Array.getElem?_eq_some_iff.1 h2).1, hb⟩
theorem P.put_ne (f b n : Nat) : P.put f b n ≠ [] := by
  intro e
  have := (P.put_len f b n).1
  rw [e] at this
  simp at this

set_option maxRecDepth 100000 in
set_option maxHeartbeats 1000000 in
theorem refPutT_any (s : ByteArray) (w : World) (hs : s.size ≤ 100000000) : Calls Tryd.prog 19 #[.string s] w (NewPost (P.putT (by_ s)) w) := by
  obtain ⟨i0, hi, hz0, hz1, hz2⟩ := info_parts info5
  have Hz2 := Lib.hid hz2
  clear hz2
  have hszb := (H.eb_bounds (by_ s)).2
  rw [by_len] at hszb
  have hszd : H.sz (by_ s) ≤ 4 * s.size := by unfold H.sz; omega
  have hel : (H.enc (by_ s)).length = H.sz (by_ s) := H.enc_len _
  have HLt := Lib.hid (H.enc_lt (by_ s))
  clear hszb
  have HS : Hid (∀ w, Calls Tryd.prog 44 #[.string s] w fun e w' => e = .returned (.int .i64 (H.sz (by_ s))) ∧ w = w') := fun w => rSize_any s w (by omega)
  have HE : Hid (∀ w, Calls Tryd.prog 45 #[.string s] w (ReadPost (H.enc (by_ s)) w)) := fun w => rEncode_any s w (by omega)
  have HPT : Hid (P.putT (by_ s) = if H.sz (by_ s) < s.size then P.put 128 7 (H.sz (by_ s)) ++ H.enc (by_ s) else P.put 0 7 s.size ++ by_ s) := by
    show _ = _
    unfold P.putT
    rw [by_len]
  have HA1 : Hid (∀ w, Calls Tryd.prog 14 #[.int .i64 128, .int .i64 7, .int .i64 (H.sz (by_ s))] w (NewPost (P.put 128 7 (H.sz (by_ s))) w)) := fun w => by
    rw [← P.putI_put 128 7 (H.sz (by_ s)) (by omega) (by omega) (by omega) (by omega) (by decide)]
    exact refPut_any 128 7 _ w
  have HA2 : Hid (∀ w, Calls Tryd.prog 14 #[.int .i64 0, .int .i64 7, .int .i64 s.size] w (NewPost (P.put 0 7 s.size) w)) := fun w => by
    rw [← P.putI_put 0 7 s.size (by omega) (by omega) (by omega) (by omega) (by decide)]
    exact refPut_any 0 7 _ w
  have hp1 := (P.put_len 128 7 (H.sz (by_ s))).2
  have hp2 := (P.put_len 0 7 s.size).2
  have HN1 := Lib.hid (P.put_ne 128 7 (H.sz (by_ s)))
  have HN2 := Lib.hid (P.put_ne 0 7 s.size)
  rw [← hel] at HS HPT HA1 hp1 hszd HN1
  generalize H.enc (by_ s) = c at *
  generalize hq1 : P.put 128 7 c.length = q1 at *
  generalize hq2 : P.put 0 7 s.size = q2 at *
  clear hel hq1 hq2
  by_cases h : c.length < s.size
  · rw [if_pos h] at HPT
    go_enter Tryd.func19, Tryd.ntmps19
    go_wp2_with (go_at_call 44; refine (HS.out _).mono ?_; rintro e w1 ⟨rfl, rfl⟩)
    refine (HA1.out _).mono ?_
    intro e w2 h2
    obtain ⟨g2, cp2, rfl, hv2, hg2, hb2⟩ := h2.cons HN1.out
    have HV2 := Lib.hid hv2
    have HB2 := Lib.hid hb2
    have hs2 := hb2.size
    clear h2 hv2 hb2
    go_wp2_with fail
    refine (HE.out _).mono ?_
    rintro e w3 ⟨a3, cp3, rfl, hr3, hle3, hb3⟩
    have HR3 := Lib.hid hr3
    have HB3 := Lib.hid hb3
    have hs3 := hb3.size
    have HV3 : Hid (w3.ownsRow w.heap.size 5 1 (.slice (some ⟨g2, 0, none⟩) q1.length cp2) q1.length (vals q1)) := OwnN.below HV2.out hb3
    clear hb3 hr3
    go_wp2_with (at_builtin; refine wpList_app _ rfl _ _ 22 rfl w.heap.size _ 5 i0 (.int .u8 0) Tryd.underlying22 hi hz0 hz1 Hz2.out rfl _ q1.length (vals q1) rfl HV3.out (by intro e; cases e) _ c.length cp3 c rfl rfl HR3.out ?_ ?_ ?_; omega; omega; intro g4 cp4 w4 hown4 hgrow4)
    go_ret
    refine ⟨_, rfl, ?_, (HB2.out.trans (HB3.out.mono (by omega))).grown hgrow4 (by omega) (fun k e => by cases e; exact (HV3.out.lt g2 rfl).1)⟩
    rw [HPT.out]
    show World.ownsRow _ _ _ _ _ _ _
    rw [vals_append, List.length_append]
    exact hown4
  · rw [if_neg h] at HPT
    have hus : Tryd.prog.underlying 9 = some .string := Tryd.underlying9
    go_enter Tryd.func19, Tryd.ntmps19
    go_wp2_with (go_at_call 44; refine (HS.out _).mono ?_; rintro e w1 ⟨rfl, rfl⟩)
    refine (HA2.out _).mono ?_
    intro e w2 h2
    obtain ⟨g2, cp2, rfl, hv2, hg2, hb2⟩ := h2.cons HN2.out
    have HV2 : Hid (w2.ownsRow w.heap.size 5 1 (.slice (some ⟨g2, 0, none⟩) q2.length cp2) q2.length (vals q2)) := hv2
    have HB2 := Lib.hid hb2
    have hs2 := hb2.size
    clear h2 hv2 hb2
    go_wp2_with (at_builtin; refine Go.Lib.wpList_append_own_string _ rfl _ _ 22 9 rfl w.heap.size 5 i0 Tryd.underlying22 hus hi hz0 hz1 Hz2.out _ q2.length (vals q2) rfl HV2.out s rfl ?_ ?_ ?_ ?_; (unfold maxLen; omega); omega; omega; intro v4 w4 hown4 hgrow4 hnn4)
    go_ret
    refine ⟨_, rfl, ?_, HB2.out.grown hgrow4 (by omega) (fun k e => by cases e; exact (HV2.out.lt g2 rfl).1)⟩
    rw [HPT.out]
    rw [strCells_by] at hown4
    show World.ownsRow _ _ _ _ _ _ _
    rw [vals_append, List.length_append, by_len]
    exact hown4
end Go.Proofs.YtcbljbdcnahfhaaDoor
/- Kmathg -/
namespace Go.Proofs.YtcbljbdcnahfhaaDoor

theorem ba_loop (a : ByteArray) : ∀ (n i : Nat) (r : List UInt8), a.size - i = n → ByteArray.toList.loop a i r = r.reverse ++ a.data.toList.drop i := by
  intro n
  induction n with
  | zero =>
    intro i r h
    unfold ByteArray.toList.loop
    rw [if_neg (by omega), List.drop_of_length_le (by show a.data.toList.length ≤ i; rw [Array.length_toList]; show a.size ≤ i; omega), List.append_nil]
  | succ n ih =>
    intro i r h
    unfold ByteArray.toList.loop
    have hi : i < a.size := by omega
    rw [if_pos hi, ih (i + 1) _ (by omega), List.reverse_cons, List.append_assoc]
    congr 1
    have hl : i < a.data.toList.length := by rw [Array.length_toList]; exact hi
    rw [List.drop_eq_getElem_cons hl]
    simp only [List.singleton_append, Array.getElem_toList]
    congr 1
    unfold ByteArray.get!
    have : i < a.data.size := hi
    exact getElem!_pos a.data i this
theorem ba_toList (a : ByteArray) : a.toList = a.data.toList := by
  have := ba_loop a a.size 0 [] (by omega)
  simpa [ByteArray.toList] using this
theorem ba_inj {a b : ByteArray} (h : a.toList = b.toList) : a = b := by
  rw [ba_toList, ba_toList] at h
  have := Array.toList_inj.1 h
  cases a; cases b; simp_all

namespace P
open B (HD)
/-- The bytes of a list. -/
def totA (A : List (HD × Bool)) : Nat := B.tot (A.map Prod.fst)
theorem totA_app (A C : List (HD × Bool)) : totA (A ++ C) = totA A + totA C := by
  unfold totA
  rw [List.map_append, B.tot_app]
/-- What a reader keeps. -/
def Inv (lim : Nat) (s : St) : Prop := s.z = totA s.A ∧ s.z ≤ 16384 ∧ B.tot s.L ≤ s.m ∧ s.m ≤ lim
theorem tell_inv {lim : Nat} {s s1 : St} {h : HD × Bool} (x : tell s h = .ok s1) (i : Inv lim s) : Inv lim s1 := by
  obtain ⟨h1, rfl⟩ := tell_ok x
  obtain ⟨i1, i2, i3, i4⟩ := i
  refine ⟨?_, h1, i3, i4⟩
  show s.z + B.sz h.1 = totA (s.A ++ [h])
  rw [totA_app, i1]
  simp [totA, B.tot]
theorem step_inv {lim : Nat} {s s' : St} {l r : List Nat} (h : step lim s l = .ok (s', r)) (i : Inv lim s) : Inv lim s' := by
  unfold step at h
  split at h
  · cases hr : rnum 7 l with
    | error e => rw [hr] at h; simp at h
    | ok p =>
      obtain ⟨k, l1⟩ := p
      rw [hr] at h
      simp only at h
      split at h
      · cases ht : tell s (B.get s.L (k : Int), false) with
        | error e => rw [ht] at h; simp at h
        | ok s1 =>
          rw [ht] at h
          simp only [Except.ok.injEq, Prod.mk.injEq] at h
          rw [← h.1]
          exact tell_inv ht i
      · simp at h
  · split at h
    · cases hr : named s.L 6 l with
      | error e => rw [hr] at h; simp at h
      | ok p =>
        obtain ⟨x, l1⟩ := p
        rw [hr] at h
        simp only at h
        cases ht : tell s (x, false) with
        | error e => rw [ht] at h; simp at h
        | ok s1 =>
          rw [ht] at h
          simp only [Except.ok.injEq, Prod.mk.injEq] at h
          rw [← h.1]
          obtain ⟨i1, i2, i3, i4⟩ := tell_inv ht i
          exact ⟨i1, i2, by have := B.add_tot s.m s.L x; obtain ⟨_, rfl⟩ := tell_ok ht; exact this, i4⟩
    · split at h
      · split at h
        · simp at h
        · cases hr : rnum 5 l with
          | error e => rw [hr] at h; simp at h
          | ok p =>
            obtain ⟨k, l1⟩ := p
            rw [hr] at h
            simp only at h
            split at h
            · simp at h
            · simp only [Except.ok.injEq, Prod.mk.injEq] at h
              rw [← h.1]
              obtain ⟨i1, i2, i3, i4⟩ := i
              exact ⟨i1, i2, B.shr_tot _ _, by show k ≤ lim; omega⟩
      · cases hr : named s.L 4 l with
        | error e => rw [hr] at h; simp at h
        | ok p =>
          obtain ⟨x, l1⟩ := p
          rw [hr] at h
          simp only at h
          cases ht : tell s (x, decide (16 ≤ l.headD 0)) with
          | error e => rw [ht] at h; simp at h
          | ok s1 =>
            rw [ht] at h
            simp only [Except.ok.injEq, Prod.mk.injEq] at h
            rw [← h.1]
            exact tell_inv ht i
theorem blk_inv {lim : Nat} : ∀ (f : Nat) (s : St) (l : List Nat) (s' : St), blk lim f s l = .ok s' → Inv lim s → Inv lim s'
  | _, s, [], s', h, i => by
    simp only [blk, Except.ok.injEq] at h
    rw [← h]
    exact i
  | 0, s, _ :: _, s', h, i => by
    simp only [blk, Except.ok.injEq] at h
    rw [← h]
    exact i
  | f + 1, s, c :: r, s', h, i => by
    simp only [blk] at h
    cases hs : step lim s (c :: r) with
    | error e => rw [hs] at h; simp at h
    | ok p =>
      obtain ⟨s1, l1⟩ := p
      rw [hs] at h
      exact blk_inv f s1 l1 s' h (step_inv hs i)
end P
end Go.Proofs.YtcbljbdcnahfhaaDoor
/- Kmathh -/
namespace Go.Proofs.YtcbljbdcnahfhaaDoor
namespace B
theorem mem_num : ∀ (l : List HD) (i : Nat) (p : Int × HD), p ∈ num i l → ∃ k : Nat, p.1 = ((i + k : Nat) : Int) ∧ l[k]? = some p.2
  | [], _, _, h => by cases h
  | a :: l, i, p, h => by
    simp only [num, List.mem_cons] at h
    rcases h with rfl | h
    · exact ⟨0, rfl, rfl⟩
    · obtain ⟨k, h1, h2⟩ := mem_num l (i + 1) p h
      exact ⟨k + 1, by rw [h1]; congr 1; omega, h2⟩
theorem allL_get {L : List HD} {p : Int × HD} (h : p ∈ allL L) : 1 ≤ p.1 ∧ has L p.1 = true ∧ get L p.1 = p.2 := by
  unfold allL at h
  rcases List.mem_append.1 h with h | h
  · obtain ⟨k, h1, h2⟩ := mem_num _ _ _ h
    have hk := (List.getElem?_eq_some_iff.1 h2).1
    rw [stL_len] at hk
    refine ⟨by omega, decide_eq_true (by omega), ?_⟩
    unfold get
    rw [if_pos (by omega), show p.1.toNat - 1 = k by omega, List.getD_eq_getElem?_getD, h2]
    rfl
  · obtain ⟨k, h1, h2⟩ := mem_num _ _ _ h
    have hk := (List.getElem?_eq_some_iff.1 h2).1
    rw [List.length_reverse] at hk
    refine ⟨by omega, decide_eq_true (by omega), ?_⟩
    unfold get nth
    rw [if_neg (by omega), if_pos (by omega), show p.1.toNat - 62 = k by omega, List.getD_eq_getElem?_getD, h2]
    rfl
theorem fnd_ok (n v : List UInt8) : ∀ (l : List (Int × HD)) (c i : Int) (b : Bool), fnd n v c l = (i, b) →
    (b = true → ∃ p ∈ l, p.1 = i ∧ p.2.1.toList = n ∧ p.2.2.toList = v) ∧ (b = false → i = c ∨ ∃ p ∈ l, p.1 = i ∧ p.2.1.toList = n)
  | [], c, i, b, h => by
    simp only [fnd, Prod.mk.injEq] at h
    obtain ⟨rfl, rfl⟩ := h
    exact ⟨fun h => (by cases h), fun _ => .inl rfl⟩
  | (j, x) :: t, c, i, b, h => by
    have lift : ∀ c', fnd n v c' t = (i, b) → (b = true → ∃ p ∈ (j, x) :: t, p.1 = i ∧ p.2.1.toList = n ∧ p.2.2.toList = v) ∧ (b = false → i = c' ∨ ∃ p ∈ (j, x) :: t, p.1 = i ∧ p.2.1.toList = n) := fun c' h' => by
      obtain ⟨h1, h2⟩ := fnd_ok n v t c' i b h'
      refine ⟨fun hb => ?_, fun hb => ?_⟩
      · obtain ⟨p, hp, hq⟩ := h1 hb
        exact ⟨p, List.mem_cons_of_mem _ hp, hq⟩
      · rcases h2 hb with h3 | ⟨p, hp, hq⟩
        · exact .inl h3
        · exact .inr ⟨p, List.mem_cons_of_mem _ hp, hq⟩
    unfold fnd at h
    split at h
    · exact lift c h
    · rename_i hn
      have hn' : x.1.toList = n := Classical.byContradiction hn
      split at h
      · rename_i hv
        simp only [Prod.mk.injEq] at h
        obtain ⟨rfl, rfl⟩ := h
        exact ⟨fun _ => ⟨_, List.mem_cons_self, rfl, hn', hv⟩, fun hb => by cases hb⟩
      · obtain ⟨h1, h2⟩ := lift _ h
        refine ⟨h1, fun hb => ?_⟩
        rcases h2 hb with h3 | h3
        · by_cases hc : c = 0
          · rw [if_pos hc] at h3
            exact .inr ⟨(j, x), List.mem_cons_self, h3.symm, hn'⟩
          · rw [if_neg hc] at h3
            exact .inl h3
        · exact .inr h3
end B
namespace P
open B (HD)
theorem fd_ok (L : List HD) (h : HD) : ((fd L h).1 ≠ 0 → B.has L ((fd L h).1 : Int) = true ∧ (B.get L ((fd L h).1 : Int)).1 = h.1) ∧ ((fd L h).2 = true → B.has L ((fd L h).1 : Int) = true ∧ B.get L ((fd L h).1 : Int) = h) := by
  obtain ⟨i, b, hf⟩ : ∃ i b, B.fnd h.1.toList h.2.toList 0 (B.allL L) = (i, b) := ⟨_, _, rfl⟩
  obtain ⟨h1, h2⟩ := B.fnd_ok _ _ _ _ _ _ hf
  have e1 : (fd L h).1 = i.toNat := by unfold fd; rw [hf]
  have e2 : (fd L h).2 = b := by unfold fd; rw [hf]
  rw [e1, e2]
  cases b with
  | true =>
    obtain ⟨p, hp, e, hn, hv⟩ := h1 rfl
    obtain ⟨g1, g2, g3⟩ := B.allL_get hp
    subst e
    rw [Int.toNat_of_nonneg (by omega)]
    have hp2 : p.2 = h := by
      obtain ⟨j, a, c⟩ := p
      obtain ⟨hn', hv'⟩ := h
      simp only at hn hv
      rw [ba_inj hn, ba_inj hv]
    exact ⟨fun _ => ⟨g2, by rw [g3, hp2]⟩, fun _ => ⟨g2, by rw [g3, hp2]⟩⟩
  | false =>
    refine ⟨fun h0 => ?_, fun hb => by cases hb⟩
    rcases h2 rfl with rfl | ⟨p, hp, e, hn⟩
    · exact absurd rfl h0
    · obtain ⟨g1, g2, g3⟩ := B.allL_get hp
      subst e
      rw [Int.toNat_of_nonneg (by omega)]
      exact ⟨g2, by rw [g3]; exact ba_inj hn⟩

theorem rnum_put {f b n : Nat} (r : List Nat) (h1 : 1 ≤ b) (hb : b ≤ 8) (hn : n ≤ 2147483647) (hf : f % 2 ^ b = 0) : rnum b (put f b n ++ r) = .ok (n, r) := by
  unfold rnum
  rw [get_put r h1 hb hn hf]
  simp only [List.drop_left]
theorem rtxt_put (s : ByteArray) (r : List Nat) (hs : s.size ≤ 16384) : rtxt (putT (by_ s) ++ r) = .ok (s, r) := by
  unfold rtxt
  rw [getT_putT (by_ s) r (by_lt s) (by rw [by_len]; exact hs)]
  simp only [List.drop_left, strOf_by]
theorem named_nm {L : List HD} {h : HD} {f b : Nat} (r : List Nat) (h1 : 1 ≤ b) (hb : b ≤ 8) (hf : f % 2 ^ b = 0) (hL : L.length ≤ 128) (hs : h.1.size ≤ 16384 ∧ h.2.size ≤ 16384) : named L b (nm f b (fd L h).1 h ++ r) = .ok (h, r) := by
  have hbd := fd_bd L h hL
  have hi : (fd L h).1 ≤ 190 := by unfold fd; simp only; omega
  have hok := (fd_ok L h).1
  generalize (fd L h).1 = i at *
  unfold named nm
  rw [List.append_assoc, List.append_assoc, rnum_put _ h1 hb (by omega) hf]
  simp only
  by_cases h0 : i = 0
  · rw [if_neg (by omega), if_pos h0, rtxt_put _ _ hs.1]
    simp only
    rw [rtxt_put _ _ hs.2]
  · obtain ⟨g1, g2⟩ := hok h0
    rw [if_pos (by omega), if_pos g1, if_neg h0, List.nil_append, rtxt_put _ _ hs.2]
    simp only
    rw [g2]
theorem put_hd (f b n : Nat) (r : List Nat) : f ≤ (put f b n ++ r).headD 0 ∧ (put f b n ++ r).headD 0 ≤ f + full b := by
  obtain ⟨c, q, e, h1, h2⟩ := put_head (first := f) (b := b) (n := n)
  rw [e, List.cons_append, List.headD_cons]
  exact ⟨h1, h2⟩
theorem nm_hd (f b i : Nat) (h : HD) (r : List Nat) : f ≤ (nm f b i h ++ r).headD 0 ∧ (nm f b i h ++ r).headD 0 ≤ f + full b := by
  unfold nm
  rw [List.append_assoc]
  exact put_hd f b i _
theorem tell_yes {s : St} {h : HD × Bool} (hz : s.z + B.sz h.1 ≤ 16384) : tell s h = .ok { s with A := s.A ++ [h], z := s.z + B.sz h.1 } := by
  unfold tell
  rw [if_neg (by omega)]
theorem one_ne (m : Nat) (L : List HD) (x : HD × Bool) : (one m L x).1 ≠ [] := by
  have hp : ∀ f b i (q : List Nat), put f b i ++ q ≠ [] := fun f b i q e => put_ne f b i (List.append_eq_nil_iff.1 e).1
  unfold one
  split
  · exact hp _ _ _ _
  · split
    · exact put_ne _ _ _
    · split
      · exact hp _ _ _ _
      · exact hp _ _ _ _
/-- One header. -/
theorem step_one {lim m z : Nat} {L : List HD} {A : List (HD × Bool)} (x : HD × Bool) (r : List Nat) (hL : L.length ≤ 128) (hz : z + B.sz x.1 ≤ 16384) :
    step lim ⟨L, m, A, z⟩ ((one m L x).1 ++ r) = .ok (⟨(one m L x).2, m, A ++ [x], z + B.sz x.1⟩, r) := by
  obtain ⟨h, b⟩ := x
  have hsz : h.1.size ≤ 16384 ∧ h.2.size ≤ 16384 := by unfold B.sz at hz; simp only at hz; omega
  have f4 : full 4 = 15 := by decide
  have f6 : full 6 = 63 := by decide
  have f7 : full 7 = 127 := by decide
  have hbd := fd_bd L h hL
  have hi : (fd L h).1 ≤ 190 := by unfold fd; simp only; omega
  simp only at hz
  unfold one
  simp only
  by_cases hb : b = true
  · subst hb
    rw [if_pos rfl]
    simp only
    have hh := nm_hd 16 4 (fd L h).1 h r
    have hn := named_nm (f := 16) (b := 4) r (by omega) (by omega) (by decide) hL hsz
    unfold step
    rw [if_neg (by omega), if_neg (by omega), if_neg (by omega), hn]
    simp only
    rw [tell_yes hz, decide_eq_true (by omega)]
  · have hb' : b = false := by simpa using hb
    subst hb'
    rw [if_neg hb]
    by_cases hw : (fd L h).2 = true
    · rw [if_pos hw]
      simp only
      obtain ⟨g1, g2⟩ := (fd_ok L h).2 hw
      have hh := put_hd 128 7 (fd L h).1 r
      unfold step
      rw [if_pos (by omega), rnum_put r (by omega) (by omega) (by omega) (by decide)]
      simp only
      rw [if_pos g1, g2, tell_yes hz]
    · rw [if_neg hw]
      by_cases hm : m < B.sz h
      · rw [if_pos hm]
        simp only
        have hh := nm_hd 0 4 (fd L h).1 h r
        have hn := named_nm (f := 0) (b := 4) r (by omega) (by omega) (by decide) hL hsz
        unfold step
        rw [if_neg (by omega), if_neg (by omega), if_neg (by omega), hn]
        simp only
        rw [tell_yes hz, decide_eq_false (by omega)]
      · rw [if_neg hm]
        simp only
        have hh := nm_hd 64 6 (fd L h).1 h r
        have hn := named_nm (f := 64) (b := 6) r (by omega) (by omega) (by decide) hL hsz
        unfold step
        rw [if_neg (by omega), if_pos (by omega), hn]
        simp only
        rw [tell_yes hz]
theorem one_tot {m : Nat} {L : List HD} (x : HD × Bool) (ht : B.tot L ≤ m) : B.tot (one m L x).2 ≤ m := by
  unfold one
  split
  · exact ht
  · split
    · exact ht
    · split
      · exact ht
      · exact B.add_tot _ _ _
theorem enc_tot {m : Nat} : ∀ (xs : List (HD × Bool)) (L : List HD), B.tot L ≤ m → B.tot (enc m L xs).2 ≤ m
  | [], _, h => h
  | x :: t, _, h => enc_tot t _ (one_tot x h)
/-- A whole list. -/
theorem blk_enc {lim m : Nat} (hm : m ≤ 4096) : ∀ (xs : List (HD × Bool)) (L : List HD) (A : List (HD × Bool)) (z : Nat), B.tot L ≤ m → z + totA xs ≤ 16384 →
    blk lim (enc m L xs).1.length ⟨L, m, A, z⟩ (enc m L xs).1 = .ok ⟨(enc m L xs).2, m, A ++ xs, z + totA xs⟩
  | [], L, A, z, _, _ => by
    simp only [enc, blk_nil, List.append_nil, totA, List.map_nil, B.tot, Nat.add_zero]
  | x :: t, L, A, z, ht, hz => by
    have hl := B.tot_len L
    have e : totA (x :: t) = B.sz x.1 + totA t := by simp only [totA, List.map_cons, B.tot]
    rw [e] at hz
    have hne : (enc m L (x :: t)).1 ≠ [] := fun h => one_ne m L x (List.append_eq_nil_iff.1 h).1
    rw [blk_step hne]
    have hst := step_one (lim := lim) (m := m) (z := z) (L := L) (A := A) x (enc m (one m L x).2 t).1 (by omega) (by omega)
    have e2 : (enc m L (x :: t)).1 = (one m L x).1 ++ (enc m (one m L x).2 t).1 := rfl
    rw [e2, hst]
    simp only
    rw [blk_enc hm t _ _ _ (one_tot x ht) (by omega)]
    rw [List.append_assoc, e, Nat.add_assoc]
    rfl
theorem nm_lt {f b i : Nat} {h : HD} (hf : f + full b < 256) (hi : i ≤ 190) (h1 : h.1.size ≤ 100000000) (h2 : h.2.size ≤ 100000000) : ∀ x ∈ nm f b i h, x < 256 := by
  intro x hx
  unfold nm at hx
  rcases List.mem_append.1 hx with hx | hx
  · exact put_lt hf (by omega) x hx
  · rcases List.mem_append.1 hx with hx | hx
    · split at hx
      · exact putT_lt (by_ h.1) (by_lt h.1) (by rw [by_len]; exact h1) x hx
      · cases hx
    · exact putT_lt (by_ h.2) (by_lt h.2) (by rw [by_len]; exact h2) x hx
theorem one_lt {m : Nat} {L : List HD} {x : HD × Bool} (hL : L.length ≤ 128) (h1 : x.1.1.size ≤ 100000000) (h2 : x.1.2.size ≤ 100000000) : ∀ y ∈ (one m L x).1, y < 256 := by
  have f4 : full 4 = 15 := by decide
  have f6 : full 6 = 63 := by decide
  have f7 : full 7 = 127 := by decide
  have hbd := fd_bd L x.1 hL
  have hi : (fd L x.1).1 ≤ 190 := by unfold fd; simp only; omega
  unfold one
  split
  · exact nm_lt (by omega) hi h1 h2
  · split
    · exact put_lt (by omega) (by omega)
    · split
      · exact nm_lt (by omega) hi h1 h2
      · exact nm_lt (by omega) hi h1 h2
theorem enc_lt {m : Nat} (hm : m ≤ 4096) : ∀ (xs : List (HD × Bool)) (L : List HD), B.tot L ≤ m → (∀ x ∈ xs, x.1.1.size ≤ 100000000 ∧ x.1.2.size ≤ 100000000) → ∀ y ∈ (enc m L xs).1, y < 256
  | [], L, _, _, y, hy => by cases hy
  | x :: t, L, ht, hs, y, hy => by
    have hl := B.tot_len L
    obtain ⟨h1, h2⟩ := hs x List.mem_cons_self
    rcases List.mem_append.1 hy with hy | hy
    · exact one_lt (by omega) h1 h2 y hy
    · exact enc_lt hm t _ (one_tot x ht) (fun z hz => hs z (List.mem_cons_of_mem _ hz)) y hy
/-- Headers that are Never change no table. -/
theorem enc_never {m : Nat} : ∀ (xs : List (HD × Bool)) (L : List HD), (∀ x ∈ xs, x.2 = true) → (enc m L xs).2 = L
  | [], _, _ => rfl
  | x :: t, L, h => by
    have e : (one m L x).2 = L := by unfold one; rw [if_pos (h x List.mem_cons_self)]
    show (enc m (one m L x).2 t).2 = L
    rw [e]
    exact enc_never t L (fun y hy => h y (List.mem_cons_of_mem _ hy))
theorem totA_len (l : List (HD × Bool)) : 32 * l.length ≤ totA l := by
  have := B.tot_len (l.map Prod.fst)
  rw [List.length_map] at this
  exact this
theorem totA_mem {l : List (HD × Bool)} {x : HD × Bool} (hx : x ∈ l) : B.sz x.1 ≤ totA l := mem_tot (List.mem_map_of_mem hx)
/-- .. with the size that was asked for ahead of it. -/
theorem blk_szs {lim m : Nat} (hm : m ≤ 4096) (hlim : m ≤ lim) (m0 : Nat) (xs : List (HD × Bool)) (L : List HD) (hz : totA xs ≤ 16384) :
    blk lim (szs true m m ++ (enc m (B.shr m L) xs).1).length ⟨L, m0, [], 0⟩ (szs true m m ++ (enc m (B.shr m L) xs).1) = .ok ⟨(enc m (B.shr m L) xs).2, m, xs, totA xs⟩ := by
  have f5 : full 5 = 31 := by decide
  have e : szs true m m = put 32 5 m := by
    unfold szs
    rw [if_pos rfl, if_neg (by omega), List.nil_append]
  rw [e]
  have hne : put 32 5 m ++ (enc m (B.shr m L) xs).1 ≠ [] := fun h => put_ne _ _ _ (List.append_eq_nil_iff.1 h).1
  have hh := put_hd 32 5 m (enc m (B.shr m L) xs).1
  rw [blk_step hne]
  have hst : step lim ⟨L, m0, [], 0⟩ (put 32 5 m ++ (enc m (B.shr m L) xs).1) = .ok (⟨B.shr m L, m, [], 0⟩, (enc m (B.shr m L) xs).1) := by
    unfold step
    rw [if_neg (by omega), if_neg (by omega), if_pos (by omega), if_neg (by simp), rnum_put _ (by omega) (by omega) (by omega) (by decide)]
    simp only
    rw [if_neg (by omega)]
  rw [hst]
  simp only
  rw [blk_enc hm xs _ _ _ (B.shr_tot _ _) (by omega)]
  simp only [List.nil_append, Nat.zero_add]
end P
end Go.Proofs.YtcbljbdcnahfhaaDoor
