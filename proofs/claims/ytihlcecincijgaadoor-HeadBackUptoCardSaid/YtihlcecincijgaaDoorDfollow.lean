/-
The walk of head's rules.follow, over any rules.
-/
import Derived.Test.YtihlcecincijgaaDoorDmaps
import Derived.WalkLawsBesides
namespace Go.Proofs.YtihlcecincijgaaDoor
open Go.RowKit

variable {γ : Type}
/-- What a rule's function does, and that what the rules tell stays where it is not told. -/
structure FK.Ok (F : FK γ) (K : Nat) : Prop where
  lowB : K ≤ F.bx
  lowT : K ≤ F.tb
  below : ∀ g w w', F.At g w → Below w.heap.size w w' → F.At g w'
  grown : ∀ g w w' m, m ≠ F.bx → m ≠ F.tb → F.At g w → w.grownBy w' (some m) → F.At g w'
  lt : ∀ g w, F.At g w → F.tb < w.heap.size
  call : ∀ k v g w, v.size ≤ 1048576 → F.At g w → Calls Tryd.prog (F.fn k) #[.string v, .pointer (some ⟨F.bx, 0, none⟩)] w fun e w' => e = .returned (.bool (F.R.tk k v)) ∧ F.At (F.R.upd g k v) w' ∧ w.grownBy w' (some F.tb)
  fnc : ∀ k ww args, (callFunc (F.fn k) args).run Tryd.prog ww = .ok (.enter (F.fn k) args) ww

theorem FK.map.below {F : FK γ} {w w' : World} {m : Nat} {rem : List Nat} (h : F.map w m rem) (hb : Below w.heap.size w w') : F.map w' m rem := by
  obtain ⟨c, h⟩ := h
  exact ⟨c, (hb.block m (Array.getElem?_eq_some_iff.1 h).1).trans h⟩
theorem FK.map.grown {F : FK γ} {w w' : World} {m b : Nat} {rem : List Nat} (h : F.map w m rem) (hb : w.grownBy w' (some b)) (hne : m ≠ b) : F.map w' m rem := by
  obtain ⟨c, h⟩ := h
  exact ⟨c, (hb.block m (Array.getElem?_eq_some_iff.1 h).1 (fun e => hne (Option.some.inj e))).trans h⟩
theorem FK.map.lt {F : FK γ} {w : World} {m : Nat} {rem : List Nat} (h : F.map w m rem) : m < w.heap.size := by
  obtain ⟨c, h⟩ := h
  exact (Array.getElem?_eq_some_iff.1 h).1

def cutQ (a : Option Addr) (cap lo : Nat) : Option Addr := if cap = lo then a else a.map (·.add (lo * 3))
theorem run_fromQ (a : Option Addr) (n cap lo : Nat) (h : lo ≤ n) (w : World) :
    (Instr.slice 22 (.slice a n cap) (some (.int .i64 (lo : Nat))) none none).run Tryd.prog w = .ok (.slice (cutQ a cap lo) (n - lo) (cap - lo)) w := by
  have hs : ∀ w, (sizeOf 54).run Tryd.prog w = .ok 3 w := fun _ => by kernel_rfl
  have := Go.run_slice_l (P := Tryd.prog) (w := w) 22 a n cap (by kernel_rfl) .i64 lo (by omega) (by omega)
  rw [this, show Tryd.prog.elem 22 = 54 by kernel_rfl, hs]
  simp [Result.andThen, sliced, cutQ]
theorem QRdB.cut {K : Nat} {w : World} {a : Option Addr} {l : List (B.HD × Bool)} {cap : Nat} (lo : Nat) (h : QRdB K w a l) (hc : l.length ≤ cap) : QRdB K w (cutQ a cap lo) (l.drop lo) := fun j x hx => by
  rw [List.getElem?_drop] at hx
  have hlt := (List.getElem?_eq_some_iff.1 hx).1
  obtain ⟨b, o, rfl, hb, h1, h2, h3⟩ := h (lo + j) x hx
  refine ⟨b, o + lo * 3, ?_, hb, ?_, ?_, ?_⟩
  · unfold cutQ
    rw [if_neg (by omega)]
    simp [Addr.add]
  · rw [← h1]; congr 2; omega
  · rw [← h2]; congr 2; omega
  · rw [← h3]; congr 2; omega

def sliceLen (v : Value) : Nat := match v with
  | .slice _ n _ => n
  | _ => 0

/-- What follow hands back. -/
def FollowOut (F : FK γ) (K m : Nat) (p : Addr) (res : Option (List Nat × γ × List (B.HD × Bool))) (w : World) (e : Ending) (w' : World) : Prop :=
  ∃ v, e = .returned (.tuple #[v, ehV p res.isSome]) ∧ Below K w w' ∧ (∃ rem, F.map w' m rem) ∧ ∀ r, res = some r → F.map w' m r.1 ∧ F.At r.2.1 w' ∧ QOwn K w' v r.2.2

theorem pre58 (n : ByteArray) : Lib.hasPrefix n.data.toList (⟨#[58]⟩ : ByteArray).data.toList = D.colonN n := by
  unfold D.colonN
  show List.isPrefixOf [58] n.data.toList = _
  cases n.data.toList with
  | nil => rfl
  | cons c t =>
    simp only [List.isPrefixOf, List.head?_cons, Bool.and_true]
    by_cases h : c = 58
    · subst h; rfl
    · have h2 : (58 == c) = false := beq_eq_false_iff_ne.2 (fun e => h e.symm)
      simp [h, h2]

theorem u_rules : Tryd.prog.underlying 69 = some (.map 9 55) := by kernel_rfl
theorem FK.map.look_none {F : FK γ} {w : World} {m : Nat} {rem : List Nat} {n : ByteArray} (h : F.map w m rem) (hf : rem.findIdx? (fun k => decide (F.R.key k = n)) = none) :
    (Instr.lookup 69 (.map (some m)) (.string n) true).run Tryd.prog w = .ok (.tuple #[.nilFunc, .bool false]) w := by
  obtain ⟨c, h⟩ := h
  refine sRun_none w _ _ _ m c _ n _ u_rules Tryd.underlying9 (by kernel_rfl) h ?_
  have := F.find n rem 0
  rw [hf] at this
  exact this
theorem FK.map.look_some {F : FK γ} {w : World} {m : Nat} {rem : List Nat} {n : ByteArray} {i : Nat} (h : F.map w m rem) (hf : rem.findIdx? (fun k => decide (F.R.key k = n)) = some i) :
    (Instr.lookup 69 (.map (some m)) (.string n) true).run Tryd.prog w = .ok (.tuple #[.func (.func (F.fn (rem.getD i 0))) #[] #[.pointer (some ⟨F.bx, 0, none⟩)], .bool true]) w := by
  obtain ⟨c, h⟩ := h
  refine sRun_get w _ _ _ m c _ n (0 + i) _ u_rules Tryd.underlying9 h ?_
  have := F.find n rem 0
  rw [hf] at this
  exact this

def leftR (rem : List Nat) : Option Nat → List Nat
  | none => rem
  | some i => rem.eraseIdx i
/-- A delete. -/
theorem FK.map.del {F : FK γ} {w : World} {m : Nat} {rem : List Nat} {n : ByteArray} {f : Option Nat} (h : F.map w m rem) (hf : rem.findIdx? (fun k => decide (F.R.key k = n)) = f) :
    ∃ w', (Builtin.delete_ #[69, 9] 0 #[.map (some m), .string n]).run Tryd.prog w = .ok (.tuple #[]) w' ∧ F.map w' m (leftR rem f) ∧ w.grownBy w' (some m) := by
  obtain ⟨c, h⟩ := h
  have hfd := F.find n rem 0
  rw [hf] at hfd
  have hrun := sRun_del (P := Tryd.prog) w 69 9 _ 0 #[69, 9] rfl m c _ n _ u_rules Tryd.underlying9 h hfd
  obtain ⟨s1, s2⟩ := set_grown (o' := .map (delE (F.ents rem).toArray (f.map fun j => (0 + j, F.val (rem.getD j 0)))) c) h
  refine ⟨_, hrun, ⟨c, ?_⟩, s1⟩
  rw [s2]
  cases f with
  | none => rfl
  | some i =>
    simp only [Option.map_some, Nat.zero_add]
    rw [FK.erase]
    rfl

theorem QOwn.mono {K K2 : Nat} {w : World} {v : Value} {l : List (B.HD × Bool)} (h : QOwn K2 w v l) (hk : K ≤ K2) : QOwn K w v l := by
  obtain ⟨h1, h2⟩ := h
  refine ⟨h1, ?_⟩
  rcases h2 with h2 | ⟨g, cap, cur, e, hb, rest⟩
  · exact .inl h2
  · exact .inr ⟨g, cap, cur, e, Nat.le_trans hk hb, rest⟩
theorem JoinOut.form {K : Nat} {p : Addr} {L : Option (List (B.HD × Bool))} {w w' : World} {e : Ending} (h : JoinOut K p L w e w') : ∃ v ev, e = .returned (.tuple #[v, ev]) := by
  obtain ⟨v, h, _⟩ := h
  exact ⟨v, _, h⟩
theorem followOut_end {F : FK γ} {K m : Nat} {p : Addr} {rem0 : List Nat} {g0 : γ} {l l' : List (B.HD × Bool)} {w wr w' : World} {rem : List Nat} {g : γ} {e : Ending} (hF : F.Ok K) (hN : D.foll F.R rem0 g0 l = some (rem, g, l')) (hb : Below K w wr) (hK : K ≤ wr.heap.size) (hM : F.map wr m rem) (hA : F.At g wr)
    (h : JoinOut wr.heap.size p (if l'.all D.plainH = true then some ([] ++ l') else none) wr e w') : FollowOut F K m p (D.follow F.R rem0 g0 l) w e w' := by
  obtain ⟨v, rfl, hO, hB⟩ := h
  have e1 : D.follow F.R rem0 g0 l = if l'.all D.plainH = true then some (rem, g, l') else none := by
    unfold D.follow
    rw [hN]
  rw [e1]
  have hM' := hM.below hB
  have hA' := hF.below _ _ _ hA hB
  have hB' := hb.trans (hB.mono hK)
  cases hp : l'.all D.plainH
  · rw [hp] at hO
    exact ⟨v, by simp, hB', ⟨rem, hM'⟩, fun r h => by simp at h⟩
  · rw [hp] at hO
    refine ⟨v, by simp, hB', ⟨rem, hM'⟩, fun r h => ?_⟩
    simp only [if_true, Option.some.injEq] at h
    subst h
    exact ⟨hM', hA', QOwn.mono hO hK⟩

theorem followOut_err {F : FK γ} {K m : Nat} {p : Addr} {rem0 : List Nat} {g0 : γ} {l : List (B.HD × Bool)} {w w' : World} {rem : List Nat} (hN : D.follow F.R rem0 g0 l = none) (hb : Below K w w') (hM : F.map w' m rem) :
    FollowOut F K m p (D.follow F.R rem0 g0 l) w (.returned (.tuple #[.slice none 0 0, .iface 146 (.pointer (some p))])) w' := by
  rw [hN]
  exact ⟨.slice none 0 0, by simp [ehV], hb, ⟨rem, hM⟩, fun r h => by cases h⟩

set_option maxRecDepth 100000 in
set_option maxHeartbeats 4000000 in
theorem follow_any {K0 K : Nat} (F : FK γ) (hF : F.Ok K) (m : Nat) (rem0 : List Nat) (g0 : γ) (a : Option Addr) (n c : Nat) (l : List (B.HD × Bool)) (p : Addr) (w : World) (hl : l.length = n) (hn : n ≤ 1048576) (hcap : n ≤ c) (hr : QRdB K0 w a l) (hK0 : K0 ≤ K) (hK : K ≤ w.heap.size) (hs : QSz 1048576 l) (hE : EH w p) (hEK : 0 < K)
    (hmB : m ≠ F.bx) (hmT : m ≠ F.tb) (hmK : K ≤ m) (hM : F.map w m rem0) (hA : F.At g0 w) :
    Calls Tryd.prog 34 #[.map (some m), .slice a n c] w (FollowOut F K m p (D.follow F.R rem0 g0 l) w) := by
  have HF := Lib.hid hF
  have HE := Lib.hid hE
  have HR := Lib.hid hr
  have HL := Lib.hid hl
  have HS := Lib.hid hs
  have HM := Lib.hid hM
  have HA := Lib.hid hA
  have hKB := hF.lowB
  have hKT := hF.lowT
  clear hF hE hr hl hs hM hA
  go_enter Tryd.func34, Tryd.ntmps34
  go_wp2
  go_loopw [1] (fun lv wr => ∃ (l' : List (B.HD × Bool)) (a' : Option Addr) (n' c' : Nat) (rem : List Nat) (g : γ), lv = .slice a' n' c' ∧ n' ≤ n ∧ n' ≤ c' ∧ Hid (l'.length = n') ∧ Hid (QRdB K0 wr a' l') ∧ Hid (QSz 1048576 l') ∧ Hid (D.foll F.R rem0 g0 l = D.foll F.R rem g l') ∧
      Hid (F.map wr m rem) ∧ Hid (F.At g wr) ∧ Hid (Below K w wr) ∧ K ≤ wr.heap.size) (fun lv _ => sliceLen lv)
  case atStart => exact ⟨l, a, n, c, rem0, g0, rfl, Nat.le_refl _, hcap, HL, HR, HS, rfl, HM, HA, Below.refl _ _, hK⟩
  case round =>
    obtain ⟨l', a', n', c', rem, g, rfl, hn', hc', HL', HR', HS', HFo, HM', HA', HB', hKr⟩ := hrel
    clear HL HR HS HM HA
    cases l' with
    | nil =>
      obtain rfl : n' = 0 := HL'.out.symm
      have hE1 : EH wr p := HE.out.belowB HB'.out hEK
      have HJ := Lib.hid (join_any (K := wr.heap.size) (.slice none 0 0) [] a' 0 c' [] p wr (QOwn.nil _ _) rfl (by omega) (Nat.zero_le _) (HR'.out.mono (by omega)) (Nat.le_refl _) HS'.out hE1)
      have HN : Hid (D.foll F.R rem0 g0 l = some (rem, g, [])) := by show _ = _; rw [HFo.out]; rfl
      clear hE1
      go_wp2_with fail
      refine HJ.out.mono ?_
      rintro e w1 hj
      have HFin := Lib.hid (followOut_end HF.out HN.out HB'.out hKr HM'.out HA'.out hj)
      obtain ⟨v, ev, rfl⟩ := hj.form
      go_wp2
      go_ret2
      exact HFin.out
    | cons x t =>
      have hpos : 0 < n' := by have := HL'.out; simp at this; omega
      obtain ⟨b, o, rfl, hbK, d0, d1, d2⟩ := HR'.out 0 x rfl
      obtain ⟨z1, z2⟩ := HS'.out x List.mem_cons_self
      obtain ⟨⟨xn, xv⟩, xb⟩ := x
      simp only [Nat.zero_mul, Nat.add_zero] at d0 d1 d2 z1 z2
      have q1 : (0 : Int) < (n' : Int) := by omega
      have hP : Hid (∀ ww, Calls Tryd.prog 54 #[.string xn, .string ⟨#[58]⟩] ww fun e w' => e = .returned (.bool (D.colonN xn)) ∧ ww = w') := fun ww => by
        refine (hasPrefix_any xn _ ww).mono ?_
        rintro e w' ⟨rfl, rfl⟩
        exact ⟨by rw [pre58], rfl⟩
      cases hcol : D.colonN xn
      · rw [hcol] at hP
        have hx : D.colon ((xn, xv), xb) = false := hcol
        have hE1 : EH wr p := HE.out.belowB HB'.out hEK
        have HJ := Lib.hid (join_any (K := wr.heap.size) (.slice none 0 0) [] (some ⟨b, o, none⟩) n' c' (((xn, xv), xb) :: t) p wr (QOwn.nil _ _) HL'.out (by omega) (Nat.zero_le _) (HR'.out.mono (by omega)) (Nat.le_refl _) HS'.out hE1)
        have HN : Hid (D.foll F.R rem0 g0 l = some (rem, g, ((xn, xv), xb) :: t)) := by show _ = _; rw [HFo.out]; exact D.foll_stop F.R hx
        clear hE1 hcol hx
        go_wp2_with fail
        refine (hP.out _).mono ?_
        rintro e w0 ⟨rfl, rfl⟩
        go_wp2_with fail
        refine HJ.out.mono ?_
        rintro e w1 hj
        have HFin := Lib.hid (followOut_end HF.out HN.out HB'.out hKr HM'.out HA'.out hj)
        obtain ⟨v, ev, rfl⟩ := hj.form
        go_wp2
        go_ret2
        exact HFin.out
      · rw [hcol] at hP
        have hx : D.colon ((xn, xv), xb) = true := hcol
        clear hcol
        have hba : Below wr.heap.size wr (wr.alloc (.cells #[.string xn, .string xv, .bool xb] 54)) := (Below.refl _ _).alloc (Nat.le_refl _) _
        have HBa := Lib.hid hba
        have HB1 := Lib.hid (HB'.out.trans (hba.mono hKr))
        have HM1 := Lib.hid (HM'.out.below hba)
        have HA1 := Lib.hid (HF.out.below _ _ _ HA'.out hba)
        have hE1 : EH (wr.alloc (.cells #[.string xn, .string xv, .bool xb] 54)) p := HE.out.belowB HB1.out hEK
        have HE1 := Lib.hid hE1
        unfold EH at hE1
        clear hba
        cases hfi : rem.findIdx? (fun k => decide (F.R.key k = xn)) with
        | none =>
          have hlk := HM1.out.look_none hfi
          have HN : Hid (D.follow F.R rem0 g0 l = none) := by
            show _ = _
            unfold D.follow
            rw [HFo.out, D.foll_none F.R hx]
            simp only [D.stp, hfi]
          clear hfi hx
          go_wp2_with fail
          refine (hP.out _).mono ?_
          rintro e w1 ⟨rfl, rfl⟩
          go_wp2_with fail
          go_quiet (fail)
          go_wp2
          go_ret2
          exact followOut_err HN.out (below_q HB1.out _) (HM1.out.below (below_q (Below.refl _ _) _))
        | some i =>
          have hlk := HM1.out.look_some hfi
          have HV : Hid (∀ ww, Calls Tryd.prog 25 #[.string xv] ww fun e w' => e = .returned (.bool (D.value xv)) ∧ Below ww.heap.size ww w') := fun ww => Value_any xv ww (by omega)
          have hz1 := HB1.out.size
          have hKz : K ≤ (wr.alloc (.cells #[.string xn, .string xv, .bool xb] 54)).heap.size := by simp; omega
          have hE0 : (wr.alloc (.cells #[.string xn, .string xv, .bool xb] 54)).cell? ⟨wr.heap.size, 0, none⟩ = some (.string xn) := by simp
          have hE2 : (wr.alloc (.cells #[.string xn, .string xv, .bool xb] 54)).cell? ⟨wr.heap.size, 1, none⟩ = some (.string xv) := by simp
          have HC0 := Lib.hid (And.intro hE0 hE2)
          clear hE0 hE2
          cases hval : D.value xv
          · rw [hval] at HV
            have HN : Hid (D.follow F.R rem0 g0 l = none) := by
              show _ = _
              unfold D.follow
              rw [HFo.out, D.foll_none F.R hx]
              simp [D.stp, hfi, hval]
            clear hfi hx hval
            go_wp2_with fail
            refine (hP.out _).mono ?_
            rintro e w1 ⟨rfl, rfl⟩
            go_wp2_with fail
            refine (HV.out _).mono ?_
            rintro e w2 ⟨rfl, hb2⟩
            have HB2 := Lib.hid (HB1.out.trans (hb2.mono hKz))
            have HM2 := Lib.hid (HM1.out.below hb2)
            have hE2 : EH w2 p := HE1.out.below hb2
            unfold EH at hE2
            clear hb2 hE1
            go_wp2_with fail
            go_quiet (fail)
            go_wp2
            go_ret2
            exact followOut_err HN.out (below_q HB2.out _) (HM2.out.below (below_q (Below.refl _ _) _))
          · rw [hval] at HV
            have HC : Hid (∀ ww, F.At g ww → Calls Tryd.prog (F.fn (rem.getD i 0)) #[.string xv, .pointer (some ⟨F.bx, 0, none⟩)] ww fun e w' => e = .returned (.bool (F.R.tk (rem.getD i 0) xv)) ∧ F.At (F.R.upd g (rem.getD i 0) xv) w' ∧ ww.grownBy w' (some F.tb)) := fun ww h => HF.out.call _ xv g ww z2 h
            have hst : D.stp F.R rem g ((xn, xv), xb) = if F.R.tk (rem.getD i 0) xv then some (rem.eraseIdx i, F.R.upd g (rem.getD i 0) xv) else none := by
              simp only [D.stp, hfi, hval, Bool.true_and]
            have Hst := Lib.hid hst
            have hTlt := HF.out.lt _ _ HA'.out
            have hfn : ∀ ww args, (callFunc (F.fn (rem.getD i 0)) args).run Tryd.prog ww = .ok (.enter (F.fn (rem.getD i 0)) args) ww := fun ww args => HF.out.fnc _ ww args
            have HFd := Lib.hid hfi
            clear hst hval hfi
            generalize hkk : rem.getD i 0 = k at *
            have Hkk := Lib.hid hkk
            clear hkk
            generalize hfx : F.fn k = fx at *
            have Hfx := Lib.hid hfx
            clear hfx
            cases htk : F.R.tk k xv
            · rw [htk] at HC Hst
              have HN : Hid (D.follow F.R rem0 g0 l = none) := by
                show _ = _
                unfold D.follow
                rw [HFo.out, D.foll_none F.R hx]
                rw [Hst.out]; rfl
              clear hx htk
              go_wp2_with fail
              refine (hP.out _).mono ?_
              rintro e w1 ⟨rfl, rfl⟩
              go_wp2_with fail
              refine (HV.out _).mono ?_
              rintro e w2 ⟨rfl, hb2⟩
              have HB2 := Lib.hid (HB1.out.trans (hb2.mono hKz))
              have HM2 := Lib.hid (HM1.out.below hb2)
              have HA2 := Lib.hid (HF.out.below _ _ _ HA1.out hb2)
              have hE2 : EH w2 p := HE1.out.below hb2
              have HE2 := Lib.hid hE2
              have c21 := cell_below hb2 HC0.out.2
              clear hb2 hE1 hE2
              go_wp2_with fail
              refine (HC.out _ HA2.out).mono ?_
              rintro e w3 ⟨rfl, hA3, hg3⟩
              have HB3 := Lib.hid (HB2.out.grown hg3 (by have := HB2.out.size; omega) (fun r e => by cases e; exact hKT))
              have HM3 := Lib.hid (HM2.out.grown hg3 hmT)
              have hE3 : EH w3 p := hg3.cell HE2.out (by intro e; simp at e; omega)
              unfold EH at hE3
              clear hA3 hg3
              go_wp2_with fail
              go_quiet (fail)
              go_wp2
              go_ret2
              exact followOut_err HN.out (below_q HB3.out _) (HM3.out.below (below_q (Below.refl _ _) _))
            · rw [htk] at HC Hst
              have HFo2 : Hid (D.foll F.R rem0 g0 l = D.foll F.R (rem.eraseIdx i) (F.R.upd g k xv) t) := by
                show _ = _
                rw [HFo.out]
                exact D.foll_some F.R hx Hst.out
              have HL2 : Hid (t.length = n' - 1) := by show _ = _; have := HL'.out; simp at this; omega
              have HS2 : Hid (QSz 1048576 t) := fun y hy => HS'.out y (List.mem_cons_of_mem _ hy)
              have hsl : ∀ ww, (Instr.slice 22 (.slice (some ⟨b, o, none⟩) n' c') (some (.int .i64 1)) none none).run Tryd.prog ww = .ok (.slice (cutQ (some ⟨b, o, none⟩) c' 1) (n' - 1) (c' - 1)) ww := fun ww => run_fromQ _ _ _ 1 hpos ww
              clear hx htk
              go_wp2_with fail
              refine (hP.out _).mono ?_
              rintro e w1 ⟨rfl, rfl⟩
              go_wp2_with fail
              refine (HV.out _).mono ?_
              rintro e w2 ⟨rfl, hb2⟩
              have HB2 := Lib.hid (HB1.out.trans (hb2.mono hKz))
              have HM2 := Lib.hid (HM1.out.below hb2)
              have HA2 := Lib.hid (HF.out.below _ _ _ HA1.out hb2)
              have HC2 := Lib.hid (And.intro (cell_below hb2 HC0.out.1) (cell_below hb2 HC0.out.2))
              have HW2 : Hid (Below K wr w2) := (HBa.out.mono hKr).trans (hb2.mono hKz)
              have c21 := cell_below hb2 HC0.out.2
              clear hb2 hE1
              go_wp2_with fail
              refine (HC.out _ HA2.out).mono ?_
              rintro e w3 ⟨rfl, hA3, hg3⟩
              have HB3 := Lib.hid (HB2.out.grown hg3 (by have := HB2.out.size; omega) (fun r e => by cases e; exact hKT))
              have HM3 := Lib.hid (HM2.out.grown hg3 hmT)
              have HA3 := Lib.hid hA3
              have HW3 : Hid (Below K wr w3) := HW2.out.grown hg3 (by have := HB2.out.size; omega) (fun r e => by cases e; exact hKT)
              have c30 := hg3.cell HC2.out.1 (by intro e; simp at e; omega)
              have hKz3 : K ≤ w3.heap.size := by have h1 := HB2.out.size; have h2 := hg3.size; omega
              clear hA3 hg3
              obtain ⟨w4, hdel, hm4, hg4⟩ := HM3.out.del HFd.out
              have HM4 : Hid (F.map w4 m (rem.eraseIdx i)) := hm4
              have HA4 := Lib.hid (HF.out.grown _ _ _ m hmB hmT HA3.out hg4)
              have HB4 := Lib.hid (HB3.out.grown hg4 hKz3 (fun r e => by cases e; exact hmK))
              have HW4 : Hid (Below K wr w4) := HW3.out.grown hg4 hKz3 (fun r e => by cases e; exact hmK)
              have hKz4 : K ≤ w4.heap.size := by have := hg4.size; omega
              clear hm4 hg4
              go_wp2
              go_roundw
              case rel => exact ⟨t, _, n' - 1, c' - 1, rem.eraseIdx i, F.R.upd g k xv, rfl, by omega, by omega, HL2, ((HR'.out.belowB HW4.out hK0).cut 1 (by rw [HL'.out]; exact hc')), HS2, HFo2, HM4, HA4, HB4, hKz4⟩
              case measure => simp [sliceLen]; omega
end Go.Proofs.YtihlcecincijgaaDoor
