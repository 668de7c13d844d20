/-
The walk of parleyref2's Decode.
-/
import Derived.Test.YtoihbpclfmlokaaDoorHrefe
namespace Go.Proofs.YtoihbpclfmlokaaDoor
open Go.RowKit

/-- What parleyref2's Decode hands back. -/
def RDecOut (l : List Nat) (w : World) (e : Ending) (w' : World) : Prop :=
  Below w.heap.size w w' ∧ e = .returned (match H.decB l with
    | some t => .tuple #[.string (strOf t), .int .i64 0]
    | none => .tuple #[.string ⟨#[]⟩, .int .i64 107])

theorem ones_step (c n x : Nat) (hx : x < 2) : (c * 2 + x = 2 ^ (n + 1) - 1) ↔ (c = 2 ^ n - 1 ∧ x = 1) := by
  have hp : 0 < 2 ^ n := Nat.two_pow_pos n
  rw [Nat.pow_succ]
  omega

set_option maxRecDepth 100000 in
set_option maxHeartbeats 1000000 in
theorem rDecode_any {B : Nat} (a : Option Addr) (len cap : Nat) (l : List Nat) (w : World) (hl : l.length = len) (hlen : len ≤ 1000000000) (hr : Rd B w a l) :
    Calls Tryd.prog 57 #[.slice a len cap] w (RDecOut l w) := by
  obtain ⟨S, hS, hL⟩ := lengths_ex
  have HL := Lib.hid hL
  have HS := Lib.hid hS
  clear hL hS
  obtain ⟨i0, hi, hz0, hz1b, hz2⟩ := info_parts info5
  have Hz2 := Lib.hid hz2
  have Hr := Lib.hid hr
  have Hl := Lib.hid hl
  clear hz2 hr hl
  go_enter Tryd.func57, Tryd.ntmps57
  go_wp2_with (first | (go_at_call 79; refine (HL.out _).mono ?_; rintro e w1 ⟨rfl, rfl⟩) | (go_at_call 81; refine (codes_any _).mono ?_; rintro e w2 ⟨g, rfl, hg, hbk, hb2⟩; have HBk := Lib.hid hbk; have HB := Lib.hid hb2; have hgs := hbk.lt (by omega); have hz2 := hb2.size; clear hbk hb2))
  go_loopw [6, 7, 8, 9, 10] (fun v c n o i wr => ∃ (a : Option Addr) (cp C N A : Nat) (t : List Nat), v = .slice a t.length cp ∧ c = .int .u32 C ∧ n = .int .i64 N ∧ o = .bool (decide (C = 2 ^ N - 1)) ∧ i = .int .i64 A ∧ A ≤ 8 * len ∧ Hid (H.Mid C N) ∧ t.length ≤ A ∧ Hid (∀ x ∈ t, x < 256) ∧ Hid (H.decB l = (H.dec ((H.bb l).drop A) C N).map (t ++ ·)) ∧
      wr.ownsRow w2.heap.size 5 1 (.slice a t.length cp) t.length (vals t) ∧ Hid (Below w2.heap.size w2 wr) ∧ w2.heap.size ≤ wr.heap.size) (fun _ _ _ _ i _ => 8 * len - (intOf i).toNat)
  case atStart =>
    exact ⟨none, 0, 0, 0, 0, [], rfl, rfl, rfl, rfl, rfl, by omega, H.mid0, by simp, by intro x hx; simp at hx, by show _ = _; simp [H.decB], World.ownsRow_nil _ _ _ _, Below.refl _ _, Nat.le_refl _⟩
  case round =>
    obtain ⟨aa, cp, c, n, A, t, rfl, rfl, rfl, rfl, rfl, hA, HM, htA, HT, HD, hown, HBr, hsr⟩ := hrel
    have HW : Hid (Below w.heap.size w wr) := HB.out.trans (HBr.out.mono hz2)
    have hn29 := HM.out.2.1
    have hc29 : c < 1073741824 := by
      have h1 := HM.out.1
      have h2 : 2 ^ n ≤ 2 ^ 30 := Nat.pow_le_pow_right (by omega) (by omega)
      have e : (2 : Nat) ^ 30 = 1073741824 := by decide
      omega
    by_cases hlt : A < 8 * len
    · have HR : Hid (H.dec ((H.bb l).drop A) c n = match H.sym (c * 2 + H.bitAt l A) (n + 1) with
        | none => H.dec ((H.bb l).drop (A + 1)) (c * 2 + H.bitAt l A) (n + 1)
        | some i => if i = 256 then none else (H.dec ((H.bb l).drop (A + 1)) 0 0).map (i :: ·)) := H.dec_read l A c n (by rw [Hl.out]; exact hlt)
      have hq : A / 8 < l.length := by rw [Hl.out]; omega
      obtain ⟨b, o, rfl, hcell⟩ := (Hr.out.below HW.out).cell hq
      have hx := Hr.out.lt (A / 8)
      have HX : Hid (H.bitAt l A = l.getD (A / 8) 0 / 2 ^ (7 - A % 8) % 2) := rfl
      generalize l.getD (A / 8) 0 = X at *
      have hb2 := H.bitAt_lt l A
      generalize H.bitAt l A = x at *
      have Hge := Lib.hid (HM.out.ge (x := x))
      have Hpl := Lib.hid (HM.out.lt hb2)
      have HMS := Lib.hid (fun h => HM.out.step hb2 h)
      have Hstep := Lib.hid (ones_step c n x hb2)
      have Hand : Hid (bits .and .u32 ((X : Int) / 2 ^ (7 - A % 8) % 4294967296) 1 = (x : Int)) := by
        show _ = _
        have e0 : (2 : Int) ^ (7 - A % 8) = ((2 ^ (7 - A % 8) : Nat) : Int) := by push_cast; rfl
        have hXd : X / 2 ^ (7 - A % 8) < 256 := Nat.lt_of_le_of_lt (Nat.div_le_self _ _) hx
        rw [e0, ← Int.natCast_ediv]
        have HXo := HX.out
        generalize X / 2 ^ (7 - A % 8) = Y at *
        have e1 : bits .and .u32 (Y : Int) 1 = (Y : Int) % 2 := bits_mask .u32 32 (by decide) (fun n h0 h1 => by rw [IntKind.wrap_u32]; omega) 1 (by decide) Y (by omega) (by omega)
        rw [show (Y : Int) % 4294967296 = (Y : Int) from by omega, e1]; omega
      have Hor : Hid (bits .or .u32 ((c : Int) * 2) (x : Int) = ((c * 2 + x : Nat) : Int)) := by
        show _ = _
        rw [show ((c : Int) * 2) = ((c * 2 : Nat) : Int) from by omega, u32_or_nat _ _ (by omega) (by omega)]
        have e3 := Nat.two_pow_add_eq_or_of_lt (i := 1) (show x < 2 ^ 1 by omega) c
        rw [Nat.pow_one, Nat.mul_comm 2 c] at e3
        rw [e3]
      clear HX
      go_upto_region 11 with (fail)
      rw [Hand.out]
      go_upto_region 13 with (fail)
      rw [Hor.out]
      have hc2 : c * 2 + x < 4294967296 := by omega
      generalize hcc : c * 2 + x = c2 at *
      have Hcc := Lib.hid hcc
      clear hcc
      obtain ⟨fl, hfl⟩ : ∃ fl, fl = decide (c = 2 ^ n - 1) := ⟨_, rfl⟩
      rw [← hfl]
      have HFL : ∃ fl2, fl2 = decide (c2 = 2 ^ (n + 1) - 1) ∧ fl2 = (fl && ((x : Int) == 1)) := by
        refine ⟨_, rfl, ?_⟩
        rw [hfl, Bool.eq_iff_iff]
        simp only [Bool.and_eq_true, decide_eq_true_eq, beq_iff_eq, Hstep.out]
        omega
      have Hfl := Lib.hid hfl
      clear hfl
      have HC : Hid (∀ ww, Blk ww g 257 (fun j => .int .u32 (H.cod j : Nat)) → Calls Tryd.prog 83 #[.slice (some ⟨g, 0, none⟩) 257 257, .string S, .int .u32 (c2 : Nat), .int .i64 ((n : Int) + 1)] ww fun e w' => e = .returned (.int .i64 (rsymV (H.sym c2 (n + 1)))) ∧ ww = w') := fun ww hb => by
        have h := rsymbol_any S HS.out g c2 (n + 1) ww hb (by omega)
        rw [show (((n + 1 : Nat)) : Int) = (n : Int) + 1 from by omega] at h
        exact h
      have hbw := Lib.hid (HBk.out.belowB HBr.out hgs)
      cases fl
      all_goals
        obtain ⟨fl2, hf2, hf3⟩ := HFL
        simp only [Bool.false_and, Bool.true_and] at hf3
        have Hf2 := Lib.hid hf2
        clear hf2
        have Hf3 := Lib.hid hf3
        clear hf3
        go_upto_region 14 with (fail)
        by_cases h5 : n + 1 < 5
        · have hn : H.sym c2 (n + 1) = none := H.sym_none_small h5
          have HM2 := Lib.hid (HMS.out hn)
          rw [hn] at HR
          clear hn HMS HC
          go_wp2
          go_roundw
          case rel =>
            refine ⟨aa, cp, c2, n + 1, A + 1, t, rfl, rfl, by go_num, ?_, by go_num, by omega, HM2, by omega, HT, ?_, hown, HBr, hsr⟩
            · rw [← Hf2.out, Hf3.out]
            · exact HD.out.trans (congrArg (Option.map (t ++ ·)) HR.out)
          case measure => simp [intOf]; omega
        · cases hsym : H.sym c2 (n + 1) with
          | none =>
            have HM2 := Lib.hid (HMS.out hsym)
            rw [hsym] at HR HC
            clear hsym HMS
            go_wp2_with (go_at_call 83; refine (HC.out _ hbw.out).mono ?_; rintro e w1 ⟨rfl, rfl⟩; simp only [rsymV])
            go_roundw
            case rel =>
              refine ⟨aa, cp, c2, n + 1, A + 1, t, rfl, rfl, by go_num, ?_, by go_num, by omega, HM2, by omega, HT, ?_, hown, HBr, hsr⟩
              · rw [← Hf2.out, Hf3.out]
              · exact HD.out.trans (congrArg (Option.map (t ++ ·)) HR.out)
            case measure => simp [intOf]; omega
          | some i =>
            have hi257 := (H.sym_some hsym).1
            rw [hsym] at HC HR
            clear hsym HMS
            by_cases h256 : i = 256
            · subst h256
              have HD2 : Hid (H.decB l = none) := by
                show _ = _
                rw [HD.out, HR.out]
                rfl
              go_wp2_with (go_at_call 83; refine (HC.out _ hbw.out).mono ?_; rintro e w1 ⟨rfl, rfl⟩; simp only [rsymV])
              go_ret2
              refine ⟨HW.out, ?_⟩
              rw [HD2.out]
              rfl
            · have hi8 : i < 256 := by omega
              have hne : ((i : Int) == 256) = false := by simp; omega
              have HD2 : Hid (H.decB l = (H.dec ((H.bb l).drop (A + 1)) 0 0).map ((t ++ [i]) ++ ·)) := by
                show _ = _
                rw [HD.out, HR.out]
                show (if i = 256 then none else _).map _ = _
                rw [if_neg h256, H.map_app t t]
              clear h256 HD HR
              have hone := Rd.one wr i 5 hi8
              go_wp2_with (first | (go_at_call 83; refine (HC.out _ hbw.out).mono ?_; rintro e w1 ⟨rfl, rfl⟩; simp only [rsymV]) | (at_builtin; refine wpList_app1 _ rfl _ _ 23 rfl w2.heap.size _ 5 i0 (.int .u8 0) Tryd.underlying23 hi hz0 hz1b Hz2.out rfl _ t.length (vals t) rfl (hown.alloc _) _ 1 1 [i] rfl rfl (by omega) hone ?_ ?_ ?_; omega; (simp; omega); intro g2 cp2 w4 hown2 hgrow2))
              go_roundw
              case rel =>
                refine ⟨some ⟨g2, 0, none⟩, cp2, 0, 0, A + 1, t ++ [i], ?_, rfl, rfl, rfl, by go_num, by omega, H.mid0, by simp; omega, lt_app HT.out (by simpa using hi8), HD2, ?_, ?_, ?_⟩
                · rw [List.length_append]; rfl
                · rw [vals_append, List.length_append]; exact hown2
                · refine (HBr.out.alloc (by omega) _).grown hgrow2 (by simp; omega) (fun k e => ?_)
                  cases aa with
                  | none => cases e
                  | some ad =>
                    rcases hown.2 with ⟨e1, _⟩ | ⟨g', cap, cur, e1, hb, _⟩
                    · cases e1
                    · cases e1; cases e; exact hb
                · have := hgrow2.size; simp at this; omega
              case measure => simp [intOf]; omega
    · obtain rfl : A = 8 * len := by omega
      have HD2 : Hid (H.decB l = if n < 8 ∧ c = 2 ^ n - 1 then some t else none) := by
        show _ = _
        rw [HD.out, ← Hl.out, H.dec_end]
        split <;> simp
      clear HD
      by_cases h8 : 8 ≤ n
      · rw [if_neg (by omega)] at HD2
        go_wp2
        go_ret2
        refine ⟨HW.out, ?_⟩
        rw [HD2.out]
        rfl
      · by_cases hc : c = 2 ^ n - 1
        · rw [if_pos ⟨by omega, hc⟩] at HD2
          rw [decide_eq_true hc]
          clear hc
          obtain ⟨hrT, hcp⟩ := rd_own hown HT.out
          have hstr := run_str aa cp t wr hrT
          go_wp2
          go_ret2
          refine ⟨HW.out, ?_⟩
          rw [HD2.out]
          rfl
        · rw [if_neg (fun h => hc h.2)] at HD2
          rw [decide_eq_false hc]
          clear hc
          go_wp2
          go_ret2
          refine ⟨HW.out, ?_⟩
          rw [HD2.out]
          rfl
end Go.Proofs.YtoihbpclfmlokaaDoor
