/-
The walk of parleyref2's Encode.
-/
import Derived.Test.YtoihbpclfmlokaaDoorHrefd
namespace Go.Proofs.YtoihbpclfmlokaaDoor
open Go.RowKit

/-- A slice, nil or not, that reads as the bytes l. -/
def ReadPost (l : List Nat) (w : World) (e : Ending) (w' : World) : Prop := ∃ a cp, e = .returned (.slice a l.length cp) ∧ Rd w'.heap.size w' a l ∧ l.length ≤ cp ∧ Below w.heap.size w w'

theorem rd_own {B : Nat} {w : World} {a : Option Addr} {cp : Nat} {l : List Nat} (h : w.ownsRow B 5 1 (.slice a l.length cp) l.length (vals l)) (hl : ∀ x ∈ l, x < 256) : Rd w.heap.size w a l ∧ l.length ≤ cp := by
  rcases h.2 with ⟨e, e2⟩ | ⟨g, cap, cur, e, _⟩
  · injection e with e1 e3 e4
    have : l = [] := List.length_eq_zero_iff.1 e3
    subst this
    exact ⟨Rd.nil _ _ _, Nat.zero_le _⟩
  · cases e
    obtain ⟨a', cp', e2, h2, h3⟩ := Own.rd (v := .slice (some ⟨g, 0, none⟩) l.length cp) ⟨h, g, cp, rfl⟩ hl
    cases e2
    exact ⟨h3, h2⟩

set_option maxRecDepth 100000 in
set_option maxHeartbeats 1000000 in
theorem rEncode_any (s : ByteArray) (w : World) (hs : s.size ≤ 1000000000) : Calls Tryd.prog 53 #[.string s] w (ReadPost (H.enc (by_ s)) w) := by
  obtain ⟨S, hS, hL⟩ := lengths_ex
  have HL := Lib.hid hL
  have h1 : 257 ≤ S.size := by rw [hS.1]; exact Nat.le_refl _
  have HS := Lib.hid hS
  clear hL hS
  obtain ⟨i0, hi, hz0, hz1b, hz2⟩ := info_parts info5
  have Hz2 := Lib.hid hz2
  clear hz2
  go_enter Tryd.func53, Tryd.ntmps53
  go_wp2_with (first | (go_at_call 79; refine (HL.out _).mono ?_; rintro e w1 ⟨rfl, rfl⟩) | (go_at_call 81; refine (codes_any _).mono ?_; rintro e w2 ⟨g, rfl, hg, hbk, hb2⟩; have HBk := Lib.hid hbk; have HB := Lib.hid hb2; have hgs := hbk.lt (by omega); have hz2 := hb2.size; clear hbk hb2))
  go_loopw [5, 6, 7, 8] (fun v x h i wr => ∃ (a : Option Addr) (cp last held k : Nat) (out : List Nat), v = .slice a out.length cp ∧ x = .int .u64 last ∧ h = .int .i64 held ∧ i = .int .i64 k ∧ k ≤ s.size ∧ held ≤ 7 ∧ last < 18446744073709551616 ∧ Hid (∀ x ∈ out, x < 256) ∧ Hid (H.bb out ++ H.nb held last = H.eb ((by_ s).take k)) ∧
      wr.ownsRow w2.heap.size 5 1 (.slice a out.length cp) out.length (vals out) ∧ Hid (Below w2.heap.size w2 wr) ∧ w2.heap.size ≤ wr.heap.size) (fun _ _ _ i _ => s.size - (intOf i).toNat)
  case atStart =>
    refine ⟨none, 0, 0, 0, 0, [], rfl, rfl, rfl, rfl, Nat.zero_le _, by omega, by omega, by intro x hx; simp at hx, rfl, World.ownsRow_nil _ _ _ _, Below.refl _ _, Nat.le_refl _⟩
  case round =>
    obtain ⟨a, cp, last, held, k, out, rfl, rfl, rfl, rfl, hk, hh, hl, Hlt, Hb, hown, HBr, hsr⟩ := hrel
    by_cases hlt : k < s.size
    · have HS2 : Hid (H.eb ((by_ s).take (k + 1)) = H.eb ((by_ s).take k) ++ H.nb (H.b s[k].toNat) (H.cod s[k].toNat)) := by
        show _ = _
        have hk1 : k < (by_ s).length := by rw [by_len]; exact hlt
        have hg := by_get s k hlt
        rw [List.getD_eq_getElem?_getD, List.getElem?_eq_getElem hk1] at hg
        rw [List.take_succ_eq_append_getElem hk1, H.eb_app, H.eb_one]
        rw [show (by_ s)[k] = s[k].toNat from hg]
      have hc : s[k].toNat < 256 := s[k].toNat_lt
      have hcc : wr.cell? ⟨g, s[k].toNat, none⟩ = some (.int .u32 (H.cod s[k].toNat : Nat)) := (Blk.belowB HBk.out HBr.out hgs s[k].toNat (by omega)).1
      have hbb := H.b_bounds s[k].toNat
      have Hcl := Lib.hid (H.cod_lt s[k].toNat (by omega))
      have hcl := H.cod_lt32 s[k].toNat (by omega)
      have h2 := HS.out.2 s[k].toNat (by omega)
      generalize H.b s[k].toNat = n at *
      generalize H.cod s[k].toNat = c at *
      have Hor := Lib.hid (H.lay_or last n c (by omega) Hcl.out)
      have k0 : (0 : Int) ≤ (s[k].toNat : Int) := by omega
      have k1 : (s[k].toNat : Int) < 257 := by omega
      have hy1 : 97 ≤ S[s[k].toNat].toNat := by omega
      have hy2 : S[s[k].toNat].toNat ≤ 122 := by omega
      have hval : ((S[s[k].toNat].toNat : Int) - 97 + 5) = (n : Int) := by omega
      clear h2
      go_upto_block 2 with (fail)
      have hor : bits .or .u64 (IntKind.u64.wrap ((last : Int) * 2 ^ n)) (c : Int) = ((last * 2 ^ n % 18446744073709551616 + c : Nat) : Int) := by
        have e1 : IntKind.u64.wrap ((last : Int) * 2 ^ n) = ((last * 2 ^ n % 18446744073709551616 : Nat) : Int) := by
          have e0 : (2 : Int) ^ n = ((2 ^ n : Nat) : Int) := by push_cast; rfl
          rw [IntKind.wrap_u64, e0, ← Int.natCast_mul]
          generalize last * 2 ^ n = q
          omega
        rw [e1, u64_or_nat _ _ (by omega) (by omega), Hor.out]
      rw [hor]
      have hL : last * 2 ^ n % 18446744073709551616 + c < 18446744073709551616 := by
        rw [← Hor.out]
        exact Nat.or_lt_two_pow (n := 64) (show _ < 2 ^ 64 by omega) (show _ < 2 ^ 64 by omega)
      have HX : Hid (H.bb out ++ H.nb (held + n) (last * 2 ^ n % 18446744073709551616 + c) = H.eb ((by_ s).take (k + 1))) := by
        show _ = _
        rw [H.nb_lay held n last c (by omega) Hcl.out, HS2.out, ← Hb.out, List.append_assoc]
      clear hor Hor Hcl HS2 Hb hval hcc
      generalize last * 2 ^ n % 18446744073709551616 + c = L at *
      rw [show ((held : Int) + (n : Int)) = ((held + n : Nat) : Int) from by omega]
      have hHn : held + n ≤ 37 := by omega
      generalize held + n = hd at *
      go_step
      go_loopw [5, 6, 7] (fun v x h wq => ∃ (a : Option Addr) (cp L held : Nat) (out : List Nat), v = .slice a out.length cp ∧ x = .int .u64 L ∧ h = .int .i64 held ∧ held ≤ 37 ∧ L < 18446744073709551616 ∧ Hid (∀ x ∈ out, x < 256) ∧ Hid (H.bb out ++ H.nb held L = H.eb ((by_ s).take (k + 1))) ∧
        wq.ownsRow w2.heap.size 5 1 (.slice a out.length cp) out.length (vals out) ∧ Hid (Below w2.heap.size w2 wq) ∧ w2.heap.size ≤ wq.heap.size) (fun _ _ h _ => (intOf h).toNat)
      case atStart => exact ⟨a, cp, L, hd, out, rfl, rfl, rfl, hHn, hL, Hlt, HX, hown, HBr, hsr⟩
      case round =>
        clear hown HBr hsr Hlt HX hHn hL
        obtain ⟨a, cp, L, held, out, rfl, rfl, rfl, hh, hL, Hlt, HX, hown, HBr, hsr⟩ := hrel
        by_cases h8 : 8 ≤ held
        · have hlen : out.length ≤ 4 * s.size + 8 := by
            have h := congrArg List.length HX.out
            rw [List.length_append, H.bb_len, H.nb_len] at h
            have h2 := (H.eb_bounds ((by_ s).take (k + 1))).2
            have h3 : ((by_ s).take (k + 1)).length ≤ s.size := by rw [List.length_take, by_len]; omega
            omega
          have hone := Rd.one wr (L / 2 ^ (held - 8) % 256) 5 (by omega)
          have ex : ((L / 2 ^ (held - 8) % 256 : Nat) : Int) = (L : Int) / 2 ^ (held - 8) % 256 := by push_cast; rfl
          rw [ex] at hone
          have Hx := Lib.hid ex
          clear ex
          go_wp2_with (at_builtin; refine wpList_app1 _ rfl _ _ 23 rfl w2.heap.size _ 5 i0 (.int .u8 0) Tryd.underlying23 hi hz0 hz1b Hz2.out rfl _ out.length (vals out) rfl (hown.alloc _) _ 1 1 [L / 2 ^ (held - 8) % 256] rfl rfl (by omega) hone ?_ ?_ ?_; omega; (simp; omega); intro g2 cp2 w4 hown2 hgrow2)
          have hm : bits .and .u64 (L : Int) (IntKind.u64.wrap (IntKind.u64.wrap (2 ^ (held - 8)) - 1)) = ((L % 2 ^ (held - 8) : Nat) : Int) := by
            have e0 : (2 : Int) ^ (held - 8) = ((2 ^ (held - 8) : Nat) : Int) := by push_cast; rfl
            have hp : 2 ^ (held - 8) ≤ 2 ^ 30 := Nat.pow_le_pow_right (by omega) (by omega)
            have hp0 : 0 < 2 ^ (held - 8) := Nat.two_pow_pos _
            have e : (2 : Nat) ^ 30 = 1073741824 := by decide
            have e1 : IntKind.u64.wrap (IntKind.u64.wrap (2 ^ (held - 8)) - 1) = 2 ^ (held - 8) - 1 := by
              rw [e0]
              have e2 : IntKind.u64.wrap ((2 ^ (held - 8) : Nat) : Int) = ((2 ^ (held - 8) : Nat) : Int) := by rw [IntKind.wrap_u64]; omega
              rw [e2, IntKind.wrap_u64]; omega
            rw [e1, bits_mask .u64 64 (by decide) (fun n h0 h1 => by rw [IntKind.wrap_u64]; omega) (held - 8) (by omega) L (by omega) (by omega), e0]
            rfl
          go_roundw
          case rel =>
            refine ⟨some ⟨g2, 0, none⟩, cp2, L % 2 ^ (held - 8), held - 8, out ++ [L / 2 ^ (held - 8) % 256], ?_, ?_, ?_, by omega, ?_, ?_, ?_, ?_, ?_, ?_⟩
            · rw [List.length_append]; rfl
            · rw [hm]
            · refine congrArg (fun n => Value.int IntKind.i64 n) ?_; omega
            · exact Nat.lt_of_le_of_lt (Nat.mod_le _ _) hL
            · intro x hx
              rcases List.mem_append.1 hx with hx | hx
              · exact Hlt.out x hx
              · rw [List.mem_singleton.1 hx]; omega
            · show _ = _
              rw [H.nb_keep, H.bb_app, H.bb_one, List.append_assoc, ← H.nb_off held L h8]
              exact HX.out
            · rw [vals_append, List.length_append]; exact hown2
            · refine (HBr.out.alloc (by omega) _).grown hgrow2 (by simp; omega) (fun k e => ?_)
              cases a with
              | none => cases e
              | some ad =>
                rcases hown.2 with ⟨e1, _⟩ | ⟨g', cap, cur, e1, hb, _⟩
                · cases e1
                · cases e1; cases e; exact hb
            · have := hgrow2.size; simp at this; omega
          case measure => simp [intOf]; omega
        · go_wp2_with fail
          go_roundw
          case rel =>
            refine ⟨a, cp, L, held, k + 1, out, rfl, rfl, rfl, by go_num, by omega, by omega, hL, Hlt, HX, hown, HBr, hsr⟩
          case measure => simp [intOf]; omega
    · obtain rfl : k = s.size := by omega
      rw [List.take_of_length_le (by rw [by_len]; exact Nat.le_refl _)] at Hb
      by_cases h0 : held = 0
      · subst h0
        go_wp2_with fail
        go_ret
        obtain rfl := H.enc_of Hlt.out (k := 0) (by omega) (by rw [← Hb.out]; simp [H.nb])
        obtain ⟨hr, hcp⟩ := rd_own hown Hlt.out
        exact ⟨_, _, rfl, hr, hcp, HB.out.trans (HBr.out.mono hz2)⟩
      · go_upto_region 17 with (fail)
        have hlen : out.length ≤ 4 * s.size + 8 := by
          have h := congrArg List.length Hb.out
          rw [List.length_append, H.bb_len, H.nb_len] at h
          have h2 := (H.eb_bounds (by_ s)).2
          rw [by_len] at h2
          omega
        have h255 : 255 / 2 ^ held = 2 ^ (8 - held) - 1 := (show ∀ h, h ≤ 8 → 255 / 2 ^ h = 2 ^ (8 - h) - 1 by decide) held (by omega)
        have hV : bits .or .u8 (IntKind.u64.wrap ((last : Int) * 2 ^ (8 - held)) % 256) (255 / 2 ^ held) = (((last * 2 ^ (8 - held) % 256) ||| (2 ^ (8 - held) - 1) : Nat) : Int) := by
          have e0 : (2 : Int) ^ (8 - held) = ((2 ^ (8 - held) : Nat) : Int) := by push_cast; rfl
          have e1 : (255 : Int) / 2 ^ held = ((2 ^ (8 - held) - 1 : Nat) : Int) := by rw [← h255]; push_cast; rfl
          have hp : 2 ^ (8 - held) ≤ 2 ^ 8 := Nat.pow_le_pow_right (by omega) (by omega)
          have hp0 : 0 < 2 ^ (8 - held) := Nat.two_pow_pos _
          rw [show (2 : Nat) ^ 8 = 256 from by decide] at hp
          have hp1 : 2 ^ (8 - held) - 1 < 256 := by omega
          rw [e1, e0, ← Int.natCast_mul, IntKind.wrap_u64]
          generalize last * 2 ^ (8 - held) = q
          generalize 2 ^ (8 - held) - 1 = r at hp1
          have e2 : (q : Int) % 18446744073709551616 % 256 = ((q % 256 : Nat) : Int) := by omega
          rw [e2]
          exact u8_or_nat (q % 256) r (by omega) (by omega)
        have hX : (last * 2 ^ (8 - held) % 256) ||| (2 ^ (8 - held) - 1) < 256 := by
          refine Nat.or_lt_two_pow (n := 8) (show _ < 256 by omega) ?_
          have hp : 2 ^ (8 - held) ≤ 2 ^ 8 := Nat.pow_le_pow_right (by omega) (by omega)
          have hp0 : 0 < 2 ^ (8 - held) := Nat.two_pow_pos _
          omega
        have HF : Hid (H.bb (out ++ [(last * 2 ^ (8 - held) % 256) ||| (2 ^ (8 - held) - 1)]) = H.eb (by_ s) ++ List.replicate (8 - held) true) := by
          show _ = _
          rw [H.bb_app, H.bb_one, H.nb_last held last (by omega), ← List.append_assoc, Hb.out]
        have hone := Rd.one wr ((last * 2 ^ (8 - held) % 256) ||| (2 ^ (8 - held) - 1)) 5 hX
        rw [← hV] at hone
        generalize (last * 2 ^ (8 - held) % 256) ||| (2 ^ (8 - held) - 1) = X at *
        have HV := Lib.hid hV
        clear hV h255
        go_wp2_with (at_builtin; refine wpList_app1 _ rfl _ _ 23 rfl w2.heap.size _ 5 i0 (.int .u8 0) Tryd.underlying23 hi hz0 hz1b Hz2.out rfl _ out.length (vals out) rfl (hown.alloc _) _ 1 1 [X] rfl rfl (by omega) hone ?_ ?_ ?_; omega; (simp; omega); intro g2 cp2 w4 hown2 hgrow2)
        go_ret
        have hl2 := lt_app (r := [X]) Hlt.out (by simpa using hX)
        have he := H.enc_of (t := by_ s) (out := out ++ [X]) hl2 (k := 8 - held) (by omega) HF.out
        rw [← he]
        obtain ⟨hr, hcp⟩ := rd_own (B := w2.heap.size) (w := w4) (a := some ⟨g2, 0, none⟩) (cp := cp2) (l := out ++ [X]) (by rw [vals_append, List.length_append]; exact hown2) hl2
        refine ⟨some ⟨g2, 0, none⟩, cp2, by rw [List.length_append]; rfl, hr, hcp, HB.out.trans (Below.mono ?_ hz2)⟩
        refine (HBr.out.alloc (by omega) _).grown hgrow2 (by simp; omega) (fun k e => ?_)
        cases a with
        | none => cases e
        | some ad =>
          rcases hown.2 with ⟨e1, _⟩ | ⟨g', cap, cur, e1, hb, _⟩
          · cases e1
          · cases e1; cases e; exact hb
end Go.Proofs.YtoihbpclfmlokaaDoor
