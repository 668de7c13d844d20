/-
The walks of parleyref2's small functions and of its Codes.
-/
import Derived.Deep.CutBlock
import Derived.Test.YtcbljbdcnahfhaaDoorMhm
import Derived.Test.YtcbljbdcnahfhaaDoorMga
import Derived.Test.YtcbljbdcnahfhaaDoorMha
/- Href -/
namespace Go.Proofs.YtcbljbdcnahfhaaDoor
open Go.RowKit

/-- The letters: a for five bits. -/
def LetS (S : ByteArray) : Prop := S.size = 257 ∧ ∀ i (h : i < S.size), S[i].toNat = 92 + H.b i

set_option maxRecDepth 100000 in
set_option maxHeartbeats 1000000 in
theorem lengths_ex : ∃ S, LetS S ∧ ∀ w, Calls Tryd.prog 65 #[] w fun e w' => e = .returned (.string S) ∧ w = w' := by
  apply Exists.intro
  apply And.intro
  rotate_left
  · intro w
    go_enter Tryd.func65, Tryd.ntmps65
    go_wp2
    go_ret
    exact ⟨rfl, rfl⟩
  · unfold LetS
    decide +kernel

set_option maxHeartbeats 400000 in
theorem rSize_any (s : ByteArray) (w : World) (hs : s.size ≤ 140737488355328) : Calls Tryd.prog 44 #[.string s] w fun e w' => e = .returned (.int .i64 (H.sz (by_ s))) ∧ w = w' := by
  obtain ⟨S, hS, hL⟩ := lengths_ex
  have HL := Lib.hid hL
  have h1 : 257 ≤ S.size := by rw [hS.1]; exact Nat.le_refl _
  have HS := Lib.hid hS
  clear hL hS
  go_enter Tryd.func44, Tryd.ntmps44
  go_wp2_with (go_at_call 65; refine (HL.out _).mono ?_; rintro e w1 ⟨rfl, rfl⟩)
  go_loop [3, 5] (fun n i => ∃ k : Nat, k ≤ s.size ∧ i = .int .i64 k ∧ n = .int .i64 ((H.eb ((by_ s).take k)).length : Nat)) (fun _ i => s.size - (intOf i).toNat)
  case atStart => exact ⟨0, Nat.zero_le _, rfl, rfl⟩
  case round =>
    obtain ⟨k, hk, rfl, rfl⟩ := hrel
    have hbd := (H.eb_bounds ((by_ s).take k)).2
    have hl : ((by_ s).take k).length ≤ k := List.length_take_le _ _
    have hbd2 : (H.eb ((by_ s).take k)).length ≤ 30 * k := by omega
    by_cases hlt : k < s.size
    · have hSc := eb_take_succ (by_ s) k (by rw [by_len]; exact hlt)
      rw [by_get s k hlt] at hSc
      have Hc := Lib.hid hSc
      have hc : s[k].toNat < 256 := s[k].toNat_lt
      have h2 := HS.out.2 s[k].toNat (by omega)
      have hb := H.b_bounds s[k].toNat
      have Hy := Lib.hid h2
      have hy1 : 97 ≤ S[s[k].toNat].toNat := by omega
      have hy2 : S[s[k].toNat].toNat ≤ 122 := by omega
      generalize (H.eb ((by_ s).take k)).length = L at *
      clear hbd hl h2 hSc
      go_wp2
      go_round
      case rel =>
        refine ⟨k + 1, by omega, by go_num, ?_⟩
        rw [Hc.out]
        refine congrArg (fun n => Value.int IntKind.i64 n) ?_
        have := Hy.out
        omega
      case measure => simp [intOf]; omega
    · obtain rfl : k = s.size := by omega
      go_wp2
      go_ret
      refine ⟨?_, rfl⟩
      rw [List.take_of_length_le (by rw [by_len]; exact Nat.le_refl _)]
      refine congrArg (fun n => Ending.returned (Value.int IntKind.i64 n)) ?_
      unfold H.sz
      omega

def zc32 : List Value := List.replicate 257 (.int .u32 0)
theorem run_make_codes (w : World) : (Instr.makeSlice 109 (.int .i64 257) (.int .i64 257)).run Tryd.prog w = .ok (.slice (some ⟨w.heap.size, 0, none⟩) 257 257) (w.alloc (.cells zc32.toArray 111)) := by kernel_rfl
end Go.Proofs.YtcbljbdcnahfhaaDoor
/- Hrefb -/
namespace Go.Proofs.YtcbljbdcnahfhaaDoor
open Go.RowKit

/-- What Codes hands back: a slice of its own of all codes. -/
def CodesOut (w : World) (e : Ending) (w' : World) : Prop := ∃ g, e = .returned (.slice (some ⟨g, 0, none⟩) 257 257) ∧ w.heap.size ≤ g ∧ Blk w' g 257 (fun j => .int .u32 (H.cod j : Nat)) ∧ Below w.heap.size w w'

def cF (m i : Nat) (j : Nat) : Value := .int .u32 ((if H.b j < m ∨ (H.b j = m ∧ j < i) then H.cod j else 0 : Nat) : Int)

theorem cF_hit {m k : Nat} (h : H.b k = m) (j : Nat) : (if j = k then Value.int .u32 (H.cod k : Nat) else cF m k j) = cF m (k + 1) j := by
  unfold cF
  by_cases e : j = k
  · rw [if_pos e, e, if_pos (Or.inr ⟨h, by omega⟩)]
  · rw [if_neg e]
    by_cases e2 : H.b j < m ∨ (H.b j = m ∧ j < k)
    · rw [if_pos e2, if_pos (by omega)]
    · rw [if_neg e2, if_neg (by omega)]
theorem cF_miss {m k : Nat} (h : H.b k ≠ m) (j : Nat) : cF m k j = cF m (k + 1) j := by
  unfold cF
  by_cases e2 : H.b j < m ∨ (H.b j = m ∧ j < k)
  · rw [if_pos e2, if_pos (by omega)]
  · rw [if_neg e2, if_neg fun h3 => e2 (by
      rcases h3 with h3 | ⟨h3, h4⟩
      · exact Or.inl h3
      · refine Or.inr ⟨h3, ?_⟩
        rcases Nat.lt_or_ge j k with h5 | h5
        · exact h5
        · obtain rfl : j = k := by omega
          exact absurd h3 h)]
theorem cF_next (m j : Nat) (hj : j < 257) : cF m 257 j = cF (m + 1) 0 j := by
  unfold cF
  by_cases e : H.b j < m ∨ (H.b j = m ∧ j < 257)
  · rw [if_pos e, if_pos (by omega)]
  · rw [if_neg e, if_neg (by omega)]
theorem cF_all (j : Nat) : cF 31 0 j = .int .u32 (H.cod j : Nat) := by
  unfold cF
  rw [if_pos (Or.inl (by have := (H.b_bounds j).2; omega))]

set_option maxRecDepth 100000 in
set_option maxHeartbeats 1000000 in
theorem codes_any (w : World) : Calls Tryd.prog 66 #[] w (CodesOut w) := by
  obtain ⟨S, hS, hL⟩ := lengths_ex
  have HL := Lib.hid hL
  have h1 : 257 ≤ S.size := by rw [hS.1]; exact Nat.le_refl _
  have HS := Lib.hid hS
  clear hL hS
  go_enter Tryd.func66, Tryd.ntmps66
  go_upto_region 1 with (fail)
  go_step
  refine wpList_make_big rfl 109 _ _ rfl _ _ (run_make_codes w) ?_
  have hnew := Blk.new w zc32.toArray 111 (cF 5 0) (fun j hj => by
    have hj2 : j < 257 := by simpa [zc32] using hj
    rw [List.getElem?_toArray, zc32, List.getElem?_replicate, if_pos hj2]
    unfold cF
    rw [if_neg (by have := (H.b_bounds j).1; omega)]
    rfl)
  rw [show zc32.toArray.size = 257 from by simp [zc32]] at hnew
  have HN := Lib.hid hnew
  have HB : Hid (Below w.heap.size w (w.alloc (.cells zc32.toArray 111))) := (Below.refl _ _).alloc (Nat.le_refl _) _
  clear hnew
  generalize w.alloc (.cells zc32.toArray 111) = w1 at *
  generalize hg : w.heap.size = g at *
  have Hg := Lib.hid hg
  clear hg
  go_wp2_with (go_at_call 65; refine (HL.out _).mono ?_; rintro e w1 ⟨rfl, rfl⟩)
  go_loopw [3, 4] (fun c i wr => ∃ m : Nat, 4 ≤ m ∧ m ≤ 30 ∧ i = .int .i64 ((m : Int) + 1) ∧ c = .int .u32 ((H.first m + H.cnt m 257 : Nat) : Int) ∧ Hid (Blk wr g 257 (cF (m + 1) 0)) ∧ Hid (Below g w wr)) (fun _ i _ => 31 - (intOf i).toNat)
  case atStart => exact ⟨4, by omega, by omega, rfl, by rw [H.first5 4 (by omega)]; rfl, HN, HB⟩
  case round =>
    obtain ⟨m, hm4, hm, rfl, rfl, HN, HB⟩ := hrel
    have hfc := H.first_cnt m hm
    by_cases hlt : m < 30
    · have hfirst : Hid (H.first (m + 1) = (H.first m + H.cnt m 257) * 2) := rfl
      have hle : (H.first m + H.cnt m 257) * 2 + 300 < 4294967296 := by
        have h2 : 2 ^ m ≤ 2 ^ 30 := Nat.pow_le_pow_right (by omega) (by omega)
        have e : (2 : Nat) ^ 30 = 1073741824 := by decide
        omega
      generalize H.first m + H.cnt m 257 = f at *
      clear hfc
      have hd9 : decide ((m : Int) + 1 ≤ 30) = true := by simp; omega
      go_wp2
      go_loopw [3, 5] (fun c i wr => ∃ k : Nat, k ≤ 257 ∧ i = .int .i64 k ∧ c = .int .u32 ((f * 2 + H.cnt (m + 1) k : Nat) : Int) ∧ Hid (Blk wr g 257 (cF (m + 1) k)) ∧ Hid (Below g w wr)) (fun _ i _ => 257 - (intOf i).toNat)
      case atStart => exact ⟨0, by omega, rfl, by simp [H.cnt], HN, HB⟩
      case round =>
        clear HN HB
        obtain ⟨k, hk, rfl, rfl, HN, HB⟩ := hrel
        by_cases hk2 : k < 257
        · have h2 := HS.out.2 k (by omega)
          have hb := H.b_bounds k
          have Hy := Lib.hid h2
          have hy1 : 97 ≤ S[k].toNat := by omega
          have hy2 : S[k].toNat ≤ 122 := by omega
          have hcn := H.cnt_le (m + 1) k
          have hcs : Hid (H.cnt (m + 1) (k + 1) = H.cnt (m + 1) k + if H.b k = m + 1 then 1 else 0) := rfl
          obtain ⟨c1, c2⟩ := HN.out k hk2
          by_cases heq : H.b k = m + 1
          · have hcod : Hid (H.cod k = f * 2 + H.cnt (m + 1) k) := by
              show H.first (H.b k) + H.cnt (H.b k) k = _
              rw [heq, hfirst.out]
            have he : (S[k].toNat : Int) = (m : Int) + 93 := by omega
            rw [if_pos heq] at hcs
            generalize H.cnt (m + 1) k = q at *
            clear h2
            go_wp2
            go_roundw
            case rel =>
              refine ⟨k + 1, by omega, by go_num, ?_, ?_, ?_⟩
              · rw [hcs.out]
                refine congrArg (fun n => Value.int IntKind.u32 n) ?_
                omega
              · rw [show ((f : Int) * 2 + q) = ((f * 2 + q : Nat) : Int) from by omega, ← hcod.out]
                exact (HN.out.set hk2 _).ext fun j _ => cF_hit heq j
              · exact HB.out.setCell (by exact Nat.le_refl _) _
            case measure => simp [intOf]; omega
          · have he : ¬ (S[k].toNat : Int) = (m : Int) + 93 := by omega
            rw [if_neg heq] at hcs
            have hne : ((S[k].toNat : Int) - 97 + 5 == (m : Int) + 1) = false := by simp; omega
            generalize H.cnt (m + 1) k = q at *
            clear h2 c1 c2
            go_wp2
            go_roundw
            case rel =>
              refine ⟨k + 1, by omega, by go_num, ?_, ?_, HB⟩
              · rw [hcs.out]; rfl
              · exact HN.out.ext fun j _ => cF_miss heq j
            case measure => simp [intOf]; omega
        · obtain rfl : k = 257 := by omega
          have HN2 : Hid (Blk wr g 257 (cF (m + 1 + 1) 0)) := HN.out.ext fun j hj => cF_next (m + 1) j hj
          clear HN
          have hcn := H.cnt_le (m + 1) 257
          go_wp2
          go_roundw
          case rel =>
            refine ⟨m + 1, by omega, by omega, by go_num, ?_, HN2, HB⟩
            rw [hfirst.out]
          case measure => simp [intOf]; omega
    · obtain rfl : m = 30 := by omega
      have HN2 : Hid (Blk wr g 257 (fun j => .int .u32 (H.cod j : Nat))) := HN.out.ext fun j _ => cF_all j
      clear HN
      go_wp2
      go_ret
      exact ⟨g, rfl, by rw [Hg.out]; exact Nat.le_refl _, HN2.out, by rw [Hg.out]; exact HB.out⟩
end Go.Proofs.YtcbljbdcnahfhaaDoor
/- Hrefd -/
namespace Go.Proofs.YtcbljbdcnahfhaaDoor
open Go.RowKit

def rsymV : Option Nat → Int
  | none => -1
  | some i => (i : Nat)

set_option maxRecDepth 100000 in
set_option maxHeartbeats 400000 in
theorem rsymbol_any (S : ByteArray) (hS : LetS S) (g c n : Nat) (w : World) (hB : Blk w g 257 (fun j => .int .u32 (H.cod j : Nat))) (_hn : n ≤ 4294967296) :
    Calls Tryd.prog 70 #[.slice (some ⟨g, 0, none⟩) 257 257, .string S, .int .u32 c, .int .i64 n] w fun e w' => e = .returned (.int .i64 (rsymV (H.sym c n))) ∧ w = w' := by
  have h1 : 257 ≤ S.size := by rw [hS.1]; exact Nat.le_refl _
  have HS := Lib.hid hS
  have HB := Lib.hid hB
  clear hS hB
  go_enter Tryd.func70, Tryd.ntmps70
  go_wp2
  go_loop [9] (fun i => ∃ k : Nat, k ≤ 257 ∧ i = .int .i64 k ∧ Hid (∀ j, j < k → ¬ (H.b j = n ∧ H.cod j = c))) (fun i => 257 - (intOf i).toNat)
  case atStart => exact ⟨0, by omega, rfl, fun j hj => by omega⟩
  case round =>
    obtain ⟨k, hk, rfl, HN⟩ := hrel
    by_cases hlt : k < 257
    · have c1 : w.cell? ⟨g, k, none⟩ = some (.int .u32 (H.cod k : Nat)) := (HB.out k hlt).1
      have h2 := HS.out.2 k (by omega)
      have hb := H.b_bounds k
      have Hy := Lib.hid h2
      have hy1 : 97 ≤ S[k].toNat := by omega
      have hy2 : S[k].toNat ≤ 122 := by omega
      by_cases hc : H.cod k = c
      · have hq : ((H.cod k : Int) == (c : Int)) = true := by simp; omega
        by_cases heq : H.b k = n
        · have HV : Hid (H.sym c n = some k) := by
            show _ = _
            rw [← hc, ← heq]
            exact H.sym_mk hlt
          have he : ((S[k].toNat : Int) - 97 + 5 == (n : Int)) = true := by simp; omega
          clear h2 hc heq
          generalize H.cod k = d at *
          go_wp2
          go_ret
          refine ⟨?_, rfl⟩
          rw [HV.out]
          rfl
        · have he : ((S[k].toNat : Int) - 97 + 5 == (n : Int)) = false := by simp; omega
          have HN2 : Hid (∀ j, j < k + 1 → ¬ (H.b j = n ∧ H.cod j = c)) := fun j hj h => by
            rcases Nat.lt_or_ge j k with h5 | h5
            · exact HN.out j h5 h
            · obtain rfl : j = k := by omega
              exact heq h.1
          clear h2 hc
          generalize H.cod k = d at *
          go_wp2
          go_round
          case rel => exact ⟨k + 1, by omega, by go_num, HN2⟩
          case measure => simp [intOf]; omega
      · have hq : ((H.cod k : Int) == (c : Int)) = false := by simp; omega
        have HN2 : Hid (∀ j, j < k + 1 → ¬ (H.b j = n ∧ H.cod j = c)) := fun j hj h => by
          rcases Nat.lt_or_ge j k with h5 | h5
          · exact HN.out j h5 h
          · obtain rfl : j = k := by omega
            exact hc h.2
        clear h2 hc
        generalize H.cod k = d at *
        go_wp2
        go_round
        case rel => exact ⟨k + 1, by omega, by go_num, HN2⟩
        case measure => simp [intOf]; omega
    · obtain rfl : k = 257 := by omega
      have HV : Hid (H.sym c n = none) := by
        show _ = _
        cases hs : H.sym c n with
        | none => rfl
        | some j =>
          obtain ⟨a, b, d⟩ := H.sym_some hs
          exact absurd ⟨b, d⟩ (HN.out j a)
      go_wp2
      go_ret
      refine ⟨?_, rfl⟩
      rw [HV.out]
      rfl
end Go.Proofs.YtcbljbdcnahfhaaDoor
/- Hrefe -/
namespace Go.Proofs.YtcbljbdcnahfhaaDoor
open Go.RowKit

/-- A slice, nil or not, that reads as the bytes l. -/
def ReadPost (l : List Nat) (w : World) (e : Ending) (w' : World) : Prop := ∃ a cp, e = .returned (.slice a l.length cp) ∧ Rd w'.heap.size w' a l ∧ l.length ≤ cp ∧ Below w.heap.size w w'

theorem rd_own {B : Nat} {w : World} {a : Option Addr} {cp : Nat} {l : List Nat} (h : w.ownsRow B 5 1 (.slice a l.length cp) l.length (vals l)) (hl : ∀ x ∈ l, x < 256) : Rd w.heap.size w a l ∧ l.length ≤ cp := by
  rcases h.2 with ⟨e, e2⟩ | ⟨g, cap, cur, e, _⟩
  · injection e with e1 e3 e4
    have : l = [] := List.length_eq_zero_iff.1 e3
    subst this
    exact ⟨Rd.nil _ _ _, Nat.zero_le _⟩
  · cases e
    obtain ⟨a', cp', e2, h2, h3⟩ := Own.rd (v := .slice (some ⟨g, 0, none⟩) l.length cp) ⟨h, g, cp, rfl⟩ hl
    cases e2
    exact ⟨h3, h2⟩

set_option maxRecDepth 100000 in
set_option maxHeartbeats 1000000 in
theorem rEncode_any (s : ByteArray) (w : World) (hs : s.size ≤ 1000000000) : Calls Tryd.prog 45 #[.string s] w (ReadPost (H.enc (by_ s)) w) := by
  obtain ⟨S, hS, hL⟩ := lengths_ex
  have HL := Lib.hid hL
  have h1 : 257 ≤ S.size := by rw [hS.1]; exact Nat.le_refl _
  have HS := Lib.hid hS
  clear hL hS
  obtain ⟨i0, hi, hz0, hz1b, hz2⟩ := info_parts info5
  have Hz2 := Lib.hid hz2
  clear hz2
  go_enter Tryd.func45, Tryd.ntmps45
  go_wp2_with (first | (go_at_call 65; refine (HL.out _).mono ?_; rintro e w1 ⟨rfl, rfl⟩) | (go_at_call 66; refine (codes_any _).mono ?_; rintro e w2 ⟨g, rfl, hg, hbk, hb2⟩; have HBk := Lib.hid hbk; have HB := Lib.hid hb2; have hgs := hbk.lt (by omega); have hz2 := hb2.size; clear hbk hb2))
  go_loopw [5, 6, 7, 8] (fun v x h i wr => ∃ (a : Option Addr) (cp last held k : Nat) (out : List Nat), v = .slice a out.length cp ∧ x = .int .u64 last ∧ h = .int .i64 held ∧ i = .int .i64 k ∧ k ≤ s.size ∧ held ≤ 7 ∧ last < 18446744073709551616 ∧ Hid (∀ x ∈ out, x < 256) ∧ Hid (H.bb out ++ H.nb held last = H.eb ((by_ s).take k)) ∧
      wr.ownsRow w2.heap.size 5 1 (.slice a out.length cp) out.length (vals out) ∧ Hid (Below w2.heap.size w2 wr) ∧ w2.heap.size ≤ wr.heap.size) (fun _ _ _ i _ => s.size - (intOf i).toNat)
  case atStart =>
    refine ⟨none, 0, 0, 0, 0, [], rfl, rfl, rfl, rfl, Nat.zero_le _, by omega, by omega, by intro x hx; simp at hx, rfl, World.ownsRow_nil _ _ _ _, Below.refl _ _, Nat.le_refl _⟩
  case round =>
    obtain ⟨a, cp, last, held, k, out, rfl, rfl, rfl, rfl, hk, hh, hl, Hlt, Hb, hown, HBr, hsr⟩ := hrel
    by_cases hlt : k < s.size
    · have HS2 : Hid (H.eb ((by_ s).take (k + 1)) = H.eb ((by_ s).take k) ++ H.nb (H.b s[k].toNat) (H.cod s[k].toNat)) := by
        show _ = _
        have hk1 : k < (by_ s).length := by rw [by_len]; exact hlt
        have hg := by_get s k hlt
        rw [List.getD_eq_getElem?_getD, List.getElem?_eq_getElem hk1] at hg
        rw [List.take_succ_eq_append_getElem hk1, H.eb_app, H.eb_one]
        rw [show (by_ s)[k] = s[k].toNat from hg]
      have hc : s[k].toNat < 256 := s[k].toNat_lt
      have hcc : wr.cell? ⟨g, s[k].toNat, none⟩ = some (.int .u32 (H.cod s[k].toNat : Nat)) := (Blk.belowB HBk.out HBr.out hgs s[k].toNat (by omega)).1
      have hbb := H.b_bounds s[k].toNat
      have Hcl := Lib.hid (H.cod_lt s[k].toNat (by omega))
      have hcl := H.cod_lt32 s[k].toNat (by omega)
      have h2 := HS.out.2 s[k].toNat (by omega)
      generalize H.b s[k].toNat = n at *
      generalize H.cod s[k].toNat = c at *
      have Hor := Lib.hid (H.lay_or last n c (by omega) Hcl.out)
      have k0 : (0 : Int) ≤ (s[k].toNat : Int) := by omega
      have k1 : (s[k].toNat : Int) < 257 := by omega
      have hy1 : 97 ≤ S[s[k].toNat].toNat := by omega
      have hy2 : S[s[k].toNat].toNat ≤ 122 := by omega
      have hval : ((S[s[k].toNat].toNat : Int) - 97 + 5) = (n : Int) := by omega
      clear h2
      go_upto_block 2 with (fail)
      have hor : bits .or .u64 (IntKind.u64.wrap ((last : Int) * 2 ^ n)) (c : Int) = ((last * 2 ^ n % 18446744073709551616 + c : Nat) : Int) := by
        have e1 : IntKind.u64.wrap ((last : Int) * 2 ^ n) = ((last * 2 ^ n % 18446744073709551616 : Nat) : Int) := by
          have e0 : (2 : Int) ^ n = ((2 ^ n : Nat) : Int) := by push_cast; rfl
          rw [IntKind.wrap_u64, e0, ← Int.natCast_mul]
          generalize last * 2 ^ n = q
          omega
        rw [e1, u64_or_nat _ _ (by omega) (by omega), Hor.out]
      rw [hor]
      have hL : last * 2 ^ n % 18446744073709551616 + c < 18446744073709551616 := by
        rw [← Hor.out]
        exact Nat.or_lt_two_pow (n := 64) (show _ < 2 ^ 64 by omega) (show _ < 2 ^ 64 by omega)
      have HX : Hid (H.bb out ++ H.nb (held + n) (last * 2 ^ n % 18446744073709551616 + c) = H.eb ((by_ s).take (k + 1))) := by
        show _ = _
        rw [H.nb_lay held n last c (by omega) Hcl.out, HS2.out, ← Hb.out, List.append_assoc]
      clear hor Hor Hcl HS2 Hb hval hcc
      generalize last * 2 ^ n % 18446744073709551616 + c = L at *
      rw [show ((held : Int) + (n : Int)) = ((held + n : Nat) : Int) from by omega]
      have hHn : held + n ≤ 37 := by omega
      generalize held + n = hd at *
      go_step
      go_loopw [5, 6, 7] (fun v x h wq => ∃ (a : Option Addr) (cp L held : Nat) (out : List Nat), v = .slice a out.length cp ∧ x = .int .u64 L ∧ h = .int .i64 held ∧ held ≤ 37 ∧ L < 18446744073709551616 ∧ Hid (∀ x ∈ out, x < 256) ∧ Hid (H.bb out ++ H.nb held L = H.eb ((by_ s).take (k + 1))) ∧
        wq.ownsRow w2.heap.size 5 1 (.slice a out.length cp) out.length (vals out) ∧ Hid (Below w2.heap.size w2 wq) ∧ w2.heap.size ≤ wq.heap.size) (fun _ _ h _ => (intOf h).toNat)
      case atStart => exact ⟨a, cp, L, hd, out, rfl, rfl, rfl, hHn, hL, Hlt, HX, hown, HBr, hsr⟩
      case round =>
        clear hown HBr hsr Hlt HX hHn hL
        obtain ⟨a, cp, L, held, out, rfl, rfl, rfl, hh, hL, Hlt, HX, hown, HBr, hsr⟩ := hrel
        by_cases h8 : 8 ≤ held
        · have hlen : out.length ≤ 4 * s.size + 8 := by
            have h := congrArg List.length HX.out
            rw [List.length_append, H.bb_len, H.nb_len] at h
            have h2 := (H.eb_bounds ((by_ s).take (k + 1))).2
            have h3 : ((by_ s).take (k + 1)).length ≤ s.size := by rw [List.length_take, by_len]; omega
            omega
          have hone := Rd.one wr (L / 2 ^ (held - 8) % 256) 5 (by omega)
          have ex : ((L / 2 ^ (held - 8) % 256 : Nat) : Int) = (L : Int) / 2 ^ (held - 8) % 256 := by push_cast; rfl
          rw [ex] at hone
          have Hx := Lib.hid ex
          clear ex
          go_wp2_with (at_builtin; refine wpList_app1 _ rfl _ _ 22 rfl w2.heap.size _ 5 i0 (.int .u8 0) Tryd.underlying22 hi hz0 hz1b Hz2.out rfl _ out.length (vals out) rfl (hown.alloc _) _ 1 1 [L / 2 ^ (held - 8) % 256] rfl rfl (by omega) hone ?_ ?_ ?_; omega; (simp; omega); intro g2 cp2 w4 hown2 hgrow2)
          have hm : bits .and .u64 (L : Int) (IntKind.u64.wrap (IntKind.u64.wrap (2 ^ (held - 8)) - 1)) = ((L % 2 ^ (held - 8) : Nat) : Int) := by
            have e0 : (2 : Int) ^ (held - 8) = ((2 ^ (held - 8) : Nat) : Int) := by push_cast; rfl
            have hp : 2 ^ (held - 8) ≤ 2 ^ 30 := Nat.pow_le_pow_right (by omega) (by omega)
            have hp0 : 0 < 2 ^ (held - 8) := Nat.two_pow_pos _
            have e : (2 : Nat) ^ 30 = 1073741824 := by decide
            have e1 : IntKind.u64.wrap (IntKind.u64.wrap (2 ^ (held - 8)) - 1) = 2 ^ (held - 8) - 1 := by
              rw [e0]
              have e2 : IntKind.u64.wrap ((2 ^ (held - 8) : Nat) : Int) = ((2 ^ (held - 8) : Nat) : Int) := by rw [IntKind.wrap_u64]; omega
              rw [e2, IntKind.wrap_u64]; omega
            rw [e1, bits_mask .u64 64 (by decide) (fun n h0 h1 => by rw [IntKind.wrap_u64]; omega) (held - 8) (by omega) L (by omega) (by omega), e0]
            rfl
          go_roundw
          case rel =>
            refine ⟨some ⟨g2, 0, none⟩, cp2, L % 2 ^ (held - 8), held - 8, out ++ [L / 2 ^ (held - 8) % 256], ?_, ?_, ?_, by omega, ?_, ?_, ?_, ?_, ?_, ?_⟩
            · rw [List.length_append]; rfl
            · rw [hm]
            · refine congrArg (fun n => Value.int IntKind.i64 n) ?_; omega
            · exact Nat.lt_of_le_of_lt (Nat.mod_le _ _) hL
            · intro x hx
              rcases List.mem_append.1 hx with hx | hx
              · exact Hlt.out x hx
              · rw [List.mem_singleton.1 hx]; omega
            · show _ = _
              rw [H.nb_keep, H.bb_app, H.bb_one, List.append_assoc, ← H.nb_off held L h8]
              exact HX.out
            · rw [vals_append, List.length_append]; exact hown2
            · refine (HBr.out.alloc (by omega) _).grown hgrow2 (by simp; omega) (fun k e => ?_)
              cases a with
              | none => cases e
              | some ad =>
                rcases hown.2 with ⟨e1, _⟩ | ⟨g', cap, cur, e1, hb, _⟩
                · cases e1
                · cases e1; cases e; exact hb
            · have := hgrow2.size; simp at this; omega
          case measure => simp [intOf]; omega
        · go_wp2_with fail
          go_roundw
          case rel =>
            refine ⟨a, cp, L, held, k + 1, out, rfl, rfl, rfl, by go_num, by omega, by omega, hL, Hlt, HX, hown, HBr, hsr⟩
          case measure => simp [intOf]; omega
    · obtain rfl : k = s.size := by omega
      rw [List.take_of_length_le (by rw [by_len]; exact Nat.le_refl _)] at Hb
      by_cases h0 : held = 0
      · subst h0
        go_wp2_with fail
        go_ret
        obtain rfl := H.enc_of Hlt.out (k := 0) (by omega) (by rw [← Hb.out]; simp [H.nb])
        obtain ⟨hr, hcp⟩ := rd_own hown Hlt.out
        exact ⟨_, _, rfl, hr, hcp, HB.out.trans (HBr.out.mono hz2)⟩
      · go_upto_region 17 with (fail)
        have hlen : out.length ≤ 4 * s.size + 8 := by
          have h := congrArg List.length Hb.out
          rw [List.length_append, H.bb_len, H.nb_len] at h
          have h2 := (H.eb_bounds (by_ s)).2
          rw [by_len] at h2
          omega
        have h255 : 255 / 2 ^ held = 2 ^ (8 - held) - 1 := (show ∀ h, h ≤ 8 → 255 / 2 ^ h = 2 ^ (8 - h) - 1 by decide) held (by omega)
        have hV : bits .or .u8 (IntKind.u64.wrap ((last : Int) * 2 ^ (8 - held)) % 256) (255 / 2 ^ held) = (((last * 2 ^ (8 - held) % 256) ||| (2 ^ (8 - held) - 1) : Nat) : Int) := by
          have e0 : (2 : Int) ^ (8 - held) = ((2 ^ (8 - held) : Nat) : Int) := by push_cast; rfl
          have e1 : (255 : Int) / 2 ^ held = ((2 ^ (8 - held) - 1 : Nat) : Int) := by rw [← h255]; push_cast; rfl
          have hp : 2 ^ (8 - held) ≤ 2 ^ 8 := Nat.pow_le_pow_right (by omega) (by omega)
          have hp0 : 0 < 2 ^ (8 - held) := Nat.two_pow_pos _
          rw [show (2 : Nat) ^ 8 = 256 from by decide] at hp
          have hp1 : 2 ^ (8 - held) - 1 < 256 := by omega
          rw [e1, e0, ← Int.natCast_mul, IntKind.wrap_u64]
          generalize last * 2 ^ (8 - held) = q
          generalize 2 ^ (8 - held) - 1 = r at hp1
          have e2 : (q : Int) % 18446744073709551616 % 256 = ((q % 256 : Nat) : Int) := by omega
          rw [e2]
          exact u8_or_nat (q % 256) r (by omega) (by omega)
        have hX : (last * 2 ^ (8 - held) % 256) ||| (2 ^ (8 - held) - 1) < 256 := by
          refine Nat.or_lt_two_pow (n := 8) (show _ < 256 by omega) ?_
          have hp : 2 ^ (8 - held) ≤ 2 ^ 8 := Nat.pow_le_pow_right (by omega) (by omega)
          have hp0 : 0 < 2 ^ (8 - held) := Nat.two_pow_pos _
          omega
        have HF : Hid (H.bb (out ++ [(last * 2 ^ (8 - held) % 256) ||| (2 ^ (8 - held) - 1)]) = H.eb (by_ s) ++ List.replicate (8 - held) true) := by
          show _ = _
          rw [H.bb_app, H.bb_one, H.nb_last held last (by omega), ← List.append_assoc, Hb.out]
        have hone := Rd.one wr ((last * 2 ^ (8 - held) % 256) ||| (2 ^ (8 - held) - 1)) 5 hX
        rw [← hV] at hone
        generalize (last * 2 ^ (8 - held) % 256) ||| (2 ^ (8 - held) - 1) = X at *
        have HV := Lib.hid hV
        clear hV h255
        go_wp2_with (at_builtin; refine wpList_app1 _ rfl _ _ 22 rfl w2.heap.size _ 5 i0 (.int .u8 0) Tryd.underlying22 hi hz0 hz1b Hz2.out rfl _ out.length (vals out) rfl (hown.alloc _) _ 1 1 [X] rfl rfl (by omega) hone ?_ ?_ ?_; omega; (simp; omega); intro g2 cp2 w4 hown2 hgrow2)
        go_ret
        have hl2 := lt_app (r := [X]) Hlt.out (by simpa using hX)
        have he := H.enc_of (t := by_ s) (out := out ++ [X]) hl2 (k := 8 - held) (by omega) HF.out
        rw [← he]
        obtain ⟨hr, hcp⟩ := rd_own (B := w2.heap.size) (w := w4) (a := some ⟨g2, 0, none⟩) (cp := cp2) (l := out ++ [X]) (by rw [vals_append, List.length_append]; exact hown2) hl2
        refine ⟨some ⟨g2, 0, none⟩, cp2, by rw [List.length_append]; rfl, hr, hcp, HB.out.trans (Below.mono ?_ hz2)⟩
        refine (HBr.out.alloc (by omega) _).grown hgrow2 (by simp; omega) (fun k e => ?_)
        cases a with
        | none => cases e
        | some ad =>
          rcases hown.2 with ⟨e1, _⟩ | ⟨g', cap, cur, e1, hb, _⟩
          · cases e1
          · cases e1; cases e; exact hb
end Go.Proofs.YtcbljbdcnahfhaaDoor
/- Hreff -/
namespace Go.Proofs.YtcbljbdcnahfhaaDoor
open Go.RowKit

/-- What parleyref2's Decode hands back. -/
def RDecOut (l : List Nat) (w : World) (e : Ending) (w' : World) : Prop :=
  Below w.heap.size w w' ∧ e = .returned (match H.decB l with
    | some t => .tuple #[.string (strOf t), .int .i64 0]
    | none => .tuple #[.string ⟨#[]⟩, .int .i64 107])

theorem ones_step (c n x : Nat) (hx : x < 2) : (c * 2 + x = 2 ^ (n + 1) - 1) ↔ (c = 2 ^ n - 1 ∧ x = 1) := by
  have hp : 0 < 2 ^ n := Nat.two_pow_pos n
  rw [Nat.pow_succ]
  omega

set_option maxRecDepth 100000 in
set_option maxHeartbeats 1000000 in
theorem rDecode_any {B : Nat} (a : Option Addr) (len cap : Nat) (l : List Nat) (w : World) (hl : l.length = len) (hlen : len ≤ 1000000000) (hr : Rd B w a l) :
    Calls Tryd.prog 47 #[.slice a len cap] w (RDecOut l w) := by
  obtain ⟨S, hS, hL⟩ := lengths_ex
  have HL := Lib.hid hL
  have HS := Lib.hid hS
  clear hL hS
  obtain ⟨i0, hi, hz0, hz1b, hz2⟩ := info_parts info5
  have Hz2 := Lib.hid hz2
  have Hr := Lib.hid hr
  have Hl := Lib.hid hl
  clear hz2 hr hl
  go_enter Tryd.func47, Tryd.ntmps47
  go_wp2_with (first | (go_at_call 65; refine (HL.out _).mono ?_; rintro e w1 ⟨rfl, rfl⟩) | (go_at_call 66; refine (codes_any _).mono ?_; rintro e w2 ⟨g, rfl, hg, hbk, hb2⟩; have HBk := Lib.hid hbk; have HB := Lib.hid hb2; have hgs := hbk.lt (by omega); have hz2 := hb2.size; clear hbk hb2))
  go_loopw [6, 7, 8, 9, 10] (fun v c n o i wr => ∃ (a : Option Addr) (cp C N A : Nat) (t : List Nat), v = .slice a t.length cp ∧ c = .int .u32 C ∧ n = .int .i64 N ∧ o = .bool (decide (C = 2 ^ N - 1)) ∧ i = .int .i64 A ∧ A ≤ 8 * len ∧ Hid (H.Mid C N) ∧ t.length ≤ A ∧ Hid (∀ x ∈ t, x < 256) ∧ Hid (H.decB l = (H.dec ((H.bb l).drop A) C N).map (t ++ ·)) ∧
      wr.ownsRow w2.heap.size 5 1 (.slice a t.length cp) t.length (vals t) ∧ Hid (Below w2.heap.size w2 wr) ∧ w2.heap.size ≤ wr.heap.size) (fun _ _ _ _ i _ => 8 * len - (intOf i).toNat)
  case atStart =>
    exact ⟨none, 0, 0, 0, 0, [], rfl, rfl, rfl, rfl, rfl, by omega, H.mid0, by simp, by intro x hx; simp at hx, by show _ = _; simp [H.decB], World.ownsRow_nil _ _ _ _, Below.refl _ _, Nat.le_refl _⟩
  case round =>
    obtain ⟨aa, cp, c, n, A, t, rfl, rfl, rfl, rfl, rfl, hA, HM, htA, HT, HD, hown, HBr, hsr⟩ := hrel
    have HW : Hid (Below w.heap.size w wr) := HB.out.trans (HBr.out.mono hz2)
    have hn29 := HM.out.2.1
    have hc29 : c < 1073741824 := by
      have h1 := HM.out.1
      have h2 : 2 ^ n ≤ 2 ^ 30 := Nat.pow_le_pow_right (by omega) (by omega)
      have e : (2 : Nat) ^ 30 = 1073741824 := by decide
      omega
    by_cases hlt : A < 8 * len
    · have HR : Hid (H.dec ((H.bb l).drop A) c n = match H.sym (c * 2 + H.bitAt l A) (n + 1) with
        | none => H.dec ((H.bb l).drop (A + 1)) (c * 2 + H.bitAt l A) (n + 1)
        | some i => if i = 256 then none else (H.dec ((H.bb l).drop (A + 1)) 0 0).map (i :: ·)) := H.dec_read l A c n (by rw [Hl.out]; exact hlt)
      have hq : A / 8 < l.length := by rw [Hl.out]; omega
      obtain ⟨b, o, rfl, hcell⟩ := (Hr.out.below HW.out).cell hq
      have hx := Hr.out.lt (A / 8)
      have HX : Hid (H.bitAt l A = l.getD (A / 8) 0 / 2 ^ (7 - A % 8) % 2) := rfl
      generalize l.getD (A / 8) 0 = X at *
      have hb2 := H.bitAt_lt l A
      generalize H.bitAt l A = x at *
      have Hge := Lib.hid (HM.out.ge (x := x))
      have Hpl := Lib.hid (HM.out.lt hb2)
      have HMS := Lib.hid (fun h => HM.out.step hb2 h)
      have Hstep := Lib.hid (ones_step c n x hb2)
      have Hand : Hid (bits .and .u32 ((X : Int) / 2 ^ (7 - A % 8) % 4294967296) 1 = (x : Int)) := by
        show _ = _
        have e0 : (2 : Int) ^ (7 - A % 8) = ((2 ^ (7 - A % 8) : Nat) : Int) := by push_cast; rfl
        have hXd : X / 2 ^ (7 - A % 8) < 256 := Nat.lt_of_le_of_lt (Nat.div_le_self _ _) hx
        rw [e0, ← Int.natCast_ediv]
        have HXo := HX.out
        generalize X / 2 ^ (7 - A % 8) = Y at *
        have e1 : bits .and .u32 (Y : Int) 1 = (Y : Int) % 2 := bits_mask .u32 32 (by decide) (fun n h0 h1 => by rw [IntKind.wrap_u32]; omega) 1 (by decide) Y (by omega) (by omega)
        rw [show (Y : Int) % 4294967296 = (Y : Int) from by omega, e1]; omega
      have Hor : Hid (bits .or .u32 ((c : Int) * 2) (x : Int) = ((c * 2 + x : Nat) : Int)) := by
        show _ = _
        rw [show ((c : Int) * 2) = ((c * 2 : Nat) : Int) from by omega, u32_or_nat _ _ (by omega) (by omega)]
        have e3 := Nat.two_pow_add_eq_or_of_lt (i := 1) (show x < 2 ^ 1 by omega) c
        rw [Nat.pow_one, Nat.mul_comm 2 c] at e3
        rw [e3]
      clear HX
      go_upto_region 11 with (fail)
      rw [Hand.out]
      go_upto_region 13 with (fail)
      rw [Hor.out]
      have hc2 : c * 2 + x < 4294967296 := by omega
      generalize hcc : c * 2 + x = c2 at *
      have Hcc := Lib.hid hcc
      clear hcc
      obtain ⟨fl, hfl⟩ : ∃ fl, fl = decide (c = 2 ^ n - 1) := ⟨_, rfl⟩
      rw [← hfl]
      have HFL : ∃ fl2, fl2 = decide (c2 = 2 ^ (n + 1) - 1) ∧ fl2 = (fl && ((x : Int) == 1)) := by
        refine ⟨_, rfl, ?_⟩
        rw [hfl, Bool.eq_iff_iff]
        simp only [Bool.and_eq_true, decide_eq_true_eq, beq_iff_eq, Hstep.out]
        omega
      have Hfl := Lib.hid hfl
      clear hfl
      have HC : Hid (∀ ww, Blk ww g 257 (fun j => .int .u32 (H.cod j : Nat)) → Calls Tryd.prog 70 #[.slice (some ⟨g, 0, none⟩) 257 257, .string S, .int .u32 (c2 : Nat), .int .i64 ((n : Int) + 1)] ww fun e w' => e = .returned (.int .i64 (rsymV (H.sym c2 (n + 1)))) ∧ ww = w') := fun ww hb => by
        have h := rsymbol_any S HS.out g c2 (n + 1) ww hb (by omega)
        rw [show (((n + 1 : Nat)) : Int) = (n : Int) + 1 from by omega] at h
        exact h
      have hbw := Lib.hid (HBk.out.belowB HBr.out hgs)
      cases fl
      all_goals
        obtain ⟨fl2, hf2, hf3⟩ := HFL
        simp only [Bool.false_and, Bool.true_and] at hf3
        have Hf2 := Lib.hid hf2
        clear hf2
        have Hf3 := Lib.hid hf3
        clear hf3
        go_upto_region 14 with (fail)
        by_cases h5 : n + 1 < 5
        · have hn : H.sym c2 (n + 1) = none := H.sym_none_small h5
          have HM2 := Lib.hid (HMS.out hn)
          rw [hn] at HR
          clear hn HMS HC
          go_wp2
          go_roundw
          case rel =>
            refine ⟨aa, cp, c2, n + 1, A + 1, t, rfl, rfl, by go_num, ?_, by go_num, by omega, HM2, by omega, HT, ?_, hown, HBr, hsr⟩
            · rw [← Hf2.out, Hf3.out]
            · exact HD.out.trans (congrArg (Option.map (t ++ ·)) HR.out)
          case measure => simp [intOf]; omega
        · cases hsym : H.sym c2 (n + 1) with
          | none =>
            have HM2 := Lib.hid (HMS.out hsym)
            rw [hsym] at HR HC
            clear hsym HMS
            go_wp2_with (go_at_call 70; refine (HC.out _ hbw.out).mono ?_; rintro e w1 ⟨rfl, rfl⟩; simp only [rsymV])
            go_roundw
            case rel =>
              refine ⟨aa, cp, c2, n + 1, A + 1, t, rfl, rfl, by go_num, ?_, by go_num, by omega, HM2, by omega, HT, ?_, hown, HBr, hsr⟩
              · rw [← Hf2.out, Hf3.out]
              · exact HD.out.trans (congrArg (Option.map (t ++ ·)) HR.out)
            case measure => simp [intOf]; omega
          | some i =>
            have hi257 := (H.sym_some hsym).1
            rw [hsym] at HC HR
            clear hsym HMS
            by_cases h256 : i = 256
            · subst h256
              have HD2 : Hid (H.decB l = none) := by
                show _ = _
                rw [HD.out, HR.out]
                rfl
              go_wp2_with (go_at_call 70; refine (HC.out _ hbw.out).mono ?_; rintro e w1 ⟨rfl, rfl⟩; simp only [rsymV])
              go_ret2
              refine ⟨HW.out, ?_⟩
              rw [HD2.out]
              rfl
            · have hi8 : i < 256 := by omega
              have hne : ((i : Int) == 256) = false := by simp; omega
              have HD2 : Hid (H.decB l = (H.dec ((H.bb l).drop (A + 1)) 0 0).map ((t ++ [i]) ++ ·)) := by
                show _ = _
                rw [HD.out, HR.out]
                show (if i = 256 then none else _).map _ = _
                rw [if_neg h256, H.map_app t t]
              clear h256 HD HR
              have hone := Rd.one wr i 5 hi8
              go_wp2_with (first | (go_at_call 70; refine (HC.out _ hbw.out).mono ?_; rintro e w1 ⟨rfl, rfl⟩; simp only [rsymV]) | (at_builtin; refine wpList_app1 _ rfl _ _ 22 rfl w2.heap.size _ 5 i0 (.int .u8 0) Tryd.underlying22 hi hz0 hz1b Hz2.out rfl _ t.length (vals t) rfl (hown.alloc _) _ 1 1 [i] rfl rfl (by omega) hone ?_ ?_ ?_; omega; (simp; omega); intro g2 cp2 w4 hown2 hgrow2))
              go_roundw
              case rel =>
                refine ⟨some ⟨g2, 0, none⟩, cp2, 0, 0, A + 1, t ++ [i], ?_, rfl, rfl, rfl, by go_num, by omega, H.mid0, by simp; omega, lt_app HT.out (by simpa using hi8), HD2, ?_, ?_, ?_⟩
                · rw [List.length_append]; rfl
                · rw [vals_append, List.length_append]; exact hown2
                · refine (HBr.out.alloc (by omega) _).grown hgrow2 (by simp; omega) (fun k e => ?_)
                  cases aa with
                  | none => cases e
                  | some ad =>
                    rcases hown.2 with ⟨e1, _⟩ | ⟨g', cap, cur, e1, hb, _⟩
                    · cases e1
                    · cases e1; cases e; exact hb
                · have := hgrow2.size; simp at this; omega
              case measure => simp [intOf]; omega
    · obtain rfl : A = 8 * len := by omega
      have HD2 : Hid (H.decB l = if n < 8 ∧ c = 2 ^ n - 1 then some t else none) := by
        show _ = _
        rw [HD.out, ← Hl.out, H.dec_end]
        split <;> simp
      clear HD
      by_cases h8 : 8 ≤ n
      · rw [if_neg (by omega)] at HD2
        go_wp2
        go_ret2
        refine ⟨HW.out, ?_⟩
        rw [HD2.out]
        rfl
      · by_cases hc : c = 2 ^ n - 1
        · rw [if_pos ⟨by omega, hc⟩] at HD2
          rw [decide_eq_true hc]
          clear hc
          obtain ⟨hrT, hcp⟩ := rd_own hown HT.out
          have hstr := run_str aa cp t wr hrT
          go_wp2
          go_ret2
          refine ⟨HW.out, ?_⟩
          rw [HD2.out]
          rfl
        · rw [if_neg (fun h => hc h.2)] at HD2
          rw [decide_eq_false hc]
          clear hc
          go_wp2
          go_ret2
          refine ⟨HW.out, ?_⟩
          rw [HD2.out]
          rfl
end Go.Proofs.YtcbljbdcnahfhaaDoor
