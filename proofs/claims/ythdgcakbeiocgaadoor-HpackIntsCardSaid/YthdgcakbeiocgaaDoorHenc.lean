import Derived.Test.YthdgcakbeiocgaaDoorHbook
import Derived.Test.YthdgcakbeiocgaaDoorHnum
import Derived.Deep.CutBlock
namespace Go.Proofs.YthdgcakbeiocgaaDoor
open Go.RowKit

/-- Block g of the world w' is the book, and what lay in w lies there still. -/
def Book (w' : World) (g : Nat) : Prop := Bk w' g H.cod (H.ord 257) H.st H.first

theorem Book.belowB {w w' : World} {B g : Nat} (h : Book w g) (hb : Below B w w') (hg : g < B) : Book w' g := Blk.belowB h hb hg
theorem Book.code {w : World} {g : Nat} (h : Book w g) (m : Nat) (hm : m < 257) : w.cell? ⟨g, m, none⟩ = some (.int .u32 (H.cod m)) := (Bk.atC h m hm).1

theorem book_stored (w1 : World) : Book ((w1.alloc (.cells zeroBook 118)).setCells w1.heap.size 0 bookL.toArray.toList) w1.heap.size ∧
    (∀ {B : Nat} {w : World}, Below B w w1 → B ≤ w1.heap.size → Below B w ((w1.alloc (.cells zeroBook 118)).setCells w1.heap.size 0 bookL.toArray.toList)) ∧
    ((w1.alloc (.cells zeroBook 118)).setCells w1.heap.size 0 bookL.toArray.toList).heap.size = w1.heap.size + 1 := by
  refine ⟨?_, ?_, ?_⟩
  · exact Blk.setCells (Bk.new w1) (vs := bookL.toArray.toList) (by rw [List.toList_toArray]; exact bookL_len) (fun j hj => by rw [List.toList_toArray]; exact bookL_get j hj)
  · intro B w hb hB
    exact below_setCells _ hB _ _ (hb.alloc hB _)
  · rw [size_setCells]; simp
theorem run_alloc_book (w : World) : (Instr.alloc 118 true (.tuple #[])).run Tryd.prog w = .ok (.pointer (some ⟨w.heap.size, 0, none⟩)) (w.alloc (.cells zeroBook 118)) := by
  kernel_rfl

set_option maxRecDepth 100000 in
set_option maxHeartbeats 1000000 in
theorem encode_any (s : ByteArray) (w : World) (hs : s.size ≤ 1000000000) : Calls Tryd.prog 64 #[.string s] w (OwnPost w.heap.size (H.enc (by_ s)) w) := by
  go_enter Tryd.func64, Tryd.ntmps64
  go_wp2_with fail
  refine (newBook_any _).mono ?_
  rintro e w1 ⟨rfl, hb1⟩
  dsimp only
  rename_i hK
  refine hK _ _ ?_
  clear hK
  have hsz : bookL.toArray.size = 578 := by rw [List.size_toArray]; exact bookL_len
  refine wpList_alloc_big rfl 118 rfl zeroBook run_alloc_book ?_
  refine wpList_store_mid rfl 118 (.tmp 3) (.tmp 10) (by rfl) w1.heap.size 0 bookL.toArray (by rfl) (by rfl) (by rw [hsz]; exact (Bk.new w1).there (by omega)) (by rw [hsz]; kernel_rfl) (all_oneCell_toArray bookL_one) ?_
  obtain ⟨hbk, hbel, hz⟩ := book_stored w1
  have hb2 := hbel hb1 hb1.size
  have hz1 := hb1.size
  generalize hg : w1.heap.size = g at *
  generalize (w1.alloc (.cells zeroBook 118)).setCells g 0 bookL.toArray.toList = w2 at *
  have HB := Lib.hid hb2
  have HBk := Lib.hid hbk
  have Hz := Lib.hid hz
  clear hbel hsz hb1 hb2 hbk hz
  have hzle : H.sz (by_ s) ≤ 30 * s.size + 1 := by
    have h1 := (H.eb_bounds (by_ s)).2
    rw [by_len] at h1
    unfold H.sz
    omega
  obtain ⟨i0, hi, hz0, hz1b, hz2⟩ := info_parts info5
  generalize hsz : H.sz (by_ s) = sz at *
  have HS : Hid (∀ w, Calls Tryd.prog 63 #[.string s] w fun e w' => e = .returned (.int .i64 sz) ∧ w = w') := fun w => by rw [← hsz]; exact hsize_any s w (by omega)
  clear hsz
  have hb2 : i0.bytes * sz ≤ 281474976710656 := by rw [hz2]; omega
  have HB2 := Lib.hid hb2
  clear hb2
  have Hz2 := Lib.hid hz2
  go_wp2_with (first | (go_at_call 63; refine (HS.out _).mono ?_; rintro e w3 ⟨rfl, rfl⟩) | (at_make; refine wpList_make_own _ rfl _ _ 22 rfl w2.heap.size 5 i0 (.int .u8 0) 1 Tryd.underlying22 hi hz0 hz1b .i64 .i64 _ sz rfl rfl rfl HB2.out ?_ (Nat.le_refl _) ?_; unfold maxLen; omega; intro w3 hown hgrow))
  have HB3 := Lib.hid (Below.grown (Below.refl w2.heap.size w2) hgrow (Nat.le_refl _) (fun k e => by cases e))
  have hs3 := hgrow.size
  clear hgrow
  go_loopw [4, 5, 6, 16] (fun v x h i wr => ∃ (g' cp last held k : Nat) (out : List Nat), v = .slice (some ⟨g', 0, none⟩) out.length cp ∧ x = .int .u64 last ∧ h = .int .i64 held ∧ i = .int .i64 k ∧ k ≤ s.size ∧ held ≤ 7 ∧ last < 18446744073709551616 ∧ Hid (∀ x ∈ out, x < 256) ∧ Hid (H.bb out ++ H.nb held last = H.eb ((by_ s).take k)) ∧
      wr.ownsRow w2.heap.size 5 1 (.slice (some ⟨g', 0, none⟩) out.length cp) out.length (vals out) ∧ Hid (Below w2.heap.size w2 wr) ∧ w2.heap.size ≤ wr.heap.size) (fun _ _ _ i _ => s.size - (intOf i).toNat)
  case atStart =>
    refine ⟨_, _, 0, 0, 0, [], rfl, rfl, rfl, rfl, Nat.zero_le _, by omega, by omega, by intro x hx; simp at hx, rfl, hown, HB3, hs3⟩
  case round =>
    obtain ⟨g', cp, last, held, k, out, rfl, rfl, rfl, rfl, hk, hh, hl, Hlt, Hb, hown, HBr, hsr⟩ := hrel
    have hgw : g < w2.heap.size := by have := Hz.out; omega
    by_cases hlt : k < s.size
    · have HS2 : Hid (H.eb ((by_ s).take (k + 1)) = H.eb ((by_ s).take k) ++ H.nb (H.b s[k].toNat) (H.cod s[k].toNat)) := by
        show _ = _
        have hk1 : k < (by_ s).length := by rw [by_len]; exact hlt
        have hg := by_get s k hlt
        rw [List.getD_eq_getElem?_getD, List.getElem?_eq_getElem hk1] at hg
        rw [List.take_succ_eq_append_getElem hk1, H.eb_app, H.eb_one]
        rw [show (by_ s)[k] = s[k].toNat from hg]
      have hc : s[k].toNat < 256 := s[k].toNat_lt
      have hcc := (HBk.out.belowB HBr.out hgw).code s[k].toNat (by omega)
      have hbb := H.b_bounds s[k].toNat
      have Hcl := Lib.hid (H.cod_lt s[k].toNat (by omega))
      have hcl := H.cod_lt32 s[k].toNat (by omega)
      have HC : Hid (∀ w, Calls Tryd.prog 85 #[.int .i64 s[k].toNat] w fun e w' => e = .returned (.int .i64 (H.b s[k].toNat)) ∧ w = w') := fun w => bitsOf_any s[k].toNat w (by omega)
      generalize H.b s[k].toNat = n at *
      generalize H.cod s[k].toNat = c at *
      have Hor := Lib.hid (H.lay_or last n c (by omega) Hcl.out)
      have k0 : (0 : Int) ≤ (s[k].toNat : Int) := by omega
      have k1 : (s[k].toNat : Int) < 257 := by omega
      go_upto_region 9 with (go_at_call 85; refine (HC.out _).mono ?_; rintro e w1 ⟨rfl, rfl⟩)
      go_quiet (fail)
      go_upto_block 2 with (fail)
      have hor : bits .or .u64 (IntKind.u64.wrap ((last : Int) * 2 ^ n)) (c : Int) = ((last * 2 ^ n % 18446744073709551616 + c : Nat) : Int) := by
        have e1 : IntKind.u64.wrap ((last : Int) * 2 ^ n) = ((last * 2 ^ n % 18446744073709551616 : Nat) : Int) := by
          have e0 : (2 : Int) ^ n = ((2 ^ n : Nat) : Int) := by push_cast; rfl
          rw [IntKind.wrap_u64, e0, ← Int.natCast_mul]
          generalize last * 2 ^ n = q
          omega
        rw [e1, u64_or_nat _ _ (by omega) (by omega), Hor.out]
      rw [hor]
      have hL : last * 2 ^ n % 18446744073709551616 + c < 18446744073709551616 := by
        rw [← Hor.out]
        exact Nat.or_lt_two_pow (n := 64) (show _ < 2 ^ 64 by omega) (show _ < 2 ^ 64 by omega)
      have HX : Hid (H.bb out ++ H.nb (held + n) (last * 2 ^ n % 18446744073709551616 + c) = H.eb ((by_ s).take (k + 1))) := by
        show _ = _
        rw [H.nb_lay held n last c (by omega) Hcl.out, HS2.out, ← Hb.out, List.append_assoc]
      clear hor Hor Hcl HS2 Hb HC
      generalize last * 2 ^ n % 18446744073709551616 + c = L at *
      rw [show ((held : Int) + (n : Int)) = ((held + n : Nat) : Int) from by omega]
      have hHn : held + n ≤ 37 := by omega
      generalize held + n = hd at *
      go_step
      go_loopw [4, 6] (fun v h wq => ∃ (g' cp held : Nat) (out : List Nat), v = .slice (some ⟨g', 0, none⟩) out.length cp ∧ h = .int .i64 held ∧ held ≤ 37 ∧ Hid (∀ x ∈ out, x < 256) ∧ Hid (H.bb out ++ H.nb held L = H.eb ((by_ s).take (k + 1))) ∧
        wq.ownsRow w2.heap.size 5 1 (.slice (some ⟨g', 0, none⟩) out.length cp) out.length (vals out) ∧ Hid (Below w2.heap.size w2 wq) ∧ w2.heap.size ≤ wq.heap.size) (fun _ h _ => (intOf h).toNat)
      case atStart => exact ⟨g', cp, hd, out, rfl, rfl, hHn, Hlt, HX, hown, below_q HBr.out _, hsr⟩
      case round =>
        clear hown HBr hsr Hlt HX hHn
        obtain ⟨g', cp, held, out, rfl, rfl, hh, Hlt, HX, hown, HBr, hsr⟩ := hrel
        by_cases h8 : 8 ≤ held
        · have hlen : out.length ≤ 4 * s.size + 8 := by
            have h := congrArg List.length HX.out
            rw [List.length_append, H.bb_len, H.nb_len] at h
            have h2 := (H.eb_bounds ((by_ s).take (k + 1))).2
            have h3 : ((by_ s).take (k + 1)).length ≤ s.size := by rw [List.length_take, by_len]; omega
            omega
          have hone := Rd.one wr (L / 2 ^ (held - 8) % 256) 5 (by omega)
          have ex : ((L / 2 ^ (held - 8) % 256 : Nat) : Int) = (L : Int) / 2 ^ (held - 8) % 256 := by push_cast; rfl
          rw [ex] at hone
          have Hx := Lib.hid ex
          clear ex
          go_wp2_with (at_builtin; refine wpList_app _ rfl _ _ 22 rfl w2.heap.size _ 5 i0 (.int .u8 0) Tryd.underlying22 hi hz0 hz1b Hz2.out rfl _ out.length (vals out) rfl (hown.alloc _) (by intro e; cases e) _ 1 1 [L / 2 ^ (held - 8) % 256] rfl rfl hone ?_ ?_ ?_; omega; (simp; omega); intro g2 cp2 w4 hown2 hgrow2)
          go_roundw
          case rel =>
            refine ⟨g2, cp2, held - 8, out ++ [L / 2 ^ (held - 8) % 256], ?_, ?_, by omega, ?_, ?_, ?_, ?_, ?_⟩
            · rw [List.length_append]; rfl
            · first | rfl | (congr 1; omega)
            · intro x hx
              rcases List.mem_append.1 hx with hx | hx
              · exact Hlt.out x hx
              · rw [List.mem_singleton.1 hx]; omega
            · show _ = _
              rw [H.bb_app, H.bb_one, List.append_assoc, ← H.nb_off held L h8]
              exact HX.out
            · rw [vals_append, List.length_append]; exact hown2
            · exact (HBr.out.alloc (by omega) _).grown hgrow2 (by simp; omega) (fun k e => by cases e; exact (hown.lt g' rfl).1)
            · have := hgrow2.size; simp at this; omega
          case measure => simp [intOf]; omega
        · go_wp2_with fail
          go_roundw
          case rel =>
            refine ⟨g', cp, L, held, k + 1, out, rfl, rfl, rfl, by go_num, by omega, by omega, hL, Hlt, HX, hown, HBr, hsr⟩
          case measure => simp [intOf]; omega
    · obtain rfl : k = s.size := by omega
      rw [List.take_of_length_le (by rw [by_len]; exact Nat.le_refl _)] at Hb
      by_cases h0 : held = 0
      · subst h0
        go_wp2_with fail
        go_ret
        obtain rfl := H.enc_of Hlt.out (k := 0) (by omega) (by rw [← Hb.out]; simp [H.nb])
        exact ⟨_, rfl, Own.mono ⟨hown, g', cp, rfl⟩ (by omega), HB.out.trans (HBr.out.mono (by omega))⟩
      · have HC : Hid (∀ w, Calls Tryd.prog 68 #[.int .i64 ((8 : Int) - held)] w fun e w' => e = .returned (.int .u32 ((2 ^ (8 - held) - 1 : Nat) : Int)) ∧ w = w') := fun w => by
          rw [show ((8 : Int) - held) = ((8 - held : Nat) : Int) from by omega]
          exact ones_any (8 - held) w (by omega)
        have k0 : IntKind.i64.wrap ((8 : Int) - held) = (8 : Int) - held := by rw [IntKind.wrap_i64]; omega
        have k1 : (0 : Int) ≤ (8 : Int) - held := by omega
        have k2 : ((8 : Int) - held).toNat = 8 - held := by omega
        have hlen : out.length ≤ 4 * s.size + 8 := by
          have h := congrArg List.length Hb.out
          rw [List.length_append, H.bb_len, H.nb_len] at h
          have h2 := (H.eb_bounds (by_ s)).2
          rw [by_len] at h2
          omega
        have hV : bits .or .u8 (IntKind.u8.wrap (IntKind.u64.wrap ((last : Int) * 2 ^ (8 - held)))) (IntKind.u8.wrap ((2 ^ (8 - held) - 1 : Nat) : Int)) = (((last * 2 ^ (8 - held) % 256) ||| (2 ^ (8 - held) - 1) : Nat) : Int) := by
          have e0 : (2 : Int) ^ (8 - held) = ((2 ^ (8 - held) : Nat) : Int) := by push_cast; rfl
          have hp : 2 ^ (8 - held) ≤ 2 ^ 8 := Nat.pow_le_pow_right (by omega) (by omega)
          have hp0 : 0 < 2 ^ (8 - held) := Nat.two_pow_pos _
          rw [show (2 : Nat) ^ 8 = 256 from by decide] at hp
          have hp1 : 2 ^ (8 - held) - 1 < 256 := by omega
          rw [e0, ← Int.natCast_mul, IntKind.wrap_u64]
          generalize last * 2 ^ (8 - held) = q
          generalize 2 ^ (8 - held) - 1 = r at hp1
          have e1 : IntKind.u8.wrap ((q : Int) % 18446744073709551616) = ((q % 256 : Nat) : Int) := by rw [IntKind.wrap_u8]; omega
          have e2 : IntKind.u8.wrap (r : Int) = (r : Int) := by rw [IntKind.wrap_u8]; omega
          rw [e1, e2]
          exact u8_or_nat (q % 256) r (by omega) (by omega)
        have hX : (last * 2 ^ (8 - held) % 256) ||| (2 ^ (8 - held) - 1) < 256 := by
          refine Nat.or_lt_two_pow (n := 8) (show _ < 256 by omega) ?_
          have hp : 2 ^ (8 - held) ≤ 2 ^ 8 := Nat.pow_le_pow_right (by omega) (by omega)
          have hp0 : 0 < 2 ^ (8 - held) := Nat.two_pow_pos _
          omega
        have HF : Hid (H.bb (out ++ [(last * 2 ^ (8 - held) % 256) ||| (2 ^ (8 - held) - 1)]) = H.eb (by_ s) ++ List.replicate (8 - held) true) := by
          show _ = _
          rw [H.bb_app, H.bb_one, H.nb_last held last (by omega), ← List.append_assoc, Hb.out]
        have hone := Rd.one wr ((last * 2 ^ (8 - held) % 256) ||| (2 ^ (8 - held) - 1)) 5 hX
        rw [← hV] at hone
        have Hone := Lib.hid hone
        generalize (last * 2 ^ (8 - held) % 256) ||| (2 ^ (8 - held) - 1) = X at *
        have HV := Lib.hid hV
        clear hV hone
        go_upto_region 16 with (fail)
        go_region_held3 (fun _ => True) (trivial) (first
          | (go_at_call 68; refine (HC.out _).mono ?_; rintro e w1 ⟨rfl, rfl⟩)
          | (refine step_app rfl (.tmp 51) (.tmp 62) 22 rfl w2.heap.size _ 5 i0 (.int .u8 0) Tryd.underlying22 hi hz0 hz1b Hz2.out rfl _ out.length (vals out) rfl (World.ownsRow.alloc hown _) (by intro e; cases e) _ 1 1 [X] rfl rfl Hone.out (by omega) (by show w2.heap.size ≤ _; simp; omega) ?_; intro g2 cp2 w4 hown2 hgrow2))
        have hgr : World.grownBy _ w4 (Value.slice (some ⟨g', 0, none⟩) out.length cp).ownBlock := hgrow2
        have hb4 := (HBr.out.alloc (by omega) _).drew.grown hgr (by show w2.heap.size ≤ _; simp; omega) (fun k e => by cases e; exact (hown.lt g' rfl).1)
        have HB4 := Lib.hid hb4
        clear hgr hgrow2 hb4
        go_wp2
        go_ret
        have he := H.enc_of (t := by_ s) (out := out ++ [X]) (lt_app Hlt.out (by simpa using hX)) (k := 8 - held) (by omega) HF.out
        rw [← he]
        exact ⟨_, rfl, Own.mono (own_app rfl hown2) (by omega), HB.out.trans (HB4.out.mono (by omega))⟩
end Go.Proofs.YthdgcakbeiocgaaDoor
