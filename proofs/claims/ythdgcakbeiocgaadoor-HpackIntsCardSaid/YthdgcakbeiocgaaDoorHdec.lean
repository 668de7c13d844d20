/-
The walk of huff.Decode.
-/
import Derived.Test.YthdgcakbeiocgaaDoorHsym
import Derived.Test.YthdgcakbeiocgaaDoorGjump
namespace Go.Proofs.YthdgcakbeiocgaaDoor
open Go.RowKit

/-- What holds between two bits that are read: A of them are, t is said, c of n bits is in the making. -/
def DecSt (w w2 : World) (l : List Nat) (g g2 cp A c n : Nat) (t : List Nat) (w' : World) : Prop :=
  Book w2 g ∧ g < w2.heap.size ∧ Below w.heap.size w w2 ∧ A ≤ 8 * l.length ∧ H.Mid c n ∧ t.length ≤ A ∧ (∀ x ∈ t, x < 256) ∧ H.decB l = (H.dec ((H.bb l).drop A) c n).map (t ++ ·) ∧
    w'.ownsRow w2.heap.size 5 1 (.slice (some ⟨g2, 0, none⟩) t.length cp) t.length (vals t) ∧ Below w2.heap.size w2 w' ∧ w2.heap.size ≤ w'.heap.size

def DecJ1 (w : World) (a : Option Addr) (len cap : Nat) (l : List Nat) (x : Act) (w' : World) : Prop :=
  ∃ (w2 : World) (g : Nat) (u : Nat → Value) (g2 cp A c n : Nat) (t : List Nat), x = { tmps := #[.slice a len cap, undef, .string ⟨#[]⟩, .nilIface, .pointer (some ⟨g, 0, none⟩), .slice (some ⟨g2, 0, none⟩) t.length cp, .int .i64 (A : Nat), .int .u32 (c : Nat), .int .i64 (n : Nat), u 9, u 10, u 11, u 12, u 13, u 14, u 15, u 16, u 17, u 18, u 19, u 20, u 21, u 22, u 23, u 24, u 25, u 26, u 27, u 28, u 29, u 30, u 31, u 32, u 33, u 34, u 35, u 36, u 37, u 38, u 39, u 40, u 41, u 42, u 43, u 44, u 45, u 46, u 47, u 48, u 49, u 50, u 51, u 52, u 53, u 54, u 55, u 56, u 57, u 58, u 59, u 60, u 61, u 62, u 63, u 64, u 65, u 66], defers := [] } ∧ DecSt w w2 l g g2 cp A c n t w'
def DecJ0 (w : World) (a : Option Addr) (len cap : Nat) (l : List Nat) (x : Act) (w' : World) : Prop :=
  ∃ (w2 : World) (g : Nat) (u : Nat → Value) (g2 cp A : Nat) (t : List Nat), x = { tmps := #[.slice a len cap, undef, .string ⟨#[]⟩, .nilIface, .pointer (some ⟨g, 0, none⟩), .slice (some ⟨g2, 0, none⟩) t.length cp, .int .i64 (A : Nat), u 7, u 8, u 9, u 10, u 11, u 12, u 13, u 14, u 15, u 16, u 17, u 18, u 19, u 20, u 21, u 22, u 23, u 24, u 25, u 26, u 27, u 28, u 29, u 30, u 31, u 32, u 33, u 34, u 35, u 36, u 37, u 38, u 39, u 40, u 41, u 42, u 43, u 44, u 45, u 46, u 47, u 48, u 49, u 50, u 51, u 52, u 53, u 54, u 55, u 56, u 57, u 58, u 59, u 60, u 61, u 62, u 63, u 64, u 65, u 66], defers := [] } ∧ DecSt w w2 l g g2 cp A 0 0 t w'

theorem decJ1_mk {w : World} {a : Option Addr} {len cap : Nat} {l : List Nat} {x : Act} {w' : World} (w2 : World) (g g2 cp A c n : Nat) (t : List Nat) (hx : x = { tmps := #[.slice a len cap, undef, .string ⟨#[]⟩, .nilIface, .pointer (some ⟨g, 0, none⟩), .slice (some ⟨g2, 0, none⟩) t.length cp, .int .i64 (A : Nat), .int .u32 (c : Nat), .int .i64 (n : Nat), x.tmps.getD 9 undef, x.tmps.getD 10 undef, x.tmps.getD 11 undef, x.tmps.getD 12 undef, x.tmps.getD 13 undef, x.tmps.getD 14 undef, x.tmps.getD 15 undef, x.tmps.getD 16 undef, x.tmps.getD 17 undef, x.tmps.getD 18 undef, x.tmps.getD 19 undef, x.tmps.getD 20 undef, x.tmps.getD 21 undef, x.tmps.getD 22 undef, x.tmps.getD 23 undef, x.tmps.getD 24 undef, x.tmps.getD 25 undef, x.tmps.getD 26 undef, x.tmps.getD 27 undef, x.tmps.getD 28 undef, x.tmps.getD 29 undef, x.tmps.getD 30 undef, x.tmps.getD 31 undef, x.tmps.getD 32 undef, x.tmps.getD 33 undef, x.tmps.getD 34 undef, x.tmps.getD 35 undef, x.tmps.getD 36 undef, x.tmps.getD 37 undef, x.tmps.getD 38 undef, x.tmps.getD 39 undef, x.tmps.getD 40 undef, x.tmps.getD 41 undef, x.tmps.getD 42 undef, x.tmps.getD 43 undef, x.tmps.getD 44 undef, x.tmps.getD 45 undef, x.tmps.getD 46 undef, x.tmps.getD 47 undef, x.tmps.getD 48 undef, x.tmps.getD 49 undef, x.tmps.getD 50 undef, x.tmps.getD 51 undef, x.tmps.getD 52 undef, x.tmps.getD 53 undef, x.tmps.getD 54 undef, x.tmps.getD 55 undef, x.tmps.getD 56 undef, x.tmps.getD 57 undef, x.tmps.getD 58 undef, x.tmps.getD 59 undef, x.tmps.getD 60 undef, x.tmps.getD 61 undef, x.tmps.getD 62 undef, x.tmps.getD 63 undef, x.tmps.getD 64 undef, x.tmps.getD 65 undef, x.tmps.getD 66 undef], defers := [] }) (h : DecSt w w2 l g g2 cp A c n t w') : DecJ1 w a len cap l x w' :=
  ⟨w2, g, fun k => x.tmps.getD k undef, g2, cp, A, c, n, t, hx, h⟩
theorem decJ0_mk {w : World} {a : Option Addr} {len cap : Nat} {l : List Nat} {x : Act} {w' : World} (w2 : World) (g g2 cp A : Nat) (t : List Nat) (hx : x = { tmps := #[.slice a len cap, undef, .string ⟨#[]⟩, .nilIface, .pointer (some ⟨g, 0, none⟩), .slice (some ⟨g2, 0, none⟩) t.length cp, .int .i64 (A : Nat), x.tmps.getD 7 undef, x.tmps.getD 8 undef, x.tmps.getD 9 undef, x.tmps.getD 10 undef, x.tmps.getD 11 undef, x.tmps.getD 12 undef, x.tmps.getD 13 undef, x.tmps.getD 14 undef, x.tmps.getD 15 undef, x.tmps.getD 16 undef, x.tmps.getD 17 undef, x.tmps.getD 18 undef, x.tmps.getD 19 undef, x.tmps.getD 20 undef, x.tmps.getD 21 undef, x.tmps.getD 22 undef, x.tmps.getD 23 undef, x.tmps.getD 24 undef, x.tmps.getD 25 undef, x.tmps.getD 26 undef, x.tmps.getD 27 undef, x.tmps.getD 28 undef, x.tmps.getD 29 undef, x.tmps.getD 30 undef, x.tmps.getD 31 undef, x.tmps.getD 32 undef, x.tmps.getD 33 undef, x.tmps.getD 34 undef, x.tmps.getD 35 undef, x.tmps.getD 36 undef, x.tmps.getD 37 undef, x.tmps.getD 38 undef, x.tmps.getD 39 undef, x.tmps.getD 40 undef, x.tmps.getD 41 undef, x.tmps.getD 42 undef, x.tmps.getD 43 undef, x.tmps.getD 44 undef, x.tmps.getD 45 undef, x.tmps.getD 46 undef, x.tmps.getD 47 undef, x.tmps.getD 48 undef, x.tmps.getD 49 undef, x.tmps.getD 50 undef, x.tmps.getD 51 undef, x.tmps.getD 52 undef, x.tmps.getD 53 undef, x.tmps.getD 54 undef, x.tmps.getD 55 undef, x.tmps.getD 56 undef, x.tmps.getD 57 undef, x.tmps.getD 58 undef, x.tmps.getD 59 undef, x.tmps.getD 60 undef, x.tmps.getD 61 undef, x.tmps.getD 62 undef, x.tmps.getD 63 undef, x.tmps.getD 64 undef, x.tmps.getD 65 undef, x.tmps.getD 66 undef], defers := [] }) (h : DecSt w w2 l g g2 cp A 0 0 t w') : DecJ0 w a len cap l x w' :=
  ⟨w2, g, fun k => x.tmps.getD k undef, g2, cp, A, t, hx, h⟩

/-- What Decode hands back. -/
def DecOut (e0 : Addr) (l : List Nat) (w : World) (e : Ending) (w' : World) : Prop :=
  Below w.heap.size w w' ∧ e = .returned (match H.decB l with
    | some t => .tuple #[.string (strOf t), .nilIface]
    | none => .tuple #[.string ⟨#[]⟩, .iface 166 (.pointer (some e0))])

set_option maxRecDepth 100000 in
set_option maxHeartbeats 1000000 in
theorem decode_any {B : Nat} (a : Option Addr) (len cap : Nat) (l : List Nat) (e0 : Addr) (w : World) (hl : l.length = len) (hlen : len ≤ 1000000000) (hr : Rd B w a l) (hE : w.cell? ⟨4, 0, none⟩ = some (.iface 166 (.pointer (some e0)))) :
    Calls Tryd.prog 46 #[.slice a len cap] w (DecOut e0 l w) := by
  obtain ⟨i0, hi, hz0, hz1b, hz2⟩ := info_parts info5
  have Hz2 := Lib.hid hz2
  have Hr := Lib.hid hr
  have HE := Lib.hid hE
  have Hl := Lib.hid hl
  clear hr hE hl hz2
  go_enter Tryd.func46, Tryd.ntmps46
  go_wp2_with fail
  refine wp_scope_fall 0 1 (DecJ0 w a len cap l) (DecJ1 w a len cap l) (fun x _ => 8 * len - (intOf (x.tmps.getD 6 undef)).toNat) (by decide) rfl rfl ?first ?enter ?round
  case first =>
    intro H1
    have HH := Lib.hid H1
    clear H1
    go_wp2_with fail
    refine (newBook_any _).mono ?_
    rintro e w1 ⟨rfl, hb1⟩
    dsimp only
    rename_i hK
    refine hK _ _ ?_
    clear hK
    have hsz : bookL.toArray.size = 578 := by rw [List.size_toArray]; exact bookL_len
    refine wpList_alloc_big rfl 118 rfl zeroBook run_alloc_book ?_
    refine wpList_store_mid rfl 118 (.tmp 4) (.tmp 11) (by rfl) w1.heap.size 0 bookL.toArray (by rfl) (by rfl) (by rw [hsz]; exact (Bk.new w1).there (by omega)) (by rw [hsz]; kernel_rfl) (all_oneCell_toArray bookL_one) ?_
    obtain ⟨hbk, hbel, hz⟩ := book_stored w1
    have hb2 := hbel hb1 hb1.size
    have hz1 := hb1.size
    generalize hg : w1.heap.size = g at *
    generalize (w1.alloc (.cells zeroBook 118)).setCells g 0 bookL.toArray.toList = w2 at *
    have HB := Lib.hid hb2
    have HBk := Lib.hid hbk
    have Hz := Lib.hid hz
    clear hbel hsz hb1 hb2 hbk hz
    have hC : Hid ((len : Int) * 8 / 5 = ((len * 8 / 5 : Nat) : Int)) := by show _ = _; omega
    have hb2 : i0.bytes * (len * 8 / 5) ≤ 281474976710656 := by rw [Hz2.out]; omega
    have HB2 := Lib.hid hb2
    clear hb2
    go_wp2_with (at_make; refine wpList_make_own _ rfl _ _ 22 rfl w2.heap.size 5 i0 (.int .u8 0) 1 Tryd.underlying22 hi hz0 hz1b .i64 .i64 _ (len * 8 / 5) rfl rfl hC.out HB2.out ?_ (Nat.le_refl _) ?_; unfold maxLen; omega; intro w3 hown hgrow)
    have HB3 := Lib.hid (Below.grown (Below.refl w2.heap.size w2) hgrow (Nat.le_refl _) (fun k e => by cases e))
    have hs3 := hgrow.size
    clear hgrow
    refine wp_label ?_
    go_wp2
    refine wp_label ?_
    simp only [Exit.then]
    rename_i hK
    refine hK _ _ (HH.out _ _ ?_)
    exact decJ1_mk w2 g w2.heap.size (len * 8 / 5) 0 0 0 [] rfl ⟨HBk.out, by have := Hz.out; omega, HB.out, by omega, H.mid0, by simp, by simp, by simp [H.decB], hown, HB3.out, hs3⟩
  case enter =>
    rintro x wr ⟨w2, g, u, g2, cp, A, t, rfl, h⟩
    have HS := Lib.hid h
    clear h
    go_wp2
    exact decJ1_mk w2 g g2 cp A 0 0 t rfl HS.out
  case round =>
    rintro x wr ⟨w2, g, u, g2, cp, A, c, n, t, rfl, hbk, hg, hbw, hA, hmid, htA, htl, hdec, hown, hbel, hs2⟩
    have HBk := Lib.hid hbk
    have HB := Lib.hid hbw
    have HM := Lib.hid hmid
    have HT := Lib.hid htl
    have HD := Lib.hid hdec
    have HB2 := Lib.hid hbel
    have hcw : w.heap.size ≤ w2.heap.size := hbw.size
    have HW : Hid (Below w.heap.size w wr) := hbw.trans (hbel.mono hcw)
    have hn29 := hmid.2.1
    have hc29 : c < 1073741824 := by
      have h1 := hmid.1
      have h2 : 2 ^ n ≤ 2 ^ 30 := Nat.pow_le_pow_right (by omega) (by omega)
      have e : (2 : Nat) ^ 30 = 1073741824 := by decide
      omega
    clear hbk hbw hmid htl hdec hbel
    rw [Hl.out] at hA
    by_cases hend : A = 8 * len
    · have HD2 : Hid (H.decB l = if n < 8 ∧ c = 2 ^ n - 1 then some t else none) := by
        show _ = _
        rw [HD.out, hend, ← Hl.out, H.dec_end]
        split <;> simp
      clear HD
      subst hend
      have hE := cell_below HW.out HE.out
      by_cases h8 : 8 ≤ n
      · rw [if_neg (by omega)] at HD2
        go_wp2_with fail
        go_quiet (fail)
        go_wp2
        simp only [jumps]
        go_ret2
        refine ⟨below_q HW.out _, ?_⟩
        rw [HD2.out]
        rfl
      · have HC : Hid (∀ w, Calls Tryd.prog 68 #[.int .i64 (n : Nat)] w fun e w' => e = .returned (.int .u32 ((2 ^ n - 1 : Nat) : Int)) ∧ w = w') := fun w => ones_any n w (by omega)
        by_cases hc : c = 2 ^ n - 1
        · rw [if_pos ⟨by omega, hc⟩] at HD2
          rw [← hc] at HC
          clear hc
          have ⟨aT, cpT, eT, hleT, hrT⟩ := Own.rd (v := .slice (some ⟨g2, 0, none⟩) t.length cp) ⟨hown, g2, cp, rfl⟩ HT.out
          cases eT
          have hstr := run_str (some ⟨g2, 0, none⟩) cp t wr hrT
          have hne : (!(c == c)) = false := by simp
          go_wp2_with (go_at_call 68; refine (HC.out _).mono ?_; rintro e w1 ⟨rfl, rfl⟩)
          simp only [jumps]
          go_ret2
          refine ⟨HW.out, ?_⟩
          rw [HD2.out]
          rfl
        · rw [if_neg (fun h => hc h.2)] at HD2
          have hp : 0 < 2 ^ n := Nat.two_pow_pos n
          generalize 2 ^ n - 1 = q at *
          have hne : ((c : Int) != (q : Int)) = true := by simp; omega
          clear hp
          go_wp2_with (go_at_call 68; refine (HC.out _).mono ?_; rintro e w1 ⟨rfl, rfl⟩)
          go_quiet (fail)
          go_wp2
          simp only [jumps]
          go_ret2
          refine ⟨below_q HW.out _, ?_⟩
          rw [HD2.out]
          rfl
    · have hlt : A < 8 * len := by omega
      have HR : Hid (H.dec ((H.bb l).drop A) c n = match H.sym (c * 2 + H.bitAt l A) (n + 1) with
        | none => H.dec ((H.bb l).drop (A + 1)) (c * 2 + H.bitAt l A) (n + 1)
        | some i => if i = 256 then none else (H.dec ((H.bb l).drop (A + 1)) 0 0).map (i :: ·)) := H.dec_read l A c n (by rw [Hl.out]; exact hlt)
      have hq : A / 8 < l.length := by rw [Hl.out]; omega
      obtain ⟨b, o, rfl, hcell⟩ := (Hr.out.below HW.out).cell hq
      have hx := Hr.out.lt (A / 8)
      have HX : Hid (H.bitAt l A = l.getD (A / 8) 0 / 2 ^ (7 - A % 8) % 2) := rfl
      generalize l.getD (A / 8) 0 = X at *
      have hb2 := H.bitAt_lt l A
      generalize H.bitAt l A = x at *
      have hge := (HM.out.ge (x := x))
      have hpl := HM.out.lt hb2
      have HMS := Lib.hid (fun h => HM.out.step hb2 h)
      clear hend
      have hne : ((A : Int) == (len : Int) * 8) = false := by simp; omega
      have Hge := Lib.hid hge
      have Hpl := Lib.hid hpl
      clear hge hpl
      go_upto_region 14 with (fail)
      have hval : bits .or .u32 ((c : Int) * 2) (bits .and .u8 ((X : Int) / 2 ^ (7 - A % 8)) 1 % 4294967296) = ((c * 2 + x : Nat) : Int) := by
        have e0 : (2 : Int) ^ (7 - A % 8) = ((2 ^ (7 - A % 8) : Nat) : Int) := by push_cast; rfl
        have hXd : X / 2 ^ (7 - A % 8) < 256 := Nat.lt_of_le_of_lt (Nat.div_le_self _ _) hx
        rw [e0, ← Int.natCast_ediv]
        have HXo := HX.out
        generalize X / 2 ^ (7 - A % 8) = Y at *
        have e1 : bits .and .u8 (Y : Int) 1 = (Y : Int) % 2 := bits_mask .u8 8 (by decide) wraps_u8 1 (by decide) Y (by omega) (by omega)
        have e2 : (Y : Int) % 2 % 4294967296 = (x : Int) := by omega
        rw [e1, e2, show ((c : Int) * 2) = ((c * 2 : Nat) : Int) from by omega, u32_or_nat _ _ (by omega) (by omega)]
        have e3 := Nat.two_pow_add_eq_or_of_lt (i := 1) (show x < 2 ^ 1 by omega) c
        rw [Nat.pow_one, Nat.mul_comm 2 c] at e3
        rw [e3]
      rw [hval]
      clear hval hcell HX hx hne
      have hc2 : c * 2 + x < 4294967296 := by omega
      generalize c * 2 + x = c2 at *
      have HC : Hid (∀ ww, Book ww g → Calls Tryd.prog 69 #[.pointer (some ⟨g, 0, none⟩), .int .u32 (c2 : Nat), .int .i64 ((n : Int) + 1)] ww fun e w' => e = .returned (symV (H.sym c2 (n + 1))) ∧ ∃ q, w' = ww.drewN q) := fun ww hb => by
        have h := symbol_any g c2 (n + 1) ww hb (by omega) Hge.out hc2
        rw [show (((n + 1 : Nat)) : Int) = (n : Int) + 1 from by omega] at h
        exact h
      have hbw := HBk.out.belowB HB2.out hg
      cases hsym : H.sym c2 (n + 1) with
      | none =>
        have HM2 := Lib.hid (HMS.out hsym)
        rw [hsym] at HC HR
        clear hsym HMS
        go_wp2_with (go_at_call 69; refine (HC.out _ hbw).mono ?_; rintro e w1 ⟨rfl, q, rfl⟩; simp only [symV])
        refine wp_goto ?_
        simp only [Exit.then]
        refine Or.inr ⟨rfl, decJ1_mk w2 g g2 cp (A + 1) c2 (n + 1) t rfl ⟨HBk.out, hg, HB.out, by rw [Hl.out]; omega, HM2.out, by omega, HT.out, HD.out.trans (congrArg (Option.map (t ++ ·)) HR.out), hown, below_q HB2.out q, hs2⟩, ?_⟩
        simp [intOf]
        omega
      | some i =>
        have hi257 := (H.sym_some hsym).1
        rw [hsym] at HC HR
        clear hsym HMS
        by_cases h256 : i = 256
        · subst h256
          have HD2 : Hid (H.decB l = none) := by
            show _ = _
            rw [HD.out, HR.out]
            rfl
          have hE := cell_below HW.out HE.out
          go_wp2_with (go_at_call 69; refine (HC.out _ hbw).mono ?_; rintro e w1 ⟨rfl, q, rfl⟩; simp only [symV])
          go_quiet (fail)
          go_wp2
          simp only [jumps]
          go_ret2
          refine ⟨below_q HW.out _, ?_⟩
          rw [HD2.out]
          rfl
        · have hi8 : i < 256 := by omega
          have hne : ((i : Int) == 256) = false := by simp; omega
          have HD2 : Hid (H.decB l = (H.dec ((H.bb l).drop (A + 1)) 0 0).map ((t ++ [i]) ++ ·)) := by
            show _ = _
            rw [HD.out, HR.out]
            show (if i = 256 then none else _).map _ = _
            rw [if_neg h256, H.map_app t t]
          clear h256 HD HR
          have hone := fun q : Nat => Rd.one (wr.drewN q) i 5 hi8
          have Hone := Lib.hid hone
          clear hone
          go_wp2_with (first | (go_at_call 69; refine (HC.out _ hbw).mono ?_; rintro e w1 ⟨rfl, q, rfl⟩; simp only [symV]) | (at_builtin; refine wpList_app _ rfl _ _ 22 rfl w2.heap.size _ 5 i0 (.int .u8 0) Tryd.underlying22 hi hz0 hz1b Hz2.out rfl _ t.length (vals t) rfl (World.ownsRow.alloc (w := wr.drewN q) hown _) (by intro e; cases e) _ 1 1 [i] rfl rfl (Hone.out q) ?_ ?_ ?_; omega; (simp; omega); intro g3 cp3 w4 hown2 hgrow2))
          have hb4 := ((below_q HB2.out q).alloc (by exact hs2) (.cells #[.int .u8 i] 5)).grown hgrow2 (by simp; omega) (fun k e => by cases e; exact (hown.lt g2 rfl).1)
          have hs4 := hb4.size
          have hown3 : w4.ownsRow w2.heap.size 5 1 (.slice (some ⟨g3, 0, none⟩) (t ++ [i]).length cp3) (t ++ [i]).length (vals (t ++ [i])) := by
            rw [vals_append, List.length_append]
            exact hown2
          have HO := Lib.hid hown3
          have HB4 := Lib.hid hb4
          have HT2 : Hid (∀ x ∈ t ++ [i], x < 256) := lt_app HT.out (by simpa using hi8)
          clear hown2 hown3 hb4 hgrow2 hown
          refine wp_goto ?_
          refine Or.inl ⟨rfl, decJ0_mk w2 g g3 cp3 (A + 1) (t ++ [i]) (by rw [List.length_append]; rfl) ⟨HBk.out, hg, HB.out, by rw [Hl.out]; omega, H.mid0, by simp; omega, HT2.out, HD2.out, HO.out, HB4.out, hs4⟩, ?_⟩
          simp [intOf]
          omega
end Go.Proofs.YthdgcakbeiocgaaDoor
