/-
Lists to be encoded with the sizes ahead of them: what they read as; whether all are light.
-/
import Derived.Test.YtcbljbdcnahfhaaDoorKargs
namespace Go.Proofs.YtcbljbdcnahfhaaDoor
open Go.ChangeShapes Go.WideShapes Go.ChangeAt Go.RowKit

/-- A size, and a list: where it lies, its capacity, its headers. -/
abbrev KB := Int × Option Addr × Nat × List (B.HD × Bool)
def KRd (K : Nat) (w : World) (a : Option Addr) (l : List KB) : Prop :=
  ∀ (j : Nat) (x : KB), l[j]? = some x → ∃ b o, a = some ⟨b, o, none⟩ ∧ b < K ∧ w.cell? ⟨b, o + j * 2, none⟩ = some (.int .i64 x.1) ∧ w.cell? ⟨b, o + j * 2 + 1, none⟩ = some (.slice x.2.1 x.2.2.2.length x.2.2.1) ∧ QRdB K w x.2.1 x.2.2.2
/-- Each list is of at most n headers, of texts of at most n bytes. -/
def KSz (n : Nat) (l : List KB) : Prop := ∀ x ∈ l, x.2.2.2.length ≤ n ∧ QSz n x.2.2.2
theorem KRd.belowB {K K2 : Nat} {w w' : World} {a : Option Addr} {l : List KB} (h : KRd K w a l) (hb : Below K2 w w') (hk : K ≤ K2) : KRd K w' a l := fun j x hx => by
  obtain ⟨b, o, e, h0, h1, h2, h3⟩ := h j x hx
  exact ⟨b, o, e, h0, cell_belowB hb (by omega) h1, cell_belowB hb (by omega) h2, h3.belowB hb hk⟩

section
variable {H : Type} {enc : TypeId × Value → H}
theorem kcells_kb : Tryd.prog.cellsOf 52 = 2 := by kernel_rfl
theorem kcells_in : Tryd.prog.cellsOf 3 = 1 := by kernel_rfl
theorem kcells_qs : Tryd.prog.cellsOf 50 = 1 := by kernel_rfl

set_option maxRecDepth 100000 in
theorem open_kb {W : World} {fuel : Nat} {cs : List Value} {x : DataW H × List MemPlace} (h : DataW.trod enc Tryd.prog W 0 (fun _ => true) true fuel 52 cs = some x) :
    ∃ y : KB, cs = [.int .i64 y.1, .slice y.2.1 y.2.2.2.length y.2.2.1] ∧ QRdB W.heap.size W y.2.1 y.2.2.2 ∧ (∀ b, Rows.uptoBulk x.1 ≤ b → y.2.2.2.length ≤ b ∧ QSz b y.2.2.2) := by
  obtain ⟨xs, m, _, hx, hlen, hxl, hf⟩ := DataW.trod_struct Tryd.underlying52 h
  rw [kcells_kb] at hlen
  match cs, hlen, xs, hxl with
  | [c0, c1], _, [y0, y1], _ =>
    have g0 := hf 0 _ rfl
    have g1 := hf 1 _ rfl
    simp [kcells_in, kcells_qs] at g0 g1
    obtain ⟨n, e0, z0, _⟩ := DataW.trod_int Tryd.underlying3 g0
    obtain ⟨a, ln, cap, l, sp, e1, h1, h2, h3, h4⟩ := open_qs g1
    cases e0
    simp only [List.cons.injEq, and_true] at e1
    subst e1
    subst h1
    refine ⟨(n, a, cap, l), rfl, h3, fun b hb => ?_⟩
    rw [hx] at hb
    have hb1 : Rows.uptoBulk y1.1 ≤ b := by
      have e : Rows.uptoBulk (DataW.agg [y0.1, y1.1]) = Rows.uptoBulk (DataW.agg [y0.1, y1.1]) := rfl
      simp only [List.map_cons, List.map_nil, Rows.uptoBulk, Rows.uptoBulkAll] at hb
      omega
    exact bulk_headers hb1 h4

set_option maxRecDepth 100000 in
/-- What a list of them that came in gives. -/
theorem open_kblocks {W : World} {base : Nat} {v : Value} {d : DataW H} {p : List MemPlace} (hval : Value.okWide Tryd.prog W .any base 43 v) (h : DataW.Trod enc Tryd.prog W 0 (fun _ => true) true 43 v d p) :
    ∃ a n cap l, v = .slice a n cap ∧ l.length = n ∧ n ≤ cap ∧ KRd W.heap.size W a l ∧ (∀ b, Rows.uptoBulk d ≤ b → l.length ≤ b ∧ KSz b l) := by
  obtain ⟨a1, len, cap, rfl⟩ := okWide_slice Tryd.underlying43 hval
  obtain ⟨fuel, hf⟩ := h
  rcases Go.Deep.open_slice Tryd.underlying43 hf with ⟨hcs, hx⟩ | ⟨a, len', cap', m, n, D, Pl, hcs, _, hl, _, hm, hx, hel⟩
  · simp [Value.cells] at hcs
    obtain ⟨rfl, rfl, rfl⟩ := hcs
    exact ⟨none, 0, 0, [], rfl, rfl, Nat.le_refl _, (fun j x hx => by simp at hx), fun b _ => ⟨Nat.zero_le _, fun x hx => by cases hx⟩⟩
  · simp [Value.cells] at hcs
    obtain ⟨rfl, rfl, rfl⟩ := hcs
    simp only [if_true] at hm
    simp only [Prod.mk.injEq] at hx
    obtain ⟨rfl, rfl⟩ := hx
    have each : ∀ i, i < len → ∃ y : KB, (∀ j, j < 2 → W.cell? (a.add (i * 2 + j)) = ([.int .i64 y.1, .slice y.2.1 y.2.2.2.length y.2.2.1] : List Value)[j]?) ∧ QRdB W.heap.size W y.2.1 y.2.2.2 ∧ (∀ b, Rows.uptoBulk (D i) ≤ b → y.2.2.2.length ≤ b ∧ QSz b y.2.2.2) := by
      intro i hi
      obtain ⟨cs', h1, h2⟩ := hel i (by omega)
      rw [kcells_kb] at h1
      obtain ⟨_, hlen2, hcell⟩ := World.cells?_some h1
      obtain ⟨y, hy, hq, hb⟩ := open_kb h2
      refine ⟨y, fun j hj => ?_, hq, hb⟩
      have := hcell j (by omega)
      rw [Go.Deep.add_add] at this
      rw [this, hy]
    obtain ⟨X, hX⟩ := Go.Deep.choose_lt each
    refine ⟨some a, len, cap, (List.range len).map X, rfl, by simp, hl, ?_, fun b hb => ?_⟩
    · intro j x hx
      have hj : j < len := by
        have := (List.getElem?_eq_some_iff.1 hx).1
        simpa using this
      have hxj : X j = x := by simpa [hj] using hx
      obtain ⟨h5, h6, _⟩ := hX j hj
      rw [hxj] at h5 h6
      obtain ⟨ab, ao, spot⟩ := a
      have c0 := h5 0 (by omega)
      have hspot : spot = none := by simpa [Addr.add] using World.cell?_spot ((hX 0 (by omega)).1 0 (by omega))
      subst hspot
      have hb : ab < W.heap.size := by
        have := World.block_lt_of_cell? _ _ c0
        rwa [Addr.add_lit] at this
      have c1 := h5 1 (by omega)
      rw [Addr.add_lit] at c0 c1
      exact ⟨ab, ao, rfl, hb, c0, c1, h6⟩
    · have h1 : Rows.uptoBulkAll ((List.range len).map D) ≤ b := by simp only [Rows.uptoBulk] at hb; omega
      refine ⟨?_, fun x hx => ?_⟩
      · have := kbulk_length ((List.range len).map D)
        rw [List.length_map] at this ⊢
        omega
      · obtain ⟨i, hi, rfl⟩ := List.mem_map.1 hx
        exact (hX i (List.mem_range.1 hi)).2.2 b (Nat.le_trans (kbulk_part (List.mem_map_of_mem hi)) h1)
end

/-- Some Bool is handed back; where it is true the lists are few, and short. -/
def AllPost (l : List KB) (n : Nat) (w : World) (e : Ending) (w' : World) : Prop := (∃ b, e = .returned (.bool b) ∧ (b = true → n ≤ 20 ∧ ∀ x ∈ l, x.2.2.2.length ≤ 60)) ∧ Below w.heap.size w w'

set_option maxRecDepth 100000 in
set_option maxHeartbeats 1000000 in
theorem kall_any {K : Nat} (a : Option Addr) (n c : Nat) (l : List KB) (w : World) (hl : l.length = n) (hr : KRd K w a l) (hK : K ≤ w.heap.size) (hs : KSz 1048576 l) :
    Calls Tryd.prog 22 #[.slice a n c] w (AllPost l n w) := by
  have HL := Lib.hid hl
  have HR := Lib.hid hr
  have HS := Lib.hid hs
  clear hl hr hs
  go_enter Tryd.func22, Tryd.ntmps22
  by_cases h20 : 20 < n
  · have q : (20 : Int) < (n : Int) := by omega
    go_wp2
    go_ret
    exact ⟨⟨_, rfl, by intro h; simp at h⟩, Below.refl _ _⟩
  have q : ¬ (20 : Int) < (n : Int) := by omega
  go_wp2
  go_loopw [3] (fun i wr => ∃ k : Nat, k ≤ n ∧ i = .int .i64 k ∧ Hid (∀ j x, j < k → l[j]? = some x → x.2.2.2.length ≤ 60) ∧ Hid (Below w.heap.size w wr)) (fun i _ => n - (intOf i).toNat)
  case atStart => exact ⟨0, Nat.zero_le _, rfl, fun j x hj => by omega, Below.refl _ _⟩
  case round =>
    obtain ⟨k, hk, rfl, H60, HB⟩ := hrel
    by_cases hlt : k < n
    · obtain ⟨x, hx⟩ : ∃ x, l[k]? = some x := ⟨_, List.getElem?_eq_getElem (by rw [HL.out]; exact hlt)⟩
      have hsx := HS.out x (List.mem_of_getElem? hx)
      obtain ⟨b, o, rfl, hbK, d0, d1, d2⟩ := (HR.out.belowB HB.out hK) k x hx
      have HX := Lib.hid hx
      obtain ⟨sz, xa, xc, xl⟩ := x
      simp only at d0 d1 d2 hsx
      have hz := HB.out.size
      have q1 : (k : Int) < (n : Int) := by omega
      have q0 : (0 : Int) ≤ (k : Int) := by omega
      have HA := Lib.hid (klight_any xa xl.length xc xl wr rfl d2 (by omega) (fun y hy => ⟨Nat.le_trans (hsx.2 y hy).1 (by decide), Nat.le_trans (hsx.2 y hy).2 (by decide)⟩))
      clear hx d2
      go_wp2_with fail
      refine HA.out.mono ?_
      rintro e w2 ⟨⟨bb, rfl, hbb⟩, hb2⟩
      have HB2 := Lib.hid (HB.out.trans (hb2.mono hz))
      have Hbb := Lib.hid hbb
      clear hb2 HA HB hbb
      cases bb
      · go_wp2
        go_ret
        exact ⟨⟨_, rfl, by intro h; simp at h⟩, HB2.out⟩
      · go_wp2
        go_roundw
        case rel =>
          refine ⟨k + 1, by omega, by rw [Int.natCast_add]; rfl, ?_, HB2⟩
          intro j x hj hx
          by_cases e : j = k
          · subst e
            rw [HX.out] at hx
            cases hx
            exact Hbb.out (by trivial)
          · exact H60.out j x (by omega) hx
        case measure => simp [intOf]; omega
    · obtain rfl : k = n := by omega
      have q1 : ¬ (k : Int) < (k : Int) := by omega
      go_wp2
      go_ret
      refine ⟨⟨_, rfl, fun _ => ⟨by omega, fun x hx => ?_⟩⟩, HB.out⟩
      obtain ⟨j, hj, e⟩ := List.getElem_of_mem hx
      exact H60.out j x (by rw [← HL.out]; exact hj) (by rw [List.getElem?_eq_getElem hj, e])
end Go.Proofs.YtcbljbdcnahfhaaDoor
