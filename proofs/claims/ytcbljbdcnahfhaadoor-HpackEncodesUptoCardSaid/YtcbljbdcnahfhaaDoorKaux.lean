/-
What stands where but two blocks change; lists whose headers are changed one by one.
-/
import Derived.Test.YtcbljbdcnahfhaaDoorMke
import Derived.Test.YtcbljbdcnahfhaaDoorKlist
import Derived.Test.YtcbljbdcnahfhaaDoorMkg
namespace Go.Proofs.YtcbljbdcnahfhaaDoor
open Go.RowKit

theorem QOwn.same {K : Nat} {w w' : World} {v : Value} {l : List (B.HD × Bool)} (h : QOwn K w v l) (hb : ∀ g, v.ownBlock = some g → w'.heap[g]? = w.heap[g]?) : QOwn K w' v l := by
  refine ⟨h.1, ?_⟩
  rcases h.2 with e | ⟨g, cp, cur, e, h1, h2, h3⟩
  · exact .inl e
  · exact .inr ⟨g, cp, cur, e, h1, (hb g (by rw [e]; rfl)).trans h2, h3⟩
theorem Tab.at {w w' : World} {g m : Nat} {L : List B.HD} (h : Tab w g L m) (e : w'.heap[g]? = w.heap[g]?) : Tab w' g L m := by
  obtain ⟨R, o, h1, h2, h3⟩ := h
  exact ⟨R, o, h1, fun j hj => ⟨(World.cell?_of_block (a := ⟨g, j, none⟩) e).trans (h2 j hj).1, (World.frozen?_of_block (a := ⟨g, j, none⟩) e).trans (h2 j hj).2⟩, h3⟩
theorem ownN_rd3 {B : Nat} {w : World} {v : Value} {l : List Nat} (h : OwnN B w v l) (hb : ∀ x ∈ l, x < 256) : ∃ a cp, v = .slice a l.length cp ∧ l.length ≤ cp ∧ Rd w.heap.size w a l ∧ ∀ ad, a = some ad → l ≠ [] → B ≤ ad.block := by
  by_cases hl : l = []
  · subst hl
    obtain ⟨a, cp, e⟩ := h.shape
    exact ⟨a, cp, e, Nat.zero_le _, Rd.nil _ _ _, fun _ _ h => absurd rfl h⟩
  · obtain ⟨g, cp, e, h1, h2, _, hr⟩ := ownN_rd h hl hb
    exact ⟨_, cp, e, h1, hr, fun ad e _ => by cases e; exact h2⟩

/-- The first k headers are Never. -/
def nvr : Nat → List (B.HD × Bool) → List (B.HD × Bool)
  | 0, l => l
  | _ + 1, [] => []
  | k + 1, x :: t => (x.1, true) :: nvr k t
theorem nvr_len : ∀ (k : Nat) (l : List (B.HD × Bool)), (nvr k l).length = l.length
  | 0, _ => rfl
  | _ + 1, [] => rfl
  | k + 1, x :: t => by simp only [nvr, List.length_cons, nvr_len k t]
theorem nvr_step : ∀ (k : Nat) (l : List (B.HD × Bool)), k < l.length → (nvs (nvr k l)).set (k * 3 + 2) (.bool true) = nvs (nvr (k + 1) l)
  | _, [], h => by simp at h
  | 0, x :: t, _ => rfl
  | k + 1, x :: t, h => by
    have := nvr_step k t (by simpa using h)
    rw [show (k + 1) * 3 + 2 = k * 3 + 2 + 3 by omega]
    show _ :: _ :: _ :: (nvs (nvr k t)).set (k * 3 + 2) (.bool true) = _
    rw [this]
    rfl
theorem nvr_totA : ∀ (k : Nat) (l : List (B.HD × Bool)), P.totA (nvr k l) = P.totA l
  | 0, _ => rfl
  | _ + 1, [] => rfl
  | k + 1, x :: t => by
    have := nvr_totA k t
    have e : ∀ (y : B.HD × Bool) r, P.totA (y :: r) = B.sz y.1 + P.totA r := fun y r => by simp only [P.totA, List.map_cons, B.tot]
    show P.totA ((x.1, true) :: nvr k t) = _
    rw [e, e, this]
theorem nvr_all : ∀ (l : List (B.HD × Bool)), ∀ x ∈ nvr l.length l, x.2 = true
  | [], x, h => by cases h
  | y :: t, x, h => by
    rcases List.mem_cons.1 h with rfl | h
    · rfl
    · exact nvr_all t x h
/-- A cell of a list of the call's own is set. -/
theorem QOwn.stored {K : Nat} {w : World} {g n cp : Nat} {l l' : List (B.HD × Bool)} (h : QOwn K w (.slice (some ⟨g, 0, none⟩) n cp) l) (hn : l.length = n) (hn' : l'.length = n) (j : Nat) (u : Value) (e : (nvs l).set j u = nvs l') :
    QOwn K (w.setCell ⟨g, j, none⟩ u) (.slice (some ⟨g, 0, none⟩) n cp) l' := by
  subst hn
  have := (World.ownsRow.stored h j u).1
  rw [e] at this
  show World.ownsRow _ _ _ _ _ _ _
  rw [hn']
  exact this
theorem QOwn.free {K : Nat} {w : World} {g n cp : Nat} {l : List (B.HD × Bool)} (h : QOwn K w (.slice (some ⟨g, 0, none⟩) n cp) l) (j : Nat) : w.frozen? ⟨g, j, none⟩ = false := by
  rcases h.2 with ⟨h', _⟩ | ⟨g', cap', cur, h', _, hg, _⟩
  · cases h'
  · cases h'
    exact frozen_of_row w g j cur _ hg
theorem nvs_set0 : ∀ (l : List (B.HD × Bool)) (k : Nat) (s : ByteArray), ∃ l', l'.length = l.length ∧ (nvs l).set (k * 3) (.string s) = nvs l'
  | [], _, _ => ⟨[], rfl, rfl⟩
  | x :: t, 0, s => ⟨((s, x.1.2), x.2) :: t, rfl, rfl⟩
  | x :: t, k + 1, s => by
    obtain ⟨l', h1, h2⟩ := nvs_set0 t k s
    refine ⟨x :: l', by simp [h1], ?_⟩
    rw [show (k + 1) * 3 = k * 3 + 3 by omega]
    show _ :: _ :: _ :: (nvs t).set (k * 3) (.string s) = _
    rw [h2]
    rfl
theorem nvs_set1 : ∀ (l : List (B.HD × Bool)) (k : Nat) (s : ByteArray), ∃ l', l'.length = l.length ∧ (nvs l).set (k * 3 + 1) (.string s) = nvs l'
  | [], _, _ => ⟨[], rfl, rfl⟩
  | x :: t, 0, s => ⟨((x.1.1, s), x.2) :: t, rfl, rfl⟩
  | x :: t, k + 1, s => by
    obtain ⟨l', h1, h2⟩ := nvs_set1 t k s
    refine ⟨x :: l', by simp [h1], ?_⟩
    rw [show (k + 1) * 3 + 1 = k * 3 + 1 + 3 by omega]
    show _ :: _ :: _ :: (nvs t).set (k * 3 + 1) (.string s) = _
    rw [h2]
    rfl
theorem vals_set (l : List Nat) (k c : Nat) : (vals l).set k (.int .u8 (c : Nat)) = vals (l.set k c) := by
  unfold vals
  rw [List.map_set]
theorem OwnN.stored {K : Nat} {w : World} {g n cp : Nat} {l : List Nat} (h : OwnN K w (.slice (some ⟨g, 0, none⟩) n cp) l) (hn : l.length = n) (j c : Nat) : OwnN K (w.setCell ⟨g, j, none⟩ (.int .u8 (c : Nat))) (.slice (some ⟨g, 0, none⟩) n cp) (l.set j c) := by
  subst hn
  have := (World.ownsRow.stored h j (.int .u8 (c : Nat))).1
  rw [vals_set] at this
  show World.ownsRow _ _ _ _ _ _ _
  rw [List.length_set]
  exact this
theorem OwnN.free {K : Nat} {w : World} {g n cp : Nat} {l : List Nat} (h : OwnN K w (.slice (some ⟨g, 0, none⟩) n cp) l) (j : Nat) : w.frozen? ⟨g, j, none⟩ = false := by
  rcases h.2 with ⟨h', _⟩ | ⟨g', cap', cur, h', _, hg, _⟩
  · cases h'
  · cases h'
    exact frozen_of_row w g j cur _ hg
theorem OwnN.at {K : Nat} {w : World} {g n cp : Nat} {l : List Nat} (h : OwnN K w (.slice (some ⟨g, 0, none⟩) n cp) l) (hn : l.length = n) (j : Nat) (hj : j < n) : ∃ v, w.cell? ⟨g, j, none⟩ = some v := by
  subst hn
  have h2 := World.ownsRow.cellAt h j (by omega)
  have : j < (vals l).length := by unfold vals; rw [List.length_map]; exact hj
  rw [List.getElem?_eq_getElem this] at h2
  exact ⟨_, h2⟩
theorem OwnN.same {K : Nat} {w w' : World} {v : Value} {l : List Nat} (h : OwnN K w v l) (hb : ∀ g, v.ownBlock = some g → w'.heap[g]? = w.heap[g]?) : OwnN K w' v l := by
  refine ⟨h.1, ?_⟩
  rcases h.2 with e | ⟨g, cp, cur, e, h1, h2, h3⟩
  · exact .inl e
  · exact .inr ⟨g, cp, cur, e, h1, (hb g (by rw [e]; rfl)).trans h2, h3⟩
theorem OwnN.owned {K : Nat} {w : World} {v : Value} {l : List Nat} (h : OwnN K w v l) : (v = .slice none 0 0 ∧ l = []) ∨ ∃ g cp, v = .slice (some ⟨g, 0, none⟩) l.length cp ∧ K ≤ g ∧ g < w.heap.size := by
  rcases h.2 with ⟨h1, h2⟩ | ⟨g, cap, cur, rfl, hb, hgg, _⟩
  · exact Or.inl ⟨h1, List.length_eq_zero_iff.1 h2⟩
  · exact Or.inr ⟨g, cap, rfl, hb, (Array.getElem?_eq_some_iff.1 hgg).1⟩
end Go.Proofs.YtcbljbdcnahfhaaDoor
