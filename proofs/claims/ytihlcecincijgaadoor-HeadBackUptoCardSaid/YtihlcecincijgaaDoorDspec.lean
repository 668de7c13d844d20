/-
What a request's list is, and an answer's, in the reference's words.
-/
import Derived.Test.YtihlcecincijgaaDoorDmath
namespace Go.Proofs.YtihlcecincijgaaDoor
namespace D

/-- The headers of a name. -/
def ofN (n : ByteArray) (l : List HB) : List HB := l.filter (fun x => decide (x.1.1 = n))
def allN (n : ByteArray) (l : List HB) : List ByteArray := (ofN n l).map (·.1.2)
def fstN (n : ByteArray) (l : List HB) : ByteArray := (allN n l).headD ⟨#[]⟩
def known (n : ByteArray) : Bool := decide (n = kMethod) || decide (n = kScheme) || decide (n = kPath) || decide (n = kAuthority)
/-- What may stand at a request's front. -/
def ok1 (F : List HB) (x : HB) : Bool := known x.1.1 && !decide (1 < (allN x.1.1 F).length) && value x.1.2
def tks (F : List HB) : Bool := F.all (fun x => qtk (if x.1.1 = kMethod then 0 else if x.1.1 = kScheme then 1 else if x.1.1 = kAuthority then 2 else 3) x.1.2)

def has (k : Nat) (P : List HB) : Bool := P.any (fun x => decide (x.1.1 = qkey k))
def remB (b0 b1 b2 b3 : Bool) : List Nat := (if b0 then [] else [0]) ++ (if b1 then [] else [1]) ++ (if b2 then [] else [2]) ++ (if b3 then [] else [3])
def remP (P : List HB) : List Nat := remB (has 0 P) (has 1 P) (has 2 P) (has 3 P)
def rqP (P : List HB) : Rq := ⟨fstN kMethod P, fstN kScheme P, fstN kAuthority P, fstN kPath P⟩

/-- Which of the four names. -/
def kOf (n : ByteArray) : Nat := if n = kMethod then 0 else if n = kScheme then 1 else if n = kAuthority then 2 else if n = kPath then 3 else 4
theorem qkey_kOf {n : ByteArray} (h : kOf n < 4) : qkey (kOf n) = n := by
  unfold kOf at h ⊢
  split
  · rename_i e; rw [e]; rfl
  · split
    · rename_i e; rw [e]; rfl
    · split
      · rename_i e; rw [e]; rfl
      · split
        · rename_i e; rw [e]; rfl
        · simp_all
theorem kOf_qkey : ∀ k, k < 4 → kOf (qkey k) = k := by decide
theorem key_iff {n : ByteArray} {k : Nat} (hk : k < 4) : qkey k = n ↔ kOf n = k := by
  constructor
  · rintro rfl; exact kOf_qkey k hk
  · intro h; rw [← h]; exact qkey_kOf (by omega)
theorem known_iff {n : ByteArray} : known n = decide (kOf n < 4) := by
  by_cases h0 : n = kMethod
  · subst h0; decide
  · by_cases h1 : n = kScheme
    · subst h1; decide
    · by_cases h2 : n = kAuthority
      · subst h2; decide
      · by_cases h3 : n = kPath
        · subst h3; decide
        · simp [known, kOf, h0, h1, h2, h3]

/-- What is found among the rules that are left. -/
def fnd (b0 b1 b2 b3 : Bool) (j : Nat) : Option Nat := (remB b0 b1 b2 b3).findIdx? (fun k => decide (k = j))
theorem fnd_tab : ∀ b0 b1 b2 b3 : Bool, ∀ j : Fin 5, fnd b0 b1 b2 b3 j = (if j.val = 0 ∧ b0 = false ∨ j.val = 1 ∧ b1 = false ∨ j.val = 2 ∧ b2 = false ∨ j.val = 3 ∧ b3 = false then some (((remB b0 b1 b2 b3).takeWhile (fun k => !decide (k = j.val))).length) else none) := by decide
theorem rem_tab : ∀ b0 b1 b2 b3 : Bool, ∀ j : Fin 4, (j.val = 0 ∧ b0 = false ∨ j.val = 1 ∧ b1 = false ∨ j.val = 2 ∧ b2 = false ∨ j.val = 3 ∧ b3 = false) →
    (remB b0 b1 b2 b3).getD (((remB b0 b1 b2 b3).takeWhile (fun k => !decide (k = j.val))).length) 0 = j.val ∧
    (remB b0 b1 b2 b3).eraseIdx (((remB b0 b1 b2 b3).takeWhile (fun k => !decide (k = j.val))).length) = remB (b0 || decide (j.val = 0)) (b1 || decide (j.val = 1)) (b2 || decide (j.val = 2)) (b3 || decide (j.val = 3)) := by decide
theorem remB_lt : ∀ b0 b1 b2 b3 : Bool, ∀ k ∈ remB b0 b1 b2 b3, k < 4 := by decide

theorem find_congr {l : List Nat} {p q : Nat → Bool} (h : ∀ k ∈ l, p k = q k) : l.findIdx? p = l.findIdx? q := by
  induction l with
  | nil => rfl
  | cons a l ih =>
    rw [List.findIdx?_cons, List.findIdx?_cons, h a List.mem_cons_self, ih (fun k hk => h k (List.mem_cons_of_mem _ hk))]
theorem has_key {k : Nat} (hk : k < 4) (P : List HB) : has k P = P.any (fun x => decide (kOf x.1.1 = k)) := by
  unfold has
  congr 1
  funext x
  rw [decide_eq_decide, eq_comm, key_iff hk]
theorem has_app (k : Nat) (P : List HB) (x : HB) (hk : k < 4) : has k (P ++ [x]) = (has k P || decide (kOf x.1.1 = k)) := by
  rw [has_key hk, has_key hk, List.any_append]
  simp
theorem ofN_app (n : ByteArray) (P Q : List HB) : ofN n (P ++ Q) = ofN n P ++ ofN n Q := List.filter_append ..
theorem allN_app (n : ByteArray) (P Q : List HB) : allN n (P ++ Q) = allN n P ++ allN n Q := by simp [allN, ofN_app]
theorem has_false {k : Nat} {P : List HB} (h : has k P = false) : allN (qkey k) P = [] := by
  unfold allN ofN
  rw [List.map_eq_nil_iff, List.filter_eq_nil_iff]
  intro x hx
  unfold has at h
  rw [List.any_eq_false] at h
  exact h x hx
theorem has_true {k : Nat} {P : List HB} (h : has k P = true) : 0 < (allN (qkey k) P).length := by
  unfold has at h
  rw [List.any_eq_true] at h
  obtain ⟨x, hx, e⟩ := h
  unfold allN ofN
  rw [List.length_map]
  exact List.length_pos_of_mem (List.mem_filter.2 ⟨hx, e⟩)
theorem fstN_app_no {n : ByteArray} {P : List HB} {x : HB} (h : x.1.1 ≠ n) : fstN n (P ++ [x]) = fstN n P := by
  unfold fstN
  rw [allN_app]
  have : allN n [x] = [] := by simp [allN, ofN, h]
  rw [this, List.append_nil]
theorem fstN_app_new {n : ByteArray} {P : List HB} {x : HB} (h : x.1.1 = n) (h0 : allN n P = []) : fstN n (P ++ [x]) = x.1.2 := by
  unfold fstN
  rw [allN_app, h0]
  simp [allN, ofN, h]

/-- A step, with what went ahead. -/
theorem stp_P (P : List HB) (x : HB) : stp RQ (remP P) (rqP P) x =
    if kOf x.1.1 < 4 ∧ has (kOf x.1.1) P = false ∧ value x.1.2 = true ∧ qtk (kOf x.1.1) x.1.2 = true then some (remP (P ++ [x]), rqP (P ++ [x])) else none := by
  have e0 : (remP P).findIdx? (fun k => decide (RQ.key k = x.1.1)) = fnd (has 0 P) (has 1 P) (has 2 P) (has 3 P) (kOf x.1.1) := by
    unfold remP fnd
    refine find_congr (fun k hk => ?_)
    rw [decide_eq_decide]
    show qkey k = x.1.1 ↔ _
    rw [key_iff (remB_lt _ _ _ _ k hk)]
    exact eq_comm
  have hk5 : kOf x.1.1 < 5 := by unfold kOf; (repeat' split) <;> omega
  have t1 := fnd_tab (has 0 P) (has 1 P) (has 2 P) (has 3 P) ⟨kOf x.1.1, hk5⟩
  simp only at t1
  unfold stp
  rw [e0, t1]
  clear e0 t1
  by_cases hcase : kOf x.1.1 < 4 ∧ has (kOf x.1.1) P = false
  · obtain ⟨hk, hh⟩ := hcase
    have hor : (kOf x.1.1 = 0 ∧ has 0 P = false ∨ kOf x.1.1 = 1 ∧ has 1 P = false ∨ kOf x.1.1 = 2 ∧ has 2 P = false ∨ kOf x.1.1 = 3 ∧ has 3 P = false) := by
      have h4 : kOf x.1.1 = 0 ∨ kOf x.1.1 = 1 ∨ kOf x.1.1 = 2 ∨ kOf x.1.1 = 3 := by omega
      rcases h4 with e | e | e | e <;> (rw [e] at hh; simp [e, hh])
    rw [if_pos hor]
    obtain ⟨r1, r2⟩ := rem_tab (has 0 P) (has 1 P) (has 2 P) (has 3 P) ⟨kOf x.1.1, hk⟩ hor
    simp only at r1 r2
    simp only
    show (if value x.1.2 && qtk _ x.1.2 then some (_, qupd _ _ _) else none) = _
    rw [show (remP P).getD _ 0 = kOf x.1.1 from r1, show (remP P).eraseIdx _ = _ from r2]
    have er : remB (has 0 P || decide (kOf x.1.1 = 0)) (has 1 P || decide (kOf x.1.1 = 1)) (has 2 P || decide (kOf x.1.1 = 2)) (has 3 P || decide (kOf x.1.1 = 3)) = remP (P ++ [x]) := by
      unfold remP
      rw [has_app 0 P x (by omega), has_app 1 P x (by omega), has_app 2 P x (by omega), has_app 3 P x (by omega)]
    rw [er]
    have eg : qupd (rqP P) (kOf x.1.1) x.1.2 = rqP (P ++ [x]) := by
      have hn := has_false hh
      rw [qkey_kOf hk] at hn
      have hne : ∀ j, j < 4 → j ≠ kOf x.1.1 → fstN (qkey j) (P ++ [x]) = fstN (qkey j) P := fun j hj hje => fstN_app_no (fun e => hje ((key_iff hj).1 e.symm).symm)
      have hnew : fstN (qkey (kOf x.1.1)) (P ++ [x]) = x.1.2 := by rw [qkey_kOf hk]; exact fstN_app_new rfl hn
      have h0 := hne 0 (by omega); have h1 := hne 1 (by omega); have h2 := hne 2 (by omega); have h3 := hne 3 (by omega)
      have q0 : qkey 0 = kMethod := rfl
      have q1 : qkey 1 = kScheme := rfl
      have q2 : qkey 2 = kAuthority := rfl
      have q3 : qkey 3 = kPath := rfl
      rw [q0] at h0; rw [q1] at h1; rw [q2] at h2; rw [q3] at h3
      have h4 : kOf x.1.1 = 0 ∨ kOf x.1.1 = 1 ∨ kOf x.1.1 = 2 ∨ kOf x.1.1 = 3 := by omega
      unfold rqP qupd
      rcases h4 with e | e | e | e
      · rw [e] at hnew h1 h2 h3 ⊢; rw [q0] at hnew; simp [hnew, h1, h2, h3]
      · rw [e] at hnew h0 h2 h3 ⊢; rw [q1] at hnew; simp [hnew, h0, h2, h3]
      · rw [e] at hnew h0 h1 h3 ⊢; rw [q2] at hnew; simp [hnew, h0, h1, h3]
      · rw [e] at hnew h0 h1 h2 ⊢; rw [q3] at hnew; simp [hnew, h0, h1, h2]
    rw [eg]
    by_cases hv : value x.1.2 = true ∧ qtk (kOf x.1.1) x.1.2 = true
    · rw [if_pos (by simp [hv.1, hv.2]), if_pos ⟨hk, hh, hv.1, hv.2⟩]
    · rw [if_neg (by simpa using hv), if_neg (fun h => hv h.2.2)]
  · have hor : ¬ (kOf x.1.1 = 0 ∧ has 0 P = false ∨ kOf x.1.1 = 1 ∧ has 1 P = false ∨ kOf x.1.1 = 2 ∧ has 2 P = false ∨ kOf x.1.1 = 3 ∧ has 3 P = false) := by
      rintro (⟨e, h⟩ | ⟨e, h⟩ | ⟨e, h⟩ | ⟨e, h⟩) <;> exact hcase ⟨by omega, by rw [e]; exact h⟩
    rw [if_neg hor, if_neg (fun h => hcase ⟨h.1, h.2.1⟩)]

/-- A front that goes by all rules. -/
def good (F : List HB) : Bool := F.all (fun x => ok1 F x && qtk (kOf x.1.1) x.1.2)
theorem cnt_has {k : Nat} {P Q : List HB} {x : HB} (hk : kOf x.1.1 = k) (h4 : k < 4) (h : has k P = true) : 1 < (allN x.1.1 (P ++ x :: Q)).length := by
  have e : x.1.1 = qkey k := ((key_iff h4).2 hk).symm
  have hp := has_true h
  rw [show P ++ x :: Q = P ++ ([x] ++ Q) from rfl, allN_app, allN_app, e]
  have : allN (qkey k) [x] = [x.1.2] := by simp [allN, ofN, e]
  rw [this]
  simp
  omega

theorem foll_P (t P : List HB) (hP : good P = true) : foll RQ (remP P) (rqP P) t =
    if good (P ++ t.takeWhile colon) = true then some (remP (P ++ t.takeWhile colon), rqP (P ++ t.takeWhile colon), t.dropWhile colon) else none := by
  induction t generalizing P with
  | nil => simp [foll, hP]
  | cons x t ih =>
    by_cases hc : colon x = true
    · rw [List.takeWhile_cons, if_pos hc, List.dropWhile_cons, if_pos hc]
      by_cases hs : kOf x.1.1 < 4 ∧ has (kOf x.1.1) P = false ∧ value x.1.2 = true ∧ qtk (kOf x.1.1) x.1.2 = true
      · have e := stp_P P x
        rw [if_pos hs] at e
        rw [foll_some RQ hc e]
        have hP' : good (P ++ [x]) = true := by
          obtain ⟨h1, h2, h3, h4⟩ := hs
          unfold good at hP ⊢
          rw [List.all_eq_true] at hP ⊢
          intro y hy
          have hcount : ∀ n, (∃ z ∈ P ++ [x], z.1.1 = n) → kOf n < 4 → (allN n P).length ≤ 1 → (allN n (P ++ [x])).length ≤ 1 := by
            intro n _ hn hl
            rw [allN_app, List.length_append]
            by_cases e : x.1.1 = n
            · have := has_false h2
              rw [qkey_kOf h1, e] at this
              rw [this]
              simp [allN, ofN, e]
            · have : allN n [x] = [] := by simp [allN, ofN, e]
              rw [this]; simpa using hl
          rw [List.mem_append] at hy
          rcases hy with hy | hy
          · have := hP y hy
            unfold ok1 at this ⊢
            simp only [Bool.and_eq_true, Bool.not_eq_true', decide_eq_false_iff_not] at this ⊢
            obtain ⟨⟨⟨a1, a2⟩, a3⟩, a4⟩ := this
            rw [known_iff] at a1
            refine ⟨⟨⟨by rw [known_iff]; exact a1, ?_⟩, a3⟩, a4⟩
            have := hcount y.1.1 ⟨y, by simp [hy], rfl⟩ (of_decide_eq_true a1) (by omega)
            omega
          · have e : y = x := by simpa using hy
            subst e
            unfold ok1
            simp only [Bool.and_eq_true, Bool.not_eq_true', decide_eq_false_iff_not]
            refine ⟨⟨⟨by rw [known_iff]; exact decide_eq_true h1, ?_⟩, h3⟩, h4⟩
            have h0 := has_false h2
            rw [qkey_kOf h1] at h0
            have := hcount y.1.1 ⟨y, by simp, rfl⟩ h1 (by rw [h0]; simp)
            omega
        rw [ih (P ++ [x]) hP', List.append_assoc]
        rfl
      · have e := stp_P P x
        rw [if_neg hs] at e
        rw [foll_none RQ hc e, if_neg]
        intro hg
        unfold good at hg
        rw [List.all_eq_true] at hg
        have := hg x (by simp)
        unfold ok1 at this
        simp only [Bool.and_eq_true, Bool.not_eq_true', decide_eq_false_iff_not] at this
        obtain ⟨⟨⟨a1, a2⟩, a3⟩, a4⟩ := this
        rw [known_iff] at a1
        have a1 := of_decide_eq_true a1
        refine hs ⟨a1, ?_, a3, a4⟩
        cases hh : has (kOf x.1.1) P with
        | false => rfl
        | true => exact absurd (cnt_has (Q := t.takeWhile colon) rfl a1 hh) a2
    · have hc' : colon x = false := by simpa using hc
      rw [foll_stop RQ hc', List.takeWhile_cons, if_neg hc, List.dropWhile_cons, if_neg hc]
      simp [hP]

def front (l : List HB) : List HB := l.takeWhile colon
def back (l : List HB) : List HB := l.dropWhile colon
theorem front_back (l : List HB) : front l ++ back l = l := List.takeWhile_append_dropWhile ..

theorem opn_front (l : List HB) : opn l = if good (front l) = true ∧ (back l).all plainH = true ∧ has 0 (front l) = true ∧ has 1 (front l) = true ∧ has 3 (front l) = true then some (rqP (front l), back l) else none := by
  have e : foll RQ [0, 1, 2, 3] rq0 l = if good (front l) = true then some (remP (front l), rqP (front l), back l) else none := foll_P l [] (by rfl)
  unfold opn follow
  rw [e]
  by_cases hg : good (front l) = true
  · rw [if_pos hg]
    simp only
    by_cases hp : (back l).all plainH = true
    · rw [if_pos hp]
      simp only
      have ht : ∀ b0 b1 b2 b3 : Bool, ((remB b0 b1 b2 b3).erase 2).isEmpty = (b0 && b1 && b3) := by decide
      unfold remP
      rw [ht]
      by_cases hh : has 0 (front l) = true ∧ has 1 (front l) = true ∧ has 3 (front l) = true
      · rw [if_pos (by simp [hh]), if_pos ⟨hg, hp, hh⟩]
      · rw [if_neg (by simpa [and_assoc] using hh), if_neg (fun h => hh h.2.2)]
    · rw [if_neg hp, if_neg (fun h => hp h.2.1)]
  · rw [if_neg hg, if_neg (fun h => hg h.1)]

/-- The same in the reference's words. -/
def roks (l : List HB) : Bool := (front l).all (ok1 (front l)) && qtk 0 (fstN kMethod (front l)) && qtk 1 (fstN kScheme (front l)) && qtk 3 (fstN kPath (front l)) && (back l).all plainH

theorem fst_mem {n : ByteArray} {F : List HB} (h : 0 < (allN n F).length) : ∃ x ∈ F, x.1.1 = n ∧ x.1.2 = fstN n F := by
  unfold allN at h
  rw [List.length_map] at h
  cases hf : ofN n F with
  | nil => rw [hf] at h; simp at h
  | cons x t =>
    have hm : x ∈ ofN n F := by rw [hf]; exact List.mem_cons_self
    unfold ofN at hm
    rw [List.mem_filter] at hm
    refine ⟨x, hm.1, of_decide_eq_true hm.2, ?_⟩
    unfold fstN allN
    rw [hf]
    rfl
theorem fst_one {F : List HB} {x : HB} (hx : x ∈ F) (h : ¬ 1 < (allN x.1.1 F).length) : x.1.2 = fstN x.1.1 F := by
  have hm : x ∈ ofN x.1.1 F := List.mem_filter.2 ⟨hx, by simp⟩
  unfold fstN allN at *
  cases hf : ofN x.1.1 F with
  | nil => rw [hf] at hm; cases hm
  | cons y t =>
    rw [hf] at hm h
    cases t with
    | nil =>
      have : x = y := by simpa using hm
      rw [← this]
      rfl
    | cons z t => simp at h
theorem has_of_fst {k : Nat} {F : List HB} (h : qtk k (fstN (qkey k) F) = true) (h0 : qtk k ⟨#[]⟩ = false) : has k F = true := by
  cases hh : has k F with
  | true => rfl
  | false =>
    have := has_false hh
    unfold fstN at h
    rw [this] at h
    rw [show ([] : List ByteArray).headD ⟨#[]⟩ = ⟨#[]⟩ from rfl, h0] at h
    cases h

theorem good_iff (F : List HB) : (good F = true ∧ has 0 F = true ∧ has 1 F = true ∧ has 3 F = true) ↔ (F.all (ok1 F) = true ∧ qtk 0 (fstN kMethod F) = true ∧ qtk 1 (fstN kScheme F) = true ∧ qtk 3 (fstN kPath F) = true) := by
  unfold good
  simp only [List.all_eq_true, Bool.and_eq_true]
  constructor
  · rintro ⟨hg, h0, h1, h3⟩
    have key : ∀ k, k < 4 → has k F = true → qtk k (fstN (qkey k) F) = true := by
      intro k hk h
      obtain ⟨x, hx, e1, e2⟩ := fst_mem (has_true h)
      have := (hg x hx).2
      rw [(key_iff hk).1 e1.symm, e2] at this
      exact this
    exact ⟨fun x hx => (hg x hx).1, key 0 (by omega) h0, key 1 (by omega) h1, key 3 (by omega) h3⟩
  · rintro ⟨ho, h0, h1, h3⟩
    have hall : ∀ k, k < 4 → k ≠ 2 → qtk k (fstN (qkey k) F) = true := by
      intro k hk h2
      have : k = 0 ∨ k = 1 ∨ k = 3 := by omega
      rcases this with rfl | rfl | rfl
      · exact h0
      · exact h1
      · exact h3
    refine ⟨fun x hx => ⟨ho x hx, ?_⟩, has_of_fst (hall 0 (by omega) (by omega)) (by decide), has_of_fst (hall 1 (by omega) (by omega)) (by decide), has_of_fst (hall 3 (by omega) (by omega)) (by decide)⟩
    have hox := ho x hx
    unfold ok1 at hox
    simp only [Bool.and_eq_true, Bool.not_eq_true', decide_eq_false_iff_not] at hox
    obtain ⟨⟨a1, a2⟩, a3⟩ := hox
    rw [known_iff] at a1
    have a1 := of_decide_eq_true a1
    by_cases h2 : kOf x.1.1 = 2
    · rw [h2]; rfl
    · have := hall _ a1 h2
      rw [qkey_kOf a1, ← fst_one hx a2] at this
      exact this

theorem opn_ref (l : List HB) : opn l = if roks l = true then some (rqP (front l), back l) else none := by
  rw [opn_front]
  have := good_iff (front l)
  by_cases h : roks l = true
  · rw [if_pos h]
    unfold roks at h
    simp only [Bool.and_eq_true] at h
    obtain ⟨⟨⟨⟨a, b⟩, c⟩, d⟩, e⟩ := h
    obtain ⟨p, q⟩ := this.2 ⟨a, b, c, d⟩
    rw [if_pos ⟨p, e, q⟩]
  · rw [if_neg h, if_neg]
    rintro ⟨p, e, q⟩
    obtain ⟨a, b, c, d⟩ := this.1 ⟨p, q⟩
    exact h (by unfold roks; simp only [Bool.and_eq_true]; exact ⟨⟨⟨⟨a, b⟩, c⟩, d⟩, e⟩)
end D
end Go.Proofs.YtihlcecincijgaaDoor
