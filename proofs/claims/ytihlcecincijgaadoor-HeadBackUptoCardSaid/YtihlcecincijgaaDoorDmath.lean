/-
The plain functions of chapter 6 (what header lists may be), and what follows of them; nothing of any program stands here.
-/
namespace Go.Proofs.YtihlcecincijgaaDoor
namespace D

/-- A header: its name, its value, its Never. -/
abbrev HB := (ByteArray × ByteArray) × Bool

def marks : List UInt8 := [33, 35, 36, 37, 38, 39, 42, 43, 45, 46, 94, 95, 96, 124, 126]
/-- A byte of a name. -/
def nmC (c : UInt8) : Bool := decide (97 ≤ c.toNat ∧ c.toNat ≤ 122) || decide (48 ≤ c.toNat ∧ c.toNat ≤ 57) || marks.contains c
def nameL (l : List UInt8) : Bool := l.all nmC && !l.isEmpty
def name (s : ByteArray) : Bool := nameL s.data.toList
/-- A byte of a value. -/
def vlC (c : UInt8) : Bool := !(c == 0) && !(c == 10) && !(c == 13)
def blank (c : UInt8) : Bool := c == 32 || c == 9
def endsL (l : List UInt8) : Bool := !(l.head?.any blank) && !(l.getLast?.any blank)
def valueL (l : List UInt8) : Bool := l.all vlC && endsL l
def value (s : ByteArray) : Bool := valueL s.data.toList

def te : ByteArray := ⟨#[116, 101]⟩
def trailers : ByteArray := ⟨#[116, 114, 97, 105, 108, 101, 114, 115]⟩
def b1 : ByteArray := ⟨#[99, 111, 110, 110, 101, 99, 116, 105, 111, 110]⟩
def b2 : ByteArray := ⟨#[112, 114, 111, 120, 121, 45, 99, 111, 110, 110, 101, 99, 116, 105, 111, 110]⟩
def b3 : ByteArray := ⟨#[107, 101, 101, 112, 45, 97, 108, 105, 118, 101]⟩
def b4 : ByteArray := ⟨#[116, 114, 97, 110, 115, 102, 101, 114, 45, 101, 110, 99, 111, 100, 105, 110, 103]⟩
def b5 : ByteArray := ⟨#[117, 112, 103, 114, 97, 100, 101]⟩
def banned (n : ByteArray) : Bool := decide (n = b1) || decide (n = b2) || decide (n = b3) || decide (n = b4) || decide (n = b5)
/-- A plain header. -/
def plain (n v : ByteArray) : Bool := name n && value v && !banned n && (!decide (n = te) || decide (v = trailers))
def plainH (x : HB) : Bool := plain x.1.1 x.1.2

/-- A name that begins with a colon. -/
def colonN (n : ByteArray) : Bool := decide (n.data.toList.head? = some 58)
def colon (x : HB) : Bool := colonN x.1.1

theorem plain_te {n v : ByteArray} (h : n = te) : plain n v = decide (v = trailers) := by
  subst h
  by_cases hv : v = trailers
  · subst hv; decide
  · simp [plain, hv]
theorem plain_banned {n v : ByteArray} (h : banned n = true) : plain n v = false := by simp [plain, h]
theorem plain_else {n v : ByteArray} (h : banned n = false) (ht : n ≠ te) : plain n v = (name n && value v) := by simp [plain, h, ht]
theorem banned_te : banned te = false := by decide

theorem nm58 : nmC 58 = false := by decide
/-- No plain header's name begins with a colon. -/
theorem plain_colon {x : HB} (h : colon x = true) : plainH x = false := by
  unfold colon colonN at h
  have h := of_decide_eq_true h
  unfold plainH plain name nameL
  cases hl : x.1.1.data.toList with
  | nil => rw [hl] at h; cases h
  | cons c t =>
    rw [hl] at h
    have : c = 58 := by simpa using h
    subst this
    simp [nm58]

/-- What begins at the front goes by rules: by number, a rule's name and what it takes; g: what they tell. -/
structure Rl (γ : Type) where
  key : Nat → ByteArray
  tk : Nat → ByteArray → Bool
  upd : γ → Nat → ByteArray → γ

section
variable {γ : Type} (R : Rl γ)

def stp (rem : List Nat) (g : γ) (x : HB) : Option (List Nat × γ) :=
  match rem.findIdx? (fun k => decide (R.key k = x.1.1)) with
  | none => none
  | some i => if value x.1.2 && R.tk (rem.getD i 0) x.1.2 then some (rem.eraseIdx i, R.upd g (rem.getD i 0) x.1.2) else none
def foll : List Nat → γ → List HB → Option (List Nat × γ × List HB)
  | rem, g, [] => some (rem, g, [])
  | rem, g, x :: t => if colon x then (match stp R rem g x with | none => none | some (rem', g') => foll rem' g' t) else some (rem, g, x :: t)
/-- .. and what stands behind must be plain. -/
def follow (rem : List Nat) (g : γ) (l : List HB) : Option (List Nat × γ × List HB) :=
  match foll R rem g l with
  | none => none
  | some r => if r.2.2.all plainH then some r else none

theorem foll_none {rem : List Nat} {g : γ} {x : HB} {t : List HB} (hc : colon x = true) (h : stp R rem g x = none) : foll R rem g (x :: t) = none := by
  simp [foll, hc, h]
theorem foll_some {rem rem' : List Nat} {g g' : γ} {x : HB} {t : List HB} (hc : colon x = true) (h : stp R rem g x = some (rem', g')) : foll R rem g (x :: t) = foll R rem' g' t := by
  simp [foll, hc, h]
theorem foll_stop {rem : List Nat} {g : γ} {x : HB} {t : List HB} (hc : colon x = false) : foll R rem g (x :: t) = some (rem, g, x :: t) := by
  simp [foll, hc]
theorem foll_len {rem rem' : List Nat} {g g' : γ} {l t : List HB} (h : foll R rem g l = some (rem', g', t)) : t.length ≤ l.length := by
  induction l generalizing rem g with
  | nil => simp [foll] at h; simp [← h.2.2]
  | cons x l ih =>
    by_cases hc : colon x = true
    · cases hs : stp R rem g x with
      | none => rw [foll_none R hc hs] at h; cases h
      | some p =>
        obtain ⟨r1, g1⟩ := p
        rw [foll_some R hc hs] at h
        have := ih h
        simp only [List.length_cons]; omega
    · rw [foll_stop R (by simpa using hc)] at h
      simp at h
      rw [← h.2.2]; exact Nat.le_refl _
theorem foll_tail {rem rem' : List Nat} {g g' : γ} {l t : List HB} (h : foll R rem g l = some (rem', g', t)) : t = l.dropWhile colon := by
  induction l generalizing rem g with
  | nil => simp [foll] at h; obtain ⟨_, _, rfl⟩ := h; rfl
  | cons x l ih =>
    by_cases hc : colon x = true
    · cases hs : stp R rem g x with
      | none => rw [foll_none R hc hs] at h; cases h
      | some p =>
        obtain ⟨r1, g1⟩ := p
        rw [foll_some R hc hs] at h
        rw [ih h, List.dropWhile_cons, if_pos hc]
    · rw [foll_stop R (by simpa using hc)] at h
      simp at h
      rw [← h.2.2, List.dropWhile_cons, if_neg hc]
end

def kMethod : ByteArray := ⟨#[58, 109, 101, 116, 104, 111, 100]⟩
def kScheme : ByteArray := ⟨#[58, 115, 99, 104, 101, 109, 101]⟩
def kAuthority : ByteArray := ⟨#[58, 97, 117, 116, 104, 111, 114, 105, 116, 121]⟩
def kPath : ByteArray := ⟨#[58, 112, 97, 116, 104]⟩
def kStatus : ByteArray := ⟨#[58, 115, 116, 97, 116, 117, 115]⟩

/-- A request's four texts. -/
structure Rq where
  m : ByteArray
  s : ByteArray
  a : ByteArray
  p : ByteArray
def rq0 : Rq := ⟨⟨#[]⟩, ⟨#[]⟩, ⟨#[]⟩, ⟨#[]⟩⟩
def qkey (k : Nat) : ByteArray := if k = 0 then kMethod else if k = 1 then kScheme else if k = 2 then kAuthority else kPath
def star : ByteArray := ⟨#[42]⟩
def pathOk (v : ByteArray) : Bool := decide (v = star) || decide (v.data.toList.head? = some 47)
def qtk (k : Nat) (v : ByteArray) : Bool := if k = 0 then !decide (v = ⟨#[]⟩) else if k = 1 then !decide (v = ⟨#[]⟩) else if k = 2 then true else pathOk v
def qupd (g : Rq) (k : Nat) (v : ByteArray) : Rq := if k = 0 then { g with m := v } else if k = 1 then { g with s := v } else if k = 2 then { g with a := v } else { g with p := v }
def RQ : Rl Rq := ⟨qkey, qtk, qupd⟩
/-- The request that a list is. -/
def opn (l : List HB) : Option (Rq × List HB) :=
  match follow RQ [0, 1, 2, 3] rq0 l with
  | none => none
  | some r => if (r.1.erase 2).isEmpty then some (r.2.1, r.2.2) else none

/-- Decimal digits, so many of them. -/
def digs : List UInt8 → Nat → Option Nat
  | [], n => some n
  | c :: t, n => if decide (48 ≤ c.toNat ∧ c.toNat ≤ 57) then digs t (n * 10 + (c.toNat - 48)) else none
def dec (s : ByteArray) (least most : Nat) : Option Nat := if decide (least ≤ s.size ∧ s.size ≤ most) then digs s.data.toList 0 else none
def stOk (v : ByteArray) : Bool := (dec v 3 3).any (fun n => decide (100 ≤ n ∧ n ≤ 599))
def RA : Rl Nat := ⟨fun _ => kStatus, fun _ v => stOk v, fun _ _ v => (dec v 3 3).getD 0⟩
/-- The answer that a list is. -/
def opnA (l : List HB) : Option (Nat × List HB) :=
  match follow RA [0] 0 l with
  | none => none
  | some r => if r.1.isEmpty then some (r.2.1, r.2.2) else none
/-- What content-length says: the number, whether there is one, whether it may be. -/
def lenV : List ByteArray → Nat × Bool × Bool
  | [] => (0, false, true)
  | t :: r => if (t :: r).all (fun x => decide (x = t)) then (match dec t 1 10 with | some n => (n, true, true) | none => (0, false, false)) else (0, false, false)
def cLength : ByteArray := ⟨#[99, 111, 110, 116, 101, 110, 116, 45, 108, 101, 110, 103, 116, 104]⟩
end D
end Go.Proofs.YtihlcecincijgaaDoor
