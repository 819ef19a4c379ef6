/- The plain functions of layer 1: what texts, gaps and tokens are, on lists of bytes; it imports nothing of the program. -/
namespace Lx
abbrev B := List UInt8

def isLetter (c : UInt8) : Bool := decide (97 ≤ c.toNat) && decide (c.toNat ≤ 122)
def isDigit (c : UInt8) : Bool := decide (48 ≤ c.toNat) && decide (c.toNat ≤ 57)
def isPrinted (c : UInt8) : Bool := decide (32 ≤ c.toNat) && decide (c.toNat ≤ 126)
def isFeed (c : UInt8) : Bool := c.toNat == 10
def isBlank (c : UInt8) : Bool := c.toNat == 32
def okByte (c : UInt8) : Bool := isPrinted c || isFeed c
def gapByte (c : UInt8) : Bool := isBlank c || isFeed c
def wordByte (c : UInt8) : Bool := isLetter c || isDigit c

/-- how many bytes at the beginning are of a sort -/
def run (p : UInt8 → Bool) : B → Nat
  | [] => 0
  | c :: r => if p c then run p r + 1 else 0

/-- how long the gap at the beginning is; the flag: inside of a comment -/
def gapIn : Bool → B → Nat
  | _, [] => 0
  | true, c :: r => gapIn (!isFeed c) r + 1
  | false, c :: r => if gapByte c then gapIn false r + 1 else if c.toNat == 126 then gapIn true r + 1 else 0
def gap (l : B) : Nat := gapIn false l

def digitVal (l : B) : Nat := l.foldl (fun n c => 10 * n + (c.toNat - 48)) 0
def numOk (l : B) : Bool := decide (digitVal l ≤ 1000000000) && !(decide (1 < l.length) && decide (l.head? = some 48))

def hasPrefix (l p : B) : Bool := l.take p.length == p
/-- the first sign that fits -/
def signOf (signs : List B) (l : B) : Option B := signs.find? (hasPrefix l)

def tokOf (keys signs : List B) (l : B) : Option (Nat × B) :=
  if 0 < run isLetter l then
    let t := l.take (run wordByte l)
    if keys.contains t then some (1, t) else if 12 < t.length then none else some (2, t)
  else if 0 < run isDigit l then
    let t := l.take (run isDigit l)
    if numOk t then some (3, t) else none
  else (signOf signs l).map fun t => (4, t)

def keywords : List B := [[97, 110, 100], [97, 114, 114, 97, 121], [98, 111, 111, 108], [98, 121], [100, 101, 102], [100, 111], [101, 108, 115, 101], [101, 109, 112, 116, 121], [102, 97, 108, 115, 101], [103, 105, 118, 101], [104, 101, 97, 100], [105, 102], [105, 110], [105, 110, 116], [108, 111, 111, 112], [110, 101, 120, 116], [110, 105, 108], [110, 111, 116], [111, 114], [115, 105, 122, 101], [115, 116, 114, 101, 97, 109], [116, 97, 105, 108], [116, 114, 117, 101], [119, 104, 105, 108, 101]]
def signs : List B := [[58, 58], [58, 61], [45, 62], [46, 46], [61, 61], [33, 61], [60, 61], [62, 61], [60], [62], [61], [43], [45], [42], [47], [37], [35], [40], [41], [91], [93], [123], [125], [44], [59], [58]]

def tok (l : B) : Option (Nat × B) := tokOf keywords signs l

/-- a token: its kind, its text, its place -/
structure Tok where
  kind : Nat
  text : B
  at_ : Nat
deriving DecidableEq, Repr

inductive Res where
  | ok (l : List Tok) (g : List (Nat × Nat))
  | bad (at_ : Nat) (e : Nat)
deriving DecidableEq, Repr

def scan : Nat → Nat → B → List Tok → List (Nat × Nat) → Res
  | 0, _, _, ts, gs => .ok ts gs
  | n + 1, k, l, ts, gs =>
    if l = [] then .ok ts gs
    else if 0 < gap l then scan n (k + gap l) (l.drop (gap l)) ts (gs ++ [(k, k + gap l)])
    else match tok l with
      | none => .bad k 4
      | some (kd, t) => if ts.length = 900 then .bad k 5 else scan n (k + t.length) (l.drop t.length) (ts ++ [⟨kd, t, k⟩]) gs

/-- the error of a text, and its place -/
def check (l : B) : Nat × Nat :=
  if 2500 < l.length then (0, 5) else if run okByte l < l.length then (run okByte l, 4) else (0, 0)

def read (l : B) : Res :=
  if (check l).2 = 0 then scan l.length 0 l [] [] else .bad (check l).1 (check l).2

theorem run_le (p : UInt8 → Bool) : ∀ l : B, run p l ≤ l.length
  | [] => Nat.le_refl _
  | c :: r => by have := run_le p r; unfold run; split <;> simp <;> omega

/-- the walk's view: what is known at a place inside -/
theorem run_split (p : UInt8 → Bool) : ∀ (l : B) (k : Nat), (∀ i, i < k → ∃ c, l[i]? = some c ∧ p c = true) → (k < l.length → ∃ c, l[k]? = some c ∧ p c = false) → k ≤ l.length → run p l = k
  | [], k, _, _, hk => by simp at hk; simp [run, hk]
  | c :: r, 0, _, h2, _ => by
    obtain ⟨d, hd, hp⟩ := h2 (by simp)
    simp at hd; subst hd; simp [run, hp]
  | c :: r, k + 1, h1, h2, hk => by
    obtain ⟨d, hd, hp⟩ := h1 0 (by omega)
    simp at hd; subst hd
    have := run_split p r k (fun i hi => by simpa using h1 (i + 1) (by omega)) (fun hl => by simpa using h2 (by simp; omega)) (by simpa using hk)
    simp [run, hp, this]

theorem run_lt (p : UInt8 → Bool) : ∀ (l : B) (i : Nat), i < run p l → ∃ c, l[i]? = some c ∧ p c = true
  | [], i, h => by simp [run] at h
  | c :: r, i, h => by
    unfold run at h
    split at h
    · rename_i hp
      cases i with
      | zero => exact ⟨c, rfl, hp⟩
      | succ i => simpa using run_lt p r i (by omega)
    · omega

theorem run_at (p : UInt8 → Bool) : ∀ (l : B), run p l < l.length → ∃ c, l[run p l]? = some c ∧ p c = false
  | [], h => by simp [run] at h
  | c :: r, h => by
    by_cases hp : p c = true
    · simp only [run, hp, if_true] at h ⊢
      simpa using run_at p r (by simpa using h)
    · have hp' : p c = false := by simpa using hp
      refine ⟨c, ?_, hp'⟩
      simp [run, hp']

theorem gapIn_true : ∀ l : B, gapIn true l = run (fun c => !isFeed c) l + gap (l.drop (run (fun c => !isFeed c) l))
  | [] => by simp [gapIn, run, gap]
  | c :: r => by
    by_cases h : isFeed c = true
    · simp [gapIn, run, gap, h, gapByte]
    · have h' : isFeed c = false := by simpa using h
      have := gapIn_true r
      simp only [gapIn, run, gap, h', Bool.not_false, if_true, List.drop_succ_cons] at this ⊢
      omega

theorem gap_tilde (c : UInt8) (r : B) (h : c.toNat = 126) : gap (c :: r) = run (fun c => !isFeed c) (c :: r) + gap ((c :: r).drop (run (fun c => !isFeed c) (c :: r))) := by
  have h1 : isFeed c = false := by simp [isFeed, h]
  have h2 : gapByte c = false := by simp [gapByte, isBlank, isFeed, h]
  have := gapIn_true r
  simp only [gap, gapIn, run, h1, h2, h, Bool.not_false, if_true, List.drop_succ_cons] at this ⊢
  simp only [Bool.false_eq_true, if_false, beq_self_eq_true, if_true]
  omega

theorem gap_blanks : ∀ l : B, gap l = run gapByte l + gap (l.drop (run gapByte l))
  | [] => by simp [gap, gapIn, run]
  | c :: r => by
    by_cases h : gapByte c = true
    · have := gap_blanks r
      simp only [gap, gapIn, run, h, if_true, List.drop_succ_cons] at this ⊢
      omega
    · have h' : gapByte c = false := by simpa using h
      simp [run, h']

theorem gap_none (c : UInt8) (r : B) (h : c.toNat ≠ 126) (hb : gapByte c = false) : gap (c :: r) = 0 := by
  simp [gap, gapIn, hb, h]

theorem gapIn_le : ∀ (l : B) (b : Bool), gapIn b l ≤ l.length
  | [], _ => by simp [gapIn]
  | c :: r, b => by
    have h1 := gapIn_le r true
    have h2 := gapIn_le r false
    have h3 := gapIn_le r (!isFeed c)
    cases b <;> unfold gapIn <;> simp only [List.length_cons]
    · split
      · omega
      · split <;> omega
    · omega
theorem gap_le (l : B) : gap l ≤ l.length := gapIn_le l false

theorem gap_rest : ∀ (l : B) (b : Bool), gap (l.drop (gapIn b l)) = 0
  | [], _ => by simp [gapIn, gap]
  | c :: r, b => by
    have h1 := gap_rest r true
    have h2 := gap_rest r false
    have h3 := gap_rest r (!isFeed c)
    cases b
    · unfold gapIn
      split
      · simpa using h2
      · split
        · simpa using h1
        · rename_i a b
          simp [gap, gapIn, a, b]
    · unfold gapIn
      simpa using h3
theorem gap_gap (l : B) : gap (l.drop (gap l)) = 0 := gap_rest l false

/-- the place of the first element that passes, or -1 -/
def fidx {α : Type} (p : α → Bool) : List α → Nat → Int
  | [], _ => -1
  | x :: r, k => if p x then (k : Int) else fidx p r (k + 1)
theorem fidx_miss {α : Type} (p : α → Bool) : ∀ (xs : List α) (k : Nat), (∀ x ∈ xs, p x = false) → fidx p xs k = -1
  | [], _, _ => rfl
  | x :: r, k, h => by
    unfold fidx
    rw [if_neg (by simp [h x (by simp)])]
    exact fidx_miss p r (k + 1) fun y hy => h y (by simp [hy])
theorem fidx_hit {α : Type} (p : α → Bool) : ∀ (xs : List α) (k j : Nat) (x : α), xs[j]? = some x → p x = true → (∀ i y, i < j → xs[i]? = some y → p y = false) → fidx p xs k = ((k + j : Nat) : Int)
  | [], _, j, x, h, _, _ => by simp at h
  | y :: r, k, 0, x, h, hp, _ => by
    simp at h; subst h; simp [fidx, hp]
  | y :: r, k, j + 1, x, h, hp, hm => by
    unfold fidx
    rw [if_neg (by simp [hm 0 y (by omega) rfl])]
    rw [fidx_hit p r (k + 1) j x (by simpa using h) hp (fun i z hi hz => hm (i + 1) z (by omega) (by simpa using hz))]
    congr 1; omega
theorem fidx_find {α : Type} (p : α → Bool) : ∀ (xs : List α) (k : Nat), (fidx p xs k = -1 ∧ xs.find? p = none) ∨ ∃ j x, fidx p xs k = ((k + j : Nat) : Int) ∧ xs[j]? = some x ∧ xs.find? p = some x ∧ p x = true ∧ j < xs.length
  | [], k => .inl ⟨rfl, rfl⟩
  | x :: r, k => by
    by_cases h : p x = true
    · exact .inr ⟨0, x, by simp [fidx, h], rfl, by simp [h], h, by simp⟩
    · have h' : p x = false := by simpa using h
      rcases fidx_find p r (k + 1) with ⟨h1, h2⟩ | ⟨j, y, h1, h2, h3, h4, h5⟩
      · exact .inl ⟨by simp [fidx, h', h1], by simp [h', h2]⟩
      · refine .inr ⟨j + 1, y, ?_, by simpa using h2, by simp [h', h3], h4, by simpa using h5⟩
        simp only [fidx, h', Bool.false_eq_true, if_false, h1]
        congr 1; omega

def Res.ts : Res → List Tok | .ok l _ => l | .bad _ _ => []
def Res.gs : Res → List (Nat × Nat) | .ok _ g => g | .bad _ _ => []
def Res.at_ : Res → Nat | .ok _ _ => 0 | .bad k _ => k
def Res.e : Res → Nat | .ok _ _ => 0 | .bad _ e => e

theorem scan_gap (fuel k : Nat) (l : B) (ts : List Tok) (gs : List (Nat × Nat)) (hf : l.length ≤ fuel) :
    ∃ fuel' gs', (l.drop (gap l)).length ≤ fuel' ∧ scan fuel k l ts gs = scan fuel' (k + gap l) (l.drop (gap l)) ts gs' := by
  by_cases h : 0 < gap l
  · have hl := gap_le l
    cases fuel with
    | zero => omega
    | succ n =>
      refine ⟨n, gs ++ [(k, k + gap l)], by rw [List.length_drop]; omega, ?_⟩
      rw [scan, if_neg (by intro e; subst e; simp [gap, gapIn] at h), if_pos h]
  · have h0 : gap l = 0 := by omega
    exact ⟨fuel, gs, by rw [h0]; simpa using hf, by rw [h0]; simp⟩

theorem scan_none (fuel k : Nat) (l : B) (ts : List Tok) (gs : List (Nat × Nat)) (hf : l.length ≤ fuel) (hl : l ≠ []) (hg : gap l = 0) (ht : tok l = none) : scan fuel k l ts gs = .bad k 4 := by
  cases fuel with
  | zero => exact absurd (List.eq_nil_of_length_eq_zero (by omega)) hl
  | succ n => rw [scan, if_neg hl, if_neg (by omega), ht]
theorem scan_full (fuel k : Nat) (l : B) (ts : List Tok) (gs : List (Nat × Nat)) (hf : l.length ≤ fuel) (hl : l ≠ []) (hg : gap l = 0) {x : Nat × B} (ht : tok l = some x) (h9 : ts.length = 900) : scan fuel k l ts gs = .bad k 5 := by
  cases fuel with
  | zero => exact absurd (List.eq_nil_of_length_eq_zero (by omega)) hl
  | succ n => rw [scan, if_neg hl, if_neg (by omega), ht]; simp [h9]
theorem scan_tok (fuel k : Nat) (l : B) (ts : List Tok) (gs : List (Nat × Nat)) (hf : l.length ≤ fuel) (hl : l ≠ []) (hg : gap l = 0) {kd : Nat} {t : B} (ht : tok l = some (kd, t)) (hp : 0 < t.length) (h9 : ts.length ≠ 900) :
    ∃ fuel', (l.drop t.length).length ≤ fuel' ∧ scan fuel k l ts gs = scan fuel' (k + t.length) (l.drop t.length) (ts ++ [⟨kd, t, k⟩]) gs := by
  cases fuel with
  | zero => exact absurd (List.eq_nil_of_length_eq_zero (by omega)) hl
  | succ n =>
    refine ⟨n, ?_, ?_⟩
    · rw [List.length_drop]
      have : 0 < l.length := List.length_pos_iff.2 hl
      omega
    · rw [scan, if_neg hl, if_neg (by omega), ht]; simp [h9]
theorem scan_end (fuel k : Nat) (ts : List Tok) (gs : List (Nat × Nat)) : scan fuel k [] ts gs = .ok ts gs := by
  cases fuel <;> simp [scan]

/-- a token is a beginning of the text, and not empty -/
theorem tok_prefix {l : B} {k : Nat} {t : B} (h : tok l = some (k, t)) : l.take t.length = t ∧ 0 < t.length ∧ t.length ≤ l.length ∧ k ≤ 4 ∧ 1 ≤ k := by
  have tk : ∀ p : UInt8 → Bool, l.take (l.take (run p l)).length = l.take (run p l) := fun p => by
    rw [List.length_take, Nat.min_eq_left (run_le p l)]
  have lk : ∀ p : UInt8 → Bool, (l.take (run p l)).length = run p l := fun p => by
    rw [List.length_take, Nat.min_eq_left (run_le p l)]
  unfold tok tokOf at h
  split at h
  · rename_i h1
    have hw : 0 < run wordByte l := by
      cases l with
      | nil => simp [run] at h1
      | cons c r =>
        unfold run at h1 ⊢
        split at h1
        · rename_i hc; rw [if_pos (by simp [wordByte, hc])]; omega
        · omega
    simp only at h
    split at h
    · simp only [Option.some.injEq, Prod.mk.injEq] at h; obtain ⟨rfl, rfl⟩ := h
      exact ⟨tk _, by rw [lk]; exact hw, by rw [lk]; exact run_le _ _, by omega, by omega⟩
    · split at h
      · cases h
      · simp only [Option.some.injEq, Prod.mk.injEq] at h; obtain ⟨rfl, rfl⟩ := h
        exact ⟨tk _, by rw [lk]; exact hw, by rw [lk]; exact run_le _ _, by omega, by omega⟩
  · split at h
    · rename_i h2
      simp only at h
      split at h
      · simp only [Option.some.injEq, Prod.mk.injEq] at h; obtain ⟨rfl, rfl⟩ := h
        exact ⟨tk _, by rw [lk]; exact h2, by rw [lk]; exact run_le _ _, by omega, by omega⟩
      · cases h
    · rw [Option.map_eq_some_iff] at h
      obtain ⟨a, ha, he⟩ := h
      simp only [Prod.mk.injEq] at he
      obtain ⟨rfl, rfl⟩ := he
      unfold signOf at ha
      have hp := List.find?_some ha
      have hm := List.mem_of_find?_eq_some ha
      have hpos : ∀ t ∈ signs, 0 < t.length := by decide
      unfold hasPrefix at hp
      have he := beq_iff_eq.1 hp
      refine ⟨he, hpos a hm, ?_, by omega, by omega⟩
      have := congrArg List.length he
      rw [List.length_take] at this
      omega

end Lx
