/- Lines and places, plainly: where a line begins, in which line a place is, and the lines joined again. -/
import Derived.Test.YtkhgmoljhehbnaaGreatDoorD1
namespace Lx

theorem linesG_eq (l : B) : linesG [] l = headL (linesG [] l) :: tailL (linesG [] l) := by
  cases h : linesG [] l with
  | nil => exact absurd h (linesG_pos l [])
  | cons a t => rfl
theorem lines_feed (r : B) : linesG [] (10 :: r) = [] :: linesG [] r := by rw [linesG, if_pos rfl]
theorem lines_other (c : UInt8) (r : B) (hc : c ≠ 10) : linesG [] (c :: r) = (c :: headL (linesG [] r)) :: tailL (linesG [] r) := by
  rw [lines_split (c :: r), split_miss c r hc, ← lines_split r]

/-- where a line begins -/
def start : List B → Nat → Nat
  | _, 0 => 0
  | [], _ + 1 => 0
  | h :: t, n + 1 => h.length + 1 + start t n

theorem start_succ : ∀ (ls : List B) (n : Nat) (x : B), ls[n]? = some x → start ls (n + 1) = start ls n + x.length + 1
  | [], n, x, h => by simp at h
  | y :: t, 0, x, h => by simp at h; subst h; simp [start]
  | y :: t, n + 1, x, h => by
    rw [List.getElem?_cons_succ] at h
    have := start_succ t n x h
    show y.length + 1 + start t (n + 1) = y.length + 1 + start t n + x.length + 1
    omega
theorem start_pos (ls : List B) (n : Nat) (h : n < ls.length) (hn : 0 < n) : 0 < start ls n := by
  cases ls with
  | nil => simp at h
  | cons y t =>
    cases n with
    | zero => omega
    | succ n => simp only [start]; omega

structure PlaceOk (l : B) (a n : Nat) (x : B) : Prop where
  get : (linesG [] l)[n]? = some x
  lo : start (linesG [] l) n ≤ a
  hi : a ≤ start (linesG [] l) n + x.length
  feed : start (linesG [] l) n = 0 ∨ l[start (linesG [] l) n - 1]? = some 10
  none_ : ∀ j, start (linesG [] l) n ≤ j → j < a → l[j]? ≠ some 10

theorem place_ok : ∀ (l : B) (a : Nat), a ≤ l.length → ∃ x, PlaceOk l a ((l.take a).count 10) x
  | [], a, h => by
    have ha : a = 0 := by simpa using h
    subst ha
    exact ⟨[], ⟨by simp [linesG], by simp [start], by simp [start], .inl (by simp [start]), fun j _ hj => by omega⟩⟩
  | c :: r, 0, _ => by
    rw [List.take_zero, List.count_nil]
    refine ⟨headL (linesG [] (c :: r)), ⟨?_, by simp [start], by simp [start], .inl (by simp [start]), fun j _ hj => by omega⟩⟩
    have := linesG_eq (c :: r)
    rw [this]
    simp [headL]
  | c :: r, a + 1, h => by
    obtain ⟨x, hx⟩ := place_ok r a (by simpa using h)
    rw [List.take_succ_cons]
    by_cases hc : c = 10
    · subst hc
      rw [List.count_cons_self]
      generalize (r.take a).count 10 = n at hx
      refine ⟨x, ⟨?_, ?_, ?_, ?_, ?_⟩⟩
      · rw [lines_feed, List.getElem?_cons_succ]; exact hx.get
      all_goals rw [lines_feed]; simp only [start, List.length_nil, Nat.zero_add]
      · have := hx.lo; omega
      · have := hx.hi; omega
      · right
        rw [show 1 + start (linesG [] r) n - 1 = start (linesG [] r) n by omega]
        rcases hx.feed with h0 | h0
        · rw [h0]; rfl
        · by_cases hz : start (linesG [] r) n = 0
          · rw [hz]; rfl
          · obtain ⟨m, hm⟩ : ∃ m, start (linesG [] r) n = m + 1 := ⟨start (linesG [] r) n - 1, by omega⟩
            rw [hm] at h0 ⊢
            rw [List.getElem?_cons_succ]
            simpa using h0
      · intro j hj hja
        obtain ⟨m, rfl⟩ : ∃ m, j = m + 1 := ⟨j - 1, by omega⟩
        rw [List.getElem?_cons_succ]
        exact hx.none_ m (by omega) (by omega)
    · rw [List.count_cons_of_ne (by simpa using hc)]
      have hlt : (r.take a).count 10 < (linesG [] r).length := by
        rcases Nat.lt_or_ge ((r.take a).count 10) (linesG [] r).length with h | h
        · exact h
        · have := hx.get; rw [List.getElem?_eq_none h] at this; cases this
      generalize (r.take a).count 10 = n at hx hlt
      have hL := lines_other c r hc
      have hR := linesG_eq r
      obtain ⟨g1, g2, g3, g4, g5⟩ := hx
      generalize headL (linesG [] r) = hd at hL hR
      generalize tailL (linesG [] r) = tl at hL hR
      rw [hR] at g1 g2 g3 g4 g5 hlt
      cases n with
      | zero =>
        simp at g1
        subst g1
        simp only [start] at g2 g3 g4 g5
        refine ⟨c :: hd, ⟨by rw [hL]; simp, by simp [start], by simp [start]; omega, .inl (by simp [start]), fun j _ hj => ?_⟩⟩
        cases j with
        | zero => simp [hc]
        | succ j => rw [List.getElem?_cons_succ]; exact g5 j (by omega) (by omega)
      | succ n =>
        rw [List.getElem?_cons_succ] at g1
        simp only [start] at g2 g3 g4 g5
        refine ⟨x, ⟨by rw [hL, List.getElem?_cons_succ]; exact g1, ?_, ?_, ?_, ?_⟩⟩
        all_goals rw [hL]; simp only [start, List.length_cons]
        · omega
        · omega
        · right
          rcases g4 with h0 | h0
          · omega
          · rw [show hd.length + 1 + 1 + start tl n - 1 = (hd.length + 1 + start tl n - 1) + 1 by omega, List.getElem?_cons_succ]; exact h0
        · intro j hj hja
          obtain ⟨m, rfl⟩ : ∃ m, j = m + 1 := ⟨j - 1, by omega⟩
          rw [List.getElem?_cons_succ]
          exact g5 m (by omega) (by omega)

/-- the last line ends where the text does -/
theorem last_ok : ∀ (l : B) (n : Nat) (x : B), (linesG [] l)[n]? = some x → n + 1 = (linesG [] l).length → start (linesG [] l) n + x.length = l.length
  | [], n, x, h, hn => by
    simp [linesG] at h hn
    subst hn
    simp at h
    subst h
    simp [start]
  | c :: r, n, x, h, hn => by
    by_cases hc : c = 10
    · subst hc
      rw [lines_feed] at h hn ⊢
      cases n with
      | zero =>
        have := linesG_pos r []
        have h2 := List.length_pos_iff.2 this
        simp at hn
        exact absurd hn this
      | succ n =>
        rw [List.getElem?_cons_succ] at h
        have := last_ok r n x h (by simpa using hn)
        simp only [start, List.length_nil, List.length_cons]
        omega
    · have hL := lines_other c r hc
      have hR := linesG_eq r
      have ih := last_ok r
      rw [hL] at h hn ⊢
      generalize headL (linesG [] r) = hd at h hn hR ⊢
      generalize tailL (linesG [] r) = tl at h hn hR ⊢
      rw [hR] at ih
      cases n with
      | zero =>
        simp at h
        subst h
        have := ih 0 hd rfl (by simpa using hn)
        simp only [start, List.length_cons] at this ⊢
        omega
      | succ n =>
        rw [List.getElem?_cons_succ] at h
        have := ih (n + 1) x (by rw [List.getElem?_cons_succ]; exact h) (by simpa using hn)
        simp only [start, List.length_cons] at this ⊢
        omega

/-- lines with line feeds between -/
def joinK (ls : List B) : Nat → B
  | 0 => []
  | k + 1 => joinK ls k ++ (if k = 0 then [] else [10]) ++ (match ls[k]? with | some x => x | none => [])

theorem joinK_cons (y : B) (t : List B) : ∀ k, joinK (y :: t) (k + 1) = y ++ (if k = 0 then [] else 10 :: joinK t k)
  | 0 => by simp [joinK]
  | k + 1 => by
    have e : ¬ (k + 1 = 0) := by omega
    show joinK (y :: t) (k + 1) ++ (if k + 1 = 0 then [] else [10]) ++ (match (y :: t)[k + 1]? with | some x => x | none => []) = _
    rw [joinK_cons y t k, if_neg e, if_neg e, List.getElem?_cons_succ]
    cases k with
    | zero => simp [joinK]
    | succ k =>
      have e2 : joinK t (k + 1 + 1) = joinK t (k + 1) ++ (if k + 1 = 0 then [] else [10]) ++ (match t[k + 1]? with | some x => x | none => []) := rfl
      rw [if_neg (by omega : ¬ k + 1 = 0), e2, if_neg (by omega : ¬ k + 1 = 0)]
      simp
theorem join_lines : ∀ l : B, joinK (linesG [] l) (linesG [] l).length = l
  | [] => by simp [linesG, joinK]
  | c :: r => by
    have ih := join_lines r
    have hp := linesG_pos r []
    by_cases hc : c = 10
    · subst hc
      rw [lines_feed, List.length_cons, joinK_cons, ih, if_neg (by intro e; exact hp (List.eq_nil_of_length_eq_zero e))]
      rfl
    · have hR := linesG_eq r
      rw [lines_other c r hc]
      generalize headL (linesG [] r) = hd at hR ⊢
      generalize tailL (linesG [] r) = tl at hR ⊢
      rw [hR, List.length_cons, joinK_cons] at ih
      rw [List.length_cons, joinK_cons, List.cons_append, ih]
theorem joinK_mono (ls : List B) (k : Nat) : (joinK ls k).length ≤ (joinK ls (k + 1)).length := by simp [joinK]
theorem joinK_le (ls : List B) (n : Nat) : ∀ k, k ≤ n → (joinK ls k).length ≤ (joinK ls n).length := by
  induction n with
  | zero => intro k hk; rw [Nat.le_zero.1 hk]; exact Nat.le_refl _
  | succ n ih =>
    intro k hk
    rcases Nat.lt_or_ge k (n + 1) with h | h
    · exact Nat.le_trans (ih k (by omega)) (joinK_mono ls n)
    · rw [show k = n + 1 by omega]; exact Nat.le_refl _
theorem line_le (l : B) (n : Nat) (x : B) (h : (linesG [] l)[n]? = some x) : x.length ≤ l.length := by
  have hn : n < (linesG [] l).length := by
    rcases Nat.lt_or_ge n (linesG [] l).length with h' | h'
    · exact h'
    · rw [List.getElem?_eq_none h'] at h; cases h
  have h1 := joinK_le (linesG [] l) (linesG [] l).length (n + 1) hn
  rw [join_lines, joinK, h, List.length_append] at h1
  have h2 : (match some x with | some x => x | none => []) = x := rfl
  rw [h2] at h1
  omega
end Lx
