/- For LexPlaces, plainly: the line and the column of a place, step by step, and the one place that has them. -/
import Derived.Test.YtkhgmoljhehbnaaGreatDoorJ1
namespace Lx
/-- the line of a place, and where that begins -/
def lineAt (l : B) (a : Nat) : Nat := (l.take a).count 10
def colAt (l : B) (a : Nat) : Nat := a - start (linesG [] l) (lineAt l a) + 1

theorem at_zero (l : B) : lineAt l 0 = 0 ∧ colAt l 0 = 1 := ⟨by simp [lineAt], by simp [colAt]⟩
theorem at_feed {l : B} {i : Nat} (hi : i < l.length) (h : l[i]? = some 10) : lineAt l (i + 1) = lineAt l i + 1 ∧ colAt l (i + 1) = 1 := by
  obtain ⟨x, hx⟩ := place_ok l (i + 1) (by omega)
  have hn : lineAt l (i + 1) = lineAt l i + 1 := by
    unfold lineAt
    rw [List.take_add_one, h, List.count_append]
    simp
  refine ⟨hn, ?_⟩
  have hlo := hx.lo
  have hno := hx.none_ i
  unfold colAt
  have e : (l.take (i + 1)).count 10 = lineAt l (i + 1) := rfl
  rw [e] at hlo hno
  by_cases hs : start (linesG [] l) (lineAt l (i + 1)) ≤ i
  · exact absurd h (hno hs (by omega))
  · omega
theorem at_other {l : B} {i : Nat} {c : UInt8} (hi : i < l.length) (h : l[i]? = some c) (hc : c ≠ 10) : lineAt l (i + 1) = lineAt l i ∧ colAt l (i + 1) = colAt l i + 1 := by
  obtain ⟨x, hx⟩ := place_ok l i (by omega)
  have hn : lineAt l (i + 1) = lineAt l i := by
    unfold lineAt
    rw [List.take_add_one, h, List.count_append]
    simp [hc]
  refine ⟨hn, ?_⟩
  have hlo := hx.lo
  have e : (l.take i).count 10 = lineAt l i := rfl
  rw [e] at hlo
  unfold colAt
  rw [hn]
  omega

/-- which place has a line and a column -/
theorem place_back : ∀ (l : B) (n c : Nat) (x : B), (linesG [] l)[n]? = some x → c ≤ x.length → start (linesG [] l) n + c ≤ l.length ∧ lineAt l (start (linesG [] l) n + c) = n
  | [], n, c, x, h, hc => by
    rw [linesG] at h
    cases n with
    | zero => simp at h; subst h; simp at hc; subst hc; simp [start, linesG, lineAt]
    | succ n => simp at h
  | b :: r, n, c, x, h, hc => by
    by_cases hb : b = 10
    · subst hb
      rw [lines_feed] at h ⊢
      cases n with
      | zero => simp at h; subst h; simp at hc; subst hc; simp [start, lineAt]
      | succ n =>
        rw [List.getElem?_cons_succ] at h
        obtain ⟨h1, h2⟩ := place_back r n c x h hc
        simp only [start, List.length_nil, List.length_cons]
        refine ⟨by omega, ?_⟩
        rw [show 0 + 1 + start (linesG [] r) n + c = (start (linesG [] r) n + c) + 1 by omega]
        unfold lineAt at h2 ⊢
        rw [List.take_succ_cons, List.count_cons_self, h2]
    · have hL := lines_other b r hb
      have hR := linesG_eq r
      have ih := place_back r
      rw [hL] at h ⊢
      generalize headL (linesG [] r) = hd at h hR ⊢
      generalize tailL (linesG [] r) = tl at h hR ⊢
      rw [hR] at ih
      cases n with
      | zero =>
        simp at h
        subst h
        cases c with
        | zero => simp [start, lineAt]
        | succ c =>
          obtain ⟨h1, h2⟩ := ih 0 c hd rfl (by simpa using hc)
          simp only [start, List.length_cons, Nat.zero_add] at h1 h2 ⊢
          refine ⟨by omega, ?_⟩
          unfold lineAt at h2 ⊢
          rw [List.take_succ_cons, List.count_cons_of_ne (by simpa using hb), h2]
      | succ n =>
        rw [List.getElem?_cons_succ] at h
        obtain ⟨h1, h2⟩ := ih (n + 1) c x (by rw [List.getElem?_cons_succ]; exact h) hc
        simp only [start, List.length_cons] at h1 h2 ⊢
        refine ⟨by omega, ?_⟩
        rw [show hd.length + 1 + 1 + start tl n + c = (hd.length + 1 + start tl n + c) + 1 by omega]
        unfold lineAt at h2 ⊢
        rw [List.take_succ_cons, List.count_cons_of_ne (by simpa using hb), h2]

/-- what the reference's Offset looks for -/
def Spotted (l : B) (line col : Int) (a : Nat) : Prop := ((lineAt l a + 1 : Nat) : Int) = line ∧ ((colAt l a : Nat) : Int) = col

theorem spotted_range {l : B} {line col : Int} {a : Nat} (ha : a ≤ l.length) (h : Spotted l line col a) : ∃ (n c : Nat) (x : B), (linesG [] l)[n]? = some x ∧ c ≤ x.length ∧ line = ((n + 1 : Nat) : Int) ∧ col = ((c + 1 : Nat) : Int) ∧ a = start (linesG [] l) n + c := by
  obtain ⟨x, hx⟩ := place_ok l a ha
  have hlo := hx.lo
  have hhi := hx.hi
  have hg := hx.get
  have e : (l.take a).count 10 = lineAt l a := rfl
  rw [e] at hlo hhi hg
  obtain ⟨h1, h2⟩ := h
  unfold colAt at h2
  exact ⟨lineAt l a, a - start (linesG [] l) (lineAt l a), x, hg, by omega, h1.symm, h2.symm, by omega⟩
theorem range_spotted {l : B} {n c : Nat} {x : B} (hx : (linesG [] l)[n]? = some x) (hc : c ≤ x.length) : start (linesG [] l) n + c ≤ l.length ∧ ∀ a, a ≤ l.length → (Spotted l ((n + 1 : Nat) : Int) ((c + 1 : Nat) : Int) a ↔ a = start (linesG [] l) n + c) := by
  obtain ⟨h1, h2⟩ := place_back l n c x hx hc
  refine ⟨h1, fun a ha => ⟨fun h => ?_, ?_⟩⟩
  · obtain ⟨n', c', x', _, _, h4, h5, h6⟩ := spotted_range ha h
    obtain rfl : n = n' := by omega
    obtain rfl : c = c' := by omega
    exact h6
  · rintro rfl
    refine ⟨by rw [h2], ?_⟩
    unfold colAt
    rw [h2]
    congr 1
    omega
end Lx
