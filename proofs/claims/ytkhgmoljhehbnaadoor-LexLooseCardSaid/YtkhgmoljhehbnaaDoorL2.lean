/- Plain lemmas: readings with one token, and with two. -/
import Derived.Test.YtkhgmoljhehbnaaDoorL1
import Derived.Test.YtkhgmoljhehbnaaDoorW11
namespace Go.Proofs.YtkhgmoljhehbnaaDoor
open Go.RowKit

theorem check_good {l : Lx.B} (h1 : l.length ≤ 2500) (h2 : Lx.run Lx.okByte l = l.length) : Lx.check l = (0, 0) := by
  unfold Lx.check
  rw [if_neg (by omega), if_neg (by omega)]

theorem read_one {l : Lx.B} {k : Nat} (h : Lx.tok l = some (k, l)) : Lx.read l = .ok [⟨k, l, 0⟩] [] := by
  have hw := whole_of_tok h
  have hl := hw.len
  have hp := hw.pos
  have hg := hw.gap []
  rw [List.append_nil] at hg
  unfold Lx.read
  rw [check_good (by omega) hw.ok, if_pos rfl]
  cases hn : l.length with
  | zero => omega
  | succ n =>
    rw [Lx.scan, if_neg (by intro e; subst e; simp at hp), if_neg (by omega), h]
    simp only
    rw [if_neg (by simp), List.drop_length, Lx.scan_end]
    rfl

theorem read_two {a b : Lx.B} {ka kb : Nat} (ha : Lx.tok a = some (ka, a)) (hb : Lx.tok b = some (kb, b)) (hab : Lx.tok (a ++ b) = some (ka, a)) : Lx.read (a ++ b) = .ok [⟨ka, a, 0⟩, ⟨kb, b, a.length⟩] [] := by
  have wa := whole_of_tok ha
  have wb := whole_of_tok hb
  have hla := wa.len; have hpa := wa.pos
  have hlb := wb.len; have hpb := wb.pos
  have hga := wa.gap b
  have hgb := wb.gap []
  rw [List.append_nil] at hgb
  unfold Lx.read
  rw [check_good (by rw [List.length_append]; omega) (by rw [run_append _ a b wa.ok, wb.ok, List.length_append]), if_pos rfl]
  cases hn : (a ++ b).length with
  | zero => rw [List.length_append] at hn; omega
  | succ n =>
    rw [List.length_append] at hn
    rw [Lx.scan, if_neg (by intro e; rw [List.append_eq_nil_iff] at e; rw [e.1] at hpa; simp at hpa), if_neg (by omega), hab]
    simp only
    rw [if_neg (by simp), List.drop_left]
    cases n with
    | zero => omega
    | succ n =>
      rw [Lx.scan, if_neg (by intro e; subst e; simp at hpb), if_neg (by omega), hb]
      simp only
      rw [if_neg (by simp), List.drop_length, Lx.scan_end]
      simp

theorem scan_pre : ∀ (fuel k : Nat) (l : Lx.B) (ts : List Lx.Tok) (gs : List (Nat × Nat)) (ts' : List Lx.Tok) (gs' : List (Nat × Nat)), Lx.scan fuel k l ts gs = .ok ts' gs' → ∃ r, ts' = ts ++ r ∧ ∀ t ∈ r, t.text.length ≤ l.length
  | 0, _, _, ts, gs, ts', gs', h => by
    simp only [Lx.scan, Lx.Res.ok.injEq] at h
    exact ⟨[], by rw [← h.1]; simp, by simp⟩
  | fuel + 1, k, l, ts, gs, ts', gs', h => by
    rw [Lx.scan] at h
    split at h
    · simp only [Lx.Res.ok.injEq] at h
      exact ⟨[], by rw [← h.1]; simp, by simp⟩
    · split at h
      · obtain ⟨r, h1, h2⟩ := scan_pre fuel _ _ ts _ ts' gs' h
        exact ⟨r, h1, fun t ht => by have := h2 t ht; rw [List.length_drop] at this; omega⟩
      · split at h
        · cases h
        · rename_i kd t hq
          split at h
          · cases h
          · obtain ⟨r, h1, h2⟩ := scan_pre fuel _ _ _ gs ts' gs' h
            refine ⟨⟨kd, t, k⟩ :: r, by rw [h1]; simp, fun x hx => ?_⟩
            rcases List.mem_cons.1 hx with rfl | hx
            · exact (Lx.tok_prefix hq).2.2.1
            · have := h2 x hx; rw [List.length_drop] at this; omega

/-- the first token of a text that begins with no gap -/
theorem first_of_read {l : Lx.B} {t : Lx.Tok} {r : List Lx.Tok} {gs : List (Nat × Nat)} (h : Lx.read l = .ok (t :: r) gs) (hg : Lx.gap l = 0) : Lx.tok l = some (t.kind, t.text) := by
  unfold Lx.read at h
  split at h
  · cases hn : l.length with
    | zero => rw [hn] at h; simp [Lx.scan] at h
    | succ n =>
      rw [hn, Lx.scan] at h
      split at h
      · cases h
      · rw [if_neg (by omega)] at h
        split at h
        · cases h
        · rename_i kd t' hq
          rw [if_neg (by simp)] at h
          obtain ⟨r', h1, _⟩ := scan_pre _ _ _ _ _ _ _ h
          simp at h1
          rw [hq, h1.1]
  · cases h

/-- a token that is the whole text -/
theorem one_of_read {l : Lx.B} {t : Lx.Tok} {r : List Lx.Tok} {gs : List (Nat × Nat)} (h : Lx.read l = .ok (t :: r) gs) (ht : t.text = l) : Lx.tok l = some (t.kind, l) := by
  by_cases hg : Lx.gap l = 0
  · rw [first_of_read h hg, ht]
  · exfalso
    have hgl := Lx.gap_le l
    unfold Lx.read at h
    split at h
    · cases hn : l.length with
      | zero => rw [hn] at h; simp [Lx.scan] at h
      | succ n =>
        rw [hn, Lx.scan] at h
        split at h
        · cases h
        · rw [if_pos (by omega)] at h
          obtain ⟨r', h1, h2⟩ := scan_pre _ _ _ _ _ _ _ h
          have := h2 t (by rw [← List.nil_append r', ← h1]; simp)
          rw [List.length_drop, ht] at this
          omega
    · cases h

/-- the reference's Kind -/
def refKindR (R : Lx.Res) (l : Lx.B) : Nat := match R with
  | .ok [t] _ => if t.text = l then t.kind else 0
  | _ => 0
def refKindP (l : Lx.B) : Nat := refKindR (Lx.read l) l
theorem refKind_eq (t : ByteArray) : refKindP t.data.toList = if kindOk t (Lx.tok t.data.toList) then optK (Lx.tok t.data.toList) else 0 := by
  by_cases h : kindOk t (Lx.tok t.data.toList) = true
  · rw [if_pos h]
    cases hq : Lx.tok t.data.toList with
    | none => rw [hq] at h; simp [kindOk] at h
    | some x =>
      obtain ⟨k, u⟩ := x
      rw [hq] at h
      have hu : u = t.data.toList := by simpa [kindOk, optS] using h
      subst hu
      unfold refKindP refKindR
      rw [read_one hq]
      simp [optK]
  · rw [if_neg h]
    unfold refKindP refKindR
    cases hr : Lx.read t.data.toList with
    | bad _ _ => rfl
    | ok ts gs =>
      match ts, hr with
      | [], _ => rfl
      | [x], hr =>
        simp only
        by_cases hx : x.text = t.data.toList
        · have := one_of_read hr hx
          rw [this] at h
          simp [kindOk, optS] at h
        · rw [if_neg hx]
      | _ :: _ :: _, _ => rfl

end Go.Proofs.YtkhgmoljhehbnaaDoor
