/- The gaps of a text, reckoned of its tokens: plainly. -/
import Derived.Test.YtkhgmoljhehbnaaDoorPure
namespace Lx

/-- what lies between tokens: from a place on, to the text's end -/
def gapsOf : Nat → List Tok → Nat → List (Nat × Nat)
  | a, [], n => if a < n then [(a, n)] else []
  | a, t :: r, n => (if a < t.at_ then [(a, t.at_)] else []) ++ gapsOf (t.at_ + t.text.length) r n

theorem scan_gaps : ∀ (fuel k : Nat) (l : B) (ts : List Tok) (gs : List (Nat × Nat)) (ts' : List Tok) (gs' : List (Nat × Nat)), l.length ≤ fuel → scan fuel k l ts gs = .ok ts' gs' →
    ∃ r gr, ts' = ts ++ r ∧ gs' = gs ++ gr ∧ gr = gapsOf k r (k + l.length) ∧ (∀ t ∈ r, t.at_ + t.text.length ≤ k + l.length) ∧ (gap l = 0 → (r = [] → l = []) ∧ ∀ t r', r = t :: r' → t.at_ = k)
  | 0, k, l, ts, gs, ts', gs', hf, h => by
    have hl : l = [] := List.eq_nil_of_length_eq_zero (by omega)
    subst hl
    simp only [scan, Res.ok.injEq] at h
    obtain ⟨rfl, rfl⟩ := h
    exact ⟨[], [], by simp, by simp, by simp [gapsOf], by simp, fun _ => ⟨fun _ => rfl, by simp⟩⟩
  | fuel + 1, k, l, ts, gs, ts', gs', hf, h => by
    rw [scan] at h
    split at h
    · rename_i hl
      subst hl
      simp only [Res.ok.injEq] at h
      obtain ⟨rfl, rfl⟩ := h
      exact ⟨[], [], by simp, by simp, by simp [gapsOf], by simp, fun _ => ⟨fun _ => rfl, by simp⟩⟩
    · rename_i hne
      have hpos : 0 < l.length := List.length_pos_iff.2 hne
      split at h
      · rename_i hg
        have hgl := gap_le l
        have hgg := gap_gap l
        obtain ⟨r, gr, h1, h2, h3, h4, h5⟩ := scan_gaps fuel _ _ _ _ ts' gs' (by rw [List.length_drop]; omega) h
        have hn : k + gap l + (l.drop (gap l)).length = k + l.length := by rw [List.length_drop]; omega
        rw [hn] at h3 h4
        obtain ⟨h6, h7⟩ := h5 hgg
        refine ⟨r, (k, k + gap l) :: gr, h1, by rw [h2]; simp, ?_, h4, fun h0 => absurd h0 (by omega)⟩
        rw [h3]
        cases r with
        | nil =>
          have he := h6 rfl
          have hd := congrArg List.length he
          rw [List.length_drop, List.length_nil] at hd
          have hk : k + gap l = k + l.length := by omega
          simp only [gapsOf]
          rw [if_neg (by omega), if_pos (by omega), hk]
        | cons t r' =>
          have ha := h7 t r' rfl
          simp only [gapsOf]
          rw [ha, if_neg (by omega), if_pos (by omega)]
          simp
      · rename_i hg0
        split at h
        · cases h
        · rename_i kd t hq
          obtain ⟨_, hp2, hp3, _, _⟩ := tok_prefix hq
          split at h
          · cases h
          · obtain ⟨r, gr, h1, h2, h3, h4, _⟩ := scan_gaps fuel _ _ _ _ ts' gs' (by rw [List.length_drop]; omega) h
            have hn : k + t.length + (l.drop t.length).length = k + l.length := by rw [List.length_drop]; omega
            rw [hn] at h3 h4
            refine ⟨⟨kd, t, k⟩ :: r, gr, by rw [h1]; simp, h2, ?_, ?_, fun _ => ⟨by simp, ?_⟩⟩
            · rw [h3]; simp [gapsOf]
            · intro x hx
              rcases List.mem_cons.1 hx with rfl | hx
              · show k + t.length ≤ _; omega
              · exact h4 x hx
            · intro x r' hx
              injection hx with hx _
              rw [← hx]

theorem read_gaps {l : B} {ts : List Tok} {gs : List (Nat × Nat)} (h : read l = .ok ts gs) : gs = gapsOf 0 ts l.length ∧ ∀ t ∈ ts, t.at_ + t.text.length ≤ l.length := by
  unfold read at h
  split at h
  · obtain ⟨r, gr, h1, h2, h3, h4, _⟩ := scan_gaps _ _ _ _ _ _ _ (Nat.le_refl _) h
    simp only [List.nil_append, Nat.zero_add] at h1 h2 h3 h4
    subst h1 h2
    exact ⟨h3, h4⟩
  · cases h
end Lx
