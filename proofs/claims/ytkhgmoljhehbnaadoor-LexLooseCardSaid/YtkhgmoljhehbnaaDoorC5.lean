/- The walk of lex.read. -/
import Derived.Test.YtkhgmoljhehbnaaDoorC4
namespace Go.Proofs.YtkhgmoljhehbnaaDoor
open Go.RowKit

theorem step_any (s : ByteArray) (hs : s.size ≤ 2500) (k : Nat) (hk : k < s.size) (w : World) (base b : Nat) (A : Option Addr) (cap : Nat) (ts : List Lx.Tok) (G : Option Addr) (gcap : Nat) (gs : List (Nat × Nat)) (bm bs : Nat)
    (hr : Rdr w base b A cap ts G gcap gs bm bs s) (he : Env w) (hts : ts.length ≤ 900) (hgs : gs.length ≤ 2500) :
    Calls Tryd.prog 68 #[.pointer (some ⟨b, 0, none⟩), .int .i64 k] w fun e w' => StepIs w' base b bm bs s (stepP s k ts gs) e ∧ Below b w w' := by
  by_cases h : 0 < Lx.gap (s.data.toList.drop k)
  · exact step_gap s hs k hk w base b A cap ts G gcap gs bm bs hr hgs h
  · cases hq : Lx.tok (s.data.toList.drop k) with
    | none => exact step_none s hs k hk w base b A cap ts G gcap gs bm bs hr he h hq
    | some x =>
      obtain ⟨kd, t⟩ := x
      by_cases h9 : ts.length = 900
      · exact step_full s hs k hk w base b A cap ts G gcap gs bm bs hr he h kd t hq h9
      · exact step_some s hs k hk w base b A cap ts G gcap gs bm bs hr he h kd t hq (by omega)

/-- a reading under way, from the list's side -/
def RdS (s : ByteArray) (R : Lx.Res) (k : Nat) (ts : List Lx.Tok) (gs : List (Nat × Nat)) : Prop := ∃ fuel, (s.data.toList.drop k).length ≤ fuel ∧ Lx.scan fuel k (s.data.toList.drop k) ts gs = R
theorem RdS.start (s : ByteArray) (h : (Lx.check s.data.toList).2 = 0) : RdS s (Lx.read s.data.toList) 0 [] [] :=
  ⟨s.data.toList.length, by simp, by unfold Lx.read; rw [if_pos h]; simp⟩
theorem RdS.stop {s : ByteArray} {R : Lx.Res} {k : Nat} {ts : List Lx.Tok} {gs : List (Nat × Nat)} (h : RdS s R k ts gs) (hk : s.size ≤ k) : R = .ok ts gs := by
  obtain ⟨fuel, hf, he⟩ := h
  rw [List.drop_eq_nil_of_le (by rw [← Lib.size_eq]; exact hk), Lx.scan_end] at he
  exact he.symm
theorem RdS.step {s : ByteArray} {R : Lx.Res} {k : Nat} {ts : List Lx.Tok} {gs : List (Nat × Nat)} (h : RdS s R k ts gs) (hk : k < s.size) (hts : ts.length ≤ 900) (hgs : gs.length ≤ k) :
    (stepP s k ts gs).2.1 = 0 ∧ RdS s R (stepP s k ts gs).1 (stepP s k ts gs).2.2.1 (stepP s k ts gs).2.2.2 ∧ k < (stepP s k ts gs).1 ∧ (stepP s k ts gs).1 ≤ s.size ∧ (stepP s k ts gs).2.2.1.length ≤ 900 ∧ (stepP s k ts gs).2.2.2.length ≤ (stepP s k ts gs).1 ∨
    (stepP s k ts gs).2.1 ≠ 0 ∧ R = .bad (stepP s k ts gs).1 (stepP s k ts gs).2.1 ∧ (stepP s k ts gs).1 ≤ s.size := by
  obtain ⟨fuel, hf, he⟩ := h
  have hne : s.data.toList.drop k ≠ [] := by rw [drop_at s k hk]; simp
  have hl : 0 < (s.data.toList.drop k).length := List.length_pos_iff.2 hne
  cases fuel with
  | zero => omega
  | succ n =>
    rw [Lx.scan, if_neg hne] at he
    unfold stepP
    have hgl := Lx.gap_le (s.data.toList.drop k)
    have hsz : (s.data.toList.drop k).length = s.size - k := by rw [List.length_drop, ← Lib.size_eq s]
    by_cases hg : 0 < Lx.gap (s.data.toList.drop k)
    · rw [if_pos hg] at he ⊢
      rw [List.drop_drop] at he
      refine .inl ⟨rfl, ⟨n, ?_, he⟩, ?_, ?_, hts, ?_⟩
      · simp only [List.length_drop] at hf hgl hl ⊢; omega
      · show k < k + _; omega
      · show k + _ ≤ _; omega
      · show (gs ++ _).length ≤ k + _; simp; omega
    · rw [if_neg hg] at he ⊢
      cases ht : Lx.tok (s.data.toList.drop k) with
      | none => rw [ht] at he; exact .inr ⟨by simp, he.symm, Nat.le_of_lt hk⟩
      | some x =>
        obtain ⟨kd, t⟩ := x
        obtain ⟨_, hp2, hp3, _, _⟩ := Lx.tok_prefix ht
        simp only [ht] at he ⊢
        by_cases h9 : ts.length = 900
        · rw [if_pos h9] at he ⊢
          exact .inr ⟨by simp, he.symm, Nat.le_of_lt hk⟩
        · rw [if_neg h9] at he ⊢
          rw [List.drop_drop] at he
          refine .inl ⟨rfl, ⟨n, ?_, he⟩, ?_, ?_, ?_, ?_⟩
          · simp only [List.length_drop] at hf hp3 hl ⊢; omega
          · show k < k + _; omega
          · show k + _ ≤ _; omega
          · show (ts ++ _).length ≤ 900; simp; omega
          · show gs.length ≤ k + _; omega

theorem check_lt (l : Lx.B) (h : (Lx.check l).2 = 0) : l.length ≤ 2500 := by
  unfold Lx.check at h
  split at h
  · simp at h
  · omega
end Go.Proofs.YtkhgmoljhehbnaaDoor
