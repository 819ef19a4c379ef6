/- The walk of lex.Bare. -/
import Derived.Test.YtkhgmoljhehbnaaDoorB3
namespace Go.Proofs.YtkhgmoljhehbnaaDoor
open Go.RowKit

theorem scan_small (M : Nat) : ∀ (fuel k : Nat) (l : Lx.B) (ts : List Lx.Tok) (gs : List (Nat × Nat)), (∀ t ∈ ts, t.text.length ≤ M) → l.length ≤ M → ts.length ≤ 900 →
    (∀ t ∈ (Lx.scan fuel k l ts gs).ts, t.text.length ≤ M) ∧ (Lx.scan fuel k l ts gs).ts.length ≤ 900
  | 0, _, _, ts, gs, h1, _, h3 => by simp only [Lx.scan, Lx.Res.ts]; exact ⟨h1, h3⟩
  | fuel + 1, k, l, ts, gs, h1, h2, h3 => by
    rw [Lx.scan]
    split
    · exact ⟨h1, h3⟩
    · split
      · exact scan_small M fuel _ _ ts _ h1 (by simp; omega) h3
      · split
        · simp [Lx.Res.ts]
        · rename_i kd t hq
          split
          · simp [Lx.Res.ts]
          · refine scan_small M fuel _ _ _ gs (fun x hx => ?_) (by simp; omega) (by simp; omega)
            rcases List.mem_append.1 hx with h | h
            · exact h1 x h
            · simp at h; subst h
              have := (Lx.tok_prefix hq).2.2.1
              show t.length ≤ M
              omega

theorem read_small (l : Lx.B) : (∀ t ∈ (Lx.read l).ts, t.text.length ≤ 2500) ∧ (Lx.read l).ts.length ≤ 900 := by
  unfold Lx.read
  split
  · rename_i h
    exact scan_small 2500 _ _ _ _ _ (by simp) (check_lt l h) (by simp)
  · simp [Lx.Res.ts]

def LT.of (t : Lx.Tok) : LT := ⟨t.kind, ⟨t.text.toArray⟩, t.at_⟩

theorem bareN_small (M : Nat) (ts : List LT) (h : ∀ x ∈ ts, x.text.size ≤ M) : ∀ k, (bareN ts k).length ≤ k * (M + 1)
  | 0 => by simp [bareN]
  | k + 1 => by
    have ih := bareN_small M ts h k
    have h1 : (sepAt ts k).length ≤ 1 := by
      cases k with
      | zero => simp [sepAt]
      | succ j =>
        simp only [sepAt]
        cases ts[j]? with
        | none => simp
        | some x =>
          cases ts[j + 1]? with
          | none => simp
          | some y => simp only; split <;> simp
    have h2 : (txtAt ts k).length ≤ M := by
      unfold txtAt
      split
      · rename_i x hx
        have := h x (List.mem_of_getElem? hx)
        rwa [Lib.size_eq] at this
      · simp
    rw [bareN, List.length_append, List.length_append, Nat.succ_mul]
    omega

theorem bareP_read (l : Lx.B) : (bareP ((Lx.read l).ts.map LT.of)).length ≤ 3000000 := by
  obtain ⟨h1, h2⟩ := read_small l
  have := bareN_small 2500 ((Lx.read l).ts.map LT.of) (fun x hx => by
    simp only [List.mem_map] at hx
    obtain ⟨t, ht, rfl⟩ := hx
    have := h1 t ht
    simpa [LT.of, ByteArray.size] using this) ((Lx.read l).ts.map LT.of).length
  unfold bareP
  simp only [List.length_map] at this ⊢
  have h3 : (Lx.read l).ts.length * (2500 + 1) ≤ 900 * 2501 := Nat.mul_le_mul_right _ h2
  omega

theorem tokRow_get : ∀ (ts : List Lx.Tok) (i : Nat) (t : Lx.Tok), ts[i]? = some t → (tokRow ts)[i * 3]? = some (.int .u8 t.kind) ∧ (tokRow ts)[i * 3 + 1]? = some (.string ⟨t.text.toArray⟩) ∧ (tokRow ts)[i * 3 + 2]? = some (.int .i64 t.at_)
  | [], i, t, h => by simp at h
  | x :: r, 0, t, h => by simp at h; subst h; simp [tokRow, tokCells, sv]
  | x :: r, i + 1, t, h => by
    have h' : r[i]? = some t := by simpa using h
    obtain ⟨h0, h1, h2⟩ := tokRow_get r i t h'
    have e : tokRow (x :: r) = tokCells x ++ tokRow r := by simp [tokRow]
    have hl : (tokCells x).length = 3 := rfl
    rw [e]
    refine ⟨?_, ?_, ?_⟩
    · rw [List.getElem?_append_right (by rw [hl]; omega), hl, show (i + 1) * 3 - 3 = i * 3 by omega]; exact h0
    · rw [List.getElem?_append_right (by rw [hl]; omega), hl, show (i + 1) * 3 + 1 - 3 = i * 3 + 1 by omega]; exact h1
    · rw [List.getElem?_append_right (by rw [hl]; omega), hl, show (i + 1) * 3 + 2 - 3 = i * 3 + 2 by omega]; exact h2

theorem toksIn_of_own {w : World} {B : Nat} {A : Option Addr} {cap : Nat} {ts : List Lx.Tok} (h : OwnToks w B A cap ts) (hne : ts ≠ []) : ∃ g, A = some ⟨g, 0, none⟩ ∧ B ≤ g ∧ ToksIn w g 0 (ts.map LT.of) := by
  have hl : 0 < ts.length := List.length_pos_iff.2 hne
  obtain ⟨g, cap', hv, hg, _⟩ := h.form hl
  injection hv with hA hn hc
  subst hA hc
  refine ⟨g, rfl, hg, fun i x hx => ?_⟩
  rw [List.getElem?_map] at hx
  cases ht : ts[i]? with
  | none => rw [ht] at hx; simp at hx
  | some t =>
    rw [ht] at hx
    simp at hx
    subst hx
    have hi : i < ts.length := by
      rcases Nat.lt_or_ge i ts.length with h | h
      · exact h
      · rw [List.getElem?_eq_none h] at ht; cases ht
    obtain ⟨h0, h1, h2⟩ := tokRow_get ts i t ht
    have hc := fun j (hj : j < ts.length * 3) => World.ownsRow.cellAt h j hj
    exact ⟨by rw [Nat.zero_add, hc _ (by omega)]; exact h0, by rw [Nat.zero_add, hc _ (by omega)]; exact h1, by rw [Nat.zero_add, hc _ (by omega)]; exact h2⟩

set_option maxRecDepth 100000 in
set_option maxHeartbeats 2000000 in
theorem lexBare_any (s : ByteArray) (hs : s.size ≤ 281474976710656) (w : World) (he : Env w) :
    Calls Tryd.prog 20 #[.string s] w fun e w' => e = .returned (.tuple #[.string ⟨(bareP ((Lx.read s.data.toList).ts.map LT.of)).toArray⟩, .int .i64 (Lx.read s.data.toList).at_, .int .i64 (Lx.read s.data.toList).e]) ∧ Below w.heap.size w w' := by
  have h := rd_any s hs w he
  have hbs := bareP_read s.data.toList
  have hln := (read_small s.data.toList).2
  have hre : (Lx.read s.data.toList).ts ≠ [] → (Lx.read s.data.toList).e = 0 := by
    cases Lx.read s.data.toList <;> simp [Lx.Res.ts, Lx.Res.e]
  generalize Lx.read s.data.toList = R at h hbs hln hre ⊢
  have H := Lib.hid h
  have HE := Lib.hid he
  clear h he
  go_enter Tryd.func20, Tryd.ntmps20
  go_wp2_with fail
  refine H.out.mono ?_
  rintro e w1 ⟨⟨A, cap, G, gcap, mo, so, q, sx, heq, h1, h2, h3⟩, hb⟩
  unfold rdV at heq
  subst heq
  have hz := hb.size
  have HE1 := Lib.hid (HE.out.below hb HE.out.lt)
  have key : ∀ W, Below w1.heap.size w1 W → Calls Tryd.prog 47 #[.agg #[.map mo, .slice so q q], .slice A R.ts.length cap] W fun e w' => e = .returned (.string ⟨(bareP (R.ts.map LT.of)).toArray⟩) ∧ Below W.heap.size W w' := by
    intro W hW
    by_cases hne : R.ts = []
    · have := bare_empty mo so q A cap W
      rw [hne]
      simpa [bareP, bareN] using this
    · obtain ⟨bm, bs, rfl, rfl, rfl, hv⟩ := h3 (hre hne)
      obtain ⟨g, rfl, _, hin⟩ := toksIn_of_own h1 hne
      have hne' : R.ts.map LT.of ≠ [] := by simpa using hne
      have := bare_any (R.ts.map LT.of) hbs (by simp; omega) bm bs g 0 cap W (hv.below hW) (HE1.out.below hW HE1.out.lt) (hin.below hW (fun h => hin.lt h)) hne'
      simpa using this
  have HK := Lib.hid key
  clear key h1 h2 h3
  go_wp2_with fail
  refine (HK.out _ ((Below.refl _ _).alloc (Nat.le_refl _) _)).mono ?_
  rintro e w2 ⟨rfl, hb2⟩
  go_wp2
  go_ret3
  exact ⟨rfl, (hb.alloc hz _).trans (hb2.mono (by simp; omega))⟩

end Go.Proofs.YtkhgmoljhehbnaaDoor
