/- A text, gone through from place to place: which token or gap is due; plainly. -/
import Derived.Test.YtkhgmoljhehbnaaDoorG3
namespace Lx

theorem scan_ge : ∀ (fuel k : Nat) (l : B) (ts : List Tok) (gs : List (Nat × Nat)) (ts' : List Tok) (gs' : List (Nat × Nat)), scan fuel k l ts gs = .ok ts' gs' → ∃ r gr, ts' = ts ++ r ∧ gs' = gs ++ gr ∧ ∀ t ∈ r, k ≤ t.at_
  | 0, k, l, ts, gs, ts', gs', h => by
    simp only [scan, Res.ok.injEq] at h
    obtain ⟨rfl, rfl⟩ := h
    exact ⟨[], [], by simp, by simp, by simp⟩
  | fuel + 1, k, l, ts, gs, ts', gs', h => by
    rw [scan] at h
    split at h
    · simp only [Res.ok.injEq] at h
      obtain ⟨rfl, rfl⟩ := h
      exact ⟨[], [], by simp, by simp, by simp⟩
    · split at h
      · obtain ⟨r, gr, h1, h2, h3⟩ := scan_ge fuel _ _ _ _ ts' gs' h
        exact ⟨r, (k, k + gap l) :: gr, h1, by rw [h2]; simp, fun t ht => by have := h3 t ht; omega⟩
      · split at h
        · cases h
        · rename_i kd t hq
          split at h
          · cases h
          · obtain ⟨r, gr, h1, h2, h3⟩ := scan_ge fuel _ _ _ _ ts' gs' h
            refine ⟨⟨kd, t, k⟩ :: r, gr, by rw [h1]; simp, h2, fun x hx => ?_⟩
            rcases List.mem_cons.1 hx with rfl | hx
            · exact Nat.le_refl _
            · have := h3 x hx; omega

/-- what is due at a place -/
structure WAt (l : B) (ts : List Tok) (gs : List (Nat × Nat)) (a n k : Nat) (wg : Bool) : Prop where
  scan_ : ∃ fuel, (l.drop a).length ≤ fuel ∧ scan fuel a (l.drop a) (ts.take n) (gs.take k) = .ok ts gs
  nl : n ≤ ts.length
  kl : k ≤ gs.length
  al : a ≤ l.length
  wg_ : wg = true → gap (l.drop a) = 0
  before : ∀ (i : Nat) t, i < n → ts[i]? = some t → t.at_ + t.text.length ≤ a
  after : ∀ (i : Nat) t, n ≤ i → ts[i]? = some t → a ≤ t.at_

theorem WAt.mk' {l : B} {ts : List Tok} {gs : List (Nat × Nat)} {a n k : Nat} {wg : Bool} {fuel : Nat} (hf : (l.drop a).length ≤ fuel) (h : scan fuel a (l.drop a) (ts.take n) (gs.take k) = .ok ts gs)
    (nl : n ≤ ts.length) (kl : k ≤ gs.length) (al : a ≤ l.length) (w : wg = true → gap (l.drop a) = 0) (b : ∀ (i : Nat) t, i < n → ts[i]? = some t → t.at_ + t.text.length ≤ a) : WAt l ts gs a n k wg := by
  refine ⟨⟨fuel, hf, h⟩, nl, kl, al, w, b, fun i t hi ht => ?_⟩
  obtain ⟨r, gr, h1, _, h3⟩ := scan_ge _ _ _ _ _ _ _ h
  have hr : r = ts.drop n := by
    have h4 := List.take_append_drop n ts
    rw [← h4] at h1
    have h5 : (ts.take n ++ ts.drop n).take n = ts.take n := by rw [List.take_append_drop]
    rw [h5] at h1
    exact (List.append_cancel_left h1).symm
  refine h3 t ?_
  rw [hr]
  refine List.mem_of_getElem? (i := i - n) ?_
  rw [List.getElem?_drop, show n + (i - n) = i by omega]
  exact ht

theorem take_succ_of {α : Type} {xs : List α} {n : Nat} {x : α} {r : List α} (hn : n ≤ xs.length) (h : xs = xs.take n ++ [x] ++ r) : xs[n]? = some x ∧ xs.take (n + 1) = xs.take n ++ [x] ∧ n < xs.length := by
  have hl : (xs.take n).length = n := by rw [List.length_take]; omega
  have h1 : xs[n]? = some x := by
    rw [h, List.getElem?_append_left (by simp [hl]), List.getElem?_append_right (by omega), hl]
    simp
  have h2 : n < xs.length := by
    rcases Nat.lt_or_ge n xs.length with h' | h'
    · exact h'
    · rw [List.getElem?_eq_none h'] at h1; cases h1
  exact ⟨h1, by rw [List.take_add_one, h1]; rfl, h2⟩

theorem WAt.start {l : B} {ts : List Tok} {gs : List (Nat × Nat)} (h : read l = .ok ts gs) : WAt l ts gs 0 0 0 false := by
  unfold read at h
  split at h
  · exact WAt.mk' (fuel := l.length) (by simp) (by simpa using h) (Nat.zero_le _) (Nat.zero_le _) (Nat.zero_le _) (by simp) (by simp)
  · cases h

theorem WAt.gap {l : B} {ts : List Tok} {gs : List (Nat × Nat)} {a n k : Nat} {wg : Bool} (h : WAt l ts gs a n k wg) (hg : 0 < Lx.gap (l.drop a)) :
    wg = false ∧ k < gs.length ∧ gs[k]? = some (a, a + Lx.gap (l.drop a)) ∧ a + Lx.gap (l.drop a) ≤ l.length ∧ WAt l ts gs (a + Lx.gap (l.drop a)) n (k + 1) true := by
  obtain ⟨fuel, hf, hs⟩ := h.scan_
  have hwg : wg = false := by cases wg with | false => rfl | true => have := h.wg_ rfl; omega
  have hgl := gap_le (l.drop a)
  have hgg := gap_gap (l.drop a)
  have hal := h.al
  rw [List.length_drop] at hgl hf
  cases fuel with
  | zero => omega
  | succ fuel =>
    rw [scan, if_neg (by intro e; rw [e] at hg; simp [Lx.gap, gapIn] at hg), if_pos hg, List.drop_drop] at hs
    rw [List.drop_drop] at hgg
    obtain ⟨r, gr, h1, h2, h3⟩ := scan_ge _ _ _ _ _ _ _ hs
    obtain ⟨e1, e2, e3⟩ := take_succ_of h.kl h2
    rw [← e2] at hs
    exact ⟨hwg, e3, e1, by omega, WAt.mk' (by rw [List.length_drop]; omega) hs h.nl e3 (by omega) (fun _ => hgg) (fun i t hi ht => by have := h.before i t hi ht; omega)⟩

theorem WAt.tok {l : B} {ts : List Tok} {gs : List (Nat × Nat)} {a n k : Nat} {wg : Bool} (h : WAt l ts gs a n k wg) (hl : a < l.length) (hg : Lx.gap (l.drop a) = 0) :
    ∃ x : Tok, ts[n]? = some x ∧ n < ts.length ∧ x.at_ = a ∧ 0 < x.text.length ∧ a + x.text.length ≤ l.length ∧ (l.drop a).take x.text.length = x.text ∧ WAt l ts gs (a + x.text.length) (n + 1) k false := by
  obtain ⟨fuel, hf, hs⟩ := h.scan_
  have hal := h.al
  have hlen : (l.drop a).length = l.length - a := List.length_drop
  cases fuel with
  | zero => omega
  | succ fuel =>
    rw [scan, if_neg (by intro e; rw [e] at hlen; simp at hlen; omega), if_neg (by omega)] at hs
    split at hs
    · cases hs
    · rename_i kd t hq
      obtain ⟨hp1, hp2, hp3, _, _⟩ := tok_prefix hq
      split at hs
      · cases hs
      · rw [List.drop_drop] at hs
        obtain ⟨r, gr, h1, h2, h3⟩ := scan_ge _ _ _ _ _ _ _ hs
        obtain ⟨e1, e2, e3⟩ := take_succ_of h.nl h1
        rw [← e2] at hs
        refine ⟨⟨kd, t, a⟩, e1, e3, rfl, hp2, by show a + t.length ≤ _; omega, hp1, WAt.mk' (fuel := fuel) ?_ hs e3 h.kl ?_ (fun e => by cases e) ?_⟩
        · show (l.drop (a + t.length)).length ≤ fuel
          rw [List.length_drop]; omega
        · show a + t.length ≤ _; omega
        · intro i y hi hy
          show _ ≤ a + t.length
          by_cases hin : i = n
          · subst hin
            rw [e1] at hy
            injection hy with hy
            subst hy
            exact Nat.le_refl _
          · have := h.before i y (by omega) hy; omega

theorem WAt.stop {l : B} {ts : List Tok} {gs : List (Nat × Nat)} {a n k : Nat} {wg : Bool} (h : WAt l ts gs a n k wg) (hl : l.length ≤ a) : n = ts.length ∧ k = gs.length := by
  obtain ⟨fuel, hf, hs⟩ := h.scan_
  have hd : l.drop a = [] := List.drop_eq_nil_of_le hl
  rw [hd, scan_end] at hs
  simp only [Res.ok.injEq] at hs
  have h1 := congrArg List.length hs.1
  have h2 := congrArg List.length hs.2
  rw [List.length_take] at h1 h2
  have := h.nl
  have := h.kl
  omega
end Lx

namespace Go.Proofs.YtkhgmoljhehbnaaDoor
open Go.RowKit

theorem of_get {ts : List Lx.Tok} {i : Nat} {z : LT} (h : (ts.map LT.of)[i]? = some z) : ∃ t, ts[i]? = some t ∧ z = LT.of t := by
  rw [List.getElem?_map] at h
  cases ht : ts[i]? with
  | none => rw [ht] at h; simp at h
  | some t => rw [ht] at h; simp at h; exact ⟨t, rfl, h.symm⟩
theorem hasAt_of (p : Int) (t : Lx.Tok) : hasAt p (LT.of t) = (decide ((t.at_ : Int) ≤ p) && decide (p < (t.at_ + t.text.length : Nat))) := by
  have h4 : (LT.of t).text.size = t.text.length := by rw [Lib.size_eq, of_data]
  have h5 : (LT.of t).at_ = (t.at_ : Int) := rfl
  unfold hasAt
  rw [h4, h5, Int.natCast_add]

/-- the token that has a byte of the one that is due -/
theorem idx_tok {l : Lx.B} {ts : List Lx.Tok} {gs : List (Nat × Nat)} {a n k : Nat} {wg : Bool} (h : Lx.WAt l ts gs a n k wg) {x : Lx.Tok} (hx : ts[n]? = some x) (ha : x.at_ = a) (i : Nat) (hi : i < x.text.length) :
    Lx.fidx (hasAt ((a + i : Nat) : Int)) (ts.map LT.of) 0 = (n : Nat) := by
  have := Lx.fidx_hit (hasAt ((a + i : Nat) : Int)) (ts.map LT.of) 0 n (LT.of x) (by rw [List.getElem?_map, hx]; rfl) ?_ ?_
  · rw [this, Nat.zero_add]
  · rw [hasAt_of, ha]; simp; omega
  · intro j z hj hz
    obtain ⟨t, ht, rfl⟩ := of_get hz
    have := h.before j t hj ht
    rw [hasAt_of]; simp; omega
/-- no token has the first byte of a gap -/
theorem idx_gap {l : Lx.B} {ts : List Lx.Tok} {gs : List (Nat × Nat)} {a n k k' b : Nat} {wg wg' : Bool} (h : Lx.WAt l ts gs a n k wg) (h2 : Lx.WAt l ts gs b n k' wg') (hab : a < b) :
    Lx.fidx (hasAt (a : Int)) (ts.map LT.of) 0 = -1 := by
  refine Lx.fidx_miss _ _ 0 (fun z hz => ?_)
  obtain ⟨t, ht, rfl⟩ := List.mem_map.1 hz
  obtain ⟨i, hi, rfl⟩ := List.getElem_of_mem ht
  have ht' := List.getElem?_eq_getElem hi
  rw [hasAt_of]
  rcases Nat.lt_or_ge i n with hin | hin
  · have := h.before i _ hin ht'; simp; omega
  · have := h2.after i _ hin ht'; simp; omega

theorem own_gap_cells_h {W : World} {B cap : Nat} {A : Option Addr} {gs : List (Nat × Nat)} (h : OwnGaps W B A cap gs) {j : Nat} {x : Nat × Nat} (hx : gs[j]? = some x) :
    ∃ g, A = some ⟨g, 0, none⟩ ∧ W.cell? ⟨g, j * 2, none⟩ = some (.int .i64 x.1) ∧ W.cell? ⟨g, j * 2 + 1, none⟩ = some (.int .i64 x.2) := by
  have hl : j < gs.length := by
    rcases Nat.lt_or_ge j gs.length with h | h
    · exact h
    · rw [List.getElem?_eq_none h] at hx; cases hx
  obtain ⟨g, cap', hv, _, _⟩ := h.form (by omega)
  injection hv with hA _ hc
  subst hA hc
  have hrow : ∀ (l : List (Nat × Nat)) (i : Nat) (y : Nat × Nat), l[i]? = some y → (gapRow l)[i * 2]? = some (.int .i64 y.1) ∧ (gapRow l)[i * 2 + 1]? = some (.int .i64 y.2) := by
    intro l
    induction l with
    | nil => intro i y hy; simp at hy
    | cons z r ih =>
      intro i y hy
      cases i with
      | zero => simp at hy; subst hy; exact ⟨rfl, rfl⟩
      | succ i =>
        rw [List.getElem?_cons_succ] at hy
        obtain ⟨h1, h2⟩ := ih i y hy
        have e : gapRow (z :: r) = .int .i64 z.1 :: .int .i64 z.2 :: gapRow r := rfl
        rw [e, show (i + 1) * 2 = i * 2 + 1 + 1 by omega, show i * 2 + 1 + 1 + 1 = (i * 2 + 1) + 1 + 1 by omega]
        simp only [List.getElem?_cons_succ]
        exact ⟨h1, h2⟩
  obtain ⟨h1, h2⟩ := hrow gs j x hx
  exact ⟨g, rfl, by rw [World.ownsRow.cellAt h _ (by omega)]; exact h1, by rw [World.ownsRow.cellAt h _ (by omega)]; exact h2⟩

theorem ownGaps_below_h {w w' : World} {base : Nat} {A : Option Addr} {cap : Nat} {gs : List (Nat × Nat)} (h : OwnGaps w base A cap gs) (hb : Below w.heap.size w w') : OwnGaps w' base A cap gs :=
  h.kept (grown_of_below hb none) (by
    rcases A with _ | a
    · left; rfl
    · right; simp [Value.ownBlock])

theorem below_drewN_h {B : Nat} {w w' : World} (h : Below B w w') (n : Nat) : Below B w (w'.drewN n) := by
  induction n with
  | zero => exact h
  | succ n ih => exact ih.drew

theorem own_tok_cells_h {W : World} {B cap : Nat} {A : Option Addr} {ts : List Lx.Tok} (h : OwnToks W B A cap ts) {j : Nat} {y : LT} (hy : (ts.map LT.of)[j]? = some y) :
    ∃ g, A = some ⟨g, 0, none⟩ ∧ W.cell? ⟨g, j * 3, none⟩ = some (.int .u8 y.kind) ∧ W.cell? ⟨g, j * 3 + 1, none⟩ = some (.string y.text) ∧ W.cell? ⟨g, j * 3 + 2, none⟩ = some (.int .i64 y.at_) := by
  obtain ⟨g, hT, _, htin⟩ := toksIn_of_own h (by intro e; subst e; simp at hy)
  obtain ⟨h0, h1, h2⟩ := htin j y hy
  rw [Nat.zero_add] at h0 h1 h2
  exact ⟨g, hT, h0, h1, h2⟩

end Go.Proofs.YtkhgmoljhehbnaaDoor
