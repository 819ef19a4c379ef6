/- READ BACK, plainly; tokens by bytes; the walk of LexTurned; for LexBack and LexLoose: gaps between tokens, alike, spaced, a gap put in, rows of whole numbers. -/
import Derived.Test.YtkhgmoljhehbnaaDoorE1
import Derived.Test.YtkhgmoljhehbnaaDoorL2
import Derived.Test.YtkhgmoljhehbnaaDoorK2
import Derived.Test.YtkhgmoljhehbnaaDoorF1
import Derived.Test.YtkhgmoljhehbnaaDoorM5
import Derived.Test.YtkhgmoljhehbnaaDoorG1
/- READ BACK, plainly; the laws' own tokens, made by bytes; one token turned into another one; the walk of the law LexTurned. -/

namespace Lx

theorem find_congr {p q : B → Bool} : ∀ l : List B, (∀ x ∈ l, p x = q x) → l.find? p = l.find? q
  | [], _ => rfl
  | x :: r, h => by
    rw [List.find?_cons, List.find?_cons, h x (by simp), find_congr r (fun y hy => h y (by simp [hy]))]
theorem signs_two : ∀ x ∈ signs, x.length ≤ 2 := by decide

theorem hasPrefix_same (l m x : B) (h : x.length ≤ l.length) : hasPrefix (l ++ m) x = hasPrefix l x := by
  unfold hasPrefix
  rw [List.take_append_of_le_length h]

/-- a token stays, whatever stands behind the byte that ends it -/
theorem tok_more {a b m : B} {k : Nat} (h : tok (a ++ b) = some (k, a)) (hb : 0 < b.length) : tok (a ++ (b ++ m)) = some (k, a) := by
  obtain ⟨_, hpos, _, _, _⟩ := tok_prefix h
  have key : ∀ p, run p (a ++ b) = min (run p (a ++ (b ++ m))) (a ++ b).length := fun p => by
    have := run_min p (a ++ b) m
    rwa [List.append_assoc] at this
  have hlen : (a ++ b).length = a.length + b.length := List.length_append
  unfold tok tokOf at h ⊢
  by_cases h1 : 0 < run isLetter (a ++ b)
  · rw [if_pos h1] at h
    rw [if_pos (by have := key isLetter; omega)]
    have ht : (a ++ b).take (run wordByte (a ++ b)) = a := by
      simp only at h
      split at h
      · simp only [Option.some.injEq, Prod.mk.injEq] at h; exact h.2
      · split at h
        · cases h
        · simp only [Option.some.injEq, Prod.mk.injEq] at h; exact h.2
    have hn : run wordByte (a ++ b) = a.length := by
      have := congrArg List.length ht
      rw [List.length_take, Nat.min_eq_left (run_le _ _)] at this
      exact this
    have hn2 : run wordByte (a ++ (b ++ m)) = a.length := by have := key wordByte; omega
    have ht2 : (a ++ (b ++ m)).take (run wordByte (a ++ (b ++ m))) = a := by rw [hn2]; simp
    simp only [ht, ht2] at h ⊢
    exact h
  · rw [if_neg h1] at h
    rw [if_neg (by have := key isLetter; omega)]
    by_cases h2 : 0 < run isDigit (a ++ b)
    · rw [if_pos h2] at h
      rw [if_pos (by have := key isDigit; omega)]
      have ht : (a ++ b).take (run isDigit (a ++ b)) = a := by
        simp only at h
        split at h
        · simp only [Option.some.injEq, Prod.mk.injEq] at h; exact h.2
        · cases h
      have hn : run isDigit (a ++ b) = a.length := by
        have := congrArg List.length ht
        rw [List.length_take, Nat.min_eq_left (run_le _ _)] at this
        exact this
      have hn2 : run isDigit (a ++ (b ++ m)) = a.length := by have := key isDigit; omega
      have ht2 : (a ++ (b ++ m)).take (run isDigit (a ++ (b ++ m))) = a := by rw [hn2]; simp
      simp only [ht, ht2] at h ⊢
      exact h
    · rw [if_neg h2] at h
      rw [if_neg (by have := key isDigit; omega)]
      unfold signOf at h ⊢
      have hc : signs.find? (hasPrefix (a ++ (b ++ m))) = signs.find? (hasPrefix (a ++ b)) := find_congr _ (fun x hx => by
        have := signs_two x hx
        rw [← List.append_assoc]
        exact hasPrefix_same _ _ _ (by omega))
      rw [hc]
      exact h

theorem run_stop (p : UInt8 → Bool) : ∀ (a : B) (c : UInt8) (m : B), p c = false → run p (a ++ c :: m) = run p a
  | [], c, m, h => by simp [run, h]
  | d :: a, c, m, h => by
    simp only [List.cons_append, run]
    rw [run_stop p a c m h]

/-- a token stays, where a byte follows that is no part of a word, or a sign -/
theorem tok_end {a m : B} {c : UInt8} {k : Nat} (h : tok a = some (k, a)) (hw : wordByte c = false) (hs : ∀ x ∈ signs, ∀ y ∈ x, y ≠ c) : tok (a ++ c :: m) = some (k, a) := by
  obtain ⟨_, hpos, _, _, _⟩ := tok_prefix h
  have hl : isLetter c = false := by cases hh : isLetter c with | false => rfl | true => rw [wordByte, hh] at hw; simp at hw
  have hd : isDigit c = false := by cases hh : isDigit c with | false => rfl | true => rw [wordByte, hh] at hw; simp at hw
  unfold tok tokOf at h ⊢
  rw [run_stop isLetter a c m hl, run_stop isDigit a c m hd, run_stop wordByte a c m hw]
  have htk : ∀ p, (a ++ c :: m).take (run p a) = a.take (run p a) := fun p => List.take_append_of_le_length (run_le p a)
  rw [htk wordByte, htk isDigit]
  by_cases h1 : 0 < run isLetter a
  · rw [if_pos h1] at h ⊢; exact h
  · rw [if_neg h1] at h ⊢
    by_cases h2 : 0 < run isDigit a
    · rw [if_pos h2] at h ⊢; exact h
    · rw [if_neg h2] at h ⊢
      unfold signOf at h ⊢
      have hc : signs.find? (hasPrefix (a ++ c :: m)) = signs.find? (hasPrefix a) := find_congr _ (fun x hx => by
        by_cases hxa : x.length ≤ a.length
        · exact hasPrefix_same _ _ _ hxa
        · have e2 : hasPrefix a x = false := by
            unfold hasPrefix
            rw [beq_eq_false_iff_ne]
            intro e
            have := congrArg List.length e
            rw [List.length_take] at this
            omega
          have e1 : hasPrefix (a ++ c :: m) x = false := by
            unfold hasPrefix
            rw [beq_eq_false_iff_ne]
            intro e
            have hx2 : x[a.length]? = some c := by
              rw [← e, List.getElem?_take, if_pos (by omega), List.getElem?_append_right (Nat.le_refl _)]
              simp
            exact hs x hx c (List.mem_of_getElem? hx2) rfl
          rw [e1, e2])
      rw [hc]
      exact h
end Lx

namespace Go.Proofs.YtkhgmoljhehbnaaDoor
open Go.RowKit

/-- the bare text, from the left -/
def sepOf (x y : LT) : Lx.B := if apartB x.kind x.text y.text then [32] else []
def bareL : List LT → Lx.B
  | [] => []
  | [x] => x.text.data.toList
  | x :: y :: r => x.text.data.toList ++ sepOf x y ++ bareL (y :: r)

theorem bareN_cons (x y : LT) (r : List LT) : ∀ k, k ≤ r.length → bareN (x :: y :: r) (k + 2) = x.text.data.toList ++ sepOf x y ++ bareN (y :: r) (k + 1)
  | 0, _ => by simp [bareN, sepAt, txtAt, sepOf]
  | k + 1, h => by
    rw [bareN, bareN_cons x y r k (by omega)]
    conv => rhs; rw [bareN]
    have e1 : sepAt (x :: y :: r) (k + 2) = sepAt (y :: r) (k + 1) := by simp [sepAt]
    have e2 : txtAt (x :: y :: r) (k + 2) = txtAt (y :: r) (k + 1) := by simp [txtAt]
    rw [e1, e2]
    simp only [List.append_assoc]
theorem bareP_bareL : ∀ ts : List LT, bareP ts = bareL ts
  | [] => rfl
  | [x] => by simp [bareP, bareN, sepAt, txtAt, bareL]
  | x :: y :: r => by
    have ih := bareP_bareL (y :: r)
    unfold bareP at ih ⊢
    rw [bareL, ← ih]
    exact bareN_cons x y r r.length (Nat.le_refl _)

/-- two lists of tokens are alike -/
def likeL (ts : List Lx.Tok) (xs : List LT) : Prop := ts.map (fun t => (t.kind, t.text)) = xs.map (fun x => (x.kind, x.text.data.toList))

theorem right_of {x : LT} (h : rightL x = true) : Lx.tok x.text.data.toList = some (x.kind, x.text.data.toList) := by
  unfold rightL rightB rightR at h
  cases hq : Lx.tok x.text.data.toList with
  | none => rw [hq] at h; simp at h
  | some z =>
    obtain ⟨zk, zt⟩ := z
    rw [hq] at h
    simp [sameB, optK, optS] at h
    rw [h.1, ← h.2]

theorem bareL_head (y : LT) (r : List LT) : ∃ m, bareL (y :: r) = y.text.data.toList ++ m := by
  cases r with
  | nil => exact ⟨[], by simp [bareL]⟩
  | cons z r => exact ⟨sepOf y z ++ bareL (z :: r), by rw [bareL, List.append_assoc]⟩

theorem blank_end : Lx.wordByte 32 = false ∧ ∀ x ∈ Lx.signs, ∀ y ∈ x, y ≠ 32 := by decide

theorem scan_bare : ∀ (ts : List LT) (fuel k : Nat) (acc : List Lx.Tok) (gs : List (Nat × Nat)), (∀ x ∈ ts, rightL x = true) → acc.length + ts.length ≤ 900 → (bareL ts).length ≤ fuel →
    ∃ pl gs', Lx.scan fuel k (bareL ts) acc gs = .ok (acc ++ pl) gs' ∧ likeL pl ts
  | [], fuel, k, acc, gs, _, _, _ => ⟨[], gs, by rw [bareL, Lx.scan_end]; simp, rfl⟩
  | [x], fuel, k, acc, gs, hr, hn, hf => by
    have ht := right_of (hr x (by simp))
    have hw := whole_of_tok ht
    have hp := hw.pos
    have hg := hw.gap []
    rw [List.append_nil] at hg
    rw [bareL] at hf ⊢
    cases fuel with
    | zero => omega
    | succ n =>
      refine ⟨[⟨x.kind, x.text.data.toList, k⟩], gs, ?_, rfl⟩
      rw [Lx.scan, if_neg (by intro e; rw [e] at hp; simp at hp), if_neg (by omega), ht]
      simp only
      rw [if_neg (by simp at hn; omega), List.drop_length, Lx.scan_end]
  | x :: y :: r, fuel, k, acc, gs, hr, hn, hf => by
    have hx := right_of (hr x (by simp))
    have hy := right_of (hr y (by simp))
    have hw := whole_of_tok hx
    have hwy := whole_of_tok hy
    have hp := hw.pos
    obtain ⟨m, hm⟩ := bareL_head y r
    have hg : Lx.gap (bareL (x :: y :: r)) = 0 := by rw [bareL, List.append_assoc]; exact hw.gap _
    have htok : Lx.tok (bareL (x :: y :: r)) = some (x.kind, x.text.data.toList) := by
      rw [bareL, List.append_assoc]
      unfold sepOf
      by_cases ha : apartB x.kind x.text y.text = true
      · rw [if_pos ha]
        exact Lx.tok_end hx blank_end.1 blank_end.2
      · rw [if_neg ha, List.nil_append, hm]
        have ha' : Lx.tok (x.text.data.toList ++ y.text.data.toList) = some (x.kind, x.text.data.toList) := by
          unfold apartB rightR at ha
          cases hq : Lx.tok (x.text.data.toList ++ y.text.data.toList) with
          | none => rw [hq] at ha; simp at ha
          | some z =>
            obtain ⟨zk, zt⟩ := z
            rw [hq] at ha
            simp [sameB, optK, optS] at ha
            rw [ha.1, ha.2]
        exact Lx.tok_more ha' hwy.pos
    have hlen : (bareL (x :: y :: r)).length = x.text.data.toList.length + (sepOf x y).length + (bareL (y :: r)).length := by rw [bareL, List.length_append, List.length_append]
    have hdrop : (bareL (x :: y :: r)).drop x.text.data.toList.length = sepOf x y ++ bareL (y :: r) := by rw [bareL, List.append_assoc, List.drop_left]
    have hrr : ∀ z ∈ y :: r, rightL z = true := fun z hz => hr z (List.mem_cons_of_mem _ hz)
    have hnn : (acc ++ [(⟨x.kind, x.text.data.toList, k⟩ : Lx.Tok)]).length + (y :: r).length ≤ 900 := by simp at hn ⊢; omega
    cases fuel with
    | zero => omega
    | succ n =>
      rw [Lx.scan, if_neg (by intro e; have e2 := congrArg List.length e; rw [hlen] at e2; simp only [List.length_nil] at e2; omega), if_neg (by omega), htok]
      simp only
      rw [if_neg (by simp at hn; omega), hdrop]
      by_cases hs : sepOf x y = []
      · rw [hs, List.nil_append]
        obtain ⟨pl, gs', h1, h2⟩ := scan_bare (y :: r) n (k + x.text.data.toList.length) _ gs hrr hnn (by omega)
        refine ⟨⟨x.kind, x.text.data.toList, k⟩ :: pl, gs', by rw [h1]; simp, ?_⟩
        unfold likeL at h2 ⊢
        rw [List.map_cons, List.map_cons, h2]
      · have hs1 : sepOf x y = [32] := by unfold sepOf at hs ⊢; split; rfl; rename_i h; rw [if_neg h] at hs; exact absurd rfl hs
        rw [hs1] at hlen ⊢
        have hg32 : Lx.gap ([32] ++ bareL (y :: r)) = 1 := by
          rw [List.singleton_append, gap_byte 32 _ (by decide), hm, hwy.gap m]
        cases n with
        | zero => simp only [List.length_singleton] at hlen; omega
        | succ n =>
          rw [Lx.scan, if_neg (by simp), if_pos (by omega), hg32]
          have hd : ([32] ++ bareL (y :: r)).drop 1 = bareL (y :: r) := rfl
          rw [hd]
          obtain ⟨pl, gs', h1, h2⟩ := scan_bare (y :: r) n (k + x.text.data.toList.length + 1) _ (gs ++ [(k + x.text.data.toList.length, k + x.text.data.toList.length + 1)]) hrr hnn (by simp only [List.length_singleton] at hlen; omega)
          refine ⟨⟨x.kind, x.text.data.toList, k⟩ :: pl, gs', by rw [h1]; simp, ?_⟩
          unfold likeL at h2 ⊢
          rw [List.map_cons, List.map_cons, h2]

theorem run_all_append (p : UInt8 → Bool) (a b : Lx.B) (ha : Lx.run p a = a.length) (hb : Lx.run p b = b.length) : Lx.run p (a ++ b) = (a ++ b).length := by
  rw [run_append p a b ha, hb, List.length_append]
theorem bare_okBytes : ∀ ts : List LT, (∀ x ∈ ts, rightL x = true) → Lx.run Lx.okByte (bareL ts) = (bareL ts).length
  | [], _ => rfl
  | [x], h => (whole_of_tok (right_of (h x (by simp)))).ok
  | x :: y :: r, h => by
    rw [bareL]
    refine run_all_append _ _ _ (run_all_append _ _ _ (whole_of_tok (right_of (h x (by simp)))).ok ?_) (bare_okBytes (y :: r) (fun z hz => h z (List.mem_cons_of_mem _ hz)))
    unfold sepOf
    split <;> decide

/-- READ BACK: the tokens of the bare text of right tokens are these -/
theorem read_back (ts : List LT) (hr : ∀ x ∈ ts, rightL x = true) (hn : ts.length ≤ 900) (hl : (bareP ts).length ≤ 2500) : ∃ pl gs, Lx.read (bareP ts) = .ok pl gs ∧ likeL pl ts := by
  rw [bareP_bareL] at hl ⊢
  obtain ⟨pl, gs, h1, h2⟩ := scan_bare ts (bareL ts).length 0 [] [] hr (by simpa using hn) (Nat.le_refl _)
  refine ⟨pl, gs, ?_, h2⟩
  unfold Lx.read
  rw [check_good hl (bare_okBytes ts hr), if_pos rfl, h1]
  simp

end Go.Proofs.YtkhgmoljhehbnaaDoor

namespace Go.Proofs.YtkhgmoljhehbnaaDoor
open Go.RowKit

def nameTexts : List Lx.B := [[97], [98, 49], [120], [105, 102, 102], [105, 110, 116, 50], [122, 122], [100, 111, 57], [97, 98, 99, 100, 101, 102, 103, 104, 105, 106, 107, 108], [115, 48]]
def numTexts : List Lx.B := [[48], [55], [49, 48], [57, 57, 57], [49, 48, 48, 48, 48, 48, 48, 48, 48, 48]]
/-- the token of a byte -/
def tokT (c : Nat) : Nat × Lx.B :=
  if c % 4 = 0 then (1, (Lx.keywords[c / 4 % 24]?).getD []) else if c % 4 = 1 then (2, (nameTexts[c / 4 % 9]?).getD []) else if c % 4 = 2 then (3, (numTexts[c / 4 % 5]?).getD []) else (4, (Lx.signs[c / 4 % 26]?).getD [])
def tokLT (c : Nat) : LT := ⟨(tokT c).1, ⟨(tokT c).2.toArray⟩, 0⟩

theorem tokT_tok : (List.range 256).all (fun c => decide (Lx.tok (tokT c).2 = some ((tokT c).1, (tokT c).2)) && decide ((tokT c).2.length ≤ 12)) = true := by decide +kernel
theorem tokLT_right (c : Nat) (h : c < 256) : rightL (tokLT c) = true ∧ (tokLT c).text.size ≤ 12 ∧ (tokLT c).kind < 256 := by
  have h1 := List.all_eq_true.1 tokT_tok c (List.mem_range.2 h)
  simp only [Bool.and_eq_true, decide_eq_true_eq] at h1
  have hd : (tokLT c).text.data.toList = (tokT c).2 := by simp [tokLT]
  have hk := (Lx.tok_prefix h1.1).2.2.2.1
  refine ⟨?_, by rw [Lib.size_eq, hd]; exact h1.2, by show (tokT c).1 < 256; omega⟩
  unfold rightL rightB rightR
  rw [hd, h1.1]
  simp [sameB, optK, optS, hd]
  rfl

theorem lit_get (ts : List Lx.B) (vs : Array Value) (h : vs = strRow ts) (w : World) (b : Nat) (hb : w.heap.size = b) (i : Nat) (t : Lx.B) (ht : ts[i]? = some t) : (w.alloc (.cells vs 9)).cell? ⟨b, i, none⟩ = some (.string ⟨t.toArray⟩) := by
  subst h
  subst hb
  simp [go_sem, strRow_get _ i t ht]

set_option maxRecDepth 100000 in
set_option maxHeartbeats 1000000 in
theorem token_any (c : Nat) (hc : c < 256) (w : World) :
    Calls Tryd.prog 62 #[.int .u8 c] w fun e w' => e = .returned (.agg #[.int .u8 (tokLT c).kind, .string (tokLT c).text, .int .i64 0]) ∧ Below w.heap.size w w' := by
  have hcI : (c : Int) < 256 := by omega
  by_cases h0 : c % 4 = 0
  · have hb0 : ((c : Int) % 4 == 0) = true := by rw [beq_iff_eq]; omega
    have hlt : c / 4 % 24 < Lx.keywords.length := Nat.mod_lt _ (by decide)
    obtain ⟨t, ht⟩ : ∃ t, Lx.keywords[c / 4 % 24]? = some t := ⟨_, List.getElem?_eq_getElem hlt⟩
    have hk : (tokLT c) = ⟨1, ⟨t.toArray⟩, 0⟩ := by unfold tokLT tokT; rw [if_pos h0]; simp only [ht]; rfl
    have z : (((w.alloc (.cells #[.int .u8 0, .string ⟨#[]⟩, .int .i64 0] 47)).alloc (.cells (strRow Lx.keywords) 9)).alloc (.cells (strRow Lx.signs) 9)).cell? ⟨w.heap.size + 1, c / 4 % 24, none⟩ = some (.string ⟨t.toArray⟩) := by simp [go_sem, strRow_get _ _ t ht]
    rw [hk]
    clear hlt ht hk
    go_enter Tryd.func62, Tryd.ntmps62
    go_wp2_with fail
    refine (keywords_any _).mono ?_
    rintro e w1 ⟨rfl, rfl⟩
    go_wp2_with fail
    refine (signs_any _).mono ?_
    rintro e w1 ⟨rfl, rfl⟩
    go_wp2
    refine bodyPost_ret (v := .agg #[.int .u8 1, .string ⟨t.toArray⟩, .int .i64 0]) (by simp [results, Tryd.results62, go_sem]) rfl ⟨rfl, ?_⟩
    exact (((((Below.refl _ w).alloc (Nat.le_refl _) _).alloc (by simp) _).alloc (by simp; omega) _))
  · have hb0 : ((c : Int) % 4 == 0) = false := by rw [beq_eq_false_iff_ne]; omega
    by_cases h1 : c % 4 = 1
    · have hb1 : ((c : Int) % 4 == 1) = true := by rw [beq_iff_eq]; omega
      have hlt : c / 4 % 9 < nameTexts.length := Nat.mod_lt _ (by decide)
      obtain ⟨t, ht⟩ : ∃ t, nameTexts[c / 4 % 9]? = some t := ⟨_, List.getElem?_eq_getElem hlt⟩
      have hk : (tokLT c) = ⟨2, ⟨t.toArray⟩, 0⟩ := by unfold tokLT tokT; rw [if_neg h0, if_pos h1]; simp only [ht]; rfl
      have z : ((((w.alloc (.cells #[.int .u8 0, .string ⟨#[]⟩, .int .i64 0] 47)).alloc (.cells (strRow Lx.keywords) 9)).alloc (.cells (strRow Lx.signs) 9)).alloc (.cells #[.string ⟨#[97]⟩, .string ⟨#[98, 49]⟩, .string ⟨#[120]⟩, .string ⟨#[105, 102, 102]⟩, .string ⟨#[105, 110, 116, 50]⟩, .string ⟨#[122, 122]⟩, .string ⟨#[100, 111, 57]⟩, .string ⟨#[97, 98, 99, 100, 101, 102, 103, 104, 105, 106, 107, 108]⟩, .string ⟨#[115, 48]⟩] 9)).cell? ⟨w.heap.size + 3, c / 4 % 9, none⟩ = some (.string ⟨t.toArray⟩) := lit_get nameTexts _ (show (#[.string ⟨#[97]⟩, .string ⟨#[98, 49]⟩, .string ⟨#[120]⟩, .string ⟨#[105, 102, 102]⟩, .string ⟨#[105, 110, 116, 50]⟩, .string ⟨#[122, 122]⟩, .string ⟨#[100, 111, 57]⟩, .string ⟨#[97, 98, 99, 100, 101, 102, 103, 104, 105, 106, 107, 108]⟩, .string ⟨#[115, 48]⟩] : Array Value) = strRow nameTexts from rfl) (((w.alloc (.cells #[.int .u8 0, .string ⟨#[]⟩, .int .i64 0] 47)).alloc (.cells (strRow Lx.keywords) 9)).alloc (.cells (strRow Lx.signs) 9)) _ (by simp) _ t ht
      rw [hk]
      clear hlt ht hk
      go_enter Tryd.func62, Tryd.ntmps62
      go_wp2_with fail
      refine (keywords_any _).mono ?_
      rintro e w1 ⟨rfl, rfl⟩
      go_wp2_with fail
      refine (signs_any _).mono ?_
      rintro e w1 ⟨rfl, rfl⟩
      go_wp2
      refine bodyPost_ret (v := .agg #[.int .u8 2, .string ⟨t.toArray⟩, .int .i64 0]) (by simp [results, Tryd.results62, go_sem]) rfl ⟨rfl, ?_⟩
      exact ((((((Below.refl _ w).alloc (Nat.le_refl _) _).alloc (by simp) _).alloc (by simp; omega) _).alloc (by simp; omega) _))
    · have hb1 : ((c : Int) % 4 == 1) = false := by rw [beq_eq_false_iff_ne]; omega
      by_cases h2 : c % 4 = 2
      · have hb2 : ((c : Int) % 4 == 2) = true := by rw [beq_iff_eq]; omega
        have hlt : c / 4 % 5 < numTexts.length := Nat.mod_lt _ (by decide)
        obtain ⟨t, ht⟩ : ∃ t, numTexts[c / 4 % 5]? = some t := ⟨_, List.getElem?_eq_getElem hlt⟩
        have hk : (tokLT c) = ⟨3, ⟨t.toArray⟩, 0⟩ := by unfold tokLT tokT; rw [if_neg h0, if_neg h1, if_pos h2]; simp only [ht]; rfl
        have z : ((((w.alloc (.cells #[.int .u8 0, .string ⟨#[]⟩, .int .i64 0] 47)).alloc (.cells (strRow Lx.keywords) 9)).alloc (.cells (strRow Lx.signs) 9)).alloc (.cells #[.string ⟨#[48]⟩, .string ⟨#[55]⟩, .string ⟨#[49, 48]⟩, .string ⟨#[57, 57, 57]⟩, .string ⟨#[49, 48, 48, 48, 48, 48, 48, 48, 48, 48]⟩] 9)).cell? ⟨w.heap.size + 3, c / 4 % 5, none⟩ = some (.string ⟨t.toArray⟩) := lit_get numTexts _ (show (#[.string ⟨#[48]⟩, .string ⟨#[55]⟩, .string ⟨#[49, 48]⟩, .string ⟨#[57, 57, 57]⟩, .string ⟨#[49, 48, 48, 48, 48, 48, 48, 48, 48, 48]⟩] : Array Value) = strRow numTexts from rfl) (((w.alloc (.cells #[.int .u8 0, .string ⟨#[]⟩, .int .i64 0] 47)).alloc (.cells (strRow Lx.keywords) 9)).alloc (.cells (strRow Lx.signs) 9)) _ (by simp) _ t ht
        rw [hk]
        clear hlt ht hk
        go_enter Tryd.func62, Tryd.ntmps62
        go_wp2_with fail
        refine (keywords_any _).mono ?_
        rintro e w1 ⟨rfl, rfl⟩
        go_wp2_with fail
        refine (signs_any _).mono ?_
        rintro e w1 ⟨rfl, rfl⟩
        go_wp2
        refine bodyPost_ret (v := .agg #[.int .u8 3, .string ⟨t.toArray⟩, .int .i64 0]) (by simp [results, Tryd.results62, go_sem]) rfl ⟨rfl, ?_⟩
        exact ((((((Below.refl _ w).alloc (Nat.le_refl _) _).alloc (by simp) _).alloc (by simp; omega) _).alloc (by simp; omega) _))
      · have hb2 : ((c : Int) % 4 == 2) = false := by rw [beq_eq_false_iff_ne]; omega
        have hlt : c / 4 % 26 < Lx.signs.length := Nat.mod_lt _ (by decide)
        obtain ⟨t, ht⟩ : ∃ t, Lx.signs[c / 4 % 26]? = some t := ⟨_, List.getElem?_eq_getElem hlt⟩
        have hk : (tokLT c) = ⟨4, ⟨t.toArray⟩, 0⟩ := by unfold tokLT tokT; rw [if_neg h0, if_neg h1, if_neg h2]; simp only [ht]; rfl
        have z : (((w.alloc (.cells #[.int .u8 0, .string ⟨#[]⟩, .int .i64 0] 47)).alloc (.cells (strRow Lx.keywords) 9)).alloc (.cells (strRow Lx.signs) 9)).cell? ⟨w.heap.size + 2, c / 4 % 26, none⟩ = some (.string ⟨t.toArray⟩) := by simp [go_sem, strRow_get _ _ t ht]
        rw [hk]
        clear hlt ht hk
        go_enter Tryd.func62, Tryd.ntmps62
        go_wp2_with fail
        refine (keywords_any _).mono ?_
        rintro e w1 ⟨rfl, rfl⟩
        go_wp2_with fail
        refine (signs_any _).mono ?_
        rintro e w1 ⟨rfl, rfl⟩
        go_wp2
        refine bodyPost_ret (v := .agg #[.int .u8 4, .string ⟨t.toArray⟩, .int .i64 0]) (by simp [results, Tryd.results62, go_sem]) rfl ⟨rfl, ?_⟩
        exact (((((Below.refl _ w).alloc (Nat.le_refl _) _).alloc (by simp) _).alloc (by simp; omega) _))

/-- the tokens of bytes -/
def tokLs (bs : List Nat) : List LT := bs.map tokLT

set_option maxRecDepth 100000 in
set_option maxHeartbeats 2000000 in
theorem tokens_at (bs : List Nat) (hb : ∀ c ∈ bs, c < 256) (hm : bs.length ≤ maxLen) (b0 o0 cap : Nat) (w : World) (hin : ∀ (i : Nat) c, bs[i]? = some c → w.cell? ⟨b0, o0 + i, none⟩ = some (.int .u8 c)) :
    Calls Tryd.prog 37 #[.slice (some ⟨b0, o0, none⟩) bs.length cap, .int .i64 60] w fun e w' => OwnIs (tokLs (bs.take 60)) w w' e ∧ Below w.heap.size w w' := by
  have hmi : (bs.length : Int) ≤ 9223372036854775807 := by unfold maxLen at hm; omega
  have HB := Lib.hid hb
  have HIN : Hid (∀ W, Below w.heap.size w W → ∀ (i : Nat) c, bs[i]? = some c → W.cell? ⟨b0, o0 + i, none⟩ = some (.int .u8 c)) := fun W hW i c hc => ((bcell hW).1 _ _ (lt_of_cell (hin i c hc))).trans (hin i c hc)
  have HO0 := Lib.hid (ownLT_empty w w.heap.size (Nat.le_refl _))
  have HTK := Lib.hid (fun c hc W => token_any c hc W)
  clear hin hb
  go_enter Tryd.func37, Tryd.ntmps37
  go_wp2_with fail
  go_loopw [5, 6] (fun vo vi wr => ∃ (k : Nat) (all : List LT) (A : Option Addr) (c : Nat), k ≤ bs.length ∧ k ≤ 60 ∧ all.length = k ∧ vi = .int .i64 k ∧ vo = .slice A all.length c ∧ Hid (all = tokLs (bs.take k)) ∧ Hid (OwnLT wr w.heap.size A c all) ∧ Below w.heap.size w wr) (fun _ vi _ => 60 - (intOf vi).toNat)
  case atStart => exact ⟨0, [], _, 0, Nat.zero_le _, Nat.zero_le _, rfl, rfl, rfl, Lib.hid rfl, HO0, (Below.refl _ _).alloc (Nat.le_refl _) _⟩
  case round =>
    obtain ⟨k, all, A, c, hk, hk6, hal, rfl, rfl, HA, HO, hbr⟩ := hrel
    have hzr := hbr.size
    have hall : all.length ≤ 60 := by omega
    have HAL := Lib.hid hal
    clear hal
    by_cases hlt : k < bs.length
    · have hlt' : (k : Int) < bs.length := by omega
      by_cases h60 : k < 60
      · have h60' : (k : Int) < 60 := by omega
        obtain ⟨x, hx⟩ : ∃ x, bs[k]? = some x := ⟨_, List.getElem?_eq_getElem hlt⟩
        have c0 := HIN.out _ hbr k x hx
        have hcall := fun W => HTK.out x (HB.out x (List.mem_of_getElem? hx)) W
        have HN : Hid (all ++ [tokLT x] = tokLs (bs.take (k + 1))) := Lib.hid (by
          rw [HA.out, List.take_add_one, hx]; simp [tokLs])
        have hat : (tokLT x).at_ = 0 := rfl
        have HCALL := Lib.hid hcall
        clear hx hcall
        go_wp2_with fail
        refine (HCALL.out _).mono ?_
        rintro e w2 ⟨rfl, hb2⟩
        have hbw2 : Below w.heap.size w w2 := hbr.trans (hb2.mono hzr)
        have HO2 := Lib.hid (HO.out.below hb2)
        have hz2 := hbw2.size
        clear hb2
        go_wp2_with (at_builtin; refine wpList_append_lt _ rfl _ _ rfl w.heap.size A c all [tokLT x] w2.heap.size 0 1 rfl rfl (HO2.out.below ((Below.refl _ _).alloc (Nat.le_refl _) _)) (fun i y hy => by (cases i with | zero => (simp at hy; subst hy; simp [hat]) | succ i => (simp at hy))) (by simp; omega) (by simp; omega) ?_; intro A' cap' w3 hown3 hgrow3)
        go_roundw
        case rel =>
          refine ⟨k + 1, all ++ [tokLT x], A', cap', hlt, h60, by have := HAL.out; simp; omega, by go_num, by rw [List.length_append, List.length_singleton], HN, Lib.hid hown3, ?_⟩
          exact (hbw2.alloc hz2 _).grown hgrow3 (by simp; omega) (fun j hj => (HO2.out.lt j hj).1)
        case measure => simp [intOf]; omega
      · have h60' : ¬ (k : Int) < 60 := by omega
        have hkk : k = 60 := by omega
        have HE : Hid (all = tokLs (bs.take 60)) := by rw [← hkk]; exact HA
        clear HA hkk
        go_wp2
        go_ret
        exact ⟨⟨A, c, by rw [← HE.out]; rfl, by rw [← HE.out]; exact HO.out⟩, hbr⟩
    · have hlt' : ¬ (k : Int) < bs.length := by omega
      have HE : Hid (all = tokLs (bs.take 60)) := Lib.hid (by rw [HA.out, show k = bs.length by omega, List.take_length, List.take_of_length_le (by omega)])
      clear HA
      go_wp2
      go_ret
      exact ⟨⟨A, c, by rw [← HE.out]; rfl, by rw [← HE.out]; exact HO.out⟩, hbr⟩

end Go.Proofs.YtkhgmoljhehbnaaDoor

namespace Go.Proofs.YtkhgmoljhehbnaaDoor
open Go.RowKit

def keyL (x : LT) : Nat × ByteArray := (x.kind, x.text)
def simL (xs ys : List LT) : Prop := xs.map keyL = ys.map keyL

theorem sim_len {xs ys : List LT} (h : simL xs ys) : xs.length = ys.length := by have := congrArg List.length h; simpa using this
theorem sim_cons {x y : LT} {xs ys : List LT} (h : simL (x :: xs) (y :: ys)) : x.kind = y.kind ∧ x.text = y.text ∧ simL xs ys := by
  unfold simL at h
  simp [keyL] at h
  exact ⟨h.1.1, h.1.2, h.2⟩
theorem sim_bareL : ∀ {xs ys : List LT}, simL xs ys → bareL xs = bareL ys
  | [], [], _ => rfl
  | [], y :: ys, h => by have := sim_len h; simp at this
  | x :: xs, [], h => by have := sim_len h; simp at this
  | [x], [y], h => by obtain ⟨_, h2, _⟩ := sim_cons h; rw [bareL, bareL, h2]
  | [x], y :: y2 :: ys, h => by have := sim_len h; simp at this
  | x :: x2 :: xs, [y], h => by have := sim_len h; simp at this
  | x :: x2 :: xs, y :: y2 :: ys, h => by
    obtain ⟨h1, h2, h3⟩ := sim_cons h
    obtain ⟨g1, g2, _⟩ := sim_cons h3
    rw [bareL, bareL, sim_bareL h3]
    unfold sepOf
    rw [h1, h2, g2]
theorem sim_all : ∀ {xs ys : List LT}, simL xs ys → xs.all rightL = ys.all rightL
  | [], [], _ => rfl
  | [], y :: ys, h => by have := sim_len h; simp at this
  | x :: xs, [], h => by have := sim_len h; simp at this
  | x :: xs, y :: ys, h => by
    obtain ⟨h1, h2, h3⟩ := sim_cons h
    rw [List.all_cons, List.all_cons, sim_all h3]
    unfold rightL
    rw [h1, h2]
theorem writeP_sim {xs ys : List LT} (h : simL xs ys) : writeP xs = writeP ys := by
  unfold writeP
  rw [sim_len h, sim_all h, bareP_bareL, bareP_bareL, sim_bareL h]
theorem like_sim {pl : List Lx.Tok} {L : List LT} (h : likeL pl L) : simL (pl.map LT.of) L := by
  unfold simL likeL at *
  have h1 := congrArg (List.map (fun p : Nat × Lx.B => (p.1, (⟨p.2.toArray⟩ : ByteArray)))) h
  rw [List.map_map, List.map_map] at h1
  rw [List.map_map]
  have e1 : (fun p : Nat × Lx.B => (p.1, (⟨p.2.toArray⟩ : ByteArray))) ∘ (fun t : Lx.Tok => (t.kind, t.text)) = keyL ∘ LT.of := rfl
  have e2 : (fun p : Nat × Lx.B => (p.1, (⟨p.2.toArray⟩ : ByteArray))) ∘ (fun x : LT => (x.kind, x.text.data.toList)) = keyL := by
    funext x
    simp [keyL]
  rw [e1, e2] at h1
  exact h1

/-- one token turned into another one -/
def sub1 (x q y : LT) : LT := if sameL y x then q else y
theorem begins_one (y x : LT) (r : List LT) : beginsP (y :: r) [x] = sameL y x := by simp [beginsP, eqL]
theorem rtP_one (x q : LT) : ∀ (f : Nat) (l all : List LT) (n : Nat), l.length ≤ f → rtP [x] [q] f l all n = (all ++ l.map (sub1 x q), n + l.countP (fun y => sameL y x))
  | 0, l, all, n, h => by
    have hl : l = [] := List.eq_nil_of_length_eq_zero (by omega)
    subst hl
    simp [rtP]
  | f + 1, [], all, n, _ => by simp [rtP]
  | f + 1, y :: r, all, n, h => by
    have h' : r.length ≤ f := by simpa using h
    rw [rtP, if_pos (by simp), begins_one]
    by_cases hs : sameL y x = true
    · rw [if_pos hs]
      show rtP [x] [q] f r (all ++ [q]) (n + 1) = _
      rw [rtP_one x q f r _ _ h', List.countP_cons_of_pos (by simpa using hs)]
      simp [sub1, hs]
      omega
    · rw [if_neg hs]
      show rtP [x] [q] f r (all ++ [y]) n = _
      rw [rtP_one x q f r _ _ h', List.countP_cons_of_neg (by simpa using hs)]
      simp [sub1, hs]

theorem same_key {x y z : LT} (h1 : x.kind = y.kind) (h2 : x.text = y.text) : sameL x z = sameL y z := by unfold sameL; rw [h1, h2]
theorem sim_sub (x q : LT) : ∀ {xs ys : List LT}, simL xs ys → simL (xs.map (sub1 x q)) (ys.map (sub1 x q)) ∧ xs.countP (fun y => sameL y x) = ys.countP (fun y => sameL y x)
  | [], [], _ => ⟨rfl, rfl⟩
  | [], y :: ys, h => by have := sim_len h; simp at this
  | a :: xs, [], h => by have := sim_len h; simp at this
  | a :: xs, b :: ys, h => by
    obtain ⟨h1, h2, h3⟩ := sim_cons h
    obtain ⟨i1, i2⟩ := sim_sub x q h3
    have hs := same_key (z := x) h1 h2
    refine ⟨?_, by rw [List.countP_cons, List.countP_cons, i2, hs]⟩
    unfold simL at i1 ⊢
    rw [List.map_cons, List.map_cons, List.map_cons, List.map_cons, i1]
    congr 1
    unfold sub1
    rw [hs]
    split
    · rfl
    · unfold keyL; rw [h1, h2]

structure Fine (L : List LT) : Prop where
  right : ∀ x ∈ L, rightL x = true
  small : ∀ x ∈ L, x.text.size ≤ 12
  few : L.length ≤ 60
theorem Fine.bare {L : List LT} (h : Fine L) : (bareP L).length ≤ 780 := by
  have h1 := bareN_small 12 L h.small L.length
  have h2 := h.few
  unfold bareP
  have : L.length * (12 + 1) ≤ 60 * 13 := Nat.mul_le_mul_right _ h2
  omega
theorem Fine.write {L : List LT} (h : Fine L) : writeP L = (bareP L, 0) := by
  have h1 := h.bare
  have h2 := h.few
  unfold writeP
  rw [if_neg (by omega), List.all_eq_true.2 h.right, if_neg (by simp), if_neg (by omega)]
theorem Fine.one {x : LT} (h1 : rightL x = true) (h2 : x.text.size ≤ 12) : Fine [x] := ⟨fun y hy => by rw [List.mem_singleton] at hy; subst hy; exact h1, fun y hy => by rw [List.mem_singleton] at hy; subst hy; exact h2, by simp⟩
theorem Fine.sub {L : List LT} (h : Fine L) {x q : LT} (h1 : rightL q = true) (h2 : q.text.size ≤ 12) : Fine (L.map (sub1 x q)) := by
  refine ⟨fun y hy => ?_, fun y hy => ?_, by rw [List.length_map]; exact h.few⟩
  · obtain ⟨z, hz, rfl⟩ := List.mem_map.1 hy
    unfold sub1; split
    · exact h1
    · exact h.right z hz
  · obtain ⟨z, hz, rfl⟩ := List.mem_map.1 hy
    unfold sub1; split
    · exact h2
    · exact h.small z hz

theorem turn_single {L : List LT} (h : Fine L) {x q : LT} (hx : Fine [x]) (hq : Fine [q]) : turnR (bareP L) [x] [q] = (bareP (L.map (sub1 x q)), L.countP (fun y => sameL y x), 0) := by
  have hb := h.bare
  obtain ⟨pl, gs, hR, hlk⟩ := read_back L h.right (by have := h.few; omega) (by omega)
  have hsim := like_sim hlk
  obtain ⟨s1, s2⟩ := sim_sub x q hsim
  have hw := (h.sub (x := x) (hq.right q (by simp)) (hq.small q (by simp))).write
  unfold turnR
  rw [hR]
  simp only
  rw [if_neg (by simp), hx.write, hq.write, if_neg (by simp), if_neg (by simp), rtP_one x q _ _ _ _ (by simp)]
  simp only [List.nil_append, Nat.zero_add]
  rw [writeP_sim s1, s2, hw, if_neg (by simp)]

theorem bytes_eqq {a b : ByteArray} (h : a.data.toList = b.data.toList) : a = b := by
  obtain ⟨⟨a⟩⟩ := a
  obtain ⟨⟨b⟩⟩ := b
  simp at h
  subst h
  rfl
theorem sameL_refl (x : LT) : sameL x x = true := by simp [sameL, sameB]
theorem sameL_key {x y : LT} (h : sameL x y = true) : x.kind = y.kind ∧ x.text = y.text := by
  unfold sameL sameB at h
  simp at h
  exact ⟨h.1, bytes_eqq (by rw [h.2])⟩

/-- turned back -/
theorem back_sim (x q : LT) : ∀ L : List LT, (∀ y ∈ L, sameL y q = false) → simL ((L.map (sub1 x q)).map (sub1 q x)) L ∧ (L.map (sub1 x q)).countP (fun y => sameL y q) = L.countP (fun y => sameL y x)
  | [], _ => ⟨rfl, rfl⟩
  | y :: r, h => by
    obtain ⟨i1, i2⟩ := back_sim x q r (fun z hz => h z (List.mem_cons_of_mem _ hz))
    have hy := h y (by simp)
    unfold simL at i1 ⊢
    rw [List.map_cons, List.map_cons, List.map_cons, List.map_cons, i1, List.countP_cons, List.countP_cons, i2]
    unfold sub1
    by_cases hs : sameL y x = true
    · rw [if_pos hs, if_pos (sameL_refl q), sameL_refl q, hs]
      obtain ⟨k1, k2⟩ := sameL_key hs
      exact ⟨by congr 1; unfold keyL; rw [k1, k2], rfl⟩
    · have hs' : sameL y x = false := by simpa using hs
      rw [if_neg hs, if_neg (by rw [hy]; simp), hy, hs']
      exact ⟨rfl, rfl⟩
theorem self_sim (x : LT) : ∀ L : List LT, simL (L.map (sub1 x x)) L
  | [] => rfl
  | y :: r => by
    have i1 := self_sim x r
    unfold simL at i1 ⊢
    rw [List.map_cons, List.map_cons, List.map_cons, i1]
    congr 1
    unfold sub1
    split
    · rename_i hs
      obtain ⟨k1, k2⟩ := sameL_key hs
      unfold keyL; rw [k1, k2]
    · rfl

def qq : LT := ⟨2, ⟨#[113, 113, 48, 113, 113]⟩, 0⟩
theorem qq_fine : Fine [qq] := Fine.one (by decide +kernel) (by decide)
theorem tokT_qq : (List.range 256).all (fun c => !(decide ((tokT c).1 = 2) && decide ((tokT c).2 = [113, 113, 48, 113, 113]))) = true := by decide +kernel
theorem tokLT_qq (c : Nat) (h : c < 256) : sameL (tokLT c) qq = false := by
  have h1 := List.all_eq_true.1 tokT_qq c (List.mem_range.2 h)
  unfold sameL sameB
  have hd : (tokLT c).text.data.toList = (tokT c).2 := by simp [tokLT]
  have hq : qq.text.data.toList = [113, 113, 48, 113, 113] := rfl
  rw [hd, hq]
  show ((tokT c).1 == 2 && (tokT c).2 == [113, 113, 48, 113, 113]) = false
  simp at h1 ⊢
  intro a b
  rcases h1 with h1 | h1
  · exact h1 a
  · exact h1 b
theorem tokLs_fine (bs : List Nat) (h : ∀ c ∈ bs, c < 256) : Fine (tokLs (bs.take 60)) := by
  refine ⟨fun x hx => ?_, fun x hx => ?_, by simp [tokLs]; omega⟩
  · obtain ⟨c, hc, rfl⟩ := List.mem_map.1 hx
    exact (tokLT_right c (h c (List.mem_of_mem_take hc))).1
  · obtain ⟨c, hc, rfl⟩ := List.mem_map.1 hx
    exact (tokLT_right c (h c (List.mem_of_mem_take hc))).2.1

end Go.Proofs.YtkhgmoljhehbnaaDoor

namespace Go.Proofs.YtkhgmoljhehbnaaDoor
open Go.RowKit

set_option maxRecDepth 100000 in
set_option maxHeartbeats 1000000 in
theorem tokens_none (A : Option Addr) (cap : Nat) (w : World) :
    Calls Tryd.prog 37 #[.slice A 0 cap, .int .i64 60] w fun e w' => OwnIs [] w w' e ∧ Below w.heap.size w w' := by
  have HO0 := Lib.hid (ownLT_empty w w.heap.size (Nat.le_refl _))
  go_enter Tryd.func37, Tryd.ntmps37
  go_wp2_with fail
  go_loopw [5, 6] (fun vo vi wr => vi = .int .i64 0 ∧ vo = .slice (some ⟨w.heap.size, 0, none⟩) 0 0 ∧ Hid (OwnLT wr w.heap.size (some ⟨w.heap.size, 0, none⟩) 0 []) ∧ Below w.heap.size w wr) (fun _ _ _ => 0)
  case atStart => exact ⟨rfl, rfl, HO0, (Below.refl _ _).alloc (Nat.le_refl _) _⟩
  case round =>
    obtain ⟨rfl, rfl, HO, hbr⟩ := hrel
    go_wp2
    go_ret
    exact ⟨⟨_, _, rfl, HO.out⟩, hbr⟩

/-- bytes that came in -/
structure BytesArg (w : World) (A : Option Addr) (bs : List Nat) : Prop where
  at_ : bs ≠ [] → ∃ blk off, A = some ⟨blk, off, none⟩ ∧ ∀ (i : Nat) c, bs[i]? = some c → w.cell? ⟨blk, off + i, none⟩ = some (.int .u8 c)

theorem tokens_any (bs : List Nat) (hb : ∀ c ∈ bs, c < 256) (hm : bs.length ≤ maxLen) (A : Option Addr) (cap : Nat) (w : World) (hin : BytesArg w A bs) :
    Calls Tryd.prog 37 #[.slice A bs.length cap, .int .i64 60] w fun e w' => OwnIs (tokLs (bs.take 60)) w w' e ∧ Below w.heap.size w w' := by
  by_cases hne : bs = []
  · subst hne
    exact tokens_none A cap w
  · obtain ⟨blk, off, rfl, hc⟩ := hin.at_ hne
    exact tokens_at bs hb hm blk off cap w hc

theorem tokLs_at (bs : List Nat) : ∀ x ∈ tokLs bs, x.at_ = 0 := fun x hx => by obtain ⟨c, _, rfl⟩ := List.mem_map.1 hx; rfl

set_option maxRecDepth 100000 in
set_option maxHeartbeats 4000000 in
theorem turned_run (L : List LT) (hF : Fine L) (h0 : ∀ x ∈ L, x.at_ = 0) (_hkd : ∀ x ∈ L, x.kind < 256) (hqq : ∀ x ∈ L, sameL x qq = false) (hne : 0 < L.length) (V : Value) (pick : Nat) (hpk : pick < 256) (w : World) (he : Env w)
    (htk : Calls Tryd.prog 37 #[V, .int .i64 60] w fun e w' => OwnIs L w w' e ∧ Below w.heap.size w w') :
    Calls Tryd.prog 13 #[V, .int .u8 pick] w fun e w' => e = .returned (.bool true) ∧ Below w.heap.size w w' := by
  have hpl : pick % L.length < L.length := Nat.mod_lt _ hne
  obtain ⟨p, hp⟩ : ∃ p, p = pick % L.length := ⟨_, rfl⟩
  rw [← hp] at hpl
  obtain ⟨x, hx⟩ : ∃ x, L[p]? = some x := ⟨_, List.getElem?_eq_getElem hpl⟩
  have hxm := List.mem_of_getElem? hx
  have hxF : Fine [x] := Fine.one (hF.right x hxm) (hF.small x hxm)
  have hxa := h0 x hxm
  have hLs : ∀ y ∈ L, y.text.size ≤ 2500 := fun y hy => by have := hF.small y hy; omega
  have hLn := hF.few
  have hxs : ∀ y ∈ [x], y.text.size ≤ 2500 := fun y hy => by have := hxF.small y hy; omega
  have hqs : ∀ y ∈ [qq], y.text.size ≤ 2500 := fun y hy => by have := qq_fine.small y hy; omega
  -- what the calls answer
  have hown := fun A cap (hA : A = none → cap = 0) W hT => own_any2 L (by omega) A cap hA W hT
  have hownx := fun b c W hT => own_any2 [x] (by simp) (some ⟨b, 0, none⟩) c (by simp) W hT
  have hownq := fun b c W hT => own_any2 [qq] (by simp) (some ⟨b, 0, none⟩) c (by simp) W hT
  have htx := fun A c W hE hT => lexText_any L hLs (by omega) A c W hE hT
  rw [hF.write] at htx
  generalize hS : (⟨(bareP L).toArray⟩ : ByteArray) = S at htx
  have hSd : S.data.toList = bareP L := by rw [← hS]
  have hSz : S.size ≤ 780 := by rw [Lib.size_eq, hSd]; exact hF.bare
  have hF2 : Fine (L.map (sub1 x qq)) := hF.sub (qq_fine.right qq (by simp)) (qq_fine.small qq (by simp))
  obtain ⟨T, hTd⟩ : ∃ T : ByteArray, T = ⟨(bareP (L.map (sub1 x qq))).toArray⟩ := ⟨_, rfl⟩
  have hTd' : T.data.toList = bareP (L.map (sub1 x qq)) := by rw [hTd]
  have hTz : T.size ≤ 780 := by rw [Lib.size_eq, hTd']; exact hF2.bare
  obtain ⟨bk1, bk2⟩ := back_sim x qq L hqq
  have bk3 : bareP ((L.map (sub1 x qq)).map (sub1 qq x)) = bareP L := by rw [bareP_bareL, bareP_bareL, sim_bareL bk1]
  have sf3 : bareP (L.map (sub1 x x)) = bareP L := by rw [bareP_bareL, bareP_bareL, sim_bareL (self_sim x L)]
  obtain ⟨M, hM⟩ : ∃ M, M = L.countP (fun y => sameL y x) := ⟨_, rfl⟩
  have hMl : M ≤ 60 := by rw [hM]; have := List.countP_le_length (p := fun y => sameL y x) (l := L); omega
  have t1 := fun C c2 b3 o3 c3 W hE hA hT hB => lexTurn_any S (by omega) [x] [qq] hxs (by simp) hqs (by simp) C c2 b3 o3 c3 W hE hA hT hB
  have t2 := fun C c2 b3 o3 c3 W hE hA hT hB => lexTurn_any T (by omega) [qq] [x] hqs (by simp) hxs (by simp) C c2 b3 o3 c3 W hE hA hT hB
  have t3 := fun C c2 b3 o3 c3 W hE hA hT hB => lexTurn_any S (by omega) [x] [x] hxs (by simp) hxs (by simp) C c2 b3 o3 c3 W hE hA hT hB
  rw [hSd, turn_single hF hxF qq_fine, ← hM] at t1
  rw [hTd', turn_single hF2 qq_fine hxF, bk2, bk3, ← hM] at t2
  rw [hSd, turn_single hF hxF hxF, sf3, ← hM] at t3
  unfold turnVal at t1 t2 t3
  simp only [← hTd, hS, List.length_singleton] at t1 t2 t3
  simp only [List.length_singleton] at hownx hownq
  have hcount : ∀ k, (L.take k).countP (fun y => sameL y x) ≤ 60 := fun k => by
    have := List.countP_le_length (p := fun y => sameL y x) (l := L.take k)
    rw [List.length_take] at this; omega
  have HTK := Lib.hid htk
  have HOW := Lib.hid hown
  have HOX := Lib.hid hownx
  have HOQ := Lib.hid hownq
  have HTX := Lib.hid htx
  have T1 := Lib.hid t1
  have T2 := Lib.hid t2
  have T3 := Lib.hid t3
  have HK := Lib.hid (fun W hE => known_any W hE)
  have HE := Lib.hid he
  have HX := Lib.hid hx
  have HP := Lib.hid hp
  have HM := Lib.hid hM
  have HA0 := Lib.hid h0
  have HCT := Lib.hid hcount
  have hp0 : (0 : Int) ≤ p := by omega
  have hp1 : (p : Int) < L.length := by omega
  have hpm : (pick : Int) % (L.length : Int) = (p : Int) := by rw [hp]; omega
  have hlz : ((L.length : Int) == 0) = false := by rw [beq_eq_false_iff_ne]; omega
  have hqa : qq.at_ = 0 := rfl
  clear he htk hown hownx hownq htx t1 t2 t3 hx hp hM h0 hcount hF hF2 hxF hLs hxs hqs hqq hS hSd hTd hTd' bk1 bk2 bk3 sf3 hxm hSz hTz
  go_enter Tryd.func13, Tryd.ntmps13
  go_wp2_with fail
  refine HTK.out.mono ?_
  rintro e w1 ⟨⟨A, c1, rfl, ho1⟩, hb1⟩
  have HE1 := Lib.hid (HE.out.below hb1 HE.out.lt)
  have hle1 := ho1.le
  have HO1 := Lib.hid ho1
  clear ho1
  go_wp2_with fail
  refine (HOW.out _ _ hle1.2 _ HO1.out.arg).mono ?_
  rintro e w2 ⟨⟨g2, c2, rfl, ho2⟩, hb2⟩
  have hB2 := hb1.trans (hb2.mono hb1.size)
  have HE2 := Lib.hid (HE1.out.below hb2 HE1.out.lt)
  have HO2 := Lib.hid (HO1.out.below hb2)
  have HA2 := Lib.hid ho2.arg
  clear ho2 hb2 HO1 HE1 hle1
  go_wp2_with fail
  refine (HTX.out _ _ _ HE2.out HA2.out).mono ?_
  rintro e w3 ⟨rfl, hb3⟩
  have hB3 := hB2.trans (hb3.mono hB2.size)
  have HE3 := Lib.hid (HE2.out.below hb3 HE2.out.lt)
  have HO3 := Lib.hid (HO2.out.below hb3)
  obtain ⟨g, cc, hv, _, _⟩ := HO3.out.form hne
  injection hv with hv1 _ hv3
  subst hv1 hv3
  obtain ⟨hin, hgl⟩ := own_toks HO3.out
  have HIN : Hid (∀ W, Below w3.heap.size w3 W → ToksIn W g 0 L) := fun W hW => hin.below hW (fun _ => hgl)
  obtain ⟨x0, x1, x2⟩ := hin p x HX.out
  rw [Nat.zero_add] at x0 x1 x2
  rw [hxa] at x2
  clear hb3 HE2 HO2 HA2 HO3 hin
  go_wp2_with fail
  have hW0 : Below w3.heap.size w3 ((w3.alloc (.cells #[.int .u8 x.kind, .string x.text, .int .i64 0] 47)).alloc (.cells #[.int .u8 2, .string ⟨#[113, 113, 48, 113, 113]⟩, .int .i64 0] 47)) := ((Below.refl _ _).alloc (Nat.le_refl _) _).alloc (by simp) _
  have hFX : ToksIn ((w3.alloc (.cells #[.int .u8 x.kind, .string x.text, .int .i64 0] 47)).alloc (.cells #[.int .u8 2, .string ⟨#[113, 113, 48, 113, 113]⟩, .int .i64 0] 47)) w3.heap.size 0 [x] := by
    intro i y hy
    cases i with
    | zero => simp at hy; subst hy; simp [hxa]
    | succ i => simp at hy
  have hFQ : ToksIn ((w3.alloc (.cells #[.int .u8 x.kind, .string x.text, .int .i64 0] 47)).alloc (.cells #[.int .u8 2, .string ⟨#[113, 113, 48, 113, 113]⟩, .int .i64 0] 47)) (w3.heap.size + 1) 0 [qq] := by
    intro i y hy
    cases i with
    | zero => simp at hy; subst hy; simp [qq]
    | succ i => simp at hy
  generalize (w3.alloc (.cells #[.int .u8 x.kind, .string x.text, .int .i64 0] 47)).alloc (.cells #[.int .u8 2, .string ⟨#[113, 113, 48, 113, 113]⟩, .int .i64 0] 47) = W0 at *
  have hlx : w3.heap.size < W0.heap.size := hFX.lt (by simp)
  have hlq : w3.heap.size + 1 < W0.heap.size := hFQ.lt (by simp)
  have HFX : Hid (∀ W, Below W0.heap.size W0 W → ToksIn W w3.heap.size 0 [x]) := fun W hW => hFX.below hW (fun _ => hlx)
  have HFQ : Hid (∀ W, Below W0.heap.size W0 W → ToksIn W (w3.heap.size + 1) 0 [qq]) := fun W hW => hFQ.below hW (fun _ => hlq)
  have HIN0 : Hid (∀ W, Below W0.heap.size W0 W → ToksIn W g 0 L) := fun W hW => HIN.out W (hW0.trans (hW.mono hW0.size))
  have hB0 := hB3.trans (hW0.mono hB3.size)
  have HE0 := Lib.hid (HE3.out.below hW0 HE3.out.lt)
  obtain ⟨CN, hCN⟩ : ∃ CN : Nat → Nat, CN = fun k => (L.take k).countP (fun y => sameL y x) := ⟨_, rfl⟩
  have HC0 : Hid (CN 0 = 0) := Lib.hid (by rw [hCN]; rfl)
  have HCM : Hid (CN L.length = M) := Lib.hid (by rw [hCN, HM.out]; simp)
  have HCS : Hid (∀ (k : Nat) y, L[k]? = some y → CN (k + 1) = CN k + (if sameL y x = true then 1 else 0)) := by
    show ∀ k y, _ → _
    intro k y hy
    rw [hCN]
    simp only
    rw [List.take_add_one, hy, List.countP_append]
    simp
  have HCB : Hid (∀ k, CN k ≤ 60) := by
    show ∀ k, _
    intro k; rw [hCN]; exact HCT.out k
  clear hCN hFX hFQ hW0 x0 x1 x2 HE3 hB3 HIN hgl HCT
  go_loopw [10, 11] (fun vm vi wr => ∃ k : Nat, k ≤ L.length ∧ vi = .int .i64 k ∧ vm = .int .i64 (CN k : Nat) ∧ Below W0.heap.size W0 wr) (fun _ vi _ => L.length - (intOf vi).toNat)
  case atStart => exact ⟨0, Nat.zero_le _, rfl, by rw [HC0.out]; rfl, Below.refl _ _⟩
  case round =>
    obtain ⟨k, hk, rfl, rfl, hbr⟩ := hrel
    by_cases hlt : k < L.length
    · have hlt' : (k : Int) < L.length := by omega
      have hk0 : (0 : Int) ≤ k := by omega
      obtain ⟨y, hy⟩ : ∃ y, L[k]? = some y := ⟨_, List.getElem?_eq_getElem hlt⟩
      obtain ⟨y0, y1, y2⟩ := HIN0.out wr hbr k y hy
      obtain ⟨f0, f1, f2⟩ := HFX.out wr hbr 0 x rfl
      rw [Nat.zero_add] at y0 y1 y2
      simp only [Nat.zero_mul, Nat.zero_add] at f0 f1 f2
      rw [HA0.out y (List.mem_of_getElem? hy)] at y2
      rw [hxa] at f2
      have hcs := HCS.out k y hy
      have hcb := HCB.out k
      by_cases hs : sameL y x = true
      · rw [if_pos hs] at hcs
        obtain ⟨k1, k2⟩ := sameL_key hs
        rw [k1] at y0
        rw [k2] at y1
        have HCN := Lib.hid hcs
        have hw1 : IntKind.i64.wrap ((CN k : Int) + 1) = ((CN (k + 1) : Nat) : Int) := by rw [IntKind.wrap_i64]; omega
        clear hy hcs hs k1 k2
        go_wp2_with fail
        go_region
        go_wp2_with fail
        go_roundw
        case rel => exact ⟨k + 1, hlt, by go_num, by go_num, hbr.drew⟩
        case measure => simp [intOf]; omega
      · rw [if_neg hs, Nat.add_zero] at hcs
        have HCN := Lib.hid hcs
        by_cases hkk : y.kind = x.kind
        · have htt : (y.text.toList == x.text.toList) = false := by
            rw [Lib.toList_data, Lib.toList_data]
            unfold sameL sameB at hs
            rw [hkk] at hs
            simpa using hs
          rw [hkk] at y0
          clear hy hcs hs hkk
          go_wp2_with fail
          go_region
          go_wp2_with fail
          go_roundw
          case rel => exact ⟨k + 1, hlt, by go_num, by rw [HCN.out]; rfl, hbr.drew⟩
          case measure => simp [intOf]; omega
        · have hkb : ((y.kind : Int) == x.kind) = false := by rw [beq_eq_false_iff_ne]; omega
          clear hy hcs hs hkk
          go_wp2_with fail
          go_region
          go_wp2_with fail
          go_roundw
          case rel => exact ⟨k + 1, hlt, by go_num, by rw [HCN.out]; rfl, hbr.drew⟩
          case measure => simp [intOf]; omega
    · have hlt' : ¬ (k : Int) < L.length := by omega
      have hkn : k = L.length := by omega
      subst hkn
      rw [HCM.out]
      have hBr := hB0.trans (hbr.mono hB0.size)
      have HEr := Lib.hid (HE0.out.below hbr HE0.out.lt)
      clear hlt
      go_wp2_with fail
      refine (HOX.out w3.heap.size 1 _ ⟨fun _ => ⟨w3.heap.size, 0, rfl, HFX.out _ hbr⟩⟩).mono ?_
      rintro e wa0 ⟨⟨ga0, ca0, rfl, oa0⟩, ha0⟩
      have hr0a := hbr.trans (ha0.mono hbr.size)
      have hB0a := hBr.trans (ha0.mono hBr.size)
      have HE0a := Lib.hid (HEr.out.below ha0 HEr.out.lt)
      have aa0 := oa0.arg
      clear oa0
      go_wp2_with fail
      refine (HOQ.out (w3.heap.size + 1) 1 _ ⟨fun _ => ⟨(w3.heap.size + 1), 0, rfl, HFQ.out _ hr0a⟩⟩).mono ?_
      rintro e wb0 ⟨⟨gb0, cb0, rfl, ob0⟩, hb0⟩
      have hr0b := hr0a.trans (hb0.mono hr0a.size)
      have hB0b := hB0a.trans (hb0.mono hB0a.size)
      have HE0b := Lib.hid (HE0a.out.below hb0 HE0a.out.lt)
      have AA0 := Lib.hid (aa0.below hb0)
      have OB0 := Lib.hid (own_toks ob0)
      clear ob0 aa0 ha0 hb0
      go_wp2_with fail
      refine (T1.out _ _ _ _ _ _ HE0b.out AA0.out OB0.out.1 OB0.out.2).mono ?_
      rintro e wc0 ⟨rfl, hc0⟩
      have hr0c := hr0b.trans (hc0.mono hr0b.size)
      have hB0c := hB0b.trans (hc0.mono hB0b.size)
      have HE0c := Lib.hid (HE0b.out.below hc0 HE0b.out.lt)
      clear hc0 hr0a hr0b hB0a hB0b HE0a HE0b
      go_wp2_with fail
      refine (HOQ.out (w3.heap.size + 1) 1 _ ⟨fun _ => ⟨(w3.heap.size + 1), 0, rfl, HFQ.out _ hr0c⟩⟩).mono ?_
      rintro e wa1 ⟨⟨ga1, ca1, rfl, oa1⟩, ha1⟩
      have hr1a := hr0c.trans (ha1.mono hr0c.size)
      have hB1a := hB0c.trans (ha1.mono hB0c.size)
      have HE1a := Lib.hid (HE0c.out.below ha1 HE0c.out.lt)
      have aa1 := oa1.arg
      clear oa1
      go_wp2_with fail
      refine (HOX.out w3.heap.size 1 _ ⟨fun _ => ⟨w3.heap.size, 0, rfl, HFX.out _ hr1a⟩⟩).mono ?_
      rintro e wb1 ⟨⟨gb1, cb1, rfl, ob1⟩, hb1⟩
      have hr1b := hr1a.trans (hb1.mono hr1a.size)
      have hB1b := hB1a.trans (hb1.mono hB1a.size)
      have HE1b := Lib.hid (HE1a.out.below hb1 HE1a.out.lt)
      have AA1 := Lib.hid (aa1.below hb1)
      have OB1 := Lib.hid (own_toks ob1)
      clear ob1 aa1 ha1 hb1
      go_wp2_with fail
      refine (T2.out _ _ _ _ _ _ HE1b.out AA1.out OB1.out.1 OB1.out.2).mono ?_
      rintro e wc1 ⟨rfl, hc1⟩
      have hr1c := hr1b.trans (hc1.mono hr1b.size)
      have hB1c := hB1b.trans (hc1.mono hB1b.size)
      have HE1c := Lib.hid (HE1b.out.below hc1 HE1b.out.lt)
      clear hc1 hr1a hr1b hB1a hB1b HE1a HE1b
      go_wp2_with fail
      refine (HOX.out w3.heap.size 1 _ ⟨fun _ => ⟨w3.heap.size, 0, rfl, HFX.out _ hr1c⟩⟩).mono ?_
      rintro e wa2 ⟨⟨ga2, ca2, rfl, oa2⟩, ha2⟩
      have hr2a := hr1c.trans (ha2.mono hr1c.size)
      have hB2a := hB1c.trans (ha2.mono hB1c.size)
      have HE2a := Lib.hid (HE1c.out.below ha2 HE1c.out.lt)
      have aa2 := oa2.arg
      clear oa2
      go_wp2_with fail
      refine (HOX.out w3.heap.size 1 _ ⟨fun _ => ⟨w3.heap.size, 0, rfl, HFX.out _ hr2a⟩⟩).mono ?_
      rintro e wb2 ⟨⟨gb2, cb2, rfl, ob2⟩, hb2⟩
      have hr2b := hr2a.trans (hb2.mono hr2a.size)
      have hB2b := hB2a.trans (hb2.mono hB2a.size)
      have HE2b := Lib.hid (HE2a.out.below hb2 HE2a.out.lt)
      have AA2 := Lib.hid (aa2.below hb2)
      have OB2 := Lib.hid (own_toks ob2)
      clear ob2 aa2 ha2 hb2
      go_wp2_with fail
      refine (T3.out _ _ _ _ _ _ HE2b.out AA2.out OB2.out.1 OB2.out.2).mono ?_
      rintro e wc2 ⟨rfl, hc2⟩
      have hr2c := hr2b.trans (hc2.mono hr2b.size)
      have hB2c := hB2b.trans (hc2.mono hB2b.size)
      have HE2c := Lib.hid (HE2b.out.below hc2 HE2b.out.lt)
      clear hc2 hr2a hr2b hB2a hB2b HE2a HE2b
      go_wp2_with fail
      refine (HK.out _ HE2c.out).mono ?_
      rintro e wz ⟨rfl, hz⟩
      go_wp2
      go_ret
      exact ⟨rfl, hB2c.trans (hz.mono hB2c.size)⟩

set_option maxRecDepth 100000 in
set_option maxHeartbeats 1000000 in
theorem turned_empty (V : Value) (pick : Nat) (w : World) (he : Env w)
    (htk : Calls Tryd.prog 37 #[V, .int .i64 60] w fun e w' => OwnIs [] w w' e ∧ Below w.heap.size w w') :
    Calls Tryd.prog 13 #[V, .int .u8 pick] w fun e w' => e = .returned (.bool true) ∧ Below w.heap.size w w' := by
  have hown := fun A cap (hA : A = none → cap = 0) W hT => own_any2 [] (by simp) A cap hA W hT
  have htx := fun A c W hE hT => lexText_any [] (by simp) (by simp) A c W hE hT
  have HTK := Lib.hid htk
  have HOW := Lib.hid hown
  have HTX := Lib.hid htx
  have HK := Lib.hid (fun W hE => known_any W hE)
  have HE := Lib.hid he
  clear he htk hown htx
  go_enter Tryd.func13, Tryd.ntmps13
  go_wp2_with fail
  refine HTK.out.mono ?_
  rintro e w1 ⟨⟨A, c1, rfl, ho1⟩, hb1⟩
  have HE1 := Lib.hid (HE.out.below hb1 HE.out.lt)
  have hle1 := ho1.le
  go_wp2_with fail
  refine (HOW.out _ _ hle1.2 _ ho1.arg).mono ?_
  rintro e w2 ⟨⟨g2, c2, rfl, ho2⟩, hb2⟩
  have hB2 := hb1.trans (hb2.mono hb1.size)
  have HE2 := Lib.hid (HE1.out.below hb2 HE1.out.lt)
  have HA2 := Lib.hid ho2.arg
  clear ho1 ho2 hb2 HE1 hle1
  go_wp2_with fail
  refine (HTX.out _ _ _ HE2.out HA2.out).mono ?_
  rintro e w3 ⟨rfl, hb3⟩
  have hB3 := hB2.trans (hb3.mono hB2.size)
  have HE3 := Lib.hid (HE2.out.below hb3 HE2.out.lt)
  have hw0 : ((writeP []).2 : Int) = 0 := rfl
  go_wp2_with fail
  refine (HK.out _ HE3.out).mono ?_
  rintro e w4 ⟨rfl, hb4⟩
  go_wp2
  go_ret
  exact ⟨rfl, hB3.trans (hb4.mono hB3.size)⟩

theorem turned_any (bs : List Nat) (hb : ∀ c ∈ bs, c < 256) (hm : bs.length ≤ maxLen) (A : Option Addr) (cap pick : Nat) (hpk : pick < 256) (w : World) (he : Env w) (hin : BytesArg w A bs) :
    Calls Tryd.prog 13 #[.slice A bs.length cap, .int .u8 pick] w fun e w' => e = .returned (.bool true) ∧ Below w.heap.size w w' := by
  have htk := tokens_any bs hb hm A cap w hin
  have hb6 : ∀ c ∈ bs.take 60, c < 256 := fun c hc => hb c (List.mem_of_mem_take hc)
  by_cases hne : tokLs (bs.take 60) = []
  · rw [hne] at htk
    exact turned_empty _ pick w he htk
  · refine turned_run (tokLs (bs.take 60)) (tokLs_fine bs hb) (tokLs_at _) (fun x hx => ?_) (fun x hx => ?_) (List.length_pos_iff.2 hne) _ pick hpk w he htk
    · obtain ⟨c, hc, rfl⟩ := List.mem_map.1 hx
      exact (tokLT_right c (hb6 c hc)).2.2
    · obtain ⟨c, hc, rfl⟩ := List.mem_map.1 hx
      exact tokLT_qq c (hb6 c hc)

end Go.Proofs.YtkhgmoljhehbnaaDoor

/- For LexBack: tokens with gaps between are read as the tokens, a blank less is another text or not read (plain); the walks of the laws' alike and spaced. -/
namespace Lx

def gapTexts : List B := [[32], [10], [32, 32], [32, 126, 32, 120, 32, 121, 10], [10, 10, 32], [126, 10], [32, 126, 126, 32, 100, 101, 102, 32, 49, 32, 10, 10]]
theorem gapIn_add (g : B) (hg : g ∈ gapTexts) (m : B) : gap (g ++ m) = g.length + gap m := by
  simp only [gapTexts, List.mem_cons, List.not_mem_nil, or_false] at hg
  rcases hg with rfl | rfl | rfl | rfl | rfl | rfl | rfl <;> simp [gap, gapIn, gapByte, isBlank, isFeed] <;> omega
theorem gap_first (g : B) (hg : g ∈ gapTexts) : ∃ c r, g = c :: r ∧ (wordByte c = false ∧ ∀ x ∈ signs, ∀ y ∈ x, y ≠ c) := by
  simp only [gapTexts, List.mem_cons, List.not_mem_nil, or_false] at hg
  have h32 : wordByte 32 = false ∧ ∀ x ∈ signs, ∀ y ∈ x, y ≠ 32 := by decide
  have h10 : wordByte 10 = false ∧ ∀ x ∈ signs, ∀ y ∈ x, y ≠ 10 := by decide
  have h126 : wordByte 126 = false ∧ ∀ x ∈ signs, ∀ y ∈ x, y ≠ 126 := by decide
  rcases hg with rfl | rfl | rfl | rfl | rfl | rfl | rfl
  · exact ⟨_, _, rfl, h32⟩
  · exact ⟨_, _, rfl, h10⟩
  · exact ⟨_, _, rfl, h32⟩
  · exact ⟨_, _, rfl, h32⟩
  · exact ⟨_, _, rfl, h10⟩
  · exact ⟨_, _, rfl, h126⟩
  · exact ⟨_, _, rfl, h32⟩
theorem gap_okBytes : ∀ g ∈ gapTexts, run okByte g = g.length ∧ g.length ≤ 12 ∧ 0 < g.length := by decide
end Lx

namespace Go.Proofs.YtkhgmoljhehbnaaDoor
open Go.RowKit

/-- tokens, each with a gap behind it -/
def looseL : List (LT × Lx.B) → Lx.B
  | [] => []
  | p :: r => p.1.text.data.toList ++ (p.2 ++ looseL r)

theorem scan_loose : ∀ (ps : List (LT × Lx.B)) (fuel k : Nat) (acc : List Lx.Tok) (gs : List (Nat × Nat)), (∀ p ∈ ps, rightL p.1 = true ∧ p.2 ∈ Lx.gapTexts) → acc.length + ps.length ≤ 900 → (looseL ps).length ≤ fuel →
    ∃ pl gs', Lx.scan fuel k (looseL ps) acc gs = .ok (acc ++ pl) gs' ∧ likeL pl (ps.map (·.1))
  | [], fuel, k, acc, gs, _, _, _ => ⟨[], gs, by rw [looseL, Lx.scan_end]; simp, rfl⟩
  | p :: r, fuel, k, acc, gs, hr, hn, hf => by
    obtain ⟨hx0, hg⟩ := hr p (by simp)
    have hx := right_of hx0
    have hw := whole_of_tok hx
    have hp := hw.pos
    obtain ⟨c, g', hgc, hc1, hc2⟩ := Lx.gap_first p.2 hg
    have hgl := (Lx.gap_okBytes p.2 hg).2.2
    have hrr : ∀ z ∈ r, rightL z.1 = true ∧ z.2 ∈ Lx.gapTexts := fun z hz => hr z (List.mem_cons_of_mem _ hz)
    have hg0 : Lx.gap (looseL (p :: r)) = 0 := by rw [looseL]; exact hw.gap _
    have htok : Lx.tok (looseL (p :: r)) = some (p.1.kind, p.1.text.data.toList) := by
      rw [looseL, hgc]
      exact Lx.tok_end hx hc1 hc2
    have hrest : Lx.gap (looseL r) = 0 := by
      cases r with
      | nil => rfl
      | cons q r => rw [looseL]; exact (whole_of_tok (right_of (hrr q (by simp)).1)).gap _
    have hgap : Lx.gap (p.2 ++ looseL r) = p.2.length := by rw [Lx.gapIn_add p.2 hg, hrest]; rfl
    have hlen : (looseL (p :: r)).length = p.1.text.data.toList.length + (p.2.length + (looseL r).length) := by rw [looseL, List.length_append, List.length_append]
    have hdrop : (looseL (p :: r)).drop p.1.text.data.toList.length = p.2 ++ looseL r := by rw [looseL, List.drop_left]
    have hdrop2 : (p.2 ++ looseL r).drop p.2.length = looseL r := List.drop_left
    have hnn : (acc ++ [(⟨p.1.kind, p.1.text.data.toList, k⟩ : Lx.Tok)]).length + r.length ≤ 900 := by simp at hn ⊢; omega
    cases fuel with
    | zero => omega
    | succ n =>
      rw [Lx.scan, if_neg (by intro e; have e2 := congrArg List.length e; rw [hlen] at e2; simp only [List.length_nil] at e2; omega), if_neg (by omega), htok]
      simp only
      rw [if_neg (by simp at hn; omega), hdrop]
      cases n with
      | zero => omega
      | succ n =>
        rw [Lx.scan, if_neg (by intro e; have e2 := congrArg List.length e; rw [List.length_append] at e2; simp only [List.length_nil] at e2; omega), if_pos (by omega), hgap, hdrop2]
        obtain ⟨pl, gs', h1, h2⟩ := scan_loose r n (k + p.1.text.data.toList.length + p.2.length) _ (gs ++ [(k + p.1.text.data.toList.length, k + p.1.text.data.toList.length + p.2.length)]) hrr hnn (by omega)
        refine ⟨⟨p.1.kind, p.1.text.data.toList, k⟩ :: pl, gs', by rw [h1]; simp, ?_⟩
        unfold likeL at h2 ⊢
        rw [List.map_cons, List.map_cons, List.map_cons, h2]

theorem loose_okBytes : ∀ ps : List (LT × Lx.B), (∀ p ∈ ps, rightL p.1 = true ∧ p.2 ∈ Lx.gapTexts) → Lx.run Lx.okByte (looseL ps) = (looseL ps).length
  | [], _ => rfl
  | p :: r, h => by
    rw [looseL]
    refine run_all_append _ _ _ (whole_of_tok (right_of (h p (by simp)).1)).ok (run_all_append _ _ _ (Lx.gap_okBytes p.2 (h p (by simp)).2).1 (loose_okBytes r (fun z hz => h z (List.mem_cons_of_mem _ hz))))

/-- tokens with gaps between are read as the tokens -/
theorem read_loose (ps : List (LT × Lx.B)) (hr : ∀ p ∈ ps, rightL p.1 = true ∧ p.2 ∈ Lx.gapTexts) (hn : ps.length ≤ 900) (hl : (looseL ps).length ≤ 2500) : ∃ pl gs, Lx.read (looseL ps) = .ok pl gs ∧ likeL pl (ps.map (·.1)) := by
  obtain ⟨pl, gs, h1, h2⟩ := scan_loose ps (looseL ps).length 0 [] [] hr (by simpa using hn) (Nat.le_refl _)
  refine ⟨pl, gs, ?_, h2⟩
  unfold Lx.read
  rw [check_good hl (loose_okBytes ps hr), if_pos rfl, h1]
  simp

/-- a shorter text is not read as these tokens: their bare text is no longer than any text that is read as they are -/
theorem blank_less {L : List LT} {less : Lx.B} (hl : less.length < (bareP L).length) {pl : List Lx.Tok} {gs : List (Nat × Nat)} (hR : Lx.read less = .ok pl gs) : ¬ likeL pl L := by
  intro h
  have h1 := (read_lined hR).2.1
  rw [bareP_bareL, sim_bareL (like_sim h), ← bareP_bareL] at h1
  omega

/-- whatever is read as these tokens has their bare text -/
theorem bare_like {L : List LT} (hF : Fine L) {l : Lx.B} {pl : List Lx.Tok} {gs : List (Nat × Nat)} (_hR : Lx.read l = .ok pl gs) (h : likeL pl L) : writeP (pl.map LT.of) = (bareP L, 0) := by
  rw [writeP_sim (like_sim h)]
  exact hF.write

end Go.Proofs.YtkhgmoljhehbnaaDoor

namespace Go.Proofs.YtkhgmoljhehbnaaDoor
open Go.RowKit

set_option maxRecDepth 100000 in
set_option maxHeartbeats 4000000 in
theorem lawAlike_at (xs ys : List LT) (hl : xs.length = ys.length) (hn : xs.length ≤ 3000000) (b1 o1 cap1 b2 o2 cap2 : Nat) (w : World) (h1 : ToksIn w b1 o1 xs) (h2 : ToksIn w b2 o2 ys) :
    Calls Tryd.prog 39 #[.slice (some ⟨b1, o1, none⟩) xs.length cap1, .slice (some ⟨b2, o2, none⟩) ys.length cap2] w fun e w' => e = .returned (.bool (eqL xs ys)) ∧ Below w.heap.size w w' := by
  have H1 := Lib.hid h1
  have H2 := Lib.hid h2
  have hl' : (xs.length : Int) = (ys.length : Int) := by omega
  clear h1 h2
  generalize hE : eqL xs ys = E
  have HE := Lib.hid hE
  clear hE
  go_enter Tryd.func39, Tryd.ntmps39
  go_wp2_with fail
  go_loopw [5] (fun i wr => ∃ k : Nat, k ≤ xs.length ∧ i = .int .i64 k ∧ Hid (eqL (xs.drop k) (ys.drop k) = E) ∧ Below w.heap.size w wr) (fun i _ => xs.length - (intOf i).toNat)
  case atStart => exact ⟨0, Nat.zero_le _, rfl, HE, Below.refl _ _⟩
  case round =>
    obtain ⟨k, hk, rfl, HJ, hbw⟩ := hrel
    by_cases hlt : k < xs.length
    · have hlt' : (k : Int) < xs.length := by omega
      have hlt2 : (k : Int) < ys.length := by omega
      obtain ⟨x, hx⟩ : ∃ x, xs[k]? = some x := ⟨_, List.getElem?_eq_getElem hlt⟩
      obtain ⟨y, hy⟩ : ∃ y, ys[k]? = some y := ⟨_, List.getElem?_eq_getElem (by omega)⟩
      have hJ := HJ.out
      rw [eqL_at hx hy] at hJ
      obtain ⟨x0, x1, x2⟩ := (H1.out.below hbw (fun h => H1.out.lt h)) k x hx
      obtain ⟨y0, y1, y2⟩ := (H2.out.below hbw (fun h => H2.out.lt h)) k y hy
      clear hx hy
      obtain ⟨kx, tx, ax⟩ := x
      obtain ⟨ky, ty, ay⟩ := y
      dsimp only at x0 x1 x2 y0 y1 y2
      by_cases h1 : kx = ky
      · subst h1
        by_cases h2 : tx.toList = ty.toList
        · have e : sameL ⟨kx, tx, ax⟩ ⟨kx, ty, ay⟩ = true := by unfold sameL sameB; rw [← Lib.toList_data, ← Lib.toList_data, h2]; simp
          have HN := Lib.hid (show eqL (xs.drop (k + 1)) (ys.drop (k + 1)) = E by rw [e] at hJ; rw [← hJ]; rfl)
          clear hJ e
          go_wp2_with fail
          go_region
          go_wp2_with fail
          go_roundw
          case rel => exact ⟨k + 1, by omega, by go_num, HN, hbw.drew⟩
          case measure => simp [intOf]; omega
        · have e : sameL ⟨kx, tx, ax⟩ ⟨kx, ty, ay⟩ = false := by unfold sameL sameB; rw [← Lib.toList_data, ← Lib.toList_data]; simp [h2]
          have HF : Hid (E = false) := Lib.hid (by rw [e] at hJ; rw [← hJ]; rfl)
          have hq : (tx.toList == ty.toList) = false := by rw [beq_eq_false_iff_ne]; exact h2
          clear hJ e
          go_wp2_with fail
          go_region
          go_wp2
          · go_ret
            exact ⟨by rw [HF.out]; rfl, hbw.drew⟩
      · have e : sameL ⟨kx, tx, ax⟩ ⟨ky, ty, ay⟩ = false := by unfold sameL sameB; simp [h1]
        have h3 : ¬ (kx : Int) = ky := by omega
        have HF : Hid (E = false) := Lib.hid (by rw [e] at hJ; rw [← hJ]; rfl)
        have hq : ((kx : Int) == (ky : Int)) = false := by rw [beq_eq_false_iff_ne]; omega
        clear hJ e
        clear h1
        generalize (kx : Int) = ix at x0 hq h3
        generalize (ky : Int) = iy at y0 hq h3
        have hq2 : (ix != iy) = true := by rw [bne, hq]; rfl
        go_wp2_with fail
        go_region
        go_wp2
        go_ret
        exact ⟨by rw [HF.out]; rfl, hbw.drew⟩
    · have hlt' : ¬ (k : Int) < xs.length := by omega
      have HF : Hid (E = true) := Lib.hid (by rw [← HJ.out, List.drop_eq_nil_of_le (by omega), List.drop_eq_nil_of_le (by omega)]; rfl)
      go_wp2
      go_ret
      exact ⟨by rw [HF.out]; rfl, hbw⟩

theorem eqL_sim : ∀ xs ys : List LT, eqL xs ys = true ↔ simL xs ys
  | [], [] => ⟨fun _ => rfl, fun _ => rfl⟩
  | [], y :: ys => ⟨fun h => by simp [eqL] at h, fun h => by have := sim_len h; simp at this⟩
  | x :: xs, [] => ⟨fun h => by simp [eqL] at h, fun h => by have := sim_len h; simp at this⟩
  | x :: xs, y :: ys => by
    rw [eqL, Bool.and_eq_true, eqL_sim xs ys]
    constructor
    · rintro ⟨h1, h2⟩
      obtain ⟨k1, k2⟩ := sameL_key h1
      unfold simL at h2 ⊢
      rw [List.map_cons, List.map_cons, h2]
      unfold keyL
      rw [k1, k2]
    · intro h
      obtain ⟨k1, k2, k3⟩ := sim_cons h
      exact ⟨by unfold sameL; rw [k1, k2]; exact sameL_refl y, k3⟩

end Go.Proofs.YtkhgmoljhehbnaaDoor

namespace Go.Proofs.YtkhgmoljhehbnaaDoor
open Go.RowKit

set_option maxRecDepth 100000 in
theorem lawAlike_none (A C : Option Addr) (cap1 cap2 : Nat) (w : World) :
    Calls Tryd.prog 39 #[.slice A 0 cap1, .slice C 0 cap2] w fun e w' => e = .returned (.bool true) ∧ w' = w := by
  go_enter Tryd.func39, Tryd.ntmps39
  go_wp2_with fail
  go_loopw [5] (fun i wr => i = .int .i64 0 ∧ wr = w) (fun _ _ => 0)
  case atStart => exact ⟨rfl, rfl⟩
  case round =>
    obtain ⟨rfl, rfl⟩ := hrel
    go_wp2
    go_ret
    exact ⟨rfl, rfl⟩

set_option maxRecDepth 100000 in
theorem lawAlike_len (n m : Nat) (h : n ≠ m) (A C : Option Addr) (cap1 cap2 : Nat) (w : World) :
    Calls Tryd.prog 39 #[.slice A n cap1, .slice C m cap2] w fun e w' => e = .returned (.bool false) ∧ w' = w := by
  have h2 : ¬ (n : Int) = m := by omega
  have hq : ((n : Int) != m) = true := by rw [bne, beq_eq_false_iff_ne.2 h2]; rfl
  go_enter Tryd.func39, Tryd.ntmps39
  go_wp2
  go_ret
  exact ⟨rfl, rfl⟩

theorem eqL_len : ∀ xs ys : List LT, xs.length ≠ ys.length → eqL xs ys = false := by
  intro xs ys h
  cases hq : eqL xs ys with
  | false => rfl
  | true => exact absurd (sim_len ((eqL_sim xs ys).1 hq)) h

theorem lawAlike_any (xs ys : List LT) (hn : xs.length ≤ 3000000) (A C : Option Addr) (cap1 cap2 : Nat) (w : World) (h1 : Arg w A xs) (h2 : Arg w C ys) :
    Calls Tryd.prog 39 #[.slice A xs.length cap1, .slice C ys.length cap2] w fun e w' => e = .returned (.bool (eqL xs ys)) ∧ Below w.heap.size w w' := by
  by_cases hl : xs.length = ys.length
  · by_cases hne : xs = []
    · subst hne
      have hy : ys = [] := List.eq_nil_of_length_eq_zero hl.symm
      subst hy
      refine (lawAlike_none A C cap1 cap2 w).mono ?_
      rintro e w' ⟨rfl, rfl⟩
      exact ⟨rfl, Below.refl _ _⟩
    · have hne2 : ys ≠ [] := fun e => hne (List.eq_nil_of_length_eq_zero (by rw [hl, e]; rfl))
      obtain ⟨b1, o1, rfl, i1⟩ := h1.at_ hne
      obtain ⟨b2, o2, rfl, i2⟩ := h2.at_ hne2
      exact lawAlike_at xs ys hl hn b1 o1 cap1 b2 o2 cap2 w i1 i2
  · refine (lawAlike_len xs.length ys.length hl A C cap1 cap2 w).mono ?_
    rintro e w' ⟨rfl, rfl⟩
    exact ⟨by rw [eqL_len xs ys hl], Below.refl _ _⟩

end Go.Proofs.YtkhgmoljhehbnaaDoor

namespace Go.Proofs.YtkhgmoljhehbnaaDoor
open Go.RowKit

theorem looseL_take : ∀ (ps : List (LT × Lx.B)) (k : Nat) (p : LT × Lx.B), ps[k]? = some p → looseL (ps.take (k + 1)) = looseL (ps.take k) ++ (p.1.text.data.toList ++ p.2)
  | [], k, p, h => by simp at h
  | q :: r, 0, p, h => by
    simp at h
    subst h
    simp [looseL]
  | q :: r, k + 1, p, h => by
    rw [List.take_succ_cons, List.take_succ_cons, looseL, looseL, looseL_take r k p (by simpa using h)]
    simp only [List.append_assoc]
theorem looseL_small : ∀ (ps : List (LT × Lx.B)) (_ : ∀ p ∈ ps, p.1.text.size ≤ 12 ∧ p.2.length ≤ 12), (looseL ps).length ≤ 24 * ps.length
  | [], _ => by simp [looseL]
  | p :: r, h => by
    have h1 := looseL_small r (fun q hq => h q (List.mem_cons_of_mem _ hq))
    obtain ⟨h2, h3⟩ := h p (by simp)
    rw [Lib.size_eq] at h2
    rw [looseL, List.length_append, List.length_append, List.length_cons]
    omega

set_option maxRecDepth 100000 in
set_option maxHeartbeats 1000000 in
theorem spaced_plain (ps : List (LT × Lx.B)) (h32 : ∀ p ∈ ps, p.2 = [32]) (hsz : ∀ p ∈ ps, p.1.text.size ≤ 12) (hn : ps.length ≤ 60) (b1 o1 cap1 cap2 : Nat) (C : Option Addr) (w : World) (h1 : ToksIn w b1 o1 (ps.map (·.1))) :
    Calls Tryd.prog 38 #[.slice (some ⟨b1, o1, none⟩) ps.length cap1, .slice C 0 cap2] w fun e w' => (∃ B : ByteArray, e = .returned (.string B) ∧ B.data.toList = looseL ps) ∧ Below w.heap.size w w' := by
  have H1 := Lib.hid h1
  have H32 := Lib.hid h32
  have HSZ := Lib.hid hsz
  clear h1 h32 hsz
  go_enter Tryd.func38, Tryd.ntmps38
  go_wp2_with fail
  go_loopw [5, 6] (fun vo vi wr => ∃ (k : Nat) (B : ByteArray), k ≤ ps.length ∧ vi = .int .i64 k ∧ vo = .string B ∧ Hid (B.data.toList = looseL (ps.take k)) ∧ Below w.heap.size w wr) (fun _ vi _ => ps.length - (intOf vi).toNat)
  case atStart => exact ⟨0, _, Nat.zero_le _, rfl, rfl, Lib.hid rfl, Below.refl _ _⟩
  case round =>
    obtain ⟨k, B, hk, rfl, rfl, HB, hbr⟩ := hrel
    by_cases hlt : k < ps.length
    · have hlt' : (k : Int) < ps.length := by omega
      obtain ⟨p, hp⟩ : ∃ p, ps[k]? = some p := ⟨_, List.getElem?_eq_getElem hlt⟩
      have hm := List.mem_of_getElem? hp
      have e32 := H32.out p hm
      have hs := HSZ.out p hm
      have hBs : B.size ≤ 1440 := by
        have h1 := looseL_small (ps.take k) (fun q hq => ⟨HSZ.out q (List.mem_of_mem_take hq), by rw [H32.out q (List.mem_of_mem_take hq)]; decide⟩)
        rw [List.length_take] at h1
        rw [Lib.size_eq, HB.out]
        omega
      obtain ⟨x0, x1, x2⟩ := (H1.out.below hbr (fun h => H1.out.lt h)) k p.1 (by rw [List.getElem?_map, hp]; rfl)
      have HN : Hid ((B ++ (p.1.text ++ ⟨#[32]⟩)).data.toList = looseL (ps.take (k + 1))) := Lib.hid (by rw [append_data, append_data, looseL_take ps k p hp, HB.out, e32])
      have hs1 : p.1.text.size + (⟨#[32]⟩ : ByteArray).size ≤ 281474976710656 := by have : (⟨#[32]⟩ : ByteArray).size = 1 := rfl; omega
      have hs2 : B.size + (p.1.text ++ (⟨#[32]⟩ : ByteArray)).size ≤ 281474976710656 := by have : (⟨#[32]⟩ : ByteArray).size = 1 := rfl; rw [ByteArray.size_append]; omega
      clear hp hm e32
      go_wp2
      go_roundw
      case rel => exact ⟨k + 1, B ++ (p.1.text ++ ⟨#[32]⟩), by omega, by go_num, rfl, HN, hbr⟩
      case measure => simp [intOf]; omega
    · have hlt' : ¬ (k : Int) < ps.length := by omega
      have HF : Hid (B.data.toList = looseL ps) := Lib.hid (by rw [HB.out, List.take_of_length_le (by omega)])
      go_wp2
      go_ret
      exact ⟨⟨B, rfl, HF.out⟩, hbr⟩

end Go.Proofs.YtkhgmoljhehbnaaDoor

namespace Go.Proofs.YtkhgmoljhehbnaaDoor
open Go.RowKit

set_option maxRecDepth 100000 in
set_option maxHeartbeats 1000000 in
theorem spaced_gaps (ps : List (LT × Lx.B)) (gs : List Nat) (hg : 0 < gs.length) (hG : ∀ (k : Nat) p, ps[k]? = some p → ∃ c, gs[k % gs.length]? = some c ∧ c < 256 ∧ Lx.gapTexts[c % 7]? = some p.2) (hsz : ∀ p ∈ ps, p.1.text.size ≤ 12) (hsg : ∀ p ∈ ps, p.2.length ≤ 12) (hn : ps.length ≤ 60) (b1 o1 cap1 b2 o2 cap2 : Nat) (w : World) (h1 : ToksIn w b1 o1 (ps.map (·.1))) (hb2 : b2 < w.heap.size) (h2 : ∀ (i : Nat) c, gs[i]? = some c → w.cell? ⟨b2, o2 + i, none⟩ = some (.int .u8 c)) :
    Calls Tryd.prog 38 #[.slice (some ⟨b1, o1, none⟩) ps.length cap1, .slice (some ⟨b2, o2, none⟩) gs.length cap2] w fun e w' => (∃ B : ByteArray, e = .returned (.string B) ∧ B.data.toList = looseL ps) ∧ Below w.heap.size w w' := by
  have H1 := Lib.hid h1
  have H2 := Lib.hid h2
  have HG := Lib.hid hG
  have HSZ := Lib.hid hsz
  have HSG := Lib.hid hsg
  have hg' : (0 : Int) < gs.length := by omega
  have hg0 : ¬ (gs.length : Int) = 0 := by omega
  clear h1 h2 hG hsz hsg
  go_enter Tryd.func38, Tryd.ntmps38
  go_wp2_with fail
  go_loopw [5, 6] (fun vo vi wr => ∃ (k : Nat) (B : ByteArray), k ≤ ps.length ∧ vi = .int .i64 k ∧ vo = .string B ∧ Hid (B.data.toList = looseL (ps.take k)) ∧ Below w.heap.size w wr) (fun _ vi _ => ps.length - (intOf vi).toNat)
  case atStart => exact ⟨0, _, Nat.zero_le _, rfl, rfl, Lib.hid rfl, Below.refl _ _⟩
  case round =>
    obtain ⟨k, B, hk, rfl, rfl, HB, hbr⟩ := hrel
    by_cases hlt : k < ps.length
    · have hlt' : (k : Int) < ps.length := by omega
      obtain ⟨p, hp⟩ : ∃ p, ps[k]? = some p := ⟨_, List.getElem?_eq_getElem hlt⟩
      have hm := List.mem_of_getElem? hp
      have hs := HSZ.out p hm
      have hsg := HSG.out p hm
      obtain ⟨c, hc, hc256, ht⟩ := HG.out k p hp
      have hkm : k % gs.length < gs.length := Nat.mod_lt _ hg
      obtain ⟨q, hq⟩ : ∃ q, q = k % gs.length := ⟨_, rfl⟩
      have hmod : (k : Int) % (gs.length : Int) = (q : Int) := by rw [hq]; omega
      rw [← hq] at hc hkm
      have hqI : (q : Int) < gs.length := by omega
      have hq0 : (0 : Int) ≤ q := by omega
      have hcI : (c : Int) < 256 := by omega
      have hBs : B.size ≤ 1440 := by
        have h1 := looseL_small (ps.take k) (fun q hq => ⟨HSZ.out q (List.mem_of_mem_take hq), HSG.out q (List.mem_of_mem_take hq)⟩)
        rw [List.length_take] at h1
        rw [Lib.size_eq, HB.out]
        omega
      have hbr1 := hbr.alloc hbr.size (.cells #[.string ⟨#[32]⟩, .string ⟨#[10]⟩, .string ⟨#[32, 32]⟩, .string ⟨#[32, 126, 32, 120, 32, 121, 10]⟩, .string ⟨#[10, 10, 32]⟩, .string ⟨#[126, 10]⟩, .string ⟨#[32, 126, 126, 32, 100, 101, 102, 32, 49, 32, 10, 10]⟩] 9)
      have z := lit_get Lx.gapTexts (#[.string ⟨#[32]⟩, .string ⟨#[10]⟩, .string ⟨#[32, 32]⟩, .string ⟨#[32, 126, 32, 120, 32, 121, 10]⟩, .string ⟨#[10, 10, 32]⟩, .string ⟨#[126, 10]⟩, .string ⟨#[32, 126, 126, 32, 100, 101, 102, 32, 49, 32, 10, 10]⟩] : Array Value) rfl wr _ rfl (c % 7) p.2 ht
      have y0 : (wr.alloc (.cells #[.string ⟨#[32]⟩, .string ⟨#[10]⟩, .string ⟨#[32, 32]⟩, .string ⟨#[32, 126, 32, 120, 32, 121, 10]⟩, .string ⟨#[10, 10, 32]⟩, .string ⟨#[126, 10]⟩, .string ⟨#[32, 126, 126, 32, 100, 101, 102, 32, 49, 32, 10, 10]⟩] 9)).cell? ⟨b2, o2 + q, none⟩ = some (.int .u8 c) := ((bcell hbr1).1 _ _ hb2).trans (H2.out _ c hc)
      obtain ⟨x0, x1, x2⟩ := (H1.out.below hbr1 (fun h => H1.out.lt h)) k p.1 (by rw [List.getElem?_map, hp]; rfl)
      have HN : Hid ((B ++ (p.1.text ++ ⟨p.2.toArray⟩)).data.toList = looseL (ps.take (k + 1))) := Lib.hid (by rw [append_data, append_data, looseL_take ps k p hp, HB.out])
      have hs0 : (⟨p.2.toArray⟩ : ByteArray).size ≤ 12 := by rw [Lib.size_eq]; exact hsg
      have hs1 : p.1.text.size + (⟨p.2.toArray⟩ : ByteArray).size ≤ 281474976710656 := by omega
      have hs2 : B.size + (p.1.text ++ (⟨p.2.toArray⟩ : ByteArray)).size ≤ 281474976710656 := by rw [ByteArray.size_append]; omega
      clear hp hm hc ht hq
      go_wp2
      go_roundw
      case rel => exact ⟨k + 1, B ++ (p.1.text ++ ⟨p.2.toArray⟩), by omega, by go_num, rfl, HN, hbr1⟩
      case measure => simp [intOf]; omega
    · have hlt' : ¬ (k : Int) < ps.length := by omega
      have HF : Hid (B.data.toList = looseL ps) := Lib.hid (by rw [HB.out, List.take_of_length_le (by omega)])
      go_wp2
      go_ret
      exact ⟨⟨B, rfl, HF.out⟩, hbr⟩

set_option maxRecDepth 100000 in
theorem spaced_none (A C : Option Addr) (cap1 cap2 n : Nat) (w : World) :
    Calls Tryd.prog 38 #[.slice A 0 cap1, .slice C n cap2] w fun e w' => e = .returned (.string ⟨#[]⟩) ∧ w' = w := by
  go_enter Tryd.func38, Tryd.ntmps38
  go_wp2_with fail
  go_loopw [5, 6] (fun vo vi wr => vi = .int .i64 0 ∧ vo = .string ⟨#[]⟩ ∧ wr = w) (fun _ _ _ => 0)
  case atStart => exact ⟨rfl, rfl, rfl⟩
  case round =>
    obtain ⟨rfl, rfl, rfl⟩ := hrel
    go_wp2
    go_ret
    exact ⟨rfl, rfl⟩

end Go.Proofs.YtkhgmoljhehbnaaDoor

/- For LexLoose: a gap put in at a token's edge changes no token but for its place (plainly); append of whole numbers; for LexBack: the walk of the law. -/
namespace Lx

/-- the gaps that LexLoose puts in -/
def moreTexts : List B := [[32], [10], [126, 32, 97, 10], [32, 10, 32], [10, 126, 32, 100, 101, 102, 32, 40, 10]]
theorem more_gap (g : B) (hg : g ∈ moreTexts) (m : B) : gap (g ++ m) = g.length + gap m := by
  simp only [moreTexts, List.mem_cons, List.not_mem_nil, or_false] at hg
  rcases hg with rfl | rfl | rfl | rfl | rfl <;> simp [gap, gapIn, gapByte, isBlank, isFeed] <;> omega
theorem more_first (g : B) (hg : g ∈ moreTexts) : ∃ c r, g = c :: r ∧ (wordByte c = false ∧ ∀ x ∈ signs, ∀ y ∈ x, y ≠ c) := by
  simp only [moreTexts, List.mem_cons, List.not_mem_nil, or_false] at hg
  have h32 : wordByte 32 = false ∧ ∀ x ∈ signs, ∀ y ∈ x, y ≠ 32 := by decide
  have h10 : wordByte 10 = false ∧ ∀ x ∈ signs, ∀ y ∈ x, y ≠ 10 := by decide
  have h126 : wordByte 126 = false ∧ ∀ x ∈ signs, ∀ y ∈ x, y ≠ 126 := by decide
  rcases hg with rfl | rfl | rfl | rfl | rfl
  · exact ⟨_, _, rfl, h32⟩
  · exact ⟨_, _, rfl, h10⟩
  · exact ⟨_, _, rfl, h126⟩
  · exact ⟨_, _, rfl, h32⟩
  · exact ⟨_, _, rfl, h10⟩
theorem more_okBytes : ∀ g ∈ moreTexts, run okByte g = g.length ∧ g.length ≤ 9 ∧ 0 < g.length := by decide

/-- a text is read as these kinds and texts -/
inductive Rd : B → List (Nat × B) → Prop where
  | nil : Rd [] []
  | gap {l r} : 0 < gap l → Rd (l.drop (Lx.gap l)) r → Rd l r
  | tok {l k t r} : l ≠ [] → Lx.gap l = 0 → Lx.tok l = some (k, t) → Rd (l.drop t.length) r → Rd l ((k, t) :: r)

def keyT (t : Tok) : Nat × B := (t.kind, t.text)

theorem Rd.of_drop {l : B} {r : List (Nat × B)} (h : Rd (l.drop (Lx.gap l)) r) : Rd l r := by
  by_cases h0 : 0 < Lx.gap l
  · exact .gap h0 h
  · have : Lx.gap l = 0 := by omega
    rw [this] at h
    simpa using h
theorem Rd.drop {l : B} {r : List (Nat × B)} (h : Rd l r) : Rd (l.drop (Lx.gap l)) r := by
  by_cases h0 : 0 < Lx.gap l
  · cases h with
    | nil => simp [Lx.gap, gapIn] at h0
    | gap _ h => exact h
    | tok _ h1 _ _ => omega
  · have : Lx.gap l = 0 := by omega
    rw [this]
    simpa using h

/-- what is read of such a text -/
theorem Rd.scan : ∀ (fuel k : Nat) (l : B) (r : List (Nat × B)) (ts : List Tok) (gs : List (Nat × Nat)), Rd l r → l.length ≤ fuel → ts.length + r.length ≤ 900 →
    ∃ pl gs', Lx.scan fuel k l ts gs = .ok (ts ++ pl) gs' ∧ pl.map keyT = r
  | 0, k, l, r, ts, gs, h, hf, hn => by
    have hl : l = [] := List.eq_nil_of_length_eq_zero (by omega)
    subst hl
    cases h with
    | nil => exact ⟨[], gs, by simp [Lx.scan], rfl⟩
    | gap h _ => simp [Lx.gap, gapIn] at h
    | tok h _ _ _ => exact absurd rfl h
  | n + 1, k, l, r, ts, gs, h, hf, hn => by
    cases h with
    | nil => exact ⟨[], gs, by simp [Lx.scan], rfl⟩
    | gap h h2 =>
      have hne : l ≠ [] := by intro e; subst e; simp [Lx.gap, gapIn] at h
      obtain ⟨pl, gs', h3, h4⟩ := Rd.scan n (k + Lx.gap l) _ r ts (gs ++ [(k, k + Lx.gap l)]) h2 (by rw [List.length_drop]; omega) hn
      exact ⟨pl, gs', by rw [Lx.scan, if_neg hne, if_pos h]; exact h3, h4⟩
    | @tok _ kd t r hne hg ht h2 =>
      obtain ⟨_, hp, _, _, _⟩ := tok_prefix ht
      obtain ⟨pl, gs', h3, h4⟩ := Rd.scan n (k + t.length) _ r (ts ++ [⟨kd, t, k⟩]) gs h2 (by rw [List.length_drop]; omega) (by simp at hn ⊢; omega)
      refine ⟨⟨kd, t, k⟩ :: pl, gs', ?_, by rw [List.map_cons, h4]; rfl⟩
      rw [Lx.scan, if_neg hne, if_neg (by omega), ht]
      simp only
      rw [if_neg (by simp at hn; omega), h3]
      simp

theorem scan_len : ∀ (fuel k : Nat) (l : B) (ts : List Tok) (gs : List (Nat × Nat)) (ts' : List Tok) (gs' : List (Nat × Nat)), Lx.scan fuel k l ts gs = .ok ts' gs' → ts.length ≤ 900 → ts'.length ≤ 900
  | 0, k, l, ts, gs, ts', gs', h, hn => by
    rw [Lx.scan] at h; injection h with h1 h2; subst h1; exact hn
  | n + 1, k, l, ts, gs, ts', gs', h, hn => by
    rw [Lx.scan] at h
    split at h
    · injection h with h1 h2; subst h1; exact hn
    · split at h
      · exact scan_len n _ _ _ _ _ _ h hn
      · split at h
        · cases h
        · split at h
          · cases h
          · exact scan_len n _ _ _ _ _ _ h (by simp; omega)

theorem Rd.of_scan : ∀ (fuel k : Nat) (l : B) (ts : List Tok) (gs : List (Nat × Nat)) (ts' : List Tok) (gs' : List (Nat × Nat)), Lx.scan fuel k l ts gs = .ok ts' gs' → l.length ≤ fuel →
    ∃ r, ts' = ts ++ r ∧ Rd l (r.map keyT)
  | 0, k, l, ts, gs, ts', gs', h, hf => by
    have hl : l = [] := List.eq_nil_of_length_eq_zero (by omega)
    subst hl
    rw [Lx.scan] at h; injection h with h1 h2; subst h1; exact ⟨[], by simp, .nil⟩
  | n + 1, k, l, ts, gs, ts', gs', h, hf => by
    rw [Lx.scan] at h
    split at h
    · rename_i e; subst e; injection h with h1 h2; subst h1; exact ⟨[], by simp, .nil⟩
    · rename_i hne
      split at h
      · rename_i hg
        obtain ⟨r, h1, h2⟩ := Rd.of_scan n _ _ _ _ _ _ h (by rw [List.length_drop]; omega)
        exact ⟨r, h1, .gap hg h2⟩
      · rename_i hg
        split at h
        · cases h
        · rename_i kd t ht
          obtain ⟨_, hp, _, _, _⟩ := tok_prefix ht
          split at h
          · cases h
          · obtain ⟨r, h1, h2⟩ := Rd.of_scan n _ _ _ _ _ _ h (by rw [List.length_drop]; omega)
            exact ⟨⟨kd, t, k⟩ :: r, by rw [h1]; simp, .tok hne (by omega) ht h2⟩

theorem gapIn_take : ∀ (l : B) (b : Bool) (m : B), gapIn b l < l.length → gapIn b (l.take (gapIn b l) ++ m) = gapIn b l + gap m
  | [], b, m, h => by simp at h
  | c :: r, true, m, h => by
    simp only [gapIn, List.length_cons] at h
    have ih := gapIn_take r (!isFeed c) m (by omega)
    simp only [gapIn, List.take_succ_cons, List.cons_append]
    omega
  | c :: r, false, m, h => by
    simp only [gapIn] at h ⊢
    by_cases h1 : gapByte c = true
    · rw [if_pos h1] at h ⊢
      have ih := gapIn_take r false m (by simpa using h)
      simp only [List.take_succ_cons, List.cons_append, gapIn, if_pos h1]
      omega
    · rw [if_neg h1] at h ⊢
      by_cases h2 : (c.toNat == 126) = true
      · rw [if_pos h2] at h ⊢
        have ih := gapIn_take r true m (by simpa using h)
        simp only [List.take_succ_cons, List.cons_append, gapIn, if_neg h1, if_pos h2]
        omega
      · rw [if_neg h2]
        simp [gap]

end Lx


namespace Go.Proofs.YtkhgmoljhehbnaaDoor
open Go.RowKit

/-- A GAP PUT IN: at a token's edge, or where the reading begins, it changes no token -/
theorem scan_put (g : Lx.B) (hg : g ∈ Lx.moreTexts) : ∀ (fuel k : Nat) (l : Lx.B) (ts : List Lx.Tok) (gs : List (Nat × Nat)) (r : List Lx.Tok) (gs' : List (Nat × Nat)), Lx.scan fuel k l ts gs = .ok (ts ++ r) gs' → l.length ≤ fuel → (∀ t ∈ r, Lx.tok t.text = some (t.kind, t.text)) →
    ∀ a, (a = k ∨ ∃ t ∈ r, a = t.at_ ∨ a = t.at_ + t.text.length) → k ≤ a ∧ a - k ≤ l.length ∧ Lx.Rd (l.take (a - k) ++ (g ++ l.drop (a - k))) (r.map Lx.keyT) := by
  have start : ∀ (fuel k : Nat) (l : Lx.B) (ts : List Lx.Tok) (gs : List (Nat × Nat)) (r : List Lx.Tok) (gs' : List (Nat × Nat)), Lx.scan fuel k l ts gs = .ok (ts ++ r) gs' → l.length ≤ fuel → Lx.Rd (g ++ l) (r.map Lx.keyT) := by
    intro fuel k l ts gs r gs' h hf
    obtain ⟨r', h1, h2⟩ := Lx.Rd.of_scan fuel k l ts gs _ gs' h hf
    have h1 := List.append_cancel_left h1
    subst h1
    refine Lx.Rd.of_drop ?_
    rw [Lx.more_gap g hg, ← List.drop_drop, List.drop_left]
    exact h2.drop
  intro fuel
  induction fuel with
  | zero =>
    intro k l ts gs r gs' h hf _ a ha
    have hs := start 0 k l ts gs r gs' h hf
    rw [Lx.scan] at h; injection h with h1 h2
    have hr : r = [] := by simpa using h1.symm
    subst hr
    have hk : a = k := by rcases ha with h | ⟨t, ht, _⟩; exact h; simp at ht
    subst hk
    simpa using hs
  | succ n ih =>
    intro k l ts gs r gs' h hf hok a ha
    have hs := start (n + 1) k l ts gs r gs' h hf
    by_cases hak : a = k
    · subst hak; simpa using hs
    · obtain ⟨t0, ht0, ha0⟩ : ∃ t ∈ r, a = t.at_ ∨ a = t.at_ + t.text.length := by rcases ha with h | h; exact absurd h hak; exact h
      clear hs ha
      rw [Lx.scan] at h
      split at h
      · injection h with h1 h2
        have hr : r = [] := by simpa using h1.symm
        subst hr; simp at ht0
      · rename_i hne
        split at h
        · rename_i hgp
          obtain ⟨i1, i2, i3⟩ := ih _ _ _ _ _ _ h (by rw [List.length_drop]; omega) hok a (.inr ⟨t0, ht0, ha0⟩)
          have hle := Lx.gap_le l
          rw [List.length_drop] at i2
          have hlt : Lx.gap l < l.length := by
            by_cases hlt : Lx.gap l < l.length
            · exact hlt
            · exfalso
              have hd : l.drop (Lx.gap l) = [] := List.drop_eq_nil_of_le (by omega)
              obtain ⟨r', h1, h2⟩ := Lx.Rd.of_scan n _ _ _ _ _ _ h (by rw [List.length_drop]; omega)
              have h1 := List.append_cancel_left h1
              subst h1
              rw [hd] at h2
              generalize hq : r.map Lx.keyT = q at h2
              cases h2 with
              | nil => have := List.map_eq_nil_iff.1 hq; rw [this] at ht0; simp at ht0
              | gap h _ => simp [Lx.gap, Lx.gapIn] at h
              | tok h _ _ _ => exact h rfl
          refine ⟨by omega, by omega, ?_⟩
          refine Lx.Rd.of_drop ?_
          have e1 : l.take (a - k) = l.take (Lx.gap l) ++ (l.drop (Lx.gap l)).take (a - (k + Lx.gap l)) := by
            rw [show a - k = Lx.gap l + (a - (k + Lx.gap l)) by omega, List.take_add]
          have e2 : l.drop (a - k) = (l.drop (Lx.gap l)).drop (a - (k + Lx.gap l)) := by
            rw [List.drop_drop]; congr 1; omega
          rw [e1, e2, List.append_assoc]
          have e3 := Lx.gapIn_take l false ((l.drop (Lx.gap l)).take (a - (k + Lx.gap l)) ++ (g ++ (l.drop (Lx.gap l)).drop (a - (k + Lx.gap l)))) hlt
          have e4 : ∀ m, Lx.gap m = Lx.gapIn false m := fun _ => rfl
          rw [← e4, ← e4] at e3
          rw [e3, ← List.drop_drop, List.drop_left' (by rw [List.length_take]; omega)]
          exact i3.drop
        · rename_i hgp
          split at h
          · cases h
          · rename_i kd t ht
            obtain ⟨hpre, hp, hle, _, _⟩ := Lx.tok_prefix ht
            split at h
            · cases h
            · obtain ⟨r', h1, h2⟩ := Lx.Rd.of_scan n _ _ _ _ _ _ h (by rw [List.length_drop]; omega)
              rw [List.append_assoc] at h1
              have h1 := List.append_cancel_left h1
              subst h1
              have h' : Lx.scan n (k + t.length) (l.drop t.length) (ts ++ [⟨kd, t, k⟩]) gs = .ok ((ts ++ [⟨kd, t, k⟩]) ++ r') gs' := by rw [h]; simp
              have htt : Lx.tok t = some (kd, t) := hok ⟨kd, t, k⟩ (by simp)
              have hsplit : l = t ++ l.drop t.length := by rw [← List.take_append_drop t.length l, hpre]; simp
              have ha2 : a = k + t.length ∨ ∃ x ∈ r', a = x.at_ ∨ a = x.at_ + x.text.length := by
                rcases List.mem_cons.1 (by simpa using ht0) with rfl | hm
                · rcases ha0 with h | h
                  · exact absurd h hak
                  · exact .inl h
                · exact .inr ⟨t0, hm, ha0⟩
              obtain ⟨i1, i2, i3⟩ := ih _ _ _ _ _ _ h' (by rw [List.length_drop]; omega) (fun x hx => hok x (by simp [hx])) a ha2
              refine ⟨by omega, by rw [List.length_drop] at i2; omega, ?_⟩
              generalize hL : l.drop t.length = L at *
              have e1 : l.take (a - k) = t ++ L.take (a - (k + t.length)) := by
                rw [show a - k = t.length + (a - (k + t.length)) by omega, List.take_add, hpre, hL]
              have e2 : l.drop (a - k) = L.drop (a - (k + t.length)) := by
                rw [← hL, List.drop_drop]; congr 1; omega
              rw [e1, e2, List.append_assoc]
              have hg0 : ∀ m, Lx.gap (t ++ m) = 0 := (whole_of_tok htt).gap
              rw [List.singleton_append, List.map_cons]
              refine Lx.Rd.tok (by intro e; rw [List.append_eq_nil_iff] at e; rw [e.1] at hp; simp at hp) (hg0 _) ?_ (by rw [List.drop_left' rfl]; exact i3)
              by_cases hj : a = k + t.length
              · subst hj
                obtain ⟨c, g', hgc, hc1, hc2⟩ := Lx.more_first g hg
                rw [Nat.sub_self, List.take_zero, List.nil_append, hgc]
                exact Lx.tok_end htt hc1 hc2
              · rw [hsplit] at ht
                have hb : 0 < (L.take (a - (k + t.length))).length := by rw [List.length_take]; omega
                refine Lx.tok_more (Lx.tok_stay (r := L.drop (a - (k + t.length))) ?_) hb
                rw [List.take_append_drop]
                exact ht

theorem okBytes_take (l : Lx.B) (h : Lx.run Lx.okByte l = l.length) (k : Nat) : Lx.run Lx.okByte (l.take k) = (l.take k).length ∧ Lx.run Lx.okByte (l.drop k) = (l.drop k).length := by
  have ha := all_run Lx.okByte l (by omega)
  rw [List.all_eq_true] at ha
  exact ⟨run_all _ _ (List.all_eq_true.2 fun x hx => ha x (List.mem_of_mem_take hx)), run_all _ _ (List.all_eq_true.2 fun x hx => ha x (List.mem_of_mem_drop hx))⟩

theorem like_of_keys {pl ts : List Lx.Tok} (h : pl.map Lx.keyT = ts.map Lx.keyT) : simL (pl.map LT.of) (ts.map LT.of) := by
  refine like_sim ?_
  unfold likeL
  rw [List.map_map]
  have e1 : (fun t : Lx.Tok => (t.kind, t.text)) = Lx.keyT := rfl
  have e2 : (fun x : LT => (x.kind, x.text.data.toList)) ∘ LT.of = Lx.keyT := by funext t; simp [Lx.keyT, LT.of]
  rw [e1, e2]
  exact h

theorem read_put {l : Lx.B} {ts : List Lx.Tok} {gs : List (Nat × Nat)} (h : Lx.read l = .ok ts gs) (hl : l.length ≤ 1200) (g : Lx.B) (hg : g ∈ Lx.moreTexts) (a : Nat) (ha : a = 0 ∨ ∃ t ∈ ts, a = t.at_ ∨ a = t.at_ + t.text.length) :
    a ≤ l.length ∧ ∃ pl gs', Lx.read (l.take a ++ (g ++ l.drop a)) = .ok pl gs' ∧ simL (pl.map LT.of) (ts.map LT.of) := by
  have hok := (read_lined h).1
  have hck : (Lx.check l).2 = 0 := by
    unfold Lx.read at h
    split at h
    · assumption
    · cases h
  have hrun : Lx.run Lx.okByte l = l.length := by
    unfold Lx.check at hck
    split at hck
    · cases hck
    · split at hck
      · cases hck
      · have := Lx.run_le Lx.okByte l; omega
  unfold Lx.read at h
  rw [if_pos hck] at h
  have hn := Lx.scan_len _ _ _ _ _ _ _ h (by simp)
  obtain ⟨_, h2, h3⟩ := scan_put g hg l.length 0 l [] [] ts gs (by simpa using h) (Nat.le_refl _) hok a ha
  rw [Nat.sub_zero] at h2 h3
  obtain ⟨o1, o2⟩ := okBytes_take l hrun a
  obtain ⟨o3, o4, _⟩ := Lx.more_okBytes g hg
  obtain ⟨pl, gs', h4, h5⟩ := h3.scan (l.take a ++ (g ++ l.drop a)).length 0 _ _ [] [] (Nat.le_refl _) (by simpa using hn)
  refine ⟨h2, pl, gs', ?_, like_of_keys h5⟩
  unfold Lx.read
  rw [check_good (by simp only [List.length_append, List.length_take, List.length_drop]; omega) (run_all_append _ _ _ o1 (run_all_append _ _ _ o3 o2)), if_pos rfl, h4]
  simp

theorem of_get_u {ts : List Lx.Tok} {i : Nat} {z : LT} (h : (ts.map LT.of)[i]? = some z) : ∃ t, ts[i]? = some t ∧ z = LT.of t := by
  rw [List.getElem?_map] at h
  obtain ⟨t, ht, he⟩ := Option.map_eq_some_iff.1 h
  exact ⟨t, ht, he.symm⟩

theorem okBytes_read {l : Lx.B} {ts : List Lx.Tok} {gs : List (Nat × Nat)} (h : Lx.read l = .ok ts gs) : ∀ t ∈ ts, t.at_ + t.text.length ≤ l.length := (Lx.read_gaps h).2

/-- a list of whole numbers of the call's own -/
abbrev OwnInts (w : World) (base : Nat) (A : Option Addr) (cap : Nat) (ls : List Nat) : Prop := w.ownsRow base 3 1 (.slice A ls.length cap) ls.length (ls.map (fun n : Nat => Value.int .i64 (n : Int)))

theorem int_info : (Tryd.prog.info? 3).map (fun i => (i.zero, i.size, i.bytes)) = some (some (.int .i64 0), 1, 8) := by kernel_rfl

theorem ownInts_empty (w : World) (base : Nat) (h : base ≤ w.heap.size) : OwnInts (w.alloc (.cells #[] 3)) base (some ⟨w.heap.size, 0, none⟩) 0 [] := by
  have := World.ownsRow_made (base := base) (e := 3) (size := 1) w #[] 0 h (by simp [maxLen]) (by simp)
  simpa [OwnInts] using this

theorem ownInts_below {w w' : World} {base : Nat} {A : Option Addr} {cap : Nat} {gs : List Nat} (h : OwnInts w base A cap gs) (hb : Below w.heap.size w w') : OwnInts w' base A cap gs :=
  h.kept (grown_of_below hb none) (by
    rcases A with _ | a
    · left; rfl
    · right; simp [Value.ownBlock])

theorem ownInts_get {w : World} {base : Nat} {A : Option Addr} {cap : Nat} {ls : List Nat} (h : OwnInts w base A cap ls) {i n : Nat} (hi : ls[i]? = some n) : ∃ g, A = some ⟨g, 0, none⟩ ∧ w.cell? ⟨g, i, none⟩ = some (.int .i64 n) := by
  have hl : i < ls.length := by
    rcases Nat.lt_or_ge i ls.length with h | h
    · exact h
    · rw [List.getElem?_eq_none h] at hi; cases hi
  obtain ⟨g, cap', hv, _, _⟩ := h.form (by omega)
  injection hv with hA _ hc
  subst hA hc
  refine ⟨g, rfl, ?_⟩
  have := World.ownsRow.cellAt h i (by omega)
  rw [this, List.getElem?_map, hi]; rfl

/-- append of whole numbers, at the operation -/
theorem wpList_append_ints (w : World) {ops : Array Oper} {rest : List Oper} {o : Oper} {a : Act} {Q : Exit → Act → World → Prop} (hgd : o.guard = none) (x y : Operand)
    (ho : o.op = .call { callee := .builtin .append, args := #[x, y], argTypes := #[63, 63] }) (base : Nat) (A : Option Addr) (cap : Nat) (ls m : List Nat) (b : Nat) (hm0 : 0 < m.length)
    (hx : a.eval x = .slice A ls.length cap) (hy : a.eval y = .slice (some ⟨b, 0, none⟩) m.length m.length) (hown : OwnInts w base A cap ls) (h0 : ∀ (i n : Nat), m[i]? = some n → w.cell? ⟨b, i, none⟩ = some (.int .i64 n)) (hts : ls.length + m.length ≤ 10000000) (hbase : base ≤ w.heap.size)
    (h : ∀ A' cap' w', OwnInts w' base A' cap' (ls ++ m) → w.grownBy w' (Value.slice A ls.length cap).ownBlock → wpList Tryd.prog ops Q rest (a.put o.dst (.slice A' (ls ++ m).length cap')) w') : wpList Tryd.prog ops Q (o :: rest) a w := by
  obtain ⟨i0, hi0, hz0, hz1, hz2⟩ := info_parts int_info
  refine wpList_append_own w hgd x y 63 ho base 3 i0 _ 1 8 Tryd.underlying63 hi0 hz0 hz1 hz2 rfl (by decide) _ ls.length (ls.map (fun n : Nat => Value.int .i64 (n : Int))) hx hown ⟨b, 0, none⟩ m.length m.length (m.map (fun n : Nat => Value.int .i64 (n : Int))) hy (by simp) ?_ ?_ (by simp only [maxLen]; omega) (by omega) hbase ?_
  · intro k u hk
    rw [List.getElem?_map] at hk
    obtain ⟨n, hn, rfl⟩ := Option.map_eq_some_iff.1 hk
    rw [add_eq, Nat.zero_add]; exact h0 k n hn
  · intro u hu
    obtain ⟨n, _, rfl⟩ := List.mem_map.1 hu
    rfl
  · intro v' w' h2 h3 _
    obtain ⟨g, cap', hv, _, _⟩ := h2.form (by omega)
    subst hv
    have := h (some ⟨g, 0, none⟩) cap' w' (by unfold OwnInts; rw [List.map_append, List.length_append]; exact h2) h3
    rwa [List.length_append] at this

end Go.Proofs.YtkhgmoljhehbnaaDoor

