/- Layer 5, the program: misses. -/
import Derived.Test.YthagelnimmfhbaaA11
import Derived.Test.YthagelnimmfhbaaRl
namespace Go.Proofs.Ythagelnimmfhbaa
open Go.RowKit Go.El Go.Sort

theorem own_not_walk {w : World} {base : Nat} {e : TypeId} {size n : Nat} {v : Value} {xs : List Value} (h : w.ownsRow base e size v n xs) {r : Nat} (hr : ∃ o : Obj, w.heap[r]? = some o ∧ o.isWalk = true) : some r ≠ v.ownBlock := by
  obtain ⟨o, ho, hw⟩ := hr
  rcases h.2 with ⟨rfl, _⟩ | ⟨g, cap, cur, rfl, _, hgb, _⟩
  · simp [Value.ownBlock]
  · intro e'
    obtain rfl : r = g := by simpa [Value.ownBlock] using e'
    rw [hgb] at ho; cases ho; cases hw
theorem ownsMap_walk {W : World} {b n : Nat} {D : DataW Unit} (h : OwnMp W b n D) : ∃ o : Obj, W.heap[b]? = some o ∧ o.isWalk = true := by
  obtain ⟨es, clock, hb, _⟩ := h
  exact ⟨_, hb, rfl⟩
theorem ownsMap_size {W : World} {b n : Nat} {D : DataW Unit} (h : OwnMp W b n D) : Maps.size D ≤ n := by
  obtain ⟨es, clock, hb, F, hs, rfl⟩ := h
  rw [Maps.size_eq, length_sorted]
  simpa using hs

/-- what has come of the map, in whatever order: the cells, and those that are misses -/
structure Came (D : DataW Unit) (kd : Int → Nat) (left : Lit → Bool) (vs cs : List Int) : Prop where
  nodup : vs.Nodup
  left_ : ∀ c, left (.int .i64 c) = (Maps.has D (.int .i64 c) && !vs.contains c)
  cs_ : cs = vs.filter fun c => kd c != 0
theorem Came.start (D : DataW Unit) (kd : Int → Nat) : Came D kd (Maps.has D) [] [] := ⟨List.nodup_nil, fun c => by simp, rfl⟩
theorem Came.step {D : DataW Unit} {kd : Int → Nat} {left : Lit → Bool} {vs cs : List Int} (h : Came D kd left vs cs) {x : Int} (hx : left (.int .i64 x) = true) :
    Came D kd (fun z => left z && !z.sameKey (.int .i64 x)) (vs ++ [x]) (cs ++ if kd x = 0 then [] else [x]) := by
  have h1 := h.left_ x
  rw [hx] at h1
  have h2 : x ∉ vs := by
    intro hm
    rw [show vs.contains x = true from List.contains_iff_mem.2 hm] at h1
    simp at h1
  refine ⟨?_, fun c => ?_, ?_⟩
  · rw [List.nodup_append]
    exact ⟨h.nodup, by simp, fun a ha b hb => by simp at hb; subst hb; exact fun e => h2 (e ▸ ha)⟩
  · show (left (.int .i64 c) && !(Lit.int .i64 c).sameKey (.int .i64 x)) = _
    rw [h.left_ c]
    by_cases e : c = x
    · subst e
      have : (Lit.int .i64 c).sameKey (.int .i64 c) = true := by simp [Lit.sameKey]
      rw [this]
      simp
    · have : (Lit.int .i64 c).sameKey (.int .i64 x) = false := Maps.sameKey_ne (by simpa using e)
      rw [this]
      simp [e]
  · rw [List.filter_append, ← h.cs_]
    by_cases e : kd x = 0 <;> simp [e]
theorem Came.has {D : DataW Unit} {kd : Int → Nat} {left : Lit → Bool} {vs cs : List Int} (h : Came D kd left vs cs) {x : Int} (hx : left (.int .i64 x) = true) : Maps.has D (.int .i64 x) = true := by
  have h1 := h.left_ x
  rw [hx] at h1
  simp at h1
  exact h1.1
/-- all have come: sorted, they are the misses -/
theorem Came.done {D : DataW Unit} {left : Lit → Bool} {vs cs : List Int} {l : List Rg.Pt} {s : Int} (h : Came D (Rg.how l s) left vs cs) (hl : ∀ z, left z = false) (hD : Often D (Rg.cntd l s [])) (hv : ∀ p ∈ l, p.ok = true) (h0 : 0 ≤ s) (h1 : s ≤ 100) :
    srt cs = Rg.missCells l s := by
  have hnd : cs.Nodup := by rw [h.cs_]; exact h.nodup.filter _
  refine Rg.eq_of_lt (srt_lt cs hnd) (Rg.missCells_lt l s) (fun x => ?_)
  rw [srt_mem, Rg.missCells_mem l hv s h0 h1, h.cs_, List.mem_filter]
  constructor
  · intro hx; simpa using hx.2
  · intro hx
    refine ⟨?_, by simpa using hx⟩
    have h3 := h.left_ x
    rw [hl] at h3
    have h4 : (0 ≤ x ∧ x < s) ∨ 0 < Rg.many l s x := Classical.byContradiction fun h5 => hx (Rg.how_zero h5)
    rw [hD.has, Rg.cntd_some h4] at h3
    simpa using h3.symm

theorem kind_how {l : List Rg.Pt} {s x n : Int} (h : Rg.cntd l s [] x = some n) : kindI x n s = (Rg.how l s x : Nat) := by
  obtain ⟨rfl, h2⟩ := Rg.cntd_nil h
  rw [Rg.how_kind]
  unfold kindI
  by_cases h3 : x < 0 ∨ s ≤ x
  · rw [if_pos h3, if_pos h3, if_pos (by omega)]; rfl
  · rw [if_neg h3, if_neg h3]
    by_cases h4 : Rg.many l s x = 0
    · rw [if_pos (by omega), if_pos h4]; rfl
    · rw [if_neg (by omega), if_neg h4]
      by_cases h5 : 1 < Rg.many l s x
      · rw [if_pos (by omega), if_pos h5]; rfl
      · rw [if_neg (by omega), if_neg h5]; rfl

theorem mv_mL (l : List Rg.Pt) (s : Int) : mv s (Rg.misses l s) = mL s (Rg.how l s) (Rg.missCells l s) := by
  rw [Rg.misses_cells]
  simp [mv, mL]

set_option maxRecDepth 100000 in
set_option maxHeartbeats 4000000 in
theorem smisses_any (l : List Rg.Pt) (hv : Rg.valid l = true) (A : Option Addr) (cap S : Nat) (hS : S ≤ 100) (w : World) (h : PtE.Arg w A l) :
    Calls Try.prog 43 #[.slice A l.length cap, .int .i64 S] w fun e w' => (∃ B c, e = .returned (.slice B (Rg.misses l S).length c) ∧ OwnM w' w.heap.size B c (mv S (Rg.misses l S))) ∧ Below w.heap.size w w' := by
  have hv' := hv
  simp only [Rg.valid, Bool.and_eq_true, decide_eq_true_eq, List.all_eq_true] at hv'
  obtain ⟨hn, hok⟩ := hv'
  have hcn := (callsIn_wide (n := 3)).1 (counted_in 3 (Nat.le_refl _) l hok hn A cap S (by omega) w h)
  have hso := fun cs (hn : List.length cs ≤ 100000) base A cap W h => (by have := sort_any (S : Int) (Rg.how l S) cs hn base A cap W h; rw [← mL_len (S : Int) (Rg.how l S) cs] at this; exact this : Calls Try.prog 59 #[.slice A (mL (S : Int) (Rg.how l S) cs).length cap, .func (.func 60) #[] #[]] W fun e w' => e = .returned (.tuple #[]) ∧ OwnM w' base A cap (mL S (Rg.how l S) (srt cs)) ∧ W.grownBy w' (Value.slice A (mL (S : Int) (Rg.how l S) cs).length cap).ownBlock)
  have hdone := fun (D : DataW Unit) left vs cs (h : Came D (Rg.how l S) left vs cs) hl hD => h.done (s := (S : Int)) hl hD hok (by omega) (by omega)
  have hkh := fun x n (h : Rg.cntd l S [] x = some n) => kind_how h
  have hml : (Rg.missCells l S).length = (Rg.misses l S).length := by unfold Rg.missCells; rw [List.length_map]
  rw [mv_mL, ← hml]
  have HCN := Lib.hid hcn
  have HSO := Lib.hid hso
  have HDN := Lib.hid hdone
  have HKH := Lib.hid hkh
  clear hcn hso hdone hkh hml hv hok h
  generalize Rg.how l S = kd at *
  generalize Rg.missCells l S = R at *
  go_enter Try.func43, Try.ntmps43
  go_wp2_with fail
  refine HCN.out.mono ?_
  rintro e w1 ⟨rfl, ⟨nn, D, hnn, hown, hof⟩, hb1⟩
  have HOF := Lib.hid hof
  have hsz := ownsMap_size hown
  have hz1 := hb1.size
  clear hof
  go_wp2_with (first
    | (at_range; refine wpList_range_own _ rfl _ 84 rfl 3 3 (Maps.int_keyed Try.underlying3) Try.underlying84 _ w.heap.size nn _ rfl hown ?_; intro w0 hrg0 hg0 hs0)
    | go_in)
  go_frame
  have hB0 := hb1.grown hg0 hz1 (fun j e => by cases e)
  go_loopw [5] (fun o wr => ∃ (left : Lit → Bool) (cnt : Nat) (vs cs : List Int) (B : Option Addr) (c : Nat), wr.ranges Try.prog 3 (plainElem Try.prog 3) w.heap.size w1.heap.size nn D left cnt ∧ o = .slice B (mL S kd cs).length c ∧ OwnM wr w.heap.size B c (mL S kd cs) ∧ Hid (Came D kd left vs cs) ∧ vs.length + cnt ≤ Maps.size D ∧ cs.length ≤ vs.length ∧ Below w.heap.size w wr ∧ w1.heap.size ≤ wr.heap.size)
    (fun _ wr => wr.rangeLeft w.heap.size w1.heap.size)
  case atStart => exact ⟨_, _, [], [], none, 0, hrg0, rfl, Own.nil MissE 41 w0 _, Lib.hid (Came.start D kd), by simp, by simp, hB0, by omega⟩
  case round =>
    obtain ⟨left, cnt, vs, cs, B, c, hrg, rfl, hom, HC, hvc, hcl, hB, hzr⟩ := hrel
    go_wp2_with (first
      | (at_next; refine wpList_next_ranges_ii _ rfl _ rfl 3 3 .i64 .i64 (Maps.int_keyed Try.underlying3) Try.underlying3 Try.underlying3 w.heap.size w1.heap.size nn _ _ _ rfl hrg ?_ ?_)
      | go_in)
    · -- NOTHING IS LEFT
      intro _ hl0
      have HR : Hid (srt cs = R) := Lib.hid (HDN.out D left vs cs HC.out hl0 HOF.out)
      have HL : Hid ((mL S kd cs).length = R.length) := Lib.hid (by rw [mL_len, ← HR.out, srt_len])
      have hcall := HSO.out cs (by omega) _ B c wr hom
      rw [HR.out] at hcall
      have HCALL := Lib.hid hcall
      have HG : Hid (∀ w3, wr.grownBy w3 (Value.slice B (mL S kd cs).length c).ownBlock → Below w.heap.size w w3) := Lib.hid fun w3 hg => hB.grown hg (by omega) (fun j hj => (hom.lt j hj).1)
      clear hcall hrg
      go_wp2_with fail
      refine HCALL.out.mono ?_
      rintro e w3 ⟨rfl, ho3, hg3⟩
      have hB3 := HG.out w3 hg3
      clear hg3
      go_wp2
      go_ret
      exact ⟨⟨B, c, by rw [← HL.out]; rfl, ho3⟩, hB3⟩
    · -- A CELL HAS COME
      intro x k w2 cnt2 hwx hwk hlx hat hrg2 hlt2 hg2 hs2 hen
      have hom2 : OwnM w2 w.heap.size B c (mL S kd cs) := hom.kept hg2 (.inr (own_not_walk hom hrg.iter_walk).symm)
      have hB2 := hB.grown hg2 (by omega) (fun j e => by cases e; exact hz1)
      have hcall : ∀ W, Calls Try.prog 58 #[.int .i64 x, .int .i64 k, .int .i64 S] W fun e w' => e = .returned (.int .u8 (kd x : Nat)) ∧ W = w' := fun W => by
        have h1 := HC.out.has hlx
        rw [HOF.out.has] at h1
        obtain ⟨n', hf⟩ := Option.isSome_iff_exists.1 h1
        have h2 := HOF.out.at_ x n' hf (.lit (.int .i64 0))
        rw [hat] at h2
        injection h2 with h2
        injection h2 with _ h2
        subst h2
        rw [← HKH.out x k hf]
        exact kindOf_any x k S W
      have HCALL := Lib.hid hcall
      have hstep := HC.out.step hlx
      have hM1 : Maps.size D ≤ 10000 := by omega
      have hs3 : wr.heap.size ≤ w2.heap.size := by omega
      have HS2 := Lib.hid hs2
      have HWX := Lib.hid hwx
      clear hs2 hwx hwk
      have hmk := mL_len (S : Int) kd cs
      clear hcall hat
      by_cases hq : kd x = 0
      · rw [if_pos hq, List.append_nil] at hstep
        rw [hq] at HCALL
        have HS := Lib.hid hstep
        have HMK := Lib.hid hmk
        clear hstep hq hmk
        go_wp2_with fail
        refine (HCALL.out _).mono ?_
        rintro e w3 ⟨rfl, rfl⟩
        go_wp2
        go_roundw
        case rel => exact ⟨_, cnt2, vs ++ [x], cs, B, c, hrg2, rfl, hom2, HS, by simp; omega, by simp; omega, hB2, by omega⟩
        case measure => rw [hrg2.left_eq, hrg.left_eq]; exact hlt2
      · rw [if_neg hq] at hstep
        have hq1 : ((kd x : Nat) : Int) ≠ 0 := by omega
        have HS := Lib.hid hstep
        have HMK := Lib.hid hmk
        have HQ : Hid (mL S kd (cs ++ [x]) = mL S kd cs ++ [((S : Int), x, kd x)]) := Lib.hid (by simp [mL])
        have hq2 : (((kd x : Nat) : Int) == 0) = false := by rw [beq_eq_false_iff_ne]; exact hq1
        have hq3 : (((kd x : Nat) : Int) != 0) = true := by rw [bne, hq2]; rfl
        clear hstep hq hmk hq1
        generalize kd x = q at *
        go_wp2_with fail
        refine (HCALL.out _).mono ?_
        rintro e w3 ⟨rfl, rfl⟩
        go_wp2_with (at_builtin; refine append_M rfl _ _ rfl w.heap.size B c (mL S kd cs) ((S : Int), x, q) w2.heap.size rfl rfl (hom2.below ((Below.refl _ _).alloc (Nat.le_refl _) _)) (by simp) (by simp) (by simp) (by have := HMK.out; omega) (by simp; omega) ?_; intro B' c' w4 hown4 hgrow4)
        have hra := hrg2.alloc (.cells #[.int .i64 S, .int .i64 x, .int .u8 (q : Nat)] 41)
        have hoa : OwnM (w2.alloc (.cells #[.int .i64 S, .int .i64 x, .int .u8 (q : Nat)] 41)) w.heap.size B c (mL S kd cs) := hom2.below ((Below.refl _ _).alloc (Nat.le_refl _) _)
        have hrg4 := hra.kept hgrow4 (own_not_walk hoa (ownsMap_walk hra.owns)) (own_not_walk hoa hra.iter_walk)
        have hz4 := hgrow4.size
        simp only [World.size_alloc] at hz4
        have hB4 := (hB2.alloc (show w.heap.size ≤ w2.heap.size by omega) (.cells #[.int .i64 S, .int .i64 x, .int .u8 (q : Nat)] 41)).grown hgrow4 (by simp; omega) (fun j hj => (hom2.lt j hj).1)
        go_roundw
        case rel => exact ⟨_, cnt2, vs ++ [x], cs ++ [x], B', c', hrg4, by rw [HQ.out]; simp, by rw [HQ.out]; exact hown4, HS, by simp; omega, by simp; omega, hB4, by omega⟩
        case measure => rw [hrg4.left_eq, hrg.left_eq]; exact hlt2

end Go.Proofs.Ythagelnimmfhbaa
