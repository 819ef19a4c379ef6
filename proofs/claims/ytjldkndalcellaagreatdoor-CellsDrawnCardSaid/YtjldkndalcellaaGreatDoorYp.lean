/- Layer 6: values that came in as arguments, opened; the last step of a row with such arguments. (Two blocks of the guides, copied as they say, stand first.) Layer 6: memories, pictures and lists of lists that came in as arguments, opened: they read as plain ones. Layer 6: the walk of the laws' Thin. -/
import Derived.Test.YtjldkndalcellaaGreatDoorYb
import Derived.Test.YtjldkndalcellaaGreatDoorRows
import Derived.ProofKit
import Derived.OpenShut
import Derived.Deep.Slices
import Derived.Deep.Fields
import Derived.ChangeSame
import Derived.Below
import Derived.WideKeyArgs
import Derived.Test.YtjldkndalcellaaGreatDoorYe
namespace Go.Proofs.YtjldkndalcellaaGreatDoor
open Go.ChangeShapes Go.WideShapes Go.ChangeAt Go.RowKit Go.Deep Go.El

section
variable {H : Type} {enc : TypeId × Value → H} {P : Program}
theorem post_of_below {f : Func} {s : ChangeSpec} {apart fresh handsOn again : Bool} {W W' : World} {args : Array Value} {v : Value} {ds gs : List (DataW H)} {before pa pv : List MemPlace}
    (hW : DataW.Whole enc P f.params.toList s.vars apart W args.toList ds gs before)
    (hres : ∀ (b : Nat) (sp : Nat → Bool) (hd : Bool), DataW.TrodAll enc P W' b sp hd f.resultTypes.toList (v.resultList f.resultTypes.size) (s.fn H (ds ++ gs)).results [])
    (hargs : ∀ sp : Nat → Bool, (∀ p ∈ before, sp p.block = true) → DataW.TrodAll enc P W' 0 sp true f.params.toList args.toList (s.fn H (ds ++ gs)).args pa)
    (hvars : ∀ sp : Nat → Bool, (∀ p ∈ before, sp p.block = true) → DataW.TrodVars enc P W' sp s.vars (s.fn H (ds ++ gs)).vars pv)
    (hps : before = pa ++ pv) (hb : Below W.heap.size W W')
    (hok : ∀ (j : Nat) (t : TypeId) (r : Value), f.resultTypes[j]? = some t → (v.resultList f.resultTypes.size)[j]? = some r → Value.okWide P W' .any 0 t r) :
    s.post enc P f apart fresh handsOn again W args v W' := by
  have hlt : ∀ p ∈ before, p.block < W.heap.size := fun p hp => hW.lt p hp
  have hold : ∀ p ∈ before, (fun b => decide (b < W.heap.size)) p.block = true := fun p hp => by simpa using hlt p hp
  refine ⟨ds, gs, before, [], pa, pv, hW, hres _ _ _, hargs _ hold, hvars _ hold, World.keptBut_mono (fun p hp => ⟨hp, ?_⟩) (hb.frame (· ∈ before)), fun _ => ?_⟩
  · rw [hps, List.mem_append] at hp
    exact Or.inr hp
  · obtain ⟨_, _, _, _, _, hz, hn⟩ := hW
    refine ⟨hok, _, _, ([] ++ pa) ++ pv, ⟨[] ++ pa, pv, trodAll_append (hargs _ (fun _ _ => rfl)) (hres _ _ _), hvars _ (fun _ _ => rfl), rfl, ?_, ?_⟩, ?_⟩
    · intro b off hp
      have hin : MemPlace.cell b off ∈ before := by rw [hps]; simpa using hp
      rw [hb.frozen (hlt _ hin)]
      exact hz b off hin
    · intro ha
      have := hn ha
      rw [hps] at this
      simpa using this
    · intro p hp _
      rw [hps]
      simpa using hp
end

section
variable {H : Type} {enc : TypeId × Value → H} {w : World} {base : Nat} {spare : Nat → Bool} {held : Bool}
set_option maxRecDepth 100000 in
theorem read_value {n : Nat} {cs : List Value} {y : DataW H × List MemPlace} (h : DataW.trod enc Tryz.prog w base spare held n 57 cs = some y) : ∃ v : Ce.V, cs = vC v := by
  obtain ⟨ys, n', _, _, hlen, hyl, hf⟩ := DataW.trod_struct Tryz.underlying57 h
  have c2 : Tryz.prog.cellsOf 57 = 2 := by kernel_rfl
  have cb : Tryz.prog.cellsOf 5 = 1 := by kernel_rfl
  have ci : Tryz.prog.cellsOf 3 = 1 := by kernel_rfl
  rw [c2] at hlen
  match cs, hlen with
  | [x0, x1], _ =>
    have h0 : DataW.trod enc Tryz.prog w base spare held n' 5 (List.take (Tryz.prog.cellsOf 5) (List.drop 0 [x0, x1])) = ys[0]? := hf 0 _ rfl
    have h1 : DataW.trod enc Tryz.prog w base spare held n' 3 (List.take (Tryz.prog.cellsOf 3) (List.drop 1 [x0, x1])) = ys[1]? := hf 1 _ rfl
    rw [cb] at h0
    rw [ci] at h1
    have g0 : ys[0]? = some (ys[0]'(by rw [hyl]; decide)) := List.getElem?_eq_getElem _
    have g1 : ys[1]? = some (ys[1]'(by rw [hyl]; decide)) := List.getElem?_eq_getElem _
    obtain ⟨k, e0, _⟩ := DataW.trod_int Tryz.underlying5 (h0.trans g0)
    obtain ⟨m, e1, _⟩ := DataW.trod_int Tryz.underlying3 (h1.trans g1)
    simp at e0 e1
    exact ⟨⟨k, m⟩, by rw [e0, e1]; rfl⟩
end
set_option maxRecDepth 100000 in
theorem open_values {H : Type} {enc : TypeId × Value → H} {w : World} {base b0 : Nat} {spare : Nat → Bool} {held : Bool} {r : Reach} {v : Value} {d : DataW H} {p : List MemPlace}
    (hv : Value.okWide Tryz.prog w r b0 34 v) (h : DataW.Trod enc Tryz.prog w base spare held 34 v d p) :
    ∃ A cap l, v = .slice A (l : List Ce.V).length cap ∧ ValE.Arg w A l ∧ (A = none → cap = 0) ∧ l.length ≤ cap ∧ cap ≤ maxLen := by
  obtain ⟨a0, len0, cap0, rfl⟩ := okWide_slice Tryz.underlying34 hv
  obtain ⟨fuel, hf⟩ := h
  have c2 : Tryz.prog.cellsOf 57 = 2 := by kernel_rfl
  rcases open_slice Tryz.underlying34 hf with ⟨hcs, _⟩ | ⟨a, len, cap, m, n, D, Pl, hcs, _, hl, hm, hmm, _, hi⟩
  · simp only [Value.cells] at hcs
    injection hcs with hcs _
    injection hcs with e1 e2 e3
    subst e1 e2 e3
    exact ⟨none, 0, [], rfl, Arg.nil w none, fun _ => rfl, Nat.le_refl _, Nat.zero_le _⟩
  · simp only [Value.cells] at hcs
    injection hcs with hcs _
    injection hcs with e1 e2 e3
    subst e1 e2 e3
    have hlm : len0 ≤ m := by rw [hmm]; split <;> omega
    have hex : ∀ i, i < len0 → ∃ q : Ce.V, ∀ j u, (vC q)[j]? = some u → w.cell? (a.add (i * 2 + j)) = some u := by
      intro i hil
      obtain ⟨cs', hc, ht⟩ := hi i (by omega)
      rw [c2] at hc
      obtain ⟨q, rfl⟩ := read_value ht
      obtain ⟨_, _, hat⟩ := World.cells?_some hc
      refine ⟨q, fun j u hu => ?_⟩
      have hj : j < 2 := by
        rcases Nat.lt_or_ge j 2 with h | h
        · exact h
        · rw [List.getElem?_eq_none (by simpa [vC] using h)] at hu; cases hu
      rw [← Go.Deep.add_add, hat j hj, hu]
    obtain ⟨F, hF⟩ := choose_lt hex
    refine ⟨some a, cap0, (List.range len0).map F, by simp, ⟨fun hne => ?_⟩, (fun h => by cases h), by simpa using hl, hm⟩
    have hpos : 0 < len0 := by
      rcases Nat.eq_zero_or_pos len0 with h0 | h0
      · subst h0; exact absurd rfl hne
      · exact h0
    have hsp := World.cell?_spot (hF 0 hpos 0 _ rfl)
    obtain ⟨b, o, sp⟩ := a
    simp only [Nat.zero_mul, Addr.add, if_true] at hsp
    subst hsp
    refine ⟨b, o, rfl, fun i x hx j u hu => ?_⟩
    rw [List.getElem?_map] at hx
    cases hr : (List.range len0)[i]? with
    | none => rw [hr] at hx; simp at hx
    | some i' =>
      obtain ⟨hij, hj⟩ := List.getElem?_eq_some_iff.1 hr
      simp at hij hj
      subst hj
      rw [hr] at hx
      simp at hx
      subst hx
      have := hF i hij j u hu
      rw [add_at, ← Nat.add_assoc] at this
      exact this
theorem own_knob : ownKnob Tryz.prog.godebug = none := by kernel_rfl

end Go.Proofs.YtjldkndalcellaaGreatDoor

namespace Go.El
open Go.ChangeShapes Go.WideShapes Go.ChangeAt Go.RowKit Go.Deep
instance slInh : Inhabited Sl := ⟨⟨none, 0, 0⟩⟩
section
variable {H : Type} {enc : TypeId × Value → H} {P : Program} {w : World} {base : Nat} {spare : Nat → Bool} {held : Bool}
/-- a slice of elements of any kind that was gone through, as a list -/
theorem open_row {α : Type} [Inhabited α] (K : El α) {t e : TypeId} {fuel : Nat} {cs : List Value} {y : DataW H × List MemPlace} (ht : P.underlying t = some (.slice e)) (hk : P.cellsOf e = K.k) (Q : α → Prop)
    (hread : ∀ (n : Nat) (cs : List Value) (y : DataW H × List MemPlace), DataW.trod enc P w base spare held n e cs = some y → ∃ x, cs = K.cells x ∧ Q x)
    (h : DataW.trod enc P w base spare held fuel t cs = some y) :
    ∃ A cap, ∃ l : List α, cs = [.slice A l.length cap] ∧ K.Arg w A l ∧ (A = none → cap = 0) ∧ l.length ≤ cap ∧ cap ≤ maxLen ∧ ∀ x ∈ l, Q x := by
  rcases open_slice ht h with ⟨rfl, _⟩ | ⟨a, len, cap, m, n, D, Pl, rfl, _, hl, hm, hmm, _, hi⟩
  · exact ⟨none, 0, [], rfl, Arg.nil w none, fun _ => rfl, Nat.le_refl _, Nat.zero_le _, fun x hx => by cases hx⟩
  · have hlm : len ≤ m := by rw [hmm]; split <;> omega
    have hex : ∀ i, i < len → ∃ q : α, (∀ j u, (K.cells q)[j]? = some u → w.cell? (a.add (i * K.k + j)) = some u) ∧ Q q := by
      intro i hil
      obtain ⟨cs', hc, ht'⟩ := hi i (by omega)
      rw [hk] at hc
      obtain ⟨q, rfl, hq⟩ := hread _ _ _ ht'
      obtain ⟨_, _, hat⟩ := World.cells?_some hc
      refine ⟨q, fun j u hu => ?_, hq⟩
      have hj : j < K.k := by
        rcases Nat.lt_or_ge j K.k with h | h
        · exact h
        · rw [List.getElem?_eq_none (by rw [K.len]; exact h)] at hu; cases hu
      rw [← Go.Deep.add_add, hat j hj, hu]
    obtain ⟨F, hF⟩ := choose_lt hex
    refine ⟨some a, cap, (List.range len).map F, by simp, ⟨fun hne => ?_⟩, (fun h => by cases h), by simpa using hl, hm, fun x hx => ?_⟩
    · have hpos : 0 < len := by
        rcases Nat.eq_zero_or_pos len with h0 | h0
        · subst h0; exact absurd rfl hne
        · exact h0
      have hkp := K.pos
      have hc0 : (K.cells (F 0))[0]? = some ((K.cells (F 0))[0]'(by rw [K.len]; exact hkp)) := List.getElem?_eq_getElem _
      have hsp := World.cell?_spot ((hF 0 hpos).1 0 _ hc0)
      obtain ⟨b, o, sp⟩ := a
      simp only [Nat.zero_mul, Addr.add, if_true] at hsp
      subst hsp
      refine ⟨b, o, rfl, fun i x hx j u hu => ?_⟩
      rw [List.getElem?_map] at hx
      cases hr : (List.range len)[i]? with
      | none => rw [hr] at hx; simp at hx
      | some i' =>
        obtain ⟨hij, hj⟩ := List.getElem?_eq_some_iff.1 hr
        simp at hij hj
        subst hj
        rw [hr] at hx
        simp at hx
        subst hx
        have := (hF i hij).1 j u hu
        rw [add_at, ← Nat.add_assoc] at this
        exact this
    · obtain ⟨i, hi', rfl⟩ := List.mem_map.1 hx
      exact (hF i (by simpa using hi')).2
/-- for each element one that belongs to it -/
theorem choose_list {α β : Type} {R : α → β → Prop} : ∀ (l : List α), (∀ x ∈ l, ∃ y, R x y) → ∃ m : List β, l.length = m.length ∧ ∀ (i : Nat) (x : α) (y : β), l[i]? = some x → m[i]? = some y → R x y
  | [], _ => ⟨[], rfl, fun i x y h => by simp at h⟩
  | x :: l, h => by
    obtain ⟨y, hy⟩ := h x (by simp)
    obtain ⟨m, h1, h2⟩ := choose_list l fun z hz => h z (by simp [hz])
    refine ⟨y :: m, by simp [h1], fun i a b ha hb => ?_⟩
    cases i with
    | zero => simp at ha hb; subst ha hb; exact hy
    | succ i => simp at ha hb; exact h2 i a b ha hb
end
end Go.El
namespace Go.Proofs.YtjldkndalcellaaGreatDoor
open Go.ChangeShapes Go.WideShapes Go.ChangeAt Go.RowKit Go.Deep Go.El
/-- as large as slices may be -/
structure Bgm (m : Ce.Mem) : Prop where
  many : m.length ≤ maxLen
  each : ∀ (i : Nat) (s : Ce.St), m[i]? = some s → s.cells.length ≤ maxLen ∧ s.wait.length ≤ maxLen
structure Bgp (p : Ce.Pic) : Prop where
  vals : p.vals.length ≤ maxLen
  many : p.cells.length ≤ maxLen
  each : ∀ (i : Nat) (s : List Ce.V), p.cells[i]? = some s → s.length ≤ maxLen
section
variable {H : Type} {enc : TypeId × Value → H} {w : World} {base : Nat} {spare : Nat → Bool} {held : Bool}
set_option maxRecDepth 100000 in
theorem read_rd {n : Nat} {cs : List Value} {y : DataW H × List MemPlace} (h : DataW.trod enc Tryz.prog w base spare held n 86 cs = some y) : ∃ v : Ce.Rd, cs = rdC v := by
  obtain ⟨ys, n', _, _, hlen, hyl, hf⟩ := DataW.trod_struct Tryz.underlying86 h
  have c2 : Tryz.prog.cellsOf 86 = 2 := by kernel_rfl
  have ci : Tryz.prog.cellsOf 3 = 1 := by kernel_rfl
  rw [c2] at hlen
  match cs, hlen with
  | [x0, x1], _ =>
    have h0 : DataW.trod enc Tryz.prog w base spare held n' 3 (List.take (Tryz.prog.cellsOf 3) (List.drop 0 [x0, x1])) = ys[0]? := hf 0 _ rfl
    have h1 : DataW.trod enc Tryz.prog w base spare held n' 3 (List.take (Tryz.prog.cellsOf 3) (List.drop 1 [x0, x1])) = ys[1]? := hf 1 _ rfl
    rw [ci] at h0
    rw [ci] at h1
    have g0 : ys[0]? = some (ys[0]'(by rw [hyl]; decide)) := List.getElem?_eq_getElem _
    have g1 : ys[1]? = some (ys[1]'(by rw [hyl]; decide)) := List.getElem?_eq_getElem _
    obtain ⟨k, e0, _⟩ := DataW.trod_int Tryz.underlying3 (h0.trans g0)
    obtain ⟨m, e1, _⟩ := DataW.trod_int Tryz.underlying3 (h1.trans g1)
    simp at e0 e1
    exact ⟨⟨k, m⟩, by rw [e0, e1]; rfl⟩
instance rdInh : Inhabited Ce.Rd := ⟨⟨0, 0⟩⟩
set_option maxRecDepth 100000 in
theorem read_values {n : Nat} {cs : List Value} {y : DataW H × List MemPlace} (h : DataW.trod enc Tryz.prog w base spare held n 34 cs = some y) :
    ∃ A cap, ∃ l : List Ce.V, cs = [.slice A l.length cap] ∧ ValE.Arg w A l ∧ (A = none → cap = 0) ∧ l.length ≤ cap ∧ cap ≤ maxLen := by
  obtain ⟨A, cap, l, h1, h2, h3, h4, h5, _⟩ := open_row ValE Tryz.underlying34 (show Tryz.prog.cellsOf 57 = 2 by kernel_rfl) (fun _ => True) (fun n cs y h => by obtain ⟨v, hv⟩ := read_value h; exact ⟨v, hv, trivial⟩) h
  exact ⟨A, cap, l, h1, h2, h3, h4, h5⟩
set_option maxRecDepth 100000 in
theorem read_rds {n : Nat} {cs : List Value} {y : DataW H × List MemPlace} (h : DataW.trod enc Tryz.prog w base spare held n 59 cs = some y) :
    ∃ A cap, ∃ l : List Ce.Rd, cs = [.slice A l.length cap] ∧ RdE.Arg w A l ∧ (A = none → cap = 0) ∧ l.length ≤ cap ∧ cap ≤ maxLen := by
  obtain ⟨A, cap, l, h1, h2, h3, h4, h5, _⟩ := open_row RdE Tryz.underlying59 (show Tryz.prog.cellsOf 86 = 2 by kernel_rfl) (fun _ => True) (fun n cs y h => by obtain ⟨v, hv⟩ := read_rd h; exact ⟨v, hv, trivial⟩) h
  exact ⟨A, cap, l, h1, h2, h3, h4, h5⟩
set_option maxRecDepth 100000 in
theorem read_struct {n : Nat} {cs : List Value} {y : DataW H × List MemPlace} (h : DataW.trod enc Tryz.prog w base spare held n 61 cs = some y) :
    ∃ h : Sl × Sl, cs = StE.cells h ∧ ∃ s : Ce.St, (SlAt ValE w h.1 s.cells ∧ SlAt RdE w h.2 s.wait) ∧ s.cells.length ≤ maxLen ∧ s.wait.length ≤ maxLen := by
  obtain ⟨ys, n', _, _, hlen, hyl, hf⟩ := DataW.trod_struct Tryz.underlying61 h
  have c2 : Tryz.prog.cellsOf 61 = 2 := by kernel_rfl
  have cb : Tryz.prog.cellsOf 34 = 1 := by kernel_rfl
  have ci : Tryz.prog.cellsOf 59 = 1 := by kernel_rfl
  rw [c2] at hlen
  match cs, hlen with
  | [x0, x1], _ =>
    have h0 : DataW.trod enc Tryz.prog w base spare held n' 34 (List.take (Tryz.prog.cellsOf 34) (List.drop 0 [x0, x1])) = ys[0]? := hf 0 _ rfl
    have h1 : DataW.trod enc Tryz.prog w base spare held n' 59 (List.take (Tryz.prog.cellsOf 59) (List.drop 1 [x0, x1])) = ys[1]? := hf 1 _ rfl
    rw [cb] at h0
    rw [ci] at h1
    have g0 : ys[0]? = some (ys[0]'(by rw [hyl]; decide)) := List.getElem?_eq_getElem _
    have g1 : ys[1]? = some (ys[1]'(by rw [hyl]; decide)) := List.getElem?_eq_getElem _
    obtain ⟨A, c, l, e0, a1, a2, a3, a4⟩ := read_values (h0.trans g0)
    obtain ⟨B, d, m, e1, b1, b2, b3, b4⟩ := read_rds (h1.trans g1)
    simp at e0 e1
    exact ⟨(⟨A, l.length, c⟩, ⟨B, m.length, d⟩), by rw [e0, e1]; rfl, ⟨l, m⟩, ⟨⟨rfl, a1, a2, a3⟩, ⟨rfl, b1, b2, b3⟩⟩, Nat.le_trans a3 a4, Nat.le_trans b3 b4⟩
set_option maxRecDepth 100000 in
theorem read_memory {n : Nat} {cs : List Value} {y : DataW H × List MemPlace} (h : DataW.trod enc Tryz.prog w base spare held n 24 cs = some y) :
    ∃ A cap, ∃ m : Ce.Mem, cs = [.slice A m.length cap] ∧ MemAt w A m ∧ (A = none → cap = 0) ∧ m.length ≤ cap ∧ cap ≤ maxLen ∧ Bgm m := by
  obtain ⟨ys, n', _, _, hlen, hyl, hf⟩ := DataW.trod_struct Tryz.underlying24 h
  have c1 : Tryz.prog.cellsOf 24 = 1 := by kernel_rfl
  have cb : Tryz.prog.cellsOf 22 = 1 := by kernel_rfl
  rw [c1] at hlen
  match cs, hlen with
  | [x0], _ =>
    have h0 : DataW.trod enc Tryz.prog w base spare held n' 22 (List.take (Tryz.prog.cellsOf 22) (List.drop 0 [x0])) = ys[0]? := hf 0 _ rfl
    rw [cb] at h0
    have g0 : ys[0]? = some (ys[0]'(by rw [hyl]; decide)) := List.getElem?_eq_getElem _
    obtain ⟨A, cap, l, e1, e2, e3, e4, e5, e6⟩ := open_row StE Tryz.underlying22 (show Tryz.prog.cellsOf 61 = 2 by kernel_rfl) (fun h => ∃ s : Ce.St, (SlAt ValE w h.1 s.cells ∧ SlAt RdE w h.2 s.wait) ∧ s.cells.length ≤ maxLen ∧ s.wait.length ≤ maxLen) (fun n cs y h => read_struct h) (h0.trans g0)
    obtain ⟨m, m1, m2⟩ := choose_list (R := fun h (s : Ce.St) => (SlAt ValE w h.1 s.cells ∧ SlAt RdE w h.2 s.wait) ∧ s.cells.length ≤ maxLen ∧ s.wait.length ≤ maxLen) l e6
    simp at e1
    rw [m1] at e1 e4
    exact ⟨A, cap, m, by rw [e1], ⟨l, m1, e2, fun i h s hh hs => (m2 i h s hh hs).1⟩, e3, e4, e5, Nat.le_trans e4 e5, fun i s hs => by
      have hi : i < l.length := by rw [m1]; exact (List.getElem?_eq_some_iff.1 hs).1
      exact (m2 i _ s (List.getElem?_eq_getElem hi) hs).2⟩
set_option maxRecDepth 100000 in
theorem read_lists {n : Nat} {cs : List Value} {y : DataW H × List MemPlace} (h : DataW.trod enc Tryz.prog w base spare held n 35 cs = some y) :
    ∃ A cap, ∃ m : List (List Ce.V), cs = [.slice A m.length cap] ∧ LsAt w A m ∧ (A = none → cap = 0) ∧ m.length ≤ cap ∧ cap ≤ maxLen ∧ ∀ (i : Nat) (s : List Ce.V), m[i]? = some s → s.length ≤ maxLen := by
  obtain ⟨A, cap, l, e1, e2, e3, e4, e5, e6⟩ := open_row SlE Tryz.underlying35 (show Tryz.prog.cellsOf 34 = 1 by kernel_rfl) (fun h => ∃ s : List Ce.V, SlAt ValE w h s ∧ s.length ≤ maxLen) (fun n cs y h => by
    obtain ⟨A, c, l, rfl, h1, h2, h3, h4⟩ := read_values h
    exact ⟨⟨A, l.length, c⟩, rfl, l, ⟨rfl, h1, h2, h3⟩, Nat.le_trans h3 h4⟩) h
  obtain ⟨m, m1, m2⟩ := choose_list (R := fun h (s : List Ce.V) => SlAt ValE w h s ∧ s.length ≤ maxLen) l e6
  rw [m1] at e1 e4
  exact ⟨A, cap, m, e1, ⟨l, m1, e2, fun i h s hh hs => (m2 i h s hh hs).1⟩, e3, e4, e5, fun i s hs => by
    have hi : i < l.length := by rw [m1]; exact (List.getElem?_eq_some_iff.1 hs).1
    exact (m2 i _ s (List.getElem?_eq_getElem hi) hs).2⟩
set_option maxRecDepth 100000 in
theorem read_picture {n : Nat} {cs : List Value} {y : DataW H × List MemPlace} (h : DataW.trod enc Tryz.prog w base spare held n 37 cs = some y) :
    ∃ V cv C cc, ∃ p : Ce.Pic, cs = [.slice V p.vals.length cv, .slice C p.cells.length cc] ∧ PicV w V cv C cc p ∧ Bgp p := by
  obtain ⟨ys, n', _, _, hlen, hyl, hf⟩ := DataW.trod_struct Tryz.underlying37 h
  have c2 : Tryz.prog.cellsOf 37 = 2 := by kernel_rfl
  have cb : Tryz.prog.cellsOf 34 = 1 := by kernel_rfl
  have ci : Tryz.prog.cellsOf 35 = 1 := by kernel_rfl
  rw [c2] at hlen
  match cs, hlen with
  | [x0, x1], _ =>
    have h0 : DataW.trod enc Tryz.prog w base spare held n' 34 (List.take (Tryz.prog.cellsOf 34) (List.drop 0 [x0, x1])) = ys[0]? := hf 0 _ rfl
    have h1 : DataW.trod enc Tryz.prog w base spare held n' 35 (List.take (Tryz.prog.cellsOf 35) (List.drop 1 [x0, x1])) = ys[1]? := hf 1 _ rfl
    rw [cb] at h0
    rw [ci] at h1
    have g0 : ys[0]? = some (ys[0]'(by rw [hyl]; decide)) := List.getElem?_eq_getElem _
    have g1 : ys[1]? = some (ys[1]'(by rw [hyl]; decide)) := List.getElem?_eq_getElem _
    obtain ⟨A, c, l, e0, a1, a2, a3, a4⟩ := read_values (h0.trans g0)
    obtain ⟨B, d, m, e1, b1, b2, b3, b4, b5⟩ := read_lists (h1.trans g1)
    simp at e0 e1
    exact ⟨A, c, B, d, ⟨l, m⟩, by rw [e0, e1], ⟨⟨⟨rfl, a1, a2, a3⟩, b1⟩, b2, b3⟩, Nat.le_trans a3 a4, Nat.le_trans b3 b4, b5⟩
end
section
variable {H : Type} {enc : TypeId × Value → H} {w : World} {base b0 : Nat} {spare : Nat → Bool} {held : Bool} {r : Reach} {v : Value} {d : DataW H} {p : List MemPlace}
set_option maxRecDepth 100000 in
theorem open_memory (hv : Value.okWide Tryz.prog w r b0 24 v) (h : DataW.Trod enc Tryz.prog w base spare held 24 v d p) :
    ∃ A cap, ∃ m : Ce.Mem, v = .agg #[.slice A m.length cap] ∧ MemV w A cap m ∧ Bgm m := by
  obtain ⟨cs, rfl, _⟩ := okWide_struct Tryz.underlying24 hv
  obtain ⟨fuel, hf⟩ := h
  obtain ⟨A, cap, m, h1, h2, h3, h4, h5, h6⟩ := read_memory hf
  refine ⟨A, cap, m, ?_, ⟨h2, h3, h4⟩, h6⟩
  have : cs = #[.slice A m.length cap] := by rw [← Array.toList_inj]; simpa [Value.cells] using h1
  rw [this]
set_option maxRecDepth 100000 in
theorem open_picture (hv : Value.okWide Tryz.prog w r b0 37 v) (h : DataW.Trod enc Tryz.prog w base spare held 37 v d p) :
    ∃ V cv C cc, ∃ q : Ce.Pic, v = .agg #[.slice V q.vals.length cv, .slice C q.cells.length cc] ∧ PicV w V cv C cc q ∧ Bgp q := by
  obtain ⟨cs, rfl, _⟩ := okWide_struct Tryz.underlying37 hv
  obtain ⟨fuel, hf⟩ := h
  obtain ⟨V, cv, C, cc, q, h1, h2, h3⟩ := read_picture hf
  refine ⟨V, cv, C, cc, q, ?_, h2, h3⟩
  have : cs = #[.slice V q.vals.length cv, .slice C q.cells.length cc] := by rw [← Array.toList_inj]; simpa [Value.cells] using h1
  rw [this]
end
end Go.Proofs.YtjldkndalcellaaGreatDoor

namespace Ce
/-- few enough structures, cells and reads -/
def Thin (m : Mem) : Prop := m.length ≤ 14 ∧ ∀ (i : Nat) (s : St), m[i]? = some s → s.cells.length ≤ 104 ∧ s.wait.length ≤ 20
end Ce
namespace Go.Proofs.YtjldkndalcellaaGreatDoor
open Go.RowKit Go.El

theorem thin_sz {m : Ce.Mem} (h : Ce.Thin m) : Sz m := ⟨by have := h.1; omega, fun i s hs => by have := h.2 i s hs; omega⟩
set_option maxRecDepth 100000 in
set_option maxHeartbeats 4000000 in
theorem thin_any (m : Ce.Mem) (hm : Bgm m) (A : Option Addr) (cap : Nat) (w : World) (h : MemAt w A m) :
    Calls Tryz.prog 9 #[.agg #[.slice A m.length cap]] w fun e w' => (∃ b, e = .returned (.bool b) ∧ (b = true → Ce.Thin m)) ∧ Below w.heap.size w w' := by
  have hm0 := hm.many
  have hml : (m.length : Int) ≤ 9223372036854775807 := by unfold maxLen at hm0; omega
  have hb1 : Below w.heap.size w (w.alloc (Obj.cells #[.slice A m.length cap] 24)) := (Below.refl _ _).alloc (Nat.le_refl _) _
  have HS0 := Lib.hid ((h.stay.step hb1).and (box1 (W := w) (v := .slice A m.length cap) (t := 24)))
  have HB0 := Lib.hid hb1
  have HT : Hid (¬ 14 < m.length → (∀ (i : Nat) (s : Ce.St), i < m.length → m[i]? = some s → s.cells.length ≤ 104 ∧ s.wait.length ≤ 20) → Ce.Thin m) := Lib.hid fun h1 h2 => ⟨by omega, fun i s hs => h2 i s (List.getElem?_eq_some_iff.1 hs).1 hs⟩
  generalize hn : m.length = n at *
  have HN := Lib.hid hn
  generalize hTT : Ce.Thin m = T at *
  clear hm h hb1 hn hm0 hTT
  by_cases h14 : 14 < n
  · have h14' : (14 : Int) < n := by omega
    obtain ⟨mA, x0⟩ := HS0.out.at_
    clear mA
    go_enter Tryz.func9, Tryz.ntmps9
    go_wp2
    go_ret
    exact ⟨⟨false, rfl, nofun⟩, HB0.out⟩
  have h14' : ¬ (14 : Int) < n := by omega
  have HT := Lib.hid (HT.out h14)
  go_enter Tryz.func9, Tryz.ntmps9
  go_wp2_with fail
  go_loopw [3] (fun i wr => ∃ k : Nat, k ≤ n ∧ i = .int .i64 k ∧ Hid (∀ (i : Nat) (s : Ce.St), i < k → m[i]? = some s → s.cells.length ≤ 104 ∧ s.wait.length ≤ 20) ∧ Hid (Stay (fun V => MemAt V A m ∧ V.cell? ⟨w.heap.size, 0, none⟩ = some (.slice A n cap)) wr) ∧ Hid (Below w.heap.size w wr)) (fun i _ => n - (intOf i).toNat)
  case atStart => exact ⟨0, Nat.zero_le _, rfl, Lib.hid fun i s hi => by omega, HS0, HB0⟩
  case round =>
    clear HS0 HB0
    obtain ⟨k, hk, rfl, HK, HS, HB⟩ := hrel
    obtain ⟨mA, x0⟩ := HS.out.at_
    by_cases hlt : k < n
    · have hlt' : (k : Int) < n := by omega
      obtain ⟨s, hs⟩ : ∃ x, m[k]? = some x := ⟨_, List.getElem?_eq_getElem (by rw [HN.out]; exact hlt)⟩
      obtain ⟨b1, o1, A1, c1, A2, c2, rfl, hz1, x1, x2, P1, P2⟩ := mA.at' hs
      have HK1 : Hid (s.cells.length ≤ 104 → s.wait.length ≤ 20 → ∀ (i : Nat) (s : Ce.St), i < k + 1 → m[i]? = some s → s.cells.length ≤ 104 ∧ s.wait.length ≤ 20) := Lib.hid fun h1 h2 i t hi ht => by
        by_cases hik : i < k
        · exact HK.out i t hik ht
        · obtain rfl : i = k := by omega
          rw [hs] at ht
          injection ht with ht
          subst ht
          exact ⟨h1, h2⟩
      clear mA hs P1 P2 HK
      generalize s.cells.length = q at *
      generalize s.wait.length = r at *
      by_cases c24 : 24 < q
      · have c24' : (24 : Int) < q := by omega
        by_cases c100 : q ≤ 100
        · have c100' : (q : Int) ≤ 100 := by omega
          go_wp2
          go_ret
          exact ⟨⟨false, rfl, nofun⟩, HB.out⟩
        · have c100' : decide ((q : Int) ≤ 100) = false := decide_eq_false (by omega)
          by_cases c104 : 104 < q
          · have c104' : (104 : Int) < q := by omega
            go_wp2
            go_ret
            exact ⟨⟨false, rfl, nofun⟩, HB.out⟩
          · have c104' : decide ((104 : Int) < q) = false := decide_eq_false (by omega)
            by_cases c20 : 20 < r
            · have c20' : (20 : Int) < r := by omega
              go_wp2
              go_ret
              exact ⟨⟨false, rfl, nofun⟩, HB.out⟩
            · have c20' : decide ((20 : Int) < r) = false := decide_eq_false (by omega)
              have HK2 := Lib.hid (HK1.out (by omega) (by omega))
              go_wp2
              go_roundw
              case rel => exact ⟨k + 1, by omega, by go_num, HK2, HS, HB⟩
              case measure => simp [intOf]; omega
      · have c24' : decide ((24 : Int) < q) = false := decide_eq_false (by omega)
        have c104' : decide ((104 : Int) < q) = false := decide_eq_false (by omega)
        by_cases c20 : 20 < r
        · have c20' : (20 : Int) < r := by omega
          go_wp2
          go_ret
          exact ⟨⟨false, rfl, nofun⟩, HB.out⟩
        · have c20' : decide ((20 : Int) < r) = false := decide_eq_false (by omega)
          have HK2 := Lib.hid (HK1.out (by omega) (by omega))
          go_wp2
          go_roundw
          case rel => exact ⟨k + 1, by omega, by go_num, HK2, HS, HB⟩
          case measure => simp [intOf]; omega
    · have hlt' : ¬ (k : Int) < n := by omega
      have HE := Lib.hid (HT.out (fun i s hi => HK.out i s (by omega)))
      clear mA
      go_wp2
      go_ret
      exact ⟨by first | exact ⟨true, rfl, fun _ => HE.out⟩ | exact Or.inr ⟨rfl, HE.out⟩, HB.out⟩
end Go.Proofs.YtjldkndalcellaaGreatDoor
