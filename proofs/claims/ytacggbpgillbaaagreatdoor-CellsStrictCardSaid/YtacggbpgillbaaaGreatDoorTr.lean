/- Layer 6, the program: new numbers of structures: blocks of one kind kept, the state of a drawing, number. -/
import Derived.Test.YtacggbpgillbaaaGreatDoorTn
import Derived.Test.YtacggbpgillbaaaGreatDoorTq
import Derived.Test.YtacggbpgillbaaaGreatDoorMa
namespace Go.El
open Go.RowKit Go.MapKept
/-- all blocks of one kind of elements are kept -/
def KeepsT (T : TypeId) (w w' : World) : Prop := ∀ (i : Nat) (c : Array Value) (f : Nat × Nat), w.heap[i]? = some (.cells c T f) → w'.heap[i]? = some (.cells c T f)
theorem KeepsT.refl (T : TypeId) (w : World) : KeepsT T w w := fun _ _ _ h => h
theorem KeepsT.trans {T : TypeId} {a b c : World} (h : KeepsT T a b) (k : KeepsT T b c) : KeepsT T a c := fun i x f hi => k i x f (h i x f hi)
theorem KeepsT.below {T : TypeId} {w w' : World} (h : Below w.heap.size w w') : KeepsT T w w' := fun i _ _ hi => (h.block i (Array.getElem?_eq_some_iff.1 hi).1).trans hi
theorem KeepsT.grown {T : TypeId} {w w' : World} {row : Option Nat} (h : w.grownBy w' row) (hr : ∀ r c f, row = some r → w.heap[r]? ≠ some (.cells c T f)) : KeepsT T w w' := fun i c f hi => by
  rw [h.block i (Array.getElem?_eq_some_iff.1 hi).1 (fun e => hr i c f e.symm hi)]
  exact hi
theorem KeepsT.set {T : TypeId} {w : World} {a : Addr} {v : Value} (hr : ∀ c f, w.heap[a.block]? ≠ some (.cells c T f)) : KeepsT T w (w.setCell a v) := fun i c f hi => by
  rw [RowKit.Below.heap_setCell _ _ _ _ (fun e => hr c f (by rw [← e]; exact hi))]
  exact hi
theorem Own.keepsT {α : Type} {K : El α} {T : TypeId} {w w' : World} {base cap : Nat} {A : Option Addr} {l : List α} (h : K.Own T w base A cap l) (hk : KeepsT T w w') : K.Own T w' base A cap l := by
  refine ⟨h.1, ?_⟩
  rcases h.2 with h0 | ⟨g, cap', cur, hv, hb, hh, r⟩
  · exact .inl h0
  · exact .inr ⟨g, cap', cur, hv, hb, hk _ _ _ hh, r⟩
/-- the block of a row of the call's own -/
theorem Own.blk {α : Type} {K : El α} {T : TypeId} {w : World} {base cap : Nat} {A : Option Addr} {l : List α} (h : K.Own T w base A cap l) {g : Nat} (hg : (Value.slice A l.length cap).ownBlock = some g) : ∃ c, w.heap[g]? = some (.cells c T (0, 0)) := by
  rcases h.2 with ⟨hv, _⟩ | ⟨g', cap', cur, hv, _, hh, _⟩
  · rw [hv] at hg; cases hg
  · rw [hv] at hg
    obtain rfl : g' = g := by simpa [Value.ownBlock] using hg
    exact ⟨cur, hh⟩
theorem Own.ne_blk {α : Type} {K : El α} {T : TypeId} {w : World} {base cap : Nat} {A : Option Addr} {l : List α} (h : K.Own T w base A cap l) {p : Nat} {t : TypeId} {c : Array Value} {f : Nat × Nat} (hp : w.heap[p]? = some (.cells c t f)) (hne : t ≠ T) : some p ≠ (Value.slice A l.length cap).ownBlock := by
  intro e
  obtain ⟨c', hc⟩ := h.blk e.symm
  rw [hp] at hc
  injection hc with hc
  injection hc with _ ht
  exact hne ht
theorem Own.ne_map {α : Type} {K : El α} {T : TypeId} {w : World} {base cap : Nat} {A : Option Addr} {l : List α} (h : K.Own T w base A cap l) {b : Nat} {d : TypeDesc} {L : List (Value × Value)} (hm : MapIs w d b L) : some b ≠ (Value.slice A l.length cap).ownBlock := by
  intro e
  obtain ⟨c', hc⟩ := h.blk e.symm
  obtain ⟨es, ck, hb, _⟩ := hm
  rw [hb] at hc
  injection hc with hc
  cases hc
theorem Own.kept' {α : Type} {K : El α} {T : TypeId} {w w' : World} {base cap : Nat} {A : Option Addr} {l : List α} (h : K.Own T w base A cap l) {row : Option Nat} (hg : w.grownBy w' row) (hne : ∀ g, row = some g → some g ≠ (Value.slice A l.length cap).ownBlock) : K.Own T w' base A cap l := by
  refine h.kept hg ?_
  rcases hv : (Value.slice A l.length cap).ownBlock with _ | g
  · exact .inl rfl
  · right
    intro e
    exact hne g e.symm hv.symm
end Go.El
namespace Ce
theorem renum_append : ∀ (a b : List V) (met : List Int), renum (a ++ b) met = ((renum a met).1 ++ (renum b (renum a met).2).1, (renum b (renum a met).2).2)
  | [], b, met => rfl
  | v :: r, b, met => by
    rw [List.cons_append, renum, renum]
    split
    · rw [renum_append r b met]; rfl
    · rw [renum_append r b]; rfl
theorem renum_len : ∀ (a : List V) (met : List Int), (renum a met).1.length = a.length
  | [], _ => rfl
  | v :: r, met => by
    rw [renum]
    split
    · simp [renum_len r]
    · simp [renum_len r]
/-- what is met of a value -/
def meetV (v : V) (met : List Int) : List Int := if v.k = 4 then meet v.n met else met
def numV (v : V) (met : List Int) : V := if v.k = 4 then vref (place v.n met) else v
theorem renum_one (v : V) (met : List Int) : renum [v] met = ([numV v met], meetV v met) := by
  rw [renum, numV, meetV]
  by_cases h : v.k = 4
  · rw [if_neg (fun hn => hn h), if_pos h, if_pos h, meet, h]; rfl
  · rw [if_pos h, if_neg h, if_neg h]; rfl
theorem renum_step {l : List V} {k : Nat} {v : V} (hv : l[k]? = some v) (met : List Int) : renum (l.take (k + 1)) met = ((renum (l.take k) met).1 ++ [numV v (renum (l.take k) met).2], meetV v (renum (l.take k) met).2) := by
  rw [List.take_add_one, hv, renum_append, Option.toList_some, renum_one]
theorem meetV_ok {many : Nat} {met : List Int} (h : Below many met) (hd : met.Nodup) {v : V} (hv : isValue v many = true) : Below many (meetV v met) ∧ (meetV v met).Nodup := by
  unfold meetV
  by_cases h4 : v.k = 4
  · rw [if_pos h4]
    unfold isValue at hv
    rw [if_neg (by omega), if_neg (by omega), if_neg (by omega), if_neg (by omega), if_pos h4] at hv
    simp at hv
    exact ⟨meet_below h hv.1 (by omega), meet_nodup hd _⟩
  · rw [if_neg h4]; exact ⟨h, hd⟩
theorem renum_ok {many : Nat} : ∀ (l : List V) (met : List Int), Below many met → met.Nodup → areValues l many = true → Below many (renum l met).2 ∧ (renum l met).2.Nodup
  | [], met, h, hd, _ => ⟨h, hd⟩
  | v :: r, met, h, hd, hv => by
    have e : v :: r = [v] ++ r := rfl
    rw [e, renum_append, renum_one]
    unfold areValues at hv
    rw [List.all_cons, Bool.and_eq_true] at hv
    obtain ⟨h1, h2⟩ := meetV_ok h hd hv.1
    exact renum_ok r _ h1 h2 hv.2
end Ce
namespace Go.Proofs.YtacggbpgillbaaaGreatDoor
open Go.RowKit Go.El

def nums (met : List Int) : List (Value × Value) := met.zipIdx.map fun x => (.int .i64 x.1, .int .i64 x.2)
theorem nums_mem {met : List Int} {p : Value × Value} : p ∈ nums met ↔ ∃ (n : Int) (i : Nat), met[i]? = some n ∧ p = (.int .i64 n, .int .i64 i) := by
  unfold nums
  rw [List.mem_map]
  constructor
  · rintro ⟨⟨n, i⟩, h, rfl⟩
    rw [List.mem_zipIdx_iff_getElem?] at h
    exact ⟨n, i, h, rfl⟩
  · rintro ⟨n, i, h, rfl⟩
    exact ⟨(n, i), by rw [List.mem_zipIdx_iff_getElem?]; exact h, rfl⟩
theorem nums_snoc (met : List Int) (n : Int) : nums (met ++ [n]) = nums met ++ [(.int .i64 n, .int .i64 met.length)] := by
  unfold nums
  rw [List.zipIdx_append, List.map_append]
  simp
/-- the state of a drawing -/
structure DrawAt (W : World) (base p b : Nat) (M : Option Addr) (cm : Nat) (met : List Int) : Prop where
  blk : Blk W p 174 #[.map (some b), .slice M met.length cm]
  map : MapIs W (.int .i64) b (nums met)
  own : IntE.Own 3 W base M cm met
  pb : base ≤ p
  bb : base ≤ b
theorem DrawAt.below {W W' : World} {base p b : Nat} {M : Option Addr} {cm : Nat} {met : List Int} (h : DrawAt W base p b M cm met) (hb : Below W.heap.size W W') : DrawAt W' base p b M cm met :=
  ⟨h.blk.below hb, h.map.below hb h.map.lt, h.own.below hb, h.pb, h.bb⟩
/-- a cell of a block of another kind is written -/
theorem DrawAt.set {W : World} {base p b : Nat} {M : Option Addr} {cm : Nat} {met : List Int} (h : DrawAt W base p b M cm met) {a : Addr} {v : Value} {c : Array Value} {T : TypeId} {f : Nat × Nat} (ha : W.heap[a.block]? = some (.cells c T f)) (h1 : T ≠ 174) (h2 : T ≠ 3) : DrawAt (W.setCell a v) base p b M cm met := by
  refine ⟨?_, ?_, ?_, h.pb, h.bb⟩
  · show (W.setCell a v).heap[p]? = _
    rw [RowKit.Below.heap_setCell _ _ _ _ (fun e => ?_)]
    · exact h.blk
    · have : W.heap[p]? = _ := h.blk
      rw [e, ha] at this
      injection this with this
      injection this with _ ht
      exact h1 ht
  · refine h.map.cell (fun e => ?_) v
    obtain ⟨es, ck, hb, _⟩ := h.map
    rw [e, ha] at hb
    injection hb with hb
    cases hb
  · exact h.own.keepsT (KeepsT.set (fun c' f' e => by
      rw [ha] at e
      injection e with e
      injection e with _ ht
      exact h2 ht))
theorem int_info : (Tryz.prog.info? 3).map (fun i => (i.zero, i.size, i.bytes)) = some (some (.int .i64 0), 1, 8) := by kernel_rfl
end Go.Proofs.YtacggbpgillbaaaGreatDoor
