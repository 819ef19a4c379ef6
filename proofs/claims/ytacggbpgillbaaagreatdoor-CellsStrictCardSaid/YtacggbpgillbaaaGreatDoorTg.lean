/- Layer 6, the program: the map of operations. -/
import Derived.Test.YtacggbpgillbaaaGreatDoorTf
import Derived.Test.YtacggbpgillbaaaGreatDoorMa
import Derived.Deep.DeepMust
namespace Go.El
open Go.RowKit Go.MapKept Go.ChangeMaps
/-- an entry of a map's literal, at the operation -/
theorem wpList_insert_new {P : Program} (w : World) {ops : Array Oper} {rest : List Oper} {o : Oper} {a : Act} {Q : Exit → Act → World → Prop} (hg : o.guard = none) (m x v : Operand) (t : TypeId) (hop : o.op = Op.insert t m x v)
    (k e : TypeId) (d : TypeDesc) (ht : P.underlying t = some (.map k e)) (hk : P.underlying k = some d) (b : Nat) (l : List (Value × Value)) (hm : a.eval m = .map (some b)) (hown : MapIs w d b l) (key val : Value) (hx : a.eval x = key) (hv : a.eval v = val) (hkey : IsKey d key) (hno : ∀ p ∈ l, p.1 ≠ key)
    (hK : ∀ w', MapIs w' d b (l ++ [(key, val)]) → w.grownBy w' (some b) → wpList P ops Q rest (a.put o.dst undef) w') : wpList P ops Q (o :: rest) a w := by
  refine wpList_plain hg fun K' hK' => ?_
  obtain ⟨w', hrun, r1, r2⟩ := run_update_new (P := P) (v := val) hown ht hk hkey hno
  unfold Oper.wp
  simp [execOp, hop, hm, hx, hv, hrun, Result.andThen]
  exact hK' _ _ (hK w' r1 r2)
end Go.El
namespace Go.Proofs.YtacggbpgillbaaaGreatDoor
open Go.RowKit Go.El

def U8E : El Int := { cells := fun n => [.int .u8 n], k := 1, pos := by decide, len := fun _ => rfl, one := fun x u hu => by simp at hu; subst hu; rfl }
/-- an operation: its name, its operands, its kinds, its function -/
structure Spec where
  name : List UInt8
  n : Int
  kinds : List Int
  fn : Nat
def Spec.key (s : Spec) : Value := .string ⟨s.name.toArray⟩
def EntryIs (W : World) (p : Value × Value) (s : Spec) : Prop := ∃ g, p = (s.key, .agg #[.int .i64 s.n, .slice (some ⟨g, 0, none⟩) s.kinds.length s.kinds.length, .func (.func s.fn) #[] #[]]) ∧ U8E.In W g 0 s.kinds ∧ g < W.heap.size
theorem EntryIs.below {W W' : World} {p : Value × Value} {s : Spec} {B : Nat} (h : EntryIs W p s) (hb : Below B W W') (hB : ∀ g, p = (s.key, .agg #[.int .i64 s.n, .slice (some ⟨g, 0, none⟩) s.kinds.length s.kinds.length, .func (.func s.fn) #[] #[]]) → g < B) (hz : W.heap.size ≤ W'.heap.size) : EntryIs W' p s := by
  obtain ⟨g, h1, h2, h3⟩ := h
  exact ⟨g, h1, h2.below hb (fun _ => hB g h1), by omega⟩
theorem EntryIs.later {W W' : World} {p : Value × Value} {s : Spec} (h : EntryIs W p s) (hb : Below W.heap.size W W') : EntryIs W' p s := by
  obtain ⟨g, h1, h2, h3⟩ := h
  exact ⟨g, h1, h2.below hb (fun _ => h3), Nat.lt_of_lt_of_le h3 hb.size⟩
/-- what a block of cells is, no map can be -/
theorem EntryIs.grown {W W' : World} {p : Value × Value} {s : Spec} {b : Nat} (h : EntryIs W p s) (hg : W.grownBy W' (some b)) (hb : ∃ es c, W.heap[b]? = some (.map es c)) (hk : s.kinds ≠ []) : EntryIs W' p s := by
  obtain ⟨g, h1, h2, h3⟩ := h
  obtain ⟨es, c, hb⟩ := hb
  refine ⟨g, h1, h2.grown hg ?_, Nat.lt_of_lt_of_le h3 hg.size⟩
  intro e
  obtain rfl : g = b := by simpa using e
  obtain ⟨x, r, hx⟩ := List.exists_cons_of_ne_nil hk
  have hc := h2 0 x (by rw [hx]; rfl) 0 (.int .u8 x) rfl
  simp [World.cell?, hb] at hc
def EntriesIs (W : World) : List (Value × Value) → List Spec → Prop
  | [], [] => True
  | p :: L, s :: S => EntryIs W p s ∧ EntriesIs W L S
  | _, _ => False
theorem EntriesIs.map {W W' : World} : ∀ {L : List (Value × Value)} {S : List Spec}, EntriesIs W L S → (∀ p s, s ∈ S → EntryIs W p s → EntryIs W' p s) → EntriesIs W' L S
  | [], [], _, _ => trivial
  | p :: _, s :: _, h, f => ⟨f p s (.head _) h.1, EntriesIs.map h.2 fun p s hs => f p s (.tail _ hs)⟩
  | [], _ :: _, h, _ => h.elim
  | _ :: _, [], h, _ => h.elim
theorem EntriesIs.snoc {W : World} {p : Value × Value} {s : Spec} (hp : EntryIs W p s) : ∀ {L : List (Value × Value)} {S : List Spec}, EntriesIs W L S → EntriesIs W (L ++ [p]) (S ++ [s])
  | [], [], _ => ⟨hp, trivial⟩
  | _ :: _, _ :: _, h => ⟨h.1, EntriesIs.snoc hp h.2⟩
  | [], _ :: _, h => h.elim
  | _ :: _, [], h => h.elim
theorem EntriesIs.key {W : World} {p : Value × Value} : ∀ {L : List (Value × Value)} {S : List Spec}, EntriesIs W L S → p ∈ L → ∃ s ∈ S, EntryIs W p s
  | x :: L, s :: S, h, hp => by
    cases hp with
    | head => exact ⟨s, .head _, h.1⟩
    | tail _ hp => obtain ⟨t, ht, h2⟩ := EntriesIs.key h.2 hp; exact ⟨t, .tail _ ht, h2⟩
  | [], _, _, hp => by cases hp
  | _ :: _, [], h, _ => h.elim
theorem EntriesIs.at_ {W : World} {s : Spec} : ∀ {L : List (Value × Value)} {S : List Spec}, EntriesIs W L S → s ∈ S → ∃ p ∈ L, EntryIs W p s
  | x :: L, t :: S, h, hp => by
    cases hp with
    | head => exact ⟨x, .head _, h.1⟩
    | tail _ hp => obtain ⟨t, ht, h2⟩ := EntriesIs.at_ h.2 hp; exact ⟨t, .tail _ ht, h2⟩
  | _, [], _, hp => by cases hp
  | [], _ :: _, h, _ => h.elim
theorem EntryIs.key {W : World} {p : Value × Value} {s : Spec} (h : EntryIs W p s) : p.1 = s.key := by
  obtain ⟨g, rfl, _⟩ := h
  rfl
theorem key_inj {s t : Spec} : s.key = t.key ↔ s.name = t.name := by
  unfold Spec.key
  constructor
  · intro h
    injection h with h
    injection h with h
    simpa using h
  · intro h; rw [h]
/-- a map of operations -/
structure OpsAt (W : World) (b : Nat) (S : List Spec) : Prop where
  ex : ∃ L, MapIs W .string b L ∧ EntriesIs W L S
  kinds : ∀ s ∈ S, s.kinds ≠ []
  one : (S.map Spec.name).Nodup
theorem OpsAt.lt {W : World} {b : Nat} {S : List Spec} (h : OpsAt W b S) : b < W.heap.size := by
  obtain ⟨L, h1, _⟩ := h.ex
  exact h1.lt
theorem OpsAt.below {W W' : World} {b : Nat} {S : List Spec} (h : OpsAt W b S) (hb : Below W.heap.size W W') : OpsAt W' b S := by
  obtain ⟨⟨L, h1, h2⟩, h3, h4⟩ := h
  exact ⟨⟨L, h1.below hb h1.lt, h2.map fun p s _ h => h.later hb⟩, h3, h4⟩
theorem OpsAt.stay {W : World} {b : Nat} {S : List Spec} (h : OpsAt W b S) : Stay (fun W => OpsAt W b S) W := fun _ hb => h.below hb
theorem OpsAt.isMap {W : World} {b : Nat} {S : List Spec} (h : OpsAt W b S) : ∃ es c, W.heap[b]? = some (.map es c) := by
  obtain ⟨L, ⟨es, c, h1, _⟩, _⟩ := h.ex
  exact ⟨es, c, h1⟩
theorem OpsAt.nil (W : World) : OpsAt (W.alloc (.map #[] 0)) W.heap.size [] := ⟨⟨[], MapIs.made W _, trivial⟩, by simp, by simp⟩
/-- one more: what is needed of the store, and what it leaves -/
theorem OpsAt.snoc {W W' : World} {b : Nat} {S : List Spec} {s : Spec} {L : List (Value × Value)} {g : Nat} (h2 : EntriesIs W L S) (hk : ∀ s ∈ S, s.kinds ≠ []) (h1 : (S.map Spec.name).Nodup) (hs : s.kinds ≠ []) (hn : ∀ t ∈ S, t.name ≠ s.name)
    (hg : U8E.In W g 0 s.kinds) (hgl : g < W.heap.size) (hm : ∃ es c, W.heap[b]? = some (.map es c))
    (hown : MapIs W' .string b (L ++ [(s.key, .agg #[.int .i64 s.n, .slice (some ⟨g, 0, none⟩) s.kinds.length s.kinds.length, .func (.func s.fn) #[] #[]])])) (hgr : W.grownBy W' (some b)) : OpsAt W' b (S ++ [s]) := by
  have he : EntryIs W (s.key, .agg #[.int .i64 s.n, .slice (some ⟨g, 0, none⟩) s.kinds.length s.kinds.length, .func (.func s.fn) #[] #[]]) s := ⟨g, rfl, hg, hgl⟩
  refine ⟨⟨_, hown, EntriesIs.snoc (he.grown hgr hm hs) (h2.map fun p t ht h => h.grown hgr hm (hk t ht))⟩, ?_, ?_⟩
  · intro t ht
    rcases List.mem_append.1 ht with ht | ht
    · exact hk t ht
    · simp at ht; subst ht; exact hs
  · rw [List.map_append, List.nodup_append]
    refine ⟨h1, by simp, ?_⟩
    intro a ha b hb
    simp at hb
    subst hb
    obtain ⟨t, ht, rfl⟩ := List.mem_map.1 ha
    exact hn t ht
theorem OpsAt.fresh {W : World} {S : List Spec} {s : Spec} {L : List (Value × Value)} (h2 : EntriesIs W L S) (hn : ∀ t ∈ S, t.name ≠ s.name) : ∀ p ∈ L, p.1 ≠ s.key := by
  intro p hp e
  obtain ⟨t, ht, he⟩ := h2.key hp
  rw [he.key, key_inj] at e
  exact hn t ht e
end Go.Proofs.YtacggbpgillbaaaGreatDoor
