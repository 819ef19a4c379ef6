/- Maps in a block of the call's own that are known entry by entry: look-ups, stores of new keys. It imports nothing of the program. Layer 6, the program: slices.IndexFunc, slices.ContainsFunc at values, structures, reads, whole numbers. -/
import Derived.Test.YtjldkndalcellaaGreatDoorYa
import Derived.Maps.OwnOps
import Derived.Test.YtjldkndalcellaaGreatDoorYc
import Derived.Shelf.RegionOpen
namespace Go.El
open Go.RowKit Go.MapKept Go.ChangeMaps

/-- a map in a block, known entry by entry -/
def MapIs (W : World) (d : TypeDesc) (b : Nat) (l : List (Value × Value)) : Prop :=
  ∃ es clock, W.heap[b]? = some (.map es clock) ∧ es.toList.map (fun e => (e.key, e.val)) = l ∧ ∀ e ∈ es.toList, IsKey d e.key
theorem MapIs.lt {W : World} {d : TypeDesc} {b : Nat} {l : List (Value × Value)} (h : MapIs W d b l) : b < W.heap.size := by
  obtain ⟨es, clock, hb, _⟩ := h
  exact (Array.getElem?_eq_some_iff.1 hb).1
theorem MapIs.made (W : World) (d : TypeDesc) : MapIs (W.alloc (.map #[] 0)) d W.heap.size [] := ⟨#[], 0, (heap_alloc W _).1, rfl, by simp⟩
theorem MapIs.below {W W' : World} {d : TypeDesc} {B b : Nat} {l : List (Value × Value)} (h : MapIs W d b l) (hb : Below B W W') (hlt : b < B) : MapIs W' d b l := by
  obtain ⟨es, clock, h1, h2⟩ := h
  exact ⟨es, clock, (hb.block b hlt).trans h1, h2⟩
theorem MapIs.stay {W : World} {d : TypeDesc} {b : Nat} {l : List (Value × Value)} (h : MapIs W d b l) : Stay (fun W => MapIs W d b l) W := fun _ hb => h.below hb h.lt
theorem MapIs.grown {W W' : World} {row : Option Nat} {d : TypeDesc} {b : Nat} {l : List (Value × Value)} (h : MapIs W d b l) (hg : W.grownBy W' row) (hne : some b ≠ row) : MapIs W' d b l := by
  have hlt := h.lt
  obtain ⟨es, clock, h1, h2⟩ := h
  exact ⟨es, clock, (hg.block b hlt hne).trans h1, h2⟩
theorem MapIs.cell {W : World} {d : TypeDesc} {b : Nat} {l : List (Value × Value)} (h : MapIs W d b l) {a : Addr} (ha : b ≠ a.block) (u : Value) : MapIs (W.setCell a u) d b l := by
  obtain ⟨es, clock, h1, h2⟩ := h
  exact ⟨es, clock, by rw [RowKit.Below.heap_setCell _ _ _ _ ha]; exact h1, h2⟩

variable {P : Program}
theorem run_lookup_none {W : World} {t k e : TypeId} {d : TypeDesc} {b : Nat} {l : List (Value × Value)} (h : MapIs W d b l) (ht : P.underlying t = some (.map k e)) (hk : P.underlying k = some d) {z : Value} (hz : (zeroValue e).run P W = .ok z W)
    {key : Value} (hkey : IsKey d key) (hno : ∀ p ∈ l, p.1 ≠ key) (ok : Bool) : (Instr.lookup t (.map (some b)) key ok).run P W = .ok (if ok then .tuple #[z, .bool false] else z) W := by
  obtain ⟨es, clock, hb, rfl, hks⟩ := h
  rcases findNow_spec hkey es.toList 0 hks with ⟨h1, _⟩ | ⟨j, x, _, h2, h3⟩
  · simp [Instr.lookup, run_underlying ht, MapKept.run_getObj_map hb, run_checkKey hk hkey, run_findKey hk h1, hz, Result.andThen]
  · exact absurd h3 (hno _ (List.mem_map.2 ⟨x, List.mem_of_getElem? h2, rfl⟩))
theorem run_lookup_some {W : World} {t k e : TypeId} {d : TypeDesc} {b : Nat} {l : List (Value × Value)} (h : MapIs W d b l) (ht : P.underlying t = some (.map k e)) (hk : P.underlying k = some d)
    {key v : Value} (hkey : IsKey d key) (hin : (key, v) ∈ l) (hone : ∀ p ∈ l, p.1 = key → p.2 = v) (ok : Bool) : (Instr.lookup t (.map (some b)) key ok).run P W = .ok (if ok then .tuple #[v, .bool true] else v) W := by
  obtain ⟨es, clock, hb, rfl, hks⟩ := h
  rcases findNow_spec hkey es.toList 0 hks with ⟨_, h2⟩ | ⟨j, x, h1, h2, h3⟩
  · obtain ⟨y, hy, e⟩ := List.mem_map.1 hin
    exact absurd (congrArg Prod.fst e) (h2 y hy)
  · have hv := hone _ (List.mem_map.2 ⟨x, List.mem_of_getElem? h2, rfl⟩) h3
    dsimp only at hv
    subst hv
    simp [Instr.lookup, run_underlying ht, MapKept.run_getObj_map hb, run_checkKey hk hkey, run_findKey hk h1, Result.andThen]
theorem run_update_new {W : World} {t k e : TypeId} {d : TypeDesc} {b : Nat} {l : List (Value × Value)} (h : MapIs W d b l) (ht : P.underlying t = some (.map k e)) (hk : P.underlying k = some d)
    {key v : Value} (hkey : IsKey d key) (hno : ∀ p ∈ l, p.1 ≠ key) : ∃ W', (Instr.mapUpdate t (.map (some b)) key v).run P W = .ok () W' ∧ MapIs W' d b (l ++ [(key, v)]) ∧ W.grownBy W' (some b) := by
  obtain ⟨es, clock, hb, rfl, hks⟩ := h
  rcases findNow_spec hkey es.toList 0 hks with ⟨h1, _⟩ | ⟨j, x, _, h2, h3⟩
  · refine ⟨setBlock W b (.map (es.push ⟨key, v, clock⟩) (clock + 1)), ?_, ⟨_, _, heap_setBlock_same hb _, by simp, ?_⟩, ⟨rfl, rfl, rfl, by simp [setBlock], fun i _ hi => heap_setBlock_other hb _ (fun e => hi (by rw [e]))⟩⟩
    · simp [Instr.mapUpdate, run_underlying ht, MapKept.run_getObj_map hb, run_checkKey hk hkey, run_findKey hk h1, MapKept.run_setObj_map _ hb, Result.andThen, setBlock]
    · intro x hx
      simp only [Array.toList_push, List.mem_append, List.mem_singleton] at hx
      rcases hx with hx | rfl
      · exact hks x hx
      · exact hkey
  · exact absurd h3 (hno _ (List.mem_map.2 ⟨x, List.mem_of_getElem? h2, rfl⟩))

/-- a store of a new key, at the operation -/
theorem wpList_update_new (w : World) {ops : Array Oper} {rest : List Oper} {o : Oper} {a : Act} {Q : Exit → Act → World → Prop} (hg : o.guard = none) (m x v : Operand) (t : TypeId) (hop : o.op = Op.mapUpdate t m x v)
    (k e : TypeId) (d : TypeDesc) (ht : P.underlying t = some (.map k e)) (hk : P.underlying k = some d) (b : Nat) (l : List (Value × Value)) (hm : a.eval m = .map (some b)) (hown : MapIs w d b l) (key val : Value) (hx : a.eval x = key) (hv : a.eval v = val) (hkey : IsKey d key) (hno : ∀ p ∈ l, p.1 ≠ key)
    (hK : ∀ w', MapIs w' d b (l ++ [(key, val)]) → w.grownBy w' (some b) → wpList P ops Q rest (a.put o.dst undef) w') : wpList P ops Q (o :: rest) a w := by
  refine wpList_plain hg fun K' hK' => ?_
  obtain ⟨w', hrun, r1, r2⟩ := run_update_new (P := P) (v := val) hown ht hk hkey hno
  unfold Oper.wp
  simp [execOp, hop, hm, hx, hv, hrun, Result.andThen]
  exact hK' _ _ (hK w' r1 r2)
theorem wp_update_new (w : World) {o : Oper} {a : Act} {KK : Act → World → Prop} {Q : Exit → Act → World → Prop} (m x v : Operand) (t : TypeId) (hop : o.op = Op.mapUpdate t m x v)
    (k e : TypeId) (d : TypeDesc) (ht : P.underlying t = some (.map k e)) (hk : P.underlying k = some d) (b : Nat) (l : List (Value × Value)) (hm : a.eval m = .map (some b)) (hown : MapIs w d b l) (key val : Value) (hx : a.eval x = key) (hv : a.eval v = val) (hkey : IsKey d key) (hno : ∀ p ∈ l, p.1 ≠ key)
    (hK : ∀ w', MapIs w' d b (l ++ [(key, val)]) → w.grownBy w' (some b) → KK (a.put o.dst undef) w') : Oper.wp P o a w KK Q := by
  obtain ⟨w', hrun, r1, r2⟩ := run_update_new (P := P) (v := val) hown ht hk hkey hno
  unfold Oper.wp
  simp [execOp, hop, hm, hx, hv, hrun, Result.andThen]
  exact hK w' r1 r2
theorem wpList_lookup_some (w : World) {ops : Array Oper} {rest : List Oper} {o : Oper} {a : Act} {Q : Exit → Act → World → Prop} (hg : o.guard = none) (m x : Operand) (t : TypeId) (ok : Bool) (hop : o.op = Op.lookup t m x ok)
    (k e : TypeId) (d : TypeDesc) (ht : P.underlying t = some (.map k e)) (hk : P.underlying k = some d) (b : Nat) (l : List (Value × Value)) (hm : a.eval m = .map (some b)) (hown : MapIs w d b l) (key v : Value) (hx : a.eval x = key) (hkey : IsKey d key) (hin : (key, v) ∈ l) (hone : ∀ p ∈ l, p.1 = key → p.2 = v)
    (hK : wpList P ops Q rest (a.put o.dst (if ok then .tuple #[v, .bool true] else v)) w) : wpList P ops Q (o :: rest) a w := by
  refine wpList_plain hg fun K' hK' => ?_
  have hrun := run_lookup_some (P := P) hown ht hk hkey hin hone ok
  unfold Oper.wp
  simp [execOp, hop, hm, hx, hrun, Result.andThen]
  exact hK' _ _ hK
theorem wpList_lookup_none (w : World) {ops : Array Oper} {rest : List Oper} {o : Oper} {a : Act} {Q : Exit → Act → World → Prop} (hg : o.guard = none) (m x : Operand) (t : TypeId) (ok : Bool) (hop : o.op = Op.lookup t m x ok)
    (k e : TypeId) (d : TypeDesc) (ht : P.underlying t = some (.map k e)) (hk : P.underlying k = some d) (z : Value) (hz : (zeroValue e).run P w = .ok z w) (b : Nat) (l : List (Value × Value)) (hm : a.eval m = .map (some b)) (hown : MapIs w d b l) (key : Value) (hx : a.eval x = key) (hkey : IsKey d key) (hno : ∀ p ∈ l, p.1 ≠ key)
    (hK : wpList P ops Q rest (a.put o.dst (if ok then .tuple #[z, .bool false] else z)) w) : wpList P ops Q (o :: rest) a w := by
  refine wpList_plain hg fun K' hK' => ?_
  have hrun := run_lookup_none (P := P) hown ht hk hz hkey hno ok
  unfold Oper.wp
  simp [execOp, hop, hm, hx, hrun, Result.andThen]
  exact hK' _ _ hK
end Go.El

namespace Ce
/-- the number of the first element that a test takes -/
def idxK {α : Type} (p : α → Bool) : List α → Nat → Option Nat
  | [], _ => none
  | x :: r, i => if p x then some i else idxK p r (i + 1)
theorem idxK_at {α : Type} {p : α → Bool} {l : List α} {k : Nat} {x : α} (h : l[k]? = some x) : idxK p (l.drop k) k = if p x then some k else idxK p (l.drop (k + 1)) (k + 1) := by
  obtain ⟨hk, e⟩ := List.getElem?_eq_some_iff.1 h
  rw [List.drop_eq_getElem_cons hk, idxK, e]
theorem idxK_any {α : Type} (p : α → Bool) : ∀ (l : List α) (i : Nat), (idxK p l i).isSome = l.any p
  | [], _ => rfl
  | x :: r, i => by
    rw [idxK, List.any_cons]
    cases h : p x with
    | true => simp
    | false => simpa using idxK_any p r (i + 1)
theorem idxK_find {α : Type} (p : α → Bool) : ∀ (l : List α) (i : Nat), match idxK p l i with
    | none => l.find? p = none
    | some n => i ≤ n ∧ n < i + l.length ∧ ∃ x, l[n - i]? = some x ∧ l.find? p = some x
  | [], _ => rfl
  | x :: r, i => by
    rw [idxK, List.find?_cons]
    cases h : p x with
    | true => exact ⟨Nat.le_refl _, by simp, x, by simp, rfl⟩
    | false =>
      have ih := idxK_find p r (i + 1)
      simp only [Bool.false_eq_true, if_false]
      cases hr : idxK p r (i + 1) with
      | none => rw [hr] at ih; exact ih
      | some n =>
        rw [hr] at ih
        obtain ⟨h1, h2, y, h3, h4⟩ := ih
        refine ⟨by omega, by simp only [List.length_cons]; omega, y, ?_, h4⟩
        rw [show n - i = (n - (i + 1)) + 1 by omega, List.getElem?_cons_succ]
        exact h3
theorem not_any_not {α : Type} (p : α → Bool) (l : List α) : (!l.any fun x => !p x) = l.all p := by
  rw [List.not_any_eq_all_not]
  simp
end Ce
namespace Go.Proofs.YtjldkndalcellaaGreatDoor
open Go.RowKit Go.El

def optV : Option Nat → Int
  | none => -1
  | some n => n
/-- structures, their handles beside what they are -/
def StE2 : El ((Sl × Sl) × Ce.St) := { cells := fun h => [h.1.1.val, h.1.2.val], k := 2, pos := by decide, len := fun _ => rfl, one := fun x u hu => by simp at hu; rcases hu with rfl | rfl <;> rfl }
theorem IntE.at1 {w : World} {b o : Nat} {l : List Int} (h : IntE.In w b o l) {k : Nat} {p : Int} (hp : l[k]? = some p) : w.cell? ⟨b, o + k * 1, none⟩ = some (.int .i64 p) := h k p hp 0 _ rfl
theorem StE2.at2 {w : World} {b o : Nat} {l : List ((Sl × Sl) × Ce.St)} (h : StE2.In w b o l) {k : Nat} {p : (Sl × Sl) × Ce.St} (hp : l[k]? = some p) :
    w.cell? ⟨b, o + k * 2, none⟩ = some (.slice p.1.1.A p.1.1.n p.1.1.c) ∧ w.cell? ⟨b, o + k * 2 + 1, none⟩ = some (.slice p.1.2.A p.1.2.n p.1.2.c) := ⟨h k p hp 0 _ rfl, h k p hp 1 _ rfl⟩
theorem StE.zip {W : World} {A : Option Addr} {hs : List (Sl × Sl)} {m : Ce.Mem} (h : StE.Arg W A hs) (hl : hs.length = m.length) : StE2.Arg W A (hs.zip m) := by
  refine ⟨fun hne => ?_⟩
  obtain ⟨b, o, hA, hin⟩ := h.at_ (by rintro rfl; simp at hne)
  refine ⟨b, o, hA, fun i x hx j u hu => ?_⟩
  have hx' : hs[i]? = some x.1 := by
    rw [List.getElem?_zip_eq_some] at hx
    exact hx.1
  exact hin i x.1 hx' j u hu

set_option maxRecDepth 100000 in
set_option maxHeartbeats 1000000 in
theorem val_index (l : List Ce.V) (hl : l.length ≤ 1000000) (A : Option Addr) (cap : Nat) (p : Ce.V → Bool) (g : Nat) (lb : Array Value) (eg : ∀ args w, (callFunc g args).run Tryz.prog w = .ok (.enter g args) w) (w : World) (h : ValE.Arg w A l)
    (hp : ∀ x ∈ l, ∀ W, Below w.heap.size w W → Calls Tryz.prog g (#[.agg #[.int .u8 x.k, .int .i64 x.n]] ++ lb) W fun e w' => e = .returned (.bool (p x)) ∧ Below W.heap.size W w') :
    Calls Tryz.prog 123 #[.slice A l.length cap, .func (.func g) #[] lb] w fun e w' => e = .returned (.int .i64 (optV (Ce.idxK p l 0))) ∧ Below w.heap.size w w' := by
  have H := Lib.hid h
  have HP := Lib.hid hp
  clear h hp
  have HAT := Lib.hid (fun k x (hx : l[k]? = some x) => Ce.idxK_at (p := p) hx)
  have h00 : Ce.idxK p (l.drop 0) 0 = Ce.idxK p l 0 := rfl
  have HEND : Hid (∀ k, l.length ≤ k → Ce.idxK p (l.drop k) k = none) := Lib.hid fun k hk => by rw [List.drop_eq_nil_of_le hk]; rfl
  generalize Ce.idxK p l 0 = R at *
  have H00 := Lib.hid h00
  clear h00
  go_enter Tryz.func123, Tryz.ntmps123
  go_wp2_with fail
  go_loopw [5, 8] (fun _ i wr => ∃ k : Nat, k ≤ l.length ∧ i = .int .i64 k ∧ Hid (Ce.idxK p (l.drop k) k = R) ∧ Below w.heap.size w wr) (fun _ i _ => l.length - (intOf i).toNat)
  case atStart => exact ⟨0, Nat.zero_le _, rfl, H00, Below.refl _ _⟩
  case round =>
    obtain ⟨k, hk, rfl, HK, hbw⟩ := hrel
    have hzw := hbw.size
    by_cases hlt : k < l.length
    · have hlt' : (k : Int) < l.length := by omega
      obtain ⟨b, o, rfl, hin, hbl⟩ := H.out.at_lt hlt
      obtain ⟨x, hx⟩ : ∃ x, l[k]? = some x := ⟨_, List.getElem?_eq_getElem hlt⟩
      have hcell := ValE.at2 (hin.below hbw (fun _ => hbl)) hx
      clear hin
      have hcall := HP.out x (List.mem_of_getElem? hx) wr hbw
      have HS := Lib.hid (HAT.out k x hx)
      clear hx
      generalize hq : p x = q at hcall
      have HQ := Lib.hid hq
      clear hq
      obtain ⟨x0, x1⟩ := hcell
      cases q with
      | true =>
        go_wp2_with (go_at_fn g; refine hcall.mono ?_; rintro e w' ⟨rfl, hb'⟩)
        go_ret
        refine ⟨?_, hbw.trans (hb'.mono hzw)⟩
        rw [← HK.out, HS.out, HQ.out]
        rfl
      | false =>
        go_wp2_with (go_at_fn g; refine hcall.mono ?_; rintro e w' ⟨rfl, hb'⟩)
        go_roundw
        case rel => exact ⟨k + 1, by omega, by go_num, Lib.hid (by rw [← HK.out, HS.out, HQ.out]; rfl), hbw.trans (hb'.mono hzw)⟩
        case measure => simp [intOf]; omega
    · have hlt' : ¬ (k : Int) < l.length := by omega
      have hT : R = none := by rw [← HK.out, HEND.out k (by omega)]
      subst hT
      go_wp2
      go_ret
      exact ⟨rfl, hbw⟩

theorem val_contains (l : List Ce.V) (hl : l.length ≤ 1000000) (A : Option Addr) (cap : Nat) (p : Ce.V → Bool) (g : Nat) (lb : Array Value) (eg : ∀ args w, (callFunc g args).run Tryz.prog w = .ok (.enter g args) w) (w : World) (h : ValE.Arg w A l)
    (hp : ∀ x ∈ l, ∀ W, Below w.heap.size w W → Calls Tryz.prog g (#[.agg #[.int .u8 x.k, .int .i64 x.n]] ++ lb) W fun e w' => e = .returned (.bool (p x)) ∧ Below W.heap.size W w') :
    Calls Tryz.prog 102 #[.slice A l.length cap, .func (.func g) #[] lb] w fun e w' => e = .returned (.bool (l.any p)) ∧ Below w.heap.size w w' := by
  have hc := val_index l hl A cap p g lb eg w h hp
  rw [← Ce.idxK_any p l 0]
  cases hR : Ce.idxK p l 0 with
  | none =>
    rw [hR] at hc
    clear hp eg h hR
    have HC : Hid _ := Lib.hid hc
    clear hc
    go_enter Tryz.func102, Tryz.ntmps102
    go_wp2_with fail
    refine HC.out.mono ?_
    rintro e w1 ⟨rfl, hb1⟩
    unfold optV
    go_wp2
    go_ret
    exact ⟨rfl, hb1⟩
  | some n =>
    rw [hR] at hc
    clear hp eg h hR
    have HC : Hid _ := Lib.hid hc
    clear hc
    have hn : 0 ≤ (n : Int) := by omega
    go_enter Tryz.func102, Tryz.ntmps102
    go_wp2_with fail
    refine HC.out.mono ?_
    rintro e w1 ⟨rfl, hb1⟩
    unfold optV
    go_wp2
    go_ret
    exact ⟨rfl, hb1⟩

set_option maxRecDepth 100000 in
set_option maxHeartbeats 1000000 in
theorem st_index (l : List ((Sl × Sl) × Ce.St)) (hl : l.length ≤ 1000000) (A : Option Addr) (cap : Nat) (p : ((Sl × Sl) × Ce.St) → Bool) (g : Nat) (lb : Array Value) (eg : ∀ args w, (callFunc g args).run Tryz.prog w = .ok (.enter g args) w) (w : World) (h : StE2.Arg w A l)
    (hp : ∀ x ∈ l, ∀ W, Below w.heap.size w W → Calls Tryz.prog g (#[.agg #[.slice x.1.1.A x.1.1.n x.1.1.c, .slice x.1.2.A x.1.2.n x.1.2.c]] ++ lb) W fun e w' => e = .returned (.bool (p x)) ∧ Below W.heap.size W w') :
    Calls Tryz.prog 135 #[.slice A l.length cap, .func (.func g) #[] lb] w fun e w' => e = .returned (.int .i64 (optV (Ce.idxK p l 0))) ∧ Below w.heap.size w w' := by
  have H := Lib.hid h
  have HP := Lib.hid hp
  clear h hp
  have HAT := Lib.hid (fun k x (hx : l[k]? = some x) => Ce.idxK_at (p := p) hx)
  have h00 : Ce.idxK p (l.drop 0) 0 = Ce.idxK p l 0 := rfl
  have HEND : Hid (∀ k, l.length ≤ k → Ce.idxK p (l.drop k) k = none) := Lib.hid fun k hk => by rw [List.drop_eq_nil_of_le hk]; rfl
  generalize Ce.idxK p l 0 = R at *
  have H00 := Lib.hid h00
  clear h00
  go_enter Tryz.func135, Tryz.ntmps135
  go_wp2_with fail
  go_loopw [5, 8] (fun _ i wr => ∃ k : Nat, k ≤ l.length ∧ i = .int .i64 k ∧ Hid (Ce.idxK p (l.drop k) k = R) ∧ Below w.heap.size w wr) (fun _ i _ => l.length - (intOf i).toNat)
  case atStart => exact ⟨0, Nat.zero_le _, rfl, H00, Below.refl _ _⟩
  case round =>
    obtain ⟨k, hk, rfl, HK, hbw⟩ := hrel
    have hzw := hbw.size
    by_cases hlt : k < l.length
    · have hlt' : (k : Int) < l.length := by omega
      obtain ⟨b, o, rfl, hin, hbl⟩ := H.out.at_lt hlt
      obtain ⟨x, hx⟩ : ∃ x, l[k]? = some x := ⟨_, List.getElem?_eq_getElem hlt⟩
      have hcell := StE2.at2 (hin.below hbw (fun _ => hbl)) hx
      clear hin
      have hcall := HP.out x (List.mem_of_getElem? hx) wr hbw
      have HS := Lib.hid (HAT.out k x hx)
      clear hx
      generalize hq : p x = q at hcall
      have HQ := Lib.hid hq
      clear hq
      obtain ⟨x0, x1⟩ := hcell
      cases q with
      | true =>
        go_wp2_with (go_at_fn g; refine hcall.mono ?_; rintro e w' ⟨rfl, hb'⟩)
        go_ret
        refine ⟨?_, hbw.trans (hb'.mono hzw)⟩
        rw [← HK.out, HS.out, HQ.out]
        rfl
      | false =>
        go_wp2_with (go_at_fn g; refine hcall.mono ?_; rintro e w' ⟨rfl, hb'⟩)
        go_roundw
        case rel => exact ⟨k + 1, by omega, by go_num, Lib.hid (by rw [← HK.out, HS.out, HQ.out]; rfl), hbw.trans (hb'.mono hzw)⟩
        case measure => simp [intOf]; omega
    · have hlt' : ¬ (k : Int) < l.length := by omega
      have hT : R = none := by rw [← HK.out, HEND.out k (by omega)]
      subst hT
      go_wp2
      go_ret
      exact ⟨rfl, hbw⟩

theorem st_contains (l : List ((Sl × Sl) × Ce.St)) (hl : l.length ≤ 1000000) (A : Option Addr) (cap : Nat) (p : ((Sl × Sl) × Ce.St) → Bool) (g : Nat) (lb : Array Value) (eg : ∀ args w, (callFunc g args).run Tryz.prog w = .ok (.enter g args) w) (w : World) (h : StE2.Arg w A l)
    (hp : ∀ x ∈ l, ∀ W, Below w.heap.size w W → Calls Tryz.prog g (#[.agg #[.slice x.1.1.A x.1.1.n x.1.1.c, .slice x.1.2.A x.1.2.n x.1.2.c]] ++ lb) W fun e w' => e = .returned (.bool (p x)) ∧ Below W.heap.size W w') :
    Calls Tryz.prog 115 #[.slice A l.length cap, .func (.func g) #[] lb] w fun e w' => e = .returned (.bool (l.any p)) ∧ Below w.heap.size w w' := by
  have hc := st_index l hl A cap p g lb eg w h hp
  rw [← Ce.idxK_any p l 0]
  cases hR : Ce.idxK p l 0 with
  | none =>
    rw [hR] at hc
    clear hp eg h hR
    have HC : Hid _ := Lib.hid hc
    clear hc
    go_enter Tryz.func115, Tryz.ntmps115
    go_wp2_with fail
    refine HC.out.mono ?_
    rintro e w1 ⟨rfl, hb1⟩
    unfold optV
    go_wp2
    go_ret
    exact ⟨rfl, hb1⟩
  | some n =>
    rw [hR] at hc
    clear hp eg h hR
    have HC : Hid _ := Lib.hid hc
    clear hc
    have hn : 0 ≤ (n : Int) := by omega
    go_enter Tryz.func115, Tryz.ntmps115
    go_wp2_with fail
    refine HC.out.mono ?_
    rintro e w1 ⟨rfl, hb1⟩
    unfold optV
    go_wp2
    go_ret
    exact ⟨rfl, hb1⟩

set_option maxRecDepth 100000 in
set_option maxHeartbeats 1000000 in
theorem rd_index (l : List Ce.Rd) (hl : l.length ≤ 1000000) (A : Option Addr) (cap : Nat) (p : Ce.Rd → Bool) (g : Nat) (lb : Array Value) (eg : ∀ args w, (callFunc g args).run Tryz.prog w = .ok (.enter g args) w) (w : World) (h : RdE.Arg w A l)
    (hp : ∀ x ∈ l, ∀ W, Below w.heap.size w W → Calls Tryz.prog g (#[.agg #[.int .i64 x.cell, .int .i64 x.who]] ++ lb) W fun e w' => e = .returned (.bool (p x)) ∧ Below W.heap.size W w') :
    Calls Tryz.prog 144 #[.slice A l.length cap, .func (.func g) #[] lb] w fun e w' => e = .returned (.int .i64 (optV (Ce.idxK p l 0))) ∧ Below w.heap.size w w' := by
  have H := Lib.hid h
  have HP := Lib.hid hp
  clear h hp
  have HAT := Lib.hid (fun k x (hx : l[k]? = some x) => Ce.idxK_at (p := p) hx)
  have h00 : Ce.idxK p (l.drop 0) 0 = Ce.idxK p l 0 := rfl
  have HEND : Hid (∀ k, l.length ≤ k → Ce.idxK p (l.drop k) k = none) := Lib.hid fun k hk => by rw [List.drop_eq_nil_of_le hk]; rfl
  generalize Ce.idxK p l 0 = R at *
  have H00 := Lib.hid h00
  clear h00
  go_enter Tryz.func144, Tryz.ntmps144
  go_wp2_with fail
  go_loopw [5, 8] (fun _ i wr => ∃ k : Nat, k ≤ l.length ∧ i = .int .i64 k ∧ Hid (Ce.idxK p (l.drop k) k = R) ∧ Below w.heap.size w wr) (fun _ i _ => l.length - (intOf i).toNat)
  case atStart => exact ⟨0, Nat.zero_le _, rfl, H00, Below.refl _ _⟩
  case round =>
    obtain ⟨k, hk, rfl, HK, hbw⟩ := hrel
    have hzw := hbw.size
    by_cases hlt : k < l.length
    · have hlt' : (k : Int) < l.length := by omega
      obtain ⟨b, o, rfl, hin, hbl⟩ := H.out.at_lt hlt
      obtain ⟨x, hx⟩ : ∃ x, l[k]? = some x := ⟨_, List.getElem?_eq_getElem hlt⟩
      have hcell := RdE.at2 (hin.below hbw (fun _ => hbl)) hx
      clear hin
      have hcall := HP.out x (List.mem_of_getElem? hx) wr hbw
      have HS := Lib.hid (HAT.out k x hx)
      clear hx
      generalize hq : p x = q at hcall
      have HQ := Lib.hid hq
      clear hq
      obtain ⟨x0, x1⟩ := hcell
      cases q with
      | true =>
        go_wp2_with (go_at_fn g; refine hcall.mono ?_; rintro e w' ⟨rfl, hb'⟩)
        go_ret
        refine ⟨?_, hbw.trans (hb'.mono hzw)⟩
        rw [← HK.out, HS.out, HQ.out]
        rfl
      | false =>
        go_wp2_with (go_at_fn g; refine hcall.mono ?_; rintro e w' ⟨rfl, hb'⟩)
        go_roundw
        case rel => exact ⟨k + 1, by omega, by go_num, Lib.hid (by rw [← HK.out, HS.out, HQ.out]; rfl), hbw.trans (hb'.mono hzw)⟩
        case measure => simp [intOf]; omega
    · have hlt' : ¬ (k : Int) < l.length := by omega
      have hT : R = none := by rw [← HK.out, HEND.out k (by omega)]
      subst hT
      go_wp2
      go_ret
      exact ⟨rfl, hbw⟩

theorem rd_contains (l : List Ce.Rd) (hl : l.length ≤ 1000000) (A : Option Addr) (cap : Nat) (p : Ce.Rd → Bool) (g : Nat) (lb : Array Value) (eg : ∀ args w, (callFunc g args).run Tryz.prog w = .ok (.enter g args) w) (w : World) (h : RdE.Arg w A l)
    (hp : ∀ x ∈ l, ∀ W, Below w.heap.size w W → Calls Tryz.prog g (#[.agg #[.int .i64 x.cell, .int .i64 x.who]] ++ lb) W fun e w' => e = .returned (.bool (p x)) ∧ Below W.heap.size W w') :
    Calls Tryz.prog 136 #[.slice A l.length cap, .func (.func g) #[] lb] w fun e w' => e = .returned (.bool (l.any p)) ∧ Below w.heap.size w w' := by
  have hc := rd_index l hl A cap p g lb eg w h hp
  rw [← Ce.idxK_any p l 0]
  cases hR : Ce.idxK p l 0 with
  | none =>
    rw [hR] at hc
    clear hp eg h hR
    have HC : Hid _ := Lib.hid hc
    clear hc
    go_enter Tryz.func136, Tryz.ntmps136
    go_wp2_with fail
    refine HC.out.mono ?_
    rintro e w1 ⟨rfl, hb1⟩
    unfold optV
    go_wp2
    go_ret
    exact ⟨rfl, hb1⟩
  | some n =>
    rw [hR] at hc
    clear hp eg h hR
    have HC : Hid _ := Lib.hid hc
    clear hc
    have hn : 0 ≤ (n : Int) := by omega
    go_enter Tryz.func136, Tryz.ntmps136
    go_wp2_with fail
    refine HC.out.mono ?_
    rintro e w1 ⟨rfl, hb1⟩
    unfold optV
    go_wp2
    go_ret
    exact ⟨rfl, hb1⟩

set_option maxRecDepth 100000 in
set_option maxHeartbeats 1000000 in
theorem num_index (l : List Int) (hl : l.length ≤ 1000000) (A : Option Addr) (cap : Nat) (p : Int → Bool) (g : Nat) (lb : Array Value) (eg : ∀ args w, (callFunc g args).run Tryz.prog w = .ok (.enter g args) w) (w : World) (h : IntE.Arg w A l)
    (hp : ∀ x ∈ l, ∀ W, Below w.heap.size w W → Calls Tryz.prog g (#[.int .i64 x] ++ lb) W fun e w' => e = .returned (.bool (p x)) ∧ Below W.heap.size W w') :
    Calls Tryz.prog 122 #[.slice A l.length cap, .func (.func g) #[] lb] w fun e w' => e = .returned (.int .i64 (optV (Ce.idxK p l 0))) ∧ Below w.heap.size w w' := by
  have H := Lib.hid h
  have HP := Lib.hid hp
  clear h hp
  have HAT := Lib.hid (fun k x (hx : l[k]? = some x) => Ce.idxK_at (p := p) hx)
  have h00 : Ce.idxK p (l.drop 0) 0 = Ce.idxK p l 0 := rfl
  have HEND : Hid (∀ k, l.length ≤ k → Ce.idxK p (l.drop k) k = none) := Lib.hid fun k hk => by rw [List.drop_eq_nil_of_le hk]; rfl
  generalize Ce.idxK p l 0 = R at *
  have H00 := Lib.hid h00
  clear h00
  go_enter Tryz.func122, Tryz.ntmps122
  go_wp2_with fail
  go_loopw [5, 8] (fun _ i wr => ∃ k : Nat, k ≤ l.length ∧ i = .int .i64 k ∧ Hid (Ce.idxK p (l.drop k) k = R) ∧ Below w.heap.size w wr) (fun _ i _ => l.length - (intOf i).toNat)
  case atStart => exact ⟨0, Nat.zero_le _, rfl, H00, Below.refl _ _⟩
  case round =>
    obtain ⟨k, hk, rfl, HK, hbw⟩ := hrel
    have hzw := hbw.size
    by_cases hlt : k < l.length
    · have hlt' : (k : Int) < l.length := by omega
      obtain ⟨b, o, rfl, hin, hbl⟩ := H.out.at_lt hlt
      obtain ⟨x, hx⟩ : ∃ x, l[k]? = some x := ⟨_, List.getElem?_eq_getElem hlt⟩
      have hcell := IntE.at1 (hin.below hbw (fun _ => hbl)) hx
      clear hin
      have hcall := HP.out x (List.mem_of_getElem? hx) wr hbw
      have HS := Lib.hid (HAT.out k x hx)
      clear hx
      generalize hq : p x = q at hcall
      have HQ := Lib.hid hq
      clear hq
      simp only [Nat.mul_one] at hcell
      cases q with
      | true =>
        go_wp2_with (go_at_fn g; refine hcall.mono ?_; rintro e w' ⟨rfl, hb'⟩)
        go_ret
        refine ⟨?_, hbw.trans (hb'.mono hzw)⟩
        rw [← HK.out, HS.out, HQ.out]
        rfl
      | false =>
        go_wp2_with (go_at_fn g; refine hcall.mono ?_; rintro e w' ⟨rfl, hb'⟩)
        go_roundw
        case rel => exact ⟨k + 1, by omega, by go_num, Lib.hid (by rw [← HK.out, HS.out, HQ.out]; rfl), hbw.trans (hb'.mono hzw)⟩
        case measure => simp [intOf]; omega
    · have hlt' : ¬ (k : Int) < l.length := by omega
      have hT : R = none := by rw [← HK.out, HEND.out k (by omega)]
      subst hT
      go_wp2
      go_ret
      exact ⟨rfl, hbw⟩

theorem num_contains (l : List Int) (hl : l.length ≤ 1000000) (A : Option Addr) (cap : Nat) (p : Int → Bool) (g : Nat) (lb : Array Value) (eg : ∀ args w, (callFunc g args).run Tryz.prog w = .ok (.enter g args) w) (w : World) (h : IntE.Arg w A l)
    (hp : ∀ x ∈ l, ∀ W, Below w.heap.size w W → Calls Tryz.prog g (#[.int .i64 x] ++ lb) W fun e w' => e = .returned (.bool (p x)) ∧ Below W.heap.size W w') :
    Calls Tryz.prog 85 #[.slice A l.length cap, .func (.func g) #[] lb] w fun e w' => e = .returned (.bool (l.any p)) ∧ Below w.heap.size w w' := by
  have hc := num_index l hl A cap p g lb eg w h hp
  rw [← Ce.idxK_any p l 0]
  cases hR : Ce.idxK p l 0 with
  | none =>
    rw [hR] at hc
    clear hp eg h hR
    have HC : Hid _ := Lib.hid hc
    clear hc
    go_enter Tryz.func85, Tryz.ntmps85
    go_wp2_with fail
    refine HC.out.mono ?_
    rintro e w1 ⟨rfl, hb1⟩
    unfold optV
    go_wp2
    go_ret
    exact ⟨rfl, hb1⟩
  | some n =>
    rw [hR] at hc
    clear hp eg h hR
    have HC : Hid _ := Lib.hid hc
    clear hc
    have hn : 0 ≤ (n : Int) := by omega
    go_enter Tryz.func85, Tryz.ntmps85
    go_wp2_with fail
    refine HC.out.mono ?_
    rintro e w1 ⟨rfl, hb1⟩
    unfold optV
    go_wp2
    go_ret
    exact ⟨rfl, hb1⟩

end Go.Proofs.YtjldkndalcellaaGreatDoor
