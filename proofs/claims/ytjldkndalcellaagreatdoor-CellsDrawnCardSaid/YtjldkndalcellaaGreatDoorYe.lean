/- Layer 6: the reference's makers of values, names, Operands. Layer 6: the walk of the reference's reckon. Layer 6: the walk of the reference's Prim. Layer 6: pictures: lists of values that the call owns; the walk of the reference's CopyPicture. Layer 6: the walk of the reference's SamePicture. Layer 6: what is asked of the program's functions (Prg), and the rest of the plain model: below, build, stream, text, holes. Layer 6: what awake builds: the laws' tangled; a picture laid out. -/
import Derived.Test.YtjldkndalcellaaGreatDoorYd
import Derived.Lib.Strings
import Derived.Laws.ResultCell
namespace Go.Proofs.YtjldkndalcellaaGreatDoor
open Go.RowKit Go.El

theorem val_size : (Tryz.prog.info? 57).map (·.size) = some 2 := by kernel_rfl

theorem mkInt_any (n : Int) (w : World) : Calls Tryz.prog 32 #[.int .i64 n] w fun e w' => e = .returned (.agg #[.int .u8 1, .int .i64 n]) ∧ Below w.heap.size w w' := by
  go_enter Tryz.func32, Tryz.ntmps32
  go_wp2
  refine bodyPost_ret (results_cell_row rfl _ _ w.heap.size 57 #[.int .u8 1, .int .i64 n] (0, 0) _ rfl (heap_alloc_new w _) Tryz.underlying57 rfl val_size) rfl ?_
  exact ⟨rfl, (Below.refl _ _).alloc (Nat.le_refl _) _⟩

theorem mkRef_any (n : Int) (w : World) : Calls Tryz.prog 41 #[.int .i64 n] w fun e w' => e = .returned (.agg #[.int .u8 4, .int .i64 n]) ∧ Below w.heap.size w w' := by
  go_enter Tryz.func41, Tryz.ntmps41
  go_wp2
  refine bodyPost_ret (results_cell_row rfl _ _ w.heap.size 57 #[.int .u8 4, .int .i64 n] (0, 0) _ rfl (heap_alloc_new w _) Tryz.underlying57 rfl val_size) rfl ?_
  exact ⟨rfl, (Below.refl _ _).alloc (Nat.le_refl _) _⟩

theorem mkBad_any (n : Int) (w : World) : Calls Tryz.prog 39 #[.int .i64 n] w fun e w' => e = .returned (.agg #[.int .u8 5, .int .i64 n]) ∧ Below w.heap.size w w' := by
  go_enter Tryz.func39, Tryz.ntmps39
  go_wp2
  refine bodyPost_ret (results_cell_row rfl _ _ w.heap.size 57 #[.int .u8 5, .int .i64 n] (0, 0) _ rfl (heap_alloc_new w _) Tryz.underlying57 rfl val_size) rfl ?_
  exact ⟨rfl, (Below.refl _ _).alloc (Nat.le_refl _) _⟩

theorem mkNil_any (w : World) : Calls Tryz.prog 36 #[] w fun e w' => e = .returned (.agg #[.int .u8 3, .int .i64 0]) ∧ Below w.heap.size w w' := by
  go_enter Tryz.func36, Tryz.ntmps36
  go_wp2
  refine bodyPost_ret (results_cell_row rfl _ _ w.heap.size 57 #[.int .u8 3, .int .i64 0] (0, 0) _ rfl (heap_alloc_new w _) Tryz.underlying57 rfl val_size) rfl ?_
  exact ⟨rfl, (Below.refl _ _).alloc (Nat.le_refl _) _⟩

theorem mkBool_any (b : Bool) (w : World) : Calls Tryz.prog 38 #[.bool b] w fun e w' => e = .returned (.agg #[.int .u8 2, .int .i64 (Ce.vbool b).n]) ∧ Below w.heap.size w w' := by
  cases b with
  | true =>
    go_enter Tryz.func38, Tryz.ntmps38
    go_wp2
    refine bodyPost_ret (results_cell_row rfl _ _ w.heap.size 57 #[.int .u8 2, .int .i64 1] (0, 0) _ rfl (heap_alloc_new w _) Tryz.underlying57 rfl val_size) rfl ?_
    exact ⟨rfl, (Below.refl _ _).alloc (Nat.le_refl _) _⟩
  | false =>
    go_enter Tryz.func38, Tryz.ntmps38
    go_wp2
    refine bodyPost_ret (results_cell_row rfl _ _ w.heap.size 57 #[.int .u8 2, .int .i64 0] (0, 0) _ rfl (heap_alloc_new w _) Tryz.underlying57 rfl val_size) rfl ?_
    exact ⟨rfl, (Below.refl _ _).alloc (Nat.le_refl _) _⟩

def StrE : El ByteArray := { cells := fun s => [.string s], k := 1, pos := by decide, len := fun _ => rfl, one := fun x u hu => by simp at hu; subst hu; rfl }
theorem StrE.at1 {w : World} {b o : Nat} {l : List ByteArray} (h : StrE.In w b o l) {k : Nat} {p : ByteArray} (hp : l[k]? = some p) : w.cell? ⟨b, o + k * 1, none⟩ = some (.string p) := h k p hp 0 _ rfl
/-- the names, as bytes -/
def nms : List ByteArray := Ce.names.map fun l => ⟨l.toArray⟩
theorem toBytes_inj (s : ByteArray) (l : List UInt8) : s = ⟨l.toArray⟩ ↔ s.data.toList = l := by
  constructor
  · rintro rfl; rfl
  · intro h
    obtain ⟨d⟩ := s
    dsimp only at h
    subst h
    simp
theorem nms_mem (s : ByteArray) : s ∈ nms ↔ s.data.toList ∈ Ce.names := by
  unfold nms
  rw [List.mem_map]
  constructor
  · rintro ⟨l, hl, rfl⟩; exact hl
  · intro h; exact ⟨_, h, ((toBytes_inj s _).2 rfl).symm⟩
theorem operands_in (s : ByteArray) (hm : s ∈ nms) : Ce.operands s.data.toList = if s.toList = [110, 101, 103] ∨ s.toList = [110, 111, 116] then 1 else 2 := by
  rw [Lib.toList_data]
  unfold Ce.operands
  rw [if_pos (List.contains_iff_mem.2 ((nms_mem s).1 hm))]
  rfl
theorem operands_out (s : ByteArray) (hm : ¬ s ∈ nms) : Ce.operands s.data.toList = 0 := by
  unfold Ce.operands
  rw [if_neg (fun h => hm ((nms_mem s).2 (List.contains_iff_mem.1 h)))]
theorem bytes_ne {s t : ByteArray} (h : s ≠ t) : (s.toList == t.toList) = false := by
  rw [beq_eq_false_iff_ne, Lib.toList_data, Lib.toList_data]
  intro e
  refine h ((toBytes_inj s t.data.toList).2 e |>.trans ?_)
  obtain ⟨d⟩ := t
  simp

end Go.Proofs.YtjldkndalcellaaGreatDoor

namespace Go.Proofs.YtjldkndalcellaaGreatDoor
open Go.RowKit Go.El

/-- a block of cells that nothing has frozen -/
def Blk (W : World) (g : Nat) (t : TypeId) (cs : Array Value) : Prop := W.heap[g]? = some (.cells cs t (0, 0))
theorem Blk.lt {W : World} {g : Nat} {t : TypeId} {cs : Array Value} (h : Blk W g t cs) : g < W.heap.size := (Array.getElem?_eq_some_iff.1 h).1
theorem Blk.cell {W : World} {g : Nat} {t : TypeId} {cs : Array Value} (h : Blk W g t cs) (j : Nat) : W.cell? ⟨g, j, none⟩ = cs[j]? := by simp [World.cell?, show W.heap[g]? = _ from h]
theorem Blk.frozen {W : World} {g : Nat} {t : TypeId} {cs : Array Value} (h : Blk W g t cs) (j : Nat) : W.frozen? ⟨g, j, none⟩ = false := by simp [World.frozen?, show W.heap[g]? = _ from h]
theorem Blk.new (W : World) (t : TypeId) (cs : Array Value) : Blk (W.alloc (.cells cs t)) W.heap.size t cs := heap_alloc_new W _
theorem Blk.kept {W W' : World} {row : Option Nat} {g : Nat} {t : TypeId} {cs : Array Value} (h : Blk W g t cs) (hg : W.grownBy W' row) (hne : some g ≠ row) : Blk W' g t cs := (hg.block g h.lt hne).trans h
theorem Blk.below {W W' : World} {g : Nat} {t : TypeId} {cs : Array Value} (h : Blk W g t cs) (hb : Below W.heap.size W W') : Blk W' g t cs := h.kept (grown_of_below hb none) (by simp)
theorem Blk.alloc {W : World} {g : Nat} {t : TypeId} {cs : Array Value} (h : Blk W g t cs) (o : Obj) : Blk (W.alloc o) g t cs := h.kept (World.grownBy_alloc W o none) (by simp)
theorem Blk.drew {W : World} {g : Nat} {t : TypeId} {cs : Array Value} (h : Blk W g t cs) : Blk W.drew g t cs := h.below (Below.refl _ _).drew
theorem Blk.set_ {W : World} {g : Nat} {t : TypeId} {cs : Array Value} (h : Blk W g t cs) (i : Nat) (u : Value) : Blk (W.setCell ⟨g, i, none⟩ u) g t (cs.setIfInBounds i u) := by
  have h' : W.heap[g]? = some (.cells cs t (0, 0)) := h
  show (W.setCell ⟨g, i, none⟩ u).heap[g]? = _
  simp [World.setCell, Array.getElem?_modify, h']
theorem Blk.stay {W : World} {g : Nat} {t : TypeId} {cs : Array Value} (h : Blk W g t cs) : Stay (fun V => Blk V g t cs) W := fun _ hb => h.below hb


theorem mul_le1 {a b : Int} (a1 : -1000000000 ≤ a) (a2 : a ≤ 1000000000) (b1 : -1000000000 ≤ b) (b2 : b ≤ 1000000000) : a * b ≤ 1000000000000000000 := by
  have h : a.natAbs * b.natAbs ≤ 1000000000 * 1000000000 := Nat.mul_le_mul (by omega) (by omega)
  have h2 : a * b ≤ ((a * b).natAbs : Int) := Int.le_natAbs
  rw [Int.natAbs_mul] at h2
  generalize a.natAbs * b.natAbs = q at *
  omega
theorem mul_le2 {a b : Int} (a1 : -1000000000 ≤ a) (a2 : a ≤ 1000000000) (b1 : -1000000000 ≤ b) (b2 : b ≤ 1000000000) : -1000000000000000000 ≤ a * b := by
  have h := mul_le1 (a := -a) (b := b) (by omega) (by omega) b1 b2
  rw [Int.neg_mul] at h
  omega
theorem tdiv_le {a b : Int} (a1 : -1000000000 ≤ a) (a2 : a ≤ 1000000000) : -1000000000 ≤ a.tdiv b ∧ a.tdiv b ≤ 1000000000 := by
  have h : (a.tdiv b).natAbs ≤ a.natAbs := Int.natAbs_tdiv_le_natAbs a b
  omega
theorem tmod_le {a b : Int} (a1 : -1000000000 ≤ a) (a2 : a ≤ 1000000000) : -1000000000 ≤ a.tmod b ∧ a.tmod b ≤ 1000000000 := by
  have h : (a.tmod b).natAbs ≤ a.natAbs := by rw [Int.natAbs_tmod]; exact Nat.mod_le _ _
  omega

end Go.Proofs.YtjldkndalcellaaGreatDoor

namespace Go
theorem results_row_tmp {P : Program} {fn : Func} {p u : Tmp} {ty : TypeId} (h : fn.results = #[.cell p ty, .tmp u]) (tmps : Array Value) (w : World) (g : Nat) (t : TypeId) (cs : Array Value) (fr : Nat × Nat) (d : TypeDesc)
    (hp : tmps.getD p undef = .pointer (some ⟨g, 0, none⟩)) (hg : w.heap[g]? = some (.cells cs t fr))
    (hu : P.underlying ty = some d) (hd : (match d with | .struct _ | .array _ _ => true | _ => false) = true) (hi : (P.info? ty).map (·.size) = some cs.size) :
    (results fn tmps).run P w = .ok (.tuple #[.agg cs, tmps.getD u undef]) w := by
  rw [results_cell_tmp h, hp]
  simp [asAddr, run_loadVar_row w g t ty cs fr d hg hu hd hi, Result.andThen]
end Go
namespace Ce
theorem prim_none {s : List UInt8} {l : List V} (h : operands s = 0) : prim s l = (hole, 10) := by unfold prim; rw [if_pos h]
theorem prim_len {s : List UInt8} {l : List V} (h : operands s ≠ 0) (hl : l.length ≠ operands s) : prim s l = (hole, 2) := by unfold prim; rw [if_neg h, if_pos hl]
theorem prim_val {s : List UInt8} {l : List V} (h : operands s ≠ 0) (hl : l.length = operands s) (hv : areValues l (-1) = false) : prim s l = (hole, 4) := by
  unfold prim; rw [if_neg h, if_neg (fun hn => hn hl), hv]; rfl
theorem prim_hole {s : List UInt8} {l : List V} (h : operands s ≠ 0) (hl : l.length = operands s) (hv : areValues l (-1) = true) (hh : (l.any fun v => decide (v.k = 0)) = true) : prim s l = (hole, 0) := by
  unfold prim; rw [if_neg h, if_neg (fun hn => hn hl), hv, hh]; rfl
theorem prim_bad {s : List UInt8} {l : List V} {v : V} (h : operands s ≠ 0) (hl : l.length = operands s) (hv : areValues l (-1) = true) (hh : (l.any fun v => decide (v.k = 0)) = false) (hf : (l.find? fun v => decide (v.k = 5)) = some v) : prim s l = (v, 0) := by
  unfold prim; rw [if_neg h, if_neg (fun hn => hn hl), hv, hh, hf]; rfl
theorem prim_go {s : List UInt8} {l : List V} (h : operands s ≠ 0) (hl : l.length = operands s) (hv : areValues l (-1) = true) (hh : (l.any fun v => decide (v.k = 0)) = false) (hf : (l.find? fun v => decide (v.k = 5)) = none) : prim s l = (reckon s l[0]! l[operands s - 1]!, 0) := by
  unfold prim; rw [if_neg h, if_neg (fun hn => hn hl), hv, hh, hf]; rfl
theorem find_at {l : List V} {f : V → Bool} {k : Nat} {v : V} (h : l[k]? = some v) (h1 : (l.take k).find? f = none) (h2 : f v = true) : l.find? f = some v := by
  conv => lhs; rw [← List.take_append_drop k l, List.find?_append, h1]
  have : l.drop k = v :: l.drop (k + 1) := by
    obtain ⟨hk, rfl⟩ := List.getElem?_eq_some_iff.1 h
    exact List.drop_eq_getElem_cons hk
  rw [this, List.find?_cons, h2]
  rfl
theorem find_step {l : List V} {f : V → Bool} {k : Nat} {v : V} (h : l[k]? = some v) (h1 : (l.take k).find? f = none) (h2 : f v = false) : (l.take (k + 1)).find? f = none := by
  rw [List.take_add_one, h, List.find?_append, h1]
  simp [h2]
theorem any_at {l : List V} {f : V → Bool} {k : Nat} {v : V} (h : l[k]? = some v) (h2 : f v = true) : l.any f = true := List.any_eq_true.2 ⟨v, List.mem_of_getElem? h, h2⟩
theorem any_step {l : List V} {f : V → Bool} {k : Nat} {v : V} (h : l[k]? = some v) (h1 : (l.take k).any f = false) (h2 : f v = false) : (l.take (k + 1)).any f = false := by
  rw [List.take_add_one, h, List.any_append, h1]
  simp [h2]
theorem isValue_int {v : V} {m : Int} (h : isValue v m = true) (h1 : v.k = 1) : -1000000000 ≤ v.n ∧ v.n ≤ 1000000000 := by
  unfold isValue at h
  rw [if_neg (by omega), if_pos h1] at h
  simpa [inn] using h
theorem operands_mem {s : List UInt8} (h : operands s ≠ 0) : s ∈ names := by
  unfold operands at h
  by_cases hc : names.contains s = true
  · exact List.contains_iff_mem.1 hc
  · rw [if_neg hc] at h; exact absurd rfl h
theorem operands_le (s : List UInt8) : operands s ≤ 2 := by
  unfold operands; split
  · split <;> omega
  · omega
end Ce
namespace Go.Proofs.YtjldkndalcellaaGreatDoor
open Go.RowKit Go.El

end Go.Proofs.YtjldkndalcellaaGreatDoor

namespace Go.Proofs.YtjldkndalcellaaGreatDoor
open Go.RowKit Go.El

theorem ls_info : (Tryz.prog.info? 34).map (fun i => (i.zero, i.size, i.bytes)) = some (some (.slice none 0 0), 1, 24) := by kernel_rfl
theorem pic_size : (Tryz.prog.info? 37).map (·.size) = some 2 := by kernel_rfl
/-- lists of values that the call owns -/
structure LO (W : World) (base : Nat) (B : Option Addr) (c : Nat) (hs : List Sl) (m : List (List Ce.V)) : Prop where
  len : hs.length = m.length
  own : SlE.Own 34 W base B c hs
  each : ∀ (i : Nat) (h : Sl) (s : List Ce.V), hs[i]? = some h → m[i]? = some s → h.n = s.length ∧ ValE.Own 57 W base h.A h.c s
theorem LO.below {W W' : World} {base : Nat} {B : Option Addr} {c : Nat} {hs : List Sl} {m : List (List Ce.V)} (h : LO W base B c hs m) (hb : Below W.heap.size W W') : LO W' base B c hs m :=
  ⟨h.len, Own.below h.own hb, fun i x s h1 h2 => let y := h.each i x s h1 h2; ⟨y.1, Own.below y.2 hb⟩⟩
theorem LO.low {W W' : World} {base : Nat} {B : Option Addr} {c : Nat} {hs : List Sl} {m : List (List Ce.V)} (h : LO W base B c hs m) {row : Option Nat} (hg : W.grownBy W' row) (hr : ∀ k, row = some k → k < base) : LO W' base B c hs m :=
  ⟨h.len, Own.low h.own hg hr, fun i x s h1 h2 => let y := h.each i x s h1 h2; ⟨y.1, Own.low y.2 hg hr⟩⟩
theorem LO.base_ {W : World} {base base' : Nat} {B : Option Addr} {c : Nat} {hs : List Sl} {m : List (List Ce.V)} (h : LO W base B c hs m) (hle : base' ≤ base) : LO W base' B c hs m :=
  ⟨h.len, Own.base_ h.own hle, fun i x s h1 h2 => let y := h.each i x s h1 h2; ⟨y.1, Own.base_ y.2 hle⟩⟩
theorem LO.at_ {W : World} {base : Nat} {B : Option Addr} {c : Nat} {hs : List Sl} {m : List (List Ce.V)} (h : LO W base B c hs m) : LsAt W B m :=
  ⟨hs, h.len, Own.arg h.own, fun i x s h1 h2 => let y := h.each i x s h1 h2; ⟨y.1, Own.arg y.2, (Own.le y.2).2, by rw [y.1]; exact (Own.le y.2).1⟩⟩
theorem LO.nil (W : World) (base : Nat) : LO W base none 0 [] [] := ⟨rfl, Own.nil SlE 34 W base, fun i x s h1 _ => by simp at h1⟩
theorem grownBy_setCell1 (w : World) (b o : Nat) (v : Value) : w.grownBy (w.setCell ⟨b, o, none⟩ v) (some b) :=
  ⟨rfl, rfl, rfl, by simp [World.setCell], fun k _ hk => Below.heap_setCell _ _ _ k (fun e => hk (by rw [e]))⟩
theorem LO.snoc {W W1 W2 : World} {base : Nat} {B B' : Option Addr} {c c' : Nat} {hs : List Sl} {m : List (List Ce.V)} {x : Sl} {s : List Ce.V} (h : LO W base B c hs m) (hb : Below W.heap.size W W1) (hn : x.n = s.length) (hx : ValE.Own 57 W1 base x.A x.c s)
    (hown : SlE.Own 34 W2 base B' c' (hs ++ [x])) (hg : W1.grownBy W2 (Value.slice B hs.length c).ownBlock) : LO W2 base B' c' (hs ++ [x]) (m ++ [s]) := by
  have h1 := h.below hb
  refine ⟨by simp [h.len], hown, fun i y t e1 e2 => ?_⟩
  by_cases hi : i < hs.length
  · rw [List.getElem?_append_left hi] at e1
    rw [List.getElem?_append_left (by rw [← h.len]; exact hi)] at e2
    have q := h1.each i y t e1 e2
    exact ⟨q.1, q.2.kept hg (own_own_ne q.2 h1.own (by decide))⟩
  · have hi' : i = hs.length := by
      have := (List.getElem?_eq_some_iff.1 e1).1
      simp at this
      omega
    subst hi'
    rw [List.getElem?_append_right (Nat.le_refl _), Nat.sub_self] at e1
    rw [h.len, List.getElem?_append_right (Nat.le_refl _), Nat.sub_self] at e2
    injection e1 with e1
    injection e2 with e2
    subst e1 e2
    exact ⟨hn, hx.kept hg (own_own_ne hx h1.own (by decide))⟩
/-- a list of a picture, at its place -/
theorem LsAt.at_ {W : World} {A : Option Addr} {m : List (List Ce.V)} (h : LsAt W A m) {i : Nat} {s : List Ce.V} (hs : m[i]? = some s) :
    ∃ b o A1 c1, A = some ⟨b, o, none⟩ ∧ b < W.heap.size ∧ W.cell? ⟨b, o + i, none⟩ = some (.slice A1 s.length c1) ∧ SlAt ValE W ⟨A1, s.length, c1⟩ s := by
  obtain ⟨hh, e1, e2, e3⟩ := h
  have hi : i < hh.length := by rw [e1]; exact (List.getElem?_eq_some_iff.1 hs).1
  have hx : hh[i]? = some hh[i] := List.getElem?_eq_getElem hi
  obtain ⟨b, o, hA, hin, hb⟩ := e2.at_lt hi
  have k1 := e3 i _ s hx hs
  have k2 := hin i _ hx 0 _ rfl
  generalize hh[i] = q at *
  obtain ⟨A1, n1, c1⟩ := q
  have e := k1.n
  dsimp only at e
  subst e
  refine ⟨b, o, A1, c1, hA, hb, ?_, k1⟩
  have e : i * SlE.k = i := Nat.mul_one i
  rw [e] at k2
  exact k2
theorem LsAt.stay {W : World} {A : Option Addr} {m : List (List Ce.V)} (h : LsAt W A m) : Stay (fun V => LsAt V A m) W := fun _ hb => h.below hb
/-- small enough for slices -/
structure Szp (p : Ce.Pic) : Prop where
  vals : p.vals.length ≤ 10000
  many : p.cells.length ≤ 10000
  each : ∀ (i : Nat) (s : List Ce.V), p.cells[i]? = some s → s.length ≤ 10000
/-- a picture, read -/
structure PicAt (W : World) (V : Option Addr) (cv : Nat) (C : Option Addr) (p : Ce.Pic) : Prop where
  v : SlAt ValE W ⟨V, p.vals.length, cv⟩ p.vals
  c : LsAt W C p.cells
theorem PicAt.below {W W' : World} {V C : Option Addr} {cv : Nat} {p : Ce.Pic} (h : PicAt W V cv C p) (hb : Below W.heap.size W W') : PicAt W' V cv C p := ⟨h.v.below hb, h.c.below hb⟩
theorem PicAt.stay {W : World} {V C : Option Addr} {cv : Nat} {p : Ce.Pic} (h : PicAt W V cv C p) : Stay (fun W => PicAt W V cv C p) W := fun _ hb => h.below hb

/-- a load that the region's end turns: kept from being taken first -/
def ldPic : Oper := { dst := some 17, op := Op.load 35 (Operand.tmp 16), type := 35, pos := "ref.go:149", after := #[{ on := 0, ground := Ground.data }], guard := none }
attribute [local go_sem] ldPic
set_option maxRecDepth 100000 in
set_option maxHeartbeats 4000000 in
theorem copyPic_any (p : Ce.Pic) (hp : Szp p) (V C : Option Addr) (cv cc : Nat) (w : World) (h : PicAt w V cv C p) :
    Calls Tryz.prog 19 #[.agg #[.slice V p.vals.length cv, .slice C p.cells.length cc]] w fun e w' => (∃ V' cv' C' cc' hs, e = .returned (.agg #[.slice V' p.vals.length cv', .slice C' p.cells.length cc']) ∧ ValE.Own 57 w' w.heap.size V' cv' p.vals ∧ LO w' w.heap.size C' cc' hs p.cells) ∧ Below w.heap.size w w' := by
  obtain ⟨vs, ls⟩ := p
  have hz1 := hp.vals
  have hz2 := hp.many
  have HSZ := Lib.hid hp.each
  dsimp only at hz1 hz2 HSZ ⊢
  have HLS := Lib.hid h.c
  have hbx : Below w.heap.size w ((w.alloc (.cells #[.slice V vs.length cv, .slice C ls.length cc] 37)).alloc (.cells #[.slice none 0 0, .slice none 0 0] 37)) := ((Below.refl _ _).alloc (Nat.le_refl _) _).alloc (by simp) _
  have HVL := Lib.hid (values_any vs (by omega) V cv h.v.none_ _ (h.v.arg.below hbx))
  have HX0 := Lib.hid ((Blk.new w 37 #[.slice V vs.length cv, .slice C ls.length cc]).alloc (.cells #[.slice none 0 0, .slice none 0 0] 37))
  have HY0 := Lib.hid (Blk.new (w.alloc (.cells #[.slice V vs.length cv, .slice C ls.length cc] 37)) 37 #[.slice none 0 0, .slice none 0 0])
  simp only [World.size_alloc] at HY0
  have HB0 := Lib.hid hbx
  clear hp h hbx
  have hll : (ls.length : Int) ≤ 9223372036854775807 := by omega
  go_enter Tryz.func19, Tryz.ntmps19
  go_wp2_with fail
  refine HVL.out.mono ?_
  rintro e w1 ⟨⟨V', cv', rfl, ho1⟩, hb1⟩
  have hs1 : w.heap.size + 2 ≤ w1.heap.size := by have := hb1.size; simp at this; omega
  have HX1 := Lib.hid ((HX0.out.below hb1).alloc (.cells #[.slice V' vs.length cv', .slice none 0 0] 37))
  have HY1 := Lib.hid ((HY0.out.below hb1).alloc (.cells #[.slice V' vs.length cv', .slice none 0 0] 37))
  have HG1 := Lib.hid (Blk.new w1 37 #[.slice V' vs.length cv', .slice none 0 0])
  have HO1 := Lib.hid (Own.below (Own.base_ ho1 (show w.heap.size + 2 ≤ _ by simp)) ((Below.refl _ _).alloc (Nat.le_refl w1.heap.size) (.cells #[.slice V' vs.length cv', .slice none 0 0] 37)))
  have HVB : Hid (∀ j, (Value.slice V' vs.length cv').ownBlock = some j → j < w1.heap.size) := Lib.hid fun j hj => (ho1.lt j hj).2
  have HB1 := Lib.hid ((HB0.out.trans (hb1.mono (by simp; omega))).alloc (by omega) (.cells #[.slice V' vs.length cv', .slice none 0 0] 37))
  have HGE : Hid (w1.heap.size + 1 = (w1.alloc (.cells #[.slice V' vs.length cv', .slice none 0 0] 37)).heap.size) := Lib.hid (by simp)
  generalize hgs : w1.heap.size = G at *
  clear ho1 hb1 HX0 HY0 HB0 HVL
  go_wp2_with fail
  go_loopw [4] (fun i wr => ∃ (k : Nat) (B : Option Addr) (c : Nat) (hs : List Sl), k ≤ ls.length ∧ i = .int .i64 k ∧ Hid (Blk wr w.heap.size 37 #[.slice V vs.length cv, .slice C ls.length cc]) ∧ Hid (Blk wr (w.heap.size + 1) 37 #[.slice none 0 0, .slice none 0 0]) ∧ Hid (Blk wr G 37 #[.slice V' vs.length cv', .slice B k c]) ∧ Hid (ValE.Own 57 wr (w.heap.size + 2) V' cv' vs) ∧ Hid (LO wr (G + 1) B c hs (ls.take k)) ∧ G + 1 ≤ wr.heap.size ∧ Hid (Below w.heap.size w wr)) (fun i _ => ls.length - (intOf i).toNat)
  case atStart => exact ⟨0, none, 0, [], Nat.zero_le _, rfl, HX1, HY1, HG1, HO1, Lib.hid (LO.nil _ _), by simp; omega, HB1⟩
  case round =>
    clear HX1 HY1 HG1 HO1 HB1 HGE
    obtain ⟨k, B, c, hs, hk, rfl, HX, HY, HG, HO, HL, hsz, HB⟩ := hrel
    have x1 : wr.cell? ⟨w.heap.size, 1, none⟩ = some (.slice C ls.length cc) := HX.out.cell 1
    by_cases hlt : k < ls.length
    · have hlt' : (k : Int) < ls.length := by omega
      obtain ⟨s, hs'⟩ : ∃ x, ls[k]? = some x := ⟨_, List.getElem?_eq_getElem hlt⟩
      have hsz1 := HSZ.out k s hs'
      obtain ⟨bc, oc, A1, c1, rfl, hbc, y0, P1⟩ := HLS.out.at_ hs'
      have HP := Lib.hid ((SlAt_stay P1).step HB.out)
      have y0 := ((bcell HB.out).1 _ _ hbc).trans y0
      have HTK : Hid (ls.take (k + 1) = ls.take k ++ [s]) := Lib.hid (by rw [List.take_add_one, hs']; rfl)
      have HHL : Hid (hs.length = k) := Lib.hid (by rw [HL.out.len, List.length_take]; omega)
      have hbc2 : bc < wr.heap.size := by omega
      have hq0 : w.heap.size < wr.heap.size := by omega
      have hqG : G < wr.heap.size := by omega
      have hn1 : w.heap.size ≠ G := by omega
      have hn2 : G ≠ w.heap.size := by omega
      have hn3 : bc ≠ G := by omega
      have hn4 : G ≠ bc := by omega
      clear P1 hs'
      have g1 : wr.cell? ⟨G, 1, none⟩ = some (.slice B k c) := HG.out.cell 1
      have HNE : Hid (∀ j, (Value.slice B hs.length c).ownBlock = some j → G + 1 ≤ j ∧ j < wr.heap.size) := Lib.hid fun j hj => HL.out.own.lt j hj
      have HV : Hid (∀ W, Below wr.heap.size wr W → Calls Tryz.prog 18 #[.slice A1 s.length c1] W fun e w' => (∃ AV cV, e = .returned (.slice AV s.length cV) ∧ ValE.Own 57 w' wr.heap.size AV cV s) ∧ Below W.heap.size W w' ∧ Below wr.heap.size wr w') :=
        Lib.hid fun W hb => (values_any s (by omega) A1 c1 HP.out.at_.none_ W (HP.out W hb).arg).mono fun e w' ⟨⟨AV, cV, he, ho⟩, hb2⟩ => ⟨⟨AV, cV, he, Own.base_ ho hb.size⟩, hb2, hb.trans (hb2.mono hb.size)⟩
      have STAY : Hid (∀ W, Below wr.heap.size wr W → W.cell? ⟨w.heap.size, 1, none⟩ = some (.slice (some ⟨bc, oc, none⟩) ls.length cc) ∧ W.cell? ⟨bc, oc + k, none⟩ = some (.slice A1 s.length c1) ∧ W.cell? ⟨G, 1, none⟩ = some (.slice B k c) ∧ w.heap.size < W.heap.size ∧ bc < W.heap.size ∧ G < W.heap.size) :=
        Lib.hid fun W hb => ⟨((bcell hb).1 _ _ hq0).trans x1, ((bcell hb).1 _ _ hbc2).trans y0, ((bcell hb).1 _ _ hqG).trans g1, by have := hb.size; omega, by have := hb.size; omega, by have := hb.size; omega⟩
      go_wp2_with fail
      rw [show ({ dst := some 17, op := Op.load 35 (Operand.tmp 16), type := 35, pos := "ref.go:149", after := #[{ on := 0, ground := Ground.data }], guard := none } : Oper) = ldPic from rfl]
      go_region_held3 (fun W => W.cell? ⟨w.heap.size, 1, none⟩ = some (.slice (some ⟨bc, oc, none⟩) ls.length cc) ∧ W.cell? ⟨bc, oc + k, none⟩ = some (.slice A1 s.length c1))
        (go_keep)
        (first
          | (refine step_append_any SlE _ rfl _ _ 35 34 rfl Tryz.underlying35 ls_info rfl (G + 1) B c _ hs [⟨AV, s.length, cV⟩] _ _ _ rfl HHL.out.symm rfl rfl (fun hh => by cases hh) (Own.below (Own.below HL.out.own hX) ((Below.refl _ _).alloc (Nat.le_refl _) _)) (row_arg (K := SlE) rfl rfl) (by simp [maxLen]; have := HHL.out; omega) (by simp; have := HHL.out; omega) (by have := hX.size; simp; omega) ?_; intro A4 c4 w4 hown4 hgrow4
             have hg4 := ((HG.out.below hX).alloc _).kept hgrow4 (fun e => by have := HNE.out _ e.symm; omega)
             have v2 : w4.cell? ⟨G, 1, none⟩ = some (.slice B k c) := hg4.cell 1
             have vf := hg4.frozen 1
             have vl := hg4.lt
             obtain ⟨q0, q1, _⟩ := STAY.out _ (hX.alloc hX.size _)
             have v0 := hgrow4.cell q0 (fun e => by have := HNE.out _ e.symm; dsimp only at this; omega)
             have v1 := hgrow4.cell q1 (fun e => by have := HNE.out _ e.symm; dsimp only at this; omega)
             clear q0 q1)
          | (go_at_call 18; refine (HV.out _ (Below.refl _ _).drew).mono ?_; rintro e wV ⟨⟨AV, cV, rfl, hoV⟩, hbV, hX⟩; obtain ⟨v0, v1, v2, v3, v4, v5⟩ := STAY.out _ hX))
      all_goals
        clear x1 y0 g1
        go_wp2_with fail
        go_roundw
        case rel =>
          have hset := grownBy_setCell1 w4 G 1 (.slice A4 (k + 1) c4)
          refine ⟨k + 1, A4, c4, hs ++ [⟨AV, s.length, cV⟩], by omega, by go_num, ?_, ?_, ?_, ?_, ?_, ?_, ?_⟩
          · exact Lib.hid ((((HX.out.below hX).alloc _).kept hgrow4 (fun e => by have := HNE.out _ e.symm; omega)).kept hset (by simp; omega))
          · exact Lib.hid ((((HY.out.below hX).alloc _).kept hgrow4 (fun e => by have := HNE.out _ e.symm; omega)).kept hset (by simp; omega))
          · exact Lib.hid (hg4.set_ 1 _)
          · have hv : ValE.Own 57 (wV.alloc (.cells #[.slice AV s.length cV] 34)) (w.heap.size + 2) V' cv' vs := Own.below (Own.below HO.out hX) ((Below.refl _ _).alloc (Nat.le_refl _) _)
            have hv4 := hv.kept hgrow4 (own_own_ne hv (show SlE.Own 34 (wV.alloc (.cells #[.slice AV s.length cV] 34)) (G + 1) B c hs from Own.below (Own.below HL.out.own hX) ((Below.refl _ _).alloc (Nat.le_refl _) _)) (by decide))
            refine Lib.hid (hv4.kept hset ?_)
            by_cases hn : (Value.slice V' vs.length cv').ownBlock = none
            · exact .inl hn
            · exact .inr fun e => by have := HVB.out _ e; omega
          · refine Lib.hid (LO.low ?_ hset (fun j hj => by cases hj; omega))
            rw [HTK.out]
            exact HL.out.snoc (hX.alloc hX.size _) rfl (Own.below (Own.base_ hoV (by omega)) ((Below.refl _ _).alloc (Nat.le_refl _) _)) hown4 hgrow4
          · have := hset.size
            have := hgrow4.size
            have := hX.size
            simp at *
            omega
          · exact Lib.hid (((((HB.out.trans (hX.mono (by omega))).alloc (by have := hX.size; omega) _)).grown hgrow4 (by have := hX.size; simp; omega) (fun j hj => by have := HNE.out j hj; omega)).setCell (by simp; omega) _)
        case measure => simp [intOf]; omega
    · have hlt' : ¬ (k : Int) < ls.length := by omega
      obtain rfl : k = ls.length := by omega
      have HE : Hid (LO wr (G + 1) B c hs ls) := Lib.hid (by have := HL.out; rwa [List.take_of_length_le (Nat.le_refl _)] at this)
      have g0 : wr.cell? ⟨G, 0, none⟩ = some (.slice V' vs.length cv') := HG.out.cell 0
      have g1 : wr.cell? ⟨G, 1, none⟩ = some (.slice B ls.length c) := HG.out.cell 1
      have z0 : wr.cell? ⟨w.heap.size + 1, 0, none⟩ = some (.slice none 0 0) := HY.out.cell 0
      have z1 : wr.cell? ⟨w.heap.size + 1, 1, none⟩ = some (.slice none 0 0) := HY.out.cell 1
      have zf0 := HY.out.frozen 0
      have zf1 := HY.out.frozen 1
      go_wp2
      refine bodyPost_ret (results_cell_row rfl _ _ (w.heap.size + 1) 37 #[.slice V' vs.length cv', .slice B ls.length c] (0, 0) _ rfl ((HY.out.set_ 0 _).set_ 1 _) Tryz.underlying37 rfl pic_size) rfl ?_
      have hs1' := (grownBy_setCell1 wr (w.heap.size + 1) 0 (.slice V' vs.length cv'))
      have hs2' := (grownBy_setCell1 (wr.setCell ⟨w.heap.size + 1, 0, none⟩ (.slice V' vs.length cv')) (w.heap.size + 1) 1 (.slice B ls.length c))
      have hgg := hs1'.trans hs2'
      exact ⟨⟨V', cv', B, c, rfl, Own.base_ (Own.low HO.out hgg (fun j hj => by cases hj; omega)) (by omega), hs, (HE.out.low hgg (fun j hj => by cases hj; omega)).base_ (by omega)⟩, (HB.out.setCell (by simp) _).setCell (by simp) _⟩
end Go.Proofs.YtjldkndalcellaaGreatDoor

namespace Go.Proofs.YtjldkndalcellaaGreatDoor
open Go.RowKit Go.El

theorem twoboxes0 {W : World} {a b c d : Value} {t : TypeId} : Stay (fun V => (V.cell? ⟨W.heap.size, 0, none⟩ = some a ∧ V.cell? ⟨W.heap.size, 1, none⟩ = some b) ∧ (V.cell? ⟨W.heap.size + 1, 0, none⟩ = some c ∧ V.cell? ⟨W.heap.size + 1, 1, none⟩ = some d)) ((W.alloc (Obj.cells #[a, b] t)).alloc (Obj.cells #[c, d] t)) := by
  have s := ((box2 (W := W) (v := a) (u := b) (t := t)).alloc (Obj.cells #[c, d] t)).and (box2 (W := W.alloc (Obj.cells #[a, b] t)) (v := c) (u := d) (t := t))
  simpa only [World.size_alloc] using s
set_option maxRecDepth 100000 in
set_option maxHeartbeats 4000000 in
theorem samePic_any (p q : Ce.Pic) (hp : Szp p) (V1 C1 V2 C2 : Option Addr) (cv1 cc1 cv2 cc2 : Nat) (w : World) (h1 : PicAt w V1 cv1 C1 p) (h2 : PicAt w V2 cv2 C2 q) :
    Calls Tryz.prog 22 #[.agg #[.slice V1 p.vals.length cv1, .slice C1 p.cells.length cc1], .agg #[.slice V2 q.vals.length cv2, .slice C2 q.cells.length cc2]] w fun e w' => e = .returned (.bool (decide (p = q))) ∧ Below w.heap.size w w' := by
  obtain ⟨vs, ls⟩ := p
  obtain ⟨us, ms⟩ := q
  have hz1 := hp.vals
  have hz2 := hp.many
  have HSZ := Lib.hid hp.each
  have HP1 := Lib.hid h1.stay
  have HP2 := Lib.hid h2.stay
  have hv1 := h1.v.arg
  have hv2 := h2.v.arg
  dsimp only at hz1 hz2 HSZ hv1 hv2 ⊢
  have hbx : Below w.heap.size w ((w.alloc (.cells #[.slice V1 vs.length cv1, .slice C1 ls.length cc1] 37)).alloc (.cells #[.slice V2 us.length cv2, .slice C2 ms.length cc2] 37)) := ((Below.refl _ _).alloc (Nat.le_refl _) _).alloc (by simp) _
  have HX := Lib.hid (twoboxes0 (W := w) (a := .slice V1 vs.length cv1) (b := .slice C1 ls.length cc1) (c := .slice V2 us.length cv2) (d := .slice C2 ms.length cc2) (t := 37))
  have hcall := sameValues_any vs us (by unfold maxLen; omega) V1 V2 cv1 cv2 _ (hv1.below hbx) (hv2.below hbx)
  have HB0 := Lib.hid hbx
  have hll : (ls.length : Int) ≤ 9223372036854775807 := by omega
  have hpq : decide ((⟨vs, ls⟩ : Ce.Pic) = ⟨us, ms⟩) = (decide (vs = us) && decide (ls = ms)) := by
    rw [Bool.eq_iff_iff]; simp
  rw [hpq]
  clear hp h1 h2 hv1 hv2 hbx hpq
  cases hq : decide (vs = us) with
  | false =>
    rw [hq] at hcall
    have HC := Lib.hid hcall
    obtain ⟨⟨x0, x1⟩, y0, y1⟩ := HX.out.at_
    clear hcall hq
    rw [Bool.false_and]
    go_enter Tryz.func22, Tryz.ntmps22
    go_wp2_with fail
    refine HC.out.mono ?_
    rintro e w1 ⟨rfl, hb1⟩
    go_wp2
    go_ret
    exact ⟨rfl, HB0.out.trans (hb1.mono HB0.out.size)⟩
  | true =>
    rw [hq] at hcall
    have HC := Lib.hid hcall
    rw [Bool.true_and]
    clear hcall hq
    generalize hn1 : ls.length = n at *
    generalize hn2 : ms.length = n2 at *
    have HN1 := Lib.hid hn1
    have HN2 := Lib.hid hn2
    by_cases hl : n = n2
    · subst hl
      generalize hR : decide (ls = ms) = R
      have HR := Lib.hid hR
      clear hn1 hn2 hR
      obtain ⟨⟨x0, x1⟩, y0, y1⟩ := HX.out.at_
      go_enter Tryz.func22, Tryz.ntmps22
      go_wp2_with fail
      refine HC.out.mono ?_
      rintro e w1 ⟨rfl, hb1⟩
      have HX1 := Lib.hid (HX.out.step hb1)
      have HB1 := Lib.hid (HB0.out.trans (hb1.mono HB0.out.size))
      clear x0 x1 y0 y1 hb1 HX HB0 HC
      obtain ⟨⟨x0, x1⟩, y0, y1⟩ := HX1.out.at_
      go_wp2_with fail
      clear x0 x1 y0 y1
      go_loopw [5] (fun i wr => ∃ k : Nat, k ≤ n ∧ i = .int .i64 k ∧ Hid (ls.take k = ms.take k) ∧ Hid (Stay (fun V => (V.cell? ⟨w.heap.size, 0, none⟩ = some (.slice V1 vs.length cv1) ∧ V.cell? ⟨w.heap.size, 1, none⟩ = some (.slice C1 n cc1)) ∧ (V.cell? ⟨w.heap.size + 1, 0, none⟩ = some (.slice V2 us.length cv2) ∧ V.cell? ⟨w.heap.size + 1, 1, none⟩ = some (.slice C2 n cc2))) wr) ∧ Hid (Below w.heap.size w wr)) (fun i _ => n - (intOf i).toNat)
      case atStart => exact ⟨0, Nat.zero_le _, rfl, Lib.hid rfl, HX1, HB1⟩
      case round =>
        clear HX1 HB1
        obtain ⟨k, hk, rfl, HK, HX, HB⟩ := hrel
        obtain ⟨⟨_, x1⟩, _, y1⟩ := HX.out.at_
        by_cases hlt : k < n
        · have hlt' : (k : Int) < n := by omega
          obtain ⟨s, hs⟩ : ∃ x, ls[k]? = some x := ⟨_, List.getElem?_eq_getElem (by rw [HN1.out]; exact hlt)⟩
          obtain ⟨u, hu⟩ : ∃ x, ms[k]? = some x := ⟨_, List.getElem?_eq_getElem (by rw [HN2.out]; exact hlt)⟩
          have hsz := HSZ.out k s hs
          obtain ⟨b1, o1, A1, c1, rfl, hb1, z1, P1⟩ := (HP1.out.at_).c.at_ hs
          obtain ⟨b2, o2, A2, c2, rfl, hb2, z2, P2⟩ := (HP2.out.at_).c.at_ hu
          have S1 := Lib.hid (((Stay.cell z1).step HB.out).and ((Stay.cell z2).step HB.out))
          have S2 := Lib.hid (((SlAt_stay P1).step HB.out).and ((SlAt_stay P2).step HB.out))
          have hne : Hid (s ≠ u → R = false) := Lib.hid fun hf => by
            rw [← HR.out]
            exact decide_eq_false fun e => hf (by rw [e, hu] at hs; exact (Option.some.inj hs).symm)
          have heq : Hid (s = u → ls.take (k + 1) = ms.take (k + 1)) := Lib.hid fun hf => by
            rw [List.take_add_one, List.take_add_one, HK.out, hs, hu, hf]
          obtain ⟨z1', z2'⟩ := S1.out.at_
          have HCV : Hid (∀ W, Below wr.heap.size wr W → Calls Tryz.prog 25 #[.slice A1 s.length c1, .slice A2 u.length c2] W fun e w' => e = .returned (.bool (decide (s = u))) ∧ Below W.heap.size W w') :=
            Lib.hid fun W hb => sameValues_any s u (by unfold maxLen; omega) A1 A2 c1 c2 W (S2.out W hb).1.arg (S2.out W hb).2.arg
          have hq0 : w.heap.size < wr.heap.size := lt_of_cell x1
          have hq1 : w.heap.size + 1 < wr.heap.size := lt_of_cell y1
          clear z1 z2 P1 P2 hs hu
          have HD : Hid ((decide (s = u) = true → s = u) ∧ (decide (s = u) = false → s ≠ u)) := Lib.hid ⟨of_decide_eq_true, of_decide_eq_false⟩
          generalize decide (s = u) = q at HCV HD
          go_wp2_with fail
          cases q with
          | false =>
            have HE := Lib.hid (hne.out (HD.out.2 rfl))
            go_region_held3 (fun W => W.cell? ⟨w.heap.size, 1, none⟩ = some (.slice (some ⟨b1, o1, none⟩) n cc1) ∧ W.cell? ⟨w.heap.size + 1, 1, none⟩ = some (.slice (some ⟨b2, o2, none⟩) n cc2) ∧ W.cell? ⟨b1, o1 + k, none⟩ = some (.slice A1 s.length c1) ∧ W.cell? ⟨b2, o2 + k, none⟩ = some (.slice A2 u.length c2))
              (go_keep)
              (first
                | (go_at_call 25; refine (HCV.out _ (Below.refl _ _).drew).mono ?_; rintro e w4 ⟨rfl, hb4⟩
                   have hb5 : Below wr.heap.size wr w4 := (Below.refl _ _).drew.trans hb4
                   obtain ⟨⟨_, v1⟩, _, v2⟩ := HX.out _ hb5
                   obtain ⟨v3, v4⟩ := S1.out _ hb5))
            all_goals
              go_wp2_with fail
              go_ret
              exact ⟨by rw [HE.out]; rfl, HB.out.trans (hb5.mono HB.out.size)⟩
          | true =>
            have HE := Lib.hid (heq.out (HD.out.1 rfl))
            go_region_held3 (fun W => W.cell? ⟨w.heap.size, 1, none⟩ = some (.slice (some ⟨b1, o1, none⟩) n cc1) ∧ W.cell? ⟨w.heap.size + 1, 1, none⟩ = some (.slice (some ⟨b2, o2, none⟩) n cc2) ∧ W.cell? ⟨b1, o1 + k, none⟩ = some (.slice A1 s.length c1) ∧ W.cell? ⟨b2, o2 + k, none⟩ = some (.slice A2 u.length c2))
              (go_keep)
              (first
                | (go_at_call 25; refine (HCV.out _ (Below.refl _ _).drew).mono ?_; rintro e w4 ⟨rfl, hb4⟩
                   have hb5 : Below wr.heap.size wr w4 := (Below.refl _ _).drew.trans hb4
                   obtain ⟨⟨_, v1⟩, _, v2⟩ := HX.out _ hb5
                   obtain ⟨v3, v4⟩ := S1.out _ hb5))
            all_goals
              clear x1 y1
              go_wp2_with fail
              go_roundw
              case rel => exact ⟨k + 1, by omega, by go_num, HE, Lib.hid (HX.out.step hb5), Lib.hid (HB.out.trans (hb5.mono HB.out.size))⟩
              case measure => simp [intOf]; omega
        · have hlt' : ¬ (k : Int) < n := by omega
          have HE : Hid (R = true) := Lib.hid (by
            rw [← HR.out]
            refine decide_eq_true ?_
            have e := HK.out
            rwa [List.take_of_length_le (by rw [HN1.out]; omega), List.take_of_length_le (by rw [HN2.out]; omega)] at e)
          go_wp2
          go_ret
          exact ⟨by rw [HE.out]; rfl, HB.out⟩
    · have hl' : ((n : Int) == n2) = false := beq_eq_false_iff_ne.2 (by omega)
      have hl2 : ((n : Int) != n2) = true := by rw [bne, hl']; rfl
      rw [decide_eq_false (fun e => hl (by rw [← hn1, ← hn2, e]))]
      clear hn1 hn2
      obtain ⟨⟨x0, x1⟩, y0, y1⟩ := HX.out.at_
      go_enter Tryz.func22, Tryz.ntmps22
      go_wp2_with fail
      refine HC.out.mono ?_
      rintro e w1 ⟨rfl, hb1⟩
      have HX1 := Lib.hid (HX.out.step hb1)
      have HB1 := Lib.hid (HB0.out.trans (hb1.mono HB0.out.size))
      clear x0 x1 y0 y1 hb1
      obtain ⟨⟨x0, x1⟩, y0, y1⟩ := HX1.out.at_
      go_wp2
      go_ret
      exact ⟨rfl, HB1.out⟩
end Go.Proofs.YtjldkndalcellaaGreatDoor

namespace Ce
/-- the digits of a number -/
def decN : Nat → Nat → List UInt8
  | 0, _ => []
  | f + 1, n => if n < 10 then [UInt8.ofNat (48 + n)] else decN f (n / 10) ++ [UInt8.ofNat (48 + n % 10)]
def decimal (n : Int) : List UInt8 := if n < 0 then 45 :: decN 20 n.natAbs else decN 20 n.natAbs
def badText (n : Int) : List UInt8 :=
  if n = 1 then [122, 101, 114, 111, 33] else if n = 2 then [114, 97, 110, 103, 101, 33] else if n = 3 then [105, 110, 100, 101, 120, 33] else if n = 4 then [115, 105, 122, 101, 33] else if n = 5 then [107, 105, 110, 100, 33] else []
def joinT (f : V → List UInt8) : List V → List UInt8
  | [] => []
  | [v] => f v
  | v :: r => f v ++ [44, 32] ++ joinT f r
/-- the text of a value of a picture, whole -/
def text (p : Pic) : Nat → V → List UInt8
  | d, v =>
    if v.k = 1 then decimal v.n
    else if v.k = 2 then (if v.n = 1 then [116, 114, 117, 101] else [102, 97, 108, 115, 101])
    else if v.k = 3 then [110, 105, 108]
    else if v.k = 5 then badText v.n
    else if v.k = 4 then (match d with | 0 => [46, 46] | d + 1 => [91] ++ joinT (text p d) (p.cells.getD v.n.toNat []) ++ [93])
    else [63]
def showP (p : Pic) (deep : Int) : List UInt8 × Nat :=
  if !isPic p then ([], 4)
  else if !inn deep 0 12 then ([], 3)
  else if 2500 < (joinT (text p deep.toNat) p.vals).length then ([], 5)
  else (joinT (text p deep.toNat) p.vals, 0)
/-- the integers of a stream, and what is behind them -/
def streamK (p : Pic) : Nat → V → List Int × V
  | 0, v => ([], v)
  | f + 1, v =>
    if v.k ≠ 4 then ([], v)
    else match p.cells.getD v.n.toNat [] with
      | [a, b] => if a.k ≠ 1 then ([], v) else (a.n :: (streamK p f b).1, (streamK p f b).2)
      | _ => ([], v)
def stream (p : Pic) (n : Int) : List Int × V × Nat :=
  if !isPic p then ([], hole, 4)
  else if !inn n 0 (p.vals.length - 1) then ([], hole, 3)
  else ((streamK p 400 (p.vals.getD n.toNat hole)).1, (streamK p 400 (p.vals.getD n.toNat hole)).2, 0)
def holesOf (i : Nat) : Nat → List V → List (Int × Int)
  | _, [] => []
  | k, v :: r => (if v.k = 0 then [((i : Int), (k : Int))] else []) ++ holesOf i (k + 1) r
def holesK : Nat → Mem → List (Int × Int)
  | _, [] => []
  | i, s :: r => holesOf i 0 s.cells ++ holesK (i + 1) r
def holes (m : Mem) : List (Int × Int) := if memOk m then holesK 0 m else []
/-- the rest of a stream behind so many of its integers -/
def rest (first k many : Nat) (closed : Bool) : V := if k < many then vref (first + k) else if closed then vnil else hole
def chain (first many : Nat) (closed : Bool) : Nat → List Int → Mem
  | _, [] => []
  | k, n :: r => ⟨[vint n, rest first (k + 1) many closed], []⟩ :: chain first many closed (k + 1) r
def buildK : Nat → List (List Int) → List Bool → Mem × List V
  | first, l :: ls, c :: cs => (chain first l.length c 0 l ++ (buildK (first + l.length) ls cs).1, rest first 0 l.length c :: (buildK (first + l.length) ls cs).2)
  | _, _, _ => ([], [])
def build (l : List (List Int)) (cs : List Bool) : Mem × List V × Nat :=
  if l.length ≠ cs.length then ([], [], 2)
  else if !(l.all fun x => x.all fun n => inn n (-1000000000) 1000000000) then ([], [], 3)
  else if 400 < (l.map List.length).sum then ([], [], 5)
  else ((buildK 0 l cs).1, (buildK 0 l cs).2, 0)
/-- pairs of values compared; the pairs of structures that were met -/
def belowL : List V → List V → List (Int × Int) → Option (List (Int × Int))
  | [], [], met => some met
  | v :: l, w :: m, met =>
    if v.k = 0 then belowL l m met
    else if v.k ≠ 4 ∨ w.k ≠ 4 then (if v = w then belowL l m met else none)
    else if met.any fun x => decide (x.1 = v.n) != decide (x.2 = w.n) then none
    else belowL l m (if met.any fun x => decide (x.1 = v.n) then met else met ++ [(v.n, w.n)])
  | _, _, _ => none
def belowK (a b : Pic) : Nat → Nat → List (Int × Int) → Bool
  | 0, _, _ => true
  | f + 1, i, met => match met[i]? with
    | none => true
    | some x => match belowL (a.cells.getD x.1.toNat []) (b.cells.getD x.2.toNat []) met with
      | none => false
      | some met' => belowK a b f (i + 1) met'
def below (a b : Pic) : Bool × Nat :=
  if !(isPic a && isPic b) then (false, 4)
  else match belowL a.vals b.vals [] with
    | none => (false, 0)
    | some met => (belowK a b 401 0 met, 0)
end Ce
namespace Go.Proofs.YtjldkndalcellaaGreatDoor
open Go.RowKit Go.El

/-- a memory as a value: its slice's address and room -/
structure MemV (W : World) (A : Option Addr) (c : Nat) (m : Ce.Mem) : Prop where
  at_ : MemAt W A m
  none_ : A = none → c = 0
  le : m.length ≤ c
structure PicV (W : World) (V : Option Addr) (cv : Nat) (C : Option Addr) (cc : Nat) (p : Ce.Pic) : Prop where
  at_ : PicAt W V cv C p
  none_ : C = none → cc = 0
  le : p.cells.length ≤ cc
theorem MemV.below {W W' : World} {A : Option Addr} {c : Nat} {m : Ce.Mem} (h : MemV W A c m) (hb : Below W.heap.size W W') : MemV W' A c m := ⟨h.at_.below hb, h.none_, h.le⟩
theorem PicV.below {W W' : World} {V C : Option Addr} {cv cc : Nat} {p : Ce.Pic} (h : PicV W V cv C cc p) (hb : Below W.heap.size W W') : PicV W' V cv C cc p := ⟨h.at_.below hb, h.none_, h.le⟩
theorem MemV.stay {W : World} {A : Option Addr} {c : Nat} {m : Ce.Mem} (h : MemV W A c m) : Stay (fun V => MemV V A c m) W := fun _ hb => h.below hb
theorem PicV.stay {W : World} {V C : Option Addr} {cv cc : Nat} {p : Ce.Pic} (h : PicV W V cv C cc p) : Stay (fun W => PicV W V cv C cc p) W := fun _ hb => h.below hb
theorem MO.memV {W : World} {base : Nat} {B : Option Addr} {c : Nat} {hs : List (Sl × Sl)} {m : Ce.Mem} (h : MO W base B c hs m) : MemV W B c m := ⟨h.at_, (Own.le h.own).2, by rw [← h.len]; exact (Own.le h.own).1⟩
theorem LO.picV {W : World} {base : Nat} {V : Option Addr} {cv : Nat} {B : Option Addr} {c : Nat} {hs : List Sl} {p : Ce.Pic} (h0 : ValE.Own 57 W base V cv p.vals) (h : LO W base B c hs p.cells) : PicV W V cv B c p :=
  ⟨⟨SlAt.of_own h0, h.at_⟩, (Own.le h.own).2, by rw [← h.len]; exact (Own.le h.own).1⟩

/-! what is asked of the program's functions -/
def bytesOf (l : List UInt8) : ByteArray := ⟨l.toArray⟩
def PrimC : Prop := ∀ (s : ByteArray) (l : List Ce.V) (A : Option Addr) (cap : Nat) (w : World), s.size ≤ 100 → l.length ≤ 100 → SlAt ValE w ⟨A, l.length, cap⟩ l →
  Calls Tryz.prog 37 #[.string s, .slice A l.length cap] w fun e w' => e = .returned (.tuple #[.agg #[.int .u8 (Ce.prim s.data.toList l).1.k, .int .i64 (Ce.prim s.data.toList l).1.n], .int .i64 (Ce.prim s.data.toList l).2]) ∧ Below w.heap.size w w'
def PlayC : Prop := ∀ (m : Ce.Mem) (l : List Ce.Op) (A B : Option Addr) (c c2 : Nat) (w : World), Sz m → l.length ≤ 100 → MemV w A c m → SlAt OpE w ⟨B, l.length, c2⟩ l →
  Calls Tryz.prog 40 #[.agg #[.slice A m.length c], .slice B l.length c2] w fun e w' => (∃ A' c' G cg T ct, e = .returned (.tuple #[.agg #[.slice A' (Ce.play m l).1.length c'], .slice G (Ce.play m l).2.1.length cg, .slice T (Ce.play m l).2.2.1.length ct, .int .i64 (Ce.play m l).2.2.2.1, .int .i64 (Ce.play m l).2.2.2.2]) ∧
    MemV w' A' c' (Ce.play m l).1 ∧ SlAt ValE w' ⟨G, (Ce.play m l).2.1.length, cg⟩ (Ce.play m l).2.1 ∧ SlAt TdE w' ⟨T, (Ce.play m l).2.2.1.length, ct⟩ (Ce.play m l).2.2.1) ∧ Below w.heap.size w w'
/-- the operations of the law's proof that it is awake -/
def opsL : List Ce.Op := [⟨1, Ce.vint 2, Ce.hole, Ce.hole, 0⟩, ⟨3, Ce.vref 0, Ce.vint 1, Ce.hole, 7⟩, ⟨2, Ce.vref 0, Ce.vint 1, Ce.vint 5, 0⟩, ⟨3, Ce.vref 0, Ce.vint 2, Ce.hole, 8⟩]
/-- Play, of these operations -/
def PlayA : Prop := ∀ (m : Ce.Mem) (l : List Ce.Op) (A B : Option Addr) (c c2 : Nat) (w : World), m = [] → l = opsL → Sz m → l.length ≤ 100 → MemV w A c m → SlAt OpE w ⟨B, l.length, c2⟩ l →
  Calls Tryz.prog 40 #[.agg #[.slice A m.length c], .slice B l.length c2] w fun e w' => (∃ A' c' G cg T ct, e = .returned (.tuple #[.agg #[.slice A' (Ce.play m l).1.length c'], .slice G (Ce.play m l).2.1.length cg, .slice T (Ce.play m l).2.2.1.length ct, .int .i64 (Ce.play m l).2.2.2.1, .int .i64 (Ce.play m l).2.2.2.2]) ∧
    MemV w' A' c' (Ce.play m l).1 ∧ SlAt ValE w' ⟨G, (Ce.play m l).2.1.length, cg⟩ (Ce.play m l).2.1 ∧ SlAt TdE w' ⟨T, (Ce.play m l).2.2.1.length, ct⟩ (Ce.play m l).2.2.1) ∧ Below w.heap.size w w'
def DrawC : Prop := ∀ (m : Ce.Mem) (l : List Ce.V) (A B : Option Addr) (c c2 : Nat) (w : World), Sz m → l.length ≤ 1000 → MemV w A c m → SlAt ValE w ⟨B, l.length, c2⟩ l →
  Calls Tryz.prog 20 #[.agg #[.slice A m.length c], .slice B l.length c2] w fun e w' => (∃ V cv C cc, e = .returned (.tuple #[.agg #[.slice V (Ce.draw m l).1.vals.length cv, .slice C (Ce.draw m l).1.cells.length cc], .int .i64 (Ce.draw m l).2]) ∧ PicV w' V cv C cc (Ce.draw m l).1) ∧ Below w.heap.size w w'
/-- a picture whose text asks no table: neither whole numbers nor VBads -/
def Simple (p : Ce.Pic) : Prop := (∀ v ∈ p.vals, v.k ≠ 1 ∧ v.k ≠ 5) ∧ ∀ s ∈ p.cells, ∀ v ∈ s, v.k ≠ 1 ∧ v.k ≠ 5
def ShowC : Prop := ∀ (p : Ce.Pic) (deep : Int) (V C : Option Addr) (cv cc : Nat) (w : World), Szp p → Simple p → PicV w V cv C cc p →
  Calls Tryz.prog 44 #[.agg #[.slice V p.vals.length cv, .slice C p.cells.length cc], .int .i64 deep] w fun e w' => e = .returned (.tuple #[.string (bytesOf (Ce.showP p deep).1), .int .i64 (Ce.showP p deep).2]) ∧ Below w.heap.size w w'
structure Prg : Prop where
  prim : PrimC
  play : PlayA
  draw : DrawC
  show_ : ShowC

end Go.Proofs.YtjldkndalcellaaGreatDoor

namespace Go.Proofs.YtjldkndalcellaaGreatDoor
open Go.RowKit Go.El

theorem slat_row {α : Type} {K : El α} {W : World} {t : TypeId} {cs : Array Value} {l : List α} {g n : Nat} (hg : g = W.heap.size) (h : cs.toList = K.row l) (hn : n = l.length) : SlAt K (W.alloc (.cells cs t)) ⟨some ⟨g, 0, none⟩, n, n⟩ l :=
  ⟨hn, row_arg hg h, (by intro e; cases e), Nat.le_refl _⟩
theorem memNil (W : World) : MemV W none 0 [] := ⟨⟨[], rfl, Arg.nil _ _, fun i x s h _ => by simp at h⟩, fun _ => rfl, Nat.le_refl _⟩
theorem slNil {α : Type} (K : El α) (W : World) : SlAt K W ⟨none, 0, 0⟩ [] := ⟨rfl, Arg.nil _ _, fun _ => rfl, Nat.le_refl _⟩
theorem memLit (W : World) : MemAt ((W.alloc (.cells #[.int .u8 0, .int .i64 0, .int .u8 1, .int .i64 5] 57)).alloc (.cells #[.slice (some ⟨W.heap.size, 0, none⟩) 2 2, .slice none 0 0] 61)) (some ⟨W.heap.size + 1, 0, none⟩) [⟨[Ce.hole, Ce.vint 5], []⟩] := by
  refine ⟨[(⟨some ⟨W.heap.size, 0, none⟩, 2, 2⟩, ⟨none, 0, 0⟩)], rfl, row_arg (K := StE) (by simp) rfl, fun i x s h1 h2 => ?_⟩
  cases i with
  | zero =>
    simp at h1 h2
    subst h1 h2
    have hv : SlAt ValE (W.alloc (.cells #[.int .u8 0, .int .i64 0, .int .u8 1, .int .i64 5] 57)) ⟨some ⟨W.heap.size, 0, none⟩, 2, 2⟩ [Ce.hole, Ce.vint 5] := slat_row rfl rfl rfl
    exact ⟨hv.below ((Below.refl _ _).alloc (Nat.le_refl _) _), slNil _ _⟩
  | succ i => simp at h1
def tangledM : Ce.Mem := [⟨[Ce.vref 1], []⟩, ⟨[Ce.vref 1, Ce.hole], []⟩]
theorem memTwo (W : World) (g b1 b2 : Nat) (h0 : StE.Arg W (some ⟨g, 0, none⟩) [(⟨some ⟨b1, 0, none⟩, 1, 1⟩, ⟨none, 0, 0⟩), (⟨some ⟨b2, 0, none⟩, 2, 2⟩, ⟨none, 0, 0⟩)])
    (h1 : ValE.Arg W (some ⟨b1, 0, none⟩) [Ce.vref 1]) (h2 : ValE.Arg W (some ⟨b2, 0, none⟩) [Ce.vref 1, Ce.hole]) : MemV W (some ⟨g, 0, none⟩) 2 tangledM := by
  refine ⟨⟨_, rfl, h0, fun i x s e1 e2 => ?_⟩, (by intro e; cases e), Nat.le_refl _⟩
  match i, e1, e2 with
  | 0, e1, e2 =>
    simp [tangledM] at e1 e2
    subst e1 e2
    exact ⟨⟨rfl, h1, (by intro e; cases e), Nat.le_refl _⟩, slNil _ _⟩
  | 1, e1, e2 =>
    simp [tangledM] at e1 e2
    subst e1 e2
    exact ⟨⟨rfl, h2, (by intro e; cases e), Nat.le_refl _⟩, slNil _ _⟩
  | i + 2, e1, _ => simp at e1
def drawnP : Ce.Pic := ⟨[Ce.vref 0, Ce.vref 1, Ce.vref 0], [[Ce.vref 0, Ce.hole], [Ce.vref 0]]⟩
theorem picLit (W : World) (v c b1 b2 : Nat) (h0 : ValE.Arg W (some ⟨v, 0, none⟩) [Ce.vref 0, Ce.vref 1, Ce.vref 0]) (h1 : SlE.Arg W (some ⟨c, 0, none⟩) [⟨some ⟨b1, 0, none⟩, 2, 2⟩, ⟨some ⟨b2, 0, none⟩, 1, 1⟩])
    (h2 : ValE.Arg W (some ⟨b1, 0, none⟩) [Ce.vref 0, Ce.hole]) (h3 : ValE.Arg W (some ⟨b2, 0, none⟩) [Ce.vref 0]) : PicAt W (some ⟨v, 0, none⟩) 3 (some ⟨c, 0, none⟩) drawnP := by
  refine ⟨⟨rfl, h0, (by intro e; cases e), Nat.le_refl _⟩, _, rfl, h1, fun i x s e1 e2 => ?_⟩
  match i, e1, e2 with
  | 0, e1, e2 =>
    simp [drawnP] at e1 e2
    subst e1 e2
    exact ⟨rfl, h2, (by intro e; cases e), Nat.le_refl _⟩
  | 1, e1, e2 =>
    simp [drawnP] at e1 e2
    subst e1 e2
    exact ⟨rfl, h3, (by intro e; cases e), Nat.le_refl _⟩
  | i + 2, e1, _ => simp at e1

theorem blk_arg {α : Type} {K : El α} {W : World} {g : Nat} {t : TypeId} {cs : Array Value} {l : List α} (h : Blk W g t cs) (hr : cs.toList = K.row l) : K.Arg W (some ⟨g, 0, none⟩) l :=
  ⟨fun _ => ⟨_, 0, rfl, in_of_row fun j u hj => by rw [h.cell, ← Array.getElem?_toList, hr]; exact hj⟩⟩
set_option maxRecDepth 100000 in
theorem tangled_any (w : World) : Calls Tryz.prog 43 #[] w fun e w' => (∃ g, e = .returned (.agg #[.slice (some ⟨g, 0, none⟩) 2 2]) ∧ MemV w' (some ⟨g, 0, none⟩) 2 tangledM) ∧ Below w.heap.size w w' := by
  have HREF := Lib.hid (fun k W => mkRef_any k W)
  have HZ := Lib.hid (Blk.new w 24 #[.slice none 0 0])
  have HB : Hid (Below w.heap.size w (w.alloc (.cells #[.slice none 0 0] 24))) := Lib.hid ((Below.refl _ _).alloc (Nat.le_refl _) _)
  go_enter Tryz.func43, Tryz.ntmps43
  go_wp2_with fail
  refine (HREF.out 1 _).mono ?_
  rintro e w1 ⟨rfl, hb1⟩
  have HZ1 := Lib.hid ((HZ.out.below hb1).alloc (.cells #[.int .u8 4, .int .i64 1] 57))
  have HB1 := Lib.hid ((HB.out.trans (hb1.mono HB.out.size)).alloc (HB.out.trans (hb1.mono HB.out.size)).size (.cells #[.int .u8 4, .int .i64 1] 57))
  have S1 := Lib.hid (Blk.new w1 57 #[.int .u8 4, .int .i64 1])
  have hl1 : w.heap.size < w1.heap.size := by have := hb1.size; simp at this; omega
  clear hb1 HZ HB
  go_wp2_with fail
  refine (HREF.out 1 _).mono ?_
  rintro e w2 ⟨rfl, hb2⟩
  have HZ2 := Lib.hid (HZ1.out.below hb2)
  have HB2 := Lib.hid (HB1.out.trans (hb2.mono HB1.out.size))
  have S1 := Lib.hid (S1.out.below hb2)
  clear hb2 HZ1 HB1
  have z0 : w2.cell? ⟨w.heap.size, 0, none⟩ = some (.slice none 0 0) := HZ2.out.cell 0
  have zf0 := HZ2.out.frozen 0
  have zl := HZ2.out.lt
  go_wp2
  have HS : Blk (w2.setCell ⟨w.heap.size, 0, none⟩ (.slice (some ⟨w2.heap.size + 1, 0, none⟩) 2 2)) w1.heap.size 57 #[.int .u8 4, .int .i64 1] := S1.out.kept (grownBy_setCell1 w2 w.heap.size 0 _) (by simp; omega)
  have HG := HZ2.out.set_ 0 (.slice (some ⟨w2.heap.size + 1, 0, none⟩) 2 2)
  have hsz : (w2.setCell ⟨w.heap.size, 0, none⟩ (.slice (some ⟨w2.heap.size + 1, 0, none⟩) 2 2)).heap.size = w2.heap.size := by simp [World.setCell]
  have hbs : Below w.heap.size w (w2.setCell ⟨w.heap.size, 0, none⟩ (.slice (some ⟨w2.heap.size + 1, 0, none⟩) 2 2)) := HB2.out.setCell (by simp) _
  generalize w2.setCell ⟨w.heap.size, 0, none⟩ (.slice (some ⟨w2.heap.size + 1, 0, none⟩) 2 2) = W at *
  rw [← hsz]
  rw [← hsz] at HG
  have hlw : w.heap.size < W.heap.size := by omega
  refine bodyPost_ret (results_cell_row rfl _ _ w.heap.size 24 #[.slice (some ⟨W.heap.size + 1, 0, none⟩) 2 2] (0, 0) _ rfl ((HG.alloc _).alloc _) Tryz.underlying24 rfl mem_size) rfl ?_
  refine ⟨⟨_, rfl, memTwo _ _ w1.heap.size W.heap.size (row_arg (K := StE) (by simp) rfl) (blk_arg ((HS.alloc _).alloc _) rfl) (blk_arg ((Blk.new W _ _).alloc _) rfl)⟩, (hbs.alloc (by omega) _).alloc (by simp; omega) _⟩
end Go.Proofs.YtjldkndalcellaaGreatDoor
