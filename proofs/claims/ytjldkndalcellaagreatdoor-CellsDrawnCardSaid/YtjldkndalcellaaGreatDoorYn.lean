/- Layer 6, the program: the work; newWork of an empty memory; takes. Layer 6, the program: one structure of two cells made. Layer 6, the program: a cell by its number; noCell; read. Layer 6, the program: read. -/
import Derived.Test.YtjldkndalcellaaGreatDoorYj
import Derived.Test.YtjldkndalcellaaGreatDoorYg
import Derived.Deep.DeepCutAuto
import Derived.Deep.RegionLaw
namespace Go.Proofs.YtjldkndalcellaaGreatDoor
open Go.RowKit Go.El

/-- the work's block: its memory's row, how many wait, who was told -/
structure Work (W : World) (B b : Nat) (A : Option Addr) (c : Nat) (hs : List (Sl × Sl)) (n : Int) (T : Option Addr) (ct : Nat) (ts : List Ce.Td) : Prop where
  hB : B ≤ b
  blk : Blk W b 113 #[.slice A hs.length c, .int .i64 n, .slice T ts.length ct]
  sts : StE.Own 61 W B A c hs
  tds : TdE.Own 79 W B T ct ts
theorem Work.below {W W' : World} {B b : Nat} {A : Option Addr} {c : Nat} {hs : List (Sl × Sl)} {n : Int} {T : Option Addr} {ct : Nat} {ts : List Ce.Td} (h : Work W B b A c hs n T ct ts) (hb : Below W.heap.size W W') : Work W' B b A c hs n T ct ts :=
  ⟨h.hB, h.blk.below hb, Own.below h.sts hb, Own.below h.tds hb⟩

set_option maxRecDepth 100000 in
set_option maxHeartbeats 1000000 in
theorem copied_nil (A : Option Addr) (c : Nat) (w : World) :
    Calls Tryz.prog 56 #[.agg #[.slice A 0 c]] w fun e w' => e = .returned (.agg #[.slice none 0 0]) ∧ Below w.heap.size w w' := by
  have hb1 : Below w.heap.size w (w.alloc (.cells #[.slice A 0 c] 24)) := (Below.refl _ _).alloc (Nat.le_refl _) _
  have HS0 := Lib.hid (((Boxed.new w 24 (.slice A 0 c)).alloc (.cells #[.slice none 0 0] 24)).alloc (.cells #[.slice none 0 0] 24))
  have HB0 := Lib.hid ((hb1.alloc (by simp) (.cells #[.slice none 0 0] 24)).alloc (by simp; omega) (.cells #[.slice none 0 0] 24))
  have HX0 := Lib.hid ((Boxed.new (w.alloc (Obj.cells #[.slice A 0 c] 24)) 24 (.slice none 0 0)).alloc (.cells #[.slice none 0 0] 24))
  have HY0 := Lib.hid (Boxed.new ((w.alloc (Obj.cells #[.slice A 0 c] 24)).alloc (.cells #[.slice none 0 0] 24)) 24 (.slice none 0 0))
  simp only [World.size_alloc] at HX0 HY0
  clear hb1
  have s0 := HS0.out.cell
  go_enter Tryz.func56, Tryz.ntmps56
  go_wp2_with fail
  go_loopw [9] (fun i wr => i = .int .i64 0 ∧ Hid (Boxed wr (w.heap.size + 1) 24 (.slice none 0 0)) ∧ Hid (Boxed wr (w.heap.size + 1 + 1) 24 (.slice none 0 0)) ∧ Hid (Below w.heap.size w wr)) (fun _ _ => 0)
  case atStart => exact ⟨rfl, HX0, HY0, HB0⟩
  case round =>
    clear HS0 HX0 HY0 HB0 s0
    obtain ⟨rfl, HX, HY, HB⟩ := hrel
    have y0 := HY.out.cell
    have z0 := HX.out.cell
    have zf := HX.out.frozen
    go_wp2
    refine bodyPost_ret (results_cell_row rfl _ _ (w.heap.size + 1) 24 #[.slice none 0 0] (0, 0) _ rfl (HX.out.set _) Tryz.underlying24 rfl mem_size) rfl ?_
    exact ⟨rfl, HB.out.setCell (by simp) _⟩

set_option maxRecDepth 100000 in
set_option maxHeartbeats 2000000 in
theorem newWork_nil (A : Option Addr) (c : Nat) (w : World) (h : MemAt w A []) :
    Calls Tryz.prog 67 #[.agg #[.slice A 0 c]] w fun e w' => (∃ b, e = .returned (.pointer (some ⟨b, 0, none⟩)) ∧ Work w' w.heap.size b none 0 [] 0 none 0 []) ∧ Below w.heap.size w w' := by
  have hb0 : Below w.heap.size w (w.alloc (.cells #[.slice A 0 c] 24)) := (Below.refl _ _).alloc (Nat.le_refl _) _
  have HB0 := Lib.hid hb0
  have HCO := Lib.hid (fun W => copied_nil A c W)
  have HWA := Lib.hid (fun W (hb : Below w.heap.size w W) => waiting_any [] ⟨by simp, fun i s hs => by simp at hs⟩ A c W (h.below hb))
  have SX := Lib.hid (box1 (W := w) (v := .slice A 0 c) (t := 24))
  have x0 := SX.out.at_
  clear h hb0
  go_enter Tryz.func67, Tryz.ntmps67
  go_wp2_with fail
  generalize hWX : w.alloc _ = WX at *
  clear hWX
  go_region_held3 (fun W => W.cell? ⟨w.heap.size, 0, none⟩ = some (.slice A 0 c))
    (go_keep)
    (first
      | (go_at_call 56; refine (HCO.out _).mono ?_; rintro e w2 ⟨rfl, hb2⟩
         have hbf : Below WX.heap.size WX w2 := hb1.trans (hb2.mono hb1.size)
         have x2 := SX.out _ hbf)
      | (go_at_call 72; refine (HWA.out _ (HB0.out.trans (hb1.mono HB0.out.size))).mono ?_; rintro e w2 ⟨rfl, hb2⟩
         have hbf : Below WX.heap.size WX w2 := hb1.trans (hb2.mono hb1.size)
         have x2 := SX.out _ hbf)
      | (go_at_call 56; refine (HCO.out _).mono ?_; rintro e w1 ⟨rfl, hb1'⟩
         have hb1 : Below WX.heap.size WX w1 := (Below.refl _ _).drew.trans hb1'
         have x1 := SX.out _ hb1)
      | (go_at_call 72; refine (HWA.out _ (HB0.out.drew)).mono ?_; rintro e w1 ⟨rfl, hb1'⟩
         have hb1 : Below WX.heap.size WX w1 := (Below.refl _ _).drew.trans hb1'
         have x1 := SX.out _ hb1))
  all_goals
    go_wp2
    go_ret
    refine ⟨⟨w2.heap.size, rfl, ?_, ?_, ?_, ?_⟩, ?_⟩
    · have := hbf.size; have := HB0.out.size; omega
    · exact Blk.new _ _ _
    · exact Own.nil _ _ _ _
    · exact Own.nil _ _ _ _
    · exact (HB0.out.trans (hbf.mono HB0.out.size)).alloc (by have := hbf.size; have := HB0.out.size; omega) _

theorem not_hole_any {l : List Ce.V} (h : ∀ v ∈ l, isHoleB v = false) : l.any isHoleB = false := by
  rw [List.any_eq_false]
  intro v hv
  rw [h v hv]
  decide
set_option maxRecDepth 100000 in
set_option maxHeartbeats 1000000 in
theorem takes1_yes (m b : Nat) (A0 : Option Addr) (c0 : Nat) (l : List Ce.V) (hl : l.length ≤ 1000000) (A : Option Addr) (cap g : Nat) (w : World) (h : ValE.Arg w A l) (hg : w.cell? ⟨g, 0, none⟩ = some (.pointer (some ⟨b, 0, none⟩))) (hb : w.cell? ⟨b, 0, none⟩ = some (.slice A0 m c0))
    (h1 : Ce.areValues l m = true) (h2 : ∀ v ∈ l, isHoleB v = false) :
    Calls Tryz.prog 126 #[.slice A l.length cap, .pointer (some ⟨g, 0, none⟩)] w fun e w' => e = .returned (.bool true) ∧ Below w.heap.size w w' := by
  have hc := has_any m A0 c0 l hl A cap w h
  rw [h1] at hc
  have HH := Lib.hid hc
  have hd := fun W (hb : Below w.heap.size w W) => val_contains l hl A cap isHoleB 46 #[] (enters_of Tryz.func46 (by kernel_rfl) rfl) W (h.below hb) (fun x _ W _ => isHole_any x W)
  rw [not_hole_any h2] at hd
  have HD := Lib.hid hd
  clear hc hd h h1 h2
  go_enter Tryz.func126, Tryz.ntmps126
  go_wp2_with fail
  refine HH.out.mono ?_
  rintro e w1 ⟨rfl, hb1⟩
  have HB1 := Lib.hid hb1
  have HD1 := Lib.hid (HD.out w1 hb1)
  clear hb1 HD HH
  go_wp2_with fail
  refine HD1.out.mono ?_
  rintro e w2 ⟨rfl, hb2⟩
  have HB2 := Lib.hid (HB1.out.trans (hb2.mono HB1.out.size))
  clear hb2
  go_wp2
  go_ret
  exact ⟨rfl, HB2.out⟩

/-- an operation, as an argument -/
def opCells (k vk vn ik jn xk xn who : Int) : Array Value := #[.int .u8 k, .int .u8 vk, .int .i64 vn, .int .u8 ik, .int .i64 jn, .int .u8 xk, .int .i64 xn, .int .i64 who]
def opArg (k vk vn ik jn xk xn who : Int) : Value := .agg (opCells k vk vn ik jn xk xn who)
theorem op_at {W : World} {g : Nat} {k vk vn ik jn xk xn who : Int} (h : Blk W g 75 (opCells k vk vn ik jn xk xn who)) :
    W.cell? ⟨g, 0, none⟩ = some (.int .u8 k) ∧ W.cell? ⟨g, 1, none⟩ = some (.int .u8 vk) ∧ W.cell? ⟨g, 2, none⟩ = some (.int .i64 vn) ∧ W.cell? ⟨g, 3, none⟩ = some (.int .u8 ik) ∧ W.cell? ⟨g, 4, none⟩ = some (.int .i64 jn) ∧ W.cell? ⟨g, 5, none⟩ = some (.int .u8 xk) ∧ W.cell? ⟨g, 6, none⟩ = some (.int .i64 xn) ∧ W.cell? ⟨g, 7, none⟩ = some (.int .i64 who) :=
  ⟨h.cell 0, h.cell 1, h.cell 2, h.cell 3, h.cell 4, h.cell 5, h.cell 6, h.cell 7⟩

set_option maxRecDepth 100000 in
set_option maxHeartbeats 1000000 in
theorem takes_k1 (m b : Nat) (A0 : Option Addr) (c0 : Nat) (vk vn ik jn xk xn who : Int) (w : World) (hb : w.cell? ⟨b, 0, none⟩ = some (.slice A0 m c0)) (h1 : Ce.areValues [⟨vk, vn⟩] m = true) (h2 : ∀ v ∈ ([⟨vk, vn⟩] : List Ce.V), isHoleB v = false) :
    Calls Tryz.prog 107 #[.pointer (some ⟨b, 0, none⟩), opArg 1 vk vn ik jn xk xn who] w fun e w' => e = .returned (.bool true) ∧ Below w.heap.size w w' := by
  have hb1 : Below w.heap.size w (w.alloc (.cells #[.pointer (some ⟨b, 0, none⟩)] 109)) := (Below.refl _ _).alloc (Nat.le_refl _) _
  have hb2 := hb1.alloc (by simp) (.cells (opCells 1 vk vn ik jn xk xn who) 75)
  have hb3 := hb2.alloc (by simp; omega) (.cells #[.int .u8 vk, .int .i64 vn] 57)
  have HB3 := Lib.hid hb3
  have sg := (((Blk.new w 109 #[.pointer (some ⟨b, 0, none⟩)]).alloc (.cells (opCells 1 vk vn ik jn xk xn who) 75)).alloc (.cells #[.int .u8 vk, .int .i64 vn] 57)).cell 0
  have SB := (Stay.cell hb) _ hb3
  obtain ⟨o0, o1, o2, o3, o4, o5, o6, o7⟩ := op_at (Blk.new (w.alloc (.cells #[.pointer (some ⟨b, 0, none⟩)] 109)) 75 (opCells 1 vk vn ik jn xk xn who))
  have HC := takes1_yes m b A0 c0 [⟨vk, vn⟩] (by simp) (some ⟨_, 0, none⟩) 1 w.heap.size _ (row_arg (K := ValE) (W := (w.alloc (.cells #[.pointer (some ⟨b, 0, none⟩)] 109)).alloc (.cells (opCells 1 vk vn ik jn xk xn who) 75)) (t := 57) (cs := #[.int .u8 vk, .int .i64 vn]) rfl rfl) sg SB h1 h2
  unfold opCells at *
  simp only [World.size_alloc] at o0 o1 o2 o3 o4 o5 o6 o7 HC
  have HC := Lib.hid HC
  clear hb1 hb2 hb3 sg SB h1 h2 hb
  unfold opArg opCells
  go_enter Tryz.func107, Tryz.ntmps107
  go_wp2_with fail
  refine HC.out.mono ?_
  rintro e w1 ⟨rfl, hb1⟩
  have HBF := Lib.hid (HB3.out.trans (hb1.mono (by omega)))
  clear hb1
  go_wp2
  go_ret
  exact ⟨rfl, HBF.out⟩

set_option maxRecDepth 100000 in
set_option maxHeartbeats 1000000 in
theorem takes_k3 (m b : Nat) (A0 : Option Addr) (c0 : Nat) (vk vn ik jn xk xn who : Int) (w : World) (hb : w.cell? ⟨b, 0, none⟩ = some (.slice A0 m c0)) (h1 : Ce.areValues [⟨vk, vn⟩, ⟨ik, jn⟩] m = true) (h2 : ∀ v ∈ ([⟨vk, vn⟩, ⟨ik, jn⟩] : List Ce.V), isHoleB v = false) :
    Calls Tryz.prog 107 #[.pointer (some ⟨b, 0, none⟩), opArg 3 vk vn ik jn xk xn who] w fun e w' => e = .returned (.bool true) ∧ Below w.heap.size w w' := by
  have hb1 : Below w.heap.size w (w.alloc (.cells #[.pointer (some ⟨b, 0, none⟩)] 109)) := (Below.refl _ _).alloc (Nat.le_refl _) _
  have hb2 := hb1.alloc (by simp) (.cells (opCells 3 vk vn ik jn xk xn who) 75)
  have hb3 := hb2.alloc (by simp; omega) (.cells #[.int .u8 vk, .int .i64 vn, .int .u8 ik, .int .i64 jn] 57)
  have HB3 := Lib.hid hb3
  have sg := (((Blk.new w 109 #[.pointer (some ⟨b, 0, none⟩)]).alloc (.cells (opCells 3 vk vn ik jn xk xn who) 75)).alloc (.cells #[.int .u8 vk, .int .i64 vn, .int .u8 ik, .int .i64 jn] 57)).cell 0
  have SB := (Stay.cell hb) _ hb3
  obtain ⟨o0, o1, o2, o3, o4, o5, o6, o7⟩ := op_at (Blk.new (w.alloc (.cells #[.pointer (some ⟨b, 0, none⟩)] 109)) 75 (opCells 3 vk vn ik jn xk xn who))
  have HC := takes1_yes m b A0 c0 [⟨vk, vn⟩, ⟨ik, jn⟩] (by simp) (some ⟨_, 0, none⟩) 2 w.heap.size _ (row_arg (K := ValE) (W := (w.alloc (.cells #[.pointer (some ⟨b, 0, none⟩)] 109)).alloc (.cells (opCells 3 vk vn ik jn xk xn who) 75)) (t := 57) (cs := #[.int .u8 vk, .int .i64 vn, .int .u8 ik, .int .i64 jn]) rfl rfl) sg SB h1 h2
  unfold opCells at *
  simp only [World.size_alloc] at o0 o1 o2 o3 o4 o5 o6 o7 HC
  have HC := Lib.hid HC
  clear hb1 hb2 hb3 sg SB h1 h2 hb
  unfold opArg opCells
  go_enter Tryz.func107, Tryz.ntmps107
  go_wp2_with fail
  refine HC.out.mono ?_
  rintro e w1 ⟨rfl, hb1⟩
  have HBF := Lib.hid (HB3.out.trans (hb1.mono (by omega)))
  clear hb1
  go_wp2
  go_ret
  exact ⟨rfl, HBF.out⟩

set_option maxRecDepth 100000 in
set_option maxHeartbeats 1000000 in
theorem takes_k2 (m b : Nat) (A0 : Option Addr) (c0 : Nat) (vk vn ik jn xk xn who : Int) (w : World) (hb : w.cell? ⟨b, 0, none⟩ = some (.slice A0 m c0)) (h1 : Ce.areValues [⟨vk, vn⟩, ⟨ik, jn⟩, ⟨xk, xn⟩] m = true) (h2 : ∀ v ∈ ([⟨vk, vn⟩, ⟨ik, jn⟩, ⟨xk, xn⟩] : List Ce.V), isHoleB v = false) :
    Calls Tryz.prog 107 #[.pointer (some ⟨b, 0, none⟩), opArg 2 vk vn ik jn xk xn who] w fun e w' => e = .returned (.bool true) ∧ Below w.heap.size w w' := by
  have hb1 : Below w.heap.size w (w.alloc (.cells #[.pointer (some ⟨b, 0, none⟩)] 109)) := (Below.refl _ _).alloc (Nat.le_refl _) _
  have hb2 := hb1.alloc (by simp) (.cells (opCells 2 vk vn ik jn xk xn who) 75)
  have hb3 := hb2.alloc (by simp; omega) (.cells #[.int .u8 vk, .int .i64 vn, .int .u8 ik, .int .i64 jn, .int .u8 xk, .int .i64 xn] 57)
  have HB3 := Lib.hid hb3
  have sg := (((Blk.new w 109 #[.pointer (some ⟨b, 0, none⟩)]).alloc (.cells (opCells 2 vk vn ik jn xk xn who) 75)).alloc (.cells #[.int .u8 vk, .int .i64 vn, .int .u8 ik, .int .i64 jn, .int .u8 xk, .int .i64 xn] 57)).cell 0
  have SB := (Stay.cell hb) _ hb3
  obtain ⟨o0, o1, o2, o3, o4, o5, o6, o7⟩ := op_at (Blk.new (w.alloc (.cells #[.pointer (some ⟨b, 0, none⟩)] 109)) 75 (opCells 2 vk vn ik jn xk xn who))
  have HC := takes1_yes m b A0 c0 [⟨vk, vn⟩, ⟨ik, jn⟩, ⟨xk, xn⟩] (by simp) (some ⟨_, 0, none⟩) 3 w.heap.size _ (row_arg (K := ValE) (W := (w.alloc (.cells #[.pointer (some ⟨b, 0, none⟩)] 109)).alloc (.cells (opCells 2 vk vn ik jn xk xn who) 75)) (t := 57) (cs := #[.int .u8 vk, .int .i64 vn, .int .u8 ik, .int .i64 jn, .int .u8 xk, .int .i64 xn]) rfl rfl) sg SB h1 h2
  unfold opCells at *
  simp only [World.size_alloc] at o0 o1 o2 o3 o4 o5 o6 o7 HC
  have HC := Lib.hid HC
  clear hb1 hb2 hb3 sg SB h1 h2 hb
  unfold opArg opCells
  go_enter Tryz.func107, Tryz.ntmps107
  go_wp2_with fail
  refine HC.out.mono ?_
  rintro e w1 ⟨rfl, hb1⟩
  have HBF := Lib.hid (HB3.out.trans (hb1.mono (by omega)))
  clear hb1
  go_wp2
  go_ret
  exact ⟨rfl, HBF.out⟩

end Go.Proofs.YtjldkndalcellaaGreatDoor

namespace Go.Proofs.YtjldkndalcellaaGreatDoor
open Go.RowKit Go.El

/-- blocks kept: all but the work's own rows and one row of values -/
def Fr (r : Nat) (w w' : World) : Prop := w.heap.size ≤ w'.heap.size ∧ ∀ (k : Nat) (cs : Array Value) (T : TypeId) (f : Nat × Nat), w.heap[k]? = some (.cells cs T f) → k ≠ r → T ≠ 113 → T ≠ 61 → T ≠ 86 → T ≠ 79 → w'.heap[k]? = some (.cells cs T f)
theorem Fr.trans {r : Nat} {a b c : World} (h : Fr r a b) (k : Fr r b c) : Fr r a c := ⟨Nat.le_trans h.1 k.1, fun i cs T f hi h0 h1 h2 h3 h4 => k.2 i cs T f (h.2 i cs T f hi h0 h1 h2 h3 h4) h0 h1 h2 h3 h4⟩
theorem Fr.below {r : Nat} {w w' : World} (h : Below w.heap.size w w') : Fr r w w' := ⟨h.size, fun i _ _ _ hi _ _ _ _ _ => (h.block i (Array.getElem?_eq_some_iff.1 hi).1).trans hi⟩
theorem Fr.blk {r : Nat} {w w' : World} (h : Fr r w w') {g : Nat} {T : TypeId} {cs : Array Value} (hb : Blk w g T cs) (h0 : g ≠ r) (h1 : T ≠ 113) (h2 : T ≠ 61) (h3 : T ≠ 86) (h4 : T ≠ 79) : Blk w' g T cs := h.2 g cs T (0, 0) hb h0 h1 h2 h3 h4
theorem Fr.set {r : Nat} {w : World} {b o : Nat} {v : Value} {T : TypeId} {cs : Array Value} (hb : Blk w b T cs) (hT : T = 113 ∨ T = 61 ∨ T = 86 ∨ T = 79) : Fr r w (w.setCell ⟨b, o, none⟩ v) :=
  ⟨by simp, fun i cs' T' f hi _ h1 h2 h3 h4 => by
    rw [RowKit.Below.heap_setCell _ _ _ _ (fun e => by
      have e' : i = b := e
      subst e'
      rw [show w.heap[i]? = _ from hb] at hi
      injection hi with hi
      injection hi with _ ht
      subst ht
      rcases hT with h | h | h | h
      · exact h1 h
      · exact h2 h
      · exact h3 h
      · exact h4 h)]
    exact hi⟩
theorem Fr.setr {r o : Nat} {w : World} {v : Value} : Fr r w (w.setCell ⟨r, o, none⟩ v) :=
  ⟨by simp, fun i cs' T' f hi h0 _ _ _ _ => by
    rw [RowKit.Below.heap_setCell _ _ _ _ (fun e => h0 e)]
    exact hi⟩
theorem Fr.grown {r : Nat} {α : Type} {K : El α} {w w' : World} {base cap : Nat} {A : Option Addr} {l : List α} {T : TypeId} (ho : K.Own T w base A cap l) (hT : T = 113 ∨ T = 61 ∨ T = 86 ∨ T = 79) (hg : w.grownBy w' (Value.slice A l.length cap).ownBlock) : Fr r w w' :=
  ⟨hg.size, fun i cs' T' f hi _ h1 h2 h3 h4 => by
    rw [hg.block i (Array.getElem?_eq_some_iff.1 hi).1 (fun e => by
      obtain ⟨c', hc⟩ := ho.blk e.symm
      rw [hc] at hi
      injection hi with hi
      injection hi with _ ht
      subst ht
      rcases hT with h | h | h | h
      · exact h1 h
      · exact h2 h
      · exact h3 h
      · exact h4 h)]
    exact hi⟩
theorem Fr.own {r : Nat} {α : Type} {K : El α} {w w' : World} {base cap : Nat} {A : Option Addr} {l : List α} {T : TypeId} (h : Fr r w w') (ho : K.Own T w base A cap l) (h0 : ∀ a, A = some a → a.block ≠ r) (h1 : T ≠ 113) (h2 : T ≠ 61) (h3 : T ≠ 86) (h4 : T ≠ 79) : K.Own T w' base A cap l := by
  refine ⟨ho.1, ?_⟩
  rcases ho.2 with hn | ⟨g, cap', cur, hv, hb, hh, x⟩
  · exact .inl hn
  · injection hv with hA hn hc
    exact .inr ⟨g, cap', cur, by rw [hA, hc], hb, h.2 _ _ _ _ hh (h0 _ hA) h1 h2 h3 h4, x⟩
/-- a memory of one structure with two cells, in the work -/
structure One (W : World) (B b r : Nat) (cells : List Ce.V) (ws : List Ce.Rd) (n : Int) (ts : List Ce.Td) : Prop where
  ex : ∃ g c Q cq T ct, Work W B b (some ⟨g, 0, none⟩) c [(⟨some ⟨r, 0, none⟩, 2, 2⟩, ⟨Q, ws.length, cq⟩)] n T ct ts ∧ RdE.Own 86 W B Q cq ws
  vals : ValE.Own 57 W B (some ⟨r, 0, none⟩) 2 cells
  len : cells.length = 2
theorem One.below {W W' : World} {B b r : Nat} {cells : List Ce.V} {ws : List Ce.Rd} {n : Int} {ts : List Ce.Td} (h : One W B b r cells ws n ts) (hb : Below W.heap.size W W') : One W' B b r cells ws n ts := by
  obtain ⟨⟨g, c, Q, cq, T, ct, h1, h2⟩, h3, h4⟩ := h
  exact ⟨⟨g, c, Q, cq, T, ct, h1.below hb, Own.below h2 hb⟩, Own.below h3 hb, h4⟩

/-- one block alone written -/
def Only (y : Nat) (W W' : World) : Prop := W.heap.size ≤ W'.heap.size ∧ ∀ k, k ≠ y → k < W.heap.size → W'.heap[k]? = W.heap[k]?
theorem Only.set1 {y o : Nat} {W : World} {a : Value} : Only y W (W.setCell ⟨y, o, none⟩ a) := ⟨by simp, fun k hk _ => RowKit.Below.heap_setCell _ _ _ _ (fun e => hk e)⟩
theorem Only.trans {y : Nat} {a b c : World} (h : Only y a b) (k : Only y b c) : Only y a c := ⟨Nat.le_trans h.1 k.1, fun i hi hl => (k.2 i hi (Nat.lt_of_lt_of_le hl h.1)).trans (h.2 i hi hl)⟩
theorem Only.set2 {y : Nat} {W : World} {a c : Value} : Only y W ((W.setCell ⟨y, 0, none⟩ a).setCell ⟨y, 1, none⟩ c) := Only.set1.trans Only.set1
theorem Only.blk {y : Nat} {W W' : World} (h : Only y W W') {g : Nat} {T : TypeId} {cs : Array Value} (hb : Blk W g T cs) (hne : g ≠ y) : Blk W' g T cs := (h.2 g hne hb.lt).trans hb
theorem Only.own {α : Type} {K : El α} {y base cap : Nat} {W W' : World} {A : Option Addr} {l : List α} {T : TypeId} (h : Only y W W') (ho : K.Own T W base A cap l) (h0 : ∀ a, A = some a → a.block ≠ y) : K.Own T W' base A cap l := by
  refine ⟨ho.1, ?_⟩
  rcases ho.2 with hn | ⟨g, cap', cur, hv, hb, hh, x⟩
  · exact .inl hn
  · injection hv with hA hn hc
    exact .inr ⟨g, cap', cur, by rw [hA, hc], hb, (h.2 g (h0 _ hA) (Array.getElem?_eq_some_iff.1 hh).1).trans hh, x⟩
theorem Only.ownT {α : Type} {K : El α} {y base cap : Nat} {W W' : World} {A : Option Addr} {l : List α} {T T' : TypeId} {cs : Array Value} (h : Only y W W') (hy : Blk W y T' cs) (ho : K.Own T W base A cap l) (hT : T' ≠ T) : K.Own T W' base A cap l :=
  h.own ho fun a ha e => Own.ne_blk ho (p := y) hy hT (by rw [ha]; simp [Value.ownBlock, e])
theorem Only.work {y : Nat} {W W' : World} (h : Only y W W') {cs : Array Value} (hy : Blk W y 57 cs) {B b : Nat} {A : Option Addr} {c : Nat} {hs : List (Sl × Sl)} {n : Int} {T : Option Addr} {ct : Nat} {ts : List Ce.Td} (hw : Work W B b A c hs n T ct ts) : Work W' B b A c hs n T ct ts :=
  ⟨hw.hB, h.blk hw.blk (fun e => by
    subst e
    have e' : W.heap[b]? = _ := hw.blk
    rw [show W.heap[b]? = _ from hy] at e'
    injection e' with e'
    injection e' with _ ht
    exact absurd ht (by decide)), h.ownT hy hw.sts (by decide), h.ownT hy hw.tds (by decide)⟩
theorem Only.fr {y r : Nat} {w W W' : World} (h : Only y W W') (hf : Fr r w W) (hle : w.heap.size ≤ y) : Fr r w W' :=
  ⟨Nat.le_trans hf.1 h.1, fun k cs T f hk h0 h1 h2 h3 h4 => by
    have hl := (Array.getElem?_eq_some_iff.1 hk).1
    exact (h.2 k (by omega) (Nat.lt_of_lt_of_le hl hf.1)).trans (hf.2 k cs T f hk h0 h1 h2 h3 h4)⟩
theorem make2 (W : World) : (Instr.makeSlice 34 (.int .i64 2) (.int .i64 2)).run Tryz.prog W = .ok (.slice (some ⟨W.heap.size, 0, none⟩) 2 2) (W.alloc (.cells #[.int .u8 0, .int .i64 0, .int .u8 0, .int .i64 0] 57)) := by
  obtain ⟨i0, hi0, hz0, hz1, hz2⟩ := info_parts val_info
  have := run_make (P := Tryz.prog) (w := W) 34 57 i0 _ Tryz.underlying34 hi0 hz0 .i64 .i64 2 2 (by decide) (by decide) (by rw [hz2]; decide) (by decide)
  rw [hz1] at this
  rw [this, show madeCells (Value.agg #[Value.int IntKind.u8 0, Value.int IntKind.i64 0]).cells (Int.toNat 2 * 2) = #[.int .u8 0, .int .i64 0, .int .u8 0, .int .i64 0] from by kernel_rfl]
  rfl
def ldAlloc : Oper := { dst := some 37, op := Op.load 22 (Operand.tmp 36), type := 22, pos := "work.go:59", after := #[{ on := 4, ground := Ground.data }], guard := none }
attribute [local go_sem] ldAlloc
set_option maxRecDepth 100000 in
set_option maxHeartbeats 2000000 in
theorem alloc2_any (B b : Nat) (A : Option Addr) (c : Nat) (hs : List (Sl × Sl)) (n : Int) (T : Option Addr) (ct : Nat) (ts : List Ce.Td) (w : World) (h : Work w B b A c hs n T ct ts) (hBw : B ≤ w.heap.size) (hlen : hs.length < 400) :
    Calls Tryz.prog 108 #[.pointer (some ⟨b, 0, none⟩), .agg #[.int .u8 1, .int .i64 2]] w fun e w' => e = .returned (.tuple #[.agg #[.int .u8 4, .int .i64 hs.length], .int .i64 0]) ∧ (∃ r A' c', w.heap.size ≤ r ∧ Work w' B b A' c' (hs ++ [(⟨some ⟨r, 0, none⟩, 2, 2⟩, ⟨none, 0, 0⟩)]) n T ct ts ∧ ValE.Own 57 w' B (some ⟨r, 0, none⟩) 2 [Ce.hole, Ce.hole]) ∧ Below B w w' ∧ ∀ r, Fr r w w' := by
  have hb1 : Below w.heap.size w (w.alloc (.cells #[.int .u8 1, .int .i64 2] 57)) := (Below.refl _ _).alloc (Nat.le_refl _) _
  have hb2 := hb1.alloc (by simp) (.cells #[.int .u8 0, .int .i64 0] 57)
  have HB2 := Lib.hid hb2
  have HW := Lib.hid (h.below hb2)
  have HY := Lib.hid (Blk.new (w.alloc (.cells #[.int .u8 1, .int .i64 2] 57)) 57 #[.int .u8 0, .int .i64 0])
  have HV := Lib.hid ((Blk.new w 57 #[.int .u8 1, .int .i64 2]).alloc (.cells #[.int .u8 0, .int .i64 0] 57))
  simp only [World.size_alloc] at HY
  have HREF := Lib.hid (fun n W => ref_any n W)
  have b0 := HW.out.blk.cell 0
  have v0 := HV.out.cell 0
  have v1 := HV.out.cell 1
  dsimp at b0 v0 v1
  have hBb := h.hB
  have hbl := h.blk.lt
  have hbne : b ≠ w.heap.size := by omega
  have hbne2 : w.heap.size ≠ b := by omega
  have hne4 : ((hs.length : Int) == 400) = false := beq_eq_false_iff_ne.2 (by omega)
  clear hb1 hb2 h
  go_enter Tryz.func108, Tryz.ntmps108
  go_wp2_with fail
  generalize hWX : World.alloc _ _ = WX at *
  clear hWX v0
  have hbl2 := HW.out.blk.lt
  have hvl2 := HV.out.lt
  have HYL := Lib.hid HY.out.lt
  have hmk := make2 WX.drew
  have hx1 : Below WX.heap.size WX (WX.alloc (.cells #[.int .u8 0, .int .i64 0, .int .u8 0, .int .i64 0] 57)) := (Below.refl _ _).alloc (Nat.le_refl _) _
  have HX1 := Lib.hid hx1
  have HXX := Lib.hid ((hx1.alloc (by simp) (.cells #[.slice (some ⟨WX.heap.size, 0, none⟩) 2 2, .slice none 0 0] 61)).drew)
  have HROW : Hid (ValE.Own 57 (WX.alloc (.cells #[.int .u8 0, .int .i64 0, .int .u8 0, .int .i64 0] 57)) B (some ⟨WX.heap.size, 0, none⟩) 2 [Ce.hole, Ce.hole]) := Lib.hid ⟨rfl, .inr ⟨WX.heap.size, 2, _, rfl, by have := HB2.out.size; omega, heap_alloc_new WX _, by decide, by decide, rfl, rfl⟩⟩
  have STAY : Hid (∀ W, Below WX.heap.size WX W → W.cell? ⟨b, 0, none⟩ = some (.slice A hs.length c) ∧ W.cell? ⟨w.heap.size, 1, none⟩ = some (.int .i64 2)) := Lib.hid fun W hb => ⟨(HW.out.blk.below hb).cell 0, (HV.out.below hb).cell 1⟩
  have HARG : Hid (StE.Arg ((WX.alloc (.cells #[.int .u8 0, .int .i64 0, .int .u8 0, .int .i64 0] 57)).alloc (.cells #[.slice (some ⟨WX.heap.size, 0, none⟩) 2 2, .slice none 0 0] 61)).drew (some ⟨WX.heap.size + 1, 0, none⟩) [((⟨some ⟨WX.heap.size, 0, none⟩, 2, 2⟩ : Sl), (⟨none, 0, 0⟩ : Sl))]) := Lib.hid ((row_arg (K := StE) (W := WX.alloc (.cells #[.int .u8 0, .int .i64 0, .int .u8 0, .int .i64 0] 57)) (t := 61) (cs := #[.slice (some ⟨WX.heap.size, 0, none⟩) 2 2, .slice none 0 0]) (by simp) rfl).below (Below.refl _ _).drew)
  clear hx1
  rw [show ({ dst := some 37, op := Op.load 22 (Operand.tmp 36), type := 22, pos := "work.go:59", after := #[{ on := 4, ground := Ground.data }], guard := none } : Oper) = ldAlloc from rfl]
  go_region_held3 (fun W => W.cell? ⟨w.heap.size, 1, none⟩ = some (.int .i64 2))
    (go_keep)
    (first
      | (refine step_append_any StE _ rfl _ _ 22 61 rfl Tryz.underlying22 st_info rfl B A c _ hs [(⟨some ⟨WX.heap.size, 0, none⟩, 2, 2⟩, ⟨none, 0, 0⟩)] _ _ _ rfl rfl rfl rfl (fun hh => by cases hh) (Own.below HW.out.sts HXX.out) HARG.out (by simp [maxLen]; omega) (by simp; omega) (by have := HB2.out.size; simp; omega) ?_; intro A4 c4 w4 hown4 hgrow4
         have hne4 : some b ≠ (Value.slice A hs.length c).ownBlock := Own.ne_blk (Own.below HW.out.sts HXX.out) (HW.out.blk.below HXX.out) (by decide)
         have hb4 := (HW.out.blk.below HXX.out).kept hgrow4 hne4
         have v2 := hb4.cell 0
         have vf := hb4.frozen 0
         have vl := hb4.lt
         have hv4 := (HV.out.below HXX.out).kept hgrow4 (Own.ne_blk (Own.below HW.out.sts HXX.out) (HV.out.below HXX.out) (by decide))
         have v5 := hv4.cell 1))
  all_goals
    have HY4 := Lib.hid ((HY.out.below HXX.out).kept hgrow4 (Own.ne_blk (Own.below HW.out.sts HXX.out) (HY.out.below HXX.out) (by decide)))
    have HW5 : Hid (Work (w4.setCell ⟨b, 0, none⟩ (.slice A4 (hs.length + 1) c4)) B b A4 c4 (hs ++ [(⟨some ⟨WX.heap.size, 0, none⟩, 2, 2⟩, ⟨none, 0, 0⟩)]) n T ct ts) := Lib.hid ⟨hBb, by
      have := hb4.set_ 0 (.slice A4 (hs.length + 1) c4)
      simpa using this, Own.keepsT hown4 (KeepsT.set (fun c f e => by
        have e' : w4.heap[b]? = some (.cells c 61 f) := e
        rw [show w4.heap[b]? = _ from hb4] at e'
        injection e' with e'
        injection e' with _ ht
        exact absurd ht (by decide))), Own.keepsT ((Own.below HW.out.tds HXX.out).kept hgrow4 (own_own_ne (Own.below HW.out.tds HXX.out) (Own.below HW.out.sts HXX.out) (by decide))) (KeepsT.set (fun c f e => by
        have e' : w4.heap[b]? = some (.cells c 79 f) := e
        rw [show w4.heap[b]? = _ from hb4] at e'
        injection e' with e'
        injection e' with _ ht
        exact absurd ht (by decide)))⟩
    have HR5 : Hid (ValE.Own 57 (w4.setCell ⟨b, 0, none⟩ (.slice A4 (hs.length + 1) c4)) B (some ⟨WX.heap.size, 0, none⟩) 2 [Ce.hole, Ce.hole]) := Lib.hid (by
      have h1 := Own.below HROW.out (((Below.refl _ _).alloc (Nat.le_refl _) (.cells #[.slice (some ⟨WX.heap.size, 0, none⟩) 2 2, .slice none 0 0] 61)).drew)
      refine Own.keepsT (h1.kept hgrow4 (own_own_ne h1 (Own.below HW.out.sts HXX.out) (by decide))) (KeepsT.set (fun c f e => by
        have e' : w4.heap[b]? = some (.cells c 57 f) := e
        rw [show w4.heap[b]? = _ from hb4] at e'
        injection e' with e'
        injection e' with _ ht
        exact absurd ht (by decide))))
    have HF5 : Hid (Below B w (w4.setCell ⟨b, 0, none⟩ (.slice A4 (hs.length + 1) c4)) ∧ ∀ r, Fr r w (w4.setCell ⟨b, 0, none⟩ (.slice A4 (hs.length + 1) c4))) := Lib.hid ⟨(((HB2.out.trans (HXX.out.mono HB2.out.size)).mono hBw).grown hgrow4 (by have := HXX.out.size; have := HB2.out.size; omega) (fun j hj => ((Own.below HW.out.sts HXX.out).lt j hj).1)).setCell hBb _, fun r => ((Fr.below (HB2.out.trans (HXX.out.mono HB2.out.size))).trans (Fr.grown (Own.below HW.out.sts HXX.out) (.inr (.inl rfl)) hgrow4)).trans (Fr.set hb4 (.inl rfl))⟩
    have HY5 : Hid (Blk (w4.setCell ⟨b, 0, none⟩ (.slice A4 (hs.length + 1) c4)) (w.heap.size + 1) 57 #[.int .u8 0, .int .i64 0]) := Lib.hid ((Fr.set (r := b) (o := 0) (v := .slice A4 (hs.length + 1) c4) hb4 (.inl rfl)).blk HY4.out (by omega) (by decide) (by decide) (by decide) (by decide))
    have b5 : (w4.setCell ⟨b, 0, none⟩ (.slice A4 (hs.length + 1) c4)).cell? ⟨b, 0, none⟩ = some (.slice A4 (hs.length + 1) c4) := by
      have := HW5.out.blk.cell 0
      simpa using this
    have HSZ5 : Hid (w.heap.size ≤ WX.heap.size) := Lib.hid HB2.out.size
    generalize hW5 : World.setCell w4 _ _ = W5 at *
    clear hW5 hb4 hv4 hgrow4 hown4 v2 vf vl v5
    go_wp2_with fail
    refine (HREF.out _ _).mono ?_
    rintro e w6 ⟨rfl, hb6⟩
    have HY6 := Lib.hid (HY5.out.below hb6)
    have z0 := HY6.out.cell 0
    have z1 := HY6.out.cell 1
    have zf0 := HY6.out.frozen 0
    have zf1 := HY6.out.frozen 1
    dsimp at z0 z1
    have HB6 := Lib.hid hb6
    clear hb6 b5
    go_wp2
    refine bodyPost_ret (results_row_tmp rfl _ _ (w.heap.size + 1) 57 #[.int .u8 4, .int .i64 hs.length] (0, 0) _ rfl ((HY6.out.set_ 0 _).set_ 1 _) Tryz.underlying57 rfl val_size) rfl ?_
    have hO := Only.set2 (y := w.heap.size + 1) (W := w6) (a := .int .u8 4) (c := .int .i64 hs.length)
    refine ⟨rfl, ⟨WX.heap.size, A4, c4, by have := HSZ5.out; omega, hO.work HY6.out (HW5.out.below HB6.out), hO.own (Own.below HR5.out HB6.out) (fun a ha => ?_)⟩, ?_, fun r => hO.fr ((HF5.out.2 r).trans (Fr.below HB6.out)) (by omega)⟩
    · injection ha with ha
      subst ha
      have := HY6.out.lt
      have := HYL.out
      dsimp
      omega
    · exact ((HF5.out.1.trans (HB6.out.mono (by have := HF5.out.1.size; omega))).setCell (p := ⟨w.heap.size + 1, 0, none⟩) (by dsimp; omega) _).setCell (p := ⟨w.heap.size + 1, 1, none⟩) (by dsimp; omega) _
end Go.Proofs.YtjldkndalcellaaGreatDoor

namespace Go.Proofs.YtjldkndalcellaaGreatDoor
open Go.RowKit Go.El

theorem Only.workT {y : Nat} {W W' : World} (h : Only y W W') {T' : TypeId} {cs : Array Value} (hy : Blk W y T' cs) (h1 : T' ≠ 113) (h2 : T' ≠ 61) (h3 : T' ≠ 79) {B b : Nat} {A : Option Addr} {c : Nat} {hs : List (Sl × Sl)} {n : Int} {T : Option Addr} {ct : Nat} {ts : List Ce.Td} (hw : Work W B b A c hs n T ct ts) : Work W' B b A c hs n T ct ts :=
  ⟨hw.hB, h.blk hw.blk (fun e => by
    subst e
    have e' : W.heap[b]? = _ := hw.blk
    rw [show W.heap[b]? = _ from hy] at e'
    injection e' with e'
    injection e' with _ ht
    exact h1 ht), h.ownT hy hw.sts h2, h.ownT hy hw.tds h3⟩
theorem Work.setN {W : World} {B b : Nat} {A : Option Addr} {c : Nat} {hs : List (Sl × Sl)} {n : Int} {T : Option Addr} {ct : Nat} {ts : List Ce.Td} (h : Work W B b A c hs n T ct ts) (n' : Int) : Work (W.setCell ⟨b, 1, none⟩ (.int .i64 n')) B b A c hs n' T ct ts :=
  ⟨h.hB, by have := h.blk.set_ 1 (.int .i64 n'); simpa using this, Only.set1.ownT h.blk h.sts (by decide), Only.set1.ownT h.blk h.tds (by decide)⟩
theorem Work.setT {W : World} {B b : Nat} {A : Option Addr} {c : Nat} {hs : List (Sl × Sl)} {n : Int} {T T' : Option Addr} {ct ct' : Nat} {ts ts' : List Ce.Td} (h : Blk W b 113 #[.slice A hs.length c, .int .i64 n, .slice T ts.length ct]) (hB : B ≤ b) (hs' : StE.Own 61 W B A c hs) (ht : TdE.Own 79 W B T' ct' ts') : Work (W.setCell ⟨b, 2, none⟩ (.slice T' ts'.length ct')) B b A c hs n T' ct' ts' :=
  ⟨hB, by have := h.set_ 2 (.slice T' ts'.length ct'); simpa using this, Only.set1.ownT h hs' (by decide), Only.set1.ownT h ht (by decide)⟩
theorem Work.stBlk {W : World} {B b g : Nat} {c : Nat} {hs : List (Sl × Sl)} {n : Int} {T : Option Addr} {ct : Nat} {ts : List Ce.Td} (h : Work W B b (some ⟨g, 0, none⟩) c hs n T ct ts) : ∃ cs, Blk W g 61 cs := h.sts.blk rfl
theorem Work.setW {W : World} {B b g : Nat} {c : Nat} {x y : Sl} {n : Int} {T : Option Addr} {ct : Nat} {ts : List Ce.Td} (h : Work W B b (some ⟨g, 0, none⟩) c [(x, y)] n T ct ts) (Q : Option Addr) (n' cq : Nat) : Work (W.setCell ⟨g, 1, none⟩ (.slice Q n' cq)) B b (some ⟨g, 0, none⟩) c [(x, ⟨Q, n', cq⟩)] n T ct ts := by
  obtain ⟨cs, hg⟩ := h.stBlk
  refine ⟨h.hB, Only.set1.blk h.blk (fun e => ?_), (World.ownsRow.stored h.sts 1 (.slice Q n' cq)).1, Only.set1.ownT hg h.tds (by decide)⟩
  subst e
  have e' : W.heap[b]? = _ := h.blk
  rw [show W.heap[b]? = _ from hg] at e'
  injection e' with e'
  injection e' with _ ht
  exact absurd ht (by decide)
/-- the cells of the one structure's handles -/
theorem Work.at1 {W : World} {B b g : Nat} {c : Nat} {x y : Sl} {n : Int} {T : Option Addr} {ct : Nat} {ts : List Ce.Td} (h : Work W B b (some ⟨g, 0, none⟩) c [(x, y)] n T ct ts) : W.cell? ⟨g, 0, none⟩ = some x.val ∧ W.cell? ⟨g, 1, none⟩ = some y.val ∧ W.frozen? ⟨g, 1, none⟩ = false ∧ g < W.heap.size := by
  obtain ⟨g', hA, _, hl, hin⟩ := Own.in_ h.sts (by simp)
  injection hA with hA
  injection hA with hA
  subst hA
  exact ⟨hin 0 _ rfl 0 _ rfl, hin 0 _ rfl 1 _ rfl, World.ownsRow.frozenAt h.sts 1, hl⟩

set_option maxRecDepth 100000 in
set_option maxHeartbeats 1000000 in
theorem cell_in (b g r c : Nat) (w : World) (hb : w.cell? ⟨b, 0, none⟩ = some (.slice (some ⟨g, 0, none⟩) 1 c)) (hg : w.cell? ⟨g, 0, none⟩ = some (.slice (some ⟨r, 0, none⟩) 2 2)) :
    Calls Tryz.prog 127 #[.pointer (some ⟨b, 0, none⟩), .agg #[.int .u8 4, .int .i64 0], .agg #[.int .u8 1, .int .i64 1]] w fun e w' => e = .returned (.pointer (some ⟨r, 2, none⟩)) ∧ Below w.heap.size w w' := by
  have hb1 : Below w.heap.size w (w.alloc (.cells #[.int .u8 4, .int .i64 0] 57)) := (Below.refl _ _).alloc (Nat.le_refl _) _
  have hb2 := hb1.alloc (by simp) (.cells #[.int .u8 1, .int .i64 1] 57)
  have HB2 := Lib.hid hb2
  have c0 := (Stay.cell hb) _ hb2
  have c1 := (Stay.cell hg) _ hb2
  have s1 := (Blk.new w 57 #[.int .u8 4, .int .i64 0]).alloc (.cells #[.int .u8 1, .int .i64 1] 57)
  have i1 := Blk.new (w.alloc (.cells #[.int .u8 4, .int .i64 0] 57)) 57 #[.int .u8 1, .int .i64 1]
  have s10 := s1.cell 0
  have s11 := s1.cell 1
  have i10 := i1.cell 0
  have i11 := i1.cell 1
  simp only [World.size_alloc] at i10 i11
  dsimp at s10 s11 i10 i11
  clear hb1 hb2 hb hg s1 i1
  go_enter Tryz.func127, Tryz.ntmps127
  go_wp2_with fail
  generalize hWX : World.alloc _ _ = WX at *
  clear hWX
  go_region
  go_wp2
  go_ret
  exact ⟨rfl, HB2.out.drew⟩
set_option maxRecDepth 100000 in
set_option maxHeartbeats 1000000 in
theorem cell_out (b g r c : Nat) (w : World) (hb : w.cell? ⟨b, 0, none⟩ = some (.slice (some ⟨g, 0, none⟩) 1 c)) (hg : w.cell? ⟨g, 0, none⟩ = some (.slice (some ⟨r, 0, none⟩) 2 2)) :
    Calls Tryz.prog 127 #[.pointer (some ⟨b, 0, none⟩), .agg #[.int .u8 4, .int .i64 0], .agg #[.int .u8 1, .int .i64 2]] w fun e w' => e = .returned (.pointer none) ∧ Below w.heap.size w w' := by
  have hb1 : Below w.heap.size w (w.alloc (.cells #[.int .u8 4, .int .i64 0] 57)) := (Below.refl _ _).alloc (Nat.le_refl _) _
  have hb2 := hb1.alloc (by simp) (.cells #[.int .u8 1, .int .i64 2] 57)
  have HB2 := Lib.hid hb2
  have c0 := (Stay.cell hb) _ hb2
  have c1 := (Stay.cell hg) _ hb2
  have s1 := (Blk.new w 57 #[.int .u8 4, .int .i64 0]).alloc (.cells #[.int .u8 1, .int .i64 2] 57)
  have i1 := Blk.new (w.alloc (.cells #[.int .u8 4, .int .i64 0] 57)) 57 #[.int .u8 1, .int .i64 2]
  have s10 := s1.cell 0
  have s11 := s1.cell 1
  have i10 := i1.cell 0
  have i11 := i1.cell 1
  simp only [World.size_alloc] at i10 i11
  dsimp at s10 s11 i10 i11
  clear hb1 hb2 hb hg s1 i1
  go_enter Tryz.func127, Tryz.ntmps127
  go_wp2_with fail
  generalize hWX : World.alloc _ _ = WX at *
  clear hWX
  go_region
  go_wp2
  go_ret
  exact ⟨rfl, HB2.out.drew⟩

set_option maxRecDepth 100000 in
set_option maxHeartbeats 1000000 in
theorem noCell_any (w : World) :
    Calls Tryz.prog 129 #[.agg #[.int .u8 4, .int .i64 0], .agg #[.int .u8 1, .int .i64 2]] w fun e w' => e = .returned (.agg #[.int .u8 5, .int .i64 3]) ∧ Below w.heap.size w w' := by
  have hb1 : Below w.heap.size w (w.alloc (.cells #[.int .u8 4, .int .i64 0] 57)) := (Below.refl _ _).alloc (Nat.le_refl _) _
  have hb2 := hb1.alloc (by simp) (.cells #[.int .u8 1, .int .i64 2] 57)
  have hb3 := hb2.alloc (by simp; omega) (.cells #[.int .u8 0, .int .i64 0] 57)
  have hb4 := hb3.alloc (by simp; omega) (.cells #[.int .u8 4, .int .i64 0, .int .u8 1, .int .i64 2] 57)
  have HB4 := Lib.hid hb4
  have s1 := ((Blk.new w 57 #[.int .u8 4, .int .i64 0]).alloc (.cells #[.int .u8 1, .int .i64 2] 57)).alloc (.cells #[.int .u8 0, .int .i64 0] 57)
  have i1 := (Blk.new (w.alloc (.cells #[.int .u8 4, .int .i64 0] 57)) 57 #[.int .u8 1, .int .i64 2]).alloc (.cells #[.int .u8 0, .int .i64 0] 57)
  have HY := Lib.hid ((Blk.new ((w.alloc (.cells #[.int .u8 4, .int .i64 0] 57)).alloc (.cells #[.int .u8 1, .int .i64 2] 57)) 57 #[.int .u8 0, .int .i64 0]).alloc (.cells #[.int .u8 4, .int .i64 0, .int .u8 1, .int .i64 2] 57))
  have hwr := wrong_any 3 [⟨4, 0⟩, ⟨1, 2⟩] (by simp) (some ⟨_, 0, none⟩) 2 _ (row_arg (K := ValE) (W := ((w.alloc (.cells #[.int .u8 4, .int .i64 0] 57)).alloc (.cells #[.int .u8 1, .int .i64 2] 57)).alloc (.cells #[.int .u8 0, .int .i64 0] 57)) (t := 57) (cs := #[.int .u8 4, .int .i64 0, .int .u8 1, .int .i64 2]) rfl rfl)
  rw [show Ce.firstBad [⟨4, 0⟩, ⟨1, 2⟩] 3 = ⟨5, 3⟩ by decide] at hwr
  have s10 := s1.cell 0
  have s11 := s1.cell 1
  have i10 := i1.cell 0
  have i11 := i1.cell 1
  simp only [World.size_alloc] at i10 i11 HY hwr
  dsimp at s10 s11 i10 i11
  have HWR := Lib.hid hwr
  clear hb1 hb2 hb3 hb4 s1 i1 hwr
  go_enter Tryz.func129, Tryz.ntmps129
  go_wp2_with fail
  refine HWR.out.mono ?_
  rintro e w1 ⟨rfl, hb1⟩
  have HY1 := Lib.hid (HY.out.below (by simpa only [World.size_alloc] using hb1))
  have HB1 := Lib.hid (HB4.out.trans (hb1.mono (by omega)))
  have z0 := HY1.out.cell 0
  have z1 := HY1.out.cell 1
  have zf0 := HY1.out.frozen 0
  have zf1 := HY1.out.frozen 1
  dsimp at z0 z1
  clear hb1
  go_wp2
  refine bodyPost_ret (results_cell_row rfl _ _ (w.heap.size + 1 + 1) 57 #[.int .u8 5, .int .i64 3] (0, 0) _ rfl ((HY1.out.set_ 0 _).set_ 1 _) Tryz.underlying57 rfl val_size) rfl ?_
  exact ⟨rfl, (HB1.out.setCell (by simp; omega) _).setCell (by simp; omega) _⟩
end Go.Proofs.YtjldkndalcellaaGreatDoor

namespace Go.Proofs.YtjldkndalcellaaGreatDoor
open Go.RowKit Go.El

theorem Work.grown {W W' : World} {B b : Nat} {A : Option Addr} {c : Nat} {hs : List (Sl × Sl)} {n : Int} {T : Option Addr} {ct : Nat} {ts : List Ce.Td} (h : Work W B b A c hs n T ct ts) {B' cq : Nat} {Q : Option Addr} {ws : List Ce.Rd} (ho : RdE.Own 86 W B' Q cq ws) (hg : W.grownBy W' (Value.slice Q ws.length cq).ownBlock) : Work W' B b A c hs n T ct ts :=
  ⟨h.hB, h.blk.kept hg (Own.ne_blk ho h.blk (by decide)), h.sts.kept hg (own_own_ne h.sts ho (by decide)), h.tds.kept hg (own_own_ne h.tds ho (by decide))⟩
theorem isHole_hole : isHoleB Ce.hole = true := by decide
def ldRead : Oper := { dst := some 48, op := Op.load 59 (Operand.tmp 47), type := 59, pos := "work.go:100", after := #[{ on := 3, ground := Ground.data }], guard := none }
attribute [local go_sem] ldRead
set_option maxRecDepth 100000 in
set_option maxHeartbeats 4000000 in
theorem read_in (B b r : Nat) (w : World) (h : One w B b r [Ce.hole, Ce.hole] [] 0 []) (hBw : B ≤ w.heap.size) :
    Calls Tryz.prog 110 #[.pointer (some ⟨b, 0, none⟩), opArg 3 4 0 1 1 0 0 7] w fun e w' => e = .returned (.tuple #[.agg #[.int .u8 0, .int .i64 0], .int .i64 0]) ∧ One w' B b r [Ce.hole, Ce.hole] [⟨1, 7⟩] 1 [] ∧ Below B w w' ∧ Fr r w w' := by
  have hb1 : Below w.heap.size w (w.alloc (.cells (opCells 3 4 0 1 1 0 0 7) 75)) := (Below.refl _ _).alloc (Nat.le_refl _) _
  have hb2 := hb1.alloc (by simp) (.cells #[.int .u8 0, .int .i64 0] 57)
  have HB2 := Lib.hid hb2
  have hrl : r < w.heap.size := by
    obtain ⟨_, hA, _, hl, _⟩ := Own.in_ h.vals (by simp)
    injection hA with hA
    injection hA with hA
    omega
  have hbl : b < w.heap.size := by
    obtain ⟨_, _, _, _, _, _, hw, _⟩ := h.ex
    exact hw.blk.lt
  obtain ⟨⟨g, c, Q, cq, T, ct, hw, hq⟩, hv, _⟩ := h.below hb2
  have hgl : g < w.heap.size := by
    obtain ⟨⟨g', c', Q', cq', T', ct', hw', hq'⟩, _, _⟩ := h
    have e1 := (hw'.blk.below hb2)
    have e2 : some _ = some _ := (show Blk _ _ _ _ from hw.blk).symm.trans e1
    injection e2 with e2
    injection e2 with e2
    injection e2 with e2
    have e3 := congrArg (fun l => l[0]?) e2
    simp at e3
    have := hw'.at1.2.2.2
    omega
  have HW := Lib.hid hw
  have HQ := Lib.hid hq
  have HV := Lib.hid hv
  have HY := Lib.hid (Blk.new (w.alloc (.cells (opCells 3 4 0 1 1 0 0 7) 75)) 57 #[.int .u8 0, .int .i64 0])
  have HO := Lib.hid ((Blk.new w 75 (opCells 3 4 0 1 1 0 0 7)).alloc (.cells #[.int .u8 0, .int .i64 0] 57))
  simp only [World.size_alloc] at HY
  have HCELL := Lib.hid (cell_in b g r c _ (hw.blk.cell 0) hw.at1.1)
  have HH := Lib.hid (fun W => isHole_any Ce.hole W)
  rw [isHole_hole] at HH
  have FACTS : Hid (∀ W, Below ((w.alloc (.cells (opCells 3 4 0 1 1 0 0 7) 75)).alloc (.cells #[.int .u8 0, .int .i64 0] 57)).heap.size ((w.alloc (.cells (opCells 3 4 0 1 1 0 0 7) 75)).alloc (.cells #[.int .u8 0, .int .i64 0] 57)) W →
      (W.cell? ⟨b, 0, none⟩ = some (.slice (some ⟨g, 0, none⟩) 1 c) ∧ W.cell? ⟨b, 1, none⟩ = some (.int .i64 0)) ∧ (W.cell? ⟨g, 0, none⟩ = some (.slice (some ⟨r, 0, none⟩) 2 2) ∧ W.cell? ⟨g, 1, none⟩ = some (.slice Q 0 cq)) ∧ (W.cell? ⟨r, 2, none⟩ = some (.int .u8 0) ∧ W.cell? ⟨r, 3, none⟩ = some (.int .i64 0)) ∧
      W.cell? ⟨w.heap.size, 0, none⟩ = some (.int .u8 3) ∧ W.cell? ⟨w.heap.size, 1, none⟩ = some (.int .u8 4) ∧ W.cell? ⟨w.heap.size, 2, none⟩ = some (.int .i64 0) ∧ W.cell? ⟨w.heap.size, 3, none⟩ = some (.int .u8 1) ∧ W.cell? ⟨w.heap.size, 4, none⟩ = some (.int .i64 1) ∧ W.cell? ⟨w.heap.size, 5, none⟩ = some (.int .u8 0) ∧ W.cell? ⟨w.heap.size, 6, none⟩ = some (.int .i64 0) ∧ W.cell? ⟨w.heap.size, 7, none⟩ = some (.int .i64 7)) := Lib.hid fun W hb => by
    have hw' := HW.out.below hb
    obtain ⟨r', hA, _, _, hin⟩ := Own.in_ (Own.below HV.out hb) (by simp)
    injection hA with hA
    injection hA with hA
    subst hA
    exact ⟨⟨hw'.blk.cell 0, hw'.blk.cell 1⟩, ⟨hw'.at1.1, hw'.at1.2.1⟩, ⟨hin 1 _ rfl 0 _ rfl, hin 1 _ rfl 1 _ rfl⟩, op_at (HO.out.below hb)⟩
  obtain ⟨_, _, _, o0, o1, o2, o3, o4, o5, o6, o7⟩ := FACTS.out _ (Below.refl _ _)
  unfold opCells at *
  unfold opArg opCells
  clear hb1 hb2 h hw hq hv
  go_enter Tryz.func110, Tryz.ntmps110
  go_wp2_with fail
  generalize hWX : World.alloc _ _ = WX at *
  clear hWX
  refine HCELL.out.mono ?_
  rintro e w1 ⟨rfl, hb1⟩
  have HB1 := Lib.hid hb1
  clear o0 o1 o2 o3 o4 o5 o6 o7
  obtain ⟨⟨b0, b1⟩, ⟨g0, g1⟩, ⟨r0, r1⟩, o0, o1, o2, o3, o4, o5, o6, o7⟩ := FACTS.out w1 hb1
  clear hb1
  go_wp2_with fail
  refine (HH.out _).mono ?_
  rintro e w2 ⟨rfl, hb2⟩
  have HB2' := Lib.hid (HB1.out.trans (hb2.mono HB1.out.size))
  clear b0 b1 g0 g1 r0 r1 o0 o1 o2 o3 o4 o5 o6 o7 hb2
  obtain ⟨⟨b0, b1⟩, ⟨g0, g1⟩, ⟨r0, r1⟩, o0, o1, o2, o3, o4, o5, o6, o7⟩ := FACTS.out w2 HB2'.out
  go_wp2_with fail
  go_region
  go_wp2_with fail
  have hsz : w.heap.size + 1 + 1 ≤ w2.heap.size := by
    have := HB2'.out.size
    have := HY.out.lt
    omega
  have HB3 := Lib.hid HB2'.out.drew
  have hsz3 : w.heap.size + 1 + 1 ≤ w2.drew.heap.size := hsz
  clear b0 b1 g0 g1 r0 r1 o0 o1 o2 o3 o4 o5 o6 o7 HB2'
  generalize hW3 : World.drew w2 = W3 at *
  clear hW3 hsz
  obtain ⟨⟨b0, b1⟩, ⟨g0, g1⟩, ⟨r0, r1⟩, o0, o1, o2, o3, o4, o5, o6, o7⟩ := FACTS.out W3 HB3.out
  have hgl2 : g < W3.heap.size := by omega
  have hwl2 : w.heap.size < W3.heap.size := by omega
  have hgne : g ≠ w.heap.size := by omega
  have hgne2 : w.heap.size ≠ g := by omega
  have HX3 : Hid (Below WX.heap.size WX (W3.alloc (.cells #[.int .i64 1, .int .i64 7] 86)).drew) := Lib.hid (HB3.out.alloc HB3.out.size _).drew
  have HARG : Hid (RdE.Arg (W3.alloc (.cells #[.int .i64 1, .int .i64 7] 86)).drew (some ⟨W3.heap.size, 0, none⟩) [⟨1, 7⟩]) := Lib.hid ((row_arg (K := RdE) (W := W3) (t := 86) (cs := #[.int .i64 1, .int .i64 7]) rfl rfl).below (Below.refl _ _).drew)
  rw [show ({ dst := some 48, op := Op.load 59 (Operand.tmp 47), type := 59, pos := "work.go:100", after := #[{ on := 3, ground := Ground.data }], guard := none } : Oper) = ldRead from rfl]
  go_region_held3 (fun W => W.cell? ⟨w.heap.size, 4, none⟩ = some (.int .i64 1) ∧ W.cell? ⟨w.heap.size, 7, none⟩ = some (.int .i64 7))
    (go_keep)
    (first
      | (refine step_append_any RdE _ rfl _ _ 59 86 rfl Tryz.underlying59 rd_info rfl B Q cq _ [] [⟨1, 7⟩] _ _ _ rfl rfl rfl rfl (fun hh => by cases hh) (Own.below HQ.out HX3.out) HARG.out (by simp [maxLen]) (by simp) (by have := HX3.out.size; have := HB2.out.size; omega) ?_; intro A4 c4 w4 hown4 hgrow4
         have hop4 := (HO.out.below HX3.out).kept hgrow4 (Own.ne_blk (Own.below HQ.out HX3.out) (HO.out.below HX3.out) (by decide))
         have hw4 := (HW.out.below HX3.out).grown (Own.below HQ.out HX3.out) hgrow4
         obtain ⟨_, v1, vf, vl⟩ := hw4.at1
         have v4 := hop4.cell 4
         have v7 := hop4.cell 7))
  all_goals
    obtain ⟨gs, hgs⟩ := hw4.stBlk
    have HW5 := Lib.hid (hw4.setW A4 1 c4)
    have HR5 := Lib.hid (Only.set1 (o := 1) (a := .slice A4 1 c4) |>.ownT hgs hown4 (by decide))
    have HV5 := Lib.hid (Only.set1 (o := 1) (a := .slice A4 1 c4) |>.ownT hgs ((Own.below HV.out HX3.out).kept hgrow4 (own_own_ne (Own.below HV.out HX3.out) (Own.below HQ.out HX3.out) (by decide))) (by decide))
    have HY5 := Lib.hid (Only.set1 (y := g) (o := 1) (a := .slice A4 1 c4) |>.blk ((HY.out.below HX3.out).kept hgrow4 (Own.ne_blk (Own.below HQ.out HX3.out) (HY.out.below HX3.out) (by decide))) (by omega))
    have HF5 : Hid (Below B w (w4.setCell ⟨g, 1, none⟩ (.slice A4 1 c4)) ∧ Fr r w (w4.setCell ⟨g, 1, none⟩ (.slice A4 1 c4))) := Lib.hid ⟨(((HB2.out.trans (HX3.out.mono HB2.out.size)).mono hBw).grown hgrow4 (by have := HX3.out.size; have := HB2.out.size; omega) (fun j hj => ((Own.below HQ.out HX3.out).lt j hj).1)).setCell (p := ⟨g, 1, none⟩) (HW5.out.sts.lt g rfl).1 _, ((Fr.below (HB2.out.trans (HX3.out.mono HB2.out.size))).trans (Fr.grown (Own.below HQ.out HX3.out) (.inr (.inr (.inl rfl))) hgrow4)).trans (Fr.set hgs (.inr (.inl rfl)))⟩
    clear hop4 v1 vf vl v4 v7 hw4 hgs
    generalize hW5 : World.setCell w4 _ _ = W5 at *
    clear hW5 hown4 hgrow4
    have k1 := HW5.out.blk.cell 1
    have kf := HW5.out.blk.frozen 1
    have kl := HW5.out.blk.lt
    have hBb := HW5.out.hB
    have z0 := HY5.out.cell 0
    have z1 := HY5.out.cell 1
    have zf0 := HY5.out.frozen 0
    have zf1 := HY5.out.frozen 1
    dsimp at k1 z0 z1
    have hby : b ≠ w.heap.size + 1 := by omega
    have hby2 : w.heap.size + 1 ≠ b := by omega
    go_wp2
    have hY6 := (Only.set1 (y := b) (o := 1) (W := W5) (a := .int .i64 1)).blk HY5.out (by omega)
    refine bodyPost_ret (results_row_tmp rfl _ _ (w.heap.size + 1) 57 #[.int .u8 0, .int .i64 0] (0, 0) _ rfl ((hY6.set_ 0 _).set_ 1 _) Tryz.underlying57 rfl val_size) rfl ?_
    have hO := Only.set2 (y := w.heap.size + 1) (W := W5.setCell ⟨b, 1, none⟩ (.int .i64 1)) (a := .int .u8 0) (c := .int .i64 0)
    refine ⟨rfl, ⟨⟨g, c, A4, c4, T, ct, hO.work hY6 (HW5.out.setN 1), hO.ownT hY6 (Only.set1.ownT HW5.out.blk HR5.out (by decide)) (by decide)⟩, hO.own (Only.set1.ownT HW5.out.blk HV5.out (by decide)) (fun a ha => by injection ha with ha; subst ha; dsimp; omega), rfl⟩, ?_, hO.fr (HF5.out.2.trans (Fr.set HW5.out.blk (.inl rfl))) (by omega)⟩
    exact (((HF5.out.1.setCell (p := ⟨b, 1, none⟩) hBb _).setCell (p := ⟨w.heap.size + 1, 0, none⟩) (by dsimp; omega) _).setCell (p := ⟨w.heap.size + 1, 1, none⟩) (by dsimp; omega) _)

set_option maxRecDepth 100000 in
set_option maxHeartbeats 4000000 in
theorem read_out (B b r : Nat) (cells : List Ce.V) (ws : List Ce.Rd) (n : Int) (ts : List Ce.Td) (w : World) (h : One w B b r cells ws n ts) (hBw : B ≤ w.heap.size) :
    Calls Tryz.prog 110 #[.pointer (some ⟨b, 0, none⟩), opArg 3 4 0 1 2 0 0 8] w fun e w' => e = .returned (.tuple #[.agg #[.int .u8 5, .int .i64 3], .int .i64 0]) ∧ One w' B b r cells ws n ts ∧ Below B w w' ∧ Fr r w w' := by
  have hb1 : Below w.heap.size w (w.alloc (.cells (opCells 3 4 0 1 2 0 0 8) 75)) := (Below.refl _ _).alloc (Nat.le_refl _) _
  have hb2 := hb1.alloc (by simp) (.cells #[.int .u8 0, .int .i64 0] 57)
  have HB2 := Lib.hid hb2
  have HONE := Lib.hid (h.below hb2)
  obtain ⟨⟨g, c, Q, cq, T, ct, hw, hq⟩, hv, _⟩ := h.below hb2
  have HY := Lib.hid (Blk.new (w.alloc (.cells (opCells 3 4 0 1 2 0 0 8) 75)) 57 #[.int .u8 0, .int .i64 0])
  have HO := Lib.hid ((Blk.new w 75 (opCells 3 4 0 1 2 0 0 8)).alloc (.cells #[.int .u8 0, .int .i64 0] 57))
  simp only [World.size_alloc] at HY
  have hrl : r < w.heap.size := by
    rcases h.vals.2 with ⟨hv, _⟩ | ⟨g', cap', cur, hv, _, hh, _⟩
    · cases hv
    · injection hv with hA
      injection hA with hA
      injection hA with hA
      subst hA
      exact (Array.getElem?_eq_some_iff.1 hh).1
  have HCELL := Lib.hid (cell_out b g r c _ (hw.blk.cell 0) hw.at1.1)
  have HNC := Lib.hid (fun W => noCell_any W)
  obtain ⟨o0, o1, o2, o3, o4, o5, o6, o7⟩ := op_at HO.out
  unfold opCells at *
  unfold opArg opCells
  clear hb1 hb2 h hw hq hv
  go_enter Tryz.func110, Tryz.ntmps110
  go_wp2_with fail
  generalize hWX : World.alloc _ _ = WX at *
  clear hWX
  refine HCELL.out.mono ?_
  rintro e w1 ⟨rfl, hb1⟩
  have HB1 := Lib.hid hb1
  clear o0 o1 o2 o3 o4 o5 o6 o7
  obtain ⟨o0, o1, o2, o3, o4, o5, o6, o7⟩ := op_at (HO.out.below hb1)
  clear hb1
  go_wp2_with fail
  refine (HNC.out _).mono ?_
  rintro e w2 ⟨rfl, hb2⟩
  have HB2' := Lib.hid (HB1.out.trans (hb2.mono HB1.out.size))
  have HY2 := Lib.hid (HY.out.below HB2'.out)
  have z0 := HY2.out.cell 0
  have z1 := HY2.out.cell 1
  have zf0 := HY2.out.frozen 0
  have zf1 := HY2.out.frozen 1
  dsimp at z0 z1
  clear o0 o1 o2 o3 o4 o5 o6 o7 hb2
  go_wp2
  refine bodyPost_ret (results_row_tmp rfl _ _ (w.heap.size + 1) 57 #[.int .u8 5, .int .i64 3] (0, 0) _ rfl ((HY2.out.set_ 0 _).set_ 1 _) Tryz.underlying57 rfl val_size) rfl ?_
  have hO := Only.set2 (y := w.heap.size + 1) (W := w2) (a := .int .u8 5) (c := .int .i64 3)
  obtain ⟨⟨g, c, Q, cq, T, ct, hw, hq⟩, hv, hl⟩ := HONE.out.below HB2'.out
  have hbf := HB2.out.trans (HB2'.out.mono HB2.out.size)
  exact ⟨rfl, ⟨⟨g, c, Q, cq, T, ct, hO.work HY2.out hw, hO.ownT HY2.out hq (by decide)⟩, hO.own hv (fun a ha => by injection ha with ha; subst ha; dsimp; omega), hl⟩, ((hbf.mono hBw).setCell (p := ⟨w.heap.size + 1, 0, none⟩) (by dsimp; omega) _).setCell (p := ⟨w.heap.size + 1, 1, none⟩) (by dsimp; omega) _, hO.fr (Fr.below hbf) (by omega)⟩
end Go.Proofs.YtjldkndalcellaaGreatDoor
