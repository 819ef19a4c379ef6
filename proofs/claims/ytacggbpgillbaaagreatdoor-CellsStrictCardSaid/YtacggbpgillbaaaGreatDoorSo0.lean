/- Layer 6: what awake builds: the laws' tangled; a picture laid out. -/
import Derived.Test.YtacggbpgillbaaaGreatDoorSn
namespace Go.Proofs.YtacggbpgillbaaaGreatDoor
open Go.RowKit Go.El

theorem slat_row {α : Type} {K : El α} {W : World} {t : TypeId} {cs : Array Value} {l : List α} {g n : Nat} (hg : g = W.heap.size) (h : cs.toList = K.row l) (hn : n = l.length) : SlAt K (W.alloc (.cells cs t)) ⟨some ⟨g, 0, none⟩, n, n⟩ l :=
  ⟨hn, row_arg hg h, (by intro e; cases e), Nat.le_refl _⟩
theorem memNil (W : World) : MemV W none 0 [] := ⟨⟨[], rfl, Arg.nil _ _, fun i x s h _ => by simp at h⟩, fun _ => rfl, Nat.le_refl _⟩
theorem slNil {α : Type} (K : El α) (W : World) : SlAt K W ⟨none, 0, 0⟩ [] := ⟨rfl, Arg.nil _ _, fun _ => rfl, Nat.le_refl _⟩
theorem memLit (W : World) : MemAt ((W.alloc (.cells #[.int .u8 0, .int .i64 0, .int .u8 1, .int .i64 5] 26)).alloc (.cells #[.slice (some ⟨W.heap.size, 0, none⟩) 2 2, .slice none 0 0] 83)) (some ⟨W.heap.size + 1, 0, none⟩) [⟨[Ce.hole, Ce.vint 5], []⟩] := by
  refine ⟨[(⟨some ⟨W.heap.size, 0, none⟩, 2, 2⟩, ⟨none, 0, 0⟩)], rfl, row_arg (K := StE) (by simp) rfl, fun i x s h1 h2 => ?_⟩
  cases i with
  | zero =>
    simp at h1 h2
    subst h1 h2
    have hv : SlAt ValE (W.alloc (.cells #[.int .u8 0, .int .i64 0, .int .u8 1, .int .i64 5] 26)) ⟨some ⟨W.heap.size, 0, none⟩, 2, 2⟩ [Ce.hole, Ce.vint 5] := slat_row rfl rfl rfl
    exact ⟨hv.below ((Below.refl _ _).alloc (Nat.le_refl _) _), slNil _ _⟩
  | succ i => simp at h1
def tangledM : Ce.Mem := [⟨[Ce.vref 1], []⟩, ⟨[Ce.vref 1, Ce.hole], []⟩]
theorem memTwo (W : World) (g b1 b2 : Nat) (h0 : StE.Arg W (some ⟨g, 0, none⟩) [(⟨some ⟨b1, 0, none⟩, 1, 1⟩, ⟨none, 0, 0⟩), (⟨some ⟨b2, 0, none⟩, 2, 2⟩, ⟨none, 0, 0⟩)])
    (h1 : ValE.Arg W (some ⟨b1, 0, none⟩) [Ce.vref 1]) (h2 : ValE.Arg W (some ⟨b2, 0, none⟩) [Ce.vref 1, Ce.hole]) : MemV W (some ⟨g, 0, none⟩) 2 tangledM := by
  refine ⟨⟨_, rfl, h0, fun i x s e1 e2 => ?_⟩, (by intro e; cases e), Nat.le_refl _⟩
  match i, e1, e2 with
  | 0, e1, e2 =>
    simp [tangledM] at e1 e2
    subst e1 e2
    exact ⟨⟨rfl, h1, (by intro e; cases e), Nat.le_refl _⟩, slNil _ _⟩
  | 1, e1, e2 =>
    simp [tangledM] at e1 e2
    subst e1 e2
    exact ⟨⟨rfl, h2, (by intro e; cases e), Nat.le_refl _⟩, slNil _ _⟩
  | i + 2, e1, _ => simp at e1
def drawnP : Ce.Pic := ⟨[Ce.vref 0, Ce.vref 1, Ce.vref 0], [[Ce.vref 0, Ce.hole], [Ce.vref 0]]⟩
theorem picLit (W : World) (v c b1 b2 : Nat) (h0 : ValE.Arg W (some ⟨v, 0, none⟩) [Ce.vref 0, Ce.vref 1, Ce.vref 0]) (h1 : SlE.Arg W (some ⟨c, 0, none⟩) [⟨some ⟨b1, 0, none⟩, 2, 2⟩, ⟨some ⟨b2, 0, none⟩, 1, 1⟩])
    (h2 : ValE.Arg W (some ⟨b1, 0, none⟩) [Ce.vref 0, Ce.hole]) (h3 : ValE.Arg W (some ⟨b2, 0, none⟩) [Ce.vref 0]) : PicAt W (some ⟨v, 0, none⟩) 3 (some ⟨c, 0, none⟩) drawnP := by
  refine ⟨⟨rfl, h0, (by intro e; cases e), Nat.le_refl _⟩, _, rfl, h1, fun i x s e1 e2 => ?_⟩
  match i, e1, e2 with
  | 0, e1, e2 =>
    simp [drawnP] at e1 e2
    subst e1 e2
    exact ⟨rfl, h2, (by intro e; cases e), Nat.le_refl _⟩
  | 1, e1, e2 =>
    simp [drawnP] at e1 e2
    subst e1 e2
    exact ⟨rfl, h3, (by intro e; cases e), Nat.le_refl _⟩
  | i + 2, e1, _ => simp at e1

theorem blk_arg {α : Type} {K : El α} {W : World} {g : Nat} {t : TypeId} {cs : Array Value} {l : List α} (h : Blk W g t cs) (hr : cs.toList = K.row l) : K.Arg W (some ⟨g, 0, none⟩) l :=
  ⟨fun _ => ⟨_, 0, rfl, in_of_row fun j u hj => by rw [h.cell, ← Array.getElem?_toList, hr]; exact hj⟩⟩
set_option maxRecDepth 100000 in
theorem tangled_any (w : World) : Calls Tryz.prog 69 #[] w fun e w' => (∃ g, e = .returned (.agg #[.slice (some ⟨g, 0, none⟩) 2 2]) ∧ MemV w' (some ⟨g, 0, none⟩) 2 tangledM) ∧ Below w.heap.size w w' := by
  have HREF := Lib.hid (fun k W => mkRef_any k W)
  have HZ := Lib.hid (Blk.new w 35 #[.slice none 0 0])
  have HB : Hid (Below w.heap.size w (w.alloc (.cells #[.slice none 0 0] 35))) := Lib.hid ((Below.refl _ _).alloc (Nat.le_refl _) _)
  go_enter Tryz.func69, Tryz.ntmps69
  go_wp2_with fail
  refine (HREF.out 1 _).mono ?_
  rintro e w1 ⟨rfl, hb1⟩
  have HZ1 := Lib.hid ((HZ.out.below hb1).alloc (.cells #[.int .u8 4, .int .i64 1] 26))
  have HB1 := Lib.hid ((HB.out.trans (hb1.mono HB.out.size)).alloc (HB.out.trans (hb1.mono HB.out.size)).size (.cells #[.int .u8 4, .int .i64 1] 26))
  have S1 := Lib.hid (Blk.new w1 26 #[.int .u8 4, .int .i64 1])
  have hl1 : w.heap.size < w1.heap.size := by have := hb1.size; simp at this; omega
  clear hb1 HZ HB
  go_wp2_with fail
  refine (HREF.out 1 _).mono ?_
  rintro e w2 ⟨rfl, hb2⟩
  have HZ2 := Lib.hid (HZ1.out.below hb2)
  have HB2 := Lib.hid (HB1.out.trans (hb2.mono HB1.out.size))
  have S1 := Lib.hid (S1.out.below hb2)
  clear hb2 HZ1 HB1
  have z0 : w2.cell? ⟨w.heap.size, 0, none⟩ = some (.slice none 0 0) := HZ2.out.cell 0
  have zf0 := HZ2.out.frozen 0
  have zl := HZ2.out.lt
  go_wp2
  have HS : Blk (w2.setCell ⟨w.heap.size, 0, none⟩ (.slice (some ⟨w2.heap.size + 1, 0, none⟩) 2 2)) w1.heap.size 26 #[.int .u8 4, .int .i64 1] := S1.out.kept (grownBy_setCell1 w2 w.heap.size 0 _) (by simp; omega)
  have HG := HZ2.out.set_ 0 (.slice (some ⟨w2.heap.size + 1, 0, none⟩) 2 2)
  have hsz : (w2.setCell ⟨w.heap.size, 0, none⟩ (.slice (some ⟨w2.heap.size + 1, 0, none⟩) 2 2)).heap.size = w2.heap.size := by simp [World.setCell]
  have hbs : Below w.heap.size w (w2.setCell ⟨w.heap.size, 0, none⟩ (.slice (some ⟨w2.heap.size + 1, 0, none⟩) 2 2)) := HB2.out.setCell (by simp) _
  generalize w2.setCell ⟨w.heap.size, 0, none⟩ (.slice (some ⟨w2.heap.size + 1, 0, none⟩) 2 2) = W at *
  rw [← hsz]
  rw [← hsz] at HG
  have hlw : w.heap.size < W.heap.size := by omega
  refine bodyPost_ret (results_cell_row rfl _ _ w.heap.size 35 #[.slice (some ⟨W.heap.size + 1, 0, none⟩) 2 2] (0, 0) _ rfl ((HG.alloc _).alloc _) Tryz.underlying35 rfl mem_size) rfl ?_
  refine ⟨⟨_, rfl, memTwo _ _ w1.heap.size W.heap.size (row_arg (K := StE) (by simp) rfl) (blk_arg ((HS.alloc _).alloc _) rfl) (blk_arg ((Blk.new W _ _).alloc _) rfl)⟩, (hbs.alloc (by omega) _).alloc (by simp; omega) _⟩
end Go.Proofs.YtacggbpgillbaaaGreatDoor
