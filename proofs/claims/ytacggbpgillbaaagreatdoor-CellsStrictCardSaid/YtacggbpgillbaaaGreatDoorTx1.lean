/- Layer 6, the program: memoryOf. -/
import Derived.Test.YtacggbpgillbaaaGreatDoorTv
import Derived.Test.YtacggbpgillbaaaGreatDoorTw
namespace Go.Proofs.YtacggbpgillbaaaGreatDoor
open Go.RowKit Go.El

theorem slat_nil (W : World) : SlAt RdE W ⟨none, 0, 0⟩ [] := ⟨rfl, Arg.nil _ _, fun _ => rfl, Nat.le_refl _⟩
/-- the cells of a picture's lists, as the handles of a memory -/
def handles (hs : List Sl) : List (Sl × Sl) := hs.map fun h => (h, ⟨none, 0, 0⟩)
theorem handles_len (hs : List Sl) : (handles hs).length = hs.length := List.length_map _
def MemOfIs (ls : List (List Ce.V)) (n : Nat) (w' : World) (e : Ending) : Prop := ∃ B c, e = .returned (.agg #[.slice B n c]) ∧ MemAt w' B (ls.map fun l => ⟨l, []⟩)
set_option maxRecDepth 100000 in
set_option maxHeartbeats 4000000 in
theorem memoryOf_any (ls : List (List Ce.V)) (hl : ls.length ≤ 10000) (C : Option Addr) (cc : Nat) (w : World) (h : LsAt w C ls) :
    Calls Tryz.prog 89 #[.slice C ls.length cc] w fun e w' => MemOfIs ls ls.length w' e ∧ Below w.heap.size w w' := by
  have hbx : Below w.heap.size w ((w.alloc (.cells #[.slice none 0 0] 35)).alloc (.cells #[.slice none 0 0] 35)) := ((Below.refl _ _).alloc (Nat.le_refl _) _).alloc (by simp) _
  obtain ⟨hs, e1, e2, e3⟩ := h
  have HX0 := Lib.hid ((Blk.new w 35 #[.slice none 0 0]).alloc (.cells #[.slice none 0 0] 35))
  have HY0 := Lib.hid (Blk.new (w.alloc (.cells #[.slice none 0 0] 35)) 35 #[.slice none 0 0])
  simp only [World.size_alloc] at HY0
  have HB0 := Lib.hid hbx
  have HLEN := Lib.hid e1
  have HARG := Lib.hid e2.stay
  have HEND : Hid (∀ W B c, Below w.heap.size w W → StE.Own 83 W (w.heap.size + 2) B c (handles hs) → MemAt W B (ls.map fun l => ⟨l, []⟩)) := Lib.hid fun W B c hb ho => by
    refine ⟨handles hs, by rw [handles_len, List.length_map, e1], Own.arg ho, fun i x s h1 h2 => ?_⟩
    unfold handles at h1
    rw [List.getElem?_map] at h1 h2
    obtain ⟨y, hy, rfl⟩ := Option.map_eq_some_iff.1 h1
    obtain ⟨l, hl, rfl⟩ := Option.map_eq_some_iff.1 h2
    exact ⟨(e3 i y l hy hl).below hb, slat_nil W⟩
  have HPART : Hid (∀ k (x : Sl), hs[k]? = some x → handles (hs.take (k + 1)) = handles (hs.take k) ++ [(x, ⟨none, 0, 0⟩)]) := Lib.hid fun k x hx => by
    unfold handles
    rw [List.take_add_one, hx, List.map_append]
    rfl
  have HALL : Hid (∀ k, hs.length ≤ k → handles (hs.take k) = handles hs) := Lib.hid fun k hk => by rw [List.take_of_length_le hk]
  have HTL : Hid (∀ k, k ≤ hs.length → (handles (hs.take k)).length = k) := Lib.hid fun k hk => by rw [handles_len, List.length_take]; omega
  generalize hn : ls.length = n at *
  have hnz : (n : Int) ≤ 10000 := by omega
  clear e1 e2 e3 hbx hn
  go_enter Tryz.func89, Tryz.ntmps89
  go_wp2_with fail
  go_loopw [8] (fun i wr => ∃ (k : Nat) (B : Option Addr) (c : Nat), k ≤ n ∧ i = .int .i64 k ∧ Hid (Blk wr w.heap.size 35 #[.slice none 0 0]) ∧ Hid (Blk wr (w.heap.size + 1) 35 #[.slice B k c]) ∧ Hid (StE.Own 83 wr (w.heap.size + 2) B c (handles (hs.take k))) ∧ w.heap.size + 2 ≤ wr.heap.size ∧ Hid (Below w.heap.size w wr)) (fun i _ => n - (intOf i).toNat)
  case atStart => exact ⟨0, none, 0, Nat.zero_le _, rfl, HX0, HY0, Lib.hid (Own.nil StE 83 _ _), by simp, HB0⟩
  case round =>
    clear HX0 HY0 HB0
    obtain ⟨k, B, c, hk, rfl, HX, HY, HO, hsz, HB⟩ := hrel
    by_cases hlt : k < n
    · have hlt' : (k : Int) < n := by omega
      obtain ⟨x, hx⟩ : ∃ x, hs[k]? = some x := ⟨_, List.getElem?_eq_getElem (by rw [HLEN.out]; exact hlt)⟩
      obtain ⟨bc, oc, rfl, hin, hbc⟩ := (HARG.out wr HB.out).at_lt (k := k) (by rw [HLEN.out]; exact hlt)
      have y0 := hin k x hx 0 _ rfl
      have e : k * SlE.k = k := Nat.mul_one k
      rw [e, Nat.add_zero] at y0
      have HP := Lib.hid (HPART.out k x hx)
      have HTK := Lib.hid (HTL.out k (by rw [HLEN.out]; omega))
      obtain ⟨xA, xn, xc⟩ := x
      unfold Sl.val at y0
      dsimp only at y0
      have g1 : wr.cell? ⟨w.heap.size + 1, 0, none⟩ = some (.slice B k c) := HY.out.cell 0
      have hba : Below wr.heap.size wr (wr.alloc (.cells #[.slice xA xn xc, .slice none 0 0] 83)) := (Below.refl _ _).alloc (Nat.le_refl _) _
      have HOA : Hid (StE.Own 83 (wr.alloc (.cells #[.slice xA xn xc, .slice none 0 0] 83)) (w.heap.size + 2) B c (handles (hs.take k))) := Lib.hid (HO.out.below hba)
      have HXA := Lib.hid (HX.out.below hba)
      have HYA := Lib.hid (HY.out.below hba)
      have HBA := Lib.hid (HB.out.alloc (by omega) (.cells #[.slice xA xn xc, .slice none 0 0] 83))
      clear hin hx HX HY HO HB e hba
      go_wp2_with (at_builtin; refine wpList_append_one StE _ rfl _ _ 33 83 rfl Tryz.underlying33 st_info rfl (w.heap.size + 2) B c (handles (hs.take k)) (⟨xA, xn, xc⟩, ⟨none, 0, 0⟩) wr.heap.size (by rw [HTK.out]; rfl) rfl HOA.out (fun j u hj => by
        match j, hj with
        | 0, hj => simp [StE, Sl.val] at hj; subst hj; exact cell_of_row _ _ 0 _ _ _ (heap_alloc_new wr _)
        | 1, hj => simp [StE, Sl.val] at hj; subst hj; exact cell_of_row _ _ 1 _ _ _ (heap_alloc_new wr _)) (by rw [HTK.out]; omega) (by rw [HTK.out]; omega) (by simp; omega) ?_)
      intro A' c' w2 hown2 hgrow2
      rw [HTK.out]
      have hne : some (w.heap.size + 1) ≠ (Value.slice B (handles (hs.take k)).length c).ownBlock := fun e => by have := (HOA.out.lt _ e.symm).1; omega
      have hne0 : some w.heap.size ≠ (Value.slice B (handles (hs.take k)).length c).ownBlock := fun e => by have := (HOA.out.lt _ e.symm).1; omega
      have hy2 := HYA.out.kept hgrow2 hne
      have hx2 := HXA.out.kept hgrow2 hne0
      have v1 := hy2.cell 0
      have vf := hy2.frozen 0
      dsimp at v1
      have hset := grownBy_setCell1 w2 (w.heap.size + 1) 0 (.slice A' (k + 1) c')
      have HY3 := Lib.hid (hy2.set_ 0 (.slice A' (k + 1) c'))
      have HX3 := Lib.hid (hx2.kept hset (by simp))
      have HO3 : Hid (StE.Own 83 (w2.setCell ⟨w.heap.size + 1, 0, none⟩ (.slice A' (k + 1) c')) (w.heap.size + 2) A' c' (handles (hs.take (k + 1)))) := Lib.hid (by
        rw [HP.out]
        exact Own.low hown2 hset (fun j hj => by cases hj; omega))
      have HB3 := Lib.hid ((HBA.out.grown hgrow2 (by simp; omega) (fun j hj => by have := (HOA.out.lt _ hj).1; omega)).setCell (p := ⟨w.heap.size + 1, 0, none⟩) (by simp) (.slice A' (k + 1) c'))
      have hz2 := hgrow2.size
      simp only [World.size_alloc] at hz2
      clear hown2 hgrow2 hne hne0 hy2 hx2 hset HOA HXA HYA HBA y0 g1
      go_wp2
      go_roundw
      case rel => exact ⟨k + 1, A', c', by omega, by go_num, HX3, HY3, HO3, by simp; omega, HB3⟩
      case measure => simp [intOf]; omega
    · have hlt' : ¬ (k : Int) < n := by omega
      obtain rfl : k = n := by omega
      have HE := Lib.hid (HEND.out wr B c HB.out (by have := HO.out; rwa [HALL.out k (by rw [HLEN.out]; exact Nat.le_refl _)] at this))
      have g0 : wr.cell? ⟨w.heap.size + 1, 0, none⟩ = some (.slice B k c) := HY.out.cell 0
      have z0 : wr.cell? ⟨w.heap.size, 0, none⟩ = some (.slice none 0 0) := HX.out.cell 0
      have zf := HX.out.frozen 0
      have hset := grownBy_setCell1 wr w.heap.size 0 (.slice B k c)
      have HE2 : Hid (MemAt (wr.setCell ⟨w.heap.size, 0, none⟩ (.slice B k c)) B (ls.map fun l => ⟨l, []⟩)) := Lib.hid (HEND.out _ B c (HB.out.setCell (by simp) _) (Own.low (by have := HO.out; rwa [HALL.out k (by rw [HLEN.out]; exact Nat.le_refl _)] at this) hset (fun j hj => by cases hj; omega)))
      clear hset
      go_wp2
      refine bodyPost_ret (results_cell_row rfl _ _ w.heap.size 35 #[.slice B k c] (0, 0) _ rfl (HX.out.set_ 0 _) Tryz.underlying35 rfl mem_size) rfl ?_
      exact ⟨⟨B, c, rfl, HE2.out⟩, HB.out.setCell (by simp) _⟩
end Go.Proofs.YtacggbpgillbaaaGreatDoor
