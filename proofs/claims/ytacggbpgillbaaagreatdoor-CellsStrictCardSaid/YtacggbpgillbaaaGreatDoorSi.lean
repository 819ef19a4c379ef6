/- Layer 6: the reference's makers of values, names, Operands. -/
import Derived.Test.YtacggbpgillbaaaGreatDoorSh
import Derived.Lib.Strings
namespace Go.Proofs.YtacggbpgillbaaaGreatDoor
open Go.RowKit Go.El

theorem val_size : (Tryz.prog.info? 26).map (·.size) = some 2 := by kernel_rfl

theorem mkInt_any (n : Int) (w : World) : Calls Tryz.prog 58 #[.int .i64 n] w fun e w' => e = .returned (.agg #[.int .u8 1, .int .i64 n]) ∧ Below w.heap.size w w' := by
  go_enter Tryz.func58, Tryz.ntmps58
  go_wp2
  refine bodyPost_ret (results_cell_row rfl _ _ w.heap.size 26 #[.int .u8 1, .int .i64 n] (0, 0) _ rfl (heap_alloc_new w _) Tryz.underlying26 rfl val_size) rfl ?_
  exact ⟨rfl, (Below.refl _ _).alloc (Nat.le_refl _) _⟩

theorem mkRef_any (n : Int) (w : World) : Calls Tryz.prog 56 #[.int .i64 n] w fun e w' => e = .returned (.agg #[.int .u8 4, .int .i64 n]) ∧ Below w.heap.size w w' := by
  go_enter Tryz.func56, Tryz.ntmps56
  go_wp2
  refine bodyPost_ret (results_cell_row rfl _ _ w.heap.size 26 #[.int .u8 4, .int .i64 n] (0, 0) _ rfl (heap_alloc_new w _) Tryz.underlying26 rfl val_size) rfl ?_
  exact ⟨rfl, (Below.refl _ _).alloc (Nat.le_refl _) _⟩

theorem mkBad_any (n : Int) (w : World) : Calls Tryz.prog 55 #[.int .i64 n] w fun e w' => e = .returned (.agg #[.int .u8 5, .int .i64 n]) ∧ Below w.heap.size w w' := by
  go_enter Tryz.func55, Tryz.ntmps55
  go_wp2
  refine bodyPost_ret (results_cell_row rfl _ _ w.heap.size 26 #[.int .u8 5, .int .i64 n] (0, 0) _ rfl (heap_alloc_new w _) Tryz.underlying26 rfl val_size) rfl ?_
  exact ⟨rfl, (Below.refl _ _).alloc (Nat.le_refl _) _⟩

theorem mkNil_any (w : World) : Calls Tryz.prog 57 #[] w fun e w' => e = .returned (.agg #[.int .u8 3, .int .i64 0]) ∧ Below w.heap.size w w' := by
  go_enter Tryz.func57, Tryz.ntmps57
  go_wp2
  refine bodyPost_ret (results_cell_row rfl _ _ w.heap.size 26 #[.int .u8 3, .int .i64 0] (0, 0) _ rfl (heap_alloc_new w _) Tryz.underlying26 rfl val_size) rfl ?_
  exact ⟨rfl, (Below.refl _ _).alloc (Nat.le_refl _) _⟩

theorem mkBool_any (b : Bool) (w : World) : Calls Tryz.prog 68 #[.bool b] w fun e w' => e = .returned (.agg #[.int .u8 2, .int .i64 (Ce.vbool b).n]) ∧ Below w.heap.size w w' := by
  cases b with
  | true =>
    go_enter Tryz.func68, Tryz.ntmps68
    go_wp2
    refine bodyPost_ret (results_cell_row rfl _ _ w.heap.size 26 #[.int .u8 2, .int .i64 1] (0, 0) _ rfl (heap_alloc_new w _) Tryz.underlying26 rfl val_size) rfl ?_
    exact ⟨rfl, (Below.refl _ _).alloc (Nat.le_refl _) _⟩
  | false =>
    go_enter Tryz.func68, Tryz.ntmps68
    go_wp2
    refine bodyPost_ret (results_cell_row rfl _ _ w.heap.size 26 #[.int .u8 2, .int .i64 0] (0, 0) _ rfl (heap_alloc_new w _) Tryz.underlying26 rfl val_size) rfl ?_
    exact ⟨rfl, (Below.refl _ _).alloc (Nat.le_refl _) _⟩

def StrE : El ByteArray := { cells := fun s => [.string s], k := 1, pos := by decide, len := fun _ => rfl, one := fun x u hu => by simp at hu; subst hu; rfl }
theorem StrE.at1 {w : World} {b o : Nat} {l : List ByteArray} (h : StrE.In w b o l) {k : Nat} {p : ByteArray} (hp : l[k]? = some p) : w.cell? ⟨b, o + k * 1, none⟩ = some (.string p) := h k p hp 0 _ rfl
/-- the names, as bytes -/
def nms : List ByteArray := Ce.names.map fun l => ⟨l.toArray⟩
theorem names_any (w : World) : Calls Tryz.prog 75 #[] w fun e w' => (∃ g, e = .returned (.slice (some ⟨g, 0, none⟩) 10 10) ∧ StrE.Arg w' (some ⟨g, 0, none⟩) nms) ∧ Below w.heap.size w w' := by
  go_enter Tryz.func75, Tryz.ntmps75
  go_wp2
  go_ret
  exact ⟨⟨_, rfl, row_arg (K := StrE) rfl rfl⟩, (Below.refl _ _).alloc (Nat.le_refl _) _⟩
theorem toBytes_inj (s : ByteArray) (l : List UInt8) : s = ⟨l.toArray⟩ ↔ s.data.toList = l := by
  constructor
  · rintro rfl; rfl
  · intro h
    obtain ⟨d⟩ := s
    dsimp only at h
    subst h
    simp
theorem nms_mem (s : ByteArray) : s ∈ nms ↔ s.data.toList ∈ Ce.names := by
  unfold nms
  rw [List.mem_map]
  constructor
  · rintro ⟨l, hl, rfl⟩; exact hl
  · intro h; exact ⟨_, h, ((toBytes_inj s _).2 rfl).symm⟩
theorem operands_in (s : ByteArray) (hm : s ∈ nms) : Ce.operands s.data.toList = if s.toList = [110, 101, 103] ∨ s.toList = [110, 111, 116] then 1 else 2 := by
  rw [Lib.toList_data]
  unfold Ce.operands
  rw [if_pos (List.contains_iff_mem.2 ((nms_mem s).1 hm))]
  rfl
theorem operands_out (s : ByteArray) (hm : ¬ s ∈ nms) : Ce.operands s.data.toList = 0 := by
  unfold Ce.operands
  rw [if_neg (fun h => hm ((nms_mem s).2 (List.contains_iff_mem.1 h)))]
theorem bytes_ne {s t : ByteArray} (h : s ≠ t) : (s.toList == t.toList) = false := by
  rw [beq_eq_false_iff_ne, Lib.toList_data, Lib.toList_data]
  intro e
  refine h ((toBytes_inj s t.data.toList).2 e |>.trans ?_)
  obtain ⟨d⟩ := t
  simp

set_option maxRecDepth 100000 in
set_option maxHeartbeats 1000000 in
theorem operands_any (s : ByteArray) (w : World) : Calls Tryz.prog 23 #[.string s] w fun e w' => e = .returned (.int .i64 (Ce.operands s.data.toList)) ∧ Below w.heap.size w w' := by
  have hlen : nms.length = 10 := rfl
  have HLEN := Lib.hid hlen
  have HNM := Lib.hid (fun W => names_any W)
  have HIN := Lib.hid (operands_in s)
  have HOUT := Lib.hid (operands_out s)
  generalize Ce.operands s.data.toList = R at *
  generalize nms = N at *
  clear hlen
  go_enter Tryz.func23, Tryz.ntmps23
  go_wp2_with fail
  refine (HNM.out _).mono ?_
  rintro e w1 ⟨⟨g, rfl, ha⟩, hb1⟩
  have HA := Lib.hid ha
  have HB1 := Lib.hid hb1
  clear ha hb1
  go_wp2_with fail
  go_loopw [4] (fun i wr => ∃ k : Nat, k ≤ 10 ∧ i = .int .i64 k ∧ Hid (¬ s ∈ N.take k) ∧ Below w1.heap.size w1 wr) (fun i _ => 10 - (intOf i).toNat)
  case atStart => exact ⟨0, Nat.zero_le _, rfl, Lib.hid (by simp), Below.refl _ _⟩
  case round =>
    obtain ⟨k, hk, rfl, HK, hbw⟩ := hrel
    by_cases hlt : k < 10
    · have hlt' : (k : Int) < 10 := by omega
      obtain ⟨b, o, hA, hin, hz⟩ := HA.out.at_lt (by rw [HLEN.out]; exact hlt)
      injection hA with hA
      injection hA with hA1 hA2
      subst hA1 hA2
      obtain ⟨x, hx⟩ : ∃ x, N[k]? = some x := ⟨_, List.getElem?_eq_getElem (by rw [HLEN.out]; exact hlt)⟩
      have x0 := StrE.at1 (hin.below hbw (fun _ => hz)) hx
      simp only [Nat.zero_add, Nat.mul_one] at x0
      have HY : Hid (x = s → s ∈ N) := Lib.hid fun h => h ▸ List.mem_of_getElem? hx
      have HNN : Hid (x ≠ s → ¬ s ∈ N.take (k + 1)) := Lib.hid fun h hm => by
        rw [List.take_add_one, hx, List.mem_append] at hm
        rcases hm with hm | hm
        · exact HK.out hm
        · simp at hm; exact h hm.symm
      clear hin hx
      by_cases hxs : x = s
      · subst hxs
        have HE := Lib.hid (HIN.out (HY.out rfl))
        clear HIN HOUT HY HNN
        by_cases h1 : x.toList = [110, 101, 103]
        · have HE2 := Lib.hid (HE.out.trans (if_pos (.inl h1)))
          go_wp2
          go_ret
          exact ⟨by rw [HE2.out]; rfl, HB1.out.trans (hbw.mono HB1.out.size)⟩
        · have h1' : (x.toList == [110, 101, 103]) = false := beq_eq_false_iff_ne.2 h1
          by_cases h2 : x.toList = [110, 111, 116]
          · have HE2 := Lib.hid (HE.out.trans (if_pos (.inr h2)))
            go_wp2
            go_ret
            exact ⟨by rw [HE2.out]; rfl, HB1.out.trans (hbw.mono HB1.out.size)⟩
          · have h2' : (x.toList == [110, 111, 116]) = false := beq_eq_false_iff_ne.2 h2
            have HE2 := Lib.hid (HE.out.trans (if_neg (by rintro (h | h); exact h1 h; exact h2 h)))
            go_wp2
            go_ret
            exact ⟨by rw [HE2.out]; rfl, HB1.out.trans (hbw.mono HB1.out.size)⟩
      · have hxs' := bytes_ne hxs
        have HK1 := Lib.hid (HNN.out hxs)
        clear HIN HOUT HY HNN
        go_wp2
        go_roundw
        case rel => exact ⟨k + 1, by omega, by go_num, HK1, hbw⟩
        case measure => simp [intOf]; omega
    · have hlt' : ¬ (k : Int) < 10 := by omega
      have HE := Lib.hid (HOUT.out (by have := HK.out; rwa [List.take_of_length_le (by rw [HLEN.out]; omega)] at this))
      clear HIN HOUT
      go_wp2
      go_ret
      exact ⟨by rw [HE.out]; rfl, HB1.out.trans (hbw.mono HB1.out.size)⟩
end Go.Proofs.YtacggbpgillbaaaGreatDoor
