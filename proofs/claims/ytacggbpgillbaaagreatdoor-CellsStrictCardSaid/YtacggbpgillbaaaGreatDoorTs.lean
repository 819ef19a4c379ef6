/- Layer 6, the program: slices.Clone at values and reads. -/
import Derived.Test.YtacggbpgillbaaaGreatDoorTr
import Derived.Test.YtacggbpgillbaaaGreatDoorSf
namespace Go.Proofs.YtacggbpgillbaaaGreatDoor
open Go.RowKit Go.El

def valCloneIs (l : List Ce.V) (w w' : World) (e : Ending) : Prop := ∃ A c, e = .returned (.slice A l.length c) ∧ ValE.Own 26 w' w.heap.size A c l
set_option maxHeartbeats 1000000 in
theorem valClone_nil (cap : Nat) (w : World) : Calls Tryz.prog 142 #[.slice none 0 cap] w fun e w' => valCloneIs [] w w' e ∧ Below w.heap.size w w' := by
  have hq : ∀ w : World, (binOp .eql 22 (.slice none 0 cap) (.slice none 0 0)).run Tryz.prog w = .ok (.bool true) w := fun w => Lib.run_eql_slice_nil w 22 26 none 0 cap 0 0 Tryz.underlying22
  go_enter Tryz.func142, Tryz.ntmps142
  go_wp2
  go_ret
  exact ⟨⟨none, 0, rfl, Own.nil ValE 26 w _⟩, Below.refl _ _⟩
set_option maxHeartbeats 1000000 in
theorem valClone_at (l : List Ce.V) (hn : l.length ≤ 100000) (blk off cap : Nat) (w : World) (ht : ValE.In w blk off l) :
    Calls Tryz.prog 142 #[.slice (some ⟨blk, off, none⟩) l.length cap] w fun e w' => valCloneIs l w w' e ∧ Below w.heap.size w w' := by
  have HT : Hid (ValE.In (w.alloc (.cells #[] 26)) blk off l) := Lib.hid (ht.below ((Below.refl _ _).alloc (Nat.le_refl _) _) (fun h => ht.lt h))
  have HO := Lib.hid (Own.made ValE 26 w (Nat.le_refl w.heap.size))
  have hq : ∀ w : World, (binOp .eql 22 (.slice (some ⟨blk, off, none⟩) l.length cap) (.slice none 0 0)).run Tryz.prog w = .ok (.bool false) w := fun w => Lib.run_eql_slice_nil w 22 26 (some ⟨blk, off, none⟩) l.length cap 0 0 Tryz.underlying22
  clear ht
  go_enter Tryz.func142, Tryz.ntmps142
  go_wp2_with (at_builtin; refine wpList_append_el ValE _ rfl _ _ 22 26 rfl Tryz.underlying22 val_info rfl w.heap.size (some ⟨w.heap.size, 0, none⟩) 0 [] l blk off cap rfl rfl HO.out HT.out (by simp only [maxLen, List.length_nil]; omega) (by simp; omega) (by simp) ?_; intro A' cap' w2 hown2 hgrow2)
  go_ret
  refine ⟨⟨A', cap', by simp, by simpa using hown2⟩, ?_⟩
  exact ((Below.refl _ _).alloc (Nat.le_refl _) _).grown hgrow2 (by simp) (fun j hj => (HO.out.lt j hj).1)
set_option maxHeartbeats 1000000 in
theorem valClone_empty (a : Addr) (cap : Nat) (w : World) : Calls Tryz.prog 142 #[.slice (some a) 0 cap] w fun e w' => valCloneIs [] w w' e ∧ Below w.heap.size w w' := by
  have HO := Lib.hid (Own.made ValE 26 w (Nat.le_refl w.heap.size))
  have hq : ∀ w : World, (binOp .eql 22 (.slice (some a) 0 cap) (.slice none 0 0)).run Tryz.prog w = .ok (.bool false) w := fun w => Lib.run_eql_slice_nil w 22 26 (some a) 0 cap 0 0 Tryz.underlying22
  obtain ⟨i0, hi0, hz0, hz1, hz2⟩ := info_parts val_info
  go_enter Tryz.func142, Tryz.ntmps142
  go_wp2_with (at_builtin; refine wpList_append_own _ rfl _ _ 22 rfl w.heap.size 26 i0 _ 2 16 Tryz.underlying22 hi0 hz0 hz1 hz2 rfl (by decide) _ 0 [] rfl HO.out a 0 cap [] rfl rfl (fun j u h => by simp at h) (fun u h => by simp at h) (by simp [maxLen]) (by simp) (by simp) ?_; intro v' w2 hown2 hgrow2 _)
  go_ret
  have hf : ∃ A' cap', v' = .slice A' 0 cap' := by
    rcases hown2.2 with ⟨hv, h0⟩ | ⟨g, cap', cur, hv, _⟩
    · exact ⟨none, 0, hv⟩
    · exact ⟨_, _, hv⟩
  obtain ⟨A', cap', rfl⟩ := hf
  refine ⟨⟨A', cap', rfl, hown2⟩, ?_⟩
  exact ((Below.refl _ _).alloc (Nat.le_refl _) _).grown hgrow2 (by simp) (fun j hj => (HO.out.lt j hj).1)
theorem valClone_any (l : List Ce.V) (hn : l.length ≤ 100000) (A : Option Addr) (cap : Nat) (w : World) (ht : ValE.Arg w A l) :
    Calls Tryz.prog 142 #[.slice A l.length cap] w fun e w' => valCloneIs l w w' e ∧ Below w.heap.size w w' := by
  by_cases hne : l = []
  · subst hne
    cases A with
    | none => exact valClone_nil cap w
    | some a => exact valClone_empty a cap w
  · obtain ⟨b1, o1, rfl, i1⟩ := ht.at_ hne
    exact valClone_at l hn b1 o1 cap w i1

def rdCloneIs (l : List Ce.Rd) (w w' : World) (e : Ending) : Prop := ∃ A c, e = .returned (.slice A l.length c) ∧ RdE.Own 122 w' w.heap.size A c l
set_option maxHeartbeats 1000000 in
theorem rdClone_nil (cap : Nat) (w : World) : Calls Tryz.prog 143 #[.slice none 0 cap] w fun e w' => rdCloneIs [] w w' e ∧ Below w.heap.size w w' := by
  have hq : ∀ w : World, (binOp .eql 81 (.slice none 0 cap) (.slice none 0 0)).run Tryz.prog w = .ok (.bool true) w := fun w => Lib.run_eql_slice_nil w 81 122 none 0 cap 0 0 Tryz.underlying81
  go_enter Tryz.func143, Tryz.ntmps143
  go_wp2
  go_ret
  exact ⟨⟨none, 0, rfl, Own.nil RdE 122 w _⟩, Below.refl _ _⟩
set_option maxHeartbeats 1000000 in
theorem rdClone_at (l : List Ce.Rd) (hn : l.length ≤ 100000) (blk off cap : Nat) (w : World) (ht : RdE.In w blk off l) :
    Calls Tryz.prog 143 #[.slice (some ⟨blk, off, none⟩) l.length cap] w fun e w' => rdCloneIs l w w' e ∧ Below w.heap.size w w' := by
  have HT : Hid (RdE.In (w.alloc (.cells #[] 122)) blk off l) := Lib.hid (ht.below ((Below.refl _ _).alloc (Nat.le_refl _) _) (fun h => ht.lt h))
  have HO := Lib.hid (Own.made RdE 122 w (Nat.le_refl w.heap.size))
  have hq : ∀ w : World, (binOp .eql 81 (.slice (some ⟨blk, off, none⟩) l.length cap) (.slice none 0 0)).run Tryz.prog w = .ok (.bool false) w := fun w => Lib.run_eql_slice_nil w 81 122 (some ⟨blk, off, none⟩) l.length cap 0 0 Tryz.underlying81
  clear ht
  go_enter Tryz.func143, Tryz.ntmps143
  go_wp2_with (at_builtin; refine wpList_append_el RdE _ rfl _ _ 81 122 rfl Tryz.underlying81 rd_info rfl w.heap.size (some ⟨w.heap.size, 0, none⟩) 0 [] l blk off cap rfl rfl HO.out HT.out (by simp only [maxLen, List.length_nil]; omega) (by simp; omega) (by simp) ?_; intro A' cap' w2 hown2 hgrow2)
  go_ret
  refine ⟨⟨A', cap', by simp, by simpa using hown2⟩, ?_⟩
  exact ((Below.refl _ _).alloc (Nat.le_refl _) _).grown hgrow2 (by simp) (fun j hj => (HO.out.lt j hj).1)
set_option maxHeartbeats 1000000 in
theorem rdClone_empty (a : Addr) (cap : Nat) (w : World) : Calls Tryz.prog 143 #[.slice (some a) 0 cap] w fun e w' => rdCloneIs [] w w' e ∧ Below w.heap.size w w' := by
  have HO := Lib.hid (Own.made RdE 122 w (Nat.le_refl w.heap.size))
  have hq : ∀ w : World, (binOp .eql 81 (.slice (some a) 0 cap) (.slice none 0 0)).run Tryz.prog w = .ok (.bool false) w := fun w => Lib.run_eql_slice_nil w 81 122 (some a) 0 cap 0 0 Tryz.underlying81
  obtain ⟨i0, hi0, hz0, hz1, hz2⟩ := info_parts rd_info
  go_enter Tryz.func143, Tryz.ntmps143
  go_wp2_with (at_builtin; refine wpList_append_own _ rfl _ _ 81 rfl w.heap.size 122 i0 _ 2 16 Tryz.underlying81 hi0 hz0 hz1 hz2 rfl (by decide) _ 0 [] rfl HO.out a 0 cap [] rfl rfl (fun j u h => by simp at h) (fun u h => by simp at h) (by simp [maxLen]) (by simp) (by simp) ?_; intro v' w2 hown2 hgrow2 _)
  go_ret
  have hf : ∃ A' cap', v' = .slice A' 0 cap' := by
    rcases hown2.2 with ⟨hv, h0⟩ | ⟨g, cap', cur, hv, _⟩
    · exact ⟨none, 0, hv⟩
    · exact ⟨_, _, hv⟩
  obtain ⟨A', cap', rfl⟩ := hf
  refine ⟨⟨A', cap', rfl, hown2⟩, ?_⟩
  exact ((Below.refl _ _).alloc (Nat.le_refl _) _).grown hgrow2 (by simp) (fun j hj => (HO.out.lt j hj).1)
theorem rdClone_any (l : List Ce.Rd) (hn : l.length ≤ 100000) (A : Option Addr) (cap : Nat) (w : World) (ht : RdE.Arg w A l) :
    Calls Tryz.prog 143 #[.slice A l.length cap] w fun e w' => rdCloneIs l w w' e ∧ Below w.heap.size w w' := by
  by_cases hne : l = []
  · subst hne
    cases A with
    | none => exact rdClone_nil cap w
    | some a => exact rdClone_empty a cap w
  · obtain ⟨b1, o1, rfl, i1⟩ := ht.at_ hne
    exact rdClone_at l hn b1 o1 cap w i1
end Go.Proofs.YtacggbpgillbaaaGreatDoor
