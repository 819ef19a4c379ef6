/- Layer 6: copies that the call owns. -/
import Derived.Test.YtacggbpgillbaaaGreatDoorSc
namespace Go.Proofs.YtacggbpgillbaaaGreatDoor
open Go.RowKit Go.El
theorem val_info : (Tryz.prog.info? 26).map (fun i => (i.zero, i.size, i.bytes)) = some (some (.agg #[.int .u8 0, .int .i64 0]), 2, 16) := by kernel_rfl
theorem op_info : (Tryz.prog.info? 44).map (fun i => (i.zero, i.size, i.bytes)) = some (some (.agg #[.int .u8 0, .int .u8 0, .int .i64 0, .int .u8 0, .int .i64 0, .int .u8 0, .int .i64 0, .int .i64 0]), 8, 64) := by kernel_rfl

def valuesIs (l : List Ce.V) (w w' : World) (e : Ending) : Prop := ∃ A c, e = .returned (.slice A l.length c) ∧ ValE.Own 26 w' w.heap.size A c l
set_option maxHeartbeats 1000000 in
theorem values_at (l : List Ce.V) (hn : l.length ≤ 100000) (blk off cap : Nat) (w : World) (ht : ValE.In w blk off l) :
    Calls Tryz.prog 19 #[.slice (some ⟨blk, off, none⟩) l.length cap] w fun e w' => valuesIs l w w' e ∧ Below w.heap.size w w' := by
  have HT : Hid (ValE.In (w.alloc (.cells #[] 26)) blk off l) := ht.below ((Below.refl _ _).alloc (Nat.le_refl _) _) (fun h => ht.lt h)
  have HO := Lib.hid (Own.made ValE 26 w (Nat.le_refl w.heap.size))
  clear ht
  go_enter Tryz.func19, Tryz.ntmps19
  go_wp2_with (at_builtin; refine wpList_append_el ValE _ rfl _ _ 22 26 rfl Tryz.underlying22 val_info rfl w.heap.size (some ⟨w.heap.size, 0, none⟩) 0 [] l blk off cap rfl rfl HO.out HT.out (by simp only [maxLen, List.length_nil]; omega) (by simp; omega) (by simp) ?_; intro A' cap' w2 hown2 hgrow2)
  go_ret
  refine ⟨⟨A', cap', by simp, by simpa using hown2⟩, ?_⟩
  exact ((Below.refl _ _).alloc (Nat.le_refl _) _).grown hgrow2 (by simp) (fun j hj => (HO.out.lt j hj).1)
set_option maxHeartbeats 1000000 in
theorem values_nil (w : World) : Calls Tryz.prog 19 #[.slice none 0 0] w fun e w' => valuesIs [] w w' e ∧ Below w.heap.size w w' := by
  have HO := Lib.hid (Own.made ValE 26 w (Nat.le_refl w.heap.size))
  obtain ⟨i0, hi0, hz0, hz1, hz2⟩ := info_parts val_info
  go_enter Tryz.func19, Tryz.ntmps19
  go_wp2_with (at_builtin; refine wpList_append_own_none rfl _ _ 22 rfl w.heap.size 26 i0 2 Tryz.underlying22 hi0 _ 0 [] rfl HO.out rfl ?_)
  go_ret
  exact ⟨⟨_, _, rfl, HO.out⟩, (Below.refl _ _).alloc (Nat.le_refl _) _⟩
set_option maxHeartbeats 1000000 in
theorem values_empty (a : Addr) (cap : Nat) (w : World) : Calls Tryz.prog 19 #[.slice (some a) 0 cap] w fun e w' => valuesIs [] w w' e ∧ Below w.heap.size w w' := by
  have HO := Lib.hid (Own.made ValE 26 w (Nat.le_refl w.heap.size))
  obtain ⟨i0, hi0, hz0, hz1, hz2⟩ := info_parts val_info
  go_enter Tryz.func19, Tryz.ntmps19
  go_wp2_with (at_builtin; refine wpList_append_own _ rfl _ _ 22 rfl w.heap.size 26 i0 _ 2 16 Tryz.underlying22 hi0 hz0 hz1 hz2 rfl (by decide) _ 0 [] rfl HO.out a 0 cap [] rfl rfl (fun j u h => by simp at h) (fun u h => by simp at h) (by simp [maxLen]) (by simp) (by simp) ?_; intro v' w2 hown2 hgrow2 _)
  go_ret
  have hf : ∃ A' cap', v' = .slice A' 0 cap' := by
    rcases hown2.2 with ⟨hv, h0⟩ | ⟨g, cap', cur, hv, _⟩
    · exact ⟨none, 0, hv⟩
    · exact ⟨_, _, hv⟩
  obtain ⟨A', cap', rfl⟩ := hf
  refine ⟨⟨A', cap', rfl, hown2⟩, ?_⟩
  exact ((Below.refl _ _).alloc (Nat.le_refl _) _).grown hgrow2 (by simp) (fun j hj => (HO.out.lt j hj).1)
theorem values_any (l : List Ce.V) (hn : l.length ≤ 100000) (A : Option Addr) (cap : Nat) (hA : A = none → cap = 0) (w : World) (ht : ValE.Arg w A l) :
    Calls Tryz.prog 19 #[.slice A l.length cap] w fun e w' => valuesIs l w w' e ∧ Below w.heap.size w w' := by
  by_cases hne : l = []
  · subst hne
    cases A with
    | none => rw [hA rfl]; exact values_nil w
    | some a => exact values_empty a cap w
  · obtain ⟨b1, o1, rfl, i1⟩ := ht.at_ hne
    exact values_at l hn b1 o1 cap w i1

def opsIs (l : List Ce.Op) (w w' : World) (e : Ending) : Prop := ∃ A c, e = .returned (.slice A l.length c) ∧ OpE.Own 44 w' w.heap.size A c l
set_option maxHeartbeats 1000000 in
theorem ops_at (l : List Ce.Op) (hn : l.length ≤ 100000) (blk off cap : Nat) (w : World) (ht : OpE.In w blk off l) :
    Calls Tryz.prog 35 #[.slice (some ⟨blk, off, none⟩) l.length cap] w fun e w' => opsIs l w w' e ∧ Below w.heap.size w w' := by
  have HT : Hid (OpE.In (w.alloc (.cells #[] 44)) blk off l) := ht.below ((Below.refl _ _).alloc (Nat.le_refl _) _) (fun h => ht.lt h)
  have HO := Lib.hid (Own.made OpE 44 w (Nat.le_refl w.heap.size))
  clear ht
  go_enter Tryz.func35, Tryz.ntmps35
  go_wp2_with (at_builtin; refine wpList_append_el OpE _ rfl _ _ 50 44 rfl Tryz.underlying50 op_info rfl w.heap.size (some ⟨w.heap.size, 0, none⟩) 0 [] l blk off cap rfl rfl HO.out HT.out (by simp only [maxLen, List.length_nil]; omega) (by simp; omega) (by simp) ?_; intro A' cap' w2 hown2 hgrow2)
  go_ret
  refine ⟨⟨A', cap', by simp, by simpa using hown2⟩, ?_⟩
  exact ((Below.refl _ _).alloc (Nat.le_refl _) _).grown hgrow2 (by simp) (fun j hj => (HO.out.lt j hj).1)
set_option maxHeartbeats 1000000 in
theorem ops_nil (w : World) : Calls Tryz.prog 35 #[.slice none 0 0] w fun e w' => opsIs [] w w' e ∧ Below w.heap.size w w' := by
  have HO := Lib.hid (Own.made OpE 44 w (Nat.le_refl w.heap.size))
  obtain ⟨i0, hi0, hz0, hz1, hz2⟩ := info_parts op_info
  go_enter Tryz.func35, Tryz.ntmps35
  go_wp2_with (at_builtin; refine wpList_append_own_none rfl _ _ 50 rfl w.heap.size 44 i0 8 Tryz.underlying50 hi0 _ 0 [] rfl HO.out rfl ?_)
  go_ret
  exact ⟨⟨_, _, rfl, HO.out⟩, (Below.refl _ _).alloc (Nat.le_refl _) _⟩
set_option maxHeartbeats 1000000 in
theorem ops_empty (a : Addr) (cap : Nat) (w : World) : Calls Tryz.prog 35 #[.slice (some a) 0 cap] w fun e w' => opsIs [] w w' e ∧ Below w.heap.size w w' := by
  have HO := Lib.hid (Own.made OpE 44 w (Nat.le_refl w.heap.size))
  obtain ⟨i0, hi0, hz0, hz1, hz2⟩ := info_parts op_info
  go_enter Tryz.func35, Tryz.ntmps35
  go_wp2_with (at_builtin; refine wpList_append_own _ rfl _ _ 50 rfl w.heap.size 44 i0 _ 8 64 Tryz.underlying50 hi0 hz0 hz1 hz2 rfl (by decide) _ 0 [] rfl HO.out a 0 cap [] rfl rfl (fun j u h => by simp at h) (fun u h => by simp at h) (by simp [maxLen]) (by simp) (by simp) ?_; intro v' w2 hown2 hgrow2 _)
  go_ret
  have hf : ∃ A' cap', v' = .slice A' 0 cap' := by
    rcases hown2.2 with ⟨hv, h0⟩ | ⟨g, cap', cur, hv, _⟩
    · exact ⟨none, 0, hv⟩
    · exact ⟨_, _, hv⟩
  obtain ⟨A', cap', rfl⟩ := hf
  refine ⟨⟨A', cap', rfl, hown2⟩, ?_⟩
  exact ((Below.refl _ _).alloc (Nat.le_refl _) _).grown hgrow2 (by simp) (fun j hj => (HO.out.lt j hj).1)
theorem ops_any (l : List Ce.Op) (hn : l.length ≤ 100000) (A : Option Addr) (cap : Nat) (hA : A = none → cap = 0) (w : World) (ht : OpE.Arg w A l) :
    Calls Tryz.prog 35 #[.slice A l.length cap] w fun e w' => opsIs l w w' e ∧ Below w.heap.size w w' := by
  by_cases hne : l = []
  · subst hne
    cases A with
    | none => rw [hA rfl]; exact ops_nil w
    | some a => exact ops_empty a cap w
  · obtain ⟨b1, o1, rfl, i1⟩ := ht.at_ hne
    exact ops_at l hn b1 o1 cap w i1

end Go.Proofs.YtacggbpgillbaaaGreatDoor
