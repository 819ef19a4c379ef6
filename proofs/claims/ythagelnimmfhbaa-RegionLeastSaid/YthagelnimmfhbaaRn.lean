/- Layer 5: the walks of the laws' own comparisons, copies and samples. -/
import Derived.Test.YthagelnimmfhbaaRm
import Derived.RegionTactic
import Derived.ChangeAlike
namespace Go.Proofs.Ythagelnimmfhbaa
open Go.RowKit Go.El

theorem IntE.at1 {w : World} {b o : Nat} {l : List Int} (h : IntE.In w b o l) {k : Nat} {x : Int} (hp : l[k]? = some x) : w.cell? ⟨b, o + k, none⟩ = some (.int .i64 x) := by
  have := h k x hp 0 _ rfl
  rw [show o + k * IntE.k + 0 = o + k by show o + k * 1 + 0 = o + k; omega] at this
  exact this

set_option maxRecDepth 100000 in
set_option maxHeartbeats 2000000 in
theorem sameKids_at (l : List Int) (hn : l.length ≤ 3000000) (b1 o1 cap1 b2 o2 cap2 : Nat) (w : World) (h1 : IntE.In w b1 o1 l) (h2 : IntE.In w b2 o2 l) :
    Calls Try.prog 41 #[.slice (some ⟨b1, o1, none⟩) l.length cap1, .slice (some ⟨b2, o2, none⟩) l.length cap2] w fun e w' => e = .returned (.bool true) ∧ Below w.heap.size w w' := by
  have H1 := Lib.hid h1
  have H2 := Lib.hid h2
  clear h1 h2
  go_enter Try.func41, Try.ntmps41
  go_wp2_with fail
  go_loopw [5] (fun i wr => ∃ k : Nat, k ≤ l.length ∧ i = .int .i64 k ∧ Below w.heap.size w wr) (fun i _ => l.length - (intOf i).toNat)
  case atStart => exact ⟨0, Nat.zero_le _, rfl, Below.refl _ _⟩
  case round =>
    obtain ⟨k, hk, rfl, hbw⟩ := hrel
    by_cases hlt : k < l.length
    · have hlt' : (k : Int) < l.length := by omega
      obtain ⟨x, hx⟩ : ∃ x, l[k]? = some x := ⟨_, List.getElem?_eq_getElem hlt⟩
      have x0 := IntE.at1 (H1.out.below hbw (fun h => H1.out.lt h)) hx
      have y0 := IntE.at1 (H2.out.below hbw (fun h => H2.out.lt h)) hx
      clear hx
      go_wp2_with fail
      go_region
      go_wp2_with fail
      go_roundw
      case rel => exact ⟨k + 1, by omega, by go_num, hbw.drew⟩
      case measure => simp [intOf]; omega
    · have hlt' : ¬ (k : Int) < l.length := by omega
      go_wp2
      go_ret
      exact ⟨rfl, hbw⟩
set_option maxRecDepth 100000 in
theorem sameKids_none (A C : Option Addr) (cap1 cap2 : Nat) (w : World) :
    Calls Try.prog 41 #[.slice A 0 cap1, .slice C 0 cap2] w fun e w' => e = .returned (.bool true) ∧ w' = w := by
  go_enter Try.func41, Try.ntmps41
  go_wp2_with fail
  go_loopw [5] (fun i wr => i = .int .i64 0 ∧ wr = w) (fun _ _ => 0)
  case atStart => exact ⟨rfl, rfl⟩
  case round =>
    obtain ⟨rfl, rfl⟩ := hrel
    go_wp2
    go_ret
    exact ⟨rfl, rfl⟩
theorem same_any (l : List Int) (hn : l.length ≤ 3000000) (A C : Option Addr) (cap1 cap2 : Nat) (w : World) (h1 : IntE.Arg w A l) (h2 : IntE.Arg w C l) :
    Calls Try.prog 15 #[.slice A l.length cap1, .slice C l.length cap2] w fun e w' => e = .returned (.bool true) ∧ Below w.heap.size w w' := by
  have hs : Calls Try.prog 41 #[.slice A l.length cap1, .slice C l.length cap2] w fun e w' => e = .returned (.bool true) ∧ Below w.heap.size w w' := by
    by_cases hne : l = []
    · subst hne
      refine (sameKids_none A C cap1 cap2 w).mono ?_
      rintro e w' ⟨rfl, rfl⟩
      exact ⟨rfl, Below.refl _ _⟩
    · obtain ⟨b1, o1, rfl, i1⟩ := h1.at_ hne
      obtain ⟨b2, o2, rfl, i2⟩ := h2.at_ hne
      exact sameKids_at l hn b1 o1 cap1 b2 o2 cap2 w i1 i2
  have HS := Lib.hid hs
  clear hs h1 h2
  go_enter Try.func15, Try.ntmps15
  go_wp2_with fail
  refine HS.out.mono ?_
  rintro e w1 ⟨rfl, hb⟩
  go_wp2
  go_ret
  exact ⟨rfl, hb⟩

theorem MissE.at3 {w : World} {b o : Nat} {l : List (Int × Int × Nat)} (h : MissE.In w b o l) {k : Nat} {x : Int × Int × Nat} (hx : l[k]? = some x) :
    w.cell? ⟨b, o + k * 3, none⟩ = some (.int .i64 x.1) ∧ w.cell? ⟨b, o + k * 3 + 1, none⟩ = some (.int .i64 x.2.1) ∧ w.cell? ⟨b, o + k * 3 + 2, none⟩ = some (.int .u8 x.2.2) :=
  ⟨h k x hx 0 _ rfl, h k x hx 1 _ rfl, h k x hx 2 _ rfl⟩

set_option maxRecDepth 100000 in
set_option maxHeartbeats 2000000 in
theorem misses_at (l : List (Int × Int × Nat)) (hn : l.length ≤ 3000000) (b1 o1 cap1 b2 o2 cap2 : Nat) (w : World) (h1 : MissE.In w b1 o1 l) (h2 : MissE.In w b2 o2 l) :
    Calls Try.prog 21 #[.slice (some ⟨b1, o1, none⟩) l.length cap1, .slice (some ⟨b2, o2, none⟩) l.length cap2] w fun e w' => e = .returned (.bool true) ∧ Below w.heap.size w w' := by
  have H1 := Lib.hid h1
  have H2 := Lib.hid h2
  clear h1 h2
  go_enter Try.func21, Try.ntmps21
  go_wp2_with fail
  go_loopw [5] (fun i wr => ∃ k : Nat, k ≤ l.length ∧ i = .int .i64 k ∧ Below w.heap.size w wr) (fun i _ => l.length - (intOf i).toNat)
  case atStart => exact ⟨0, Nat.zero_le _, rfl, Below.refl _ _⟩
  case round =>
    obtain ⟨k, hk, rfl, hbw⟩ := hrel
    by_cases hlt : k < l.length
    · have hlt' : (k : Int) < l.length := by omega
      obtain ⟨x, hx⟩ : ∃ x, l[k]? = some x := ⟨_, List.getElem?_eq_getElem hlt⟩
      obtain ⟨x0, x1, x2⟩ := MissE.at3 (H1.out.below hbw (fun h => H1.out.lt h)) hx
      obtain ⟨y0, y1, y2⟩ := MissE.at3 (H2.out.below hbw (fun h => H2.out.lt h)) hx
      clear hx
      go_wp2_with fail
      go_region
      go_wp2_with fail
      go_roundw
      case rel => exact ⟨k + 1, by omega, by go_num, hbw.drew⟩
      case measure => simp [intOf]; omega
    · have hlt' : ¬ (k : Int) < l.length := by omega
      go_wp2
      go_ret
      exact ⟨rfl, hbw⟩
set_option maxRecDepth 100000 in
theorem misses_none (A C : Option Addr) (cap1 cap2 : Nat) (w : World) :
    Calls Try.prog 21 #[.slice A 0 cap1, .slice C 0 cap2] w fun e w' => e = .returned (.bool true) ∧ w' = w := by
  go_enter Try.func21, Try.ntmps21
  go_wp2_with fail
  go_loopw [5] (fun i wr => i = .int .i64 0 ∧ wr = w) (fun _ _ => 0)
  case atStart => exact ⟨rfl, rfl⟩
  case round =>
    obtain ⟨rfl, rfl⟩ := hrel
    go_wp2
    go_ret
    exact ⟨rfl, rfl⟩
theorem misses_any (l : List (Int × Int × Nat)) (hn : l.length ≤ 3000000) (A C : Option Addr) (cap1 cap2 : Nat) (w : World) (h1 : MissE.Arg w A l) (h2 : MissE.Arg w C l) :
    Calls Try.prog 21 #[.slice A l.length cap1, .slice C l.length cap2] w fun e w' => e = .returned (.bool true) ∧ Below w.heap.size w w' := by
  by_cases hne : l = []
  · subst hne
    refine (misses_none A C cap1 cap2 w).mono ?_
    rintro e w' ⟨rfl, rfl⟩
    exact ⟨rfl, Below.refl _ _⟩
  · obtain ⟨b1, o1, rfl, i1⟩ := h1.at_ hne
    obtain ⟨b2, o2, rfl, i2⟩ := h2.at_ hne
    exact misses_at l hn b1 o1 cap1 b2 o2 cap2 w i1 i2

set_option maxRecDepth 100000 in
set_option maxHeartbeats 2000000 in
theorem parts_at (l : List Rg.Pt) (hn : l.length ≤ 3000000) (b1 o1 cap1 b2 o2 cap2 : Nat) (w : World) (h1 : PtE.In w b1 o1 l) (h2 : PtE.In w b2 o2 l) :
    Calls Try.prog 20 #[.slice (some ⟨b1, o1, none⟩) l.length cap1, .slice (some ⟨b2, o2, none⟩) l.length cap2] w fun e w' => e = .returned (.bool true) ∧ Below w.heap.size w w' := by
  have H1 := Lib.hid h1
  have H2 := Lib.hid h2
  clear h1 h2
  go_enter Try.func20, Try.ntmps20
  go_wp2_with fail
  go_loopw [5] (fun i wr => ∃ k : Nat, k ≤ l.length ∧ i = .int .i64 k ∧ Below w.heap.size w wr) (fun i _ => l.length - (intOf i).toNat)
  case atStart => exact ⟨0, Nat.zero_le _, rfl, Below.refl _ _⟩
  case round =>
    obtain ⟨k, hk, rfl, hbw⟩ := hrel
    by_cases hlt : k < l.length
    · have hlt' : (k : Int) < l.length := by omega
      obtain ⟨x, hx⟩ : ∃ x, l[k]? = some x := ⟨_, List.getElem?_eq_getElem hlt⟩
      obtain ⟨x0, x1, x2, x3, x4⟩ := PtE.at5 (H1.out.below hbw (fun h => H1.out.lt h)) hx
      obtain ⟨y0, y1, y2, y3, y4⟩ := PtE.at5 (H2.out.below hbw (fun h => H2.out.lt h)) hx
      clear hx
      go_wp2_with fail
      go_region
      go_wp2_with fail
      go_roundw
      case rel => exact ⟨k + 1, by omega, by go_num, hbw.drew⟩
      case measure => simp [intOf]; omega
    · have hlt' : ¬ (k : Int) < l.length := by omega
      go_wp2
      go_ret
      exact ⟨rfl, hbw⟩
set_option maxRecDepth 100000 in
theorem parts_none (A C : Option Addr) (cap1 cap2 : Nat) (w : World) :
    Calls Try.prog 20 #[.slice A 0 cap1, .slice C 0 cap2] w fun e w' => e = .returned (.bool true) ∧ w' = w := by
  go_enter Try.func20, Try.ntmps20
  go_wp2_with fail
  go_loopw [5] (fun i wr => i = .int .i64 0 ∧ wr = w) (fun _ _ => 0)
  case atStart => exact ⟨rfl, rfl⟩
  case round =>
    obtain ⟨rfl, rfl⟩ := hrel
    go_wp2
    go_ret
    exact ⟨rfl, rfl⟩
theorem parts_any (l : List Rg.Pt) (hn : l.length ≤ 3000000) (A C : Option Addr) (cap1 cap2 : Nat) (w : World) (h1 : PtE.Arg w A l) (h2 : PtE.Arg w C l) :
    Calls Try.prog 20 #[.slice A l.length cap1, .slice C l.length cap2] w fun e w' => e = .returned (.bool true) ∧ Below w.heap.size w w' := by
  by_cases hne : l = []
  · subst hne
    refine (parts_none A C cap1 cap2 w).mono ?_
    rintro e w' ⟨rfl, rfl⟩
    exact ⟨rfl, Below.refl _ _⟩
  · obtain ⟨b1, o1, rfl, i1⟩ := h1.at_ hne
    obtain ⟨b2, o2, rfl, i2⟩ := h2.at_ hne
    exact parts_at l hn b1 o1 cap1 b2 o2 cap2 w i1 i2

/-- a copy that the call owns -/
def OwnIs (l : List Rg.Pt) (w w' : World) (e : Ending) : Prop := ∃ A c, e = .returned (.slice A l.length c) ∧ OwnP w' w.heap.size A c l
set_option maxHeartbeats 1000000 in
theorem own_at (l : List Rg.Pt) (hn : l.length ≤ 100000) (blk off cap : Nat) (w : World) (ht : PtE.In w blk off l) :
    Calls Try.prog 17 #[.slice (some ⟨blk, off, none⟩) l.length cap] w fun e w' => OwnIs l w w' e ∧ Below w.heap.size w w' := by
  have HT : Hid (PtE.In (w.alloc (.cells #[] 25)) blk off l) := ht.below ((Below.refl _ _).alloc (Nat.le_refl _) _) (fun h => ht.lt h)
  have HO := Lib.hid (Own.made PtE 25 w (Nat.le_refl w.heap.size))
  clear ht
  go_enter Try.func17, Try.ntmps17
  go_wp2_with (at_builtin; refine wpList_append_el PtE _ rfl _ _ 31 25 rfl Try.underlying31 part_info rfl w.heap.size (some ⟨w.heap.size, 0, none⟩) 0 [] l blk off cap rfl rfl HO.out HT.out (by simp only [maxLen, List.length_nil]; omega) (by simp; omega) (by simp) ?_; intro A' cap' w2 hown2 hgrow2)
  go_ret
  refine ⟨⟨A', cap', by simp, by simpa using hown2⟩, ?_⟩
  exact ((Below.refl _ _).alloc (Nat.le_refl _) _).grown hgrow2 (by simp) (fun j hj => (HO.out.lt j hj).1)
set_option maxHeartbeats 1000000 in
theorem own_nil (w : World) : Calls Try.prog 17 #[.slice none 0 0] w fun e w' => OwnIs [] w w' e ∧ Below w.heap.size w w' := by
  have HO := Lib.hid (Own.made PtE 25 w (Nat.le_refl w.heap.size))
  obtain ⟨i0, hi0, hz0, hz1, hz2⟩ := info_parts part_info
  go_enter Try.func17, Try.ntmps17
  go_wp2_with (at_builtin; refine wpList_append_own_none rfl _ _ 31 rfl w.heap.size 25 i0 5 Try.underlying31 hi0 _ 0 [] rfl HO.out rfl ?_)
  go_ret
  exact ⟨⟨_, _, rfl, HO.out⟩, (Below.refl _ _).alloc (Nat.le_refl _) _⟩
set_option maxHeartbeats 1000000 in
theorem own_empty (a : Addr) (cap : Nat) (w : World) : Calls Try.prog 17 #[.slice (some a) 0 cap] w fun e w' => OwnIs [] w w' e ∧ Below w.heap.size w w' := by
  have HO := Lib.hid (Own.made PtE 25 w (Nat.le_refl w.heap.size))
  obtain ⟨i0, hi0, hz0, hz1, hz2⟩ := info_parts part_info
  go_enter Try.func17, Try.ntmps17
  go_wp2_with (at_builtin; refine wpList_append_own _ rfl _ _ 31 rfl w.heap.size 25 i0 _ 5 40 Try.underlying31 hi0 hz0 hz1 hz2 rfl (by decide) _ 0 [] rfl HO.out a 0 cap [] rfl rfl (fun j u h => by simp at h) (fun u h => by simp at h) (by simp [maxLen]) (by simp) (by simp) ?_; intro v' w2 hown2 hgrow2 _)
  go_ret
  have hf : ∃ A' cap', v' = .slice A' 0 cap' := by
    rcases hown2.2 with ⟨hv, h0⟩ | ⟨g, cap', cur, hv, _⟩
    · exact ⟨none, 0, hv⟩
    · exact ⟨_, _, hv⟩
  obtain ⟨A', cap', rfl⟩ := hf
  refine ⟨⟨A', cap', rfl, hown2⟩, ?_⟩
  exact ((Below.refl _ _).alloc (Nat.le_refl _) _).grown hgrow2 (by simp) (fun j hj => (HO.out.lt j hj).1)
theorem own_any (l : List Rg.Pt) (hn : l.length ≤ 100000) (A : Option Addr) (cap : Nat) (hA : A = none → cap = 0) (w : World) (ht : PtE.Arg w A l) :
    Calls Try.prog 17 #[.slice A l.length cap] w fun e w' => OwnIs l w w' e ∧ Below w.heap.size w w' := by
  by_cases hne : l = []
  · subst hne
    cases A with
    | none => rw [hA rfl]; exact own_nil w
    | some a => exact own_empty a cap w
  · obtain ⟨b1, o1, rfl, i1⟩ := ht.at_ hne
    exact own_at l hn b1 o1 cap w i1

/-- the laws' own valid -/
theorem lawValid_any (l : List Rg.Pt) (hl : l.length ≤ maxLen) (A : Option Addr) (cap : Nat) (w : World) (h : PtE.Arg w A l) :
    Calls Try.prog 33 #[.slice A l.length cap] w fun e w' => e = .returned (.bool (decide (l.length ≤ 6) && Rg.valid l)) ∧ Below w.heap.size w w' := by
  have hv := valid_any l hl A cap w h
  have hm : (l.length : Int) ≤ 9223372036854775807 := by unfold maxLen at hl; omega
  have HV := Lib.hid hv
  clear hv h
  by_cases h6 : l.length ≤ 6
  · have h6' : (l.length : Int) ≤ 6 := by omega
    rw [decide_eq_true h6, Bool.true_and]
    generalize Rg.valid l = q at HV ⊢
    go_enter Try.func33, Try.ntmps33
    go_wp2_with fail
    refine HV.out.mono ?_
    rintro e w1 ⟨rfl, hb⟩
    go_wp2
    go_ret
    exact ⟨rfl, hb⟩
  · have h6' : ¬ (l.length : Int) ≤ 6 := by omega
    rw [decide_eq_false h6, Bool.false_and]
    go_enter Try.func33, Try.ntmps33
    go_wp2
    go_ret
    exact ⟨rfl, Below.refl _ _⟩

end Go.Proofs.Ythagelnimmfhbaa
