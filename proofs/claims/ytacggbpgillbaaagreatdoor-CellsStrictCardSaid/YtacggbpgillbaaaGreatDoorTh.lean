/- Layer 6, the program: operations. -/
import Derived.Test.YtacggbpgillbaaaGreatDoorTg
namespace Go.Proofs.YtacggbpgillbaaaGreatDoor
open Go.RowKit Go.El
def sp_eq : Spec := ⟨[101, 113], 2, [1, 2], 107⟩
def sp_neg : Spec := ⟨[110, 101, 103], 1, [1], 109⟩
def sp_not : Spec := ⟨[110, 111, 116], 1, [2], 111⟩
def sp_add : Spec := ⟨[97, 100, 100], 2, [1], 113⟩
def sp_sub : Spec := ⟨[115, 117, 98], 2, [1], 114⟩
def sp_mul : Spec := ⟨[109, 117, 108], 2, [1], 115⟩
def sp_lt : Spec := ⟨[108, 116], 2, [1], 116⟩
def sp_le : Spec := ⟨[108, 101], 2, [1], 117⟩
def sp_div : Spec := ⟨[100, 105, 118], 2, [1], 118⟩
def sp_mod : Spec := ⟨[109, 111, 100], 2, [1], 120⟩
def specs : List Spec := [sp_eq, sp_neg, sp_not, sp_add, sp_sub, sp_mul, sp_lt, sp_le, sp_div, sp_mod]

theorem u8_in {W : World} {t : TypeId} {cs : Array Value} {l : List Int} {g : Nat} (hg : g = W.heap.size) (h : cs.toList = U8E.row l) : U8E.In (W.alloc (.cells cs t)) g 0 l := by
  subst hg
  exact in_of_row fun j u hj => by rw [cell_of_row _ _ j _ _ _ (heap_alloc_new W _), ← Array.getElem?_toList, h]; exact hj
set_option maxRecDepth 100000 in
set_option maxHeartbeats 1000000 in
/-- the store of one more operation of whole numbers -/
theorem ofIntegers_any (bs : List UInt8) (F : Nat) (S : List Spec) (b mb : Nat) (w : World) (hbox : w.cell? ⟨mb, 0, none⟩ = some (.map (some b))) (h : OpsAt w b S) (hn : ∀ t ∈ S, t.name ≠ bs) :
    Calls Tryz.prog 112 #[.string ⟨bs.toArray⟩, .func (.func F) #[] #[], .pointer (some ⟨mb, 0, none⟩)] w fun e w' => e = .returned (.tuple #[]) ∧ OpsAt w' b (S ++ [⟨bs, 2, [1], F⟩]) ∧ w.grownBy w' (some b) := by
  have hA : Below w.heap.size w (w.alloc (.cells #[.int .u8 1] 5)) := (Below.refl _ _).alloc (Nat.le_refl _) _
  obtain ⟨⟨L, h1, h2⟩, h3, h4⟩ := h.below hA
  have HM := Lib.hid h1
  have HFR := Lib.hid (OpsAt.fresh (s := ⟨bs, 2, [1], F⟩) h2 hn)
  have HSN : Hid (∀ W', MapIs W' .string b (L ++ [(Spec.key ⟨bs, 2, [1], F⟩, .agg #[.int .i64 2, .slice (some ⟨w.heap.size, 0, none⟩) 1 1, .func (.func F) #[] #[]])]) → (w.alloc (.cells #[.int .u8 1] 5)).grownBy W' (some b) → OpsAt W' b (S ++ [⟨bs, 2, [1], F⟩])) := Lib.hid fun W' hown hgr =>
    OpsAt.snoc h2 h3 h4 (by simp) hn (u8_in rfl rfl) (by simp) (by obtain ⟨es, c, hh, _⟩ := h1; exact ⟨es, c, hh⟩) hown hgr
  clear h h1 h2 h3 h4 hn hA
  go_enter Tryz.func112, Tryz.ntmps112
  go_wp2_with (at_mapUpdate; refine wpList_update_new _ rfl _ _ _ 113 rfl 9 111 .string Tryz.underlying113 Tryz.underlying9 b L rfl HM.out _ _ rfl rfl trivial HFR.out ?_; intro w1 hown1 hgr1)
  go_end0
  exact ⟨rfl, HSN.out w1 hown1 hgr1, (World.grownBy_alloc w _ _).trans hgr1⟩

set_option maxRecDepth 100000 in
/-- an entry of the literal: its run, and what it leaves -/
theorem lit_step {w : World} {b : Nat} {S : List Spec} (s : Spec) {cs : Array Value} (h : OpsAt w b S) (hn : ∀ t ∈ S, t.name ≠ s.name) (hc : cs.toList = U8E.row s.kinds) (hk : s.kinds ≠ []) :
    ∃ W', (Instr.mapUpdate 113 (.map (some b)) s.key (.agg #[.int .i64 s.n, .slice (some ⟨w.heap.size, 0, none⟩) s.kinds.length s.kinds.length, .func (.func s.fn) #[] #[]])).run Tryz.prog (w.alloc (.cells cs 5)) = .ok () W' ∧ OpsAt W' b (S ++ [s]) ∧ w.grownBy W' (some b) := by
  have hA : Below w.heap.size w (w.alloc (.cells cs 5)) := (Below.refl _ _).alloc (Nat.le_refl _) _
  obtain ⟨⟨L, h1, h2⟩, h3, h4⟩ := h.below hA
  obtain ⟨W', r1, r2, r3⟩ := run_update_new (P := Tryz.prog) (v := .agg #[.int .i64 s.n, .slice (some ⟨w.heap.size, 0, none⟩) s.kinds.length s.kinds.length, .func (.func s.fn) #[] #[]]) h1 Tryz.underlying113 Tryz.underlying9 (key := s.key) trivial (OpsAt.fresh h2 hn)
  exact ⟨W', r1, OpsAt.snoc h2 h3 h4 hk hn (u8_in rfl hc) (by simp) (by obtain ⟨es, c, hh, _⟩ := h1; exact ⟨es, c, hh⟩) r2 r3, (World.grownBy_alloc w _ _).trans r3⟩
set_option maxRecDepth 100000 in
set_option maxHeartbeats 4000000 in
theorem operations_any (w : World) : Calls Tryz.prog 70 #[] w fun e w' => (∃ b, e = .returned (.map (some b)) ∧ OpsAt w' b specs) ∧ Below w.heap.size w w' := by
  have hmm := @run_makeMap Tryz.prog
  have HO0 := Lib.hid (OpsAt.nil w)
  have HB0 : Hid (Below w.heap.size w (w.alloc (.map #[] 0))) := Lib.hid ((Below.refl _ _).alloc (Nat.le_refl _) _)
  obtain ⟨w1, hrun0, ho, hg⟩ := lit_step sp_eq (cs := #[.int .u8 1, .int .u8 2]) HO0.out (by decide) rfl (by decide)
  have hr0 : (Instr.mapUpdate 113 (.map (some w.heap.size)) (.string ⟨#[101, 113]⟩) (.agg #[.int .i64 2, .slice (some ⟨w.heap.size + 1, 0, none⟩) 2 2, .func (.func 107) #[] #[]])).run Tryz.prog ((w.alloc (.map #[] 0)).alloc (.cells #[.int .u8 1, .int .u8 2] 5)) = .ok () w1 := by have := hrun0; simp only [World.size_alloc] at this; exact this
  have HO1 := Lib.hid ho
  have HB1 := Lib.hid (HB0.out.trans (below_of_grown hg HB0.out.size (fun k hk => by cases hk; exact Nat.le_refl _)))
  clear hrun0 ho hg HO0 HB0
  obtain ⟨w2, hrun1, ho, hg⟩ := lit_step sp_neg (cs := #[.int .u8 1]) HO1.out (by decide) rfl (by decide)
  have hr1 : (Instr.mapUpdate 113 (.map (some w.heap.size)) (.string ⟨#[110, 101, 103]⟩) (.agg #[.int .i64 1, .slice (some ⟨w1.heap.size, 0, none⟩) 1 1, .func (.func 109) #[] #[]])).run Tryz.prog (w1.alloc (.cells #[.int .u8 1] 5)) = .ok () w2 := hrun1
  have HO2 := Lib.hid ho
  have HB2 := Lib.hid (HB1.out.trans (below_of_grown hg HB1.out.size (fun k hk => by cases hk; exact Nat.le_refl _)))
  clear hrun1 ho hg HO1 HB1
  obtain ⟨w3, hrun2, ho, hg⟩ := lit_step sp_not (cs := #[.int .u8 2]) HO2.out (by decide) rfl (by decide)
  have hr2 : (Instr.mapUpdate 113 (.map (some w.heap.size)) (.string ⟨#[110, 111, 116]⟩) (.agg #[.int .i64 1, .slice (some ⟨w2.heap.size, 0, none⟩) 1 1, .func (.func 111) #[] #[]])).run Tryz.prog (w2.alloc (.cells #[.int .u8 2] 5)) = .ok () w3 := hrun2
  have HO3 := Lib.hid ho
  have HB3 := Lib.hid (HB2.out.trans (below_of_grown hg HB2.out.size (fun k hk => by cases hk; exact Nat.le_refl _)))
  clear hrun2 ho hg HO2 HB2
  go_enter Tryz.func70, Tryz.ntmps70
  go_wp2_with fail
  clear hr0 hr1 hr2 hmm
  have SB := Lib.hid (box1 (W := w3) (v := .map (some w.heap.size)) (t := 113)).at_
  have hba : Below w3.heap.size w3 (w3.alloc (.cells #[.map (some w.heap.size)] 113)) := (Below.refl _ _).alloc (Nat.le_refl _) _
  have HNE : Hid (some w3.heap.size ≠ some w.heap.size) := Lib.hid (fun e => by have := HO3.out.lt; injection e with e; omega)
  have HOa := Lib.hid (HO3.out.below hba)
  have HBa := Lib.hid (HB3.out.trans (hba.mono HB3.out.size))
  clear hba HO3 HB3
  refine (ofIntegers_any [97, 100, 100] 113 _ w.heap.size w3.heap.size _ SB.out HOa.out (by decide)).mono ?_
  rintro e w4 ⟨rfl, ho, hg⟩
  have HO4 := Lib.hid ho
  have HB4 := Lib.hid (HBa.out.trans (below_of_grown hg HBa.out.size (fun k hk => by cases hk; exact Nat.le_refl _)))
  have SB := Lib.hid (hg.cell SB.out HNE.out)
  clear ho hg HOa HBa
  go_wp2_with fail
  refine (ofIntegers_any [115, 117, 98] 114 _ w.heap.size w3.heap.size _ SB.out HO4.out (by decide)).mono ?_
  rintro e w5 ⟨rfl, ho, hg⟩
  have HO5 := Lib.hid ho
  have HB5 := Lib.hid (HB4.out.trans (below_of_grown hg HB4.out.size (fun k hk => by cases hk; exact Nat.le_refl _)))
  have SB := Lib.hid (hg.cell SB.out HNE.out)
  clear ho hg HO4 HB4
  go_wp2_with fail
  refine (ofIntegers_any [109, 117, 108] 115 _ w.heap.size w3.heap.size _ SB.out HO5.out (by decide)).mono ?_
  rintro e w6 ⟨rfl, ho, hg⟩
  have HO6 := Lib.hid ho
  have HB6 := Lib.hid (HB5.out.trans (below_of_grown hg HB5.out.size (fun k hk => by cases hk; exact Nat.le_refl _)))
  have SB := Lib.hid (hg.cell SB.out HNE.out)
  clear ho hg HO5 HB5
  go_wp2_with fail
  refine (ofIntegers_any [108, 116] 116 _ w.heap.size w3.heap.size _ SB.out HO6.out (by decide)).mono ?_
  rintro e w7 ⟨rfl, ho, hg⟩
  have HO7 := Lib.hid ho
  have HB7 := Lib.hid (HB6.out.trans (below_of_grown hg HB6.out.size (fun k hk => by cases hk; exact Nat.le_refl _)))
  have SB := Lib.hid (hg.cell SB.out HNE.out)
  clear ho hg HO6 HB6
  go_wp2_with fail
  refine (ofIntegers_any [108, 101] 117 _ w.heap.size w3.heap.size _ SB.out HO7.out (by decide)).mono ?_
  rintro e w8 ⟨rfl, ho, hg⟩
  have HO8 := Lib.hid ho
  have HB8 := Lib.hid (HB7.out.trans (below_of_grown hg HB7.out.size (fun k hk => by cases hk; exact Nat.le_refl _)))
  have SB := Lib.hid (hg.cell SB.out HNE.out)
  clear ho hg HO7 HB7
  go_wp2_with fail
  refine (ofIntegers_any [100, 105, 118] 118 _ w.heap.size w3.heap.size _ SB.out HO8.out (by decide)).mono ?_
  rintro e w9 ⟨rfl, ho, hg⟩
  have HO9 := Lib.hid ho
  have HB9 := Lib.hid (HB8.out.trans (below_of_grown hg HB8.out.size (fun k hk => by cases hk; exact Nat.le_refl _)))
  have SB := Lib.hid (hg.cell SB.out HNE.out)
  clear ho hg HO8 HB8
  go_wp2_with fail
  refine (ofIntegers_any [109, 111, 100] 120 _ w.heap.size w3.heap.size _ SB.out HO9.out (by decide)).mono ?_
  rintro e w10 ⟨rfl, ho, hg⟩
  have HO10 := Lib.hid ho
  have HB10 := Lib.hid (HB9.out.trans (below_of_grown hg HB9.out.size (fun k hk => by cases hk; exact Nat.le_refl _)))
  have SB := Lib.hid (hg.cell SB.out HNE.out)
  clear ho hg HO9 HB9
  have sb := SB.out
  go_wp2
  go_ret
  exact ⟨⟨_, rfl, HO10.out⟩, HB10.out⟩
end Go.Proofs.YtacggbpgillbaaaGreatDoor
