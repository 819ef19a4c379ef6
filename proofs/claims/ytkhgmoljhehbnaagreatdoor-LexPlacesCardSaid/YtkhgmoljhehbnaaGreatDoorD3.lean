/- The walk of lex.Lines. -/
import Derived.Test.YtkhgmoljhehbnaaGreatDoorD2
import Derived.Test.YtkhgmoljhehbnaaGreatDoorK2
namespace Go.Proofs.YtkhgmoljhehbnaaGreatDoor
open Go.RowKit

/-- the library's own bound, whatever it is -/
def Mx (w : World) : Prop := ∃ m, w.cell? ⟨0, 0, none⟩ = some (.int .i64 m)
theorem Mx.below {w w' : World} (h : Mx w) (hb : Below w.heap.size w w') : Mx w' := by
  obtain ⟨m, hm⟩ := h
  exact ⟨m, ((bcell hb).1 _ _ (lt_of_cell hm)).trans hm⟩

/-- a list of strings in memory -/
def StrsIn (w : World) (b : Nat) (ls : List ByteArray) : Prop := ∀ i x, ls[i]? = some x → w.cell? ⟨b, i, none⟩ = some (.string x)
theorem StrsIn.below {w w' : World} {b : Nat} {ls : List ByteArray} (h : StrsIn w b ls) (hb : Below w.heap.size w w') : StrsIn w' b ls :=
  fun i x hx => ((bcell hb).1 _ _ (lt_of_cell (h i x hx))).trans (h i x hx)

def LnIs (s : ByteArray) (w : World) (e : Ending) : Prop :=
  ∃ b ls, e = .returned (.tuple #[.slice (some ⟨b, 0, none⟩) ls.length ls.length, .int .i64 0]) ∧ ls.map (·.data.toList) = Lx.linesG [] s.data.toList ∧ StrsIn w b ls

theorem split_any (s : ByteArray) (hs : s.size ≤ 2500) (w : World) (hm : Mx w) :
    Calls Tryz.prog 30 #[.string s, .string ⟨#[10]⟩] w fun e w' => (∃ b ls, e = .returned (.slice (some ⟨b, 0, none⟩) ls.length ls.length) ∧ ls.map (·.data.toList) = Lx.linesG [] s.data.toList ∧ StrsIn w' b ls) ∧ Below w.heap.size w w' := by
  obtain ⟨m, hm⟩ := hm
  have hsep : 1 ≤ (⟨#[10]⟩ : ByteArray).size := by decide
  have hall := Lib.splitB_all ⟨#[10]⟩ hsep 0 _ s rfl
  refine (Any.strings_Split { Tryz.laysM146 with } Tryz.laysM146.i9 s ⟨#[10]⟩ m w (by omega) hm hsep).mono ?_
  rintro e w' ⟨rfl, rfl⟩
  refine ⟨⟨w.heap.size, Lib.splitB ⟨#[10]⟩ 0 (Lib.countB s ⟨#[10]⟩) s, by rw [hall], ?_, ?_⟩, (Below.refl _ _).alloc (Nat.le_refl _) _⟩
  · rw [Lib.splitB_data, Lx.lines_split]; rfl
  · intro i x hx
    simp [hx]

set_option maxHeartbeats 1000000 in
theorem lexLines_ok (s : ByteArray) (hs : s.size ≤ maxLen) (h : (Lx.check s.data.toList).2 = 0) (w : World) (hm : Mx w) :
    Calls Tryz.prog 17 #[.string s] w fun e w' => LnIs s w' e ∧ Below w.heap.size w w' := by
  have hsz : s.size ≤ 2500 := by have := check_lt _ h; rw [← Lib.size_eq] at this; exact this
  have hc := check_any s hs w
  have h1 : (Lx.check s.data.toList).1 = 0 := by
    unfold Lx.check at h ⊢
    split at h
    · cases h
    · rename_i h2
      split at h
      · cases h
      · rename_i h3
        rw [if_neg h2, if_neg h3]
  unfold chkV at hc
  rw [h, h1] at hc
  have HSP := Lib.hid (fun W hW => split_any s hsz W hW)
  have HC := Lib.hid hc
  have HM := Lib.hid hm
  clear hc hm h h1
  go_enter Tryz.func17, Tryz.ntmps17
  go_wp2_with fail
  refine HC.out.mono ?_
  rintro e w1 ⟨rfl, hb1⟩
  go_wp2_with fail
  refine (HSP.out _ (HM.out.below hb1)).mono ?_
  rintro e w2 ⟨⟨b, ls, rfl, he, hin⟩, hb2⟩
  have HI := Lib.hid hin
  have HEQ := Lib.hid he
  clear hin he
  go_wp2
  go_ret2
  exact ⟨⟨b, ls, rfl, HEQ.out, HI.out⟩, hb1.trans (hb2.mono hb1.size)⟩

set_option maxHeartbeats 1000000 in
theorem lexLines_bad (s : ByteArray) (hs : s.size ≤ maxLen) (k er : Nat) (h : Lx.check s.data.toList = (k, er)) (h0 : er ≠ 0) (w : World) :
    Calls Tryz.prog 17 #[.string s] w fun e w' => e = .returned (.tuple #[.slice none 0 0, .int .i64 er]) ∧ Below w.heap.size w w' := by
  have herb : ((er : Int) == 0) = false := by rw [beq_eq_false_iff_ne]; omega
  have herb2 : ((er : Int) != 0) = true := by rw [bne, herb]; rfl
  have hc := check_any s hs w
  rw [h] at hc
  unfold chkV at hc
  have HC := Lib.hid hc
  clear hc h
  go_enter Tryz.func17, Tryz.ntmps17
  go_wp2_with fail
  refine HC.out.mono ?_
  rintro e w1 ⟨rfl, hb1⟩
  go_wp2
  go_ret2
  exact ⟨rfl, hb1⟩

end Go.Proofs.YtkhgmoljhehbnaaGreatDoor
