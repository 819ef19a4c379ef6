/- The walks of alike, (vocabulary).right, (vocabulary).apart, Kind and Apart of lex. -/
import Derived.Test.YtkhgmoljhehbnaaDoorW9
namespace Go.Proofs.YtkhgmoljhehbnaaDoor
open Go.RowKit

/-- a token as a value -/
def lexV (k : Nat) (t : ByteArray) (at_ : Int) : Value := .agg #[.int .u8 k, .string t, .int .i64 at_]

/-- a token in a variable -/
def LexAt (w : World) (b k : Nat) (t : ByteArray) (at_ : Int) : Prop := w.cell? ⟨b, 0, none⟩ = some (.int .u8 k) ∧ w.cell? ⟨b, 1, none⟩ = some (.string t) ∧ w.cell? ⟨b, 2, none⟩ = some (.int .i64 at_)
theorem LexAt.below {w w' : World} {b k B : Nat} {t : ByteArray} {at_ : Int} (h : LexAt w b k t at_) (hb : Below B w w') (hB : b < B) : LexAt w' b k t at_ :=
  ⟨((bcell hb).1 _ _ hB).trans h.1, ((bcell hb).1 _ _ hB).trans h.2.1, ((bcell hb).1 _ _ hB).trans h.2.2⟩
theorem LexAt.new (w : World) (k : Nat) (t : ByteArray) (at_ : Int) (ty : TypeId) : LexAt (w.alloc (.cells #[.int .u8 k, .string t, .int .i64 at_] ty)) w.heap.size k t at_ := ⟨by simp, by simp, by simp⟩
theorem lt_of_cell {w : World} {b o : Nat} {v : Value} (h : w.cell? ⟨b, o, none⟩ = some v) : b < w.heap.size := World.block_lt_of_cell? w ⟨b, o, none⟩ h
theorem LexAt.later {w : World} {b k : Nat} {t : ByteArray} {at_ : Int} (h : LexAt w b k t at_) : (∀ o, (w.alloc o).cell? ⟨b, 0, none⟩ = some (.int .u8 k)) ∧ (∀ o, (w.alloc o).cell? ⟨b, 1, none⟩ = some (.string t)) ∧ (∀ o, (w.alloc o).cell? ⟨b, 2, none⟩ = some (.int .i64 at_)) :=
  ⟨fun o => (cell_al w o (lt_of_cell h.1)).trans h.1, fun o => (cell_al w o (lt_of_cell h.1)).trans h.2.1, fun o => (cell_al w o (lt_of_cell h.1)).trans h.2.2⟩
/-- a vocabulary in a variable -/
def VocAt (w : World) (b bm bs : Nat) : Prop := w.cell? ⟨b, 0, none⟩ = some (.map (some bm)) ∧ w.cell? ⟨b, 1, none⟩ = some (.slice (some ⟨bs, 0, none⟩) 26 26)
theorem VocAt.below {w w' : World} {b bm bs B : Nat} (h : VocAt w b bm bs) (hb : Below B w w') (hB : b < B) : VocAt w' b bm bs :=
  ⟨((bcell hb).1 _ _ hB).trans h.1, ((bcell hb).1 _ _ hB).trans h.2⟩
theorem VocAt.new (w : World) (bm bs : Nat) : VocAt (w.alloc (vocObj bm bs)) w.heap.size bm bs := ⟨by simp, by simp⟩

def sameB (ka : Nat) (ta : ByteArray) (kb : Nat) (tb : ByteArray) : Bool := ka == kb && ta.data.toList == tb.data.toList

set_option maxHeartbeats 1000000 in
theorem alike_any (ka kb : Nat) (ta tb : ByteArray) (aa ab : Int) (w : World) :
    Calls Tryd.prog 84 #[lexV ka ta aa, lexV kb tb ab] w fun e w' => e = .returned (.bool (sameB ka ta kb tb)) ∧ Below w.heap.size w w' := by
  have hB : ∀ a b : Obj, Below w.heap.size w ((w.alloc a).alloc b) := fun a b => ((Below.refl _ _).alloc (Nat.le_refl _) _).alloc (by simp) _
  unfold lexV
  by_cases h1 : ka = kb
  · subst h1
    by_cases h2 : ta.toList = tb.toList
    · have e : sameB ka ta ka tb = true := by unfold sameB; rw [← Lib.toList_data, ← Lib.toList_data, h2]; simp
      rw [e]
      clear e
      go_enter Tryd.func84, Tryd.ntmps84
      go_wp2
      go_ret
      exact ⟨rfl, hB _ _⟩
    · have e : sameB ka ta ka tb = false := by unfold sameB; rw [← Lib.toList_data, ← Lib.toList_data]; simp [h2]
      rw [e]
      clear e
      go_enter Tryd.func84, Tryd.ntmps84
      go_wp2
      go_ret
      exact ⟨rfl, hB _ _⟩
  · have e : sameB ka ta kb tb = false := by unfold sameB; simp [h1]
    have h3 : ¬ (ka : Int) = kb := by omega
    rw [e]
    clear e
    go_enter Tryd.func84, Tryd.ntmps84
    go_wp2
    go_ret
    exact ⟨rfl, hB _ _⟩

/-- is a token right? -/
def rightR (k : Nat) (t : ByteArray) (r : Option (Nat × Lx.B)) : Bool := r.isSome && sameB k t (optK r) (optS r)
def rightB (k : Nat) (t : ByteArray) : Bool := rightR k t (Lx.tok t.data.toList)

theorem first_ex (s : ByteArray) (hs : s.size ≤ 281474976710656) (bm bs : Nat) (w : World) (hv : Voc w bm bs) (he : Env w) :
    Calls Tryd.prog 55 #[.agg #[.map (some bm), .slice (some ⟨bs, 0, none⟩) 26 26], .string s] w fun e w' => e = .returned (.tuple #[.agg #[.int .u8 (optK (Lx.tok s.data.toList)), .string (optS (Lx.tok s.data.toList)), .int .i64 0], .bool (Lx.tok s.data.toList).isSome]) ∧ Below w.heap.size w w' := by
  have h := first_any s hs bm bs w hv he
  rw [optV_eq] at h
  exact h

set_option maxHeartbeats 1000000 in
theorem right_any (k : Nat) (t : ByteArray) (at_ : Int) (hs : t.size ≤ 281474976710656) (bm bs : Nat) (w : World) (hv : Voc w bm bs) (he : Env w) :
    Calls Tryd.prog 56 #[vocV bm bs, lexV k t at_] w fun e w' => e = .returned (.bool (rightB k t)) ∧ Below w.heap.size w w' := by
  have hf := first_ex t hs bm bs ((w.alloc (vocObj bm bs)).alloc (.cells #[.int .u8 k, .string t, .int .i64 at_] 47)) ((hv.alloc _).alloc _) ((he.alloc _).alloc _)
  simp only [World.size_alloc] at hf
  unfold rightB
  clear hv he
  generalize Lx.tok t.data.toList = r at hf ⊢
  unfold rightR
  have ha := fun W => alike_any k (optK r) t (optS r) at_ 0 W
  generalize optK r = rk at hf ha ⊢
  generalize optS r = rs at hf ha ⊢
  generalize r.isSome = rb at hf ⊢
  generalize sameB k t rk rs = q at ha ⊢
  unfold lexV at ha
  unfold vocV lexV
  have HA := Lib.hid ha
  clear ha
  have hl : LexAt ((w.alloc (vocObj bm bs)).alloc (.cells #[.int .u8 k, .string t, .int .i64 at_] 47)) (w.heap.size + 1) k t at_ := by
    have := LexAt.new (w.alloc (vocObj bm bs)) k t at_ 47
    rwa [World.size_alloc] at this
  have hb0 : Below w.heap.size w ((w.alloc (vocObj bm bs)).alloc (.cells #[.int .u8 k, .string t, .int .i64 at_] 47)) := ((Below.refl _ _).alloc (Nat.le_refl _) _).alloc (by simp) _
  cases rb
  · go_enter Tryd.func56, Tryd.ntmps56
    go_wp2_with fail
    refine hf.mono ?_
    rintro e w1 ⟨rfl, hb1⟩
    have hz := hb1.size
    simp only [World.size_alloc] at hz
    go_wp2
    go_ret
    exact ⟨rfl, (hb0.trans (hb1.mono (by omega))).alloc (by omega) _⟩
  · go_enter Tryd.func56, Tryd.ntmps56
    go_wp2_with fail
    refine hf.mono ?_
    rintro e w1 ⟨rfl, hb1⟩
    obtain ⟨x0, x1, x2⟩ := (hl.below hb1 (by omega)).later
    have hz := hb1.size
    simp only [World.size_alloc] at hz
    go_wp2_with fail
    refine (HA.out _).mono ?_
    rintro e w2 ⟨rfl, hb2⟩
    go_wp2
    go_ret
    exact ⟨rfl, ((hb0.trans (hb1.mono (by omega))).alloc (by omega) _).trans (hb2.mono (by simp; omega))⟩

def apartB (ka : Nat) (ta tb : ByteArray) : Bool := !(rightR ka ta (Lx.tok (ta.data.toList ++ tb.data.toList)))

theorem append_data (a b : ByteArray) : (a ++ b).data.toList = a.data.toList ++ b.data.toList := by simp

set_option maxHeartbeats 1000000 in
theorem apart_any (ka kb : Nat) (ta tb : ByteArray) (aa ab : Int) (hs : ta.size + tb.size ≤ 281474976710656) (bm bs : Nat) (w : World) (hv : Voc w bm bs) (he : Env w) :
    Calls Tryd.prog 57 #[vocV bm bs, lexV ka ta aa, lexV kb tb ab] w fun e w' => e = .returned (.bool (apartB ka ta tb)) ∧ Below w.heap.size w w' := by
  have hf := first_ex (ta ++ tb) (by simp; omega) bm bs (((w.alloc (vocObj bm bs)).alloc (.cells #[.int .u8 ka, .string ta, .int .i64 aa] 47)).alloc (.cells #[.int .u8 kb, .string tb, .int .i64 ab] 47)) (((hv.alloc _).alloc _).alloc _) (((he.alloc _).alloc _).alloc _)
  simp only [World.size_alloc] at hf
  rw [append_data] at hf
  unfold apartB
  clear hv he
  generalize Lx.tok (ta.data.toList ++ tb.data.toList) = r at hf ⊢
  unfold rightR
  have ha := fun W => alike_any (optK r) ka (optS r) ta 0 aa W
  have hsym : sameB ka ta (optK r) (optS r) = sameB (optK r) (optS r) ka ta := by
    unfold sameB
    rw [BEq.comm (a := ka), BEq.comm (a := ta.data.toList)]
  rw [hsym]
  clear hsym
  generalize optK r = rk at hf ha ⊢
  generalize optS r = rs at hf ha ⊢
  generalize r.isSome = rb at hf ⊢
  generalize sameB rk rs ka ta = q at ha ⊢
  unfold lexV at ha
  unfold vocV lexV
  have HA := Lib.hid ha
  clear ha
  have hl : LexAt (((w.alloc (vocObj bm bs)).alloc (.cells #[.int .u8 ka, .string ta, .int .i64 aa] 47)).alloc (.cells #[.int .u8 kb, .string tb, .int .i64 ab] 47)) (w.heap.size + 1) ka ta aa := by
    have := LexAt.new (w.alloc (vocObj bm bs)) ka ta aa 47
    rw [World.size_alloc] at this
    exact this.below (B := w.heap.size + 2) ((Below.refl _ _).alloc (by simp) _) (by omega)
  have hb0 : Below w.heap.size w (((w.alloc (vocObj bm bs)).alloc (.cells #[.int .u8 ka, .string ta, .int .i64 aa] 47)).alloc (.cells #[.int .u8 kb, .string tb, .int .i64 ab] 47)) := (((Below.refl _ _).alloc (Nat.le_refl _) _).alloc (by simp) _).alloc (by simp; omega) _
  cases rb
  · go_enter Tryd.func57, Tryd.ntmps57
    go_wp2_with fail
    refine hf.mono ?_
    rintro e w1 ⟨rfl, hb1⟩
    have hz := hb1.size
    simp only [World.size_alloc] at hz
    go_wp2
    go_ret
    exact ⟨rfl, (hb0.trans (hb1.mono (by omega))).alloc (by omega) _⟩
  · go_enter Tryd.func57, Tryd.ntmps57
    go_wp2_with fail
    refine hf.mono ?_
    rintro e w1 ⟨rfl, hb1⟩
    obtain ⟨x0, x1, x2⟩ := (hl.below hb1 (by omega)).later
    have hz := hb1.size
    simp only [World.size_alloc] at hz
    go_wp2_with fail
    refine (HA.out _).mono ?_
    rintro e w2 ⟨rfl, hb2⟩
    go_wp2
    go_ret
    exact ⟨rfl, ((hb0.trans (hb1.mono (by omega))).alloc (by omega) _).trans (hb2.mono (by simp; omega))⟩

end Go.Proofs.YtkhgmoljhehbnaaDoor
