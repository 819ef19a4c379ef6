/- The walk of (vocabulary).first: the token that a string begins with. -/
import Derived.Test.YtkhgmoljhehbnaaGreatDoorW8
import Derived.Deep.RegionHeld3
namespace Go.Proofs.YtkhgmoljhehbnaaGreatDoor
open Go.RowKit

theorem tok_word {l : Lx.B} (h : 0 < Lx.run Lx.isLetter l) : Lx.tok l = wordOf (l.take (Lx.run Lx.wordByte l)) := by
  unfold Lx.tok Lx.tokOf wordOf
  rw [if_pos h]
theorem tok_num {l : Lx.B} (h : ¬ 0 < Lx.run Lx.isLetter l) (h2 : 0 < Lx.run Lx.isDigit l) : Lx.tok l = numOf (l.take (Lx.run Lx.isDigit l)) := by
  unfold Lx.tok Lx.tokOf numOf
  rw [if_neg h, if_pos h2]
theorem tok_sign {l : Lx.B} (h : ¬ 0 < Lx.run Lx.isLetter l) (h2 : ¬ 0 < Lx.run Lx.isDigit l) : Lx.tok l = signsOf l := by
  unfold Lx.tok Lx.tokOf signsOf
  rw [if_neg h, if_neg h2]

def optK : Option (Nat × Lx.B) → Nat
  | some (k, _) => k
  | none => 0
def optS : Option (Nat × Lx.B) → ByteArray
  | some (_, l) => ⟨l.toArray⟩
  | none => ⟨#[]⟩
theorem optV_eq (r : Option (Nat × Lx.B)) : optV r = .tuple #[.agg #[.int .u8 (optK r), .string (optS r), .int .i64 0], .bool r.isSome] := by
  rcases r with _ | ⟨k, l⟩ <;> rfl

theorem prefix_word2 (t : ByteArray) (l : Lx.B) (ht : t.data.toList = l) (hs : t.size ≤ maxLen) (b : Nat) (W : World) (hb : b < W.heap.size) (h0 : W.cell? ⟨b, 0, none⟩ = some (.func (.func 60) #[] #[])) (h1 : W.cell? ⟨b, 1, none⟩ = some (.func (.func 62) #[] #[])) :
    Calls Tryz.prog 22 #[.string t, .slice (some ⟨b, 0, none⟩) 2 2] W fun e w' => e = .returned (.int .i64 (Lx.run Lx.wordByte l)) ∧ Below W.heap.size W w' := by
  subst ht
  have hp : anySrt [.letter, .digit] = Lx.wordByte := by funext c; simp [anySrt, Srt.is, Lx.wordByte]
  rw [← hp]
  refine prefix_any t hs b 2 [.letter, .digit] (by simp) W hb (fun j x hj => ?_)
  match j, hj with
  | 0, hj => simp at hj; subst hj; exact h0
  | 1, hj => simp at hj; subst hj; exact h1

abbrev vocObj (bm bs : Nat) : Obj := .cells #[.map (some bm), .slice (some ⟨bs, 0, none⟩) 26 26] 58

set_option maxHeartbeats 1000000 in
set_option maxRecDepth 100000 in
theorem first_word (s : ByteArray) (hs : s.size ≤ 281474976710656) (bm bs : Nat) (w : World) (hv : Voc w bm bs) (_he : Env w) (h : 0 < Lx.run Lx.isLetter s.data.toList) :
    Calls Tryz.prog 48 #[vocV bm bs, .string s] w fun e w' => e = .returned (optV (Lx.tok s.data.toList)) ∧ Below w.heap.size w w' := by
  have ht := tok_word h
  have hl := Lx.run_le Lx.wordByte s.data.toList
  have hm : (s.size : Int) ≤ 9223372036854775807 := by omega
  have hm' : s.size ≤ maxLen := by unfold maxLen; omega
  have hp1 := prefix_letter s _ rfl hm' ((w.alloc (vocObj bm bs)).alloc lexZero)
  simp only [World.size_alloc] at hp1
  have hp2 := prefix_word2 s _ rfl hm'
  have hw := fun (t : ByteArray) (ht : t.size ≤ maxLen) W (hv : Voc W bm bs) => word_any t ht bm bs W hv
  rw [← Lib.size_eq] at hl
  have hx := Lib.extract_data s 0 (Lx.run Lx.wordByte s.data.toList)
  simp only [List.drop_zero, Nat.sub_zero] at hx
  generalize Lx.run Lx.isLetter s.data.toList = m at h hp1
  generalize Lx.run Lx.wordByte s.data.toList = n at ht hl hp2 hx
  rw [← hx] at ht
  generalize Lx.tok s.data.toList = r at ht ⊢
  subst ht
  have HX := Lib.hid hx
  have HV := Lib.hid hv
  clear hx hv
  have hmi : (0 : Int) < m := by omega
  have hni : (n : Int) ≤ s.size := by omega
  have hw2 := hw (s.extract 0 n) (by simp; omega)
  generalize wordOf (s.extract 0 n).data.toList = r at hw2 ⊢
  rw [optV_eq] at hw2 ⊢
  generalize optK r = rk at hw2 ⊢
  generalize optS r = rs at hw2 ⊢
  generalize r.isSome = rb at hw2 ⊢
  have HW := Lib.hid hw2
  clear hw2 hw
  unfold vocV at HW ⊢
  go_enter Tryz.func48, Tryz.ntmps48
  go_wp2_with (go_at_call 22; refine hp1.mono ?_; rintro e w1 ⟨rfl, hb1⟩; obtain ⟨hc1, hf1⟩ := bcell hb1)
  have hz := hb1.size
  simp only [World.size_alloc] at hz
  have c0 : w1.cell? ⟨w.heap.size, 0, none⟩ = some (.map (some bm)) := by rw [hc1 _ _ (by omega)]; simp
  have c1 : w1.cell? ⟨w.heap.size, 1, none⟩ = some (.slice (some ⟨bs, 0, none⟩) 26 26) := by rw [hc1 _ _ (by omega)]; simp
  have hb1' : Below (w.alloc (vocObj bm bs)).heap.size (w.alloc (vocObj bm bs)) w1 := by
    simp only [World.size_alloc]
    exact ((Below.refl _ _).alloc (by simp) _).trans (hb1.mono (by omega))
  obtain ⟨z0, z1, z2, _⟩ := zero_cells (w := w.alloc (vocObj bm bs)) (by simp only [World.size_alloc]; exact hb1)
  simp only [World.size_alloc] at z0 z1 z2
  have f0 : w1.frozen? ⟨w.heap.size + 1, 0, none⟩ = false := by rw [hf1 _ _ (by omega)]; simp
  have f1 : w1.frozen? ⟨w.heap.size + 1, 1, none⟩ = false := by rw [hf1 _ _ (by omega)]; simp
  have f2 : w1.frozen? ⟨w.heap.size + 1, 2, none⟩ = false := by rw [hf1 _ _ (by omega)]; simp
  have hBw : Below w.heap.size w w1 := ((Below.refl _ w).alloc (Nat.le_refl _) _).trans (hb1'.mono (by simp))
  clear hc1 hf1 hb1 hb1' hp1
  go_region_held3 (fun W => W.cell? ⟨w.heap.size, 0, none⟩ = some (.map (some bm)) ∧ W.cell? ⟨w.heap.size, 1, none⟩ = some (.slice (some ⟨bs, 0, none⟩) 26 26))
    (first
      | go_keep
      | (go_split_ands
         refine ⟨?_, ?_⟩ <;> (rw [hb2.cell (by simp; omega)]; simp; first | assumption | omega))
      | (go_split_ands
         refine ⟨?_, ?_⟩ <;> (rw [(bcell hb3).1 _ _ (by omega)]; assumption)))
    ((first
      | (go_at_call 22; refine (hp2 w1.heap.size _ (by simp) (by simp) (by simp)).mono ?_; rintro e w2 ⟨rfl, hb2⟩; have hz2 := hb2.size; simp at hz2)
      | (go_at_call 61; have hB2 : Below w.heap.size w w2 := hBw.trans (((((Below.refl _ w1).alloc (Nat.le_refl _) _).drew).trans (hb2.mono (by simp))).mono (by omega)); refine (HW.out _ (HV.out.below hB2)).mono ?_; rintro e w3 ⟨rfl, hb3⟩; have hz3 := hb3.size; have hB3 : Below w1.heap.size w1 w3 := ((((Below.refl _ w1).alloc (Nat.le_refl _) _).drew).trans (hb2.mono (by simp))).trans (hb3.mono (by omega)); have y0 := ((bcell hB3).1 _ _ (by omega)).trans z0; have y1 := ((bcell hB3).1 _ _ (by omega)).trans z1; have y2 := ((bcell hB3).1 _ _ (by omega)).trans z2; have g0 := ((bcell hB3).2 _ _ (by omega)).trans f0; have g1 := ((bcell hB3).2 _ _ (by omega)).trans f1; have g2 := ((bcell hB3).2 _ _ (by omega)).trans f2)))
  go_wp2
  refine bodyPost_ret (v := .tuple #[.agg #[.int .u8 rk, .string rs, .int .i64 0], .bool rb]) (by simp [results, Tryz.results48, go_sem, y0, y1, y2]) rfl ⟨rfl, ?_⟩
  exact ((hBw.trans (hB3.mono (by omega))).setCell (by simp) _).setCell (by simp) _ |>.setCell (by simp) _

set_option maxRecDepth 100000 in
set_option maxHeartbeats 1000000 in
theorem first_num (s : ByteArray) (hs : s.size ≤ 281474976710656) (bm bs : Nat) (w : World) (_hv : Voc w bm bs) (he : Env w) (h : ¬ 0 < Lx.run Lx.isLetter s.data.toList) (h2 : 0 < Lx.run Lx.isDigit s.data.toList) :
    Calls Tryz.prog 48 #[vocV bm bs, .string s] w fun e w' => e = .returned (optV (Lx.tok s.data.toList)) ∧ Below w.heap.size w w' := by
  have ht := tok_num h h2
  have hl := Lx.run_le Lx.isDigit s.data.toList
  have hm : (s.size : Int) ≤ 9223372036854775807 := by omega
  have hm' : s.size ≤ maxLen := by unfold maxLen; omega
  have hp1 := prefix_letter s _ rfl hm' ((w.alloc (vocObj bm bs)).alloc lexZero)
  simp only [World.size_alloc] at hp1
  have hp2 := prefix_digit s _ rfl hm'
  have hw : ∀ W, Env W → Calls Tryz.prog 63 #[.string (s.extract 0 (Lx.run Lx.isDigit s.data.toList))] W fun e w' => e = .returned (optV (numOf (s.extract 0 (Lx.run Lx.isDigit s.data.toList)).data.toList)) ∧ Below W.heap.size W w' := by
    intro W hE
    have hx := Lib.extract_data s 0 (Lx.run Lx.isDigit s.data.toList)
    simp only [List.drop_zero, Nat.sub_zero] at hx
    have hd := Lx.run_dig s.data.toList
    cases hc : (s.extract 0 (Lx.run Lx.isDigit s.data.toList)).data.toList with
    | nil =>
      rw [hx] at hc
      have := congrArg List.length hc
      rw [List.length_take] at this
      simp only [List.length_nil] at this
      omega
    | cons c r => rw [← hc]; exact number_any _ (by simp; omega) c r hc (by rw [← hc, hx]; exact hd) W hE
  rw [← Lib.size_eq] at hl
  have hx := Lib.extract_data s 0 (Lx.run Lx.isDigit s.data.toList)
  simp only [List.drop_zero, Nat.sub_zero] at hx
  rw [← hx] at ht
  clear hx
  generalize Lx.run Lx.isLetter s.data.toList = m at h hp1
  generalize Lx.run Lx.isDigit s.data.toList = n at ht hl hp2 hw h2
  generalize Lx.tok s.data.toList = r at ht ⊢
  subst ht
  generalize numOf (s.extract 0 n).data.toList = r at hw ⊢
  rw [optV_eq] at hw ⊢
  generalize optK r = rk at hw ⊢
  generalize optS r = rs at hw ⊢
  generalize r.isSome = rb at hw ⊢
  have HW := Lib.hid hw
  have HE := Lib.hid he
  clear hw he
  have hmi : ¬ (0 : Int) < m := by omega
  have hn0 : (0 : Int) < n := by omega
  have hni : (n : Int) ≤ s.size := by omega
  unfold vocV
  go_enter Tryz.func48, Tryz.ntmps48
  go_wp2_with fail
  refine hp1.mono ?_
  rintro e w1 ⟨rfl, hb1⟩
  have hz := hb1.size
  simp only [World.size_alloc] at hz
  obtain ⟨z0, z1, z2, hB1⟩ := zero_cells (w := w.alloc (vocObj bm bs)) (by simp only [World.size_alloc]; exact hb1)
  simp only [World.size_alloc] at z0 z1 z2
  obtain ⟨hc1, hf1⟩ := bcell hb1
  have f0 : w1.frozen? ⟨w.heap.size + 1, 0, none⟩ = false := by rw [hf1 _ _ (by omega)]; simp
  have f1 : w1.frozen? ⟨w.heap.size + 1, 1, none⟩ = false := by rw [hf1 _ _ (by omega)]; simp
  have f2 : w1.frozen? ⟨w.heap.size + 1, 2, none⟩ = false := by rw [hf1 _ _ (by omega)]; simp
  have hBw : Below w.heap.size w w1 := ((Below.refl _ w).alloc (Nat.le_refl _) _).trans (hB1.mono (by simp))
  clear hc1 hf1
  go_wp2_with fail
  refine (hp2 w1).mono ?_
  rintro e w2 ⟨rfl, hb2⟩
  have hz2 := hb2.size
  go_wp2_with fail
  refine (HW.out w2 (HE.out.below (hBw.trans (hb2.mono (by omega))) (by have := HE.out.lt; omega))).mono ?_
  rintro e w3 ⟨rfl, hb3⟩
  have hB3 : Below w1.heap.size w1 w3 := hb2.trans (hb3.mono (by omega))
  have y0 := ((bcell hB3).1 _ _ (by omega)).trans z0
  have y1 := ((bcell hB3).1 _ _ (by omega)).trans z1
  have y2 := ((bcell hB3).1 _ _ (by omega)).trans z2
  have g0 := ((bcell hB3).2 _ _ (by omega)).trans f0
  have g1 := ((bcell hB3).2 _ _ (by omega)).trans f1
  have g2 := ((bcell hB3).2 _ _ (by omega)).trans f2
  go_wp2
  refine bodyPost_ret (v := .tuple #[.agg #[.int .u8 rk, .string rs, .int .i64 0], .bool rb]) (by simp [results, Tryz.results48, go_sem, y0, y1, y2]) rfl ⟨rfl, ?_⟩
  exact ((hBw.trans (hB3.mono (by omega))).setCell (by simp) _).setCell (by simp) _ |>.setCell (by simp) _

set_option maxRecDepth 100000 in
set_option maxHeartbeats 1000000 in
theorem first_sign (s : ByteArray) (hs : s.size ≤ 281474976710656) (bm bs : Nat) (w : World) (hv : Voc w bm bs) (h : ¬ 0 < Lx.run Lx.isLetter s.data.toList) (h2 : ¬ 0 < Lx.run Lx.isDigit s.data.toList) :
    Calls Tryz.prog 48 #[vocV bm bs, .string s] w fun e w' => e = .returned (optV (Lx.tok s.data.toList)) ∧ Below w.heap.size w w' := by
  have ht := tok_sign h h2
  have hm : (s.size : Int) ≤ 9223372036854775807 := by omega
  have hm' : s.size ≤ maxLen := by unfold maxLen; omega
  have hp1 := prefix_letter s _ rfl hm' ((w.alloc (vocObj bm bs)).alloc lexZero)
  simp only [World.size_alloc] at hp1
  have hp2 := prefix_digit s _ rfl hm'
  have hw : ∀ W, Voc W bm bs → Calls Tryz.prog 64 #[vocV bm bs, .string s] W fun e w' => e = .returned (optV (signsOf s.data.toList)) ∧ Below W.heap.size W w' := fun W hV => sign_any s hm' bm bs W hV
  generalize Lx.run Lx.isLetter s.data.toList = m at h hp1
  generalize Lx.run Lx.isDigit s.data.toList = n at hp2 h2
  rw [ht]
  clear ht
  generalize signsOf s.data.toList = r at hw ⊢
  rw [optV_eq] at hw ⊢
  generalize optK r = rk at hw ⊢
  generalize optS r = rs at hw ⊢
  generalize r.isSome = rb at hw ⊢
  unfold vocV at hw ⊢
  have HW := Lib.hid hw
  have HV := Lib.hid hv
  clear hw hv
  have hmi : ¬ (0 : Int) < m := by omega
  have hn0 : ¬ (0 : Int) < n := by omega
  go_enter Tryz.func48, Tryz.ntmps48
  go_wp2_with fail
  refine hp1.mono ?_
  rintro e w1 ⟨rfl, hb1⟩
  have hz := hb1.size
  simp only [World.size_alloc] at hz
  obtain ⟨z0, z1, z2, hB1⟩ := zero_cells (w := w.alloc (vocObj bm bs)) (by simp only [World.size_alloc]; exact hb1)
  simp only [World.size_alloc] at z0 z1 z2
  obtain ⟨hc1, hf1⟩ := bcell hb1
  have c0 : w1.cell? ⟨w.heap.size, 0, none⟩ = some (.map (some bm)) := by rw [hc1 _ _ (by omega)]; simp
  have c1 : w1.cell? ⟨w.heap.size, 1, none⟩ = some (.slice (some ⟨bs, 0, none⟩) 26 26) := by rw [hc1 _ _ (by omega)]; simp
  have f0 : w1.frozen? ⟨w.heap.size + 1, 0, none⟩ = false := by rw [hf1 _ _ (by omega)]; simp
  have f1 : w1.frozen? ⟨w.heap.size + 1, 1, none⟩ = false := by rw [hf1 _ _ (by omega)]; simp
  have f2 : w1.frozen? ⟨w.heap.size + 1, 2, none⟩ = false := by rw [hf1 _ _ (by omega)]; simp
  have hBw : Below w.heap.size w w1 := ((Below.refl _ w).alloc (Nat.le_refl _) _).trans (hB1.mono (by simp))
  clear hc1 hf1
  go_wp2_with fail
  refine (hp2 w1).mono ?_
  rintro e w2 ⟨rfl, hb2⟩
  have hz2 := hb2.size
  have d0 := ((bcell hb2).1 _ _ (by omega)).trans c0
  have d1 := ((bcell hb2).1 _ _ (by omega)).trans c1
  go_wp2_with fail
  refine (HW.out w2 (HV.out.below (hBw.trans (hb2.mono (by omega))))).mono ?_
  rintro e w3 ⟨rfl, hb3⟩
  have hB3 : Below w1.heap.size w1 w3 := hb2.trans (hb3.mono (by omega))
  have y0 := ((bcell hB3).1 _ _ (by omega)).trans z0
  have y1 := ((bcell hB3).1 _ _ (by omega)).trans z1
  have y2 := ((bcell hB3).1 _ _ (by omega)).trans z2
  have g0 := ((bcell hB3).2 _ _ (by omega)).trans f0
  have g1 := ((bcell hB3).2 _ _ (by omega)).trans f1
  have g2 := ((bcell hB3).2 _ _ (by omega)).trans f2
  go_wp2
  refine bodyPost_ret (v := .tuple #[.agg #[.int .u8 rk, .string rs, .int .i64 0], .bool rb]) (by simp [results, Tryz.results48, go_sem, y0, y1, y2]) rfl ⟨rfl, ?_⟩
  exact ((hBw.trans (hB3.mono (by omega))).setCell (by simp) _).setCell (by simp) _ |>.setCell (by simp) _

/-- first: the token that a string begins with, if there is one -/
theorem first_any (s : ByteArray) (hs : s.size ≤ 281474976710656) (bm bs : Nat) (w : World) (hv : Voc w bm bs) (he : Env w) :
    Calls Tryz.prog 48 #[vocV bm bs, .string s] w fun e w' => e = .returned (optV (Lx.tok s.data.toList)) ∧ Below w.heap.size w w' := by
  by_cases h : 0 < Lx.run Lx.isLetter s.data.toList
  · exact first_word s hs bm bs w hv he h
  · by_cases h2 : 0 < Lx.run Lx.isDigit s.data.toList
    · exact first_num s hs bm bs w hv he h h2
    · exact first_sign s hs bm bs w hv h h2

end Go.Proofs.YtkhgmoljhehbnaaGreatDoor
