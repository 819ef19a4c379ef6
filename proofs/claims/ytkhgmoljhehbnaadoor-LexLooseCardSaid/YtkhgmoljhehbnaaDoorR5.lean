/- The walk of the reference's At. -/
import Derived.Test.YtkhgmoljhehbnaaDoorR4
import Derived.Test.YtkhgmoljhehbnaaDoorW9
import Derived.Deep.RegionHeld3
namespace Go.Proofs.YtkhgmoljhehbnaaDoor
open Go.RowKit

/-- what the loop of At goes over -/
def headP (q : Bool) (c : UInt8) : Bool := Lx.isDigit c || (Lx.isLetter c && q)
theorem headP_word : headP true = Lx.wordByte := by funext c; simp [headP, Lx.wordByte, Bool.or_comm]
theorem headP_digit : headP false = Lx.isDigit := by funext c; simp [headP]

theorem run_of (p : UInt8 → Bool) (l : Lx.B) (m : Nat) (hm : m ≤ l.length) (hJ : ∀ (i : Nat) c, i < m → l[i]? = some c → p c = true) (he : m < l.length → ∃ c, l[m]? = some c ∧ p c = false) : Lx.run p l = m :=
  Lx.run_split p l m (fun i hi => ⟨_, List.getElem?_eq_getElem (by omega), hJ i _ hi (List.getElem?_eq_getElem (by omega))⟩) he hm

theorem drop_get (s : ByteArray) (a m : Nat) (h : a + m < s.size) : (s.data.toList.drop a)[m]? = some s[a + m] := by
  rw [List.getElem?_drop, bytes_at s (a + m) h]

/-- what At answers -/
def AtIs (s : ByteArray) (a : Nat) (e : Ending) : Prop := ∃ (k : Nat) (t : ByteArray) (a2 en : Int), e = .returned (.tuple #[.agg #[.int .u8 k, .string t, .int .i64 a2], .int .i64 en, .bool (Lx.tok (s.data.toList.drop a)).isSome]) ∧
  ((Lx.tok (s.data.toList.drop a)).isSome = true → k = optK (Lx.tok (s.data.toList.drop a)) ∧ t = optS (Lx.tok (s.data.toList.drop a)) ∧ a2 = a ∧ en = a + t.size)

theorem letter_not_digit (c : UInt8) (h : Lx.isLetter c = true) : Lx.isDigit c = false := by
  simp [Lx.isLetter, Lx.isDigit] at h ⊢; omega
theorem run_pos (p : UInt8 → Bool) (s : ByteArray) (a : Nat) (h : a < s.size) : 0 < Lx.run p (s.data.toList.drop a) ↔ p s[a] = true := by
  rw [drop_at s a h]
  unfold Lx.run
  cases p s[a] <;> simp
theorem extract_take (s : ByteArray) (a m : Nat) : (s.extract a (a + m)).data.toList = (s.data.toList.drop a).take m := by
  rw [Lib.extract_data, show a + m - a = m from by omega]
/-- the three kinds of what stands at a place -/
theorem tok_letter (s : ByteArray) (a m : Nat) (h : a < s.size) (hq : Lx.isLetter s[a] = true) (hn : Lx.run (headP true) (s.data.toList.drop a) = m) : Lx.tok (s.data.toList.drop a) = wordOf (s.extract a (a + m)).data.toList := by
  rw [tok_word ((run_pos _ s a h).2 hq), extract_take, ← hn, headP_word]
theorem tok_digit (s : ByteArray) (a m : Nat) (h : a < s.size) (hq : Lx.isLetter s[a] = false) (hd : Lx.isDigit s[a] = true) (hn : Lx.run (headP false) (s.data.toList.drop a) = m) : Lx.tok (s.data.toList.drop a) = numOf (s.extract a (a + m)).data.toList := by
  rw [tok_num (fun h1 => by rw [run_pos _ s a h, hq] at h1; cases h1) ((run_pos _ s a h).2 hd), extract_take, ← hn, headP_digit]
theorem tok_other (s : ByteArray) (a : Nat) (h : a < s.size) (hq : Lx.isLetter s[a] = false) (hd : Lx.isDigit s[a] = false) : Lx.tok (s.data.toList.drop a) = signsOf (s.data.toList.drop a) :=
  tok_sign (fun h1 => by rw [run_pos _ s a h, hq] at h1; cases h1) (fun h1 => by rw [run_pos _ s a h, hd] at h1; cases h1)

theorem AtIs.none_ {s : ByteArray} {a : Nat} (k : Nat) (t : ByteArray) (a2 en : Int) (h : Lx.tok (s.data.toList.drop a) = none) : AtIs s a (.returned (.tuple #[.agg #[.int .u8 k, .string t, .int .i64 a2], .int .i64 en, .bool false])) :=
  ⟨k, t, a2, en, by rw [h]; rfl, fun h1 => by rw [h] at h1; cases h1⟩
theorem AtIs.some_ {s : ByteArray} {a : Nat} (k : Nat) (t : ByteArray) (en : Int) (h : Lx.tok (s.data.toList.drop a) = some (k, t.data.toList)) (he : en = a + t.size) : AtIs s a (.returned (.tuple #[.agg #[.int .u8 k, .string t, .int .i64 a], .int .i64 en, .bool true])) :=
  ⟨k, t, a, en, by rw [h]; rfl, fun _ => by rw [h]; exact ⟨rfl, by simp [optS], rfl, he⟩⟩


def bb (s : ByteArray) (a : Nat) : ByteArray := ⟨(bestOf (s.data.toList.drop a) 26).toArray⟩
theorem bb_data (s : ByteArray) (a : Nat) : (bb s a).data.toList = bestOf (s.data.toList.drop a) 26 := by simp [bb]
theorem refSign_ex (s : ByteArray) (hs : s.size ≤ 281474976710656) (a : Nat) (ha : a ≤ s.size) (w : World) :
    Calls Tryd.prog 74 #[.string s, .int .i64 a] w fun e w' => e = .returned (.tuple #[.agg #[.int .u8 4, .string (bb s a), .int .i64 a], .int .i64 ((a : Int) + (bb s a).size), .bool (!(bb s a).toList.isEmpty)]) ∧ Below w.heap.size w w' := by
  have h := refSign_any s hs a ha w
  rw [← bb_data, signV_eq] at h
  exact h
theorem AtIs.sign {s : ByteArray} {a : Nat} (ht : Lx.tok (s.data.toList.drop a) = signsOf (s.data.toList.drop a)) :
    AtIs s a (.returned (.tuple #[.agg #[.int .u8 4, .string (bb s a), .int .i64 a], .int .i64 ((a : Int) + (bb s a).size), .bool (!(bb s a).toList.isEmpty)])) := by
  have hb := bb_data s a
  rw [best_all] at hb
  unfold signsOf at ht
  cases h : Lx.signOf Lx.signs (s.data.toList.drop a) with
  | none =>
    rw [h] at hb ht
    rw [show (bb s a).toList.isEmpty = true from by rw [Lib.toList_data, hb]; rfl]
    exact AtIs.none_ _ _ _ _ ht
  | some t =>
    rw [h] at hb ht
    have hp := signs_pos t (List.mem_of_find?_eq_some h)
    rw [show (bb s a).toList.isEmpty = false from by rw [Lib.toList_data, hb]; cases t <;> simp at hp ⊢]
    exact AtIs.some_ _ _ _ (by rw [ht, hb]; rfl) rfl
theorem AtIs.num {s : ByteArray} {a m : Nat} (ham : a + m ≤ s.size) (ht : Lx.tok (s.data.toList.drop a) = numOf (s.extract a (a + m)).data.toList) :
    AtIs s a (.returned (.tuple #[.agg #[.int .u8 3, .string (s.extract a (a + m)), .int .i64 a], .int .i64 ((a + m : Nat) : Int), .bool (decide (0 ≤ numV (s.extract a (a + m)).data.toList))])) := by
  unfold numOf at ht
  unfold numV
  cases h : Lx.numOk (s.extract a (a + m)).data.toList
  · rw [h] at ht
    exact AtIs.none_ _ _ _ _ ht
  · rw [h] at ht
    rw [if_pos rfl, show decide ((0 : Int) ≤ (Lx.val 0 (s.extract a (a + m)).data.toList : Int)) = true from by simp]
    exact AtIs.some_ _ _ _ ht (by simp; omega)
theorem AtIs.word {s : ByteArray} {a m : Nat} (ham : a + m ≤ s.size) (ht : Lx.tok (s.data.toList.drop a) = wordOf (s.extract a (a + m)).data.toList) (h : Lx.keywords.contains (s.extract a (a + m)).data.toList = true) :
    AtIs s a (.returned (.tuple #[.agg #[.int .u8 1, .string (s.extract a (a + m)), .int .i64 a], .int .i64 ((a + m : Nat) : Int), .bool true])) :=
  AtIs.some_ _ _ _ (by rw [ht, wordOf_key h]) (by simp; omega)
theorem AtIs.name {s : ByteArray} {a m : Nat} (ham : a + m ≤ s.size) (ht : Lx.tok (s.data.toList.drop a) = wordOf (s.extract a (a + m)).data.toList) (h : Lx.keywords.contains (s.extract a (a + m)).data.toList = false) :
    AtIs s a (.returned (.tuple #[.agg #[.int .u8 2, .string (s.extract a (a + m)), .int .i64 a], .int .i64 ((a + m : Nat) : Int), .bool (decide ((s.extract a (a + m)).size ≤ 12))])) := by
  have hsz := Lib.size_eq (s.extract a (a + m))
  by_cases h12 : (s.extract a (a + m)).size ≤ 12
  · rw [show decide ((s.extract a (a + m)).size ≤ 12) = true from by simpa using h12]
    exact AtIs.some_ _ _ _ (by rw [ht, wordOf_name h (by omega)]) (by simp; omega)
  · rw [show decide ((s.extract a (a + m)).size ≤ 12) = false from by simpa using h12]
    exact AtIs.none_ _ _ _ _ (by rw [ht, wordOf_long h (by omega)])

set_option maxRecDepth 100000 in
set_option maxHeartbeats 4000000 in
theorem refAt_any (s : ByteArray) (hs : s.size ≤ 281474976710656) (a : Nat) (ha : a < s.size) (w : World) :
    Calls Tryd.prog 49 #[.string s, .int .i64 a] w fun e w' => AtIs s a e ∧ Below w.heap.size w w' := by
  have hm : (s.size : Int) ≤ 281474976710656 := by omega
  have hsl : s.data.toList.length = s.size := (Lib.size_eq s).symm
  have HSL := Lib.hid hsl
  have ham : (a : Int) < s.size := by omega
  clear hsl
  go_enter Tryd.func49, Tryd.ntmps49
  go_wp2
  go_loop [7] (fun i => ∃ j m : Nat, j ≤ s.size ∧ a ≤ j ∧ i = .int .i64 j ∧ Hid (j = a + m) ∧ Hid (∀ (i : Nat) c, i < m → (s.data.toList.drop a)[i]? = some c → headP (Lx.isLetter s[a]) c = true)) (fun i => s.size - (intOf i).toNat)
  case atStart => exact ⟨a, 0, by omega, Nat.le_refl _, rfl, rfl, fun i c hi => absurd hi (by omega)⟩
  case round =>
    obtain ⟨j, m, hm1, haj, rfl, HJJ, HJ⟩ := hrel
    cases hq : Lx.isLetter s[a]
    · have HQ := Lib.hid hq
      have hnl : Lx.isLetter s[a] = false := hq
      clear hq
      by_cases hlt : j < s.size
      · have hlt' : (j : Int) < s.size := by omega
        have HG : Hid ((s.data.toList.drop a)[m]? = some s[j]) := by
          show _ = _
          have := HJJ.out; subst this
          exact drop_get s a m hlt
        cases hD : Lx.isDigit s[j]
        · cases hL : Lx.isLetter s[j]
          · have HN : Hid (Lx.run (headP false) (s.data.toList.drop a) = m) := by
              show _ = _
              refine run_of _ _ _ (by rw [List.length_drop, HSL.out]; have := HJJ.out; omega) (fun i c hi hc => ?_) (fun _ => ⟨_, HG.out, by simp [headP, hD, hL]⟩)
              have := HJ.out i c hi hc; simpa only [HQ.out] using this
            have haj' : (a : Int) ≤ j := by omega
            have hjs' : (j : Int) ≤ s.size := by omega
            cases hdg : Lx.isDigit s[a]
            · have HT := Lib.hid (tok_other s a ha HQ.out hdg)
              have hm0 : m = 0 := by
                have h1 := (not_congr (run_pos (headP false) s a ha)).2 (by simp [headP, hdg])
                rw [HN.out] at h1; omega
              have hja : (j : Int) = a := by have := HJJ.out; omega
              have hjb : ((j : Int) == a) = true := by simp [hja]
              clear hja hm0
              go_wp2_with (first | (go_at_call 72; refine (refIsDigit_any _ _).mono ?_; rintro e w' ⟨rfl, rfl⟩) | (go_at_call 73; refine (refIsLetter_any _ _).mono ?_; rintro e w' ⟨rfl, rfl⟩) | (go_at_call 74; refine (refSign_ex s hs a (by omega) _).mono ?_; rintro e w1 ⟨rfl, hb1⟩; obtain ⟨hc1, hf1⟩ := bcell hb1))
              obtain ⟨z0, z1, z2⟩ : w1.cell? ⟨w.heap.size, 0, none⟩ = some (.int .u8 0) ∧ w1.cell? ⟨w.heap.size, 1, none⟩ = some (.string ⟨#[]⟩) ∧ w1.cell? ⟨w.heap.size, 2, none⟩ = some (.int .i64 0) := ⟨by rw [hc1 _ _ (by simp; omega)]; simp, by rw [hc1 _ _ (by simp; omega)]; simp, by rw [hc1 _ _ (by simp; omega)]; simp⟩
              refine bodyPost_ret (v := .tuple #[.agg #[.int .u8 4, .string (bb s a), .int .i64 a], .int .i64 ((a : Int) + (bb s a).size), .bool (!(bb s a).toList.isEmpty)]) (by simp [results, Tryd.results49, go_sem, z0, z1, z2]) rfl ⟨AtIs.sign HT.out, ?_⟩
              exact ((((((Below.refl _ w).alloc (Nat.le_refl _) _).alloc (by simp) _).trans (hb1.mono (by simp; omega))).setCell (by simp) _).setCell (by simp) _).setCell (by simp) _
            · have HD := Lib.hid hdg
              have HT := Lib.hid (tok_digit s a m ha HQ.out hdg HN.out)
              have hm0 : 0 < m := by
                have h1 := (run_pos (headP false) s a ha).2 (by simp [headP, hdg])
                rw [HN.out] at h1; omega
              have hja : ¬ (j : Int) = a := by have := HJJ.out; omega
              have hjb : ((j : Int) == a) = false := by simp [hja]
              clear hja hm0
              go_wp2_with (first | (go_at_call 72; refine (refIsDigit_any _ _).mono ?_; rintro e w' ⟨rfl, rfl⟩) | (go_at_call 73; refine (refIsLetter_any _ _).mono ?_; rintro e w' ⟨rfl, rfl⟩))
              have hTs : (s.extract a j).size ≤ maxLen := by unfold maxLen; simp; omega
              have hTd : Lx.Dig (s.extract a j).data.toList := by
                have := HJJ.out; subst this
                rw [extract_take, ← HN.out, headP_digit]
                exact Lx.run_dig _
              have hnum := fun W => refNumber_any (s.extract a j) hTs hTd W
              have HR : Hid (AtIs s a (.returned (.tuple #[.agg #[.int .u8 3, .string (s.extract a j), .int .i64 a], .int .i64 (j : Int), .bool (decide (0 ≤ numV (s.extract a j).data.toList))]))) := by
                have := HJJ.out; subst this
                exact AtIs.num (by omega) HT.out
              generalize numV (s.extract a j).data.toList = nv at hnum HR
              generalize s.extract a j = T at hnum HR ⊢
              have HNUM := Lib.hid hnum
              clear hnum hTs hTd
              go_region_held3 (fun W => W.cell? ⟨w.heap.size + 1, 0, none⟩ = some (.int .u8 3) ∧ W.cell? ⟨w.heap.size + 1, 1, none⟩ = some (.string T) ∧ W.cell? ⟨w.heap.size + 1, 2, none⟩ = some (.int .i64 a))
                (first | go_keep)
                ((go_at_call 75; refine (HNUM.out _).mono ?_; rintro e w' ⟨rfl, rfl⟩))
              go_wp2
              refine bodyPost_ret (v := .tuple #[.agg #[.int .u8 3, .string T, .int .i64 a], .int .i64 (j : Int), .bool (decide (0 ≤ nv))]) (by simp [results, Tryd.results49, go_sem]) rfl ⟨HR.out, ?_⟩
              exact (((Below.refl _ w).alloc (Nat.le_refl _) _).alloc (by simp) _).drew
          · have HN : Hid (Lx.run (headP false) (s.data.toList.drop a) = m) := by
              show _ = _
              refine run_of _ _ _ (by rw [List.length_drop, HSL.out]; have := HJJ.out; omega) (fun i c hi hc => ?_) (fun _ => ⟨_, HG.out, by simp [headP, hD]⟩)
              have := HJ.out i c hi hc; simpa only [HQ.out] using this
            have haj' : (a : Int) ≤ j := by omega
            have hjs' : (j : Int) ≤ s.size := by omega
            cases hdg : Lx.isDigit s[a]
            · have HT := Lib.hid (tok_other s a ha HQ.out hdg)
              have hm0 : m = 0 := by
                have h1 := (not_congr (run_pos (headP false) s a ha)).2 (by simp [headP, hdg])
                rw [HN.out] at h1; omega
              have hja : (j : Int) = a := by have := HJJ.out; omega
              have hjb : ((j : Int) == a) = true := by simp [hja]
              clear hja hm0
              go_wp2_with (first | (go_at_call 72; refine (refIsDigit_any _ _).mono ?_; rintro e w' ⟨rfl, rfl⟩) | (go_at_call 73; refine (refIsLetter_any _ _).mono ?_; rintro e w' ⟨rfl, rfl⟩) | (go_at_call 74; refine (refSign_ex s hs a (by omega) _).mono ?_; rintro e w1 ⟨rfl, hb1⟩; obtain ⟨hc1, hf1⟩ := bcell hb1))
              obtain ⟨z0, z1, z2⟩ : w1.cell? ⟨w.heap.size, 0, none⟩ = some (.int .u8 0) ∧ w1.cell? ⟨w.heap.size, 1, none⟩ = some (.string ⟨#[]⟩) ∧ w1.cell? ⟨w.heap.size, 2, none⟩ = some (.int .i64 0) := ⟨by rw [hc1 _ _ (by simp; omega)]; simp, by rw [hc1 _ _ (by simp; omega)]; simp, by rw [hc1 _ _ (by simp; omega)]; simp⟩
              refine bodyPost_ret (v := .tuple #[.agg #[.int .u8 4, .string (bb s a), .int .i64 a], .int .i64 ((a : Int) + (bb s a).size), .bool (!(bb s a).toList.isEmpty)]) (by simp [results, Tryd.results49, go_sem, z0, z1, z2]) rfl ⟨AtIs.sign HT.out, ?_⟩
              exact ((((((Below.refl _ w).alloc (Nat.le_refl _) _).alloc (by simp) _).trans (hb1.mono (by simp; omega))).setCell (by simp) _).setCell (by simp) _).setCell (by simp) _
            · have HD := Lib.hid hdg
              have HT := Lib.hid (tok_digit s a m ha HQ.out hdg HN.out)
              have hm0 : 0 < m := by
                have h1 := (run_pos (headP false) s a ha).2 (by simp [headP, hdg])
                rw [HN.out] at h1; omega
              have hja : ¬ (j : Int) = a := by have := HJJ.out; omega
              have hjb : ((j : Int) == a) = false := by simp [hja]
              clear hja hm0
              go_wp2_with (first | (go_at_call 72; refine (refIsDigit_any _ _).mono ?_; rintro e w' ⟨rfl, rfl⟩) | (go_at_call 73; refine (refIsLetter_any _ _).mono ?_; rintro e w' ⟨rfl, rfl⟩))
              have hTs : (s.extract a j).size ≤ maxLen := by unfold maxLen; simp; omega
              have hTd : Lx.Dig (s.extract a j).data.toList := by
                have := HJJ.out; subst this
                rw [extract_take, ← HN.out, headP_digit]
                exact Lx.run_dig _
              have hnum := fun W => refNumber_any (s.extract a j) hTs hTd W
              have HR : Hid (AtIs s a (.returned (.tuple #[.agg #[.int .u8 3, .string (s.extract a j), .int .i64 a], .int .i64 (j : Int), .bool (decide (0 ≤ numV (s.extract a j).data.toList))]))) := by
                have := HJJ.out; subst this
                exact AtIs.num (by omega) HT.out
              generalize numV (s.extract a j).data.toList = nv at hnum HR
              generalize s.extract a j = T at hnum HR ⊢
              have HNUM := Lib.hid hnum
              clear hnum hTs hTd
              go_region_held3 (fun W => W.cell? ⟨w.heap.size + 1, 0, none⟩ = some (.int .u8 3) ∧ W.cell? ⟨w.heap.size + 1, 1, none⟩ = some (.string T) ∧ W.cell? ⟨w.heap.size + 1, 2, none⟩ = some (.int .i64 a))
                (first | go_keep)
                ((go_at_call 75; refine (HNUM.out _).mono ?_; rintro e w' ⟨rfl, rfl⟩))
              go_wp2
              refine bodyPost_ret (v := .tuple #[.agg #[.int .u8 3, .string T, .int .i64 a], .int .i64 (j : Int), .bool (decide (0 ≤ nv))]) (by simp [results, Tryd.results49, go_sem]) rfl ⟨HR.out, ?_⟩
              exact (((Below.refl _ w).alloc (Nat.le_refl _) _).alloc (by simp) _).drew
        · have HP : Hid (headP false s[j] = true) := by show _ = _; simp [headP, hD]
          go_wp2_with (first | (go_at_call 72; refine (refIsDigit_any _ _).mono ?_; rintro e w' ⟨rfl, rfl⟩) | (go_at_call 73; refine (refIsLetter_any _ _).mono ?_; rintro e w' ⟨rfl, rfl⟩))
          go_round
          case rel =>
            refine ⟨j + 1, m + 1, by omega, by omega, by go_num, (show _ = _ by rw [HJJ.out]; omega), fun i c hi hy => ?_⟩
            try rw [HQ.out]
            by_cases e : i = m
            · subst e; rw [HG.out] at hy; cases hy; exact HP.out
            · have := HJ.out i c (by omega) hy; simpa only [HQ.out] using this
          case measure => simp [intOf]; omega
      · have HN : Hid (Lx.run (headP false) (s.data.toList.drop a) = m) := by
          show _ = _
          refine run_of _ _ _ (by rw [List.length_drop, HSL.out]; have := HJJ.out; omega) (fun i c hi hc => ?_) (fun h => absurd h (by rw [List.length_drop, HSL.out]; have := HJJ.out; omega))
          have := HJ.out i c hi hc; simpa only [HQ.out] using this
        have hlt' : ¬ (j : Int) < s.size := by omega
        have haj' : (a : Int) ≤ j := by omega
        have hjs' : (j : Int) ≤ s.size := by omega
        cases hdg : Lx.isDigit s[a]
        · have HT := Lib.hid (tok_other s a ha HQ.out hdg)
          have hm0 : m = 0 := by
            have h1 := (not_congr (run_pos (headP false) s a ha)).2 (by simp [headP, hdg])
            rw [HN.out] at h1; omega
          have hja : (j : Int) = a := by have := HJJ.out; omega
          have hjb : ((j : Int) == a) = true := by simp [hja]
          clear hja hm0
          go_wp2_with (first | (go_at_call 72; refine (refIsDigit_any _ _).mono ?_; rintro e w' ⟨rfl, rfl⟩) | (go_at_call 73; refine (refIsLetter_any _ _).mono ?_; rintro e w' ⟨rfl, rfl⟩) | (go_at_call 74; refine (refSign_ex s hs a (by omega) _).mono ?_; rintro e w1 ⟨rfl, hb1⟩; obtain ⟨hc1, hf1⟩ := bcell hb1))
          obtain ⟨z0, z1, z2⟩ : w1.cell? ⟨w.heap.size, 0, none⟩ = some (.int .u8 0) ∧ w1.cell? ⟨w.heap.size, 1, none⟩ = some (.string ⟨#[]⟩) ∧ w1.cell? ⟨w.heap.size, 2, none⟩ = some (.int .i64 0) := ⟨by rw [hc1 _ _ (by simp; omega)]; simp, by rw [hc1 _ _ (by simp; omega)]; simp, by rw [hc1 _ _ (by simp; omega)]; simp⟩
          refine bodyPost_ret (v := .tuple #[.agg #[.int .u8 4, .string (bb s a), .int .i64 a], .int .i64 ((a : Int) + (bb s a).size), .bool (!(bb s a).toList.isEmpty)]) (by simp [results, Tryd.results49, go_sem, z0, z1, z2]) rfl ⟨AtIs.sign HT.out, ?_⟩
          exact ((((((Below.refl _ w).alloc (Nat.le_refl _) _).alloc (by simp) _).trans (hb1.mono (by simp; omega))).setCell (by simp) _).setCell (by simp) _).setCell (by simp) _
        · have HD := Lib.hid hdg
          have HT := Lib.hid (tok_digit s a m ha HQ.out hdg HN.out)
          have hm0 : 0 < m := by
            have h1 := (run_pos (headP false) s a ha).2 (by simp [headP, hdg])
            rw [HN.out] at h1; omega
          have hja : ¬ (j : Int) = a := by have := HJJ.out; omega
          have hjb : ((j : Int) == a) = false := by simp [hja]
          clear hja hm0
          go_wp2_with (first | (go_at_call 72; refine (refIsDigit_any _ _).mono ?_; rintro e w' ⟨rfl, rfl⟩) | (go_at_call 73; refine (refIsLetter_any _ _).mono ?_; rintro e w' ⟨rfl, rfl⟩))
          have hTs : (s.extract a j).size ≤ maxLen := by unfold maxLen; simp; omega
          have hTd : Lx.Dig (s.extract a j).data.toList := by
            have := HJJ.out; subst this
            rw [extract_take, ← HN.out, headP_digit]
            exact Lx.run_dig _
          have hnum := fun W => refNumber_any (s.extract a j) hTs hTd W
          have HR : Hid (AtIs s a (.returned (.tuple #[.agg #[.int .u8 3, .string (s.extract a j), .int .i64 a], .int .i64 (j : Int), .bool (decide (0 ≤ numV (s.extract a j).data.toList))]))) := by
            have := HJJ.out; subst this
            exact AtIs.num (by omega) HT.out
          generalize numV (s.extract a j).data.toList = nv at hnum HR
          generalize s.extract a j = T at hnum HR ⊢
          have HNUM := Lib.hid hnum
          clear hnum hTs hTd
          go_region_held3 (fun W => W.cell? ⟨w.heap.size + 1, 0, none⟩ = some (.int .u8 3) ∧ W.cell? ⟨w.heap.size + 1, 1, none⟩ = some (.string T) ∧ W.cell? ⟨w.heap.size + 1, 2, none⟩ = some (.int .i64 a))
            (first | go_keep)
            ((go_at_call 75; refine (HNUM.out _).mono ?_; rintro e w' ⟨rfl, rfl⟩))
          go_wp2
          refine bodyPost_ret (v := .tuple #[.agg #[.int .u8 3, .string T, .int .i64 a], .int .i64 (j : Int), .bool (decide (0 ≤ nv))]) (by simp [results, Tryd.results49, go_sem]) rfl ⟨HR.out, ?_⟩
          exact (((Below.refl _ w).alloc (Nat.le_refl _) _).alloc (by simp) _).drew
    · have HQ := Lib.hid hq
      have hnl : Lx.isLetter s[a] = true := hq
      clear hq
      by_cases hlt : j < s.size
      · have hlt' : (j : Int) < s.size := by omega
        have HG : Hid ((s.data.toList.drop a)[m]? = some s[j]) := by
          show _ = _
          have := HJJ.out; subst this
          exact drop_get s a m hlt
        cases hD : Lx.isDigit s[j]
        · cases hL : Lx.isLetter s[j]
          · have HN : Hid (Lx.run (headP true) (s.data.toList.drop a) = m) := by
              show _ = _
              refine run_of _ _ _ (by rw [List.length_drop, HSL.out]; have := HJJ.out; omega) (fun i c hi hc => ?_) (fun _ => ⟨_, HG.out, by simp [headP, hD, hL]⟩)
              have := HJ.out i c hi hc; simpa only [HQ.out] using this
            have haj' : (a : Int) ≤ j := by omega
            have hjs' : (j : Int) ≤ s.size := by omega
            have hdg := letter_not_digit _ HQ.out
            have HT := Lib.hid (tok_letter s a m ha HQ.out HN.out)
            have hm0 : 0 < m := by
              have h1 := (run_pos (headP true) s a ha).2 (by simp [headP, HQ.out])
              rw [HN.out] at h1; omega
            have hja : ¬ (j : Int) = a := by have := HJJ.out; omega
            have hjb : ((j : Int) == a) = false := by simp [hja]
            clear hja hm0
            go_wp2_with (first | (go_at_call 72; refine (refIsDigit_any _ _).mono ?_; rintro e w' ⟨rfl, rfl⟩) | (go_at_call 73; refine (refIsLetter_any _ _).mono ?_; rintro e w' ⟨rfl, rfl⟩))
            have hTn : (s.extract a j).size = j - a := by simp; omega
            have HR1 : Hid (Lx.keywords.contains (s.extract a j).data.toList = true → AtIs s a (.returned (.tuple #[.agg #[.int .u8 1, .string (s.extract a j), .int .i64 a], .int .i64 (j : Int), .bool true]))) := by
              have := HJJ.out; subst this
              exact AtIs.word (by omega) HT.out
            have HR2 : Hid (Lx.keywords.contains (s.extract a j).data.toList = false → AtIs s a (.returned (.tuple #[.agg #[.int .u8 2, .string (s.extract a j), .int .i64 a], .int .i64 (j : Int), .bool (decide ((s.extract a j).size ≤ 12))]))) := by
              have := HJJ.out; subst this
              exact AtIs.name (by omega) HT.out
            have hhas := fun b W hr => refHas_any Lx.keywords (by decide) b 24 (s.extract a j) W hr
            have HLEN : Hid ((s.extract a j).size ≤ 281474976710656) := by show _ ≤ _; omega
            rw [show Lx.keywords.length = 24 from rfl] at hhas
            generalize Lx.keywords.contains (s.extract a j).data.toList = kq at hhas HR1 HR2
            generalize s.extract a j = T at hhas HR1 HR2 HLEN ⊢
            have HHAS := Lib.hid hhas
            clear hhas hTn
            go_region_held3 (fun W => W.cell? ⟨w.heap.size + 1, 1, none⟩ = some (.string T))
              (first | go_keep)
              ((first
                | (go_at_call 77; refine (keywords_any _).mono ?_; rintro e w' ⟨rfl, rfl⟩)
                | (go_at_call 76; refine (HHAS.out _ _ (by intro i x hx; simp [go_sem, strRow_get _ i x hx, sv])).mono ?_; rintro e w' ⟨rfl, rfl⟩)))
            cases kq
            · have HRT : Hid (AtIs s a (.returned (.tuple #[.agg #[.int .u8 2, .string T, .int .i64 a], .int .i64 (j : Int), .bool (decide ((T.size : Int) ≤ 12))]))) := by
                have := HR2.out rfl
                rwa [show decide (T.size ≤ 12) = decide ((T.size : Int) ≤ 12) from decide_eq_decide.2 (by omega)] at this
              clear HR1 HR2
              go_wp2_with fail
              go_region
              go_wp2
              refine bodyPost_ret (v := .tuple #[.agg #[.int .u8 2, .string T, .int .i64 a], .int .i64 (j : Int), .bool (decide ((T.size : Int) ≤ 12))]) (by simp [results, Tryd.results49, go_sem]) rfl ⟨HRT.out, ?_⟩
              exact ((((Below.refl _ w).alloc (Nat.le_refl _) _).alloc (by simp) _).alloc (by simp; omega) _).drew.drew
            · have HRT := Lib.hid (HR1.out rfl)
              clear HR1 HR2
              go_wp2
              refine bodyPost_ret (v := .tuple #[.agg #[.int .u8 1, .string T, .int .i64 a], .int .i64 (j : Int), .bool true]) (by simp [results, Tryd.results49, go_sem]) rfl ⟨HRT.out, ?_⟩
              exact ((((Below.refl _ w).alloc (Nat.le_refl _) _).alloc (by simp) _).alloc (by simp; omega) _).drew
          · have HP : Hid (headP true s[j] = true) := by show _ = _; simp [headP, hL]
            go_wp2_with (first | (go_at_call 72; refine (refIsDigit_any _ _).mono ?_; rintro e w' ⟨rfl, rfl⟩) | (go_at_call 73; refine (refIsLetter_any _ _).mono ?_; rintro e w' ⟨rfl, rfl⟩))
            go_round
            case rel =>
              refine ⟨j + 1, m + 1, by omega, by omega, by go_num, (show _ = _ by rw [HJJ.out]; omega), fun i c hi hy => ?_⟩
              try rw [HQ.out]
              by_cases e : i = m
              · subst e; rw [HG.out] at hy; cases hy; exact HP.out
              · have := HJ.out i c (by omega) hy; simpa only [HQ.out] using this
            case measure => simp [intOf]; omega
        · have HP : Hid (headP true s[j] = true) := by show _ = _; simp [headP, hD]
          go_wp2_with (first | (go_at_call 72; refine (refIsDigit_any _ _).mono ?_; rintro e w' ⟨rfl, rfl⟩) | (go_at_call 73; refine (refIsLetter_any _ _).mono ?_; rintro e w' ⟨rfl, rfl⟩))
          go_round
          case rel =>
            refine ⟨j + 1, m + 1, by omega, by omega, by go_num, (show _ = _ by rw [HJJ.out]; omega), fun i c hi hy => ?_⟩
            try rw [HQ.out]
            by_cases e : i = m
            · subst e; rw [HG.out] at hy; cases hy; exact HP.out
            · have := HJ.out i c (by omega) hy; simpa only [HQ.out] using this
          case measure => simp [intOf]; omega
      · have HN : Hid (Lx.run (headP true) (s.data.toList.drop a) = m) := by
          show _ = _
          refine run_of _ _ _ (by rw [List.length_drop, HSL.out]; have := HJJ.out; omega) (fun i c hi hc => ?_) (fun h => absurd h (by rw [List.length_drop, HSL.out]; have := HJJ.out; omega))
          have := HJ.out i c hi hc; simpa only [HQ.out] using this
        have hlt' : ¬ (j : Int) < s.size := by omega
        have haj' : (a : Int) ≤ j := by omega
        have hjs' : (j : Int) ≤ s.size := by omega
        have hdg := letter_not_digit _ HQ.out
        have HT := Lib.hid (tok_letter s a m ha HQ.out HN.out)
        have hm0 : 0 < m := by
          have h1 := (run_pos (headP true) s a ha).2 (by simp [headP, HQ.out])
          rw [HN.out] at h1; omega
        have hja : ¬ (j : Int) = a := by have := HJJ.out; omega
        have hjb : ((j : Int) == a) = false := by simp [hja]
        clear hja hm0
        go_wp2_with (first | (go_at_call 72; refine (refIsDigit_any _ _).mono ?_; rintro e w' ⟨rfl, rfl⟩) | (go_at_call 73; refine (refIsLetter_any _ _).mono ?_; rintro e w' ⟨rfl, rfl⟩))
        have hTn : (s.extract a j).size = j - a := by simp; omega
        have HR1 : Hid (Lx.keywords.contains (s.extract a j).data.toList = true → AtIs s a (.returned (.tuple #[.agg #[.int .u8 1, .string (s.extract a j), .int .i64 a], .int .i64 (j : Int), .bool true]))) := by
          have := HJJ.out; subst this
          exact AtIs.word (by omega) HT.out
        have HR2 : Hid (Lx.keywords.contains (s.extract a j).data.toList = false → AtIs s a (.returned (.tuple #[.agg #[.int .u8 2, .string (s.extract a j), .int .i64 a], .int .i64 (j : Int), .bool (decide ((s.extract a j).size ≤ 12))]))) := by
          have := HJJ.out; subst this
          exact AtIs.name (by omega) HT.out
        have hhas := fun b W hr => refHas_any Lx.keywords (by decide) b 24 (s.extract a j) W hr
        have HLEN : Hid ((s.extract a j).size ≤ 281474976710656) := by show _ ≤ _; omega
        rw [show Lx.keywords.length = 24 from rfl] at hhas
        generalize Lx.keywords.contains (s.extract a j).data.toList = kq at hhas HR1 HR2
        generalize s.extract a j = T at hhas HR1 HR2 HLEN ⊢
        have HHAS := Lib.hid hhas
        clear hhas hTn
        go_region_held3 (fun W => W.cell? ⟨w.heap.size + 1, 1, none⟩ = some (.string T))
          (first | go_keep)
          ((first
            | (go_at_call 77; refine (keywords_any _).mono ?_; rintro e w' ⟨rfl, rfl⟩)
            | (go_at_call 76; refine (HHAS.out _ _ (by intro i x hx; simp [go_sem, strRow_get _ i x hx, sv])).mono ?_; rintro e w' ⟨rfl, rfl⟩)))
        cases kq
        · have HRT : Hid (AtIs s a (.returned (.tuple #[.agg #[.int .u8 2, .string T, .int .i64 a], .int .i64 (j : Int), .bool (decide ((T.size : Int) ≤ 12))]))) := by
            have := HR2.out rfl
            rwa [show decide (T.size ≤ 12) = decide ((T.size : Int) ≤ 12) from decide_eq_decide.2 (by omega)] at this
          clear HR1 HR2
          go_wp2_with fail
          go_region
          go_wp2
          refine bodyPost_ret (v := .tuple #[.agg #[.int .u8 2, .string T, .int .i64 a], .int .i64 (j : Int), .bool (decide ((T.size : Int) ≤ 12))]) (by simp [results, Tryd.results49, go_sem]) rfl ⟨HRT.out, ?_⟩
          exact ((((Below.refl _ w).alloc (Nat.le_refl _) _).alloc (by simp) _).alloc (by simp; omega) _).drew.drew
        · have HRT := Lib.hid (HR1.out rfl)
          clear HR1 HR2
          go_wp2
          refine bodyPost_ret (v := .tuple #[.agg #[.int .u8 1, .string T, .int .i64 a], .int .i64 (j : Int), .bool true]) (by simp [results, Tryd.results49, go_sem]) rfl ⟨HRT.out, ?_⟩
          exact ((((Below.refl _ w).alloc (Nat.le_refl _) _).alloc (by simp) _).alloc (by simp; omega) _).drew

end Go.Proofs.YtkhgmoljhehbnaaDoor
