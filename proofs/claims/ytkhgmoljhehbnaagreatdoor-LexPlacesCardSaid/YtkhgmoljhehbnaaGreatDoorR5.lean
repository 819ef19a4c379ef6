/- The walk of the reference's At. -/
import Derived.Test.YtkhgmoljhehbnaaGreatDoorR4
import Derived.Test.YtkhgmoljhehbnaaGreatDoorW9
import Derived.Deep.RegionHeld3
namespace Go.Proofs.YtkhgmoljhehbnaaGreatDoor
open Go.RowKit

/-- what the loop of At goes over -/
def headP (q : Bool) (c : UInt8) : Bool := Lx.isDigit c || (Lx.isLetter c && q)
theorem headP_word : headP true = Lx.wordByte := by funext c; simp [headP, Lx.wordByte, Bool.or_comm]
theorem headP_digit : headP false = Lx.isDigit := by funext c; simp [headP]

theorem run_of (p : UInt8 → Bool) (l : Lx.B) (m : Nat) (hm : m ≤ l.length) (hJ : ∀ (i : Nat) c, i < m → l[i]? = some c → p c = true) (he : m < l.length → ∃ c, l[m]? = some c ∧ p c = false) : Lx.run p l = m :=
  Lx.run_split p l m (fun i hi => ⟨_, List.getElem?_eq_getElem (by omega), hJ i _ hi (List.getElem?_eq_getElem (by omega))⟩) he hm

theorem drop_get (s : ByteArray) (a m : Nat) (h : a + m < s.size) : (s.data.toList.drop a)[m]? = some s[a + m] := by
  rw [List.getElem?_drop, bytes_at s (a + m) h]

/-- what At answers -/
def AtIs (s : ByteArray) (a : Nat) (e : Ending) : Prop := ∃ (k : Nat) (t : ByteArray) (a2 en : Int), e = .returned (.tuple #[.agg #[.int .u8 k, .string t, .int .i64 a2], .int .i64 en, .bool (Lx.tok (s.data.toList.drop a)).isSome]) ∧
  ((Lx.tok (s.data.toList.drop a)).isSome = true → k = optK (Lx.tok (s.data.toList.drop a)) ∧ t = optS (Lx.tok (s.data.toList.drop a)) ∧ a2 = a ∧ en = a + t.size)

theorem letter_not_digit (c : UInt8) (h : Lx.isLetter c = true) : Lx.isDigit c = false := by
  simp [Lx.isLetter, Lx.isDigit] at h ⊢; omega
theorem run_pos (p : UInt8 → Bool) (s : ByteArray) (a : Nat) (h : a < s.size) : 0 < Lx.run p (s.data.toList.drop a) ↔ p s[a] = true := by
  rw [drop_at s a h]
  unfold Lx.run
  cases p s[a] <;> simp
theorem extract_take (s : ByteArray) (a m : Nat) : (s.extract a (a + m)).data.toList = (s.data.toList.drop a).take m := by
  rw [Lib.extract_data, show a + m - a = m from by omega]
/-- the three kinds of what stands at a place -/
theorem tok_letter (s : ByteArray) (a m : Nat) (h : a < s.size) (hq : Lx.isLetter s[a] = true) (hn : Lx.run (headP true) (s.data.toList.drop a) = m) : Lx.tok (s.data.toList.drop a) = wordOf (s.extract a (a + m)).data.toList := by
  rw [tok_word ((run_pos _ s a h).2 hq), extract_take, ← hn, headP_word]
theorem tok_digit (s : ByteArray) (a m : Nat) (h : a < s.size) (hq : Lx.isLetter s[a] = false) (hd : Lx.isDigit s[a] = true) (hn : Lx.run (headP false) (s.data.toList.drop a) = m) : Lx.tok (s.data.toList.drop a) = numOf (s.extract a (a + m)).data.toList := by
  rw [tok_num (fun h1 => by rw [run_pos _ s a h, hq] at h1; cases h1) ((run_pos _ s a h).2 hd), extract_take, ← hn, headP_digit]
theorem tok_other (s : ByteArray) (a : Nat) (h : a < s.size) (hq : Lx.isLetter s[a] = false) (hd : Lx.isDigit s[a] = false) : Lx.tok (s.data.toList.drop a) = signsOf (s.data.toList.drop a) :=
  tok_sign (fun h1 => by rw [run_pos _ s a h, hq] at h1; cases h1) (fun h1 => by rw [run_pos _ s a h, hd] at h1; cases h1)

theorem AtIs.none_ {s : ByteArray} {a : Nat} (k : Nat) (t : ByteArray) (a2 en : Int) (h : Lx.tok (s.data.toList.drop a) = none) : AtIs s a (.returned (.tuple #[.agg #[.int .u8 k, .string t, .int .i64 a2], .int .i64 en, .bool false])) :=
  ⟨k, t, a2, en, by rw [h]; rfl, fun h1 => by rw [h] at h1; cases h1⟩
theorem AtIs.some_ {s : ByteArray} {a : Nat} (k : Nat) (t : ByteArray) (en : Int) (h : Lx.tok (s.data.toList.drop a) = some (k, t.data.toList)) (he : en = a + t.size) : AtIs s a (.returned (.tuple #[.agg #[.int .u8 k, .string t, .int .i64 a], .int .i64 en, .bool true])) :=
  ⟨k, t, a, en, by rw [h]; rfl, fun _ => by rw [h]; exact ⟨rfl, by simp [optS], rfl, he⟩⟩


def bb (s : ByteArray) (a : Nat) : ByteArray := ⟨(bestOf (s.data.toList.drop a) 26).toArray⟩
theorem bb_data (s : ByteArray) (a : Nat) : (bb s a).data.toList = bestOf (s.data.toList.drop a) 26 := by simp [bb]
theorem AtIs.sign {s : ByteArray} {a : Nat} (ht : Lx.tok (s.data.toList.drop a) = signsOf (s.data.toList.drop a)) :
    AtIs s a (.returned (.tuple #[.agg #[.int .u8 4, .string (bb s a), .int .i64 a], .int .i64 ((a : Int) + (bb s a).size), .bool (!(bb s a).toList.isEmpty)])) := by
  have hb := bb_data s a
  rw [best_all] at hb
  unfold signsOf at ht
  cases h : Lx.signOf Lx.signs (s.data.toList.drop a) with
  | none =>
    rw [h] at hb ht
    rw [show (bb s a).toList.isEmpty = true from by rw [Lib.toList_data, hb]; rfl]
    exact AtIs.none_ _ _ _ _ ht
  | some t =>
    rw [h] at hb ht
    have hp := signs_pos t (List.mem_of_find?_eq_some h)
    rw [show (bb s a).toList.isEmpty = false from by rw [Lib.toList_data, hb]; cases t <;> simp at hp ⊢]
    exact AtIs.some_ _ _ _ (by rw [ht, hb]; rfl) rfl
theorem AtIs.num {s : ByteArray} {a m : Nat} (ham : a + m ≤ s.size) (ht : Lx.tok (s.data.toList.drop a) = numOf (s.extract a (a + m)).data.toList) :
    AtIs s a (.returned (.tuple #[.agg #[.int .u8 3, .string (s.extract a (a + m)), .int .i64 a], .int .i64 ((a + m : Nat) : Int), .bool (decide (0 ≤ numV (s.extract a (a + m)).data.toList))])) := by
  unfold numOf at ht
  unfold numV
  cases h : Lx.numOk (s.extract a (a + m)).data.toList
  · rw [h] at ht
    exact AtIs.none_ _ _ _ _ ht
  · rw [h] at ht
    rw [if_pos rfl, show decide ((0 : Int) ≤ (Lx.val 0 (s.extract a (a + m)).data.toList : Int)) = true from by simp]
    exact AtIs.some_ _ _ _ ht (by simp; omega)
theorem AtIs.word {s : ByteArray} {a m : Nat} (ham : a + m ≤ s.size) (ht : Lx.tok (s.data.toList.drop a) = wordOf (s.extract a (a + m)).data.toList) (h : Lx.keywords.contains (s.extract a (a + m)).data.toList = true) :
    AtIs s a (.returned (.tuple #[.agg #[.int .u8 1, .string (s.extract a (a + m)), .int .i64 a], .int .i64 ((a + m : Nat) : Int), .bool true])) :=
  AtIs.some_ _ _ _ (by rw [ht, wordOf_key h]) (by simp; omega)
theorem AtIs.name {s : ByteArray} {a m : Nat} (ham : a + m ≤ s.size) (ht : Lx.tok (s.data.toList.drop a) = wordOf (s.extract a (a + m)).data.toList) (h : Lx.keywords.contains (s.extract a (a + m)).data.toList = false) :
    AtIs s a (.returned (.tuple #[.agg #[.int .u8 2, .string (s.extract a (a + m)), .int .i64 a], .int .i64 ((a + m : Nat) : Int), .bool (decide ((s.extract a (a + m)).size ≤ 12))])) := by
  have hsz := Lib.size_eq (s.extract a (a + m))
  by_cases h12 : (s.extract a (a + m)).size ≤ 12
  · rw [show decide ((s.extract a (a + m)).size ≤ 12) = true from by simpa using h12]
    exact AtIs.some_ _ _ _ (by rw [ht, wordOf_name h (by omega)]) (by simp; omega)
  · rw [show decide ((s.extract a (a + m)).size ≤ 12) = false from by simpa using h12]
    exact AtIs.none_ _ _ _ _ (by rw [ht, wordOf_long h (by omega)])

end Go.Proofs.YtkhgmoljhehbnaaGreatDoor
