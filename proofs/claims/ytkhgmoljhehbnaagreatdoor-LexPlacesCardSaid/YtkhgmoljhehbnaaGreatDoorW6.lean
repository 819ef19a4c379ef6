/- The walks of (vocabulary).word, (vocabulary).sign with its closure, slices.IndexFunc at strings. -/
import Derived.Test.YtkhgmoljhehbnaaGreatDoorW5
namespace Go.Proofs.YtkhgmoljhehbnaaGreatDoor
open Go.RowKit

theorem sv_data (t : ByteArray) : sv t.data.toList = .string t := by simp [sv]

/-- what first, word, number and sign give: a token and whether there is one -/
def optV : Option (Nat × Lx.B) → Value
  | some (k, l) => .tuple #[.agg #[.int .u8 k, sv l, .int .i64 0], .bool true]
  | none => .tuple #[.agg #[.int .u8 0, .string ⟨#[]⟩, .int .i64 0], .bool false]

def wordOf (l : Lx.B) : Option (Nat × Lx.B) := if Lx.keywords.contains l then some (1, l) else if 12 < l.length then none else some (2, l)

theorem wordOf_key {l : Lx.B} (h : Lx.keywords.contains l = true) : wordOf l = some (1, l) := by unfold wordOf; rw [if_pos h]
theorem wordOf_long {l : Lx.B} (h : Lx.keywords.contains l = false) (h2 : 12 < l.length) : wordOf l = none := by unfold wordOf; rw [if_neg (by rw [h]; exact Bool.false_ne_true), if_pos h2]
theorem wordOf_name {l : Lx.B} (h : Lx.keywords.contains l = false) (h2 : ¬ 12 < l.length) : wordOf l = some (2, l) := by unfold wordOf; rw [if_neg (by rw [h]; exact Bool.false_ne_true), if_neg h2]

set_option maxHeartbeats 1000000 in
theorem word_any (t : ByteArray) (ht : t.size ≤ maxLen) (bm bs : Nat) (w : World) (hv : Voc w bm bs) :
    Calls Tryz.prog 61 #[vocV bm bs, .string t] w fun e w' => e = .returned (optV (wordOf t.data.toList)) ∧ Below w.heap.size w w' := by
  have hlook := ((hv.alloc (.cells #[.map (some bm), .slice (some ⟨bs, 0, none⟩) 26 26] 58)).alloc (.cells #[.int .u8 0, .string ⟨#[]⟩, .int .i64 0] 44)).look t ht
  have hsz := Lib.size_eq t
  have h1 := @wordOf_key t.data.toList
  have h2 := @wordOf_long t.data.toList
  have h3 := @wordOf_name t.data.toList
  have hb : Below w.heap.size w ((w.alloc (.cells #[.map (some bm), .slice (some ⟨bs, 0, none⟩) 26 26] 58)).alloc (.cells #[.int .u8 0, .string ⟨#[]⟩, .int .i64 0] 44)) := ((Below.refl _ _).alloc (Nat.le_refl _) _).alloc (by simp) _
  rw [← hsz] at h2 h3
  generalize Lx.keywords.contains t.data.toList = q at hlook h1 h2 h3
  have hs2 := sv_data t
  have HS := Lib.hid hs2
  unfold vocV
  unfold maxLen at ht
  clear hsz hv hs2
  cases q
  · clear h1
    by_cases hl : 12 < t.size
    · have HW := Lib.hid (h2 rfl hl)
      have hl' : (12 : Int) < t.size := by omega
      clear h2 h3
      go_enter Tryz.func61, Tryz.ntmps61
      go_wp2
      refine bodyPost_ret (v := optV none) (by simp [results, Tryz.results61, go_sem, optV]) rfl ⟨by rw [HW.out], ?_⟩
      exact ((Below.refl _ _).alloc (Nat.le_refl _) _).alloc (by simp) _
    · have HW := Lib.hid (h3 rfl hl)
      have hl' : ¬ (12 : Int) < t.size := by omega
      clear h2 h3
      go_enter Tryz.func61, Tryz.ntmps61
      go_wp2
      refine bodyPost_ret (v := .tuple #[.agg #[.int .u8 2, .string t, .int .i64 0], .bool true]) (by simp [results, Tryz.results61, go_sem]) rfl ⟨by rw [HW.out]; simp only [optV, HS.out]; rfl, ?_⟩
      exact ((Below.refl _ _).alloc (Nat.le_refl _) _).alloc (by simp) _
  · have HW := Lib.hid (h1 rfl)
    clear h1 h2 h3
    go_enter Tryz.func61, Tryz.ntmps61
    go_wp2
    refine bodyPost_ret (v := .tuple #[.agg #[.int .u8 1, .string t, .int .i64 0], .bool true]) (by simp [results, Tryz.results61, go_sem]) rfl ⟨by rw [HW.out]; simp only [optV, HS.out]; rfl, ?_⟩
    exact ((Below.refl _ _).alloc (Nat.le_refl _) _).alloc (by simp) _

theorem hasPrefix_eq (s p : ByteArray) : ((s.extract 0 p.size).toList == p.toList) = Lx.hasPrefix s.data.toList p.data.toList := by
  unfold Lx.hasPrefix
  rw [Lib.extract_toList, Lib.toList_data, ← Lib.size_eq p]
  rfl

set_option maxHeartbeats 1000000 in
theorem hasPrefix_any (s p : ByteArray) (hs : s.size ≤ maxLen) (_hp : p.size ≤ 100) (w : World) :
    Calls Tryz.prog 73 #[.string s, .string p] w fun e w' => e = .returned (.bool (Lx.hasPrefix s.data.toList p.data.toList)) ∧ w = w' := by
  have hm : (s.size : Int) ≤ 9223372036854775807 := by unfold maxLen at hs; omega
  by_cases h : p.size ≤ s.size
  · have he := hasPrefix_eq s p
    have hi : (p.size : Int) ≤ s.size := by omega
    generalize Lx.hasPrefix s.data.toList p.data.toList = q at he ⊢
    have HE := Lib.hid he
    clear he
    go_enter Tryz.func73, Tryz.ntmps73
    go_wp2
    go_ret
    exact ⟨by rw [← HE.out]; rfl, rfl⟩
  · have hi : ¬ (p.size : Int) ≤ s.size := by omega
    have he : Lx.hasPrefix s.data.toList p.data.toList = false := by
      unfold Lx.hasPrefix
      rw [beq_eq_false_iff_ne]
      intro e
      have := congrArg List.length e
      rw [List.length_take, ← Lib.size_eq, ← Lib.size_eq] at this
      omega
    rw [he]
    clear he
    go_enter Tryz.func73, Tryz.ntmps73
    go_wp2
    go_ret
    exact ⟨rfl, rfl⟩

end Go.Proofs.YtkhgmoljhehbnaaGreatDoor
