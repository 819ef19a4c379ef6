/- The walk of the reference's Lines. -/
import Derived.Test.YtkhgmoljhehbnaaGreatDoorD1
import Derived.Test.YtkhgmoljhehbnaaGreatDoorR6
namespace Go.Proofs.YtkhgmoljhehbnaaGreatDoor
open Go.RowKit

/-- a list of strings of the call's own -/
abbrev OwnStrs (w : World) (base : Nat) (A : Option Addr) (cap : Nat) (ls : List ByteArray) : Prop := w.ownsRow base 9 1 (.slice A ls.length cap) ls.length (ls.map Value.string)

theorem string_info : (Tryz.prog.info? 9).map (fun i => (i.zero, i.size, i.bytes)) = some (some (.string ⟨#[]⟩), 1, 16) := by kernel_rfl

theorem ownStrs_empty (w : World) (base : Nat) (h : base ≤ w.heap.size) : OwnStrs (w.alloc (.cells #[] 9)) base (some ⟨w.heap.size, 0, none⟩) 0 [] := by
  have := World.ownsRow_made (base := base) (e := 9) (size := 1) w #[] 0 h (by simp [maxLen]) (by simp)
  simpa [OwnStrs] using this

/-- append of one string, at the operation -/
theorem wpList_append_str (w : World) {ops : Array Oper} {rest : List Oper} {o : Oper} {a : Act} {Q : Exit → Act → World → Prop} (hgd : o.guard = none) (x y : Operand)
    (ho : o.op = .call { callee := .builtin .append, args := #[x, y], argTypes := #[49, 49] }) (base : Nat) (A : Option Addr) (cap : Nat) (ls : List ByteArray) (b : Nat) (t : ByteArray)
    (hx : a.eval x = .slice A ls.length cap) (hy : a.eval y = .slice (some ⟨b, 0, none⟩) 1 1) (hown : OwnStrs w base A cap ls) (h0 : w.cell? ⟨b, 0, none⟩ = some (.string t)) (hts : ls.length ≤ 10000000) (hbase : base ≤ w.heap.size)
    (h : ∀ A' cap' w', OwnStrs w' base A' cap' (ls ++ [t]) → w.grownBy w' (Value.slice A ls.length cap).ownBlock → wpList Tryz.prog ops Q rest (a.put o.dst (.slice A' (ls.length + 1) cap')) w') : wpList Tryz.prog ops Q (o :: rest) a w := by
  obtain ⟨i0, hi0, hz0, hz1, hz2⟩ := info_parts string_info
  refine wpList_append_own w hgd x y 49 ho base 9 i0 _ 1 16 Tryz.underlying49 hi0 hz0 hz1 hz2 rfl (by decide) _ ls.length (ls.map Value.string) hx hown ⟨b, 0, none⟩ 1 1 [.string t] hy rfl ?_ ?_ (by simp only [maxLen]; omega) (by omega) hbase ?_
  · intro k u hk
    match k, hk with
    | 0, hk => simp at hk; subst hk; simpa [Addr.add] using h0
  · intro u hu; simp at hu; subst hu; rfl
  · intro v' w' h2 h3 _
    obtain ⟨g, cap', hv, _, _⟩ := h2.form (by omega)
    subst hv
    refine h _ cap' w' ?_ h3
    unfold OwnStrs
    rw [List.map_append, List.length_append, List.length_singleton]
    exact h2

/-- where the loop of Lines stands -/
def LnAt (s : ByteArray) (ls : List ByteArray) (fr k : Nat) : Prop := ls.map (·.data.toList) ++ Lx.linesG ((s.data.toList.drop fr).take (k - fr)) (s.data.toList.drop k) = Lx.linesG [] s.data.toList

theorem LnAt.start (s : ByteArray) : LnAt s [] 0 0 := by simp [LnAt]
theorem LnAt.feed {s : ByteArray} {ls : List ByteArray} {fr k : Nat} (h : LnAt s ls fr k) (hf : fr ≤ k) (hk : k < s.size) (hc : s[k] = 10) : LnAt s (ls ++ [s.extract fr k]) (k + 1) (k + 1) := by
  unfold LnAt at h ⊢
  rw [← h, drop_at s k hk, Lx.linesG, if_pos hc]
  have e : (s.extract fr k).data.toList = (s.data.toList.drop fr).take (k - fr) := by
    obtain ⟨m, rfl⟩ : ∃ m, k = fr + m := ⟨k - fr, by omega⟩
    rw [extract_take, Nat.add_sub_cancel_left]
  rw [List.map_append, List.map_singleton, e, Nat.sub_self, List.take_zero, List.append_assoc]
  rfl
theorem LnAt.miss {s : ByteArray} {ls : List ByteArray} {fr k : Nat} (h : LnAt s ls fr k) (hf : fr ≤ k) (hk : k < s.size) (hc : s[k] ≠ 10) : LnAt s ls fr (k + 1) := by
  unfold LnAt at h ⊢
  rw [← h, drop_at s k hk, Lx.linesG, if_neg hc]
  congr 2
  obtain ⟨m, rfl⟩ : ∃ m, k = fr + m := ⟨k - fr, by omega⟩
  rw [Nat.add_sub_cancel_left, show fr + m + 1 - fr = m + 1 by omega, List.take_add_one, drop_get s fr m hk]
  rfl
theorem LnAt.stop {s : ByteArray} {ls : List ByteArray} {fr : Nat} (h : LnAt s ls fr s.size) (hf : fr ≤ s.size) : (ls ++ [s.extract fr s.size]).map (·.data.toList) = Lx.linesG [] s.data.toList := by
  unfold LnAt at h
  have hd : s.data.toList.drop s.size = [] := List.drop_eq_nil_of_le (by rw [← Lib.size_eq]; exact Nat.le_refl _)
  rw [← h, hd, Lx.linesG]
  have e : (s.extract fr s.size).data.toList = (s.data.toList.drop fr).take (s.size - fr) := by
    have := extract_take s fr (s.size - fr)
    rwa [show fr + (s.size - fr) = s.size by omega] at this
  simp

end Go.Proofs.YtkhgmoljhehbnaaGreatDoor
