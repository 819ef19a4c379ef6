/- The walk of the reference's Lines. -/
import Derived.Test.YtkhgmoljhehbnaaDoorD1
import Derived.Test.YtkhgmoljhehbnaaDoorR6
namespace Go.Proofs.YtkhgmoljhehbnaaDoor
open Go.RowKit

/-- a list of strings of the call's own -/
abbrev OwnStrs (w : World) (base : Nat) (A : Option Addr) (cap : Nat) (ls : List ByteArray) : Prop := w.ownsRow base 9 1 (.slice A ls.length cap) ls.length (ls.map Value.string)

theorem string_info : (Tryd.prog.info? 9).map (fun i => (i.zero, i.size, i.bytes)) = some (some (.string ⟨#[]⟩), 1, 16) := by kernel_rfl

theorem ownStrs_empty (w : World) (base : Nat) (h : base ≤ w.heap.size) : OwnStrs (w.alloc (.cells #[] 9)) base (some ⟨w.heap.size, 0, none⟩) 0 [] := by
  have := World.ownsRow_made (base := base) (e := 9) (size := 1) w #[] 0 h (by simp [maxLen]) (by simp)
  simpa [OwnStrs] using this

/-- append of one string, at the operation -/
theorem wpList_append_str (w : World) {ops : Array Oper} {rest : List Oper} {o : Oper} {a : Act} {Q : Exit → Act → World → Prop} (hgd : o.guard = none) (x y : Operand)
    (ho : o.op = .call { callee := .builtin .append, args := #[x, y], argTypes := #[26, 26] }) (base : Nat) (A : Option Addr) (cap : Nat) (ls : List ByteArray) (b : Nat) (t : ByteArray)
    (hx : a.eval x = .slice A ls.length cap) (hy : a.eval y = .slice (some ⟨b, 0, none⟩) 1 1) (hown : OwnStrs w base A cap ls) (h0 : w.cell? ⟨b, 0, none⟩ = some (.string t)) (hts : ls.length ≤ 10000000) (hbase : base ≤ w.heap.size)
    (h : ∀ A' cap' w', OwnStrs w' base A' cap' (ls ++ [t]) → w.grownBy w' (Value.slice A ls.length cap).ownBlock → wpList Tryd.prog ops Q rest (a.put o.dst (.slice A' (ls.length + 1) cap')) w') : wpList Tryd.prog ops Q (o :: rest) a w := by
  obtain ⟨i0, hi0, hz0, hz1, hz2⟩ := info_parts string_info
  refine wpList_append_own w hgd x y 26 ho base 9 i0 _ 1 16 Tryd.underlying26 hi0 hz0 hz1 hz2 rfl (by decide) _ ls.length (ls.map Value.string) hx hown ⟨b, 0, none⟩ 1 1 [.string t] hy rfl ?_ ?_ (by simp only [maxLen]; omega) (by omega) hbase ?_
  · intro k u hk
    match k, hk with
    | 0, hk => simp at hk; subst hk; simpa [Addr.add] using h0
  · intro u hu; simp at hu; subst hu; rfl
  · intro v' w' h2 h3 _
    obtain ⟨g, cap', hv, _, _⟩ := h2.form (by omega)
    subst hv
    refine h _ cap' w' ?_ h3
    unfold OwnStrs
    rw [List.map_append, List.length_append, List.length_singleton]
    exact h2

/-- where the loop of Lines stands -/
def LnAt (s : ByteArray) (ls : List ByteArray) (fr k : Nat) : Prop := ls.map (·.data.toList) ++ Lx.linesG ((s.data.toList.drop fr).take (k - fr)) (s.data.toList.drop k) = Lx.linesG [] s.data.toList

theorem LnAt.start (s : ByteArray) : LnAt s [] 0 0 := by simp [LnAt]
theorem LnAt.feed {s : ByteArray} {ls : List ByteArray} {fr k : Nat} (h : LnAt s ls fr k) (hf : fr ≤ k) (hk : k < s.size) (hc : s[k] = 10) : LnAt s (ls ++ [s.extract fr k]) (k + 1) (k + 1) := by
  unfold LnAt at h ⊢
  rw [← h, drop_at s k hk, Lx.linesG, if_pos hc]
  have e : (s.extract fr k).data.toList = (s.data.toList.drop fr).take (k - fr) := by
    obtain ⟨m, rfl⟩ : ∃ m, k = fr + m := ⟨k - fr, by omega⟩
    rw [extract_take, Nat.add_sub_cancel_left]
  rw [List.map_append, List.map_singleton, e, Nat.sub_self, List.take_zero, List.append_assoc]
  rfl
theorem LnAt.miss {s : ByteArray} {ls : List ByteArray} {fr k : Nat} (h : LnAt s ls fr k) (hf : fr ≤ k) (hk : k < s.size) (hc : s[k] ≠ 10) : LnAt s ls fr (k + 1) := by
  unfold LnAt at h ⊢
  rw [← h, drop_at s k hk, Lx.linesG, if_neg hc]
  congr 2
  obtain ⟨m, rfl⟩ : ∃ m, k = fr + m := ⟨k - fr, by omega⟩
  rw [Nat.add_sub_cancel_left, show fr + m + 1 - fr = m + 1 by omega, List.take_add_one, drop_get s fr m hk]
  rfl
theorem LnAt.stop {s : ByteArray} {ls : List ByteArray} {fr : Nat} (h : LnAt s ls fr s.size) (hf : fr ≤ s.size) : (ls ++ [s.extract fr s.size]).map (·.data.toList) = Lx.linesG [] s.data.toList := by
  unfold LnAt at h
  have hd : s.data.toList.drop s.size = [] := List.drop_eq_nil_of_le (by rw [← Lib.size_eq]; exact Nat.le_refl _)
  rw [← h, hd, Lx.linesG]
  have e : (s.extract fr s.size).data.toList = (s.data.toList.drop fr).take (s.size - fr) := by
    have := extract_take s fr (s.size - fr)
    rwa [show fr + (s.size - fr) = s.size by omega] at this
  simp

set_option maxRecDepth 100000 in
set_option maxHeartbeats 2000000 in
theorem refLines_any (s : ByteArray) (hs : s.size ≤ 2500) (w : World) :
    Calls Tryd.prog 18 #[.string s] w fun e w' => (∃ A cap ls, e = .returned (.slice A ls.length cap) ∧ OwnStrs w' w.heap.size A cap ls ∧ ls.map (·.data.toList) = Lx.linesG [] s.data.toList) ∧ Below w.heap.size w w' := by
  have hst := LnAt.start s
  have H0 := Lib.hid hst
  clear hst
  go_enter Tryd.func18, Tryd.ntmps18
  go_wp2_with fail
  go_loopw [3, 4, 5] (fun o f i wr => ∃ (fr k : Nat) (ls : List ByteArray) (A : Option Addr) (cap : Nat), fr ≤ k ∧ k ≤ s.size ∧ ls.length ≤ k ∧ f = .int .i64 fr ∧ i = .int .i64 k ∧ o = .slice A ls.length cap ∧ OwnStrs wr w.heap.size A cap ls ∧ Hid (LnAt s ls fr k) ∧ Below w.heap.size w wr) (fun _ _ i _ => s.size - (intOf i).toNat)
  case atStart => exact ⟨0, 0, [], _, 0, Nat.le_refl _, Nat.zero_le _, Nat.le_refl _, rfl, rfl, rfl, ownStrs_empty w _ (Nat.le_refl _), H0, (Below.refl _ _).alloc (Nat.le_refl _) _⟩
  case round =>
    obtain ⟨fr, k, ls, A, cap, hfk, hk, hll, rfl, rfl, rfl, hown, HL, hbw⟩ := hrel
    have hzw := hbw.size
    have hf0 : (0 : Int) ≤ fr := by omega
    have hfk' : (fr : Int) ≤ k := by omega
    have hk' : (k : Int) ≤ s.size := by omega
    have hfs' : (fr : Int) ≤ s.size := by omega
    by_cases hlt : k < s.size
    · have hlt' : (k : Int) < s.size := by omega
      have HA := Lib.hid (bytes_at s k hlt)
      by_cases h10 : (s[k].toNat : Int) = 10
      · have b1 : ((s[k].toNat : Int) == 10) = true := by simp [h10]
        have H10 : Hid (s[k] = 10) := by
          show _ = _
          exact UInt8.toNat_inj.1 (by rw [show (10 : UInt8).toNat = 10 from rfl]; omega)
        have HN := Lib.hid (HL.out.feed hfk hlt H10.out)
        clear h10
        go_wp2_with (at_builtin; refine wpList_append_str _ rfl _ _ rfl w.heap.size A cap ls wr.heap.size (s.extract fr k) rfl rfl (hown.alloc _) (by simp) (by omega) (by simp; omega) ?_; intro A' cap' w2 hown2 hgrow2)
        go_roundw
        case rel =>
          refine ⟨k + 1, k + 1, ls ++ [s.extract fr k], A', cap', Nat.le_refl _, by omega, by simp; omega, by go_num, by go_num, by simp, hown2, HN, ?_⟩
          refine (hbw.alloc hzw _).grown hgrow2 (by simp; omega) (fun j hj => ?_)
          exact (hown.lt j hj).1
        case measure => simp [intOf]; omega
      · have b1 : ((s[k].toNat : Int) == 10) = false := by simp [h10]
        have H10 : Hid (s[k] ≠ 10) := by
          show _ ≠ _
          intro e; rw [e] at h10; exact h10 rfl
        have HN := Lib.hid (HL.out.miss hfk hlt H10.out)
        clear h10
        go_wp2
        go_roundw
        case rel => exact ⟨fr, k + 1, ls, A, cap, by omega, by omega, by omega, rfl, by go_num, rfl, hown, HN, hbw⟩
        case measure => simp [intOf]; omega
    · have hks : k = s.size := by omega
      subst hks
      have HN := Lib.hid (HL.out.stop hfk)
      go_wp2_with (at_builtin; refine wpList_append_str _ rfl _ _ rfl w.heap.size A cap ls wr.heap.size (s.extract fr s.size) rfl rfl (hown.alloc _) (by simp) (by omega) (by simp; omega) ?_; intro A' cap' w2 hown2 hgrow2)
      go_ret
      refine ⟨⟨A', cap', ls ++ [s.extract fr s.size], by simp, hown2, HN.out⟩, ?_⟩
      refine (hbw.alloc hzw _).grown hgrow2 (by simp; omega) (fun j hj => ?_)
      exact (hown.lt j hj).1

end Go.Proofs.YtkhgmoljhehbnaaDoor
