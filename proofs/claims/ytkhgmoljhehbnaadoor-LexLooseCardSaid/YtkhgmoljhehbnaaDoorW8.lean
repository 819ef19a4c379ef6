/- The walk of lex.number, over what the library's variables hold. -/
import Derived.Test.YtkhgmoljhehbnaaDoorW7
import Derived.Test.YtkhgmoljhehbnaaDoorNum
import Derived.Test.YtkhgmoljhehbnaaDoorShelf
import Derived.Lib.AppendIntMem
import Derived.WalkSmall
import Derived.BigQuiet
import Derived.Deep.QuietTactic
import Derived.Deep.RegionWith
namespace Go.Proofs.YtkhgmoljhehbnaaDoor
open Go.RowKit

/-- what the library's variables hold -/
structure Env (w : World) : Prop where
  rng : ∃ tp p, w.var? Tryd.prog "strconv.ErrRange" = some #[.iface tp p]
  tab : Lib.TabIs Tryd.prog w "internal/strconv.uint64pow10" .u64 Lib.pow10Tab
  lt : 8 ≤ w.heap.size

theorem g_rng : Tryd.prog.globalNamed "strconv.ErrRange" = some 4 := by kernel_rfl
theorem g_tab : Tryd.prog.globalNamed "internal/strconv.uint64pow10" = some 5 := by kernel_rfl

theorem Env.below {B : Nat} {w w' : World} (h : Env w) (hb : Below B w w') (hB : 8 ≤ B) : Env w' := by
  obtain ⟨⟨tp, p, h1⟩, h2, h3⟩ := h
  exact ⟨⟨tp, p, var?_below hb g_rng (by omega) h1⟩, var?_below hb g_tab (by omega) h2, Nat.le_trans h3 hb.size⟩
theorem Env.alloc {w : World} (h : Env w) (o : Obj) : Env (w.alloc o) := h.below ((Below.refl 8 _).alloc h.lt o) (Nat.le_refl _)

def numOf (l : Lx.B) : Option (Nat × Lx.B) := if Lx.numOk l then some (3, l) else none

theorem itoa_any (n : Nat) (hn : n ≤ 1000000000) (w : World) (he : Env w) :
    Calls Tryd.prog 98 #[.int .i64 n] w fun e w' => e = .returned (sv (Lib.itoa n)) ∧ Below w.heap.size w w' :=
  (Tryd.strconv_Itoa n (by omega) (by omega) w he.tab).mono fun _ _ ⟨h1, k, os, h2⟩ => ⟨h1, h2 ▸ Lib.below_grow _ _ (Nat.le_refl _) _ _⟩

theorem atoi_any (t : ByteArray) (hs : t.size ≤ 281474976710656) (n : Nat) (h : Lib.atoiAll t.data.toList = .ok (n : Int)) (w : World) :
    Calls Tryd.prog 97 #[.string t] w fun e w' => e = .returned (.tuple #[.int .i64 n, .nilIface]) ∧ Below w.heap.size w w' :=
  (Tryd.strconv_Atoi_ok t (by omega) n h w).mono fun _ _ ⟨h1, h2⟩ => ⟨h1, by
    rcases h2 with rfl | ⟨t, rfl⟩
    · exact Below.refl _ _
    · exact Lib.bytesWorld_below _ _ _⟩

theorem atoi_big (t : ByteArray) (hs : t.size ≤ 281474976710656) (h : Lib.atoiAll t.data.toList = .range) (w : World) (he : Env w) :
    Calls Tryd.prog 97 #[.string t] w fun e w' => ∃ N, e = .returned (.tuple #[.int .i64 (Lib.atoiSat t.data.toList), .iface 138 (.pointer (some ⟨N, 0, none⟩))]) ∧ Below w.heap.size w w' := by
  obtain ⟨tp, p, h1⟩ := he.rng
  exact (Tryd.strconv_Atoi_range_var t hs h tp p w h1).mono fun _ _ ⟨N, h1, _, _, h2⟩ => ⟨N, h1, h2⟩

/-- the result variable of a token, before it is written -/
abbrev lexZero : Obj := .cells #[.int .u8 0, .string ⟨#[]⟩, .int .i64 0] 47

theorem zero_cells {w w1 : World} (hb : Below (w.alloc lexZero).heap.size (w.alloc lexZero) w1) :
    w1.cell? ⟨w.heap.size, 0, none⟩ = some (.int .u8 0) ∧ w1.cell? ⟨w.heap.size, 1, none⟩ = some (.string ⟨#[]⟩) ∧ w1.cell? ⟨w.heap.size, 2, none⟩ = some (.int .i64 0) ∧ Below w.heap.size w w1 := by
  obtain ⟨hc, _⟩ := bcell hb
  refine ⟨by rw [hc _ _ (by simp)]; simp, by rw [hc _ _ (by simp)]; simp, by rw [hc _ _ (by simp)]; simp, ?_⟩
  exact ((Below.refl _ w).alloc (Nat.le_refl _) _).trans (hb.mono (by simp))

set_option maxHeartbeats 1000000 in
theorem number_big (t : ByteArray) (hs : t.size ≤ 281474976710656) (h : Lib.atoiAll t.data.toList = .range) (w : World) (he : Env w) :
    Calls Tryd.prog 82 #[.string t] w fun e w' => e = .returned (optV none) ∧ Below w.heap.size w w' := by
  have hcall := atoi_big t hs h (w.alloc lexZero) (he.alloc _)
  clear h
  go_enter Tryd.func82, Tryd.ntmps82
  go_wp2_with (go_at_call 97; refine hcall.mono ?_; rintro e w1 ⟨N, rfl, hb⟩; obtain ⟨hc, hf⟩ := bcell hb)
  obtain ⟨c0, c1, c2, hB⟩ := zero_cells hb
  refine bodyPost_ret (v := optV none) (by simp [results, Tryd.results82, go_sem, optV, c0, c1, c2]) rfl ⟨rfl, ?_⟩
  exact ((hB.setCell (by simp) _).setCell (by simp) _).setCell (by simp) _

set_option maxHeartbeats 1000000 in
theorem number_great (t : ByteArray) (hs : t.size ≤ 281474976710656) (n : Nat) (_hn : n < 9223372036854775808) (h : Lib.atoiAll t.data.toList = .ok (n : Int)) (hgt : 1000000000 < n) (w : World) :
    Calls Tryd.prog 82 #[.string t] w fun e w' => e = .returned (optV none) ∧ Below w.heap.size w w' := by
  have hcall := atoi_any t hs n h (w.alloc lexZero)
  clear h
  have hgt' : (1000000000 : Int) < n := by omega
  go_enter Tryd.func82, Tryd.ntmps82
  go_wp2_with (go_at_call 97; refine hcall.mono ?_; rintro e w1 ⟨rfl, hb⟩; obtain ⟨hc, hf⟩ := bcell hb)
  obtain ⟨c0, c1, c2, hB⟩ := zero_cells hb
  refine bodyPost_ret (v := optV none) (by simp [results, Tryd.results82, go_sem, optV, c0, c1, c2]) rfl ⟨rfl, ?_⟩
  exact ((hB.setCell (by simp) _).setCell (by simp) _).setCell (by simp) _

set_option maxHeartbeats 1000000 in
theorem number_same (t : ByteArray) (hs : t.size ≤ 281474976710656) (n : Nat) (h : Lib.atoiAll t.data.toList = .ok (n : Int)) (hle : n ≤ 1000000000) (q : Bool) (hq : (Lib.itoa n == t.data.toList) = q) (w : World) (he : Env w) :
    Calls Tryd.prog 82 #[.string t] w fun e w' => e = .returned (optV (if q then some (3, t.data.toList) else none)) ∧ Below w.heap.size w w' := by
  have hcall := atoi_any t hs n h (w.alloc lexZero)
  have hcall2 := itoa_any n hle
  have he' := he.alloc lexZero
  have hq2 : (Lib.itoa n == t.toList) = q := by rw [Lib.toList_data]; exact hq
  have hs2 := sv_data t
  have HS := Lib.hid hs2
  have HE := Lib.hid he'
  clear h hq hs2 he he'
  unfold sv at hcall2
  generalize Lib.itoa n = r at hcall2 hq2
  have hgt' : ¬ (1000000000 : Int) < n := by omega
  have hgd : decide ((1000000000 : Int) < n) = false := by simpa using hgt'
  cases q
  · have hq3 : (!(r == t.toList)) = true := by rw [hq2]; rfl
    go_enter Tryd.func82, Tryd.ntmps82
    go_wp2_with (first | (go_at_call 97; refine hcall.mono ?_; rintro e w1 ⟨rfl, hb⟩; obtain ⟨hc, hf⟩ := bcell hb) | (go_at_call 98; refine (hcall2 w1 (HE.out.below hb (by have := HE.out.lt; omega))).mono ?_; rintro e w2 ⟨rfl, hb2⟩; have hb3 := hb.trans (hb2.mono hb.size); obtain ⟨hc2, hf2⟩ := bcell hb3))
    obtain ⟨c0, c1, c2, hB⟩ := zero_cells hb3
    refine bodyPost_ret (v := optV none) (by simp [results, Tryd.results82, go_sem, optV, c0, c1, c2]) rfl ⟨rfl, ?_⟩
    exact ((hB.setCell (by simp) _).setCell (by simp) _).setCell (by simp) _
  · have hq3 : (!(r == t.toList)) = false := by rw [hq2]; rfl
    go_enter Tryd.func82, Tryd.ntmps82
    go_wp2_with (first | (go_at_call 97; refine hcall.mono ?_; rintro e w1 ⟨rfl, hb⟩; obtain ⟨hc, hf⟩ := bcell hb) | (go_at_call 98; refine (hcall2 w1 (HE.out.below hb (by have := HE.out.lt; omega))).mono ?_; rintro e w2 ⟨rfl, hb2⟩; have hb3 := hb.trans (hb2.mono hb.size); obtain ⟨hc2, hf2⟩ := bcell hb3))
    obtain ⟨c0, c1, c2, hB⟩ := zero_cells hb3
    refine bodyPost_ret (v := .tuple #[.agg #[.int .u8 3, .string t, .int .i64 0], .bool true]) (by simp [results, Tryd.results82, go_sem, c0, c1, c2]) rfl ⟨by rw [← HS.out]; rfl, ?_⟩
    exact ((hB.setCell (by simp) _).setCell (by simp) _).setCell (by simp) _

theorem number_any (t : ByteArray) (hs : t.size ≤ 281474976710656) (c : UInt8) (r : Lx.B) (ht : t.data.toList = c :: r) (hd : Lx.Dig (c :: r)) (w : World) (he : Env w) :
    Calls Tryd.prog 82 #[.string t] w fun e w' => e = .returned (optV (numOf t.data.toList)) ∧ Below w.heap.size w w' := by
  have ho := Lx.numOk_iff c r hd
  unfold numOf
  by_cases h : Lx.val 0 (c :: r) < 9223372036854775808
  · have ha := Lx.atoi_ok c r hd h
    by_cases h1 : 1000000000 < Lx.val 0 (c :: r)
    · rw [ht, ho, show decide (Lx.val 0 (c :: r) ≤ 1000000000) = false from by simp; omega]
      exact number_great t hs _ h (by rw [ht]; exact ha) h1 w
    · rw [ht, ho, show decide (Lx.val 0 (c :: r) ≤ 1000000000) = true from by simp; omega, Bool.true_and, ← ht]
      exact number_same t hs _ (by rw [ht]; exact ha) (by rw [ht]; omega) _ rfl w he
  · have ha := Lx.atoi_range c r hd (by omega)
    rw [ht, ho, show decide (Lx.val 0 (c :: r) ≤ 1000000000) = false from by simp; omega]
    exact number_big t hs (by rw [ht]; exact ha) w he

end Go.Proofs.YtkhgmoljhehbnaaDoor
