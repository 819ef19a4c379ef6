/- The walks of lex.Place and lex.Offset where something is refused, and all that they answer. -/
import Derived.Test.YtkhgmoljhehbnaaGreatDoorV2
namespace Go.Proofs.YtkhgmoljhehbnaaGreatDoor
open Go.RowKit

theorem check_cases_v (l : Lx.B) : Lx.check l = (0, 0) ∨ ∃ k er, Lx.check l = (k, er) ∧ er ≠ 0 := by
  unfold Lx.check
  split
  · exact .inr ⟨_, _, rfl, by decide⟩
  · split
    · exact .inr ⟨_, _, rfl, by decide⟩
    · exact .inl rfl

set_option maxHeartbeats 1000000 in
theorem place_bad (s : ByteArray) (hs : s.size ≤ maxLen) (k er : Nat) (h : Lx.check s.data.toList = (k, er)) (h0 : er ≠ 0) (p : Int) (w : World) :
    Calls Tryz.prog 5 #[.string s, .int .i64 p] w fun e w' => e = .returned (.tuple #[.int .i64 0, .int .i64 0, .int .i64 er]) ∧ Below w.heap.size w w' := by
  have herb : ((er : Int) == 0) = false := by rw [beq_eq_false_iff_ne]; omega
  have herb2 : ((er : Int) != 0) = true := by rw [bne, herb]; rfl
  have hc := check_any s hs w
  rw [h] at hc
  unfold chkV at hc
  have HC := Lib.hid hc
  clear hc h
  go_enter Tryz.func5, Tryz.ntmps5
  go_wp2_with fail
  refine HC.out.mono ?_
  rintro e w1 ⟨rfl, hb1⟩
  go_wp2
  go_ret3
  exact ⟨rfl, hb1⟩

set_option maxHeartbeats 1000000 in
theorem place_out (s : ByteArray) (hs : s.size ≤ 2500) (h : Lx.check s.data.toList = (0, 0)) (p : Int) (hp : p < 0 ∨ (s.size : Int) < p) (w : World) :
    Calls Tryz.prog 5 #[.string s, .int .i64 p] w fun e w' => e = .returned (.tuple #[.int .i64 0, .int .i64 0, .int .i64 3]) ∧ Below w.heap.size w w' := by
  have hc := check_any s (by unfold maxLen; omega) w
  rw [h] at hc
  unfold chkV at hc
  have HC := Lib.hid hc
  clear hc h
  by_cases hp0 : p < 0
  all_goals
    first
    | (have hpx : p < 0 := hp0; clear hp)
    | (have hpx : (s.size : Int) < p := by rcases hp with h | h; exact absurd h hp0; exact h
       clear hp)
    go_enter Tryz.func5, Tryz.ntmps5
    go_wp2_with fail
    refine HC.out.mono ?_
    rintro e w1 ⟨rfl, hb1⟩
    go_wp2
    go_ret3
    exact ⟨rfl, hb1⟩

set_option maxHeartbeats 1000000 in
theorem offset_bad (s : ByteArray) (hs : s.size ≤ maxLen) (k er : Nat) (h : Lx.check s.data.toList = (k, er)) (h0 : er ≠ 0) (line col : Int) (w : World) :
    Calls Tryz.prog 6 #[.string s, .int .i64 line, .int .i64 col] w fun e w' => e = .returned (.tuple #[.int .i64 0, .int .i64 er]) ∧ Below w.heap.size w w' := by
  have herb : ((er : Int) == 0) = false := by rw [beq_eq_false_iff_ne]; omega
  have herb2 : ((er : Int) != 0) = true := by rw [bne, herb]; rfl
  have HC := Lib.hid (lexLines_bad s hs k er h h0 w)
  clear h
  go_enter Tryz.func6, Tryz.ntmps6
  go_wp2_with fail
  refine HC.out.mono ?_
  rintro e w1 ⟨rfl, hb1⟩
  go_wp2
  go_ret2
  exact ⟨rfl, hb1⟩

set_option maxHeartbeats 1000000 in
theorem offset_out (s : ByteArray) (hs : s.size ≤ 2500) (h : Lx.check s.data.toList = (0, 0)) (line col : Int) (hx : line < 1 ∨ ((Lx.linesG [] s.data.toList).length : Int) < line ∨ ∃ (n : Nat) (x : Lx.B), line = ((n + 1 : Nat) : Int) ∧ (Lx.linesG [] s.data.toList)[n]? = some x ∧ (col < 1 ∨ (x.length : Int) + 1 < col)) (w : World) (hm : Mx w) :
    Calls Tryz.prog 6 #[.string s, .int .i64 line, .int .i64 col] w fun e w' => e = .returned (.tuple #[.int .i64 0, .int .i64 3]) ∧ Below w.heap.size w w' := by
  have hll := Lx.linesG_len s.data.toList []
  rw [← Lib.size_eq] at hll
  have hle := Lx.line_le s.data.toList
  have HC := Lib.hid (lexLines_ok s (by unfold maxLen; omega) (by rw [h]) w hm)
  clear h
  go_enter Tryz.func6, Tryz.ntmps6
  go_wp2_with fail
  refine HC.out.mono ?_
  rintro e w1 ⟨⟨b, ls, rfl, hls, hin⟩, hb1⟩
  rw [← hls, List.length_map] at hll hx
  rw [← hls] at hle
  by_cases h1 : line < 1
  · clear hx hle hin hls
    go_wp2
    go_ret2
    exact ⟨rfl, hb1⟩
  · by_cases h2 : (ls.length : Int) < line
    · clear hx hle hin hls
      go_wp2
      go_ret2
      exact ⟨rfl, hb1⟩
    · obtain ⟨n, x, hn, hxn, hc⟩ : ∃ (n : Nat) (x : Lx.B), line = ((n + 1 : Nat) : Int) ∧ (ls.map (·.data.toList))[n]? = some x ∧ (col < 1 ∨ (x.length : Int) + 1 < col) := by
        rcases hx with h | h | h
        · exact absurd h h1
        · exact absurd h h2
        · exact h
      have hxl := hle n x hxn
      rw [← Lib.size_eq] at hxl
      rw [List.getElem?_map] at hxn
      obtain ⟨y, hy, hye⟩ := Option.map_eq_some_iff.1 hxn
      have hyl : x.length = y.size := by rw [← hye]; exact (Lib.size_eq y).symm
      rw [hyl] at hc hxl
      have c0 := hin n y hy
      have hw1 : IntKind.i64.wrap (line - 1) = (n : Int) := by rw [IntKind.wrap_i64]; omega
      have hd1 : line - 1 = (n : Int) := by omega
      have hw0 : IntKind.i64.wrap (n : Int) = (n : Int) := by rw [IntKind.wrap_i64]; omega
      have hn0 : (0 : Int) ≤ n := by omega
      have hn1 : (n : Int) < ls.length := by omega
      have hw3 : IntKind.i64.wrap ((y.size : Int) + 1) = (y.size : Int) + 1 := by rw [IntKind.wrap_i64]; omega
      clear hx hle hin hls hxn hy hye hn
      by_cases h3 : col < 1
      · clear hc
        go_wp2
        go_ret2
        exact ⟨rfl, hb1⟩
      · have h4 : (y.size : Int) + 1 < col := by rcases hc with h | h; exact absurd h h3; exact h
        clear hc
        go_wp2
        go_ret2
        exact ⟨rfl, hb1⟩

end Go.Proofs.YtkhgmoljhehbnaaGreatDoor
