/- The walks of lex.Place and lex.Offset. -/
import Derived.Test.YtkhgmoljhehbnaaGreatDoorD3
import Derived.Test.YtkhgmoljhehbnaaGreatDoorJ1
namespace Go.Proofs.YtkhgmoljhehbnaaGreatDoor
open Go.RowKit

theorem bang_get (t : ByteArray) (j : Nat) (h : j < t.size) : t.data.toList[j]? = some (t.data[j]!) := by
  have h' : j < t.data.size := h
  rw [getElem!_pos t.data j h']
  simp

theorem lastIdx_at (s : ByteArray) (a n : Nat) (x : Lx.B) (ha : a ≤ s.size) (h : Lx.PlaceOk s.data.toList a n x) : Lib.lastIndexByte (s.extract 0 a) 10 = (Lx.start (Lx.linesG [] s.data.toList) n : Int) - 1 := by
  have hsz : (s.extract 0 a).size = a := by rw [ByteArray.size_extract]; omega
  have hdat : (s.extract 0 a).data.toList = s.data.toList.take a := Lib.extract_from_zero s a
  have hget : ∀ j, j < a → s.data.toList[j]? = some ((s.extract 0 a).data[j]!) := by
    intro j hj
    have := bang_get (s.extract 0 a) j (by omega)
    rw [hdat, List.getElem?_take, if_pos hj] at this
    exact this
  have hten : ∀ v : UInt8, (v.toNat : Int) = 10 → v = 10 := by
    intro v hv
    exact UInt8.toNat_inj.1 (by rw [show (10 : UInt8).toNat = 10 from rfl]; omega)
  obtain ⟨_, hlo, _, hfeed, hnone⟩ := h
  generalize Lx.start (Lx.linesG [] s.data.toList) n = S at hlo hfeed hnone ⊢
  rcases Lib.lastIndexByte_spec (s.extract 0 a) 10 with ⟨h1, h2⟩ | ⟨i, hi, h1, h2, h3⟩
  · rw [h1]
    rcases hfeed with h0 | h0
    · omega
    · by_cases hS : S = 0
      · omega
      · exfalso
        have hlt : S - 1 < a := by omega
        rw [hget (S - 1) hlt] at h0
        injection h0 with h0
        have := h2 (S - 1) (by omega)
        rw [h0] at this
        exact this rfl
  · rw [h1]
    rw [hsz] at hi h3
    have hv := hten _ h2
    have hgi := hget i hi
    rw [hv] at hgi
    rcases Nat.lt_or_ge i S with hiS | hiS
    · rcases hfeed with h0 | h0
      · omega
      · by_cases hlast : i = S - 1
        · omega
        · exfalso
          rw [hget (S - 1) (by omega)] at h0
          injection h0 with h0
          have := h3 (S - 1) (by omega) (by omega)
          rw [h0] at this
          exact this rfl
    · exact absurd hgi (hnone i hiS hi)

set_option maxHeartbeats 1000000 in
theorem place_any (s : ByteArray) (hs : s.size ≤ 2500) (hc : Lx.check s.data.toList = (0, 0)) (a : Nat) (ha : a ≤ s.size) (x : Lx.B) (n : Nat) (hn : (s.data.toList.take a).count 10 = n) (hp : Lx.PlaceOk s.data.toList a n x)
    (L C : Nat) (hL : L = n + 1) (hC : C + Lx.start (Lx.linesG [] s.data.toList) n = a + 1) (w : World) :
    Calls Tryz.prog 5 #[.string s, .int .i64 a] w fun e w' => e = .returned (.tuple #[.int .i64 L, .int .i64 C, .int .i64 0]) ∧ Below w.heap.size w w' := by
  have hck := check_any s (by unfold maxLen; omega) w
  rw [hc] at hck
  unfold chkV at hck
  have hct := fun W => Tryz.strings_Count_one (s.extract 0 a) 10 W
  have hcn : Lib.countByte (s.extract 0 a).data.toList 10 = n := by
    rw [Lib.extract_from_zero]; exact hn
  have hli := fun W => Tryz.strings_LastIndex_one (s.extract 0 a) ⟨#[10]⟩ rfl (by rw [ByteArray.size_extract]; omega) W
  have hlv : Lib.lastIndexByte (s.extract 0 a) (((⟨#[10]⟩ : ByteArray)[0]'(by decide)).toNat : Int) = (Lx.start (Lx.linesG [] s.data.toList) n : Int) - 1 := lastIdx_at s a n x ha hp
  rw [hcn] at hct
  rw [hlv] at hli
  have hst : Lx.start (Lx.linesG [] s.data.toList) n ≤ a := hp.lo
  generalize Lx.start (Lx.linesG [] s.data.toList) n = S at hli hC hst
  have hnb : n ≤ 2500 := by
    rw [← hn]
    have h1 := List.count_le_length (l := s.data.toList.take a) (a := 10)
    rw [List.length_take] at h1
    omega
  have HCK := Lib.hid hck
  have HCT := Lib.hid hct
  have HLI := Lib.hid hli
  have ha0 : (0 : Int) ≤ a := by omega
  have ha1 : (a : Int) ≤ s.size := by omega
  have hq1 : ¬ (a : Int) < 0 := by omega
  have hq2 : ¬ (s.size : Int) < a := by omega
  have hw1 : IntKind.i64.wrap (1 + (n : Int)) = (L : Int) := by rw [IntKind.wrap_i64]; omega
  have hw2 : IntKind.i64.wrap ((a : Int) - ((S : Int) - 1)) = (C : Int) := by rw [IntKind.wrap_i64]; omega
  clear hck hct hli hcn hlv hn hp hc hst
  go_enter Tryz.func5, Tryz.ntmps5
  go_wp2_with fail
  refine HCK.out.mono ?_
  rintro e w1 ⟨rfl, hb1⟩
  go_wp2_with fail
  refine (HCT.out _).mono ?_
  rintro e w2 ⟨rfl, rfl⟩
  go_wp2_with fail
  refine (HLI.out _).mono ?_
  rintro e w3 ⟨rfl, rfl⟩
  go_wp2
  go_ret3
  exact ⟨by rw [hL]; rfl, hb1⟩

theorem start_mono (ls : List ByteArray) (h : ∀ (i : Nat) y, ls[i]? = some y → Lx.start (ls.map (·.data.toList)) (i + 1) = Lx.start (ls.map (·.data.toList)) i + y.size + 1) (n : Nat) (hn : n ≤ ls.length) :
    ∀ k, k ≤ n → Lx.start (ls.map (·.data.toList)) k ≤ Lx.start (ls.map (·.data.toList)) n := by
  induction n with
  | zero => intro k hk; rw [Nat.le_zero.1 hk]; exact Nat.le_refl _
  | succ n ih =>
    intro k hk
    rcases Nat.lt_or_ge k (n + 1) with hlt | hge
    · have h1 := ih (by omega) k (by omega)
      have h2 := h n _ (List.getElem?_eq_getElem (by omega))
      omega
    · rw [show k = n + 1 by omega]; exact Nat.le_refl _

set_option maxRecDepth 100000 in
set_option maxHeartbeats 2000000 in
theorem offset_any (s : ByteArray) (hs : s.size ≤ 2500) (hc : Lx.check s.data.toList = (0, 0)) (n c : Nat) (x : Lx.B) (hx : (Lx.linesG [] s.data.toList)[n]? = some x) (hcx : c ≤ x.length) (hal : Lx.start (Lx.linesG [] s.data.toList) n + c ≤ 2500)
    (L C : Nat) (hL : L = n + 1) (hC : C = c + 1) (w : World) (hm : Mx w) :
    Calls Tryz.prog 6 #[.string s, .int .i64 L, .int .i64 C] w fun e w' => e = .returned (.tuple #[.int .i64 ((Lx.start (Lx.linesG [] s.data.toList) n + c : Nat) : Int), .int .i64 0]) ∧ Below w.heap.size w w' := by
  have hxl0 := Lx.line_le _ _ _ hx
  rw [← Lib.size_eq] at hxl0
  have hln := lexLines_ok s (by unfold maxLen; omega) (by rw [hc]) w hm
  have hll := Lx.linesG_len s.data.toList []
  rw [← Lib.size_eq] at hll
  have hst := Lx.start_succ (Lx.linesG [] s.data.toList)
  have HLN := Lib.hid hln
  clear hln hc
  generalize hE : Lx.start (Lx.linesG [] s.data.toList) n + c = E at hal ⊢
  go_enter Tryz.func6, Tryz.ntmps6
  go_wp2_with fail
  refine HLN.out.mono ?_
  rintro e w1 ⟨⟨b, ls, rfl, hls, hin⟩, hb1⟩
  rw [← hls] at hx hst hE hll
  rw [List.getElem?_map] at hx
  obtain ⟨xb, hxb, hxe⟩ := Option.map_eq_some_iff.1 hx
  have hnl : n < ls.length := by
    rcases Nat.lt_or_ge n ls.length with h | h
    · exact h
    · rw [List.getElem?_eq_none h] at hxb; cases hxb
  have hxs : x.length = xb.size := by rw [← hxe]; exact (Lib.size_eq xb).symm
  rw [hxs] at hcx
  rw [List.length_map] at hll
  have HST : Hid (∀ (i : Nat) y, ls[i]? = some y → Lx.start (ls.map (·.data.toList)) (i + 1) = Lx.start (ls.map (·.data.toList)) i + y.size + 1) := by
    intro i y hy
    have := hst i y.data.toList (by rw [List.getElem?_map, hy]; rfl)
    rw [this, Lib.size_eq]
  have hmono : ∀ k, k ≤ n → Lx.start (ls.map (·.data.toList)) k ≤ Lx.start (ls.map (·.data.toList)) n := by
    intro k hk
    exact start_mono ls HST.out n (by omega) k hk
  have HMO := Lib.hid hmono
  have HIN := Lib.hid hin
  have c0 := hin n xb hxb
  have hxl : xb.size ≤ 2500 := by omega
  generalize hS : Lx.start (ls.map (·.data.toList)) = S at HST HMO hE
  have hS0 : S 0 = 0 := by rw [← hS]; cases ls <;> rfl
  have hq1 : ¬ (L : Int) < 1 := by omega
  have hq2 : ¬ (ls.length : Int) < L := by omega
  have hq3 : ¬ (C : Int) < 1 := by omega
  have hq4 : ¬ (xb.size : Int) + 1 < C := by omega
  have hw1 : IntKind.i64.wrap ((L : Int) - 1) = (n : Int) := by rw [IntKind.wrap_i64]; omega
  have hw2 : IntKind.i64.wrap ((C : Int) - 1) = (c : Int) := by rw [IntKind.wrap_i64]; omega
  have hw3 : IntKind.i64.wrap ((xb.size : Int) + 1) = (xb.size : Int) + 1 := by rw [IntKind.wrap_i64]; omega
  have hn0 : (0 : Int) ≤ n := by omega
  have hn1 : (n : Int) < ls.length := by omega
  have hn2 : (n : Int) ≤ ls.length := by omega
  have hd1 : (L : Int) - 1 = n := by omega
  have hd2 : (C : Int) - 1 = c := by omega
  clear hx hst hls hin hmono hS hxe hxb hxs hL hC
  go_wp2_with fail
  go_loopw [10, 49] (fun va vi wr => ∃ i : Nat, i ≤ n ∧ vi = .int .i64 i ∧ va = .int .i64 ((c + S i : Nat) : Int) ∧ Below w1.heap.size w1 wr) (fun _ vi _ => n - (intOf vi).toNat)
  case atStart => exact ⟨0, Nat.zero_le _, rfl, by rw [hS0]; rfl, Below.refl _ _⟩
  case round =>
    obtain ⟨i, hi, rfl, rfl, hbr⟩ := hrel
    by_cases hin : i < n
    · have hin' : (i : Int) < n := by omega
      obtain ⟨y, hy⟩ : ∃ y, ls[i]? = some y := ⟨_, List.getElem?_eq_getElem (by omega)⟩
      have d0 := (HIN.out.below hbr) i y hy
      have hsu := HST.out i y hy
      have hmo := HMO.out (i + 1) hin
      have hys : y.size ≤ 2500 := by omega
      have hw4 : IntKind.i64.wrap ((y.size : Int) + 1) = (y.size : Int) + 1 := by rw [IntKind.wrap_i64]; omega
      have hw5 : IntKind.i64.wrap (((c + S i : Nat) : Int) + ((y.size : Int) + 1)) = ((c + S (i + 1) : Nat) : Int) := by rw [IntKind.wrap_i64]; omega
      have hw6 : IntKind.i64.wrap ((c : Int) + (S i : Int) + ((y.size : Int) + 1)) = ((c + S (i + 1) : Nat) : Int) := by rw [IntKind.wrap_i64]; omega
      clear hy hsu hmo
      go_wp2_with fail
      go_roundw
      case rel => exact ⟨i + 1, by omega, by go_num, by first | rfl | simp, hbr⟩
      case measure => simp [intOf]; omega
    · have hin' : ¬ (i : Int) < n := by omega
      have hie : i = n := by omega
      subst hie
      go_wp2
      go_ret2
      have hsc : (E : Int) = (c : Int) + (S i : Int) := by omega
      exact ⟨by rw [hsc]; rfl, hb1.trans (hbr.mono hb1.size)⟩

end Go.Proofs.YtkhgmoljhehbnaaGreatDoor
