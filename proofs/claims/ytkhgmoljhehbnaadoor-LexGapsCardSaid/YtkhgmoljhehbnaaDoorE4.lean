/- The walk of the law LexReads. -/
import Derived.Test.YtkhgmoljhehbnaaDoorE3
namespace Go.Proofs.YtkhgmoljhehbnaaDoor
open Go.RowKit

set_option maxHeartbeats 1000000 in
theorem reads_big (s : ByteArray) (hm : s.size ≤ maxLen) (h : 6000 < s.size) (w : World) (he : Env w) :
    Calls Tryd.prog 4 #[.string s] w fun e w' => e = .returned (.bool true) ∧ Below w.heap.size w w' := by
  have hmi : (s.size : Int) ≤ 9223372036854775807 := by unfold maxLen at hm; omega
  have h' : (6000 : Int) < s.size := by omega
  have HK := Lib.hid (fun W hE => known_any W hE)
  have HE := Lib.hid he
  clear he
  go_enter Tryd.func4, Tryd.ntmps4
  go_wp2_with fail
  refine (HK.out _ HE.out).mono ?_
  rintro e w1 ⟨rfl, hb⟩
  go_wp2
  go_ret
  exact ⟨rfl, hb⟩

theorem lt_small {l : Lx.B} {ts : List Lx.Tok} {gs : List (Nat × Nat)} (h : Lx.read l = .ok ts gs) : (∀ x ∈ ts.map LT.of, x.text.size ≤ 2500) ∧ (∀ x ∈ ts.map LT.of, x.kind < 256) ∧ (ts.map LT.of).length ≤ 900 := by
  obtain ⟨h1, h2⟩ := read_small l
  rw [h] at h1 h2
  obtain ⟨h3, _, _⟩ := read_lined h
  refine ⟨fun x hx => ?_, fun x hx => ?_, by rw [List.length_map]; exact h2⟩
  · obtain ⟨t, ht, rfl⟩ := List.mem_map.1 hx
    rw [Lib.size_eq, of_data]; exact h1 t ht
  · obtain ⟨t, ht, rfl⟩ := List.mem_map.1 hx
    have := (Lx.tok_prefix (h3 t ht)).2.2.2.1
    show t.kind < 256
    omega

set_option maxRecDepth 100000 in
set_option maxHeartbeats 4000000 in
theorem reads_bad (s : ByteArray) (hs : s.size ≤ 6000) (k er : Nat) (hR : Lx.read s.data.toList = .bad k er) (w : World) (he : Env w) :
    Calls Tryd.prog 4 #[.string s] w fun e w' => e = .returned (.bool true) ∧ Below w.heap.size w w' := by
  have her := read_e _ k er hR
  have herb : ((er : Int) == 0) = false := by rw [beq_eq_false_iff_ne]; omega
  have hs' : ¬ (6000 : Int) < s.size := by omega
  have hrd := fun W hE => lexRead_any s (by omega) W hE
  have hbr := fun W hE => lexBare_any s (by omega) W hE
  have hrr := fun W => refRead_any s (by omega) W
  rw [hR] at hrd hbr hrr
  have HRD := Lib.hid hrd
  have HBR := Lib.hid hbr
  have HRR := Lib.hid hrr
  have HK := Lib.hid (fun W hE => known_any W hE)
  have HS := Lib.hid (fun A C cap1 cap2 W => same_none A C cap1 cap2 W)
  have HE := Lib.hid he
  clear he hrd hbr hrr hR her
  go_enter Tryd.func4, Tryd.ntmps4
  go_wp2_with fail
  refine (HRD.out _ HE.out).mono ?_
  rintro e w1 ⟨⟨A, cap, rfl, ho1⟩, hb1⟩
  have HE1 := Lib.hid (HE.out.below hb1 HE.out.lt)
  simp only [Lx.Res.ts, Lx.Res.at_, Lx.Res.e, List.length_nil]
  go_wp2_with fail
  refine (HBR.out _ HE1.out).mono ?_
  rintro e w2 ⟨rfl, hb2⟩
  have HE2 := Lib.hid (HE1.out.below hb2 HE1.out.lt)
  have hB2 := hb1.trans (hb2.mono hb1.size)
  simp only [Lx.Res.ts, Lx.Res.at_, Lx.Res.e, List.map_nil, bareP, List.length_nil, bareN]
  go_wp2_with fail
  refine (HRR.out _).mono ?_
  rintro e w3 ⟨⟨A3, cap3, rfl, ho3⟩, hb3⟩
  have HE3 := Lib.hid (HE2.out.below hb3 HE2.out.lt)
  have hB3 := hB2.trans (hb3.mono hB2.size)
  simp only [Lx.Res.ts, Lx.Res.at_, Lx.Res.e, List.length_nil]
  clear hb1 hb2 hb3 hB2 HE HE1 HE2 ho1 ho3
  go_wp2_with fail
  refine (HS.out _ _ _ _ _).mono ?_
  rintro e w4 ⟨rfl, rfl⟩
  go_wp2_with fail
  refine (HK.out _ HE3.out).mono ?_
  rintro e w5 ⟨rfl, hb5⟩
  go_wp2
  go_ret
  exact ⟨rfl, hB3.trans (hb5.mono hB3.size)⟩

set_option maxRecDepth 100000 in
set_option maxHeartbeats 4000000 in
theorem reads_ok (s : ByteArray) (hs : s.size ≤ 6000) (ts : List Lx.Tok) (gs : List (Nat × Nat)) (hR : Lx.read s.data.toList = .ok ts gs) (w : World) (he : Env w) :
    Calls Tryd.prog 4 #[.string s] w fun e w' => e = .returned (.bool true) ∧ Below w.heap.size w w' := by
  have hs' : ¬ (6000 : Int) < s.size := by omega
  obtain ⟨l1, l2, l3⟩ := lt_small hR
  have hrd := fun W hE => lexRead_any s (by omega) W hE
  have hbr := fun W hE => lexBare_any s (by omega) W hE
  have hrr := fun W => refRead_any s (by omega) W
  have hwr := write_read hR
  rw [hR] at hrd hbr hrr
  simp only [Lx.Res.ts, Lx.Res.at_, Lx.Res.e] at hbr
  have hsm := fun A C cap1 cap2 W h1 h2 => same_any (ts.map LT.of) (by omega) A C cap1 cap2 W h1 h2
  have htx := fun A cap W h1 => refText_any (ts.map LT.of) l1 l2 (by omega) A cap W h1
  rw [hwr] at htx
  rw [List.length_map] at hsm htx
  generalize hX : (⟨(bareP (ts.map LT.of)).toArray⟩ : ByteArray) = X at hbr htx
  have HRD := Lib.hid hrd
  have HBR := Lib.hid hbr
  have HRR := Lib.hid hrr
  have HSM := Lib.hid hsm
  have HTX := Lib.hid htx
  have HK := Lib.hid (fun W hE => known_any W hE)
  have HE := Lib.hid he
  clear he hrd hbr hrr hR hwr hsm htx hX l1 l2
  go_enter Tryd.func4, Tryd.ntmps4
  go_wp2_with fail
  refine (HRD.out _ HE.out).mono ?_
  rintro e w1 ⟨⟨A, cap, rfl, ho1⟩, hb1⟩
  have HE1 := Lib.hid (HE.out.below hb1 HE.out.lt)
  simp only [Lx.Res.ts, Lx.Res.at_, Lx.Res.e] at ho1 ⊢
  have ha1 := arg_of_own ho1
  go_wp2_with fail
  refine (HBR.out _ HE1.out).mono ?_
  rintro e w2 ⟨rfl, hb2⟩
  have HE2 := Lib.hid (HE1.out.below hb2 HE1.out.lt)
  have hB2 := hb1.trans (hb2.mono hb1.size)
  have ha2 := ha1.below hb2
  go_wp2_with fail
  refine (HRR.out _).mono ?_
  rintro e w3 ⟨⟨A3, cap3, rfl, ho3⟩, hb3⟩
  have HE3 := Lib.hid (HE2.out.below hb3 HE2.out.lt)
  have hB3 := hB2.trans (hb3.mono hB2.size)
  simp only [Lx.Res.ts, Lx.Res.at_, Lx.Res.e] at ho3 ⊢
  have HA3 := Lib.hid (ha2.below hb3)
  have HC3 := Lib.hid (arg_of_own ho3)
  clear hb1 hb2 hb3 hB2 HE HE1 HE2 ho1 ho3 ha1 ha2
  go_wp2_with fail
  refine (HSM.out _ _ _ _ _ HA3.out HC3.out).mono ?_
  rintro e w4 ⟨rfl, hb4⟩
  have HE4 := Lib.hid (HE3.out.below hb4 HE3.out.lt)
  have HC4 := Lib.hid (HC3.out.below hb4)
  have hB4 := hB3.trans (hb4.mono hB3.size)
  clear hb4 hB3 HA3
  go_wp2_with fail
  refine (HTX.out _ _ _ HC4.out).mono ?_
  rintro e w5 ⟨rfl, hb5⟩
  have HE5 := Lib.hid (HE4.out.below hb5 HE4.out.lt)
  have hB5 := hB4.trans (hb5.mono hB4.size)
  go_wp2_with fail
  refine (HK.out _ HE5.out).mono ?_
  rintro e w6 ⟨rfl, hb6⟩
  go_wp2
  go_ret
  exact ⟨rfl, hB5.trans (hb6.mono hB5.size)⟩

theorem reads_any (s : ByteArray) (hm : s.size ≤ maxLen) (w : World) (he : Env w) :
    Calls Tryd.prog 4 #[.string s] w fun e w' => e = .returned (.bool true) ∧ Below w.heap.size w w' := by
  by_cases h : 6000 < s.size
  · exact reads_big s hm h w he
  · cases hR : Lx.read s.data.toList with
    | bad k er => exact reads_bad s (by omega) k er hR w he
    | ok ts gs => exact reads_ok s (by omega) ts gs hR w he

end Go.Proofs.YtkhgmoljhehbnaaDoor
