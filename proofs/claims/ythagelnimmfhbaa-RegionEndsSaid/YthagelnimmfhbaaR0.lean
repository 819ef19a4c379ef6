/- Layer 5, the program whole: each of its functions gives what it is to give. -/
import Derived.Test.YthagelnimmfhbaaA4
import Derived.Test.YthagelnimmfhbaaA6
import Derived.Test.YthagelnimmfhbaaA13
import Derived.Test.YthagelnimmfhbaaA15
import Derived.Test.YthagelnimmfhbaaA17
import Derived.Test.YthagelnimmfhbaaRq
namespace Go.Proofs.Ythagelnimmfhbaa
open Go.RowKit Go.El

set_option maxHeartbeats 1000000 in
theorem slimC : SlimC := by
  intro l hl A cap w h
  have hck := svalid_any l hl A cap w h
  unfold Rg.slimR
  cases hv : Rg.valid l with
  | false =>
    rw [hv] at hck
    have HC : Hid _ := Lib.hid hck
    clear hck hv h
    go_enter Try.func26, Try.ntmps26
    go_wp2_with fail
    refine HC.out.mono ?_
    rintro e w1 ⟨rfl, hb1⟩
    go_wp2
    go_ret2
    exact ⟨⟨none, 0, rfl, Own.nil PtE 25 w1 _⟩, hb1⟩
  | true =>
    rw [hv] at hck
    have HC : Hid _ := Lib.hid hck
    have hv' := hv
    simp only [Rg.valid, Bool.and_eq_true, decide_eq_true_eq, List.all_eq_true] at hv'
    obtain ⟨hn, hok⟩ := hv'
    have hcl := fun W hW => clone_any l (by omega) A cap W hW
    have hdl := fun B c base W hW ho => delete_any l (by omega) hok B c base W hW ho
    have HCL := Lib.hid hcl
    have HDL := Lib.hid hdl
    have HS0 := Lib.hid (Arg.stay h)
    simp only [if_true]
    clear hck hcl hdl hv hok h
    go_enter Try.func26, Try.ntmps26
    go_wp2_with fail
    refine HC.out.mono ?_
    rintro e w1 ⟨rfl, hb1⟩
    go_wp2_with fail
    refine (HCL.out _ (HS0.out w1 hb1)).mono ?_
    rintro e w2 ⟨⟨B, c, rfl, ho2⟩, hb2⟩
    have ho3 := ho2.base_ (base' := w.heap.size) hb1.size
    have hB2 := hb1.trans (hb2.mono hb1.size)
    have HO := Lib.hid ho3
    clear ho2 ho3 hb2 hb1
    go_wp2_with fail
    refine (HDL.out B c w.heap.size w2 hB2.size HO.out).mono ?_
    rintro e w3 ⟨⟨B3, c3, rfl, ho4⟩, hb3⟩
    have hB3 := hB2.trans hb3
    clear hb3
    go_wp2
    go_ret2
    exact ⟨⟨B3, c3, rfl, ho4⟩, hB3⟩

theorem prg : Prg := ⟨cellsC, whoC, slimC, leastC, sizesC, firstC, fillC, missesC⟩
end Go.Proofs.Ythagelnimmfhbaa
