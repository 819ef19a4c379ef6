/- The walks of lex.Turn where something is refused, and of the law LexTurns. -/
import Derived.Test.YtkhgmoljhehbnaaDoorT5
import Derived.Test.YtkhgmoljhehbnaaDoorM3
namespace Go.Proofs.YtkhgmoljhehbnaaDoor
open Go.RowKit

set_option maxRecDepth 100000 in
set_option maxHeartbeats 8000000 in
theorem turn_bad (s : ByteArray) (hs : s.size ≤ 281474976710656) (fr to_ : List LT) (hR : (Lx.read s.data.toList).e ≠ 0) (C : Option Addr) (cap2 blk3 off3 cap3 : Nat) (w : World) (he : Env w) (_h2 : Arg w C fr) (_h3 : ToksIn w blk3 off3 to_) (_h3b : blk3 < w.heap.size) :
    Calls Tryd.prog 35 #[.string s, .slice C fr.length cap2, .slice (some ⟨blk3, off3, none⟩) to_.length cap3] w fun e w' => e = .returned (.tuple #[.string ⟨#[]⟩, .int .i64 0, .int .i64 (Lx.read s.data.toList).e]) ∧ Below w.heap.size w w' := by
  have hrd := rd_any s hs w he
  generalize Lx.read s.data.toList = R at hrd hR ⊢
  have herb : ((R.e : Int) == 0) = false := by rw [beq_eq_false_iff_ne]; omega
  have herb2 : ((R.e : Int) != 0) = true := by rw [bne, herb]; rfl
  have HRD := Lib.hid hrd
  clear hrd he hR
  go_enter Tryd.func35, Tryd.ntmps35
  go_wp2_with fail
  refine HRD.out.mono ?_
  rintro e w1 ⟨⟨A, cap, G, gcap, mo, so, q, sx, heq, k1, k2, k3⟩, hb⟩
  unfold rdV at heq
  subst heq
  have hz := hb.size
  clear k1 k2 k3
  go_wp2
  go_ret3
  exact ⟨rfl, hb.alloc hz _⟩

set_option maxRecDepth 100000 in
set_option maxHeartbeats 8000000 in
theorem turn_none (s : ByteArray) (hs : s.size ≤ 281474976710656) (fr to_ : List LT) (hR : (Lx.read s.data.toList).e = 0) (hf0 : fr.length = 0) (C : Option Addr) (cap2 blk3 off3 cap3 : Nat) (w : World) (he : Env w) (_h2 : Arg w C fr) (_h3 : ToksIn w blk3 off3 to_) (_h3b : blk3 < w.heap.size) :
    Calls Tryd.prog 35 #[.string s, .slice C fr.length cap2, .slice (some ⟨blk3, off3, none⟩) to_.length cap3] w fun e w' => e = .returned (.tuple #[.string ⟨#[]⟩, .int .i64 0, .int .i64 2]) ∧ Below w.heap.size w w' := by
  have hrd := rd_any s hs w he
  generalize Lx.read s.data.toList = R at hrd hR
  have hfb : ((fr.length : Int) == 0) = true := by rw [hf0]; rfl
  have HRD := Lib.hid hrd
  clear hrd he hf0
  go_enter Tryd.func35, Tryd.ntmps35
  go_wp2_with fail
  refine HRD.out.mono ?_
  rintro e w1 ⟨⟨A, cap, G, gcap, mo, so, q, sx, heq, k1, k2, k3⟩, hb⟩
  unfold rdV at heq
  rw [hR] at heq
  subst heq
  have hz := hb.size
  clear k1 k2 k3
  go_wp2
  go_ret3
  exact ⟨rfl, hb.alloc hz _⟩

set_option maxRecDepth 100000 in
set_option maxHeartbeats 8000000 in
theorem turn_from (s : ByteArray) (hs : s.size ≤ 281474976710656) (fr to_ : List LT) (hf : ∀ x ∈ fr, x.text.size ≤ 2500) (hfn : fr.length ≤ 3000000) (hf0 : 0 < fr.length) (hR : (Lx.read s.data.toList).e = 0) (E : Nat) (hE : (writeP fr).2 = E) (hE0 : E ≠ 0) (C : Option Addr) (cap2 blk3 off3 cap3 : Nat) (w : World) (he : Env w) (h2 : Arg w C fr) (_h3 : ToksIn w blk3 off3 to_) (h3b : blk3 < w.heap.size) :
    Calls Tryd.prog 35 #[.string s, .slice C fr.length cap2, .slice (some ⟨blk3, off3, none⟩) to_.length cap3] w fun e w' => e = .returned (.tuple #[.string ⟨#[]⟩, .int .i64 0, .int .i64 E]) ∧ Below w.heap.size w w' := by
  have hrd := rd_any s hs w he
  generalize Lx.read s.data.toList = R at hrd hR
  have W1 := fun bm bs A cap W hV hE hA => write_any fr hf hfn bm bs A cap W hV hE hA
  rw [hE] at W1
  generalize (writeP fr).1 = x1 at W1
  have herb : ((E : Int) == 0) = false := by rw [beq_eq_false_iff_ne]; omega
  have herb2 : ((E : Int) != 0) = true := by rw [bne, herb]; rfl
  have hfb : ((fr.length : Int) == 0) = false := by rw [beq_eq_false_iff_ne]; omega
  have HRD := Lib.hid hrd
  have HW1 := Lib.hid W1
  have HE := Lib.hid he
  have H2 := Lib.hid h2
  clear hrd W1 he h2 hf hE hE0
  go_enter Tryd.func35, Tryd.ntmps35
  go_wp2_with fail
  refine HRD.out.mono ?_
  rintro e w1 ⟨⟨A, cap, G, gcap, mo, so, q, sx, heq, k1, k2, k3⟩, hb⟩
  obtain ⟨bm, bs, rfl, rfl, rfl, hv⟩ := k3 hR
  unfold rdV at heq
  rw [hR] at heq
  subst heq
  have hz := hb.size
  have HO := Lib.hid (OwnLT.of k1)
  have HV := Lib.hid hv
  clear k1 k2 k3 hv
  -- the reader lies in a variable of its own
  have B1 := Blk.new w1 81 #[.slice A R.ts.length cap, .slice G R.gs.length gcap, .map (some bm), .slice (some ⟨bs, 0, none⟩) 26 26, .string sx]
  have hb1 : Below w.heap.size w (w1.alloc (.cells #[.slice A R.ts.length cap, .slice G R.gs.length gcap, .map (some bm), .slice (some ⟨bs, 0, none⟩) 26 26, .string sx] 81)) := hb.alloc hz _
  have HO1 := Lib.hid (HO.out.below ((Below.refl _ w1).alloc (Nat.le_refl _) (.cells #[.slice A R.ts.length cap, .slice G R.gs.length gcap, .map (some bm), .slice (some ⟨bs, 0, none⟩) 26 26, .string sx] 81)))
  have HV1 := Lib.hid (HV.out.alloc (.cells #[.slice A R.ts.length cap, .slice G R.gs.length gcap, .map (some bm), .slice (some ⟨bs, 0, none⟩) 26 26, .string sx] 81))
  have HE1 := Lib.hid (HE.out.below hb1 HE.out.lt)
  have h3b1 : blk3 < w.heap.size := h3b
  have hz1 := hb1.size
  clear HO HV hb
  go_wp2_with fail
  generalize w1.alloc (.cells #[.slice A R.ts.length cap, .slice G R.gs.length gcap, .map (some bm), .slice (some ⟨bs, 0, none⟩) 26 26, .string sx] 81) = Wa at *
  have hg := B1.lt
  refine (HW1.out bm bs C cap2 _ HV1.out HE1.out (H2.out.below hb1)).mono ?_
  rintro e w2 ⟨rfl, hb2⟩
  have hbw2 : Below w.heap.size w w2 := hb1.trans (hb2.mono hz1)
  go_wp2
  go_ret3
  exact ⟨rfl, hbw2⟩

set_option maxRecDepth 100000 in
set_option maxHeartbeats 8000000 in
theorem turn_to (s : ByteArray) (hs : s.size ≤ 281474976710656) (fr to_ : List LT) (hf : ∀ x ∈ fr, x.text.size ≤ 2500) (ht : ∀ x ∈ to_, x.text.size ≤ 2500) (hfn : fr.length ≤ 3000000) (htn : to_.length ≤ 3000000) (hf0 : 0 < fr.length) (hR : (Lx.read s.data.toList).e = 0) (hw1 : (writeP fr).2 = 0) (E : Nat) (hE : (writeP to_).2 = E) (hE0 : E ≠ 0) (C : Option Addr) (cap2 blk3 off3 cap3 : Nat) (w : World) (he : Env w) (h2 : Arg w C fr) (h3 : ToksIn w blk3 off3 to_) (h3b : blk3 < w.heap.size) :
    Calls Tryd.prog 35 #[.string s, .slice C fr.length cap2, .slice (some ⟨blk3, off3, none⟩) to_.length cap3] w fun e w' => e = .returned (.tuple #[.string ⟨#[]⟩, .int .i64 0, .int .i64 E]) ∧ Below w.heap.size w w' := by
  have hrd := rd_any s hs w he
  generalize Lx.read s.data.toList = R at hrd hR
  have W1 := fun bm bs A cap W hV hE hA => write_any fr hf hfn bm bs A cap W hV hE hA
  have W2 := fun bm bs A cap W hV hE hA => write_any to_ ht htn bm bs A cap W hV hE hA
  rw [hw1] at W1
  rw [hE] at W2
  generalize (writeP fr).1 = x1 at W1
  generalize (writeP to_).1 = x2 at W2
  have herb : ((E : Int) == 0) = false := by rw [beq_eq_false_iff_ne]; omega
  have herb2 : ((E : Int) != 0) = true := by rw [bne, herb]; rfl
  have hfb : ((fr.length : Int) == 0) = false := by rw [beq_eq_false_iff_ne]; omega
  have HRD := Lib.hid hrd
  have HW1 := Lib.hid W1
  have HW2 := Lib.hid W2
  have HE := Lib.hid he
  have H2 := Lib.hid h2
  have H3 := Lib.hid h3
  clear hrd W1 W2 he h2 h3 hf ht hw1 hE hE0
  go_enter Tryd.func35, Tryd.ntmps35
  go_wp2_with fail
  refine HRD.out.mono ?_
  rintro e w1 ⟨⟨A, cap, G, gcap, mo, so, q, sx, heq, k1, k2, k3⟩, hb⟩
  obtain ⟨bm, bs, rfl, rfl, rfl, hv⟩ := k3 hR
  unfold rdV at heq
  rw [hR] at heq
  subst heq
  have hz := hb.size
  have HO := Lib.hid (OwnLT.of k1)
  have HV := Lib.hid hv
  clear k1 k2 k3 hv
  -- the reader lies in a variable of its own
  have B1 := Blk.new w1 81 #[.slice A R.ts.length cap, .slice G R.gs.length gcap, .map (some bm), .slice (some ⟨bs, 0, none⟩) 26 26, .string sx]
  have hb1 : Below w.heap.size w (w1.alloc (.cells #[.slice A R.ts.length cap, .slice G R.gs.length gcap, .map (some bm), .slice (some ⟨bs, 0, none⟩) 26 26, .string sx] 81)) := hb.alloc hz _
  have HO1 := Lib.hid (HO.out.below ((Below.refl _ w1).alloc (Nat.le_refl _) (.cells #[.slice A R.ts.length cap, .slice G R.gs.length gcap, .map (some bm), .slice (some ⟨bs, 0, none⟩) 26 26, .string sx] 81)))
  have HV1 := Lib.hid (HV.out.alloc (.cells #[.slice A R.ts.length cap, .slice G R.gs.length gcap, .map (some bm), .slice (some ⟨bs, 0, none⟩) 26 26, .string sx] 81))
  have HE1 := Lib.hid (HE.out.below hb1 HE.out.lt)
  have h3b1 : blk3 < w.heap.size := h3b
  have hz1 := hb1.size
  clear HO HV hb
  go_wp2_with fail
  generalize w1.alloc (.cells #[.slice A R.ts.length cap, .slice G R.gs.length gcap, .map (some bm), .slice (some ⟨bs, 0, none⟩) 26 26, .string sx] 81) = Wa at *
  have hg := B1.lt
  refine (HW1.out bm bs C cap2 _ HV1.out HE1.out (H2.out.below hb1)).mono ?_
  rintro e w2 ⟨rfl, hb2⟩
  have B2 := B1.below hb2 hg
  have hbw2 : Below w.heap.size w w2 := hb1.trans (hb2.mono hz1)
  have HV2 := Lib.hid (HV1.out.below hb2)
  have HE2 := Lib.hid (HE1.out.below hb2 HE1.out.lt)
  have HO2 := Lib.hid (HO1.out.below hb2)
  have hg2 := B2.lt
  have hz2 := hbw2.size
  clear hb2 B1 HV1 HE1 HO1
  have c0 := B2.cell 0; have c2 := B2.cell 2; have c3 := B2.cell 3
  simp at c0 c2 c3
  go_wp2_with fail
  refine (HW2.out bm bs (some ⟨blk3, off3, none⟩) cap3 _ HV2.out HE2.out ⟨fun _ => ⟨blk3, off3, rfl, H3.out.below hbw2 (fun _ => h3b)⟩⟩).mono ?_
  rintro e w3 ⟨rfl, hb3⟩
  have hbw3 : Below w.heap.size w w3 := hbw2.trans (hb3.mono hz2)
  clear c0 c2 c3
  go_wp2
  go_ret3
  exact ⟨rfl, hbw3⟩

set_option maxRecDepth 100000 in
set_option maxHeartbeats 8000000 in
theorem turn_all (s : ByteArray) (hs : s.size ≤ 281474976710656) (fr to_ : List LT) (hf : ∀ x ∈ fr, x.text.size ≤ 2500) (ht : ∀ x ∈ to_, x.text.size ≤ 2500) (hfn : fr.length ≤ 900) (htn : to_.length ≤ 900) (hf0 : 0 < fr.length) (hR : (Lx.read s.data.toList).e = 0) (hw1 : (writeP fr).2 = 0) (hw2 : (writeP to_).2 = 0) (E : Nat) (hE : (writeP (turnP s.data.toList fr to_).1).2 = E) (hE0 : E ≠ 0) (C : Option Addr) (cap2 blk3 off3 cap3 : Nat) (w : World) (he : Env w) (h2 : Arg w C fr) (h3 : ToksIn w blk3 off3 to_) (h3b : blk3 < w.heap.size) :
    Calls Tryd.prog 35 #[.string s, .slice C fr.length cap2, .slice (some ⟨blk3, off3, none⟩) to_.length cap3] w fun e w' => e = .returned (.tuple #[.string ⟨#[]⟩, .int .i64 0, .int .i64 E]) ∧ Below w.heap.size w w' := by
  have hrd := rd_any s hs w he
  have hsm := read_texts s.data.toList
  have hln := (read_small s.data.toList).2
  have hTe : turnP s.data.toList fr to_ = replP fr to_ ((Lx.read s.data.toList).ts.map LT.of).length ((Lx.read s.data.toList).ts.map LT.of) [] 0 := rfl
  generalize turnP s.data.toList fr to_ = T at hE hTe
  generalize Lx.read s.data.toList = R at hrd hsm hln hR hTe
  have hTl : T.1.length ≤ 1800 := by rw [hTe]; exact replP_len fr to_ htn _ _ _ _ (by simp)
  have hTs : ∀ x ∈ T.1, x.text.size ≤ 2500 := by rw [hTe]; exact replP_small 2500 fr to_ ht _ _ _ _ hsm (by simp)
  have hwr := fun (l : List LT) (hl : ∀ x ∈ l, x.text.size ≤ 2500) (hn : l.length ≤ 3000000) (hz : (writeP l).2 = 0) bm bs A cap W hV hE hA => by
    have := write_any l hl hn bm bs A cap W hV hE hA
    rw [hz] at this
    exact this
  have W1 := fun bm bs A cap W hV hE hA => hwr fr hf (by omega) hw1 bm bs A cap W hV hE hA
  have W2 := fun bm bs A cap W hV hE hA => hwr to_ ht (by omega) hw2 bm bs A cap W hV hE hA
  have W3 := fun bm bs A cap W hV hE hA => write_any T.1 hTs (by omega) bm bs A cap W hV hE hA
  rw [hE] at W3
  have RP := fun A cap hcap hA W h1 h2 h3 h3b => replace_any (R.ts.map LT.of) fr to_ (by simp; omega) hf0 (by omega) htn A cap C cap2 blk3 off3 cap3 hcap hA W h1 h2 h3 h3b
  rw [← hTe] at RP
  rw [List.length_map] at RP
  generalize (writeP fr).1 = x1 at W1
  generalize (writeP to_).1 = x2 at W2
  generalize (writeP T.1).1 = x3 at W3
  have hfb : ((fr.length : Int) == 0) = false := by rw [beq_eq_false_iff_ne]; omega
  have herb : ((E : Int) == 0) = false := by rw [beq_eq_false_iff_ne]; omega
  have herb2 : ((E : Int) != 0) = true := by rw [bne, herb]; rfl
  have HRD := Lib.hid hrd
  have HW1 := Lib.hid W1
  have HW2 := Lib.hid W2
  have HW3 := Lib.hid W3
  have HRP := Lib.hid RP
  have HE := Lib.hid he
  have H2 := Lib.hid h2
  have H3 := Lib.hid h3
  clear hrd W1 W2 W3 RP he h2 h3 hwr hTe hTs hf ht hsm hw1 hw2 hE hE0
  go_enter Tryd.func35, Tryd.ntmps35
  go_wp2_with fail
  refine HRD.out.mono ?_
  rintro e w1 ⟨⟨A, cap, G, gcap, mo, so, q, sx, heq, k1, k2, k3⟩, hb⟩
  obtain ⟨bm, bs, rfl, rfl, rfl, hv⟩ := k3 hR
  unfold rdV at heq
  rw [hR] at heq
  subst heq
  have hz := hb.size
  have HO := Lib.hid (OwnLT.of k1)
  have HV := Lib.hid hv
  clear k1 k2 k3 hv
  -- the reader lies in a variable of its own
  have B1 := Blk.new w1 81 #[.slice A R.ts.length cap, .slice G R.gs.length gcap, .map (some bm), .slice (some ⟨bs, 0, none⟩) 26 26, .string sx]
  have hb1 : Below w.heap.size w (w1.alloc (.cells #[.slice A R.ts.length cap, .slice G R.gs.length gcap, .map (some bm), .slice (some ⟨bs, 0, none⟩) 26 26, .string sx] 81)) := hb.alloc hz _
  have HO1 := Lib.hid (HO.out.below ((Below.refl _ w1).alloc (Nat.le_refl _) (.cells #[.slice A R.ts.length cap, .slice G R.gs.length gcap, .map (some bm), .slice (some ⟨bs, 0, none⟩) 26 26, .string sx] 81)))
  have HV1 := Lib.hid (HV.out.alloc (.cells #[.slice A R.ts.length cap, .slice G R.gs.length gcap, .map (some bm), .slice (some ⟨bs, 0, none⟩) 26 26, .string sx] 81))
  have HE1 := Lib.hid (HE.out.below hb1 HE.out.lt)
  have h3b1 : blk3 < w.heap.size := h3b
  have hz1 := hb1.size
  clear HO HV hb
  go_wp2_with fail
  generalize w1.alloc (.cells #[.slice A R.ts.length cap, .slice G R.gs.length gcap, .map (some bm), .slice (some ⟨bs, 0, none⟩) 26 26, .string sx] 81) = Wa at *
  have hg := B1.lt
  refine (HW1.out bm bs C cap2 _ HV1.out HE1.out (H2.out.below hb1)).mono ?_
  rintro e w2 ⟨rfl, hb2⟩
  have B2 := B1.below hb2 hg
  have hbw2 : Below w.heap.size w w2 := hb1.trans (hb2.mono hz1)
  have HV2 := Lib.hid (HV1.out.below hb2)
  have HE2 := Lib.hid (HE1.out.below hb2 HE1.out.lt)
  have HO2 := Lib.hid (HO1.out.below hb2)
  have hg2 := B2.lt
  have hz2 := hbw2.size
  clear hb2 B1 HV1 HE1 HO1
  have c0 := B2.cell 0; have c2 := B2.cell 2; have c3 := B2.cell 3
  simp at c0 c2 c3
  go_wp2_with fail
  refine (HW2.out bm bs (some ⟨blk3, off3, none⟩) cap3 _ HV2.out HE2.out ⟨fun _ => ⟨blk3, off3, rfl, H3.out.below hbw2 (fun _ => h3b)⟩⟩).mono ?_
  rintro e w3 ⟨rfl, hb3⟩
  have B3 := B2.below hb3 hg2
  have hbw3 : Below w.heap.size w w3 := hbw2.trans (hb3.mono hz2)
  have HV3 := Lib.hid (HV2.out.below hb3)
  have HE3 := Lib.hid (HE2.out.below hb3 HE2.out.lt)
  have HO3 := Lib.hid (HO2.out.below hb3)
  have hg3 := B3.lt
  have hz3 := hbw3.size
  clear c0 c2 c3 hb3 B2 HV2 HE2 HO2
  have c0 := B3.cell 0; have c2 := B3.cell 2; have c3 := B3.cell 3
  simp at c0 c2 c3
  have hle := HO3.out.le
  simp only [List.length_map] at hle
  go_wp2_with fail
  refine (HRP.out A cap hle.1 hle.2 _ HO3.out.arg (H2.out.below hbw3) (H3.out.below hbw3 (fun _ => h3b)) (by omega)).mono ?_
  rintro e w4 ⟨⟨A4, cap4, rfl, hown4⟩, hb4⟩
  have B4 := B3.below hb4 hg3
  have hbw4 : Below w.heap.size w w4 := hbw3.trans (hb4.mono hz3)
  have HV4 := Lib.hid (HV3.out.below hb4)
  have HE4 := Lib.hid (HE3.out.below hb4 HE3.out.lt)
  have HO4 := Lib.hid hown4
  have hz4 := hbw4.size
  clear c0 c2 c3 hb4 B3 HV3 HE3 HO3 hown4 hle
  have c0 := B4.cell 0; have c2 := B4.cell 2; have c3 := B4.cell 3
  simp at c0 c2 c3
  go_wp2_with fail
  refine (HW3.out bm bs A4 cap4 _ HV4.out HE4.out HO4.out.arg).mono ?_
  rintro e w5 ⟨rfl, hb5⟩
  have hbw5 : Below w.heap.size w w5 := hbw4.trans (hb5.mono hz4)
  clear c0 c2 c3
  go_wp2
  go_ret3
  exact ⟨rfl, hbw5⟩


/-- Turn, plainly -/
def turnR (l : Lx.B) (fr to_ : List LT) : Lx.B × Nat × Nat := match Lx.read l with
  | .bad _ er => ([], 0, er)
  | .ok ts _ =>
    if fr.length = 0 then ([], 0, 2) else if (writeP fr).2 ≠ 0 then ([], 0, (writeP fr).2) else if (writeP to_).2 ≠ 0 then ([], 0, (writeP to_).2) else
    if (writeP (rtP fr to_ ts.length (ts.map LT.of) [] 0).1).2 ≠ 0 then ([], 0, (writeP (rtP fr to_ ts.length (ts.map LT.of) [] 0).1).2)
    else ((writeP (rtP fr to_ ts.length (ts.map LT.of) [] 0).1).1, (rtP fr to_ ts.length (ts.map LT.of) [] 0).2, 0)
def turnVal (x : Lx.B × Nat × Nat) : Value := .tuple #[.string ⟨x.1.toArray⟩, .int .i64 (x.2.1 : Nat), .int .i64 (x.2.2 : Nat)]

theorem write_len {l : List LT} (h : (writeP l).2 = 0) : l.length ≤ 900 := by
  unfold writeP at h
  split at h
  · cases h
  · omega

theorem refTurn_any (s : ByteArray) (hs : s.size ≤ 281474976710656) (fr to_ : List LT) (hfz : ∀ x ∈ fr, x.text.size ≤ 2500) (hfk : ∀ x ∈ fr, x.kind < 256) (hfn : fr.length ≤ 3000000) (htz : ∀ x ∈ to_, x.text.size ≤ 2500) (htk : ∀ x ∈ to_, x.kind < 256) (htn : to_.length ≤ 3000000)
    (C : Option Addr) (cap2 : Nat) (D : Option Addr) (cap3 : Nat) (hD : D = none → cap3 = 0) (w : World) (h2 : Arg w C fr) (h3 : Arg w D to_) :
    Calls Tryd.prog 36 #[.string s, .slice C fr.length cap2, .slice D to_.length cap3] w fun e w' => e = .returned (turnVal (turnR s.data.toList fr to_)) ∧ Below w.heap.size w w' := by
  unfold turnR
  cases hR : Lx.read s.data.toList with
  | bad k er => exact rturn_bad s hs fr to_ k er hR C cap2 D cap3 w
  | ok ts gs =>
    simp only
    by_cases hf0 : fr.length = 0
    · rw [if_pos hf0]; exact rturn_none s hs fr to_ ts gs hR hf0 C cap2 D cap3 w
    · rw [if_neg hf0]
      by_cases h1 : (writeP fr).2 ≠ 0
      · rw [if_pos h1]; exact rturn_from s hs fr to_ hfz hfk hfn (by omega) ts gs hR _ rfl h1 C cap2 D cap3 w h2
      · rw [if_neg h1]
        have h1' : (writeP fr).2 = 0 := by omega
        by_cases h4 : (writeP to_).2 ≠ 0
        · rw [if_pos h4]; exact rturn_to s hs fr to_ hfz hfk hfn (by omega) ts gs hR htz htk htn h1' _ rfl h4 C cap2 D cap3 w h2 h3
        · rw [if_neg h4]
          have h4' : (writeP to_).2 = 0 := by omega
          by_cases h5 : (writeP (rtP fr to_ ts.length (ts.map LT.of) [] 0).1).2 ≠ 0
          · rw [if_pos h5]; exact rturn_all s hs fr to_ hfz hfk hfn (by omega) ts gs hR htz htk htn (write_len h1') (write_len h4') h1' h4' _ rfl h5 C cap2 D cap3 w hD h2 h3
          · rw [if_neg h5]; exact rturn_ok s hs fr to_ hfz hfk hfn (by omega) ts gs hR htz htk htn (write_len h1') (write_len h4') h1' h4' (by omega) C cap2 D cap3 w hD h2 h3

theorem lexTurn_any (s : ByteArray) (hs : s.size ≤ 281474976710656) (fr to_ : List LT) (hfz : ∀ x ∈ fr, x.text.size ≤ 2500) (hfn : fr.length ≤ 3000000) (htz : ∀ x ∈ to_, x.text.size ≤ 2500) (htn : to_.length ≤ 3000000)
    (C : Option Addr) (cap2 blk3 off3 cap3 : Nat) (w : World) (he : Env w) (h2 : Arg w C fr) (h3 : ToksIn w blk3 off3 to_) (h3b : blk3 < w.heap.size) :
    Calls Tryd.prog 35 #[.string s, .slice C fr.length cap2, .slice (some ⟨blk3, off3, none⟩) to_.length cap3] w fun e w' => e = .returned (turnVal (turnR s.data.toList fr to_)) ∧ Below w.heap.size w w' := by
  unfold turnR
  cases hR : Lx.read s.data.toList with
  | bad k er =>
    have h := turn_bad s hs fr to_ (by rw [hR]; exact read_e _ k er hR) C cap2 blk3 off3 cap3 w he h2 h3 h3b
    rw [hR] at h
    exact h
  | ok ts gs =>
    have hRe : (Lx.read s.data.toList).e = 0 := by rw [hR]; rfl
    simp only
    by_cases hf0 : fr.length = 0
    · rw [if_pos hf0]; exact turn_none s hs fr to_ hRe hf0 C cap2 blk3 off3 cap3 w he h2 h3 h3b
    · rw [if_neg hf0]
      by_cases h1 : (writeP fr).2 ≠ 0
      · rw [if_pos h1]; exact turn_from s hs fr to_ hfz hfn (by omega) hRe _ rfl h1 C cap2 blk3 off3 cap3 w he h2 h3 h3b
      · rw [if_neg h1]
        have h1' : (writeP fr).2 = 0 := by omega
        by_cases h4 : (writeP to_).2 ≠ 0
        · rw [if_pos h4]; exact turn_to s hs fr to_ hfz htz hfn htn (by omega) hRe h1' _ rfl h4 C cap2 blk3 off3 cap3 w he h2 h3 h3b
        · rw [if_neg h4]
          have h4' : (writeP to_).2 = 0 := by omega
          have hT : turnP s.data.toList fr to_ = replP fr to_ ts.length (ts.map LT.of) [] 0 := by
            unfold turnP; rw [hR]; simp [Lx.Res.ts]
          rcases replP_rtP fr to_ ts.length (ts.map LT.of) [] 0 with heq | ⟨g1, g2⟩
          · rw [heq] at hT
            rw [← hT]
            by_cases h5 : (writeP (turnP s.data.toList fr to_).1).2 ≠ 0
            · rw [if_pos h5]; exact turn_all s hs fr to_ hfz htz (write_len h1') (write_len h4') (by omega) hRe h1' h4' _ rfl h5 C cap2 blk3 off3 cap3 w he h2 h3 h3b
            · rw [if_neg h5]; exact turn_ok s hs fr to_ hfz htz (write_len h1') (write_len h4') (by omega) hRe h1' h4' (by omega) C cap2 blk3 off3 cap3 w he h2 h3 h3b
          · rw [← hT] at g1
            have w1 : writeP (turnP s.data.toList fr to_).1 = ([], 5) := by unfold writeP; rw [if_pos g1]
            have w2 : writeP (rtP fr to_ ts.length (ts.map LT.of) [] 0).1 = ([], 5) := by unfold writeP; rw [if_pos g2]
            rw [w2]
            exact turn_all s hs fr to_ hfz htz (write_len h1') (write_len h4') (by omega) hRe h1' h4' 5 (by rw [w1]) (by decide) C cap2 blk3 off3 cap3 w he h2 h3 h3b

def OwnIs2 (ts : List LT) (w w' : World) (e : Ending) : Prop := ∃ g c, e = .returned (.slice (some ⟨g, 0, none⟩) ts.length c) ∧ OwnLT w' w.heap.size (some ⟨g, 0, none⟩) c ts

set_option maxHeartbeats 1000000 in
theorem own_nil2 (w : World) : Calls Tryd.prog 33 #[.slice none 0 0] w fun e w' => OwnIs2 [] w w' e ∧ Below w.heap.size w w' := by
  have HO := Lib.hid (ownLT_empty w w.heap.size (Nat.le_refl _))
  obtain ⟨i0, hi0, hz0, hz1, hz2⟩ := info_parts lex_info
  go_enter Tryd.func33, Tryd.ntmps33
  go_wp2_with (at_builtin; refine wpList_append_own_none rfl _ _ 31 rfl w.heap.size 47 i0 3 Tryd.underlying31 hi0 _ 0 [] rfl HO.out rfl ?_)
  go_ret
  exact ⟨⟨_, _, rfl, HO.out⟩, (Below.refl _ _).alloc (Nat.le_refl _) _⟩

set_option maxHeartbeats 1000000 in
theorem own_empty2 (a : Addr) (cap : Nat) (w : World) : Calls Tryd.prog 33 #[.slice (some a) 0 cap] w fun e w' => OwnIs2 [] w w' e ∧ Below w.heap.size w w' := by
  have HO := Lib.hid (ownLT_empty w w.heap.size (Nat.le_refl _))
  obtain ⟨i0, hi0, hz0, hz1, hz2⟩ := info_parts lex_info
  go_enter Tryd.func33, Tryd.ntmps33
  go_wp2_with (at_builtin; refine wpList_append_own _ rfl _ _ 31 rfl w.heap.size 47 i0 _ 3 32 Tryd.underlying31 hi0 hz0 hz1 hz2 rfl (by decide) _ 0 [] rfl HO.out a 0 cap [] rfl rfl (fun j u h => by simp at h) (fun u h => by simp at h) (by simp [maxLen]) (by simp) (by simp) ?_; intro v' w2 hown2 hgrow2 hnil)
  go_ret
  have hf : ∃ g cap', v' = .slice (some ⟨g, 0, none⟩) 0 cap' := by
    rcases hown2.2 with ⟨hv, h0⟩ | ⟨g, cap', cur, hv, _⟩
    · have := (hnil.1 hv).1
      cases this
    · exact ⟨_, _, hv⟩
  obtain ⟨g, cap', rfl⟩ := hf
  refine ⟨⟨g, cap', rfl, hown2⟩, ?_⟩
  exact ((Below.refl _ _).alloc (Nat.le_refl _) _).grown hgrow2 (by simp) (fun j hj => (HO.out.lt j hj).1)

theorem own_any2 (ts : List LT) (hn : ts.length ≤ 100000) (A : Option Addr) (cap : Nat) (hA : A = none → cap = 0) (w : World) (ht : Arg w A ts) :
    Calls Tryd.prog 33 #[.slice A ts.length cap] w fun e w' => OwnIs2 ts w w' e ∧ Below w.heap.size w w' := by
  by_cases hne : ts = []
  · subst hne
    cases A with
    | none => rw [hA rfl]; exact own_nil2 w
    | some a => exact own_empty2 a cap w
  · obtain ⟨b1, o1, rfl, i1⟩ := ht.at_ hne
    refine (own_at ts hn b1 o1 cap w i1).mono ?_
    rintro e w' ⟨⟨A', c, rfl, ho⟩, hb⟩
    refine ⟨?_, hb⟩
    obtain ⟨g, c', hv, _, _⟩ := ho.form (List.length_pos_iff.2 hne)
    injection hv with h1 _ h3
    subst h1 h3
    exact ⟨g, c, rfl, ho⟩

theorem own_toks {w : World} {B g c : Nat} {ts : List LT} (h : OwnLT w B (some ⟨g, 0, none⟩) c ts) : ToksIn w g 0 ts ∧ g < w.heap.size := by
  refine ⟨fun i x hx => ?_, (h.lt g rfl).2⟩
  obtain ⟨blk, off, he, hin⟩ := h.arg.at_ (by intro e; subst e; simp at hx)
  injection he with he
  injection he with h1 h2
  subst h1 h2
  exact hin i x hx

set_option maxHeartbeats 2000000 in
theorem turns_far (s : ByteArray) (hm : s.size ≤ maxLen) (fr to_ : List LT) (hfm : fr.length ≤ maxLen) (hfz : ∀ x ∈ fr, x.text.size ≤ maxLen) (htm : to_.length ≤ maxLen) (htz : ∀ x ∈ to_, x.text.size ≤ maxLen) (h : 1200 < s.size ∨ vastP fr = true ∨ vastP to_ = true)
    (C : Option Addr) (cap2 : Nat) (D : Option Addr) (cap3 : Nat) (w : World) (he : Env w) (h2 : Arg w C fr) (h3 : Arg w D to_) :
    Calls Tryd.prog 8 #[.string s, .slice C fr.length cap2, .slice D to_.length cap3] w fun e w' => e = .returned (.bool true) ∧ Below w.heap.size w w' := by
  have hmi : (s.size : Int) ≤ 9223372036854775807 := by unfold maxLen at hm; omega
  have hv1 := vast_any fr hfm hfz C cap2 w h2
  have hv2 := vast_any to_ htm htz D cap3 w h3
  have HK := Lib.hid (fun W hE => known_any W hE)
  have HE := Lib.hid he
  clear he h2 h3 hfz htz
  by_cases h12 : 1200 < s.size
  · have h12' : (1200 : Int) < s.size := by omega
    clear hv1 hv2 h
    go_enter Tryd.func8, Tryd.ntmps8
    go_wp2_with fail
    refine (HK.out _ HE.out).mono ?_
    rintro e w1 ⟨rfl, hb⟩
    go_wp2
    go_ret
    exact ⟨rfl, hb⟩
  · have h12' : ¬ (1200 : Int) < s.size := by omega
    cases hq : vastP fr with
    | true =>
      rw [hq] at hv1
      have HV1 := Lib.hid hv1
      clear hv1 hv2 h hq
      go_enter Tryd.func8, Tryd.ntmps8
      go_wp2_with fail
      refine HV1.out.mono ?_
      rintro e w1 ⟨rfl, rfl⟩
      go_wp2_with fail
      refine (HK.out _ HE.out).mono ?_
      rintro e w1 ⟨rfl, hb⟩
      go_wp2
      go_ret
      exact ⟨rfl, hb⟩
    | false =>
      have hq2 : vastP to_ = true := by rcases h with h | h | h; exact absurd h h12; rw [hq] at h; cases h; exact h
      rw [hq] at hv1
      rw [hq2] at hv2
      have HV1 := Lib.hid hv1
      have HV2 := Lib.hid hv2
      clear hv1 hv2 h hq hq2
      go_enter Tryd.func8, Tryd.ntmps8
      go_wp2_with fail
      refine HV1.out.mono ?_
      rintro e w1 ⟨rfl, rfl⟩
      go_wp2_with fail
      refine HV2.out.mono ?_
      rintro e w1 ⟨rfl, rfl⟩
      go_wp2_with fail
      refine (HK.out _ HE.out).mono ?_
      rintro e w1 ⟨rfl, hb⟩
      go_wp2
      go_ret
      exact ⟨rfl, hb⟩

set_option maxRecDepth 100000 in
set_option maxHeartbeats 4000000 in
theorem turns_near (s : ByteArray) (hs : s.size ≤ 1200) (fr to_ : List LT) (hfm : fr.length ≤ maxLen) (hfz0 : ∀ x ∈ fr, x.text.size ≤ maxLen) (hfk : ∀ x ∈ fr, x.kind < 256) (htm : to_.length ≤ maxLen) (htz0 : ∀ x ∈ to_, x.text.size ≤ maxLen) (htk : ∀ x ∈ to_, x.kind < 256)
    (hq1 : vastP fr = false) (hq2 : vastP to_ = false) (C : Option Addr) (cap2 : Nat) (hC : C = none → cap2 = 0) (D : Option Addr) (cap3 : Nat) (hD : D = none → cap3 = 0) (w : World) (he : Env w) (h2 : Arg w C fr) (h3 : Arg w D to_) :
    Calls Tryd.prog 8 #[.string s, .slice C fr.length cap2, .slice D to_.length cap3] w fun e w' => e = .returned (.bool true) ∧ Below w.heap.size w w' := by
  have h12' : ¬ (1200 : Int) < s.size := by omega
  have hs0 : (s.size : Int) ≤ 1200 := by omega
  obtain ⟨_, hfn, hf60⟩ := vastP_false hq1
  obtain ⟨_, htn, ht60⟩ := vastP_false hq2
  have hfz : ∀ x ∈ fr, x.text.size ≤ 2500 := fun x hx => by have := hf60 x hx; omega
  have htz : ∀ x ∈ to_, x.text.size ≤ 2500 := fun x hx => by have := ht60 x hx; omega
  have hv1 := vast_any fr hfm hfz0 C cap2 w h2
  have hv2 := vast_any to_ htm htz0 D cap3 w h3
  rw [hq1] at hv1
  rw [hq2] at hv2
  have how1 := fun W hT => own_any2 fr (by omega) C cap2 hC W hT
  have how2 := fun W hT => own_any2 to_ (by omega) D cap3 hD W hT
  have hlt := fun C' c2 b3 o3 c3 W hE hA hT hB => lexTurn_any s (by omega) fr to_ hfz (by omega) htz (by omega) C' c2 b3 o3 c3 W hE hA hT hB
  have hrt := fun W hA hB => refTurn_any s (by omega) fr to_ hfz hfk (by omega) htz htk (by omega) C cap2 D cap3 hD W hA hB
  have hs1 := fun A1 c1 A2 c2 W h1 h2 => same_any fr (by omega) A1 A2 c1 c2 W h1 h2
  have hs2 := fun A1 c1 A2 c2 W h1 h2 => same_any to_ (by omega) A1 A2 c1 c2 W h1 h2
  generalize turnR s.data.toList fr to_ = R at hlt hrt
  unfold turnVal at hlt hrt
  generalize (⟨R.1.toArray⟩ : ByteArray) = X at hlt hrt
  generalize R.2.1 = mm at hlt hrt
  generalize R.2.2 = er at hlt hrt
  have HV1 := Lib.hid hv1
  have HV2 := Lib.hid hv2
  have HW1 := Lib.hid how1
  have HW2 := Lib.hid how2
  have HLT := Lib.hid hlt
  have HRT := Lib.hid hrt
  have HS1 := Lib.hid hs1
  have HS2 := Lib.hid hs2
  have HK := Lib.hid (fun W hE => known_any W hE)
  have HE := Lib.hid he
  have H2 := Lib.hid h2
  have H3 := Lib.hid h3
  clear he h2 h3 hfz htz hfz0 htz0 hv1 hv2 how1 how2 hlt hrt hs1 hs2 hf60 ht60 hfk htk hq1 hq2 hC hD
  go_enter Tryd.func8, Tryd.ntmps8
  go_wp2_with fail
  refine HV1.out.mono ?_
  rintro e w1 ⟨rfl, rfl⟩
  go_wp2_with fail
  refine HV2.out.mono ?_
  rintro e w1 ⟨rfl, rfl⟩
  go_wp2_with fail
  refine (HW1.out _ H2.out).mono ?_
  rintro e w1 ⟨⟨g1, c1, rfl, ho1⟩, hb1⟩
  have HE1 := Lib.hid (HE.out.below hb1 HE.out.lt)
  have ha1 := ho1.arg
  clear ho1
  go_wp2_with fail
  refine (HW2.out _ (H3.out.below hb1)).mono ?_
  rintro e w2 ⟨⟨g2, c2, rfl, ho2⟩, hb2⟩
  have HE2 := Lib.hid (HE1.out.below hb2 HE1.out.lt)
  have hB2 := hb1.trans (hb2.mono hb1.size)
  have HA2 := Lib.hid (ha1.below hb2)
  obtain ⟨hy2, hg2⟩ := own_toks ho2
  have HY2 := Lib.hid hy2
  have HYA := Lib.hid ho2.arg
  clear ha1 ho2 hy2 hb1 hb2 HE HE1
  go_wp2_with fail
  refine (HLT.out _ _ _ _ _ _ HE2.out HA2.out HY2.out hg2).mono ?_
  rintro e w3 ⟨rfl, hb3⟩
  have HE3 := Lib.hid (HE2.out.below hb3 HE2.out.lt)
  have hB3 := hB2.trans (hb3.mono hB2.size)
  have HA3 := Lib.hid (HA2.out.below hb3)
  have HYA3 := Lib.hid (HYA.out.below hb3)
  clear HA2 HYA HE2 hb3
  go_wp2_with fail
  refine (HRT.out _ (H2.out.below hB3) (H3.out.below hB3)).mono ?_
  rintro e w4 ⟨rfl, hb4⟩
  have HE4 := Lib.hid (HE3.out.below hb4 HE3.out.lt)
  have hB4 := hB3.trans (hb4.mono hB3.size)
  have HA4 := Lib.hid (HA3.out.below hb4)
  have HYA4 := Lib.hid (HYA3.out.below hb4)
  clear HA3 HYA3 HE3 hb4
  go_wp2_with fail
  refine (HS1.out _ _ _ _ _ HA4.out (H2.out.below hB4)).mono ?_
  rintro e w5 ⟨rfl, hb5⟩
  have HE5 := Lib.hid (HE4.out.below hb5 HE4.out.lt)
  have hB5 := hB4.trans (hb5.mono hB4.size)
  have HYA5 := Lib.hid (HYA4.out.below hb5)
  clear HA4 HYA4 HE4 hb5
  go_wp2_with fail
  refine (HS2.out _ _ _ _ _ HYA5.out (H3.out.below hB5)).mono ?_
  rintro e w6 ⟨rfl, hb6⟩
  have HE6 := Lib.hid (HE5.out.below hb6 HE5.out.lt)
  have hB6 := hB5.trans (hb6.mono hB5.size)
  clear HYA5 HE5 hb6
  go_wp2_with fail
  refine (HK.out _ HE6.out).mono ?_
  rintro e w7 ⟨rfl, hb7⟩
  go_wp2
  go_ret
  exact ⟨rfl, hB6.trans (hb7.mono hB6.size)⟩

theorem turns_any (s : ByteArray) (hm : s.size ≤ maxLen) (fr to_ : List LT) (hfm : fr.length ≤ maxLen) (hfz : ∀ x ∈ fr, x.text.size ≤ maxLen) (hfk : ∀ x ∈ fr, x.kind < 256) (htm : to_.length ≤ maxLen) (htz : ∀ x ∈ to_, x.text.size ≤ maxLen) (htk : ∀ x ∈ to_, x.kind < 256)
    (C : Option Addr) (cap2 : Nat) (hC : C = none → cap2 = 0) (D : Option Addr) (cap3 : Nat) (hD : D = none → cap3 = 0) (w : World) (he : Env w) (h2 : Arg w C fr) (h3 : Arg w D to_) :
    Calls Tryd.prog 8 #[.string s, .slice C fr.length cap2, .slice D to_.length cap3] w fun e w' => e = .returned (.bool true) ∧ Below w.heap.size w w' := by
  by_cases h : 1200 < s.size ∨ vastP fr = true ∨ vastP to_ = true
  · exact turns_far s hm fr to_ hfm hfz htm htz h C cap2 D cap3 w he h2 h3
  · have hq1 : vastP fr = false := by cases hh : vastP fr with | false => rfl | true => exact absurd (.inr (.inl hh)) h
    have hq2 : vastP to_ = false := by cases hh : vastP to_ with | false => rfl | true => exact absurd (.inr (.inr hh)) h
    have hs : s.size ≤ 1200 := by
      rcases Nat.lt_or_ge 1200 s.size with hh | hh
      · exact absurd (.inl hh) h
      · exact hh
    exact turns_near s hs fr to_ hfm hfz hfk htm htz htk hq1 hq2 C cap2 hC D cap3 hD w he h2 h3

end Go.Proofs.YtkhgmoljhehbnaaDoor
