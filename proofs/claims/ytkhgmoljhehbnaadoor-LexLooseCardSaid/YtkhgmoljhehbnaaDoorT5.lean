/- The walk of lex.Turn where nothing is refused. -/
import Derived.Test.YtkhgmoljhehbnaaDoorT4
namespace Go.Proofs.YtkhgmoljhehbnaaDoor
open Go.RowKit

theorem replP_len (fr to_ : List LT) (ht : to_.length ≤ 900) : ∀ (f : Nat) (l all : List LT) (n : Nat), all.length ≤ 1800 → (replP fr to_ f l all n).1.length ≤ 1800
  | 0, _, _, _, h => h
  | f + 1, l, all, n, h => by
    rw [replP]
    split
    · rename_i hc
      split
      · exact replP_len fr to_ ht f _ _ _ (by rw [List.length_append]; omega)
      · refine replP_len fr to_ ht f _ _ _ ?_
        rw [List.length_append, List.length_take]
        omega
    · exact h
theorem replP_small (M : Nat) (fr to_ : List LT) (ht : ∀ x ∈ to_, x.text.size ≤ M) : ∀ (f : Nat) (l all : List LT) (n : Nat), (∀ x ∈ l, x.text.size ≤ M) → (∀ x ∈ all, x.text.size ≤ M) → ∀ x ∈ (replP fr to_ f l all n).1, x.text.size ≤ M
  | 0, _, _, _, _, h => h
  | f + 1, l, all, n, hl, h => by
    rw [replP]
    split
    · split
      · refine replP_small M fr to_ ht f _ _ _ (fun x hx => hl x (List.mem_of_mem_drop hx)) (fun x hx => ?_)
        rcases List.mem_append.1 hx with h1 | h1
        · exact h x h1
        · exact ht x h1
      · refine replP_small M fr to_ ht f _ _ _ (fun x hx => hl x (List.mem_of_mem_drop hx)) (fun x hx => ?_)
        rcases List.mem_append.1 hx with h1 | h1
        · exact h x h1
        · exact hl x (List.mem_of_mem_take h1)
    · exact h

theorem read_texts (l : Lx.B) : ∀ x ∈ (Lx.read l).ts.map LT.of, x.text.size ≤ 2500 := by
  intro x hx
  simp only [List.mem_map] at hx
  obtain ⟨t, ht, rfl⟩ := hx
  have := (read_small l).1 t ht
  simpa [LT.of, ByteArray.size] using this

/-- what Turn makes of tokens -/
def turnP (l : Lx.B) (fr to_ : List LT) : List LT × Nat := replP fr to_ ((Lx.read l).ts.map LT.of).length ((Lx.read l).ts.map LT.of) [] 0

set_option maxRecDepth 100000 in
set_option maxHeartbeats 8000000 in
theorem turn_ok (s : ByteArray) (hs : s.size ≤ 281474976710656) (fr to_ : List LT) (hf : ∀ x ∈ fr, x.text.size ≤ 2500) (ht : ∀ x ∈ to_, x.text.size ≤ 2500) (hfn : fr.length ≤ 900) (htn : to_.length ≤ 900) (hf0 : 0 < fr.length)
    (hR : (Lx.read s.data.toList).e = 0) (hw1 : (writeP fr).2 = 0) (hw2 : (writeP to_).2 = 0) (hw3 : (writeP (turnP s.data.toList fr to_).1).2 = 0)
    (C : Option Addr) (cap2 blk3 off3 cap3 : Nat) (w : World) (he : Env w) (h2 : Arg w C fr) (h3 : ToksIn w blk3 off3 to_) (h3b : blk3 < w.heap.size) :
    Calls Tryd.prog 35 #[.string s, .slice C fr.length cap2, .slice (some ⟨blk3, off3, none⟩) to_.length cap3] w fun e w' => e = .returned (.tuple #[.string ⟨(writeP (turnP s.data.toList fr to_).1).1.toArray⟩, .int .i64 ((turnP s.data.toList fr to_).2 : Nat), .int .i64 0]) ∧ Below w.heap.size w w' := by
  have hrd := rd_any s hs w he
  have hsm := read_texts s.data.toList
  have hln := (read_small s.data.toList).2
  have hTe : turnP s.data.toList fr to_ = replP fr to_ ((Lx.read s.data.toList).ts.map LT.of).length ((Lx.read s.data.toList).ts.map LT.of) [] 0 := rfl
  generalize turnP s.data.toList fr to_ = T at hw3 hTe ⊢
  generalize Lx.read s.data.toList = R at hrd hsm hln hR hTe
  have hTl : T.1.length ≤ 1800 := by rw [hTe]; exact replP_len fr to_ htn _ _ _ _ (by simp)
  have hTs : ∀ x ∈ T.1, x.text.size ≤ 2500 := by rw [hTe]; exact replP_small 2500 fr to_ ht _ _ _ _ hsm (by simp)
  have hwr := fun (l : List LT) (hl : ∀ x ∈ l, x.text.size ≤ 2500) (hn : l.length ≤ 3000000) (hz : (writeP l).2 = 0) bm bs A cap W hV hE hA => by
    have := write_any l hl hn bm bs A cap W hV hE hA
    rw [hz] at this
    exact this
  have W1 := fun bm bs A cap W hV hE hA => hwr fr hf (by omega) hw1 bm bs A cap W hV hE hA
  have W2 := fun bm bs A cap W hV hE hA => hwr to_ ht (by omega) hw2 bm bs A cap W hV hE hA
  have W3 := fun bm bs A cap W hV hE hA => hwr T.1 hTs (by omega) hw3 bm bs A cap W hV hE hA
  have RP := fun A cap hcap hA W h1 h2 h3 h3b => replace_any (R.ts.map LT.of) fr to_ (by simp; omega) hf0 (by omega) htn A cap C cap2 blk3 off3 cap3 hcap hA W h1 h2 h3 h3b
  rw [← hTe] at RP
  rw [List.length_map] at RP
  generalize (writeP fr).1 = x1 at W1
  generalize (writeP to_).1 = x2 at W2
  generalize (writeP T.1).1 = x3 at W3 ⊢
  have hfb : ((fr.length : Int) == 0) = false := by rw [beq_eq_false_iff_ne]; omega
  have HRD := Lib.hid hrd
  have HW1 := Lib.hid W1
  have HW2 := Lib.hid W2
  have HW3 := Lib.hid W3
  have HRP := Lib.hid RP
  have HE := Lib.hid he
  have H2 := Lib.hid h2
  have H3 := Lib.hid h3
  clear hrd W1 W2 W3 RP he h2 h3 hwr hTe hTs hf ht hsm hw1 hw2 hw3
  go_enter Tryd.func35, Tryd.ntmps35
  go_wp2_with fail
  refine HRD.out.mono ?_
  rintro e w1 ⟨⟨A, cap, G, gcap, mo, so, q, sx, heq, k1, k2, k3⟩, hb⟩
  obtain ⟨bm, bs, rfl, rfl, rfl, hv⟩ := k3 hR
  unfold rdV at heq
  rw [hR] at heq
  subst heq
  have hz := hb.size
  have HO := Lib.hid (OwnLT.of k1)
  have HV := Lib.hid hv
  clear k1 k2 k3 hv
  -- the reader lies in a variable of its own
  have B1 := Blk.new w1 81 #[.slice A R.ts.length cap, .slice G R.gs.length gcap, .map (some bm), .slice (some ⟨bs, 0, none⟩) 26 26, .string sx]
  have hb1 : Below w.heap.size w (w1.alloc (.cells #[.slice A R.ts.length cap, .slice G R.gs.length gcap, .map (some bm), .slice (some ⟨bs, 0, none⟩) 26 26, .string sx] 81)) := hb.alloc hz _
  have HO1 := Lib.hid (HO.out.below ((Below.refl _ w1).alloc (Nat.le_refl _) (.cells #[.slice A R.ts.length cap, .slice G R.gs.length gcap, .map (some bm), .slice (some ⟨bs, 0, none⟩) 26 26, .string sx] 81)))
  have HV1 := Lib.hid (HV.out.alloc (.cells #[.slice A R.ts.length cap, .slice G R.gs.length gcap, .map (some bm), .slice (some ⟨bs, 0, none⟩) 26 26, .string sx] 81))
  have HE1 := Lib.hid (HE.out.below hb1 HE.out.lt)
  have h3b1 : blk3 < w.heap.size := h3b
  have hz1 := hb1.size
  clear HO HV hb
  go_wp2_with fail
  generalize w1.alloc (.cells #[.slice A R.ts.length cap, .slice G R.gs.length gcap, .map (some bm), .slice (some ⟨bs, 0, none⟩) 26 26, .string sx] 81) = Wa at *
  have hg := B1.lt
  refine (HW1.out bm bs C cap2 _ HV1.out HE1.out (H2.out.below hb1)).mono ?_
  rintro e w2 ⟨rfl, hb2⟩
  have B2 := B1.below hb2 hg
  have hbw2 : Below w.heap.size w w2 := hb1.trans (hb2.mono hz1)
  have HV2 := Lib.hid (HV1.out.below hb2)
  have HE2 := Lib.hid (HE1.out.below hb2 HE1.out.lt)
  have HO2 := Lib.hid (HO1.out.below hb2)
  have hg2 := B2.lt
  have hz2 := hbw2.size
  clear hb2 B1 HV1 HE1 HO1
  have c0 := B2.cell 0; have c2 := B2.cell 2; have c3 := B2.cell 3
  simp at c0 c2 c3
  go_wp2_with fail
  refine (HW2.out bm bs (some ⟨blk3, off3, none⟩) cap3 _ HV2.out HE2.out ⟨fun _ => ⟨blk3, off3, rfl, H3.out.below hbw2 (fun _ => h3b)⟩⟩).mono ?_
  rintro e w3 ⟨rfl, hb3⟩
  have B3 := B2.below hb3 hg2
  have hbw3 : Below w.heap.size w w3 := hbw2.trans (hb3.mono hz2)
  have HV3 := Lib.hid (HV2.out.below hb3)
  have HE3 := Lib.hid (HE2.out.below hb3 HE2.out.lt)
  have HO3 := Lib.hid (HO2.out.below hb3)
  have hg3 := B3.lt
  have hz3 := hbw3.size
  clear c0 c2 c3 hb3 B2 HV2 HE2 HO2
  have c0 := B3.cell 0; have c2 := B3.cell 2; have c3 := B3.cell 3
  simp at c0 c2 c3
  have hle := HO3.out.le
  simp only [List.length_map] at hle
  go_wp2_with fail
  refine (HRP.out A cap hle.1 hle.2 _ HO3.out.arg (H2.out.below hbw3) (H3.out.below hbw3 (fun _ => h3b)) (by omega)).mono ?_
  rintro e w4 ⟨⟨A4, cap4, rfl, hown4⟩, hb4⟩
  have B4 := B3.below hb4 hg3
  have hbw4 : Below w.heap.size w w4 := hbw3.trans (hb4.mono hz3)
  have HV4 := Lib.hid (HV3.out.below hb4)
  have HE4 := Lib.hid (HE3.out.below hb4 HE3.out.lt)
  have HO4 := Lib.hid hown4
  have hz4 := hbw4.size
  clear c0 c2 c3 hb4 B3 HV3 HE3 HO3 hown4 hle
  have c0 := B4.cell 0; have c2 := B4.cell 2; have c3 := B4.cell 3
  simp at c0 c2 c3
  go_wp2_with fail
  refine (HW3.out bm bs A4 cap4 _ HV4.out HE4.out HO4.out.arg).mono ?_
  rintro e w5 ⟨rfl, hb5⟩
  have hbw5 : Below w.heap.size w w5 := hbw4.trans (hb5.mono hz4)
  clear c0 c2 c3
  go_wp2
  go_ret3
  exact ⟨rfl, hbw5⟩

end Go.Proofs.YtkhgmoljhehbnaaDoor
