/- The walks of lex.Kind and lex.Apart. -/
import Derived.Test.YtkhgmoljhehbnaaDoorW10
namespace Go.Proofs.YtkhgmoljhehbnaaDoor
open Go.RowKit

def kindOk (t : ByteArray) (r : Option (Nat × Lx.B)) : Bool := r.isSome && (optS r).data.toList == t.data.toList

set_option maxHeartbeats 1000000 in
theorem kind_any (t : ByteArray) (hs : t.size ≤ 281474976710656) (w : World) (he : Env w) :
    Calls Tryd.prog 27 #[.string t] w fun e w' => e = .returned (if kindOk t (Lx.tok t.data.toList) then .tuple #[.int .u8 (optK (Lx.tok t.data.toList)), .int .i64 0] else .tuple #[.int .u8 0, .int .i64 4]) ∧ Below w.heap.size w w' := by
  have hv := newVocabulary_any w
  have hf := fun bm bs W hv he => first_ex t hs bm bs W hv he
  have hk : kindOk t (Lx.tok t.data.toList) = ((Lx.tok t.data.toList).isSome && ((optS (Lx.tok t.data.toList)).toList == t.toList)) := by unfold kindOk; rw [Lib.toList_data, Lib.toList_data]
  generalize kindOk t (Lx.tok t.data.toList) = q at hk ⊢
  generalize Lx.tok t.data.toList = r at hf hk ⊢
  generalize optK r = rk at hf ⊢
  generalize optS r = rs at hf hk ⊢
  generalize r.isSome = rb at hf hk ⊢
  have HF := Lib.hid hf
  have HE := Lib.hid he
  clear hf he
  unfold vocV at hv
  cases rb
  · subst hk
    simp only [Bool.false_and, Bool.false_eq_true, if_false]
    go_enter Tryd.func27, Tryd.ntmps27
    go_wp2_with fail
    refine hv.mono ?_
    rintro e w1 ⟨bm, bs, rfl, hV, h1, h2, hb1⟩
    have HV := Lib.hid hV
    clear hV h1 h2
    go_wp2_with fail
    refine (HF.out bm bs w1 HV.out (HE.out.below hb1 HE.out.lt)).mono ?_
    rintro e w2 ⟨rfl, hb2⟩
    have hz := hb1.size
    have hz2 := hb2.size
    go_wp2
    go_ret2
    exact ⟨rfl, (hb1.trans (hb2.mono hz)).alloc (by omega) _⟩
  · rw [Bool.true_and] at hk
    cases hq : (rs.toList == t.toList)
    · rw [hq] at hk; subst hk
      have hq2 : (!(rs.toList == t.toList)) = true := by rw [hq]; rfl
      simp only [Bool.false_eq_true, if_false]
      go_enter Tryd.func27, Tryd.ntmps27
      go_wp2_with fail
      refine hv.mono ?_
      rintro e w1 ⟨bm, bs, rfl, hV, h1, h2, hb1⟩
      have HV := Lib.hid hV
      clear hV h1 h2
      go_wp2_with fail
      refine (HF.out bm bs w1 HV.out (HE.out.below hb1 HE.out.lt)).mono ?_
      rintro e w2 ⟨rfl, hb2⟩
      have hz := hb1.size
      have hz2 := hb2.size
      go_wp2
      go_ret2
      exact ⟨rfl, (hb1.trans (hb2.mono hz)).alloc (by omega) _⟩
    · rw [hq] at hk; subst hk
      have hq2 : (!(rs.toList == t.toList)) = false := by rw [hq]; rfl
      simp only [if_true]
      go_enter Tryd.func27, Tryd.ntmps27
      go_wp2_with fail
      refine hv.mono ?_
      rintro e w1 ⟨bm, bs, rfl, hV, h1, h2, hb1⟩
      have HV := Lib.hid hV
      clear hV h1 h2
      go_wp2_with fail
      refine (HF.out bm bs w1 HV.out (HE.out.below hb1 HE.out.lt)).mono ?_
      rintro e w2 ⟨rfl, hb2⟩
      have hz := hb1.size
      have hz2 := hb2.size
      go_wp2
      go_ret2
      exact ⟨rfl, (hb1.trans (hb2.mono hz)).alloc (by omega) _⟩

set_option maxRecDepth 100000 in
set_option maxHeartbeats 1000000 in
theorem Apart_any (ka kb : Nat) (ta tb : ByteArray) (aa ab : Int) (hsa : ta.size ≤ 100000000) (hsb : tb.size ≤ 100000000) (w : World) (he : Env w) :
    Calls Tryd.prog 29 #[lexV ka ta aa, lexV kb tb ab] w fun e w' => e = .returned (if rightB ka ta && rightB kb tb then .tuple #[.bool (apartB ka ta tb), .int .i64 0] else .tuple #[.bool false, .int .i64 4]) ∧ Below w.heap.size w w' := by
  have hv := newVocabulary_any ((w.alloc (.cells #[.int .u8 ka, .string ta, .int .i64 aa] 47)).alloc (.cells #[.int .u8 kb, .string tb, .int .i64 ab] 47))
  have hra := fun bm bs W hv he => right_any ka ta aa (by omega) bm bs W hv he
  have hrb := fun bm bs W hv he => right_any kb tb ab (by omega) bm bs W hv he
  have hap := fun bm bs W hv he => apart_any ka kb ta tb aa ab (by omega) bm bs W hv he
  generalize rightB ka ta = qa at hra ⊢
  generalize rightB kb tb = qb at hrb ⊢
  generalize apartB ka ta tb = q at hap ⊢
  have HE := Lib.hid ((he.alloc (.cells #[.int .u8 ka, .string ta, .int .i64 aa] 47)).alloc (.cells #[.int .u8 kb, .string tb, .int .i64 ab] 47))
  have hlt := he.lt
  clear he
  unfold vocV lexV at hra hrb hap
  unfold vocV at hv
  unfold lexV
  have HRA := Lib.hid hra
  have HRB := Lib.hid hrb
  have HAP := Lib.hid hap
  clear hra hrb hap
  have hla : LexAt ((w.alloc (.cells #[.int .u8 ka, .string ta, .int .i64 aa] 47)).alloc (.cells #[.int .u8 kb, .string tb, .int .i64 ab] 47)) w.heap.size ka ta aa :=
    (LexAt.new w ka ta aa 47).below (B := w.heap.size + 1) ((Below.refl _ _).alloc (by simp) _) (by omega)
  have hlb : LexAt ((w.alloc (.cells #[.int .u8 ka, .string ta, .int .i64 aa] 47)).alloc (.cells #[.int .u8 kb, .string tb, .int .i64 ab] 47)) (w.heap.size + 1) kb tb ab := by
    have := LexAt.new (w.alloc (.cells #[.int .u8 ka, .string ta, .int .i64 aa] 47)) kb tb ab 47
    rwa [World.size_alloc] at this
  have hb0 : Below w.heap.size w ((w.alloc (.cells #[.int .u8 ka, .string ta, .int .i64 aa] 47)).alloc (.cells #[.int .u8 kb, .string tb, .int .i64 ab] 47)) := ((Below.refl _ _).alloc (Nat.le_refl _) _).alloc (by simp) _
  simp only [World.size_alloc] at hv
  have h8 : 8 ≤ w.heap.size + 1 + 1 := by omega
  go_enter Tryd.func29, Tryd.ntmps29
  go_wp2_with fail
  refine hv.mono ?_
  rintro e w1 ⟨bm, bs, rfl, hV, h1, h2, hb1⟩
  have HV := Lib.hid hV
  have hz := hb1.size
  simp only [World.size_alloc] at hz
  have hva : VocAt (w1.alloc (vocObj bm bs)) w1.heap.size bm bs := VocAt.new w1 bm bs
  have hb2 : Below (w.heap.size + 1 + 1) ((w.alloc (.cells #[.int .u8 ka, .string ta, .int .i64 aa] 47)).alloc (.cells #[.int .u8 kb, .string tb, .int .i64 ab] 47)) (w1.alloc (vocObj bm bs)) := hb1.alloc hz _
  have hla2 := hla.below hb2 (by omega)
  have hlb2 := hlb.below hb2 (by omega)
  obtain ⟨x0, x1, x2⟩ := hla2
  obtain ⟨y0, y1, y2⟩ := hlb2
  have HE2 := Lib.hid (HE.out.below hb2 h8)
  have HV2 := Lib.hid (HV.out.alloc (vocObj bm bs))
  have hbw : Below w.heap.size w (w1.alloc (vocObj bm bs)) := hb0.trans (hb2.mono (by omega))
  clear hV hv h1 h2 hla hlb hb0 HE
  go_wp2_with fail
  refine (HRA.out bm bs _ HV2.out HE2.out).mono ?_
  rintro e w2 ⟨rfl, hb3⟩
  obtain ⟨u0, u1⟩ := hva.below hb3 (by simp)
  obtain ⟨p0, p1, p2⟩ := (show LexAt _ _ _ _ _ from ⟨x0, x1, x2⟩).below hb3 (by simp; omega)
  obtain ⟨q0, q1, q2⟩ := (show LexAt _ _ _ _ _ from ⟨y0, y1, y2⟩).below hb3 (by simp; omega)
  have HE3 := Lib.hid (HE2.out.below hb3 HE2.out.lt)
  have HV3 := Lib.hid (HV2.out.below hb3)
  have hz3 := hb3.size
  simp only [World.size_alloc] at hz3
  cases qa
  · dsimp only
    go_wp2
    go_ret2
    exact ⟨rfl, hbw.trans (hb3.mono (by simp; omega))⟩
  · go_wp2_with fail
    refine (HRB.out bm bs _ HV3.out HE3.out).mono ?_
    rintro e w3 ⟨rfl, hb4⟩
    obtain ⟨u0', u1'⟩ := (show VocAt _ _ _ _ from ⟨u0, u1⟩).below hb4 (by omega)
    obtain ⟨p0', p1', p2'⟩ := (show LexAt _ _ _ _ _ from ⟨p0, p1, p2⟩).below hb4 (by omega)
    obtain ⟨q0', q1', q2'⟩ := (show LexAt _ _ _ _ _ from ⟨q0, q1, q2⟩).below hb4 (by omega)
    have HE4 := Lib.hid (HE3.out.below hb4 HE3.out.lt)
    have HV4 := Lib.hid (HV3.out.below hb4)
    have hz4 := hb4.size
    have hbw4 : Below w.heap.size w w3 := (hbw.trans (hb3.mono (by simp; omega))).trans (hb4.mono (by omega))
    cases qb
    · dsimp only
      go_wp2
      go_ret2
      exact ⟨rfl, hbw4⟩
    · go_wp2_with fail
      refine (HAP.out bm bs _ HV4.out HE4.out).mono ?_
      rintro e w4 ⟨rfl, hb5⟩
      go_wp2
      go_ret2
      exact ⟨rfl, hbw4.trans (hb5.mono (by omega))⟩

end Go.Proofs.YtkhgmoljhehbnaaDoor
