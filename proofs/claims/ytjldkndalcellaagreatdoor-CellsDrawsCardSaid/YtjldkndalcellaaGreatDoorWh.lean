/- CellsDraws: the walk of the law: whatever it is given, it returns true. -/
import Derived.Test.YtjldkndalcellaaGreatDoorSo
import Derived.Test.YtjldkndalcellaaGreatDoorWg
import Derived.Test.YtjldkndalcellaaGreatDoorWi
namespace Ce
theorem draw_cases (m : Mem) (l : List V) : (draw m l).1 = ⟨[], []⟩ ∨ (memOk m = true ∧ l.length ≤ 100 ∧ (draw m l).1 = drawn m l) := by
  unfold draw
  cases h1 : memOk m with
  | false => left; rfl
  | true =>
    cases h2 : (decide (l.length ≤ 100) && areValues l m.length) with
    | false => left; rfl
    | true =>
      rw [Bool.and_eq_true] at h2
      exact .inr ⟨rfl, of_decide_eq_true h2.1, rfl⟩
end Ce
namespace Go.Proofs.YtjldkndalcellaaGreatDoor
open Go.RowKit Go.El

/-- copies of a memory, of values and of a picture, the first and the third in boxes -/
def Copied (m : Ce.Mem) (l : List Ce.V) (p : Ce.Pic) (g24 g37 n nv nc : Nat) (B' X V' C' : Option Addr) (c' cx cv' cc' : Nat) (U : World) : Prop :=
  ((MemAt U B' m ∧ U.cell? ⟨g24, 0, none⟩ = some (.slice B' n c')) ∧ (PicAt U V' cv' C' p ∧ U.cell? ⟨g37, 0, none⟩ = some (.slice V' nv cv') ∧ U.cell? ⟨g37, 1, none⟩ = some (.slice C' nc cc'))) ∧ SlAt ValE U ⟨X, l.length, cx⟩ l
theorem fin_core {W3 wc Wx : World} {g24 g37 n nv nc : Nat} {base1 base2 base3 : Nat} {B' X V' C' : Option Addr} {c' cx cv' cc' : Nat} {hs : List (Sl × Sl)} {ks : List Sl} {m : Ce.Mem} {l : List Ce.V} {p : Ce.Pic}
    (hB : Below W3.heap.size W3 Wx) (kk : KeepsB wc Wx) (m3 : Blk Wx g24 24 #[.slice B' n c']) (p3 : Blk Wx g37 37 #[.slice V' nv cv', .slice C' nc cc'])
    (hmo : MO wc base1 B' c' hs m) (hov : ValE.Own 57 wc base2 X cx l) (hvo : ValE.Own 57 wc base3 V' cv' p.vals) (hlo : LO wc base3 C' cc' ks p.cells) :
    Hid (Stay (Copied m l p g24 g37 n nv nc B' X V' C' c' cx cv' cc') Wx) ∧ Hid (Below W3.heap.size W3 Wx) := by
  have s1 := (hmo.keepsB kk).at_.stay
  have s2 := Blk.stay m3
  have s3 := PicAt.stay (LO.picV (p := p) (kk.own hvo (by decide) (by decide)) (hlo.keepsB kk)).at_
  have s4 := Blk.stay p3
  have s5 := SlAt_stay (SlAt.of_own (kk.own hov (by decide) (by decide)))
  exact ⟨Lib.hid fun U hu => ⟨⟨⟨s1 U hu, (s2 U hu).cell 0⟩, s3 U hu, (s4 U hu).cell 0, (s4 U hu).cell 1⟩, s5 U hu⟩, Lib.hid hB⟩
theorem blk_last {W W2 : World} {g : Nat} {t : TypeId} {cs : Array Value} (hz : W2.heap.size = W.heap.size) (hg : g = W.heap.size) : Blk (W2.alloc (.cells cs t)) g t cs := by
  subst hg
  have q := Blk.new W2 t cs
  rwa [hz] at q
theorem fin_ma {W3 wc : World} {g24 n nv nc : Nat} {base1 base2 base3 : Nat} {B' X V' C' : Option Addr} {c' cx cv' cc' : Nat} {hs : List (Sl × Sl)} {ks : List Sl} {m : Ce.Mem} {l : List Ce.V} {p : Ce.Pic}
    (hX : Below W3.heap.size W3 wc) (b24 : Blk wc g24 24 #[.slice none 0 0]) (h24 : W3.heap.size ≤ g24)
    (hmo : MO wc base1 B' c' hs m) (hov : ValE.Own 57 wc base2 X cx l) (hvo : ValE.Own 57 wc base3 V' cv' p.vals) (hlo : LO wc base3 C' cc' ks p.cells) :
    Hid (Stay (Copied m l p g24 wc.heap.size n nv nc B' X V' C' c' cx cv' cc') ((wc.setCell ⟨g24, 0, none⟩ (.slice B' n c')).alloc (.cells #[.slice V' nv cv', .slice C' nc cc'] 37))) ∧ Hid (Below W3.heap.size W3 ((wc.setCell ⟨g24, 0, none⟩ (.slice B' n c')).alloc (.cells #[.slice V' nv cv', .slice C' nc cc'] 37))) := by
  have hs1 : (wc.setCell ⟨g24, 0, none⟩ (.slice B' n c')).heap.size = wc.heap.size := by simp [World.setCell]
  have hb1 := hX.setCell (p := ⟨g24, 0, none⟩) h24 (.slice B' n c')
  exact fin_core (hb1.alloc (by rw [hs1]; exact hX.size) _) ((KeepsB.set b24 (.inl rfl)).trans (KeepsB.below ((Below.refl _ _).alloc (Nat.le_refl _) _))) ((b24.set_ 0 (.slice B' n c')).alloc _) (blk_last hs1 rfl) hmo hov hvo hlo
theorem fin_pa {W3 wc : World} {g37 n nv nc : Nat} {base1 base2 base3 : Nat} {B' X V' C' : Option Addr} {c' cx cv' cc' : Nat} {hs : List (Sl × Sl)} {ks : List Sl} {m : Ce.Mem} {l : List Ce.V} {p : Ce.Pic}
    (hX : Below W3.heap.size W3 wc) (b37 : Blk wc g37 37 #[.slice none 0 0, .slice none 0 0]) (h37 : W3.heap.size ≤ g37)
    (hmo : MO wc base1 B' c' hs m) (hov : ValE.Own 57 wc base2 X cx l) (hvo : ValE.Own 57 wc base3 V' cv' p.vals) (hlo : LO wc base3 C' cc' ks p.cells) :
    Hid (Stay (Copied m l p wc.heap.size g37 n nv nc B' X V' C' c' cx cv' cc') (((wc.setCell ⟨g37, 0, none⟩ (.slice V' nv cv')).setCell ⟨g37, 1, none⟩ (.slice C' nc cc')).alloc (.cells #[.slice B' n c'] 24))) ∧ Hid (Below W3.heap.size W3 (((wc.setCell ⟨g37, 0, none⟩ (.slice V' nv cv')).setCell ⟨g37, 1, none⟩ (.slice C' nc cc')).alloc (.cells #[.slice B' n c'] 24))) := by
  have hs1 : ((wc.setCell ⟨g37, 0, none⟩ (.slice V' nv cv')).setCell ⟨g37, 1, none⟩ (.slice C' nc cc')).heap.size = wc.heap.size := by simp [World.setCell]
  have hb1 := (hX.setCell (p := ⟨g37, 0, none⟩) h37 (.slice V' nv cv')).setCell (p := ⟨g37, 1, none⟩) h37 (.slice C' nc cc')
  have p2 := b37.set_ 0 (.slice V' nv cv')
  exact fin_core (hb1.alloc (by rw [hs1]; exact hX.size) _) (((KeepsB.set b37 (.inr rfl)).trans (KeepsB.set p2 (.inr rfl))).trans (KeepsB.below ((Below.refl _ _).alloc (Nat.le_refl _) _))) (blk_last hs1 rfl) ((p2.set_ 1 (.slice C' nc cc')).alloc _) hmo hov hvo hlo
theorem fin_mp {W3 wc Wx : World} {g24 g37 n nv nc : Nat} {base1 base2 base3 : Nat} {B' X V' C' : Option Addr} {c' cx cv' cc' : Nat} {hs : List (Sl × Sl)} {ks : List Sl} {m : Ce.Mem} {l : List Ce.V} {p : Ce.Pic}
    (hX : Below W3.heap.size W3 wc) (hE : Below wc.heap.size wc Wx) (b24 : Blk Wx g24 24 #[.slice none 0 0]) (b37 : Blk Wx g37 37 #[.slice none 0 0, .slice none 0 0]) (h24 : W3.heap.size ≤ g24) (h37 : W3.heap.size ≤ g37)
    (hmo : MO wc base1 B' c' hs m) (hov : ValE.Own 57 wc base2 X cx l) (hvo : ValE.Own 57 wc base3 V' cv' p.vals) (hlo : LO wc base3 C' cc' ks p.cells) :
    Hid (Stay (Copied m l p g24 g37 n nv nc B' X V' C' c' cx cv' cc') (((Wx.setCell ⟨g24, 0, none⟩ (.slice B' n c')).setCell ⟨g37, 0, none⟩ (.slice V' nv cv')).setCell ⟨g37, 1, none⟩ (.slice C' nc cc'))) ∧
    Hid (Below W3.heap.size W3 (((Wx.setCell ⟨g24, 0, none⟩ (.slice B' n c')).setCell ⟨g37, 0, none⟩ (.slice V' nv cv')).setCell ⟨g37, 1, none⟩ (.slice C' nc cc'))) := by
  have hne : g24 ≠ g37 := b24.ne b37 (by decide)
  have p1 := b37.other (j := 0) (v := .slice B' n c') (Ne.symm hne)
  have p2 := p1.set_ 0 (.slice V' nv cv')
  exact fin_core ((((hX.trans (hE.mono hX.size)).setCell (p := ⟨g24, 0, none⟩) h24 _).setCell (p := ⟨g37, 0, none⟩) h37 _).setCell (p := ⟨g37, 1, none⟩) h37 _)
    ((KeepsB.below hE).trans ((KeepsB.set b24 (.inl rfl)).trans ((KeepsB.set p1 (.inr rfl)).trans (KeepsB.set p2 (.inr rfl))))) (((b24.set_ 0 (.slice B' n c')).other hne).other hne) (p2.set_ 1 (.slice C' nc cc')) hmo hov hvo hlo
theorem fin_0 {W3 wc Wx : World} {g24 g37 n nv nc : Nat} {base1 base2 base3 : Nat} {B' X V' C' : Option Addr} {c' cx cv' cc' : Nat} {hs : List (Sl × Sl)} {ks : List Sl} {m : Ce.Mem} {l : List Ce.V} {p : Ce.Pic}
    (hX : Below W3.heap.size W3 wc) (hE : Below wc.heap.size wc Wx) (m1 : Blk Wx g24 24 #[.slice B' n c']) (p3 : Blk Wx g37 37 #[.slice V' nv cv', .slice C' nc cc'])
    (hmo : MO wc base1 B' c' hs m) (hov : ValE.Own 57 wc base2 X cx l) (hvo : ValE.Own 57 wc base3 V' cv' p.vals) (hlo : LO wc base3 C' cc' ks p.cells) :
    Hid (Stay (Copied m l p g24 g37 n nv nc B' X V' C' c' cx cv' cc') Wx) ∧ Hid (Below W3.heap.size W3 Wx) := fin_core (hX.trans (hE.mono hX.size)) (KeepsB.below hE) m1 p3 hmo hov hvo hlo
theorem ne1 {a s g : Nat} (h1 : a < s) (h2 : s ≤ g) : a ≠ g := by omega
theorem ne2 {a s g : Nat} (h1 : a < s) (h2 : s ≤ g) : g ≠ a := by omega
theorem szp_draw (m : Ce.Mem) (l : List Ce.V) : Szp (Ce.draw m l).1 := by
  rcases Ce.draw_cases m l with h | ⟨h1, h2, h3⟩
  · rw [h]; exact ⟨Nat.zero_le _, Nat.zero_le _, fun i s hs => by simp at hs⟩
  · rw [h3]; exact szp_drawnOk h1 h2
theorem same_self (p : Ce.Pic) (hp : Szp p) (V1 C1 V2 C2 : Option Addr) (cv1 cc1 cv2 cc2 : Nat) (w : World) (h1 : PicAt w V1 cv1 C1 p) (h2 : PicAt w V2 cv2 C2 p) :
    Calls Tryz.prog 22 #[.agg #[.slice V1 p.vals.length cv1, .slice C1 p.cells.length cc1], .agg #[.slice V2 p.vals.length cv2, .slice C2 p.cells.length cc2]] w fun e w' => e = .returned (.bool true) ∧ Below w.heap.size w w' := by
  have := samePic_any p p hp V1 C1 V2 C2 cv1 cc1 cv2 cc2 w h1 h2
  rwa [decide_eq_true rfl] at this
set_option maxRecDepth 100000 in
set_option maxHeartbeats 8000000 in
theorem draws_any (h : Prg) (m : Ce.Mem) (hm : Bgm m) (l : List Ce.V) (hl : l.length ≤ maxLen) (p : Ce.Pic) (hp : Bgp p) (A B V C : Option Addr) (c cl cv cc : Nat) (w : World) (h1 : MemAt w A m) (h2 : SlAt ValE w ⟨B, l.length, cl⟩ l) (h3 : PicAt w V cv C p) :
    Calls Tryz.prog 4 #[.agg #[.slice A m.length c], .slice B l.length cl, .agg #[.slice V p.vals.length cv, .slice C p.cells.length cc]] w fun e w' => e = .returned (.bool true) ∧ Below w.heap.size w w' := by
  have HAW := Lib.hid (fun W => awake_any h W)
  have hb0 : Below w.heap.size w ((w.alloc (Obj.cells #[.slice A m.length c] 24)).alloc (.cells #[.slice V p.vals.length cv, .slice C p.cells.length cc] 37)) := ((Below.refl _ _).alloc (Nat.le_refl _) _).alloc (by simp) _
  have HTH := Lib.hid (thin_any m hm A c _ (h1.below hb0))
  have hx1 := (box1 (W := w) (v := .slice A m.length c) (t := 24)).alloc (.cells #[.slice V p.vals.length cv, .slice C p.cells.length cc] 37)
  have hx2 := box2 (W := w.alloc (Obj.cells #[.slice A m.length c] 24)) (v := .slice V p.vals.length cv) (u := .slice C p.cells.length cc) (t := 37)
  simp only [World.size_alloc] at hx2
  have HS0 := Lib.hid ((((h1.stay.step hb0).and hx1).and ((h3.stay.step hb0).and hx2)).and ((SlAt_stay h2).step hb0))
  have HB0 := Lib.hid hb0
  have HTP := Lib.hid (fun W hh => thinPic_any p hp V C cv cc W hh)
  have HCP := Lib.hid (fun (hz : Sz m) W (hh : MemAt W A m) => copy6_any m hz A c W hh)
  have HVL := Lib.hid (fun (hz : l.length ≤ 1000) W (hh : SlAt ValE W ⟨B, l.length, cl⟩ l) => values_any l (by omega) B cl hh.none_ W hh.arg)
  have HCPP := Lib.hid (fun (hz : Szp p) W (hh : PicAt W V cv C p) => copyPic_any p hz V C cv cc W hh)
  have HDC := Lib.hid (fun (hz : Sz m) (hl : l.length ≤ 1000) A c B cl W (h1 : MemAt W A m) (h2 : SlAt ValE W ⟨B, l.length, cl⟩ l) => (show Calls Tryz.prog 20 _ W (fun e w' => (∃ V cv C cc, e = .returned (.tuple #[.agg #[.slice V (Ce.draw m l).1.vals.length cv, .slice C (Ce.draw m l).1.cells.length cc], .int .i64 (Ce.draw m l).2]) ∧ PicV w' V cv C cc (Ce.draw m l).1) ∧ Below W.heap.size W w') from cdraw_any m hz l hl A B c cl W h1 h2.arg))
  have HDR := Lib.hid (fun (hz : Sz m) (hl : l.length ≤ 1000) A c B cl W (h1 : MemAt W A m) (h2 : SlAt ValE W ⟨B, l.length, cl⟩ l) => (show Calls Tryz.prog 21 _ W (fun e w' => (∃ V cv C cc, e = .returned (.tuple #[.agg #[.slice V (Ce.draw m l).1.vals.length cv, .slice C (Ce.draw m l).1.cells.length cc], .int .i64 (Ce.draw m l).2]) ∧ PicV w' V cv C cc (Ce.draw m l).1) ∧ Below W.heap.size W w') from draw6_any m hz l hl A B c cl W h1 h2))
  have HSM := Lib.hid (fun (hz : Sz m) B C c d W (hh : MemAt W B m) (h2 : MemAt W C m) => same6_any m hz B C c d W hh h2)
  have HSV := Lib.hid (fun (hz : l.length ≤ 1000) A C c1 c2 W h1 h2 => sameValues_eq l (by unfold maxLen; omega) A C c1 c2 W h1 h2)
  have HIP := Lib.hid (fun (hz : Szp p) V C cv cc W (hh : PicAt W V cv C p) => isPicture_any p hz V C cv cc W hh)
  have HIR := Lib.hid (fun (hz : Szp p) V C cv cc W (hh : PicAt W V cv C p) => isPicture6_any p hz V C cv cc W hh)
  have HSPP := Lib.hid (fun (hz : Szp p) V1 C1 V2 C2 a b c d W h1 h2 => same_self p hz V1 C1 V2 C2 a b c d W h1 h2)
  have HSPD := Lib.hid (fun (_ : Sz m) (_ : l.length ≤ 1000) V1 C1 V2 C2 a b c d W h1 h2 => same_self (Ce.draw m l).1 (szp_draw m l) V1 C1 V2 C2 a b c d W h1 h2)
  have hll : (l.length : Int) ≤ 9223372036854775807 := by unfold maxLen at hl; omega
  generalize m.length = n at *
  generalize p.vals.length = nv at *
  generalize p.cells.length = nc at *
  clear h hm hp h1 h2 h3 hb0 hx1 hx2 hl
  go_enter Tryz.func4, Tryz.ntmps4
  go_wp2_with fail
  refine HTH.out.mono ?_
  rintro e w1 ⟨⟨b, rfl, hbt⟩, hb1⟩
  have HS1 := Lib.hid (HS0.out.step hb1)
  have HB1 := Lib.hid (HB0.out.trans (hb1.mono HB0.out.size))
  clear hb1 HS0 HB0
  cases b with
  | false =>
    clear hbt
    go_wp2_with fail
    refine (HAW.out _).mono ?_
    rintro e w9 ⟨rfl, hb9⟩
    go_wp2
    go_ret
    exact ⟨rfl, HB1.out.trans (hb9.mono HB1.out.size)⟩
  | true =>
    by_cases l14 : 14 < l.length
    · have l14' : (14 : Int) < l.length := by omega
      by_cases l100 : l.length ≤ 100
      · have l100' : (l.length : Int) ≤ 100 := by omega
        go_wp2_with fail
        refine (HAW.out _).mono ?_
        rintro e w9 ⟨rfl, hb9⟩
        go_wp2
        go_ret
        exact ⟨rfl, HB1.out.trans (hb9.mono HB1.out.size)⟩
      have l100' : decide ((l.length : Int) ≤ 100) = false := decide_eq_false (by omega)
      by_cases l104 : 104 < l.length
      · have l104' : (104 : Int) < l.length := by omega
        go_wp2_with fail
        refine (HAW.out _).mono ?_
        rintro e w9 ⟨rfl, hb9⟩
        go_wp2
        go_ret
        exact ⟨rfl, HB1.out.trans (hb9.mono HB1.out.size)⟩
      have l104' : decide ((104 : Int) < l.length) = false := decide_eq_false (by omega)
      have HL4 : Hid (l.length ≤ 1000) := Lib.hid (by omega)
      obtain ⟨⟨_, hpa, b0, b1⟩, _⟩ := HS1.out.at_
      have HPA1 := Lib.hid hpa
      clear hpa
      go_wp2_with fail
      refine (HTP.out _ HPA1.out).mono ?_
      rintro e W3 ⟨⟨b, rfl, hbp⟩, hb3⟩
      have HS3 := Lib.hid (HS1.out.step hb3)
      have HB3 := Lib.hid (HB1.out.trans (hb3.mono HB1.out.size))
      clear hb3 HS1 HB1 HPA1 b0 b1
      cases b with
      | false =>
        clear hbp
        go_wp2_with fail
        refine (HAW.out _).mono ?_
        rintro e w9 ⟨rfl, hb9⟩
        go_wp2
        go_ret
        exact ⟨rfl, HB3.out.trans (hb9.mono HB3.out.size)⟩
      | true =>
        have HZ := Lib.hid (thin_sz (hbt (by trivial)))
        have HZP := Lib.hid (thin_szp (hbp (by trivial)))
        clear hbt hbp
        have HCP := Lib.hid (HCP.out HZ.out)
        have HDC := Lib.hid (HDC.out HZ.out HL4.out)
        have HDR := Lib.hid (HDR.out HZ.out HL4.out)
        have HSM := Lib.hid (HSM.out HZ.out)
        have HVL := Lib.hid (HVL.out HL4.out)
        have HSV := Lib.hid (HSV.out HL4.out)
        have HCPP := Lib.hid (HCPP.out HZP.out)
        have HIP := Lib.hid (HIP.out HZP.out)
        have HIR := Lib.hid (HIR.out HZP.out)
        have HSPP := Lib.hid (HSPP.out HZP.out)
        have HSPD := Lib.hid (HSPD.out HZ.out HL4.out)
        clear HZ HZP HL4 HTH HTP
        have HALL : Hid (∀ W, Below W3.heap.size W3 W → W.cell? ⟨w.heap.size, 0, none⟩ = some (.slice A n c) ∧ W.cell? ⟨w.heap.size + 1, 0, none⟩ = some (.slice V nv cv) ∧ W.cell? ⟨w.heap.size + 1, 1, none⟩ = some (.slice C nc cc)) := Lib.hid fun W hb => ⟨(HS3.out W hb).1.1.2, (HS3.out W hb).1.2.2⟩
        have HMA := Lib.hid fun W (hb : Below W3.heap.size W3 W) => (HS3.out W hb).1.1.1
        have HPA := Lib.hid fun W (hb : Below W3.heap.size W3 W) => (HS3.out W hb).1.2.1
        have HLA := Lib.hid fun W (hb : Below W3.heap.size W3 W) => (HS3.out W hb).2
        obtain ⟨a0, a1, a2⟩ := HALL.out _ (Below.refl _ _)
        have q0 : w.heap.size < W3.heap.size := lt_of_cell a0
        have q1 : w.heap.size + 1 < W3.heap.size := lt_of_cell a1
        clear HS3
        go_wp2_with fail
        go_cut [7, 8, 9] (fun va vb vd wx => ∃ (ga gd : Nat) (B' : Option Addr) (c' : Nat) (X : Option Addr) (cx : Nat) (V' : Option Addr) (cv' : Nat) (C' : Option Addr) (cc' : Nat), va = .pointer (some ⟨ga, 0, none⟩) ∧ vb = .slice X l.length cx ∧ vd = .pointer (some ⟨gd, 0, none⟩) ∧ Hid (Stay (Copied m l p ga gd n nv nc B' X V' C' c' cx cv' cc') wx) ∧ Hid (Below W3.heap.size W3 wx))
        case first =>
          clear HDC HDR HSM HSV HIP HIR HSPP HSPD HAW
          go_region_held3 (fun W => W.cell? ⟨w.heap.size, 0, none⟩ = some (.slice A n c) ∧ W.cell? ⟨w.heap.size + 1, 0, none⟩ = some (.slice V nv cv) ∧ W.cell? ⟨w.heap.size + 1, 1, none⟩ = some (.slice C nc cc))
            (go_keep)
            (first
              | (go_at_call 11; refine (HCP.out _ (HMA.out _ ?hw)).mono ?_; (case hw => first | (with_reducible exact (Below.refl W3.heap.size W3).drew) | (with_reducible exact ((Below.refl W3.heap.size W3).alloc (Nat.le_refl _) _).drew) | (with_reducible exact (((Below.refl W3.heap.size W3).alloc (Nat.le_refl _) _).alloc (by simp) _).drew)); rintro e wa ⟨⟨B', c', hs', rfl, hmo⟩, hb⟩; have hL : Below W3.heap.size W3 wa := by first | (with_reducible exact (Below.refl W3.heap.size W3).drew.trans (hb.mono (by simp <;> omega))) | (with_reducible exact ((Below.refl W3.heap.size W3).alloc (Nat.le_refl _) _).drew.trans (hb.mono (by simp <;> omega))) | (with_reducible exact (((Below.refl W3.heap.size W3).alloc (Nat.le_refl _) _).alloc (by simp) _).drew.trans (hb.mono (by simp <;> omega))) | (exact (Below.refl W3.heap.size W3).drew.trans (hb.mono (by simp; omega))) | (exact ((Below.refl W3.heap.size W3).alloc (Nat.le_refl _) _).drew.trans (hb.mono (by simp; omega))) | (exact (((Below.refl W3.heap.size W3).alloc (Nat.le_refl _) _).alloc (by simp) _).drew.trans (hb.mono (by simp; omega)))
                 have hX : Below W3.heap.size W3 wa := hL
                 obtain ⟨a0, a1, a2⟩ := HALL.out _ hX
                 first | (have b24 : _ ∧ W3.heap.size ≤ _ := ⟨b24.1.below hL, b24.2⟩) | (have b24 : Blk wa W3.heap.size 24 #[.slice none 0 0] ∧ W3.heap.size ≤ W3.heap.size := ⟨by first | exact ((Blk.new W3 24 #[.slice none 0 0]).drew).below hb | exact (((Blk.new W3 24 #[.slice none 0 0]).alloc (.cells #[.slice none 0 0, .slice none 0 0] 37)).drew).below hb, by omega⟩) | (have b24 : Blk wa (W3.heap.size + 1) 24 #[.slice none 0 0] ∧ W3.heap.size ≤ W3.heap.size + 1 := ⟨by have q := ((Blk.new (W3.alloc (.cells #[.slice none 0 0, .slice none 0 0] 37)) 24 #[.slice none 0 0]).drew).below hb; simpa using q, by omega⟩) | (skip)
                 first | (have b37 : _ ∧ W3.heap.size ≤ _ := ⟨b37.1.below hL, b37.2⟩) | (have b37 : Blk wa W3.heap.size 37 #[.slice none 0 0, .slice none 0 0] ∧ W3.heap.size ≤ W3.heap.size := ⟨by first | exact ((Blk.new W3 37 #[.slice none 0 0, .slice none 0 0]).drew).below hb | exact (((Blk.new W3 37 #[.slice none 0 0, .slice none 0 0]).alloc (.cells #[.slice none 0 0] 24)).drew).below hb, by omega⟩) | (have b37 : Blk wa (W3.heap.size + 1) 37 #[.slice none 0 0, .slice none 0 0] ∧ W3.heap.size ≤ W3.heap.size + 1 := ⟨by have q := ((Blk.new (W3.alloc (.cells #[.slice none 0 0] 24)) 37 #[.slice none 0 0, .slice none 0 0]).drew).below hb; simpa using q, by omega⟩) | (skip)
                 have hsa := hX.size
                 clear hb hL)
              | (go_at_call 18; refine (HVL.out _ (HLA.out _ (hX.trans (Below.mono ?hw hX.size)))).mono ?_; (case hw => first | (with_reducible exact (Below.refl wa.heap.size wa)) | (with_reducible exact ((Below.refl wa.heap.size wa).alloc (Nat.le_refl _) _)) | (with_reducible exact (((Below.refl wa.heap.size wa).alloc (Nat.le_refl _) _).alloc (by simp) _))); rintro e wb ⟨⟨X, cx, rfl, hov⟩, hb⟩; have hL : Below wa.heap.size wa wb := by first | (with_reducible exact (Below.refl wa.heap.size wa).trans (hb.mono (by simp <;> omega))) | (with_reducible exact ((Below.refl wa.heap.size wa).alloc (Nat.le_refl _) _).trans (hb.mono (by simp <;> omega))) | (with_reducible exact (((Below.refl wa.heap.size wa).alloc (Nat.le_refl _) _).alloc (by simp) _).trans (hb.mono (by simp <;> omega))) | (exact (Below.refl wa.heap.size wa).trans (hb.mono (by simp; omega))) | (exact ((Below.refl wa.heap.size wa).alloc (Nat.le_refl _) _).trans (hb.mono (by simp; omega))) | (exact (((Below.refl wa.heap.size wa).alloc (Nat.le_refl _) _).alloc (by simp) _).trans (hb.mono (by simp; omega)))
                 have hmo := hmo.below hL
                 have hX : Below W3.heap.size W3 wb := hX.trans (hL.mono hX.size)
                 obtain ⟨a0, a1, a2⟩ := HALL.out _ hX
                 first | (have b24 : _ ∧ W3.heap.size ≤ _ := ⟨b24.1.below hL, b24.2⟩) | (have b24 : Blk wb wa.heap.size 24 #[.slice none 0 0] ∧ W3.heap.size ≤ wa.heap.size := ⟨by first | exact ((Blk.new wa 24 #[.slice none 0 0])).below hb | exact (((Blk.new wa 24 #[.slice none 0 0]).alloc (.cells #[.slice none 0 0, .slice none 0 0] 37))).below hb, by omega⟩) | (have b24 : Blk wb (wa.heap.size + 1) 24 #[.slice none 0 0] ∧ W3.heap.size ≤ wa.heap.size + 1 := ⟨by have q := ((Blk.new (wa.alloc (.cells #[.slice none 0 0, .slice none 0 0] 37)) 24 #[.slice none 0 0])).below hb; simpa using q, by omega⟩) | (skip)
                 first | (have b37 : _ ∧ W3.heap.size ≤ _ := ⟨b37.1.below hL, b37.2⟩) | (have b37 : Blk wb wa.heap.size 37 #[.slice none 0 0, .slice none 0 0] ∧ W3.heap.size ≤ wa.heap.size := ⟨by first | exact ((Blk.new wa 37 #[.slice none 0 0, .slice none 0 0])).below hb | exact (((Blk.new wa 37 #[.slice none 0 0, .slice none 0 0]).alloc (.cells #[.slice none 0 0] 24))).below hb, by omega⟩) | (have b37 : Blk wb (wa.heap.size + 1) 37 #[.slice none 0 0, .slice none 0 0] ∧ W3.heap.size ≤ wa.heap.size + 1 := ⟨by have q := ((Blk.new (wa.alloc (.cells #[.slice none 0 0] 24)) 37 #[.slice none 0 0, .slice none 0 0])).below hb; simpa using q, by omega⟩) | (skip)
                 have hsa := hX.size
                 clear hb hL)
              | (go_at_call 19; refine (HCPP.out _ (HPA.out _ (hX.trans (Below.mono ?hw hX.size)))).mono ?_; (case hw => first | (with_reducible exact (Below.refl wb.heap.size wb)) | (with_reducible exact ((Below.refl wb.heap.size wb).alloc (Nat.le_refl _) _)) | (with_reducible exact (((Below.refl wb.heap.size wb).alloc (Nat.le_refl _) _).alloc (by simp) _))); rintro e wc ⟨⟨V', cv', C', cc', ks', rfl, hvo, hlo⟩, hb⟩; have hL : Below wb.heap.size wb wc := by first | (with_reducible exact (Below.refl wb.heap.size wb).trans (hb.mono (by simp <;> omega))) | (with_reducible exact ((Below.refl wb.heap.size wb).alloc (Nat.le_refl _) _).trans (hb.mono (by simp <;> omega))) | (with_reducible exact (((Below.refl wb.heap.size wb).alloc (Nat.le_refl _) _).alloc (by simp) _).trans (hb.mono (by simp <;> omega))) | (exact (Below.refl wb.heap.size wb).trans (hb.mono (by simp; omega))) | (exact ((Below.refl wb.heap.size wb).alloc (Nat.le_refl _) _).trans (hb.mono (by simp; omega))) | (exact (((Below.refl wb.heap.size wb).alloc (Nat.le_refl _) _).alloc (by simp) _).trans (hb.mono (by simp; omega)))
                 have hmo := hmo.below hL
                 have hov := Own.below hov hL
                 have hX : Below W3.heap.size W3 wc := hX.trans (hL.mono hX.size)
                 obtain ⟨a0, a1, a2⟩ := HALL.out _ hX
                 first | (have b24 : _ ∧ W3.heap.size ≤ _ := ⟨b24.1.below hL, b24.2⟩) | (have b24 : Blk wc wb.heap.size 24 #[.slice none 0 0] ∧ W3.heap.size ≤ wb.heap.size := ⟨by first | exact ((Blk.new wb 24 #[.slice none 0 0])).below hb | exact (((Blk.new wb 24 #[.slice none 0 0]).alloc (.cells #[.slice none 0 0, .slice none 0 0] 37))).below hb, by omega⟩) | (have b24 : Blk wc (wb.heap.size + 1) 24 #[.slice none 0 0] ∧ W3.heap.size ≤ wb.heap.size + 1 := ⟨by have q := ((Blk.new (wb.alloc (.cells #[.slice none 0 0, .slice none 0 0] 37)) 24 #[.slice none 0 0])).below hb; simpa using q, by omega⟩) | (skip)
                 first | (have b37 : _ ∧ W3.heap.size ≤ _ := ⟨b37.1.below hL, b37.2⟩) | (have b37 : Blk wc wb.heap.size 37 #[.slice none 0 0, .slice none 0 0] ∧ W3.heap.size ≤ wb.heap.size := ⟨by first | exact ((Blk.new wb 37 #[.slice none 0 0, .slice none 0 0])).below hb | exact (((Blk.new wb 37 #[.slice none 0 0, .slice none 0 0]).alloc (.cells #[.slice none 0 0] 24))).below hb, by omega⟩) | (have b37 : Blk wc (wb.heap.size + 1) 37 #[.slice none 0 0, .slice none 0 0] ∧ W3.heap.size ≤ wb.heap.size + 1 := ⟨by have q := ((Blk.new (wb.alloc (.cells #[.slice none 0 0] 24)) 37 #[.slice none 0 0, .slice none 0 0])).below hb; simpa using q, by omega⟩) | (skip)
                 have hsa := hX.size
                 have k0 : w.heap.size < wc.heap.size := by omega
                 have k1 : w.heap.size + 1 < wc.heap.size := by omega
                 first | (have c24 := b24.1.cell 0; have f24 := b24.1.frozen 0; have l24 := b24.1.lt; have n24 := ne1 q0 b24.2; have m24 := ne2 q0 b24.2; have n25 := ne1 q1 b24.2; have m25 := ne2 q1 b24.2; dsimp at c24) | skip
                 first | (have c37 := b37.1.cell 0; have d37 := b37.1.cell 1; have f37 := b37.1.frozen 0; have e37 := b37.1.frozen 1; have l37 := b37.1.lt; have n37 := ne1 q0 b37.2; have m37 := ne2 q0 b37.2; have n38 := ne1 q1 b37.2; have m38 := ne2 q1 b37.2; dsimp at c37 d37) | skip
                 first | (have x24 := b24.1.ne b37.1 (by decide); have x37 := b37.1.ne b24.1 (by decide)) | skip
                 clear hb hL))
          all_goals
            go_wp2_with fail
            go_meet
            clear HALL HMA HPA HLA HCP HVL HCPP
            refine ⟨_, _, B', c', X, cx, V', cv', C', cc', rfl, rfl, rfl, ?_⟩
            first
              | refine fin_mp hX ?_ ?_ ?_ ?_ ?_ hmo hov hvo hlo
              | exact fin_ma hX b24.1 b24.2 hmo hov hvo hlo
              | exact fin_pa hX b37.1 b37.2 hmo hov hvo hlo
              | refine fin_0 hX ?_ ?_ ?_ hmo hov hvo hlo
            all_goals first
              | exact b24.1
              | exact b37.1
              | exact b24.2
              | exact b37.2
              | (with_reducible exact (Below.refl wc.heap.size wc))
              | (with_reducible exact ((Below.refl wc.heap.size wc).alloc (Nat.le_refl _) _))
              | (with_reducible exact (((Below.refl wc.heap.size wc).alloc (Nat.le_refl _) _).alloc (by simp) _))
              | (with_reducible exact b24.1.alloc _)
              | (with_reducible exact b37.1.alloc _)
              | (with_reducible exact Blk.new wc 24 #[.slice none 0 0])
              | (with_reducible exact (Blk.new wc 24 #[.slice none 0 0]).alloc _)
              | (have q := Blk.new (wc.alloc (.cells #[.slice none 0 0, .slice none 0 0] 37)) 24 #[.slice none 0 0]; simp only [World.size_alloc] at q; with_reducible exact q)
              | (have q := Blk.new (wc.alloc (.cells #[.slice V' nv cv', .slice C' nc cc'] 37)) 24 #[.slice none 0 0]; simp only [World.size_alloc] at q; with_reducible exact q)
              | (with_reducible exact Blk.new wc 24 #[.slice B' n c'])
              | (with_reducible exact (Blk.new wc 24 #[.slice B' n c']).alloc _)
              | (have q := Blk.new (wc.alloc (.cells #[.slice none 0 0, .slice none 0 0] 37)) 24 #[.slice B' n c']; simp only [World.size_alloc] at q; with_reducible exact q)
              | (have q := Blk.new (wc.alloc (.cells #[.slice V' nv cv', .slice C' nc cc'] 37)) 24 #[.slice B' n c']; simp only [World.size_alloc] at q; with_reducible exact q)
              | (with_reducible exact Blk.new wc 37 #[.slice none 0 0, .slice none 0 0])
              | (with_reducible exact (Blk.new wc 37 #[.slice none 0 0, .slice none 0 0]).alloc _)
              | (have q := Blk.new (wc.alloc (.cells #[.slice none 0 0] 24)) 37 #[.slice none 0 0, .slice none 0 0]; simp only [World.size_alloc] at q; with_reducible exact q)
              | (have q := Blk.new (wc.alloc (.cells #[.slice B' n c'] 24)) 37 #[.slice none 0 0, .slice none 0 0]; simp only [World.size_alloc] at q; with_reducible exact q)
              | (with_reducible exact Blk.new wc 37 #[.slice V' nv cv', .slice C' nc cc'])
              | (with_reducible exact (Blk.new wc 37 #[.slice V' nv cv', .slice C' nc cc']).alloc _)
              | (have q := Blk.new (wc.alloc (.cells #[.slice none 0 0] 24)) 37 #[.slice V' nv cv', .slice C' nc cc']; simp only [World.size_alloc] at q; with_reducible exact q)
              | (have q := Blk.new (wc.alloc (.cells #[.slice B' n c'] 24)) 37 #[.slice V' nv cv', .slice C' nc cc']; simp only [World.size_alloc] at q; with_reducible exact q)
              | (simp only [World.size_alloc]; omega)
              | omega
        case rest =>
          obtain ⟨ga, gd, B', c', X, cx, V', cv', C', cc', rfl, rfl, rfl, HF, HBX⟩ := hcut
          have HALL2 : Hid (∀ U, Below wc.heap.size wc U → (U.cell? ⟨w.heap.size, 0, none⟩ = some (.slice A n c) ∧ U.cell? ⟨w.heap.size + 1, 0, none⟩ = some (.slice V nv cv) ∧ U.cell? ⟨w.heap.size + 1, 1, none⟩ = some (.slice C nc cc)) ∧ U.cell? ⟨ga, 0, none⟩ = some (.slice B' n c') ∧ U.cell? ⟨gd, 0, none⟩ = some (.slice V' nv cv') ∧ U.cell? ⟨gd, 1, none⟩ = some (.slice C' nc cc')) :=
            Lib.hid fun U hu => ⟨HALL.out U (HBX.out.trans (hu.mono HBX.out.size)), (HF.out U hu).1.1.2, (HF.out U hu).1.2.2.1, (HF.out U hu).1.2.2.2⟩
          have HMA := Lib.hid fun U (hu : Below wc.heap.size wc U) => HMA.out U (HBX.out.trans (hu.mono HBX.out.size))
          have HPA := Lib.hid fun U (hu : Below wc.heap.size wc U) => HPA.out U (HBX.out.trans (hu.mono HBX.out.size))
          have HLA := Lib.hid fun U (hu : Below wc.heap.size wc U) => HLA.out U (HBX.out.trans (hu.mono HBX.out.size))
          have HMB := Lib.hid fun U (hu : Below wc.heap.size wc U) => (HF.out U hu).1.1.1
          have HPB := Lib.hid fun U (hu : Below wc.heap.size wc U) => (HF.out U hu).1.2.1
          have HLB := Lib.hid fun U (hu : Below wc.heap.size wc U) => (HF.out U hu).2
          have HBW := Lib.hid (HB3.out.trans (HBX.out.mono HB3.out.size))
          clear HALL HF HBX HB3 a0 a1 a2 q0 q1
          generalize Ce.draw m l = DD at *
          obtain ⟨D, E⟩ := DD
          dsimp only at HDC HDR HSPD
          generalize D.vals.length = dv at *
          generalize D.cells.length = dc at *
          obtain ⟨⟨a0, a1, a2⟩, b0, b1, b2⟩ := HALL2.out _ (Below.refl _ _)
          go_wp2_with fail
          refine (HDC.out _ _ _ _ _ (HMB.out _ (Below.refl _ _)) (HLB.out _ (Below.refl _ _))).mono ?_
          rintro e w5 ⟨⟨V1, v1, C1, d1, rfl, hp1⟩, hb5⟩
          have hb6 : Below w5.heap.size w5 (w5.alloc (.cells #[.slice V1 dv v1, .slice C1 dc d1] 37)) := (Below.refl _ _).alloc (Nat.le_refl _) _
          have HK6 := Lib.hid (hb5.trans (hb6.mono hb5.size))
          have S1 := Lib.hid ((hp1.at_.stay.step hb6).and (box2 (W := w5) (v := .slice V1 dv v1) (u := .slice C1 dc d1) (t := 37)))
          clear hb5 hb6 hp1 a0 a1 a2 b0 b1 b2 HDC
          obtain ⟨⟨a0, _⟩, _⟩ := HALL2.out _ HK6.out
          go_wp2_with fail
          refine (HCP.out _ (HMA.out _ HK6.out)).mono ?_
          rintro e w7 ⟨⟨B2, c2, hs2, rfl, hmo2⟩, hb7⟩
          have S1 := Lib.hid (S1.out.step hb7)
          have HK7 := Lib.hid (HK6.out.trans (hb7.mono HK6.out.size))
          clear hb7 a0 HK6
          go_wp2_with fail
          refine (HDR.out _ _ _ _ _ hmo2.at_ (HLA.out _ HK7.out)).mono ?_
          rintro e w8 ⟨⟨V2, v2, C2, d2, rfl, hp2⟩, hb8⟩
          have hb9 : Below w8.heap.size w8 (w8.alloc (.cells #[.slice V2 dv v2, .slice C2 dc d2] 37)) := (Below.refl _ _).alloc (Nat.le_refl _) _
          have S1 := Lib.hid ((S1.out.step hb8).step hb9)
          have S2 := Lib.hid ((hp2.at_.stay.step hb9).and (box2 (W := w8) (v := .slice V2 dv v2) (u := .slice C2 dc d2) (t := 37)))
          have HK9 := Lib.hid ((HK7.out.trans (hb8.mono HK7.out.size)).trans (hb9.mono (HK7.out.trans (hb8.mono HK7.out.size)).size))
          clear hb8 hb9 hp2 hmo2 HK7 HDR HCP
          go_wp2_with fail
          generalize w8.alloc (.cells #[.slice V2 dv v2, .slice C2 dc d2] 37) = W9 at *
          have HALL9 : Hid (∀ U, Below W9.heap.size W9 U → ((U.cell? ⟨w5.heap.size, 0, none⟩ = some (.slice V1 dv v1) ∧ U.cell? ⟨w5.heap.size, 1, none⟩ = some (.slice C1 dc d1)) ∧ U.cell? ⟨w8.heap.size, 0, none⟩ = some (.slice V2 dv v2) ∧ U.cell? ⟨w8.heap.size, 1, none⟩ = some (.slice C2 dc d2)) ∧ (U.cell? ⟨w.heap.size, 0, none⟩ = some (.slice A n c) ∧ U.cell? ⟨w.heap.size + 1, 0, none⟩ = some (.slice V nv cv) ∧ U.cell? ⟨w.heap.size + 1, 1, none⟩ = some (.slice C nc cc)) ∧ U.cell? ⟨ga, 0, none⟩ = some (.slice B' n c') ∧ U.cell? ⟨gd, 0, none⟩ = some (.slice V' nv cv') ∧ U.cell? ⟨gd, 1, none⟩ = some (.slice C' nc cc')) :=
            Lib.hid fun U hu => ⟨⟨(S1.out U hu).2, (S2.out U hu).2⟩, HALL2.out U (HK9.out.trans (hu.mono HK9.out.size))⟩
          have HMA := Lib.hid fun U (hu : Below W9.heap.size W9 U) => HMA.out U (HK9.out.trans (hu.mono HK9.out.size))
          have HPA := Lib.hid fun U (hu : Below W9.heap.size W9 U) => HPA.out U (HK9.out.trans (hu.mono HK9.out.size))
          have HLA := Lib.hid fun U (hu : Below W9.heap.size W9 U) => HLA.out U (HK9.out.trans (hu.mono HK9.out.size))
          have HMB := Lib.hid fun U (hu : Below W9.heap.size W9 U) => HMB.out U (HK9.out.trans (hu.mono HK9.out.size))
          have HPB := Lib.hid fun U (hu : Below W9.heap.size W9 U) => HPB.out U (HK9.out.trans (hu.mono HK9.out.size))
          have HLB := Lib.hid fun U (hu : Below W9.heap.size W9 U) => HLB.out U (HK9.out.trans (hu.mono HK9.out.size))
          have HD1 := Lib.hid fun U (hu : Below W9.heap.size W9 U) => (S1.out U hu).1
          have HD2 := Lib.hid fun U (hu : Below W9.heap.size W9 U) => (S2.out U hu).1
          have HBW := Lib.hid (HBW.out.trans (HK9.out.mono HBW.out.size))
          clear HALL2 S1 S2 HK9
          generalize Ce.isPic p = R at *
          obtain ⟨⟨⟨e0, e1⟩, e2, e3⟩, ⟨a0, a1, a2⟩, b0, b1, b2⟩ := HALL9.out _ (Below.refl _ _)
          have hX : Below W9.heap.size W9 W9.drew := (Below.refl _ _).drew
          refine wp_region_held_drew (S := fun U => U.cell? ⟨w5.heap.size, 0, none⟩ = some (.slice V1 dv v1) ∧ U.cell? ⟨w5.heap.size, 1, none⟩ = some (.slice C1 dc d1) ∧ U.cell? ⟨w8.heap.size, 0, none⟩ = some (.slice V2 dv v2) ∧ U.cell? ⟨w8.heap.size, 1, none⟩ = some (.slice C2 dc d2) ∧ U.cell? ⟨w.heap.size, 0, none⟩ = some (.slice A n c) ∧ U.cell? ⟨w.heap.size + 1, 0, none⟩ = some (.slice V nv cv) ∧ U.cell? ⟨w.heap.size + 1, 1, none⟩ = some (.slice C nc cc) ∧ U.cell? ⟨ga, 0, none⟩ = some (.slice B' n c') ∧ U.cell? ⟨gd, 0, none⟩ = some (.slice V' nv cv') ∧ U.cell? ⟨gd, 1, none⟩ = some (.slice C' nc cc')) (by kernel_rfl) ⟨e0, e1, e2, e3, a0, a1, a2, b0, b1, b2⟩ (fun hHeld => ?_)
          refine wpAnyH_take (i := 0) (oi := { dst := some 57, op := Op.load 37 (Operand.tmp 10), type := 37, pos := "law.go:130", after := #[], guard := none }) (v := .agg #[.slice V1 dv v1, .slice C1 dc d1]) rfl (by kernel_rfl) (by kernel_rfl) (by kernel_rfl) (fun _ _ _ h => h) (Or.inl ⟨by rfl, fun w hSw => by (try dsimp only at hSw); go_simp⟩) (by assumption) ?_
          try simp only [Act.put, List.setIfInBounds_toArray, List.set_cons_zero, List.set_cons_succ]
          refine wpAnyH_take (i := 1) (oi := { dst := some 58, op := Op.load 37 (Operand.tmp 12), type := 37, pos := "law.go:130", after := #[], guard := none }) (v := .agg #[.slice V2 dv v2, .slice C2 dc d2]) rfl (by kernel_rfl) (by kernel_rfl) (by kernel_rfl) (fun _ _ _ h => h) (Or.inl ⟨by rfl, fun w hSw => by (try dsimp only at hSw); go_simp⟩) (by assumption) ?_
          try simp only [Act.put, List.setIfInBounds_toArray, List.set_cons_zero, List.set_cons_succ]
          refine wpAnyH_ready (rs := [2]) (by kernel_rfl) (by simp) ?_
          refine AllReadyH.cons (o := { dst := some 59, op := Op.call { callee := Callee.value (Operand.func 22), args := #[Operand.tmp 57, Operand.tmp 58], argTypes := #[37, 37] }, type := 4, pos := "law.go:130", after := #[{ on := 0, ground := Ground.data }, { on := 1, ground := Ground.data }], guard := none }) rfl (fun K hK => ?_) AllReadyH.nil
          go_simp
          refine (HSPD.out _ _ _ _ _ _ _ _ _ (HD1.out _ hX) (HD2.out _ hX)).mono ?_
          rintro e wq2 ⟨rfl, hbq⟩
          have hX : Below W9.heap.size W9 wq2 := hX.trans (hbq.mono hX.size)
          clear e0 e1 e2 e3 a0 a1 a2 b0 b1 b2 hHeld
          obtain ⟨⟨⟨e0, e1⟩, e2, e3⟩, ⟨a0, a1, a2⟩, b0, b1, b2⟩ := HALL9.out _ hX
          clear hbq
          go_wp2_with fail
          refine hK.out _ _ (⟨e0, e1, e2, e3, a0, a1, a2, b0, b1, b2⟩) (fun hHeld => ?_)
          clear hK K
          try simp only [Act.put, List.setIfInBounds_toArray, List.set_cons_zero, List.set_cons_succ]
          refine wpAnyH_take (i := 3) (oi := { dst := some 60, op := Op.move (Operand.tmp 59), type := 4, pos := "law.go:130", after := #[{ on := 2, ground := Ground.data }, { on := 2, ground := Ground.chain }], guard := none }) (v := .bool true) rfl (by kernel_rfl) (by kernel_rfl) (by kernel_rfl) (fun _ _ _ h => h) (Or.inl ⟨by rfl, fun w hSw => by (try dsimp only at hSw); go_simp⟩) (by assumption) ?_
          try simp only [Act.put, List.setIfInBounds_toArray, List.set_cons_zero, List.set_cons_succ]
          refine wpAnyH_take (i := 4) (oi := { dst := some 61, op := Op.move (Operand.tmp 11), type := 28, pos := "law.go:130", after := #[{ on := 3, ground := Ground.guard }], guard := some (3, true) }) (v := .int .i64 E) rfl (by kernel_rfl) (by kernel_rfl) (by kernel_rfl) (fun _ _ _ h => h) (Or.inl ⟨by rfl, fun w hSw => by (try dsimp only at hSw); go_simp⟩) (by assumption) ?_
          try simp only [Act.put, List.setIfInBounds_toArray, List.set_cons_zero, List.set_cons_succ]
          refine wpAnyH_take (i := 5) (oi := { dst := some 62, op := Op.move (Operand.tmp 13), type := 28, pos := "law.go:130", after := #[{ on := 3, ground := Ground.guard }], guard := some (3, true) }) (v := .int .i64 E) rfl (by kernel_rfl) (by kernel_rfl) (by kernel_rfl) (fun _ _ _ h => h) (Or.inl ⟨by rfl, fun w hSw => by (try dsimp only at hSw); go_simp⟩) (by assumption) ?_
          try simp only [Act.put, List.setIfInBounds_toArray, List.set_cons_zero, List.set_cons_succ]
          refine wpAnyH_take (i := 6) (oi := { dst := some 63, op := Op.binOp BinOp.eql 28 (Operand.tmp 61) (Operand.tmp 62) 28, type := 4, pos := "law.go:130", after := #[{ on := 4, ground := Ground.data }, { on := 5, ground := Ground.data }, { on := 3, ground := Ground.guard }], guard := some (3, true) }) (v := .bool true) rfl (by kernel_rfl) (by kernel_rfl) (by kernel_rfl) (fun _ _ _ h => h) (Or.inl ⟨by rfl, fun w hSw => by (try dsimp only at hSw); go_simp⟩) (by assumption) ?_
          try simp only [Act.put, List.setIfInBounds_toArray, List.set_cons_zero, List.set_cons_succ]
          refine wpAnyH_take (i := 7) (oi := { dst := some 64, op := Op.pick (Operand.tmp 60) (Operand.tmp 63) (Operand.const (Value.bool false)), type := 4, pos := "law.go:130", after := #[{ on := 3, ground := Ground.data }, { on := 6, ground := Ground.data }], guard := none }) (v := .bool true) rfl (by kernel_rfl) (by kernel_rfl) (by kernel_rfl) (fun _ _ _ h => h) (Or.inl ⟨by rfl, fun w hSw => by (try dsimp only at hSw); go_simp⟩) (by assumption) ?_
          try simp only [Act.put, List.setIfInBounds_toArray, List.set_cons_zero, List.set_cons_succ]
          refine wpAnyH_take (i := 8) (oi := { dst := some 65, op := Op.move (Operand.tmp 64), type := 4, pos := "law.go:130", after := #[{ on := 7, ground := Ground.data }, { on := 3, ground := Ground.chain }], guard := none }) (v := .bool true) rfl (by kernel_rfl) (by kernel_rfl) (by kernel_rfl) (fun _ _ _ h => h) (Or.inl ⟨by rfl, fun w hSw => by (try dsimp only at hSw); go_simp⟩) (by assumption) ?_
          try simp only [Act.put, List.setIfInBounds_toArray, List.set_cons_zero, List.set_cons_succ]
          refine wpAnyH_take (i := 9) (oi := { dst := some 66, op := Op.load 37 (Operand.tmp 9), type := 37, pos := "law.go:130", after := #[{ on := 8, ground := Ground.guard }], guard := some (8, true) }) (v := .agg #[.slice V' nv cv', .slice C' nc cc']) rfl (by kernel_rfl) (by kernel_rfl) (by kernel_rfl) (fun _ _ _ h => h) (Or.inl ⟨by rfl, fun w hSw => by (try dsimp only at hSw); go_simp⟩) (by assumption) ?_
          try simp only [Act.put, List.setIfInBounds_toArray, List.set_cons_zero, List.set_cons_succ]
          refine wpAnyH_take (i := 11) (oi := { dst := some 68, op := Op.load 37 (Operand.tmp 5), type := 37, pos := "law.go:130", after := #[{ on := 8, ground := Ground.guard }], guard := some (8, true) }) (v := .agg #[.slice V nv cv, .slice C nc cc]) rfl (by kernel_rfl) (by kernel_rfl) (by kernel_rfl) (fun _ _ _ h => h) (Or.inl ⟨by rfl, fun w hSw => by (try dsimp only at hSw); go_simp⟩) (by assumption) ?_
          try simp only [Act.put, List.setIfInBounds_toArray, List.set_cons_zero, List.set_cons_succ]
          refine wpAnyH_ready (rs := [10]) (by kernel_rfl) (by simp) ?_
          refine AllReadyH.cons (o := { dst := some 67, op := Op.call { callee := Callee.value (Operand.func 23), args := #[Operand.tmp 66], argTypes := #[37] }, type := 4, pos := "law.go:130", after := #[{ on := 9, ground := Ground.data }, { on := 8, ground := Ground.chain }, { on := 8, ground := Ground.guard }], guard := some (8, true) }) rfl (fun K hK => ?_) AllReadyH.nil
          go_simp
          refine (HIP.out _ _ _ _ _ (HPB.out _ hX)).mono ?_
          rintro e wq10 ⟨rfl, hbq⟩
          have hX : Below W9.heap.size W9 wq10 := hX.trans (hbq.mono hX.size)
          clear e0 e1 e2 e3 a0 a1 a2 b0 b1 b2 hHeld
          obtain ⟨⟨⟨e0, e1⟩, e2, e3⟩, ⟨a0, a1, a2⟩, b0, b1, b2⟩ := HALL9.out _ hX
          clear hbq
          go_wp2_with fail
          refine hK.out _ _ (⟨e0, e1, e2, e3, a0, a1, a2, b0, b1, b2⟩) (fun hHeld => ?_)
          clear hK K
          try simp only [Act.put, List.setIfInBounds_toArray, List.set_cons_zero, List.set_cons_succ]
          refine wpAnyH_ready (rs := [12]) (by kernel_rfl) (by simp) ?_
          refine AllReadyH.cons (o := { dst := some 69, op := Op.call { callee := Callee.value (Operand.func 24), args := #[Operand.tmp 68], argTypes := #[37] }, type := 4, pos := "law.go:130", after := #[{ on := 11, ground := Ground.data }, { on := 10, ground := Ground.chain }, { on := 8, ground := Ground.guard }], guard := some (8, true) }) rfl (fun K hK => ?_) AllReadyH.nil
          go_simp
          refine (HIR.out _ _ _ _ _ (HPA.out _ hX)).mono ?_
          rintro e wq12 ⟨rfl, hbq⟩
          have hX : Below W9.heap.size W9 wq12 := hX.trans (hbq.mono hX.size)
          clear e0 e1 e2 e3 a0 a1 a2 b0 b1 b2 hHeld
          obtain ⟨⟨⟨e0, e1⟩, e2, e3⟩, ⟨a0, a1, a2⟩, b0, b1, b2⟩ := HALL9.out _ hX
          clear hbq
          go_wp2_with fail
          refine hK.out _ _ (⟨e0, e1, e2, e3, a0, a1, a2, b0, b1, b2⟩) (fun hHeld => ?_)
          clear hK K
          try simp only [Act.put, List.setIfInBounds_toArray, List.set_cons_zero, List.set_cons_succ]
          refine wpAnyH_take (i := 13) (oi := { dst := some 70, op := Op.binOp BinOp.eql 4 (Operand.tmp 67) (Operand.tmp 69) 4, type := 4, pos := "law.go:130", after := #[{ on := 10, ground := Ground.data }, { on := 12, ground := Ground.data }, { on := 8, ground := Ground.guard }], guard := some (8, true) }) (v := .bool true) rfl (by kernel_rfl) (by kernel_rfl) (by kernel_rfl) (fun _ _ _ h => h) (Or.inl ⟨by rfl, fun w hSw => by (try dsimp only at hSw); go_simp⟩) (by assumption) ?_
          try simp only [Act.put, List.setIfInBounds_toArray, List.set_cons_zero, List.set_cons_succ]
          refine wpAnyH_take (i := 14) (oi := { dst := some 71, op := Op.pick (Operand.tmp 65) (Operand.tmp 70) (Operand.const (Value.bool false)), type := 4, pos := "law.go:130", after := #[{ on := 8, ground := Ground.data }, { on := 13, ground := Ground.data }], guard := none }) (v := .bool true) rfl (by kernel_rfl) (by kernel_rfl) (by kernel_rfl) (fun _ _ _ h => h) (Or.inl ⟨by rfl, fun w hSw => by (try dsimp only at hSw); go_simp⟩) (by assumption) ?_
          try simp only [Act.put, List.setIfInBounds_toArray, List.set_cons_zero, List.set_cons_succ]
          refine wpAnyH_take (i := 15) (oi := { dst := some 72, op := Op.move (Operand.tmp 71), type := 4, pos := "law.go:130", after := #[{ on := 14, ground := Ground.data }, { on := 12, ground := Ground.chain }], guard := none }) (v := .bool true) rfl (by kernel_rfl) (by kernel_rfl) (by kernel_rfl) (fun _ _ _ h => h) (Or.inl ⟨by rfl, fun w hSw => by (try dsimp only at hSw); go_simp⟩) (by assumption) ?_
          try simp only [Act.put, List.setIfInBounds_toArray, List.set_cons_zero, List.set_cons_succ]
          refine wpAnyH_take (i := 16) (oi := { dst := some 73, op := Op.load 24 (Operand.tmp 7), type := 24, pos := "law.go:130", after := #[{ on := 15, ground := Ground.guard }], guard := some (15, true) }) (v := .agg #[.slice B' n c']) rfl (by kernel_rfl) (by kernel_rfl) (by kernel_rfl) (fun _ _ _ h => h) (Or.inl ⟨by rfl, fun w hSw => by (try dsimp only at hSw); go_simp⟩) (by assumption) ?_
          try simp only [Act.put, List.setIfInBounds_toArray, List.set_cons_zero, List.set_cons_succ]
          refine wpAnyH_take (i := 17) (oi := { dst := some 74, op := Op.load 24 (Operand.tmp 3), type := 24, pos := "law.go:130", after := #[{ on := 15, ground := Ground.guard }], guard := some (15, true) }) (v := .agg #[.slice A n c]) rfl (by kernel_rfl) (by kernel_rfl) (by kernel_rfl) (fun _ _ _ h => h) (Or.inl ⟨by rfl, fun w hSw => by (try dsimp only at hSw); go_simp⟩) (by assumption) ?_
          try simp only [Act.put, List.setIfInBounds_toArray, List.set_cons_zero, List.set_cons_succ]
          refine wpAnyH_ready (rs := [18]) (by kernel_rfl) (by simp) ?_
          refine AllReadyH.cons (o := { dst := some 75, op := Op.call { callee := Callee.value (Operand.func 16), args := #[Operand.tmp 73, Operand.tmp 74], argTypes := #[24, 24] }, type := 4, pos := "law.go:130", after := #[{ on := 16, ground := Ground.data }, { on := 17, ground := Ground.data }, { on := 15, ground := Ground.chain }, { on := 15, ground := Ground.guard }], guard := some (15, true) }) rfl (fun K hK => ?_) AllReadyH.nil
          go_simp
          refine (HSM.out _ _ _ _ _ (HMB.out _ hX) (HMA.out _ hX)).mono ?_
          rintro e wq18 ⟨rfl, hbq⟩
          have hX : Below W9.heap.size W9 wq18 := hX.trans (hbq.mono hX.size)
          clear e0 e1 e2 e3 a0 a1 a2 b0 b1 b2 hHeld
          obtain ⟨⟨⟨e0, e1⟩, e2, e3⟩, ⟨a0, a1, a2⟩, b0, b1, b2⟩ := HALL9.out _ hX
          clear hbq
          go_wp2_with fail
          refine hK.out _ _ (⟨e0, e1, e2, e3, a0, a1, a2, b0, b1, b2⟩) (fun hHeld => ?_)
          clear hK K
          try simp only [Act.put, List.setIfInBounds_toArray, List.set_cons_zero, List.set_cons_succ]
          refine wpAnyH_take (i := 19) (oi := { dst := some 76, op := Op.pick (Operand.tmp 72) (Operand.tmp 75) (Operand.const (Value.bool false)), type := 4, pos := "law.go:130", after := #[{ on := 15, ground := Ground.data }, { on := 18, ground := Ground.data }], guard := none }) (v := .bool true) rfl (by kernel_rfl) (by kernel_rfl) (by kernel_rfl) (fun _ _ _ h => h) (Or.inl ⟨by rfl, fun w hSw => by (try dsimp only at hSw); go_simp⟩) (by assumption) ?_
          try simp only [Act.put, List.setIfInBounds_toArray, List.set_cons_zero, List.set_cons_succ]
          refine wpAnyH_take (i := 20) (oi := { dst := some 77, op := Op.move (Operand.tmp 76), type := 4, pos := "law.go:130", after := #[{ on := 19, ground := Ground.data }, { on := 18, ground := Ground.chain }], guard := none }) (v := .bool true) rfl (by kernel_rfl) (by kernel_rfl) (by kernel_rfl) (fun _ _ _ h => h) (Or.inl ⟨by rfl, fun w hSw => by (try dsimp only at hSw); go_simp⟩) (by assumption) ?_
          try simp only [Act.put, List.setIfInBounds_toArray, List.set_cons_zero, List.set_cons_succ]
          refine wpAnyH_take (i := 21) (oi := { dst := some 78, op := Op.move (Operand.tmp 8), type := 34, pos := "law.go:130", after := #[{ on := 20, ground := Ground.guard }], guard := some (20, true) }) (v := .slice X l.length cx) rfl (by kernel_rfl) (by kernel_rfl) (by kernel_rfl) (fun _ _ _ h => h) (Or.inl ⟨by rfl, fun w hSw => by (try dsimp only at hSw); go_simp⟩) (by assumption) ?_
          try simp only [Act.put, List.setIfInBounds_toArray, List.set_cons_zero, List.set_cons_succ]
          refine wpAnyH_take (i := 22) (oi := { dst := some 79, op := Op.move (Operand.tmp 1), type := 34, pos := "law.go:130", after := #[{ on := 20, ground := Ground.guard }], guard := some (20, true) }) (v := .slice B l.length cl) rfl (by kernel_rfl) (by kernel_rfl) (by kernel_rfl) (fun _ _ _ h => h) (Or.inl ⟨by rfl, fun w hSw => by (try dsimp only at hSw); go_simp⟩) (by assumption) ?_
          try simp only [Act.put, List.setIfInBounds_toArray, List.set_cons_zero, List.set_cons_succ]
          refine wpAnyH_ready (rs := [23]) (by kernel_rfl) (by simp) ?_
          refine AllReadyH.cons (o := { dst := some 80, op := Op.call { callee := Callee.value (Operand.func 25), args := #[Operand.tmp 78, Operand.tmp 79], argTypes := #[34, 34] }, type := 4, pos := "law.go:130", after := #[{ on := 21, ground := Ground.data }, { on := 22, ground := Ground.data }, { on := 20, ground := Ground.chain }, { on := 20, ground := Ground.guard }], guard := some (20, true) }) rfl (fun K hK => ?_) AllReadyH.nil
          go_simp
          refine (HSV.out _ _ _ _ _ (HLB.out _ hX).arg (HLA.out _ hX).arg).mono ?_
          rintro e wq23 ⟨rfl, hbq⟩
          have hX : Below W9.heap.size W9 wq23 := hX.trans (hbq.mono hX.size)
          clear e0 e1 e2 e3 a0 a1 a2 b0 b1 b2 hHeld
          obtain ⟨⟨⟨e0, e1⟩, e2, e3⟩, ⟨a0, a1, a2⟩, b0, b1, b2⟩ := HALL9.out _ hX
          clear hbq
          go_wp2_with fail
          refine hK.out _ _ (⟨e0, e1, e2, e3, a0, a1, a2, b0, b1, b2⟩) (fun hHeld => ?_)
          clear hK K
          try simp only [Act.put, List.setIfInBounds_toArray, List.set_cons_zero, List.set_cons_succ]
          refine wpAnyH_take (i := 24) (oi := { dst := some 81, op := Op.pick (Operand.tmp 77) (Operand.tmp 80) (Operand.const (Value.bool false)), type := 4, pos := "law.go:130", after := #[{ on := 20, ground := Ground.data }, { on := 23, ground := Ground.data }], guard := none }) (v := .bool true) rfl (by kernel_rfl) (by kernel_rfl) (by kernel_rfl) (fun _ _ _ h => h) (Or.inl ⟨by rfl, fun w hSw => by (try dsimp only at hSw); go_simp⟩) (by assumption) ?_
          try simp only [Act.put, List.setIfInBounds_toArray, List.set_cons_zero, List.set_cons_succ]
          refine wpAnyH_take (i := 25) (oi := { dst := some 82, op := Op.move (Operand.tmp 81), type := 4, pos := "law.go:130", after := #[{ on := 24, ground := Ground.data }, { on := 23, ground := Ground.chain }], guard := none }) (v := .bool true) rfl (by kernel_rfl) (by kernel_rfl) (by kernel_rfl) (fun _ _ _ h => h) (Or.inl ⟨by rfl, fun w hSw => by (try dsimp only at hSw); go_simp⟩) (by assumption) ?_
          try simp only [Act.put, List.setIfInBounds_toArray, List.set_cons_zero, List.set_cons_succ]
          refine wpAnyH_take (i := 26) (oi := { dst := some 83, op := Op.load 37 (Operand.tmp 9), type := 37, pos := "law.go:130", after := #[{ on := 25, ground := Ground.guard }], guard := some (25, true) }) (v := .agg #[.slice V' nv cv', .slice C' nc cc']) rfl (by kernel_rfl) (by kernel_rfl) (by kernel_rfl) (fun _ _ _ h => h) (Or.inl ⟨by rfl, fun w hSw => by (try dsimp only at hSw); go_simp⟩) (by assumption) ?_
          try simp only [Act.put, List.setIfInBounds_toArray, List.set_cons_zero, List.set_cons_succ]
          refine wpAnyH_take (i := 27) (oi := { dst := some 84, op := Op.load 37 (Operand.tmp 5), type := 37, pos := "law.go:130", after := #[{ on := 25, ground := Ground.guard }], guard := some (25, true) }) (v := .agg #[.slice V nv cv, .slice C nc cc]) rfl (by kernel_rfl) (by kernel_rfl) (by kernel_rfl) (fun _ _ _ h => h) (Or.inl ⟨by rfl, fun w hSw => by (try dsimp only at hSw); go_simp⟩) (by assumption) ?_
          try simp only [Act.put, List.setIfInBounds_toArray, List.set_cons_zero, List.set_cons_succ]
          refine wpAnyH_ready (rs := [28]) (by kernel_rfl) (by simp) ?_
          refine AllReadyH.cons (o := { dst := some 85, op := Op.call { callee := Callee.value (Operand.func 22), args := #[Operand.tmp 83, Operand.tmp 84], argTypes := #[37, 37] }, type := 4, pos := "law.go:130", after := #[{ on := 26, ground := Ground.data }, { on := 27, ground := Ground.data }, { on := 25, ground := Ground.chain }, { on := 25, ground := Ground.guard }], guard := some (25, true) }) rfl (fun K hK => ?_) AllReadyH.nil
          go_simp
          refine (HSPP.out _ _ _ _ _ _ _ _ _ (HPB.out _ hX) (HPA.out _ hX)).mono ?_
          rintro e wq28 ⟨rfl, hbq⟩
          have hX : Below W9.heap.size W9 wq28 := hX.trans (hbq.mono hX.size)
          clear e0 e1 e2 e3 a0 a1 a2 b0 b1 b2 hHeld
          obtain ⟨⟨⟨e0, e1⟩, e2, e3⟩, ⟨a0, a1, a2⟩, b0, b1, b2⟩ := HALL9.out _ hX
          clear hbq
          go_wp2_with fail
          refine hK.out _ _ (⟨e0, e1, e2, e3, a0, a1, a2, b0, b1, b2⟩) (fun hHeld => ?_)
          clear hK K
          try simp only [Act.put, List.setIfInBounds_toArray, List.set_cons_zero, List.set_cons_succ]
          refine wpAnyH_take (i := 29) (oi := { dst := some 86, op := Op.pick (Operand.tmp 82) (Operand.tmp 85) (Operand.const (Value.bool false)), type := 4, pos := "law.go:130", after := #[{ on := 25, ground := Ground.data }, { on := 28, ground := Ground.data }], guard := none }) (v := .bool true) rfl (by kernel_rfl) (by kernel_rfl) (by kernel_rfl) (fun _ _ _ h => h) (Or.inl ⟨by rfl, fun w hSw => by (try dsimp only at hSw); go_simp⟩) (by assumption) ?_
          try simp only [Act.put, List.setIfInBounds_toArray, List.set_cons_zero, List.set_cons_succ]
          refine wpAnyH_take (i := 30) (oi := { dst := some 87, op := Op.move (Operand.tmp 86), type := 4, pos := "law.go:130", after := #[{ on := 29, ground := Ground.data }, { on := 28, ground := Ground.chain }], guard := none }) (v := .bool true) rfl (by kernel_rfl) (by kernel_rfl) (by kernel_rfl) (fun _ _ _ h => h) (Or.inl ⟨by rfl, fun w hSw => by (try dsimp only at hSw); go_simp⟩) (by assumption) ?_
          try simp only [Act.put, List.setIfInBounds_toArray, List.set_cons_zero, List.set_cons_succ]
          refine wpAnyH_ready (rs := [31]) (by kernel_rfl) (by simp) ?_
          refine AllReadyH.cons (o := { dst := some 88, op := Op.call { callee := Callee.value (Operand.func 10), args := #[], argTypes := #[] }, type := 4, pos := "law.go:130", after := #[{ on := 30, ground := Ground.chain }, { on := 30, ground := Ground.guard }], guard := some (30, true) }) rfl (fun K hK => ?_) AllReadyH.nil
          go_simp
          refine (HAW.out _).mono ?_
          rintro e wq31 ⟨rfl, hbq⟩
          have hX : Below W9.heap.size W9 wq31 := hX.trans (hbq.mono hX.size)
          clear e0 e1 e2 e3 a0 a1 a2 b0 b1 b2 hHeld
          obtain ⟨⟨⟨e0, e1⟩, e2, e3⟩, ⟨a0, a1, a2⟩, b0, b1, b2⟩ := HALL9.out _ hX
          clear hbq
          go_wp2_with fail
          refine hK.out _ _ (⟨e0, e1, e2, e3, a0, a1, a2, b0, b1, b2⟩) (fun hHeld => ?_)
          clear hK K
          try simp only [Act.put, List.setIfInBounds_toArray, List.set_cons_zero, List.set_cons_succ]
          refine wpAnyH_take (i := 32) (oi := { dst := some 89, op := Op.pick (Operand.tmp 87) (Operand.tmp 88) (Operand.const (Value.bool false)), type := 4, pos := "law.go:130", after := #[{ on := 30, ground := Ground.data }, { on := 31, ground := Ground.data }], guard := none }) (v := .bool true) rfl (by kernel_rfl) (by kernel_rfl) (by kernel_rfl) (fun _ _ _ h => h) (Or.inl ⟨by rfl, fun w hSw => by (try dsimp only at hSw); go_simp⟩) (by assumption) ?_
          try simp only [Act.put, List.setIfInBounds_toArray, List.set_cons_zero, List.set_cons_succ]
          refine wpAnyH_take (i := 33) (oi := { dst := some 6, op := Op.assign (Operand.tmp 89), type := 4, pos := "law.go:130", after := #[{ on := 32, ground := Ground.data }, { on := 31, ground := Ground.chain }, { on := 0, ground := Ground.phase }, { on := 1, ground := Ground.phase }, { on := 2, ground := Ground.phase }, { on := 3, ground := Ground.phase }, { on := 4, ground := Ground.phase }, { on := 5, ground := Ground.phase }, { on := 6, ground := Ground.phase }, { on := 7, ground := Ground.phase }, { on := 8, ground := Ground.phase }, { on := 9, ground := Ground.phase }, { on := 10, ground := Ground.phase }, { on := 11, ground := Ground.phase }, { on := 12, ground := Ground.phase }, { on := 13, ground := Ground.phase }, { on := 14, ground := Ground.phase }, { on := 15, ground := Ground.phase }, { on := 16, ground := Ground.phase }, { on := 17, ground := Ground.phase }, { on := 18, ground := Ground.phase }, { on := 19, ground := Ground.phase }, { on := 20, ground := Ground.phase }, { on := 21, ground := Ground.phase }, { on := 22, ground := Ground.phase }, { on := 23, ground := Ground.phase }, { on := 24, ground := Ground.phase }, { on := 25, ground := Ground.phase }, { on := 26, ground := Ground.phase }, { on := 27, ground := Ground.phase }, { on := 28, ground := Ground.phase }, { on := 29, ground := Ground.phase }, { on := 30, ground := Ground.phase }, { on := 31, ground := Ground.phase }, { on := 32, ground := Ground.phase }], guard := none }) (v := .bool true) rfl (by kernel_rfl) (by kernel_rfl) (by kernel_rfl) (fun _ _ _ h => h) (Or.inl ⟨by rfl, fun w hSw => by (try dsimp only at hSw); go_simp⟩) (by assumption) ?_
          try simp only [Act.put, List.setIfInBounds_toArray, List.set_cons_zero, List.set_cons_succ]
          refine wpAnyH_done (by kernel_rfl) ?_ _
          go_wp2_with fail
          go_ret
          exact ⟨rfl, HBW.out.trans (hX.mono HBW.out.size)⟩
    have l14' : decide ((14 : Int) < l.length) = false := decide_eq_false (by omega)
    have l104' : decide ((104 : Int) < l.length) = false := decide_eq_false (by omega)
    have HL4 : Hid (l.length ≤ 1000) := Lib.hid (by omega)
    obtain ⟨⟨_, hpa, b0, b1⟩, _⟩ := HS1.out.at_
    have HPA1 := Lib.hid hpa
    clear hpa
    go_wp2_with fail
    refine (HTP.out _ HPA1.out).mono ?_
    rintro e W3 ⟨⟨b, rfl, hbp⟩, hb3⟩
    have HS3 := Lib.hid (HS1.out.step hb3)
    have HB3 := Lib.hid (HB1.out.trans (hb3.mono HB1.out.size))
    clear hb3 HS1 HB1 HPA1 b0 b1
    cases b with
    | false =>
      clear hbp
      go_wp2_with fail
      refine (HAW.out _).mono ?_
      rintro e w9 ⟨rfl, hb9⟩
      go_wp2
      go_ret
      exact ⟨rfl, HB3.out.trans (hb9.mono HB3.out.size)⟩
    | true =>
      have HZ := Lib.hid (thin_sz (hbt (by trivial)))
      have HZP := Lib.hid (thin_szp (hbp (by trivial)))
      clear hbt hbp
      have HCP := Lib.hid (HCP.out HZ.out)
      have HDC := Lib.hid (HDC.out HZ.out HL4.out)
      have HDR := Lib.hid (HDR.out HZ.out HL4.out)
      have HSM := Lib.hid (HSM.out HZ.out)
      have HVL := Lib.hid (HVL.out HL4.out)
      have HSV := Lib.hid (HSV.out HL4.out)
      have HCPP := Lib.hid (HCPP.out HZP.out)
      have HIP := Lib.hid (HIP.out HZP.out)
      have HIR := Lib.hid (HIR.out HZP.out)
      have HSPP := Lib.hid (HSPP.out HZP.out)
      have HSPD := Lib.hid (HSPD.out HZ.out HL4.out)
      clear HZ HZP HL4 HTH HTP
      have HALL : Hid (∀ W, Below W3.heap.size W3 W → W.cell? ⟨w.heap.size, 0, none⟩ = some (.slice A n c) ∧ W.cell? ⟨w.heap.size + 1, 0, none⟩ = some (.slice V nv cv) ∧ W.cell? ⟨w.heap.size + 1, 1, none⟩ = some (.slice C nc cc)) := Lib.hid fun W hb => ⟨(HS3.out W hb).1.1.2, (HS3.out W hb).1.2.2⟩
      have HMA := Lib.hid fun W (hb : Below W3.heap.size W3 W) => (HS3.out W hb).1.1.1
      have HPA := Lib.hid fun W (hb : Below W3.heap.size W3 W) => (HS3.out W hb).1.2.1
      have HLA := Lib.hid fun W (hb : Below W3.heap.size W3 W) => (HS3.out W hb).2
      obtain ⟨a0, a1, a2⟩ := HALL.out _ (Below.refl _ _)
      have q0 : w.heap.size < W3.heap.size := lt_of_cell a0
      have q1 : w.heap.size + 1 < W3.heap.size := lt_of_cell a1
      clear HS3
      go_wp2_with fail
      go_cut [7, 8, 9] (fun va vb vd wx => ∃ (ga gd : Nat) (B' : Option Addr) (c' : Nat) (X : Option Addr) (cx : Nat) (V' : Option Addr) (cv' : Nat) (C' : Option Addr) (cc' : Nat), va = .pointer (some ⟨ga, 0, none⟩) ∧ vb = .slice X l.length cx ∧ vd = .pointer (some ⟨gd, 0, none⟩) ∧ Hid (Stay (Copied m l p ga gd n nv nc B' X V' C' c' cx cv' cc') wx) ∧ Hid (Below W3.heap.size W3 wx))
      case first =>
        clear HDC HDR HSM HSV HIP HIR HSPP HSPD HAW
        go_region_held3 (fun W => W.cell? ⟨w.heap.size, 0, none⟩ = some (.slice A n c) ∧ W.cell? ⟨w.heap.size + 1, 0, none⟩ = some (.slice V nv cv) ∧ W.cell? ⟨w.heap.size + 1, 1, none⟩ = some (.slice C nc cc))
          (go_keep)
          (first
            | (go_at_call 11; refine (HCP.out _ (HMA.out _ ?hw)).mono ?_; (case hw => first | (with_reducible exact (Below.refl W3.heap.size W3).drew) | (with_reducible exact ((Below.refl W3.heap.size W3).alloc (Nat.le_refl _) _).drew) | (with_reducible exact (((Below.refl W3.heap.size W3).alloc (Nat.le_refl _) _).alloc (by simp) _).drew)); rintro e wa ⟨⟨B', c', hs', rfl, hmo⟩, hb⟩; have hL : Below W3.heap.size W3 wa := by first | (with_reducible exact (Below.refl W3.heap.size W3).drew.trans (hb.mono (by simp <;> omega))) | (with_reducible exact ((Below.refl W3.heap.size W3).alloc (Nat.le_refl _) _).drew.trans (hb.mono (by simp <;> omega))) | (with_reducible exact (((Below.refl W3.heap.size W3).alloc (Nat.le_refl _) _).alloc (by simp) _).drew.trans (hb.mono (by simp <;> omega))) | (exact (Below.refl W3.heap.size W3).drew.trans (hb.mono (by simp; omega))) | (exact ((Below.refl W3.heap.size W3).alloc (Nat.le_refl _) _).drew.trans (hb.mono (by simp; omega))) | (exact (((Below.refl W3.heap.size W3).alloc (Nat.le_refl _) _).alloc (by simp) _).drew.trans (hb.mono (by simp; omega)))
               have hX : Below W3.heap.size W3 wa := hL
               obtain ⟨a0, a1, a2⟩ := HALL.out _ hX
               first | (have b24 : _ ∧ W3.heap.size ≤ _ := ⟨b24.1.below hL, b24.2⟩) | (have b24 : Blk wa W3.heap.size 24 #[.slice none 0 0] ∧ W3.heap.size ≤ W3.heap.size := ⟨by first | exact ((Blk.new W3 24 #[.slice none 0 0]).drew).below hb | exact (((Blk.new W3 24 #[.slice none 0 0]).alloc (.cells #[.slice none 0 0, .slice none 0 0] 37)).drew).below hb, by omega⟩) | (have b24 : Blk wa (W3.heap.size + 1) 24 #[.slice none 0 0] ∧ W3.heap.size ≤ W3.heap.size + 1 := ⟨by have q := ((Blk.new (W3.alloc (.cells #[.slice none 0 0, .slice none 0 0] 37)) 24 #[.slice none 0 0]).drew).below hb; simpa using q, by omega⟩) | (skip)
               first | (have b37 : _ ∧ W3.heap.size ≤ _ := ⟨b37.1.below hL, b37.2⟩) | (have b37 : Blk wa W3.heap.size 37 #[.slice none 0 0, .slice none 0 0] ∧ W3.heap.size ≤ W3.heap.size := ⟨by first | exact ((Blk.new W3 37 #[.slice none 0 0, .slice none 0 0]).drew).below hb | exact (((Blk.new W3 37 #[.slice none 0 0, .slice none 0 0]).alloc (.cells #[.slice none 0 0] 24)).drew).below hb, by omega⟩) | (have b37 : Blk wa (W3.heap.size + 1) 37 #[.slice none 0 0, .slice none 0 0] ∧ W3.heap.size ≤ W3.heap.size + 1 := ⟨by have q := ((Blk.new (W3.alloc (.cells #[.slice none 0 0] 24)) 37 #[.slice none 0 0, .slice none 0 0]).drew).below hb; simpa using q, by omega⟩) | (skip)
               have hsa := hX.size
               clear hb hL)
            | (go_at_call 18; refine (HVL.out _ (HLA.out _ (hX.trans (Below.mono ?hw hX.size)))).mono ?_; (case hw => first | (with_reducible exact (Below.refl wa.heap.size wa)) | (with_reducible exact ((Below.refl wa.heap.size wa).alloc (Nat.le_refl _) _)) | (with_reducible exact (((Below.refl wa.heap.size wa).alloc (Nat.le_refl _) _).alloc (by simp) _))); rintro e wb ⟨⟨X, cx, rfl, hov⟩, hb⟩; have hL : Below wa.heap.size wa wb := by first | (with_reducible exact (Below.refl wa.heap.size wa).trans (hb.mono (by simp <;> omega))) | (with_reducible exact ((Below.refl wa.heap.size wa).alloc (Nat.le_refl _) _).trans (hb.mono (by simp <;> omega))) | (with_reducible exact (((Below.refl wa.heap.size wa).alloc (Nat.le_refl _) _).alloc (by simp) _).trans (hb.mono (by simp <;> omega))) | (exact (Below.refl wa.heap.size wa).trans (hb.mono (by simp; omega))) | (exact ((Below.refl wa.heap.size wa).alloc (Nat.le_refl _) _).trans (hb.mono (by simp; omega))) | (exact (((Below.refl wa.heap.size wa).alloc (Nat.le_refl _) _).alloc (by simp) _).trans (hb.mono (by simp; omega)))
               have hmo := hmo.below hL
               have hX : Below W3.heap.size W3 wb := hX.trans (hL.mono hX.size)
               obtain ⟨a0, a1, a2⟩ := HALL.out _ hX
               first | (have b24 : _ ∧ W3.heap.size ≤ _ := ⟨b24.1.below hL, b24.2⟩) | (have b24 : Blk wb wa.heap.size 24 #[.slice none 0 0] ∧ W3.heap.size ≤ wa.heap.size := ⟨by first | exact ((Blk.new wa 24 #[.slice none 0 0])).below hb | exact (((Blk.new wa 24 #[.slice none 0 0]).alloc (.cells #[.slice none 0 0, .slice none 0 0] 37))).below hb, by omega⟩) | (have b24 : Blk wb (wa.heap.size + 1) 24 #[.slice none 0 0] ∧ W3.heap.size ≤ wa.heap.size + 1 := ⟨by have q := ((Blk.new (wa.alloc (.cells #[.slice none 0 0, .slice none 0 0] 37)) 24 #[.slice none 0 0])).below hb; simpa using q, by omega⟩) | (skip)
               first | (have b37 : _ ∧ W3.heap.size ≤ _ := ⟨b37.1.below hL, b37.2⟩) | (have b37 : Blk wb wa.heap.size 37 #[.slice none 0 0, .slice none 0 0] ∧ W3.heap.size ≤ wa.heap.size := ⟨by first | exact ((Blk.new wa 37 #[.slice none 0 0, .slice none 0 0])).below hb | exact (((Blk.new wa 37 #[.slice none 0 0, .slice none 0 0]).alloc (.cells #[.slice none 0 0] 24))).below hb, by omega⟩) | (have b37 : Blk wb (wa.heap.size + 1) 37 #[.slice none 0 0, .slice none 0 0] ∧ W3.heap.size ≤ wa.heap.size + 1 := ⟨by have q := ((Blk.new (wa.alloc (.cells #[.slice none 0 0] 24)) 37 #[.slice none 0 0, .slice none 0 0])).below hb; simpa using q, by omega⟩) | (skip)
               have hsa := hX.size
               clear hb hL)
            | (go_at_call 19; refine (HCPP.out _ (HPA.out _ (hX.trans (Below.mono ?hw hX.size)))).mono ?_; (case hw => first | (with_reducible exact (Below.refl wb.heap.size wb)) | (with_reducible exact ((Below.refl wb.heap.size wb).alloc (Nat.le_refl _) _)) | (with_reducible exact (((Below.refl wb.heap.size wb).alloc (Nat.le_refl _) _).alloc (by simp) _))); rintro e wc ⟨⟨V', cv', C', cc', ks', rfl, hvo, hlo⟩, hb⟩; have hL : Below wb.heap.size wb wc := by first | (with_reducible exact (Below.refl wb.heap.size wb).trans (hb.mono (by simp <;> omega))) | (with_reducible exact ((Below.refl wb.heap.size wb).alloc (Nat.le_refl _) _).trans (hb.mono (by simp <;> omega))) | (with_reducible exact (((Below.refl wb.heap.size wb).alloc (Nat.le_refl _) _).alloc (by simp) _).trans (hb.mono (by simp <;> omega))) | (exact (Below.refl wb.heap.size wb).trans (hb.mono (by simp; omega))) | (exact ((Below.refl wb.heap.size wb).alloc (Nat.le_refl _) _).trans (hb.mono (by simp; omega))) | (exact (((Below.refl wb.heap.size wb).alloc (Nat.le_refl _) _).alloc (by simp) _).trans (hb.mono (by simp; omega)))
               have hmo := hmo.below hL
               have hov := Own.below hov hL
               have hX : Below W3.heap.size W3 wc := hX.trans (hL.mono hX.size)
               obtain ⟨a0, a1, a2⟩ := HALL.out _ hX
               first | (have b24 : _ ∧ W3.heap.size ≤ _ := ⟨b24.1.below hL, b24.2⟩) | (have b24 : Blk wc wb.heap.size 24 #[.slice none 0 0] ∧ W3.heap.size ≤ wb.heap.size := ⟨by first | exact ((Blk.new wb 24 #[.slice none 0 0])).below hb | exact (((Blk.new wb 24 #[.slice none 0 0]).alloc (.cells #[.slice none 0 0, .slice none 0 0] 37))).below hb, by omega⟩) | (have b24 : Blk wc (wb.heap.size + 1) 24 #[.slice none 0 0] ∧ W3.heap.size ≤ wb.heap.size + 1 := ⟨by have q := ((Blk.new (wb.alloc (.cells #[.slice none 0 0, .slice none 0 0] 37)) 24 #[.slice none 0 0])).below hb; simpa using q, by omega⟩) | (skip)
               first | (have b37 : _ ∧ W3.heap.size ≤ _ := ⟨b37.1.below hL, b37.2⟩) | (have b37 : Blk wc wb.heap.size 37 #[.slice none 0 0, .slice none 0 0] ∧ W3.heap.size ≤ wb.heap.size := ⟨by first | exact ((Blk.new wb 37 #[.slice none 0 0, .slice none 0 0])).below hb | exact (((Blk.new wb 37 #[.slice none 0 0, .slice none 0 0]).alloc (.cells #[.slice none 0 0] 24))).below hb, by omega⟩) | (have b37 : Blk wc (wb.heap.size + 1) 37 #[.slice none 0 0, .slice none 0 0] ∧ W3.heap.size ≤ wb.heap.size + 1 := ⟨by have q := ((Blk.new (wb.alloc (.cells #[.slice none 0 0] 24)) 37 #[.slice none 0 0, .slice none 0 0])).below hb; simpa using q, by omega⟩) | (skip)
               have hsa := hX.size
               have k0 : w.heap.size < wc.heap.size := by omega
               have k1 : w.heap.size + 1 < wc.heap.size := by omega
               first | (have c24 := b24.1.cell 0; have f24 := b24.1.frozen 0; have l24 := b24.1.lt; have n24 := ne1 q0 b24.2; have m24 := ne2 q0 b24.2; have n25 := ne1 q1 b24.2; have m25 := ne2 q1 b24.2; dsimp at c24) | skip
               first | (have c37 := b37.1.cell 0; have d37 := b37.1.cell 1; have f37 := b37.1.frozen 0; have e37 := b37.1.frozen 1; have l37 := b37.1.lt; have n37 := ne1 q0 b37.2; have m37 := ne2 q0 b37.2; have n38 := ne1 q1 b37.2; have m38 := ne2 q1 b37.2; dsimp at c37 d37) | skip
               first | (have x24 := b24.1.ne b37.1 (by decide); have x37 := b37.1.ne b24.1 (by decide)) | skip
               clear hb hL))
        all_goals
          go_wp2_with fail
          go_meet
          clear HALL HMA HPA HLA HCP HVL HCPP
          refine ⟨_, _, B', c', X, cx, V', cv', C', cc', rfl, rfl, rfl, ?_⟩
          first
            | refine fin_mp hX ?_ ?_ ?_ ?_ ?_ hmo hov hvo hlo
            | exact fin_ma hX b24.1 b24.2 hmo hov hvo hlo
            | exact fin_pa hX b37.1 b37.2 hmo hov hvo hlo
            | refine fin_0 hX ?_ ?_ ?_ hmo hov hvo hlo
          all_goals first
            | exact b24.1
            | exact b37.1
            | exact b24.2
            | exact b37.2
            | (with_reducible exact (Below.refl wc.heap.size wc))
            | (with_reducible exact ((Below.refl wc.heap.size wc).alloc (Nat.le_refl _) _))
            | (with_reducible exact (((Below.refl wc.heap.size wc).alloc (Nat.le_refl _) _).alloc (by simp) _))
            | (with_reducible exact b24.1.alloc _)
            | (with_reducible exact b37.1.alloc _)
            | (with_reducible exact Blk.new wc 24 #[.slice none 0 0])
            | (with_reducible exact (Blk.new wc 24 #[.slice none 0 0]).alloc _)
            | (have q := Blk.new (wc.alloc (.cells #[.slice none 0 0, .slice none 0 0] 37)) 24 #[.slice none 0 0]; simp only [World.size_alloc] at q; with_reducible exact q)
            | (have q := Blk.new (wc.alloc (.cells #[.slice V' nv cv', .slice C' nc cc'] 37)) 24 #[.slice none 0 0]; simp only [World.size_alloc] at q; with_reducible exact q)
            | (with_reducible exact Blk.new wc 24 #[.slice B' n c'])
            | (with_reducible exact (Blk.new wc 24 #[.slice B' n c']).alloc _)
            | (have q := Blk.new (wc.alloc (.cells #[.slice none 0 0, .slice none 0 0] 37)) 24 #[.slice B' n c']; simp only [World.size_alloc] at q; with_reducible exact q)
            | (have q := Blk.new (wc.alloc (.cells #[.slice V' nv cv', .slice C' nc cc'] 37)) 24 #[.slice B' n c']; simp only [World.size_alloc] at q; with_reducible exact q)
            | (with_reducible exact Blk.new wc 37 #[.slice none 0 0, .slice none 0 0])
            | (with_reducible exact (Blk.new wc 37 #[.slice none 0 0, .slice none 0 0]).alloc _)
            | (have q := Blk.new (wc.alloc (.cells #[.slice none 0 0] 24)) 37 #[.slice none 0 0, .slice none 0 0]; simp only [World.size_alloc] at q; with_reducible exact q)
            | (have q := Blk.new (wc.alloc (.cells #[.slice B' n c'] 24)) 37 #[.slice none 0 0, .slice none 0 0]; simp only [World.size_alloc] at q; with_reducible exact q)
            | (with_reducible exact Blk.new wc 37 #[.slice V' nv cv', .slice C' nc cc'])
            | (with_reducible exact (Blk.new wc 37 #[.slice V' nv cv', .slice C' nc cc']).alloc _)
            | (have q := Blk.new (wc.alloc (.cells #[.slice none 0 0] 24)) 37 #[.slice V' nv cv', .slice C' nc cc']; simp only [World.size_alloc] at q; with_reducible exact q)
            | (have q := Blk.new (wc.alloc (.cells #[.slice B' n c'] 24)) 37 #[.slice V' nv cv', .slice C' nc cc']; simp only [World.size_alloc] at q; with_reducible exact q)
            | (simp only [World.size_alloc]; omega)
            | omega
      case rest =>
        obtain ⟨ga, gd, B', c', X, cx, V', cv', C', cc', rfl, rfl, rfl, HF, HBX⟩ := hcut
        have HALL2 : Hid (∀ U, Below wc.heap.size wc U → (U.cell? ⟨w.heap.size, 0, none⟩ = some (.slice A n c) ∧ U.cell? ⟨w.heap.size + 1, 0, none⟩ = some (.slice V nv cv) ∧ U.cell? ⟨w.heap.size + 1, 1, none⟩ = some (.slice C nc cc)) ∧ U.cell? ⟨ga, 0, none⟩ = some (.slice B' n c') ∧ U.cell? ⟨gd, 0, none⟩ = some (.slice V' nv cv') ∧ U.cell? ⟨gd, 1, none⟩ = some (.slice C' nc cc')) :=
          Lib.hid fun U hu => ⟨HALL.out U (HBX.out.trans (hu.mono HBX.out.size)), (HF.out U hu).1.1.2, (HF.out U hu).1.2.2.1, (HF.out U hu).1.2.2.2⟩
        have HMA := Lib.hid fun U (hu : Below wc.heap.size wc U) => HMA.out U (HBX.out.trans (hu.mono HBX.out.size))
        have HPA := Lib.hid fun U (hu : Below wc.heap.size wc U) => HPA.out U (HBX.out.trans (hu.mono HBX.out.size))
        have HLA := Lib.hid fun U (hu : Below wc.heap.size wc U) => HLA.out U (HBX.out.trans (hu.mono HBX.out.size))
        have HMB := Lib.hid fun U (hu : Below wc.heap.size wc U) => (HF.out U hu).1.1.1
        have HPB := Lib.hid fun U (hu : Below wc.heap.size wc U) => (HF.out U hu).1.2.1
        have HLB := Lib.hid fun U (hu : Below wc.heap.size wc U) => (HF.out U hu).2
        have HBW := Lib.hid (HB3.out.trans (HBX.out.mono HB3.out.size))
        clear HALL HF HBX HB3 a0 a1 a2 q0 q1
        generalize Ce.draw m l = DD at *
        obtain ⟨D, E⟩ := DD
        dsimp only at HDC HDR HSPD
        generalize D.vals.length = dv at *
        generalize D.cells.length = dc at *
        obtain ⟨⟨a0, a1, a2⟩, b0, b1, b2⟩ := HALL2.out _ (Below.refl _ _)
        go_wp2_with fail
        refine (HDC.out _ _ _ _ _ (HMB.out _ (Below.refl _ _)) (HLB.out _ (Below.refl _ _))).mono ?_
        rintro e w5 ⟨⟨V1, v1, C1, d1, rfl, hp1⟩, hb5⟩
        have hb6 : Below w5.heap.size w5 (w5.alloc (.cells #[.slice V1 dv v1, .slice C1 dc d1] 37)) := (Below.refl _ _).alloc (Nat.le_refl _) _
        have HK6 := Lib.hid (hb5.trans (hb6.mono hb5.size))
        have S1 := Lib.hid ((hp1.at_.stay.step hb6).and (box2 (W := w5) (v := .slice V1 dv v1) (u := .slice C1 dc d1) (t := 37)))
        clear hb5 hb6 hp1 a0 a1 a2 b0 b1 b2 HDC
        obtain ⟨⟨a0, _⟩, _⟩ := HALL2.out _ HK6.out
        go_wp2_with fail
        refine (HCP.out _ (HMA.out _ HK6.out)).mono ?_
        rintro e w7 ⟨⟨B2, c2, hs2, rfl, hmo2⟩, hb7⟩
        have S1 := Lib.hid (S1.out.step hb7)
        have HK7 := Lib.hid (HK6.out.trans (hb7.mono HK6.out.size))
        clear hb7 a0 HK6
        go_wp2_with fail
        refine (HDR.out _ _ _ _ _ hmo2.at_ (HLA.out _ HK7.out)).mono ?_
        rintro e w8 ⟨⟨V2, v2, C2, d2, rfl, hp2⟩, hb8⟩
        have hb9 : Below w8.heap.size w8 (w8.alloc (.cells #[.slice V2 dv v2, .slice C2 dc d2] 37)) := (Below.refl _ _).alloc (Nat.le_refl _) _
        have S1 := Lib.hid ((S1.out.step hb8).step hb9)
        have S2 := Lib.hid ((hp2.at_.stay.step hb9).and (box2 (W := w8) (v := .slice V2 dv v2) (u := .slice C2 dc d2) (t := 37)))
        have HK9 := Lib.hid ((HK7.out.trans (hb8.mono HK7.out.size)).trans (hb9.mono (HK7.out.trans (hb8.mono HK7.out.size)).size))
        clear hb8 hb9 hp2 hmo2 HK7 HDR HCP
        go_wp2_with fail
        generalize w8.alloc (.cells #[.slice V2 dv v2, .slice C2 dc d2] 37) = W9 at *
        have HALL9 : Hid (∀ U, Below W9.heap.size W9 U → ((U.cell? ⟨w5.heap.size, 0, none⟩ = some (.slice V1 dv v1) ∧ U.cell? ⟨w5.heap.size, 1, none⟩ = some (.slice C1 dc d1)) ∧ U.cell? ⟨w8.heap.size, 0, none⟩ = some (.slice V2 dv v2) ∧ U.cell? ⟨w8.heap.size, 1, none⟩ = some (.slice C2 dc d2)) ∧ (U.cell? ⟨w.heap.size, 0, none⟩ = some (.slice A n c) ∧ U.cell? ⟨w.heap.size + 1, 0, none⟩ = some (.slice V nv cv) ∧ U.cell? ⟨w.heap.size + 1, 1, none⟩ = some (.slice C nc cc)) ∧ U.cell? ⟨ga, 0, none⟩ = some (.slice B' n c') ∧ U.cell? ⟨gd, 0, none⟩ = some (.slice V' nv cv') ∧ U.cell? ⟨gd, 1, none⟩ = some (.slice C' nc cc')) :=
          Lib.hid fun U hu => ⟨⟨(S1.out U hu).2, (S2.out U hu).2⟩, HALL2.out U (HK9.out.trans (hu.mono HK9.out.size))⟩
        have HMA := Lib.hid fun U (hu : Below W9.heap.size W9 U) => HMA.out U (HK9.out.trans (hu.mono HK9.out.size))
        have HPA := Lib.hid fun U (hu : Below W9.heap.size W9 U) => HPA.out U (HK9.out.trans (hu.mono HK9.out.size))
        have HLA := Lib.hid fun U (hu : Below W9.heap.size W9 U) => HLA.out U (HK9.out.trans (hu.mono HK9.out.size))
        have HMB := Lib.hid fun U (hu : Below W9.heap.size W9 U) => HMB.out U (HK9.out.trans (hu.mono HK9.out.size))
        have HPB := Lib.hid fun U (hu : Below W9.heap.size W9 U) => HPB.out U (HK9.out.trans (hu.mono HK9.out.size))
        have HLB := Lib.hid fun U (hu : Below W9.heap.size W9 U) => HLB.out U (HK9.out.trans (hu.mono HK9.out.size))
        have HD1 := Lib.hid fun U (hu : Below W9.heap.size W9 U) => (S1.out U hu).1
        have HD2 := Lib.hid fun U (hu : Below W9.heap.size W9 U) => (S2.out U hu).1
        have HBW := Lib.hid (HBW.out.trans (HK9.out.mono HBW.out.size))
        clear HALL2 S1 S2 HK9
        generalize Ce.isPic p = R at *
        obtain ⟨⟨⟨e0, e1⟩, e2, e3⟩, ⟨a0, a1, a2⟩, b0, b1, b2⟩ := HALL9.out _ (Below.refl _ _)
        have hX : Below W9.heap.size W9 W9.drew := (Below.refl _ _).drew
        refine wp_region_held_drew (S := fun U => U.cell? ⟨w5.heap.size, 0, none⟩ = some (.slice V1 dv v1) ∧ U.cell? ⟨w5.heap.size, 1, none⟩ = some (.slice C1 dc d1) ∧ U.cell? ⟨w8.heap.size, 0, none⟩ = some (.slice V2 dv v2) ∧ U.cell? ⟨w8.heap.size, 1, none⟩ = some (.slice C2 dc d2) ∧ U.cell? ⟨w.heap.size, 0, none⟩ = some (.slice A n c) ∧ U.cell? ⟨w.heap.size + 1, 0, none⟩ = some (.slice V nv cv) ∧ U.cell? ⟨w.heap.size + 1, 1, none⟩ = some (.slice C nc cc) ∧ U.cell? ⟨ga, 0, none⟩ = some (.slice B' n c') ∧ U.cell? ⟨gd, 0, none⟩ = some (.slice V' nv cv') ∧ U.cell? ⟨gd, 1, none⟩ = some (.slice C' nc cc')) (by kernel_rfl) ⟨e0, e1, e2, e3, a0, a1, a2, b0, b1, b2⟩ (fun hHeld => ?_)
        refine wpAnyH_take (i := 0) (oi := { dst := some 57, op := Op.load 37 (Operand.tmp 10), type := 37, pos := "law.go:130", after := #[], guard := none }) (v := .agg #[.slice V1 dv v1, .slice C1 dc d1]) rfl (by kernel_rfl) (by kernel_rfl) (by kernel_rfl) (fun _ _ _ h => h) (Or.inl ⟨by rfl, fun w hSw => by (try dsimp only at hSw); go_simp⟩) (by assumption) ?_
        try simp only [Act.put, List.setIfInBounds_toArray, List.set_cons_zero, List.set_cons_succ]
        refine wpAnyH_take (i := 1) (oi := { dst := some 58, op := Op.load 37 (Operand.tmp 12), type := 37, pos := "law.go:130", after := #[], guard := none }) (v := .agg #[.slice V2 dv v2, .slice C2 dc d2]) rfl (by kernel_rfl) (by kernel_rfl) (by kernel_rfl) (fun _ _ _ h => h) (Or.inl ⟨by rfl, fun w hSw => by (try dsimp only at hSw); go_simp⟩) (by assumption) ?_
        try simp only [Act.put, List.setIfInBounds_toArray, List.set_cons_zero, List.set_cons_succ]
        refine wpAnyH_ready (rs := [2]) (by kernel_rfl) (by simp) ?_
        refine AllReadyH.cons (o := { dst := some 59, op := Op.call { callee := Callee.value (Operand.func 22), args := #[Operand.tmp 57, Operand.tmp 58], argTypes := #[37, 37] }, type := 4, pos := "law.go:130", after := #[{ on := 0, ground := Ground.data }, { on := 1, ground := Ground.data }], guard := none }) rfl (fun K hK => ?_) AllReadyH.nil
        go_simp
        refine (HSPD.out _ _ _ _ _ _ _ _ _ (HD1.out _ hX) (HD2.out _ hX)).mono ?_
        rintro e wq2 ⟨rfl, hbq⟩
        have hX : Below W9.heap.size W9 wq2 := hX.trans (hbq.mono hX.size)
        clear e0 e1 e2 e3 a0 a1 a2 b0 b1 b2 hHeld
        obtain ⟨⟨⟨e0, e1⟩, e2, e3⟩, ⟨a0, a1, a2⟩, b0, b1, b2⟩ := HALL9.out _ hX
        clear hbq
        go_wp2_with fail
        refine hK.out _ _ (⟨e0, e1, e2, e3, a0, a1, a2, b0, b1, b2⟩) (fun hHeld => ?_)
        clear hK K
        try simp only [Act.put, List.setIfInBounds_toArray, List.set_cons_zero, List.set_cons_succ]
        refine wpAnyH_take (i := 3) (oi := { dst := some 60, op := Op.move (Operand.tmp 59), type := 4, pos := "law.go:130", after := #[{ on := 2, ground := Ground.data }, { on := 2, ground := Ground.chain }], guard := none }) (v := .bool true) rfl (by kernel_rfl) (by kernel_rfl) (by kernel_rfl) (fun _ _ _ h => h) (Or.inl ⟨by rfl, fun w hSw => by (try dsimp only at hSw); go_simp⟩) (by assumption) ?_
        try simp only [Act.put, List.setIfInBounds_toArray, List.set_cons_zero, List.set_cons_succ]
        refine wpAnyH_take (i := 4) (oi := { dst := some 61, op := Op.move (Operand.tmp 11), type := 28, pos := "law.go:130", after := #[{ on := 3, ground := Ground.guard }], guard := some (3, true) }) (v := .int .i64 E) rfl (by kernel_rfl) (by kernel_rfl) (by kernel_rfl) (fun _ _ _ h => h) (Or.inl ⟨by rfl, fun w hSw => by (try dsimp only at hSw); go_simp⟩) (by assumption) ?_
        try simp only [Act.put, List.setIfInBounds_toArray, List.set_cons_zero, List.set_cons_succ]
        refine wpAnyH_take (i := 5) (oi := { dst := some 62, op := Op.move (Operand.tmp 13), type := 28, pos := "law.go:130", after := #[{ on := 3, ground := Ground.guard }], guard := some (3, true) }) (v := .int .i64 E) rfl (by kernel_rfl) (by kernel_rfl) (by kernel_rfl) (fun _ _ _ h => h) (Or.inl ⟨by rfl, fun w hSw => by (try dsimp only at hSw); go_simp⟩) (by assumption) ?_
        try simp only [Act.put, List.setIfInBounds_toArray, List.set_cons_zero, List.set_cons_succ]
        refine wpAnyH_take (i := 6) (oi := { dst := some 63, op := Op.binOp BinOp.eql 28 (Operand.tmp 61) (Operand.tmp 62) 28, type := 4, pos := "law.go:130", after := #[{ on := 4, ground := Ground.data }, { on := 5, ground := Ground.data }, { on := 3, ground := Ground.guard }], guard := some (3, true) }) (v := .bool true) rfl (by kernel_rfl) (by kernel_rfl) (by kernel_rfl) (fun _ _ _ h => h) (Or.inl ⟨by rfl, fun w hSw => by (try dsimp only at hSw); go_simp⟩) (by assumption) ?_
        try simp only [Act.put, List.setIfInBounds_toArray, List.set_cons_zero, List.set_cons_succ]
        refine wpAnyH_take (i := 7) (oi := { dst := some 64, op := Op.pick (Operand.tmp 60) (Operand.tmp 63) (Operand.const (Value.bool false)), type := 4, pos := "law.go:130", after := #[{ on := 3, ground := Ground.data }, { on := 6, ground := Ground.data }], guard := none }) (v := .bool true) rfl (by kernel_rfl) (by kernel_rfl) (by kernel_rfl) (fun _ _ _ h => h) (Or.inl ⟨by rfl, fun w hSw => by (try dsimp only at hSw); go_simp⟩) (by assumption) ?_
        try simp only [Act.put, List.setIfInBounds_toArray, List.set_cons_zero, List.set_cons_succ]
        refine wpAnyH_take (i := 8) (oi := { dst := some 65, op := Op.move (Operand.tmp 64), type := 4, pos := "law.go:130", after := #[{ on := 7, ground := Ground.data }, { on := 3, ground := Ground.chain }], guard := none }) (v := .bool true) rfl (by kernel_rfl) (by kernel_rfl) (by kernel_rfl) (fun _ _ _ h => h) (Or.inl ⟨by rfl, fun w hSw => by (try dsimp only at hSw); go_simp⟩) (by assumption) ?_
        try simp only [Act.put, List.setIfInBounds_toArray, List.set_cons_zero, List.set_cons_succ]
        refine wpAnyH_take (i := 9) (oi := { dst := some 66, op := Op.load 37 (Operand.tmp 9), type := 37, pos := "law.go:130", after := #[{ on := 8, ground := Ground.guard }], guard := some (8, true) }) (v := .agg #[.slice V' nv cv', .slice C' nc cc']) rfl (by kernel_rfl) (by kernel_rfl) (by kernel_rfl) (fun _ _ _ h => h) (Or.inl ⟨by rfl, fun w hSw => by (try dsimp only at hSw); go_simp⟩) (by assumption) ?_
        try simp only [Act.put, List.setIfInBounds_toArray, List.set_cons_zero, List.set_cons_succ]
        refine wpAnyH_take (i := 11) (oi := { dst := some 68, op := Op.load 37 (Operand.tmp 5), type := 37, pos := "law.go:130", after := #[{ on := 8, ground := Ground.guard }], guard := some (8, true) }) (v := .agg #[.slice V nv cv, .slice C nc cc]) rfl (by kernel_rfl) (by kernel_rfl) (by kernel_rfl) (fun _ _ _ h => h) (Or.inl ⟨by rfl, fun w hSw => by (try dsimp only at hSw); go_simp⟩) (by assumption) ?_
        try simp only [Act.put, List.setIfInBounds_toArray, List.set_cons_zero, List.set_cons_succ]
        refine wpAnyH_ready (rs := [10]) (by kernel_rfl) (by simp) ?_
        refine AllReadyH.cons (o := { dst := some 67, op := Op.call { callee := Callee.value (Operand.func 23), args := #[Operand.tmp 66], argTypes := #[37] }, type := 4, pos := "law.go:130", after := #[{ on := 9, ground := Ground.data }, { on := 8, ground := Ground.chain }, { on := 8, ground := Ground.guard }], guard := some (8, true) }) rfl (fun K hK => ?_) AllReadyH.nil
        go_simp
        refine (HIP.out _ _ _ _ _ (HPB.out _ hX)).mono ?_
        rintro e wq10 ⟨rfl, hbq⟩
        have hX : Below W9.heap.size W9 wq10 := hX.trans (hbq.mono hX.size)
        clear e0 e1 e2 e3 a0 a1 a2 b0 b1 b2 hHeld
        obtain ⟨⟨⟨e0, e1⟩, e2, e3⟩, ⟨a0, a1, a2⟩, b0, b1, b2⟩ := HALL9.out _ hX
        clear hbq
        go_wp2_with fail
        refine hK.out _ _ (⟨e0, e1, e2, e3, a0, a1, a2, b0, b1, b2⟩) (fun hHeld => ?_)
        clear hK K
        try simp only [Act.put, List.setIfInBounds_toArray, List.set_cons_zero, List.set_cons_succ]
        refine wpAnyH_ready (rs := [12]) (by kernel_rfl) (by simp) ?_
        refine AllReadyH.cons (o := { dst := some 69, op := Op.call { callee := Callee.value (Operand.func 24), args := #[Operand.tmp 68], argTypes := #[37] }, type := 4, pos := "law.go:130", after := #[{ on := 11, ground := Ground.data }, { on := 10, ground := Ground.chain }, { on := 8, ground := Ground.guard }], guard := some (8, true) }) rfl (fun K hK => ?_) AllReadyH.nil
        go_simp
        refine (HIR.out _ _ _ _ _ (HPA.out _ hX)).mono ?_
        rintro e wq12 ⟨rfl, hbq⟩
        have hX : Below W9.heap.size W9 wq12 := hX.trans (hbq.mono hX.size)
        clear e0 e1 e2 e3 a0 a1 a2 b0 b1 b2 hHeld
        obtain ⟨⟨⟨e0, e1⟩, e2, e3⟩, ⟨a0, a1, a2⟩, b0, b1, b2⟩ := HALL9.out _ hX
        clear hbq
        go_wp2_with fail
        refine hK.out _ _ (⟨e0, e1, e2, e3, a0, a1, a2, b0, b1, b2⟩) (fun hHeld => ?_)
        clear hK K
        try simp only [Act.put, List.setIfInBounds_toArray, List.set_cons_zero, List.set_cons_succ]
        refine wpAnyH_take (i := 13) (oi := { dst := some 70, op := Op.binOp BinOp.eql 4 (Operand.tmp 67) (Operand.tmp 69) 4, type := 4, pos := "law.go:130", after := #[{ on := 10, ground := Ground.data }, { on := 12, ground := Ground.data }, { on := 8, ground := Ground.guard }], guard := some (8, true) }) (v := .bool true) rfl (by kernel_rfl) (by kernel_rfl) (by kernel_rfl) (fun _ _ _ h => h) (Or.inl ⟨by rfl, fun w hSw => by (try dsimp only at hSw); go_simp⟩) (by assumption) ?_
        try simp only [Act.put, List.setIfInBounds_toArray, List.set_cons_zero, List.set_cons_succ]
        refine wpAnyH_take (i := 14) (oi := { dst := some 71, op := Op.pick (Operand.tmp 65) (Operand.tmp 70) (Operand.const (Value.bool false)), type := 4, pos := "law.go:130", after := #[{ on := 8, ground := Ground.data }, { on := 13, ground := Ground.data }], guard := none }) (v := .bool true) rfl (by kernel_rfl) (by kernel_rfl) (by kernel_rfl) (fun _ _ _ h => h) (Or.inl ⟨by rfl, fun w hSw => by (try dsimp only at hSw); go_simp⟩) (by assumption) ?_
        try simp only [Act.put, List.setIfInBounds_toArray, List.set_cons_zero, List.set_cons_succ]
        refine wpAnyH_take (i := 15) (oi := { dst := some 72, op := Op.move (Operand.tmp 71), type := 4, pos := "law.go:130", after := #[{ on := 14, ground := Ground.data }, { on := 12, ground := Ground.chain }], guard := none }) (v := .bool true) rfl (by kernel_rfl) (by kernel_rfl) (by kernel_rfl) (fun _ _ _ h => h) (Or.inl ⟨by rfl, fun w hSw => by (try dsimp only at hSw); go_simp⟩) (by assumption) ?_
        try simp only [Act.put, List.setIfInBounds_toArray, List.set_cons_zero, List.set_cons_succ]
        refine wpAnyH_take (i := 16) (oi := { dst := some 73, op := Op.load 24 (Operand.tmp 7), type := 24, pos := "law.go:130", after := #[{ on := 15, ground := Ground.guard }], guard := some (15, true) }) (v := .agg #[.slice B' n c']) rfl (by kernel_rfl) (by kernel_rfl) (by kernel_rfl) (fun _ _ _ h => h) (Or.inl ⟨by rfl, fun w hSw => by (try dsimp only at hSw); go_simp⟩) (by assumption) ?_
        try simp only [Act.put, List.setIfInBounds_toArray, List.set_cons_zero, List.set_cons_succ]
        refine wpAnyH_take (i := 17) (oi := { dst := some 74, op := Op.load 24 (Operand.tmp 3), type := 24, pos := "law.go:130", after := #[{ on := 15, ground := Ground.guard }], guard := some (15, true) }) (v := .agg #[.slice A n c]) rfl (by kernel_rfl) (by kernel_rfl) (by kernel_rfl) (fun _ _ _ h => h) (Or.inl ⟨by rfl, fun w hSw => by (try dsimp only at hSw); go_simp⟩) (by assumption) ?_
        try simp only [Act.put, List.setIfInBounds_toArray, List.set_cons_zero, List.set_cons_succ]
        refine wpAnyH_ready (rs := [18]) (by kernel_rfl) (by simp) ?_
        refine AllReadyH.cons (o := { dst := some 75, op := Op.call { callee := Callee.value (Operand.func 16), args := #[Operand.tmp 73, Operand.tmp 74], argTypes := #[24, 24] }, type := 4, pos := "law.go:130", after := #[{ on := 16, ground := Ground.data }, { on := 17, ground := Ground.data }, { on := 15, ground := Ground.chain }, { on := 15, ground := Ground.guard }], guard := some (15, true) }) rfl (fun K hK => ?_) AllReadyH.nil
        go_simp
        refine (HSM.out _ _ _ _ _ (HMB.out _ hX) (HMA.out _ hX)).mono ?_
        rintro e wq18 ⟨rfl, hbq⟩
        have hX : Below W9.heap.size W9 wq18 := hX.trans (hbq.mono hX.size)
        clear e0 e1 e2 e3 a0 a1 a2 b0 b1 b2 hHeld
        obtain ⟨⟨⟨e0, e1⟩, e2, e3⟩, ⟨a0, a1, a2⟩, b0, b1, b2⟩ := HALL9.out _ hX
        clear hbq
        go_wp2_with fail
        refine hK.out _ _ (⟨e0, e1, e2, e3, a0, a1, a2, b0, b1, b2⟩) (fun hHeld => ?_)
        clear hK K
        try simp only [Act.put, List.setIfInBounds_toArray, List.set_cons_zero, List.set_cons_succ]
        refine wpAnyH_take (i := 19) (oi := { dst := some 76, op := Op.pick (Operand.tmp 72) (Operand.tmp 75) (Operand.const (Value.bool false)), type := 4, pos := "law.go:130", after := #[{ on := 15, ground := Ground.data }, { on := 18, ground := Ground.data }], guard := none }) (v := .bool true) rfl (by kernel_rfl) (by kernel_rfl) (by kernel_rfl) (fun _ _ _ h => h) (Or.inl ⟨by rfl, fun w hSw => by (try dsimp only at hSw); go_simp⟩) (by assumption) ?_
        try simp only [Act.put, List.setIfInBounds_toArray, List.set_cons_zero, List.set_cons_succ]
        refine wpAnyH_take (i := 20) (oi := { dst := some 77, op := Op.move (Operand.tmp 76), type := 4, pos := "law.go:130", after := #[{ on := 19, ground := Ground.data }, { on := 18, ground := Ground.chain }], guard := none }) (v := .bool true) rfl (by kernel_rfl) (by kernel_rfl) (by kernel_rfl) (fun _ _ _ h => h) (Or.inl ⟨by rfl, fun w hSw => by (try dsimp only at hSw); go_simp⟩) (by assumption) ?_
        try simp only [Act.put, List.setIfInBounds_toArray, List.set_cons_zero, List.set_cons_succ]
        refine wpAnyH_take (i := 21) (oi := { dst := some 78, op := Op.move (Operand.tmp 8), type := 34, pos := "law.go:130", after := #[{ on := 20, ground := Ground.guard }], guard := some (20, true) }) (v := .slice X l.length cx) rfl (by kernel_rfl) (by kernel_rfl) (by kernel_rfl) (fun _ _ _ h => h) (Or.inl ⟨by rfl, fun w hSw => by (try dsimp only at hSw); go_simp⟩) (by assumption) ?_
        try simp only [Act.put, List.setIfInBounds_toArray, List.set_cons_zero, List.set_cons_succ]
        refine wpAnyH_take (i := 22) (oi := { dst := some 79, op := Op.move (Operand.tmp 1), type := 34, pos := "law.go:130", after := #[{ on := 20, ground := Ground.guard }], guard := some (20, true) }) (v := .slice B l.length cl) rfl (by kernel_rfl) (by kernel_rfl) (by kernel_rfl) (fun _ _ _ h => h) (Or.inl ⟨by rfl, fun w hSw => by (try dsimp only at hSw); go_simp⟩) (by assumption) ?_
        try simp only [Act.put, List.setIfInBounds_toArray, List.set_cons_zero, List.set_cons_succ]
        refine wpAnyH_ready (rs := [23]) (by kernel_rfl) (by simp) ?_
        refine AllReadyH.cons (o := { dst := some 80, op := Op.call { callee := Callee.value (Operand.func 25), args := #[Operand.tmp 78, Operand.tmp 79], argTypes := #[34, 34] }, type := 4, pos := "law.go:130", after := #[{ on := 21, ground := Ground.data }, { on := 22, ground := Ground.data }, { on := 20, ground := Ground.chain }, { on := 20, ground := Ground.guard }], guard := some (20, true) }) rfl (fun K hK => ?_) AllReadyH.nil
        go_simp
        refine (HSV.out _ _ _ _ _ (HLB.out _ hX).arg (HLA.out _ hX).arg).mono ?_
        rintro e wq23 ⟨rfl, hbq⟩
        have hX : Below W9.heap.size W9 wq23 := hX.trans (hbq.mono hX.size)
        clear e0 e1 e2 e3 a0 a1 a2 b0 b1 b2 hHeld
        obtain ⟨⟨⟨e0, e1⟩, e2, e3⟩, ⟨a0, a1, a2⟩, b0, b1, b2⟩ := HALL9.out _ hX
        clear hbq
        go_wp2_with fail
        refine hK.out _ _ (⟨e0, e1, e2, e3, a0, a1, a2, b0, b1, b2⟩) (fun hHeld => ?_)
        clear hK K
        try simp only [Act.put, List.setIfInBounds_toArray, List.set_cons_zero, List.set_cons_succ]
        refine wpAnyH_take (i := 24) (oi := { dst := some 81, op := Op.pick (Operand.tmp 77) (Operand.tmp 80) (Operand.const (Value.bool false)), type := 4, pos := "law.go:130", after := #[{ on := 20, ground := Ground.data }, { on := 23, ground := Ground.data }], guard := none }) (v := .bool true) rfl (by kernel_rfl) (by kernel_rfl) (by kernel_rfl) (fun _ _ _ h => h) (Or.inl ⟨by rfl, fun w hSw => by (try dsimp only at hSw); go_simp⟩) (by assumption) ?_
        try simp only [Act.put, List.setIfInBounds_toArray, List.set_cons_zero, List.set_cons_succ]
        refine wpAnyH_take (i := 25) (oi := { dst := some 82, op := Op.move (Operand.tmp 81), type := 4, pos := "law.go:130", after := #[{ on := 24, ground := Ground.data }, { on := 23, ground := Ground.chain }], guard := none }) (v := .bool true) rfl (by kernel_rfl) (by kernel_rfl) (by kernel_rfl) (fun _ _ _ h => h) (Or.inl ⟨by rfl, fun w hSw => by (try dsimp only at hSw); go_simp⟩) (by assumption) ?_
        try simp only [Act.put, List.setIfInBounds_toArray, List.set_cons_zero, List.set_cons_succ]
        refine wpAnyH_take (i := 26) (oi := { dst := some 83, op := Op.load 37 (Operand.tmp 9), type := 37, pos := "law.go:130", after := #[{ on := 25, ground := Ground.guard }], guard := some (25, true) }) (v := .agg #[.slice V' nv cv', .slice C' nc cc']) rfl (by kernel_rfl) (by kernel_rfl) (by kernel_rfl) (fun _ _ _ h => h) (Or.inl ⟨by rfl, fun w hSw => by (try dsimp only at hSw); go_simp⟩) (by assumption) ?_
        try simp only [Act.put, List.setIfInBounds_toArray, List.set_cons_zero, List.set_cons_succ]
        refine wpAnyH_take (i := 27) (oi := { dst := some 84, op := Op.load 37 (Operand.tmp 5), type := 37, pos := "law.go:130", after := #[{ on := 25, ground := Ground.guard }], guard := some (25, true) }) (v := .agg #[.slice V nv cv, .slice C nc cc]) rfl (by kernel_rfl) (by kernel_rfl) (by kernel_rfl) (fun _ _ _ h => h) (Or.inl ⟨by rfl, fun w hSw => by (try dsimp only at hSw); go_simp⟩) (by assumption) ?_
        try simp only [Act.put, List.setIfInBounds_toArray, List.set_cons_zero, List.set_cons_succ]
        refine wpAnyH_ready (rs := [28]) (by kernel_rfl) (by simp) ?_
        refine AllReadyH.cons (o := { dst := some 85, op := Op.call { callee := Callee.value (Operand.func 22), args := #[Operand.tmp 83, Operand.tmp 84], argTypes := #[37, 37] }, type := 4, pos := "law.go:130", after := #[{ on := 26, ground := Ground.data }, { on := 27, ground := Ground.data }, { on := 25, ground := Ground.chain }, { on := 25, ground := Ground.guard }], guard := some (25, true) }) rfl (fun K hK => ?_) AllReadyH.nil
        go_simp
        refine (HSPP.out _ _ _ _ _ _ _ _ _ (HPB.out _ hX) (HPA.out _ hX)).mono ?_
        rintro e wq28 ⟨rfl, hbq⟩
        have hX : Below W9.heap.size W9 wq28 := hX.trans (hbq.mono hX.size)
        clear e0 e1 e2 e3 a0 a1 a2 b0 b1 b2 hHeld
        obtain ⟨⟨⟨e0, e1⟩, e2, e3⟩, ⟨a0, a1, a2⟩, b0, b1, b2⟩ := HALL9.out _ hX
        clear hbq
        go_wp2_with fail
        refine hK.out _ _ (⟨e0, e1, e2, e3, a0, a1, a2, b0, b1, b2⟩) (fun hHeld => ?_)
        clear hK K
        try simp only [Act.put, List.setIfInBounds_toArray, List.set_cons_zero, List.set_cons_succ]
        refine wpAnyH_take (i := 29) (oi := { dst := some 86, op := Op.pick (Operand.tmp 82) (Operand.tmp 85) (Operand.const (Value.bool false)), type := 4, pos := "law.go:130", after := #[{ on := 25, ground := Ground.data }, { on := 28, ground := Ground.data }], guard := none }) (v := .bool true) rfl (by kernel_rfl) (by kernel_rfl) (by kernel_rfl) (fun _ _ _ h => h) (Or.inl ⟨by rfl, fun w hSw => by (try dsimp only at hSw); go_simp⟩) (by assumption) ?_
        try simp only [Act.put, List.setIfInBounds_toArray, List.set_cons_zero, List.set_cons_succ]
        refine wpAnyH_take (i := 30) (oi := { dst := some 87, op := Op.move (Operand.tmp 86), type := 4, pos := "law.go:130", after := #[{ on := 29, ground := Ground.data }, { on := 28, ground := Ground.chain }], guard := none }) (v := .bool true) rfl (by kernel_rfl) (by kernel_rfl) (by kernel_rfl) (fun _ _ _ h => h) (Or.inl ⟨by rfl, fun w hSw => by (try dsimp only at hSw); go_simp⟩) (by assumption) ?_
        try simp only [Act.put, List.setIfInBounds_toArray, List.set_cons_zero, List.set_cons_succ]
        refine wpAnyH_ready (rs := [31]) (by kernel_rfl) (by simp) ?_
        refine AllReadyH.cons (o := { dst := some 88, op := Op.call { callee := Callee.value (Operand.func 10), args := #[], argTypes := #[] }, type := 4, pos := "law.go:130", after := #[{ on := 30, ground := Ground.chain }, { on := 30, ground := Ground.guard }], guard := some (30, true) }) rfl (fun K hK => ?_) AllReadyH.nil
        go_simp
        refine (HAW.out _).mono ?_
        rintro e wq31 ⟨rfl, hbq⟩
        have hX : Below W9.heap.size W9 wq31 := hX.trans (hbq.mono hX.size)
        clear e0 e1 e2 e3 a0 a1 a2 b0 b1 b2 hHeld
        obtain ⟨⟨⟨e0, e1⟩, e2, e3⟩, ⟨a0, a1, a2⟩, b0, b1, b2⟩ := HALL9.out _ hX
        clear hbq
        go_wp2_with fail
        refine hK.out _ _ (⟨e0, e1, e2, e3, a0, a1, a2, b0, b1, b2⟩) (fun hHeld => ?_)
        clear hK K
        try simp only [Act.put, List.setIfInBounds_toArray, List.set_cons_zero, List.set_cons_succ]
        refine wpAnyH_take (i := 32) (oi := { dst := some 89, op := Op.pick (Operand.tmp 87) (Operand.tmp 88) (Operand.const (Value.bool false)), type := 4, pos := "law.go:130", after := #[{ on := 30, ground := Ground.data }, { on := 31, ground := Ground.data }], guard := none }) (v := .bool true) rfl (by kernel_rfl) (by kernel_rfl) (by kernel_rfl) (fun _ _ _ h => h) (Or.inl ⟨by rfl, fun w hSw => by (try dsimp only at hSw); go_simp⟩) (by assumption) ?_
        try simp only [Act.put, List.setIfInBounds_toArray, List.set_cons_zero, List.set_cons_succ]
        refine wpAnyH_take (i := 33) (oi := { dst := some 6, op := Op.assign (Operand.tmp 89), type := 4, pos := "law.go:130", after := #[{ on := 32, ground := Ground.data }, { on := 31, ground := Ground.chain }, { on := 0, ground := Ground.phase }, { on := 1, ground := Ground.phase }, { on := 2, ground := Ground.phase }, { on := 3, ground := Ground.phase }, { on := 4, ground := Ground.phase }, { on := 5, ground := Ground.phase }, { on := 6, ground := Ground.phase }, { on := 7, ground := Ground.phase }, { on := 8, ground := Ground.phase }, { on := 9, ground := Ground.phase }, { on := 10, ground := Ground.phase }, { on := 11, ground := Ground.phase }, { on := 12, ground := Ground.phase }, { on := 13, ground := Ground.phase }, { on := 14, ground := Ground.phase }, { on := 15, ground := Ground.phase }, { on := 16, ground := Ground.phase }, { on := 17, ground := Ground.phase }, { on := 18, ground := Ground.phase }, { on := 19, ground := Ground.phase }, { on := 20, ground := Ground.phase }, { on := 21, ground := Ground.phase }, { on := 22, ground := Ground.phase }, { on := 23, ground := Ground.phase }, { on := 24, ground := Ground.phase }, { on := 25, ground := Ground.phase }, { on := 26, ground := Ground.phase }, { on := 27, ground := Ground.phase }, { on := 28, ground := Ground.phase }, { on := 29, ground := Ground.phase }, { on := 30, ground := Ground.phase }, { on := 31, ground := Ground.phase }, { on := 32, ground := Ground.phase }], guard := none }) (v := .bool true) rfl (by kernel_rfl) (by kernel_rfl) (by kernel_rfl) (fun _ _ _ h => h) (Or.inl ⟨by rfl, fun w hSw => by (try dsimp only at hSw); go_simp⟩) (by assumption) ?_
        try simp only [Act.put, List.setIfInBounds_toArray, List.set_cons_zero, List.set_cons_succ]
        refine wpAnyH_done (by kernel_rfl) ?_ _
        go_wp2_with fail
        go_ret
        exact ⟨rfl, HBW.out.trans (hX.mono HBW.out.size)⟩
end Go.Proofs.YtjldkndalcellaaGreatDoor
