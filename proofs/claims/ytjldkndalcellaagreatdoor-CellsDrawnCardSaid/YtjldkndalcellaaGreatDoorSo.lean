/- Layer 6: the walks of the laws' tangled and awake. -/
import Derived.Test.YtjldkndalcellaaGreatDoorYe
namespace Go.Proofs.YtjldkndalcellaaGreatDoor
open Go.RowKit Go.El

theorem prim_code (h : PrimC) (s : ByteArray) (l : List Ce.V) (vk vn : Int) (e : Nat) (hs : s.size ≤ 100) (hl : l.length ≤ 100) (hR : Ce.prim s.data.toList l = (⟨vk, vn⟩, e)) (A : Option Addr) (cap : Nat) (w : World) (ha : SlAt ValE w ⟨A, l.length, cap⟩ l) :
    Calls Tryz.prog 37 #[.string s, .slice A l.length cap] w fun e' w' => e' = .returned (.tuple #[.agg #[.int .u8 vk, .int .i64 vn], .int .i64 e]) ∧ Below w.heap.size w w' := by
  have := h s l A cap w hs hl ha
  rwa [hR] at this

theorem play_code (h : PlayA) (m : Ce.Mem) (l : List Ce.Op) (h01 : m = []) (h02 : l = opsL) (m' : Ce.Mem) (gs : List Ce.V) (ts : List Ce.Td) (n e : Nat) (hm : Sz m) (hl : l.length ≤ 100) (hR : Ce.play m l = (m', gs, ts, n, e)) (A B : Option Addr) (c c2 : Nat) (w : World) (h1 : MemV w A c m) (h2 : SlAt OpE w ⟨B, l.length, c2⟩ l) :
    Calls Tryz.prog 40 #[.agg #[.slice A m.length c], .slice B l.length c2] w fun e' w' => (∃ A' c' G cg T ct, e' = .returned (.tuple #[.agg #[.slice A' m'.length c'], .slice G gs.length cg, .slice T ts.length ct, .int .i64 n, .int .i64 e]) ∧ MemV w' A' c' m' ∧ SlAt ValE w' ⟨G, gs.length, cg⟩ gs ∧ SlAt TdE w' ⟨T, ts.length, ct⟩ ts) ∧ Below w.heap.size w w' := by
  have := h m l A B c c2 w h01 h02 hm hl h1 h2
  rwa [hR] at this
theorem play_ops : Ce.play [] opsL = ([⟨[Ce.hole, Ce.vint 5], []⟩], [Ce.vref 0, Ce.hole, Ce.vnil, Ce.vbad 3], [⟨7, Ce.vint 5⟩], 4, 0) := by decide +kernel
theorem draw_code (h : DrawC) (m : Ce.Mem) (l : List Ce.V) (p : Ce.Pic) (e : Nat) (hm : Sz m) (hl : l.length ≤ 1000) (hR : Ce.draw m l = (p, e)) (A B : Option Addr) (c c2 : Nat) (w : World) (h1 : MemV w A c m) (h2 : SlAt ValE w ⟨B, l.length, c2⟩ l) :
    Calls Tryz.prog 20 #[.agg #[.slice A m.length c], .slice B l.length c2] w fun e' w' => (∃ V cv C cc, e' = .returned (.tuple #[.agg #[.slice V p.vals.length cv, .slice C p.cells.length cc], .int .i64 e]) ∧ PicV w' V cv C cc p) ∧ Below w.heap.size w w' := by
  have := h m l A B c c2 w hm hl h1 h2
  rwa [hR] at this
theorem show_code (h : ShowC) (p : Ce.Pic) (deep : Int) (t : List UInt8) (e : Nat) (hp : Szp p) (hs : Simple p) (hR : Ce.showP p deep = (t, e)) (V C : Option Addr) (cv cc : Nat) (w : World) (h1 : PicV w V cv C cc p) :
    Calls Tryz.prog 44 #[.agg #[.slice V p.vals.length cv, .slice C p.cells.length cc], .int .i64 deep] w fun e' w' => e' = .returned (.tuple #[.string (bytesOf t), .int .i64 e]) ∧ Below w.heap.size w w' := by
  have := h p deep V C cv cc w hp hs h1
  rwa [hR] at this
theorem samePic_eq (p : Ce.Pic) (hp : Szp p) (V1 C1 V2 C2 : Option Addr) (cv1 cc1 cv2 cc2 : Nat) (w : World) (h1 : PicAt w V1 cv1 C1 p) (h2 : PicAt w V2 cv2 C2 p) :
    Calls Tryz.prog 22 #[.agg #[.slice V1 p.vals.length cv1, .slice C1 p.cells.length cc1], .agg #[.slice V2 p.vals.length cv2, .slice C2 p.cells.length cc2]] w fun e w' => e = .returned (.bool true) ∧ Below w.heap.size w w' := by
  have h := samePic_any p p hp V1 C1 V2 C2 cv1 cc1 cv2 cc2 w h1 h2
  rwa [decide_eq_true rfl] at h
theorem draw_tangled : Ce.draw tangledM [Ce.vref 1, Ce.vref 0, Ce.vref 1] = (drawnP, 0) := by decide +kernel
def shown : List UInt8 := [91, 91, 46, 46, 44, 32, 63, 93, 44, 32, 63, 93, 44, 32, 91, 91, 46, 46, 44, 32, 63, 93, 93, 44, 32, 91, 91, 46, 46, 44, 32, 63, 93, 44, 32, 63, 93]
theorem show_drawn : Ce.showP drawnP 2 = (shown, 0) := by decide +kernel
theorem sz_tangled : Sz tangledM := ⟨by decide, fun i s hs => by
  match i, hs with
  | 0, hs => simp [tangledM] at hs; subst hs; simp
  | 1, hs => simp [tangledM] at hs; subst hs; simp
  | i + 2, hs => simp [tangledM] at hs⟩
theorem szp_drawn : Szp drawnP := ⟨by decide, by decide, fun i s hs => by
  match i, hs with
  | 0, hs => simp [drawnP] at hs; subst hs; simp
  | 1, hs => simp [drawnP] at hs; subst hs; simp
  | i + 2, hs => simp [drawnP] at hs⟩

set_option maxRecDepth 100000 in
set_option maxHeartbeats 8000000 in
theorem awake_any (h : Prg) (w : World) : Calls Tryz.prog 10 #[] w fun e w' => e = .returned (.bool true) ∧ Below w.heap.size w w' := by
  have HINT := Lib.hid (fun k W => mkInt_any k W)
  have HREF := Lib.hid (fun k W => mkRef_any k W)
  have HBAD := Lib.hid (fun k W => mkBad_any k W)
  have HNIL := Lib.hid (fun W => mkNil_any W)
  have HBOOL := Lib.hid (fun b W => mkBool_any b W)
  have HP1 := Lib.hid (fun A c W ha => prim_code h.prim ⟨#[100, 105, 118]⟩ [Ce.vint (-7), Ce.vint 2] 1 (-3) 0 (by decide) (by decide) (by decide) A c W ha)
  have HP2 := Lib.hid (fun A c W ha => prim_code h.prim ⟨#[109, 111, 100]⟩ [Ce.vint (-7), Ce.vint 2] 1 (-1) 0 (by decide) (by decide) (by decide) A c W ha)
  have HP3 := Lib.hid (fun A c W ha => prim_code h.prim ⟨#[97, 100, 100]⟩ [Ce.vint 1000000000, Ce.vint 1] 5 2 0 (by decide) (by decide) (by decide) A c W ha)
  have HP4 := Lib.hid (fun A c W ha => prim_code h.prim ⟨#[108, 116]⟩ [Ce.vbool true, Ce.vint 1] 5 5 0 (by decide) (by decide) (by decide) A c W ha)
  have HPL := Lib.hid (fun A B c c2 W h1 h2 => play_code h.play [] opsL rfl rfl _ _ _ 4 0 ⟨by simp, fun i s hs => by simp at hs⟩ (by decide) play_ops A B c c2 W h1 h2)
  have HSV := Lib.hid (fun A C c1 c2 W h1 h2 => sameValues_eq [Ce.vref 0, Ce.hole, Ce.vnil, Ce.vbad 3] (by simp [maxLen]) A C c1 c2 W h1 h2)
  have HST := Lib.hid (fun A C c1 c2 W h1 h2 => sameTold_any [⟨7, Ce.vint 5⟩] (by simp [maxLen]) A C c1 c2 W h1 h2)
  have HSM := Lib.hid (fun A C c1 c2 W h1 h2 => same6_any [⟨[Ce.hole, Ce.vint 5], []⟩] ⟨by simp, fun i s hs => by cases i with | zero => simp at hs; subst hs; simp | succ i => simp at hs⟩ A C c1 c2 W h1 h2)
  have HDR := Lib.hid (fun A B c c2 W h1 h2 => draw_code h.draw tangledM [Ce.vref 1, Ce.vref 0, Ce.vref 1] drawnP 0 sz_tangled (by decide) draw_tangled A B c c2 W h1 h2)
  have HSH := Lib.hid (fun V C cv cc W h1 => show_code h.show_ drawnP 2 shown 0 szp_drawn ⟨by decide, by decide⟩ show_drawn V C cv cc W h1)
  have hshown : bytesOf shown = (⟨#[91, 91, 46, 46, 44, 32, 63, 93, 44, 32, 63, 93, 44, 32, 91, 91, 46, 46, 44, 32, 63, 93, 93, 44, 32, 91, 91, 46, 46, 44, 32, 63, 93, 44, 32, 63, 93]⟩ : ByteArray) := rfl
  rw [hshown] at HSH
  clear hshown
  have HCP := Lib.hid (fun V C cv cc W h1 => copyPic_any drawnP szp_drawn V C cv cc W h1)
  have HSP := Lib.hid (fun V1 C1 V2 C2 cv1 cc1 cv2 cc2 W h1 h2 => samePic_eq drawnP szp_drawn V1 C1 V2 C2 cv1 cc1 cv2 cc2 W h1 h2)
  go_enter Tryz.func10, Tryz.ntmps10
  have hB0 : Below w.heap.size w w := Below.refl _ _
  go_wp2_with fail
  refine (HINT.out (-7) _).mono ?_
  rintro e w1 ⟨rfl, hb1⟩
  have hB1 := hB0.trans (hb1.mono hB0.size)
  clear hb1
  go_wp2_with fail
  refine (HINT.out (2) _).mono ?_
  rintro e w2 ⟨rfl, hb2⟩
  have hB2 := hB1.trans (hb2.mono hB1.size)
  clear hb2 hB1
  go_wp2_with fail
  have hb3 : Below w2.heap.size w2 (w2.alloc (.cells #[.int .u8 1, .int .i64 (-7), .int .u8 1, .int .i64 2] 57)) := (Below.refl _ _).alloc (Nat.le_refl _) _
  have hB3 := hB2.trans (hb3.mono hB2.size)
  clear hb3 hB2
  refine (HP1.out _ _ _ (slat_row (K := ValE) rfl rfl rfl)).mono ?_
  rintro e w4 ⟨rfl, hb4⟩
  have hB4 := hB3.trans (hb4.mono hB3.size)
  clear hb4 hB3
  have hb4a : Below w4.heap.size w4 (w4.alloc (.cells #[.int .u8 1, .int .i64 (-3)] 57)) := (Below.refl _ _).alloc (Nat.le_refl _) _
  have hB4a := hB4.trans (hb4a.mono hB4.size)
  clear hb4a hB4
  have SA := Lib.hid (box2 (W := w4) (v := .int .u8 1) (u := .int .i64 (-3)) (t := 57))
  go_wp2_with fail
  refine (HINT.out (-7) _).mono ?_
  rintro e w5 ⟨rfl, hb5⟩
  have SA := Lib.hid (SA.out.step hb5)
  have hB5 := hB4a.trans (hb5.mono hB4a.size)
  clear hb5 hB4a
  go_wp2_with fail
  refine (HINT.out (2) _).mono ?_
  rintro e w6 ⟨rfl, hb6⟩
  have SA := Lib.hid (SA.out.step hb6)
  have hB6 := hB5.trans (hb6.mono hB5.size)
  clear hb6 hB5
  go_wp2_with fail
  have hb7 : Below w6.heap.size w6 (w6.alloc (.cells #[.int .u8 1, .int .i64 (-7), .int .u8 1, .int .i64 2] 57)) := (Below.refl _ _).alloc (Nat.le_refl _) _
  have SA := Lib.hid (SA.out.step hb7)
  have hB7 := hB6.trans (hb7.mono hB6.size)
  clear hb7 hB6
  refine (HP2.out _ _ _ (slat_row (K := ValE) rfl rfl rfl)).mono ?_
  rintro e w8 ⟨rfl, hb8⟩
  have SA := Lib.hid (SA.out.step hb8)
  have hB8 := hB7.trans (hb8.mono hB7.size)
  clear hb8 hB7
  have hb8a : Below w8.heap.size w8 (w8.alloc (.cells #[.int .u8 1, .int .i64 (-1)] 57)) := (Below.refl _ _).alloc (Nat.le_refl _) _
  have SA := Lib.hid (SA.out.step hb8a)
  have hB8a := hB8.trans (hb8a.mono hB8.size)
  clear hb8a hB8
  have SB := Lib.hid (box2 (W := w8) (v := .int .u8 1) (u := .int .i64 (-1)) (t := 57))
  go_wp2_with fail
  refine (HINT.out (1000000000) _).mono ?_
  rintro e w9 ⟨rfl, hb9⟩
  have SA := Lib.hid (SA.out.step hb9)
  have SB := Lib.hid (SB.out.step hb9)
  have hB9 := hB8a.trans (hb9.mono hB8a.size)
  clear hb9 hB8a
  go_wp2_with fail
  refine (HINT.out (1) _).mono ?_
  rintro e w10 ⟨rfl, hb10⟩
  have SA := Lib.hid (SA.out.step hb10)
  have SB := Lib.hid (SB.out.step hb10)
  have hB10 := hB9.trans (hb10.mono hB9.size)
  clear hb10 hB9
  go_wp2_with fail
  have hb11 : Below w10.heap.size w10 (w10.alloc (.cells #[.int .u8 1, .int .i64 1000000000, .int .u8 1, .int .i64 1] 57)) := (Below.refl _ _).alloc (Nat.le_refl _) _
  have SA := Lib.hid (SA.out.step hb11)
  have SB := Lib.hid (SB.out.step hb11)
  have hB11 := hB10.trans (hb11.mono hB10.size)
  clear hb11 hB10
  refine (HP3.out _ _ _ (slat_row (K := ValE) rfl rfl rfl)).mono ?_
  rintro e w12 ⟨rfl, hb12⟩
  have SA := Lib.hid (SA.out.step hb12)
  have SB := Lib.hid (SB.out.step hb12)
  have hB12 := hB11.trans (hb12.mono hB11.size)
  clear hb12 hB11
  have hb12a : Below w12.heap.size w12 (w12.alloc (.cells #[.int .u8 5, .int .i64 2] 57)) := (Below.refl _ _).alloc (Nat.le_refl _) _
  have SA := Lib.hid (SA.out.step hb12a)
  have SB := Lib.hid (SB.out.step hb12a)
  have hB12a := hB12.trans (hb12a.mono hB12.size)
  clear hb12a hB12
  have SC := Lib.hid (box2 (W := w12) (v := .int .u8 5) (u := .int .i64 2) (t := 57))
  go_wp2_with fail
  refine (HBOOL.out true _).mono ?_
  rintro e w13 ⟨rfl, hb13⟩
  have SA := Lib.hid (SA.out.step hb13)
  have SB := Lib.hid (SB.out.step hb13)
  have SC := Lib.hid (SC.out.step hb13)
  have hB13 := hB12a.trans (hb13.mono hB12a.size)
  clear hb13 hB12a
  go_wp2_with fail
  refine (HINT.out (1) _).mono ?_
  rintro e w14 ⟨rfl, hb14⟩
  have SA := Lib.hid (SA.out.step hb14)
  have SB := Lib.hid (SB.out.step hb14)
  have SC := Lib.hid (SC.out.step hb14)
  have hB14 := hB13.trans (hb14.mono hB13.size)
  clear hb14 hB13
  go_wp2_with fail
  have hb15 : Below w14.heap.size w14 (w14.alloc (.cells #[.int .u8 2, .int .i64 1, .int .u8 1, .int .i64 1] 57)) := (Below.refl _ _).alloc (Nat.le_refl _) _
  have SA := Lib.hid (SA.out.step hb15)
  have SB := Lib.hid (SB.out.step hb15)
  have SC := Lib.hid (SC.out.step hb15)
  have hB15 := hB14.trans (hb15.mono hB14.size)
  clear hb15 hB14
  refine (HP4.out _ _ _ (slat_row (K := ValE) rfl rfl rfl)).mono ?_
  rintro e w16 ⟨rfl, hb16⟩
  have SA := Lib.hid (SA.out.step hb16)
  have SB := Lib.hid (SB.out.step hb16)
  have SC := Lib.hid (SC.out.step hb16)
  have hB16 := hB15.trans (hb16.mono hB15.size)
  clear hb16 hB15
  have hb16a : Below w16.heap.size w16 (w16.alloc (.cells #[.int .u8 5, .int .i64 5] 57)) := (Below.refl _ _).alloc (Nat.le_refl _) _
  have SA := Lib.hid (SA.out.step hb16a)
  have SB := Lib.hid (SB.out.step hb16a)
  have SC := Lib.hid (SC.out.step hb16a)
  have hB16a := hB16.trans (hb16a.mono hB16.size)
  clear hb16a hB16
  have SD := Lib.hid (box2 (W := w16) (v := .int .u8 5) (u := .int .i64 5) (t := 57))
  go_wp2_with fail
  generalize hWG : w16.alloc _ = W4 at *
  clear hWG
  have HALL : Hid (∀ W, Below W4.heap.size W4 W → W.cell? ⟨w4.heap.size, 0, none⟩ = some (.int .u8 1) ∧ W.cell? ⟨w4.heap.size, 1, none⟩ = some (.int .i64 (-3)) ∧ W.cell? ⟨w8.heap.size, 0, none⟩ = some (.int .u8 1) ∧ W.cell? ⟨w8.heap.size, 1, none⟩ = some (.int .i64 (-1)) ∧ W.cell? ⟨w12.heap.size, 0, none⟩ = some (.int .u8 5) ∧ W.cell? ⟨w12.heap.size, 1, none⟩ = some (.int .i64 2) ∧ W.cell? ⟨w16.heap.size, 0, none⟩ = some (.int .u8 5) ∧ W.cell? ⟨w16.heap.size, 1, none⟩ = some (.int .i64 5)) := Lib.hid fun W hb => ⟨(SA.out W hb).1, (SA.out W hb).2, (SB.out W hb).1, (SB.out W hb).2, (SC.out W hb).1, (SC.out W hb).2, (SD.out W hb).1, (SD.out W hb).2⟩
  clear SA SB SC SD
  obtain ⟨a0, a1, b0, b1, c0, c1, d0, d1⟩ := HALL.out W4 (Below.refl _ _)
  have hX : Below W4.heap.size W4 W4.drew := (Below.refl _ _).drew
  go_region_held3 (fun W => W.cell? ⟨w4.heap.size, 0, none⟩ = some (.int .u8 1) ∧ W.cell? ⟨w4.heap.size, 1, none⟩ = some (.int .i64 (-3)) ∧ W.cell? ⟨w8.heap.size, 0, none⟩ = some (.int .u8 1) ∧ W.cell? ⟨w8.heap.size, 1, none⟩ = some (.int .i64 (-1)) ∧ W.cell? ⟨w12.heap.size, 0, none⟩ = some (.int .u8 5) ∧ W.cell? ⟨w12.heap.size, 1, none⟩ = some (.int .i64 2) ∧ W.cell? ⟨w16.heap.size, 0, none⟩ = some (.int .u8 5) ∧ W.cell? ⟨w16.heap.size, 1, none⟩ = some (.int .i64 5))
    (go_keep)
    (first
      | (go_at_call 32; refine (HINT.out _ _).mono ?_; rintro e wq ⟨rfl, hbq⟩; have hX : Below W4.heap.size W4 wq := hX.trans (hbq.mono hX.size); obtain ⟨a0, a1, b0, b1, c0, c1, d0, d1⟩ := HALL.out _ hX; clear hbq)
      | (go_at_call 39; refine (HBAD.out _ _).mono ?_; rintro e wq ⟨rfl, hbq⟩; have hX : Below W4.heap.size W4 wq := hX.trans (hbq.mono hX.size); obtain ⟨a0, a1, b0, b1, c0, c1, d0, d1⟩ := HALL.out _ hX; clear hbq))
  have hB20 := hB16a.trans (hX.mono hB16a.size)
  clear hX HALL a0 a1 b0 b1 c0 c1 d0 d1 hB16a
  go_wp2_with fail
  refine (HINT.out 2 _).mono ?_
  rintro e w21 ⟨rfl, hb21⟩
  have hB21 := hB20.trans (hb21.mono hB20.size)
  clear hb21 hB20
  go_wp2_with fail
  refine (HREF.out 0 _).mono ?_
  rintro e w22 ⟨rfl, hb22⟩
  have hB22 := hB21.trans (hb22.mono hB21.size)
  clear hb22 hB21
  go_wp2_with fail
  refine (HINT.out 1 _).mono ?_
  rintro e w23 ⟨rfl, hb23⟩
  have hB23 := hB22.trans (hb23.mono hB22.size)
  clear hb23 hB22
  go_wp2_with fail
  refine (HREF.out 0 _).mono ?_
  rintro e w24 ⟨rfl, hb24⟩
  have hB24 := hB23.trans (hb24.mono hB23.size)
  clear hb24 hB23
  go_wp2_with fail
  refine (HINT.out 1 _).mono ?_
  rintro e w25 ⟨rfl, hb25⟩
  have hB25 := hB24.trans (hb25.mono hB24.size)
  clear hb25 hB24
  go_wp2_with fail
  refine (HINT.out 5 _).mono ?_
  rintro e w26 ⟨rfl, hb26⟩
  have hB26 := hB25.trans (hb26.mono hB25.size)
  clear hb26 hB25
  go_wp2_with fail
  refine (HREF.out 0 _).mono ?_
  rintro e w27 ⟨rfl, hb27⟩
  have hB27 := hB26.trans (hb27.mono hB26.size)
  clear hb27 hB26
  go_wp2_with fail
  refine (HINT.out 2 _).mono ?_
  rintro e w28 ⟨rfl, hb28⟩
  have hB28 := hB27.trans (hb28.mono hB27.size)
  clear hb28 hB27
  go_wp2_with fail
  have hb29 : Below w28.heap.size w28 (w28.alloc (.cells #[.int .u8 1, .int .u8 1, .int .i64 2, .int .u8 0, .int .i64 0, .int .u8 0, .int .i64 0, .int .i64 0, .int .u8 3, .int .u8 4, .int .i64 0, .int .u8 1, .int .i64 1, .int .u8 0, .int .i64 0, .int .i64 7, .int .u8 2, .int .u8 4, .int .i64 0, .int .u8 1, .int .i64 1, .int .u8 1, .int .i64 5, .int .i64 0, .int .u8 3, .int .u8 4, .int .i64 0, .int .u8 1, .int .i64 2, .int .u8 0, .int .i64 0, .int .i64 8] 75)) := (Below.refl _ _).alloc (Nat.le_refl _) _
  have hB29 := hB28.trans (hb29.mono hB28.size)
  clear hb29 hB28
  refine (HPL.out _ _ _ _ _ (memNil _) (slat_row (K := OpE) rfl rfl rfl)).mono ?_
  rintro e w30 ⟨⟨A1, c1, G, cg, T, ct, rfl, hm, hg, ht⟩, hb30⟩
  have hB30 := hB29.trans (hb30.mono hB29.size)
  clear hb30 hB29
  have hb31 : Below w30.heap.size w30 (w30.alloc (.cells #[.slice A1 1 c1] 24)) := (Below.refl _ _).alloc (Nat.le_refl _) _
  have hB31 := hB30.trans (hb31.mono hB30.size)
  have SM := Lib.hid (hm.stay.step hb31)
  have SG := Lib.hid ((SlAt_stay hg).step hb31)
  have ST := Lib.hid ((SlAt_stay ht).step hb31)
  have SX := Lib.hid (box1 (W := w30) (v := .slice A1 1 c1) (t := 24))
  clear hb31 hm hg ht hB30
  go_wp2_with fail
  generalize hWG : w30.alloc _ = W7 at *
  clear hWG
  have HALL : Hid (∀ W, Below W7.heap.size W7 W → W.cell? ⟨w30.heap.size, 0, none⟩ = some (.slice A1 1 c1)) := Lib.hid fun W hb => SX.out W hb
  have a0 := HALL.out W7 (Below.refl _ _)
  have hX : Below W7.heap.size W7 W7.drew := (Below.refl _ _).drew
  go_region_held3 (fun W => W.cell? ⟨w30.heap.size, 0, none⟩ = some (.slice A1 1 c1))
    (go_keep)
    (first
      | (go_at_call 41; refine (HREF.out _ _).mono ?_; rintro e wq ⟨rfl, hbq⟩; have hX : Below W7.heap.size W7 wq := hX.trans (hbq.mono hX.size); have a0 := HALL.out _ hX; clear hbq)
      | (go_at_call 36; refine (HNIL.out _).mono ?_; rintro e wq ⟨rfl, hbq⟩; have hX : Below W7.heap.size W7 wq := hX.trans (hbq.mono hX.size); have a0 := HALL.out _ hX; clear hbq)
      | (go_at_call 39; refine (HBAD.out _ _).mono ?_; rintro e wq ⟨rfl, hbq⟩; have hX : Below W7.heap.size W7 wq := hX.trans (hbq.mono hX.size); have a0 := HALL.out _ hX; clear hbq)
      | (go_at_call 32; refine (HINT.out _ _).mono ?_; rintro e wq ⟨rfl, hbq⟩; have hX : Below W7.heap.size W7 wq := hX.trans (hbq.mono hX.size); have a0 := HALL.out _ hX; clear hbq)
      | (go_at_call 25; refine (HSV.out _ _ _ _ _ (SG.out _ (hX.alloc hX.size _)).arg (row_arg (K := ValE) rfl rfl)).mono ?_; rintro e wq ⟨rfl, hbq⟩; have hX : Below W7.heap.size W7 wq := (hX.alloc hX.size _).trans (hbq.mono (hX.alloc hX.size _).size); have a0 := HALL.out _ hX; clear hbq)
      | (go_at_call 42; refine (HST.out _ _ _ _ _ (ST.out _ (hX.alloc hX.size _)).arg (row_arg (K := TdE) rfl rfl)).mono ?_; rintro e wq ⟨rfl, hbq⟩; have hX : Below W7.heap.size W7 wq := (hX.alloc hX.size _).trans (hbq.mono (hX.alloc hX.size _).size); have a0 := HALL.out _ hX; clear hbq)
      | (go_at_call 16; refine (HSM.out _ _ _ _ _ (SM.out _ ((hX.alloc hX.size _).alloc (hX.alloc hX.size _).size _)).at_ (memLit _)).mono ?_; rintro e wq ⟨rfl, hbq⟩; have hX : Below W7.heap.size W7 wq := ((hX.alloc hX.size _).alloc (hX.alloc hX.size _).size _).trans (hbq.mono ((hX.alloc hX.size _).alloc (hX.alloc hX.size _).size _).size); have a0 := HALL.out _ hX; clear hbq))
  have hB40 := hB31.trans (hX.mono hB31.size)
  clear hX HALL a0 hB31 SM SG ST SX
  go_wp2_with fail
  refine (tangled_any _).mono ?_
  rintro e w41 ⟨⟨gt, rfl, ht⟩, hb41⟩
  have hB41 := hB40.trans (hb41.mono hB40.size)
  clear hb41 hB40
  have STM := Lib.hid (ht.stay)
  clear ht
  go_wp2_with fail
  refine (HREF.out 1 _).mono ?_
  rintro e w42 ⟨rfl, hb42⟩
  have STM := Lib.hid (STM.out.step hb42)
  have hB42 := hB41.trans (hb42.mono hB41.size)
  clear hb42 hB41
  go_wp2_with fail
  refine (HREF.out 0 _).mono ?_
  rintro e w43 ⟨rfl, hb43⟩
  have STM := Lib.hid (STM.out.step hb43)
  have hB43 := hB42.trans (hb43.mono hB42.size)
  clear hb43 hB42
  go_wp2_with fail
  refine (HREF.out 1 _).mono ?_
  rintro e w44 ⟨rfl, hb44⟩
  have STM := Lib.hid (STM.out.step hb44)
  have hB44 := hB43.trans (hb44.mono hB43.size)
  clear hb44 hB43
  go_wp2_with fail
  have hb45 : Below w44.heap.size w44 (w44.alloc (.cells #[.int .u8 4, .int .i64 1, .int .u8 4, .int .i64 0, .int .u8 4, .int .i64 1] 57)) := (Below.refl _ _).alloc (Nat.le_refl _) _
  have STM := Lib.hid (STM.out.step hb45)
  have hB45 := hB44.trans (hb45.mono hB44.size)
  clear hb45 hB44
  refine (HDR.out _ _ _ _ _ STM.out.at_ (slat_row (K := ValE) rfl rfl rfl)).mono ?_
  rintro e w50 ⟨⟨V, cv, C, cc, rfl, hp⟩, hb50⟩
  have hB50 := hB45.trans (hb50.mono hB45.size)
  clear hb50 hB45 STM
  have hb51 : Below w50.heap.size w50 (w50.alloc (.cells #[.slice V 3 cv, .slice C 2 cc] 37)) := (Below.refl _ _).alloc (Nat.le_refl _) _
  have hB51 := hB50.trans (hb51.mono hB50.size)
  have SP := Lib.hid (hp.stay.step hb51)
  have SX := Lib.hid (box2 (W := w50) (v := .slice V 3 cv) (u := .slice C 2 cc) (t := 37))
  clear hb51 hp hB50
  go_wp2_with fail
  refine (HCP.out _ _ _ _ _ SP.out.at_.at_).mono ?_
  rintro e w52 ⟨⟨V', cv', C', cc', hs', rfl, ho1, ho2⟩, hb52⟩
  have SP := Lib.hid (SP.out.step hb52)
  have SX := Lib.hid (SX.out.step hb52)
  have hB52 := hB51.trans (hb52.mono hB51.size)
  clear hb52 hB51
  go_wp2_with fail
  refine (HSH.out _ _ _ _ _ (LO.picV (p := drawnP) ho1 ho2)).mono ?_
  rintro e w53 ⟨rfl, hb53⟩
  have SP := Lib.hid (SP.out.step hb53)
  have SX := Lib.hid (SX.out.step hb53)
  have hB53 := hB52.trans (hb53.mono hB52.size)
  clear hb53 hB52 ho1 ho2
  go_wp2_with fail
  have HALL : Hid (∀ W, Below w53.heap.size w53 W → W.cell? ⟨w50.heap.size, 0, none⟩ = some (.slice V 3 cv) ∧ W.cell? ⟨w50.heap.size, 1, none⟩ = some (.slice C 2 cc)) := Lib.hid fun W hb => SX.out W hb
  obtain ⟨a0, a1⟩ := HALL.out w53 (Below.refl _ _)
  have HX : Hid (∀ _ : Unit, Below w53.heap.size w53 w53.drew) := Lib.hid fun _ => (Below.refl _ _).drew
  go_region_held3 (fun W => W.cell? ⟨w50.heap.size, 0, none⟩ = some (.slice V 3 cv) ∧ W.cell? ⟨w50.heap.size, 1, none⟩ = some (.slice C 2 cc))
    (go_keep)
    (first
      | (go_at_call 22
         first
           | refine (HSP.out _ _ _ _ _ _ _ _ _ (SP.out _ ?hb).at_ (picLit _ _ _ _ _ ?h0 (row_arg (by simp) rfl) ?h2 ?h3)).mono ?_
           | refine (HSP.out _ _ _ _ _ _ _ _ _ (SP.out _ ?hb).at_ (picLit _ _ _ _ _ ?h0 (Arg.below (row_arg (by simp) rfl) ((Below.refl _ _).alloc (Nat.le_refl _) _)) ?h2 ?h3)).mono ?_
         case hb => first | exact (HX.out ()) | exact ((HX.out ()).alloc (HX.out ()).size _) | exact (((HX.out ()).alloc (HX.out ()).size _).alloc ((HX.out ()).alloc (HX.out ()).size _).size _) | exact ((((HX.out ()).alloc (HX.out ()).size _).alloc ((HX.out ()).alloc (HX.out ()).size _).size _).alloc (((HX.out ()).alloc (HX.out ()).size _).alloc ((HX.out ()).alloc (HX.out ()).size _).size _).size _) | exact (((((HX.out ()).alloc (HX.out ()).size _).alloc ((HX.out ()).alloc (HX.out ()).size _).size _).alloc (((HX.out ()).alloc (HX.out ()).size _).alloc ((HX.out ()).alloc (HX.out ()).size _).size _).size _).alloc ((((HX.out ()).alloc (HX.out ()).size _).alloc ((HX.out ()).alloc (HX.out ()).size _).size _).alloc (((HX.out ()).alloc (HX.out ()).size _).alloc ((HX.out ()).alloc (HX.out ()).size _).size _).size _).size _)
         case h0 => repeat (first | exact row_arg (by simp) rfl | refine Arg.below ?_ ((Below.refl _ _).alloc (Nat.le_refl _) _) | refine Arg.below ?_ (by assumption))
         case h2 => repeat (first | exact row_arg (by simp) rfl | refine Arg.below ?_ ((Below.refl _ _).alloc (Nat.le_refl _) _) | refine Arg.below ?_ (by assumption))
         case h3 => repeat (first | exact row_arg (by simp) rfl | refine Arg.below ?_ ((Below.refl _ _).alloc (Nat.le_refl _) _) | refine Arg.below ?_ (by assumption))
         rintro e wz ⟨rfl, hbz⟩
         have hZ : Below w53.heap.size w53 wz := by first | exact (HX.out ()).trans (hbz.mono (HX.out ()).size) | exact ((HX.out ()).alloc (HX.out ()).size _).trans (hbz.mono ((HX.out ()).alloc (HX.out ()).size _).size) | exact (((HX.out ()).alloc (HX.out ()).size _).alloc ((HX.out ()).alloc (HX.out ()).size _).size _).trans (hbz.mono (((HX.out ()).alloc (HX.out ()).size _).alloc ((HX.out ()).alloc (HX.out ()).size _).size _).size) | exact ((((HX.out ()).alloc (HX.out ()).size _).alloc ((HX.out ()).alloc (HX.out ()).size _).size _).alloc (((HX.out ()).alloc (HX.out ()).size _).alloc ((HX.out ()).alloc (HX.out ()).size _).size _).size _).trans (hbz.mono ((((HX.out ()).alloc (HX.out ()).size _).alloc ((HX.out ()).alloc (HX.out ()).size _).size _).alloc (((HX.out ()).alloc (HX.out ()).size _).alloc ((HX.out ()).alloc (HX.out ()).size _).size _).size _).size) | exact (((((HX.out ()).alloc (HX.out ()).size _).alloc ((HX.out ()).alloc (HX.out ()).size _).size _).alloc (((HX.out ()).alloc (HX.out ()).size _).alloc ((HX.out ()).alloc (HX.out ()).size _).size _).size _).alloc ((((HX.out ()).alloc (HX.out ()).size _).alloc ((HX.out ()).alloc (HX.out ()).size _).size _).alloc (((HX.out ()).alloc (HX.out ()).size _).alloc ((HX.out ()).alloc (HX.out ()).size _).size _).size _).size _).trans (hbz.mono (((((HX.out ()).alloc (HX.out ()).size _).alloc ((HX.out ()).alloc (HX.out ()).size _).size _).alloc (((HX.out ()).alloc (HX.out ()).size _).alloc ((HX.out ()).alloc (HX.out ()).size _).size _).size _).alloc ((((HX.out ()).alloc (HX.out ()).size _).alloc ((HX.out ()).alloc (HX.out ()).size _).size _).alloc (((HX.out ()).alloc (HX.out ()).size _).alloc ((HX.out ()).alloc (HX.out ()).size _).size _).size _).size _).size)
         obtain ⟨a0, a1⟩ := HALL.out _ hZ)
      | (go_at_call 41; refine (HREF.out _ _).mono ?_; rintro e wq ⟨rfl, hbq⟩
         have hX : Below w53.heap.size w53 wq := by first | exact (HX.out ()).trans (hbq.mono (HX.out ()).size) | exact ((HX.out ()).alloc (HX.out ()).size _).trans (hbq.mono ((HX.out ()).alloc (HX.out ()).size _).size) | exact (((HX.out ()).alloc (HX.out ()).size _).alloc ((HX.out ()).alloc (HX.out ()).size _).size _).trans (hbq.mono (((HX.out ()).alloc (HX.out ()).size _).alloc ((HX.out ()).alloc (HX.out ()).size _).size _).size) | exact ((((HX.out ()).alloc (HX.out ()).size _).alloc ((HX.out ()).alloc (HX.out ()).size _).size _).alloc (((HX.out ()).alloc (HX.out ()).size _).alloc ((HX.out ()).alloc (HX.out ()).size _).size _).size _).trans (hbq.mono ((((HX.out ()).alloc (HX.out ()).size _).alloc ((HX.out ()).alloc (HX.out ()).size _).size _).alloc (((HX.out ()).alloc (HX.out ()).size _).alloc ((HX.out ()).alloc (HX.out ()).size _).size _).size _).size) | exact (((((HX.out ()).alloc (HX.out ()).size _).alloc ((HX.out ()).alloc (HX.out ()).size _).size _).alloc (((HX.out ()).alloc (HX.out ()).size _).alloc ((HX.out ()).alloc (HX.out ()).size _).size _).size _).alloc ((((HX.out ()).alloc (HX.out ()).size _).alloc ((HX.out ()).alloc (HX.out ()).size _).size _).alloc (((HX.out ()).alloc (HX.out ()).size _).alloc ((HX.out ()).alloc (HX.out ()).size _).size _).size _).size _).trans (hbq.mono (((((HX.out ()).alloc (HX.out ()).size _).alloc ((HX.out ()).alloc (HX.out ()).size _).size _).alloc (((HX.out ()).alloc (HX.out ()).size _).alloc ((HX.out ()).alloc (HX.out ()).size _).size _).size _).alloc ((((HX.out ()).alloc (HX.out ()).size _).alloc ((HX.out ()).alloc (HX.out ()).size _).size _).alloc (((HX.out ()).alloc (HX.out ()).size _).alloc ((HX.out ()).alloc (HX.out ()).size _).size _).size _).size _).size)
         obtain ⟨a0, a1⟩ := HALL.out _ hX
         have HX := Lib.hid (fun _ : Unit => hX)
         clear hX))
  all_goals
    go_wp2_with fail
    go_ret
    exact ⟨rfl, hB53.trans (hZ.mono hB53.size)⟩

end Go.Proofs.YtjldkndalcellaaGreatDoor
