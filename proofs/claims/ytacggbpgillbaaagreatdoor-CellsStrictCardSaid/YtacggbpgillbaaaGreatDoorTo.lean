/- Layer 6, the program: Prim. -/
import Derived.Test.YtacggbpgillbaaaGreatDoorTl
import Derived.Laws.EntriesVeiled
namespace Go.Proofs.YtacggbpgillbaaaGreatDoor
open Go.RowKit Go.El

/-- the result of an operation, of as many values as it wants -/
theorem result_any (sp : Spec) (gf : Int → Int → Ce.V) (hok : Tab.Ok ⟨sp, gf⟩) (l : List Ce.V) (hl : l.length = Ce.operands sp.name) (hv : Ce.areValues l (-1) = true) (g : Nat) (A : Option Addr) (cap : Nat) (w : World) (h : ValE.Arg w A l) (hg : U8E.In w g 0 sp.kinds) :
    Calls Tryz.prog 73 #[.agg #[.int .i64 sp.n, .slice (some ⟨g, 0, none⟩) sp.kinds.length sp.kinds.length, .func (.func sp.fn) #[] #[]], .slice A l.length cap] w fun e w' => e = .returned (.agg #[.int .u8 (Ce.prim sp.name l).1.k, .int .i64 (Ce.prim sp.name l).1.n]) ∧ Below w.heap.size w w' := by
  obtain ⟨h1, h2, h3, h4, h5, h6, h7⟩ := hok
  dsimp only at h1 h2 h3 h4 h5 h6 h7
  have hle := Ce.operands_le sp.name
  have hl100 : l.length ≤ 100 := by omega
  rw [h7 l hl hv]
  unfold Ce.resultV
  cases hh : l.any isHoleB with
  | true =>
    rw [if_pos rfl]
    exact result_hole sp.n sp.kinds sp.fn g l hl100 A cap w h hh
  | false =>
    rw [if_neg (by decide)]
    cases l with
    | nil => simp at hl; omega
    | cons x r =>
      cases hq : sp.kinds.any (fun y => x.k == y) && (x :: r).all (fun v => v.k == x.k) with
      | false =>
        rw [List.headD_cons, if_neg (by rw [hq]; decide)]
        exact result_wrong sp.n sp.kinds h5 sp.fn g x r hl100 A cap w h hg hh hq
      | true =>
        rw [List.headD_cons, if_pos hq]
        rw [Bool.and_eq_true] at hq
        have hav : ∀ y ∈ x :: r, Ce.isValue y (-1) = true := by unfold Ce.areValues at hv; exact List.all_eq_true.1 hv
        have hk : x.k = 1 ∨ x.k = 2 := by
          obtain ⟨y, hy, e⟩ := List.any_eq_true.1 hq.1
          have e : x.k = y := by simpa using e
          rw [e]; exact h6 y hy
        have hb : ∀ y ∈ x :: r, -1000000000 ≤ y.n ∧ y.n ≤ 1000000000 := by
          intro y hy
          have e : y.k = x.k := by simpa using List.all_eq_true.1 hq.2 y hy
          have hvy := hav y hy
          unfold Ce.isValue at hvy
          rcases hk with hk | hk
          · rw [if_neg (by omega), if_pos (by omega)] at hvy
            simpa [Ce.inn] using hvy
          · rw [if_neg (by omega), if_neg (by omega), if_pos (by omega)] at hvy
            simp at hvy
            omega
        exact result_go sp.n sp.kinds h5 sp.fn g gf h1 h2 x r hl100 A cap w h hg hh hq.1 hq.2 (hb x (.head _)).1 (hb x (.head _)).2 (fun y hy => hb y (.tail _ hy))

set_option maxRecDepth 100000 in
set_option maxHeartbeats 4000000 in
theorem prim_any : PrimC := by
  intro s l A cap w _ hl hs
  have h := hs.arg
  have HB : Hid (Below w.heap.size w (w.alloc (.cells #[.int .u8 0, .int .i64 0] 26))) := Lib.hid ((Below.refl _ _).alloc (Nat.le_refl _) _)
  have HZ := Lib.hid (Blk.new w 26 #[.int .u8 0, .int .i64 0])
  have HARG := Lib.hid (h.below HB.out)
  have HOP := Lib.hid (fun W => operations_any W)
  clear hs h
  by_cases h0 : Ce.operands s.data.toList = 0
  · rw [Ce.prim_none h0]
    have HL := Lib.hid (fun W b (h : OpsAt W b specs) => look_none h s h0 true)
    clear h0 HARG
    go_enter Tryz.func20, Tryz.ntmps20
    go_wp2_with fail
    refine (HOP.out _).mono ?_
    rintro e w1 ⟨⟨b, rfl, ho⟩, hb1⟩
    have hrun := HL.out w1 b ho
    simp only [if_true] at hrun
    have HZ1 := Lib.hid (HZ.out.below hb1)
    have HB1 := Lib.hid (HB.out.trans (hb1.mono HB.out.size))
    have hlt : w.heap.size < w1.heap.size := (HZ.out.below hb1).lt
    have z0 := HZ1.out.cell 0
    have z1 := HZ1.out.cell 1
    have zf0 := HZ1.out.frozen 0
    have zf1 := HZ1.out.frozen 1
    dsimp at z0 z1
    clear ho hb1 HL HZ HB
    go_wp2
    refine bodyPost_ret (results_row_tmp rfl _ _ w.heap.size 26 #[.int .u8 0, .int .i64 0] (0, 0) _ rfl (((HZ1.out.set_ 0 _).set_ 1 _).alloc _) Tryz.underlying26 rfl val_size) rfl ?_
    exact ⟨rfl, ((HB1.out.setCell (by simp) _).setCell (by simp) _).alloc (by simp; omega) _⟩
  obtain ⟨sp, hm, hn⟩ := (specs_names _).1 h0
  obtain ⟨gf, hok⟩ := specs_ok sp hm
  have HL := Lib.hid (fun W b (h : OpsAt W b specs) => look_some h s sp hm hn true)
  have hlen := Ce.prim_len (s := s.data.toList) (l := l) h0
  have hval := Ce.prim_val (s := s.data.toList) (l := l) h0
  have hnn : sp.n = Ce.operands s.data.toList := by rw [← hn]; exact hok.2.2.2.1
  have hre : l.length = Ce.operands s.data.toList → Ce.areValues l (-1) = true → (Ce.prim s.data.toList l).2 = 0 := fun hl' hv => by
    have := hok.2.2.2.2.2.2 l (by dsimp only; rw [hn]; exact hl') hv
    dsimp only at this
    rw [hn] at this
    rw [this]
  have hca := fun W h' => val_all l (by omega) A cap (fun v => Ce.isValue v (-1)) 72 #[] (enters_of Tryz.func72 (by kernel_rfl) rfl) W h' (fun v _ W _ => cIsValue_any v W)
  have hres := fun (hl' : l.length = Ce.operands sp.name) (hv : Ce.areValues l (-1) = true) g W (ha : ValE.Arg W A l) (hg : U8E.In W g 0 sp.kinds) => result_any sp gf hok l hl' hv g A cap W ha hg
  rw [hn] at hres
  have hav : (l.all fun v => Ce.isValue v (-1)) = Ce.areValues l (-1) := rfl
  rw [hav] at hca
  obtain ⟨spn, n, ks, F⟩ := sp
  dsimp only at hn hnn hres
  generalize Ce.operands s.data.toList = N at *
  generalize Ce.prim s.data.toList l = R at *
  generalize Ce.areValues l (-1) = q at *
  subst hnn
  obtain ⟨⟨rk, rn⟩, re⟩ := R
  have HRE := Lib.hid hre
  clear hre
  have HLEN := Lib.hid hlen
  have HVAL := Lib.hid hval
  have HCA := Lib.hid hca
  have HRES := Lib.hid hres
  dsimp only at HL
  clear h0 hlen hval hca hres hok hm hav hn
  dsimp only
  by_cases hln : l.length = N
  case neg =>
    have hln' : ((l.length : Int) == N) = false := beq_eq_false_iff_ne.2 (by omega)
    have hln'' : ((l.length : Int) != N) = true := by rw [bne, hln']; rfl
    obtain ⟨rfl, rfl, rfl⟩ : rk = 0 ∧ rn = 0 ∧ re = 2 := by have := HLEN.out hln; simp [Ce.hole] at this; omega
    go_enter Tryz.func20, Tryz.ntmps20
    go_wp2_with fail
    refine (HOP.out _).mono ?_
    rintro e w1 ⟨⟨b, rfl, ho⟩, hb1⟩
    obtain ⟨g, hin, hgl, hrun⟩ := HL.out w1 b ho
    simp only [if_true] at hrun
    have HZ1 := Lib.hid (HZ.out.below hb1)
    have HB1 := Lib.hid (HB.out.trans (hb1.mono HB.out.size))
    have hlt : w.heap.size < w1.heap.size := (HZ.out.below hb1).lt
    have z0 := HZ1.out.cell 0
    have z1 := HZ1.out.cell 1
    have zf0 := HZ1.out.frozen 0
    have zf1 := HZ1.out.frozen 1
    dsimp at z0 z1
    clear ho hb1 HL HZ HB hin
    go_wp2
    refine bodyPost_ret (results_row_tmp rfl _ _ w.heap.size 26 #[.int .u8 0, .int .i64 0] (0, 0) _ rfl (((HZ1.out.set_ 0 _).set_ 1 _).alloc _) Tryz.underlying26 rfl val_size) rfl ?_
    exact ⟨rfl, ((HB1.out.setCell (by simp) _).setCell (by simp) _).alloc (by simp; omega) _⟩
  subst hln
  have hln' : ((l.length : Int) != l.length) = false := by simp
  clear HLEN
  cases q with
  | false =>
    obtain ⟨rfl, rfl, rfl⟩ : rk = 0 ∧ rn = 0 ∧ re = 4 := by have := HVAL.out rfl rfl; simp [Ce.hole] at this; omega
    go_enter Tryz.func20, Tryz.ntmps20
    go_wp2_with fail
    refine (HOP.out _).mono ?_
    rintro e w1 ⟨⟨b, rfl, ho⟩, hb1⟩
    obtain ⟨g, hin, hgl, hrun⟩ := HL.out w1 b ho
    simp only [if_true] at hrun
    have hba : Below w1.heap.size w1 (w1.alloc (.cells #[.int .i64 l.length, .slice (some ⟨g, 0, none⟩) ks.length ks.length, .func (.func F) #[] #[]] 111)) := (Below.refl _ _).alloc (Nat.le_refl _) _
    have HZ1 := Lib.hid ((HZ.out.below hb1).below hba)
    have HB1 := Lib.hid ((HB.out.trans (hb1.mono HB.out.size)).trans (hba.mono (HB.out.trans (hb1.mono HB.out.size)).size))
    have HARG1 := Lib.hid ((HARG.out.below hb1).below hba)
    clear ho hb1 hba HL HZ HB hin HARG
    go_wp2_with fail
    refine (HCA.out _ HARG1.out).mono ?_
    rintro e w2 ⟨rfl, hb2⟩
    have HZ2 := Lib.hid (HZ1.out.below hb2)
    have HB2 := Lib.hid (HB1.out.trans (hb2.mono HB1.out.size))
    have z0 := HZ2.out.cell 0
    have z1 := HZ2.out.cell 1
    have zf0 := HZ2.out.frozen 0
    have zf1 := HZ2.out.frozen 1
    dsimp at z0 z1
    clear hb2 HZ1 HB1
    go_wp2
    refine bodyPost_ret (results_row_tmp rfl _ _ w.heap.size 26 #[.int .u8 0, .int .i64 0] (0, 0) _ rfl ((HZ2.out.set_ 0 _).set_ 1 _) Tryz.underlying26 rfl val_size) rfl ?_
    exact ⟨rfl, (HB2.out.setCell (by simp) _).setCell (by simp) _⟩
  | true =>
    have hres := HRES.out rfl rfl
    obtain rfl : re = 0 := HRE.out rfl rfl
    have HRES2 := Lib.hid hres
    clear hres HRES HVAL
    go_enter Tryz.func20, Tryz.ntmps20
    go_wp2_with fail
    refine (HOP.out _).mono ?_
    rintro e w1 ⟨⟨b, rfl, ho⟩, hb1⟩
    obtain ⟨g, hin, hgl, hrun⟩ := HL.out w1 b ho
    simp only [if_true] at hrun
    have hba : Below w1.heap.size w1 (w1.alloc (.cells #[.int .i64 l.length, .slice (some ⟨g, 0, none⟩) ks.length ks.length, .func (.func F) #[] #[]] 111)) := (Below.refl _ _).alloc (Nat.le_refl _) _
    have HZ1 := Lib.hid ((HZ.out.below hb1).below hba)
    have HB1 := Lib.hid ((HB.out.trans (hb1.mono HB.out.size)).trans (hba.mono (HB.out.trans (hb1.mono HB.out.size)).size))
    have HARG1 := Lib.hid ((HARG.out.below hb1).below hba)
    have HOB1 := Lib.hid (Blk.new w1 111 #[.int .i64 l.length, .slice (some ⟨g, 0, none⟩) ks.length ks.length, .func (.func F) #[] #[]])
    have HIN1 := Lib.hid (hin.below hba (fun _ => hgl))
    have HGL : Hid (g < (w1.alloc (.cells #[.int .i64 l.length, .slice (some ⟨g, 0, none⟩) ks.length ks.length, .func (.func F) #[] #[]] 111)).heap.size) := Lib.hid (Nat.lt_of_lt_of_le hgl hba.size)
    clear ho hb1 hba HL HZ HB hin HARG
    go_wp2_with fail
    refine (HCA.out _ HARG1.out).mono ?_
    rintro e w2 ⟨rfl, hb2⟩
    have HZ2 := Lib.hid (HZ1.out.below hb2)
    have HB2 := Lib.hid (HB1.out.trans (hb2.mono HB1.out.size))
    have HARG2 := Lib.hid (HARG1.out.below hb2)
    have HIN2 := Lib.hid (HIN1.out.below hb2 (fun _ => HGL.out))
    have HOB2 := HOB1.out.below hb2
    have o0 := HOB2.cell 0
    have o1 := HOB2.cell 1
    have o2 := HOB2.cell 2
    dsimp at o0 o1 o2
    clear hb2 HZ1 HB1 HOB1 HOB2 HARG1 HIN1 HGL
    go_wp2_with fail
    refine (HRES2.out g _ HARG2.out HIN2.out).mono ?_
    rintro e w3 ⟨rfl, hb3⟩
    have HZ3 := Lib.hid (HZ2.out.below hb3)
    have HB3 := Lib.hid (HB2.out.trans (hb3.mono HB2.out.size))
    have z0 := HZ3.out.cell 0
    have z1 := HZ3.out.cell 1
    have zf0 := HZ3.out.frozen 0
    have zf1 := HZ3.out.frozen 1
    dsimp at z0 z1
    clear hb3 HZ2 HB2 o0 o1 o2
    go_wp2
    refine bodyPost_ret (results_row_tmp rfl _ _ w.heap.size 26 #[.int .u8 rk, .int .i64 rn] (0, 0) _ rfl ((HZ3.out.set_ 0 _).set_ 1 _) Tryz.underlying26 rfl val_size) rfl ?_
    exact ⟨rfl, (HB3.out.setCell (by simp) _).setCell (by simp) _⟩
end Go.Proofs.YtacggbpgillbaaaGreatDoor
