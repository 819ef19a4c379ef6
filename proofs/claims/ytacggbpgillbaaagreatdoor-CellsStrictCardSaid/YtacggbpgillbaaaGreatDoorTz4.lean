/- Layer 6, the program: the text of a list; Show. Layer 6, the program: the text as a string. Layer 6, the program: Show. -/
import Derived.Test.YtacggbpgillbaaaGreatDoorTz
import Derived.Deep.DeepCutAuto
import Derived.Deep.RegionLaw
import Derived.Shelf.RegionOpenPlain
namespace Go.Proofs.YtacggbpgillbaaaGreatDoor
open Go.RowKit Go.El

set_option maxRecDepth 100000 in
set_option maxHeartbeats 4000000 in
theorem list_of_value (p : Ce.Pic) (w0 : World) (b : Nat) (C : Option Addr) (cc d : Nat) (hV : ValC p w0 b C cc d) : ListC p w0 b C cc d := by
  intro l A cap bs w hb hl hall ha hs hbl
  have HV := Lib.hid (fun v (hv : v ∈ l) bs' W h1 h2 h3 => hV v bs' W h1 (hall v hv) h2 h3)
  have HFU := Lib.hid (fun cur W h => sfull_any w0.heap.size b C p.cells.length cc cur W h)
  have HWS := Lib.hid (fun cur W h h1 h2 => swriteString_any w0.heap.size b C p.cells.length cc cur [44, 32] W h h1 h2)
  have HA := Lib.hid ha
  have HJS := Lib.hid (fun k v (hv : l[k]? = some v) => Ce.joinT_step (Ce.text p d) hv)
  have HJR : Hid (∀ k, k ≤ l.length → ∃ U, Ce.joinT (Ce.text p d) l = Ce.joinT (Ce.text p d) (l.take k) ++ U) := Lib.hid fun k hk => Ce.joinT_rest (Ce.text p d) l (l.length - k) k (by omega)
  have HJE : Hid (∀ k, l.length ≤ k → Ce.joinT (Ce.text p d) (l.take k) = Ce.joinT (Ce.text p d) l) := Lib.hid fun k hk => by rw [List.take_of_length_le hk]
  have HB0 := Lib.hid hb
  have HS0 := Lib.hid hs
  have hlz : (l.length : Int) ≤ 1000 := by omega
  generalize p.cells.length = nc at *
  clear hV hall ha hs hb
  go_enter Tryz.func101, Tryz.ntmps101
  go_wp2_with fail
  go_loopw [10] (fun i wr => ∃ (k : Nat) (cur : List UInt8), k ≤ l.length ∧ i = .int .i64 k ∧ Hid (ShAt wr w0.heap.size b C nc cc cur) ∧ Hid (Ce.Wr bs (Ce.joinT (Ce.text p d) (l.take k)) cur) ∧ bs.length ≤ cur.length ∧ cur.length ≤ max bs.length (2520 + d) ∧ Hid (Below w0.heap.size w wr) ∧ Hid (Keeps3 w wr)) (fun i _ => l.length - (intOf i).toNat)
  case atStart => exact ⟨0, bs, Nat.zero_le _, rfl, HS0, Lib.hid (Ce.Wr.nil bs), Nat.le_refl _, by omega, Lib.hid (Below.refl _ _), Lib.hid (Keeps3.refl _)⟩
  case round =>
    clear HS0
    obtain ⟨k, cur, hk, rfl, HS, HW, hle, hmx, HB, HK⟩ := hrel
    by_cases hlt : k < l.length
    · have hlt' : (k : Int) < l.length := by omega
      obtain ⟨v, hv⟩ : ∃ x, l[k]? = some x := ⟨_, List.getElem?_eq_getElem hlt⟩
      have HBB := Lib.hid (HB0.out.trans HB.out)
      obtain ⟨bl, ol, rfl, hin, hbl2⟩ := (HA.out.below HBB.out).at_lt hlt
      obtain ⟨x0, x1⟩ := ValE.at2 hin hv
      have HVM : Hid (v ∈ l) := Lib.hid (List.mem_of_getElem? hv)
      have HSTEP := Lib.hid (HJS.out k v hv)
      have hba : Below wr.heap.size wr (wr.alloc (.cells #[.int .u8 v.k, .int .i64 v.n] 26)) := (Below.refl _ _).alloc (Nat.le_refl _) _
      have hb2 : Below w0.heap.size wr (wr.alloc (.cells #[.int .u8 v.k, .int .i64 v.n] 26)) := hba.mono HBB.out.size
      have HSA := Lib.hid (HS.out.below hba)
      have HBA := Lib.hid (HB.out.trans hb2)
      have HBBA := Lib.hid (HBB.out.trans hb2)
      have HKA := Lib.hid (HK.out.trans (Keeps3.below hba))
      have HBX := Lib.hid (Blk.new wr 26 #[.int .u8 v.k, .int .i64 v.n])
      have hfu := HFU.out cur _ HSA.out
      clear hv hin hba hb2 HS HB HK HBB
      by_cases hf : 2500 < cur.length
      · rw [decide_eq_true hf] at hfu
        have HF := Lib.hid hfu
        have HP : Hid (WrPost w0 b C nc cc bs (Ce.joinT (Ce.text p d) l) (2520 + d) w (wr.alloc (.cells #[.int .u8 v.k, .int .i64 v.n] 26))) := Lib.hid (by
          obtain ⟨U, hU⟩ := HJR.out k hk
          exact ⟨⟨cur, HSA.out, by rw [hU]; exact HW.out.full hf, hle, hmx⟩, HBA.out, HKA.out⟩)
        clear hfu hf
        go_wp2_with fail
        refine HF.out.mono ?_
        rintro e w1 ⟨rfl, rfl⟩
        go_wp2
        first | go_end0 | refine bodyPost_ret (results_none rfl _ _ _) rfl ?_
        exact ⟨rfl, HP.out⟩
      · rw [decide_eq_false hf] at hfu
        have HF := Lib.hid hfu
        have hcur : cur.length ≤ 2500 := by omega
        clear hfu hf
        by_cases hk0 : k = 0
        · have y0 : wr.cell? ⟨bl, ol, none⟩ = some (.int .u8 v.k) := by subst hk0; simpa using x0
          have y1 : wr.cell? ⟨bl, ol + 1, none⟩ = some (.int .i64 v.n) := by subst hk0; simpa using x1
          have hlt0 : (0 : Int) < l.length := by omega
          subst hk0
          clear x0 x1
          have hcall := HV.out v HVM.out cur _ HBBA.out HSA.out (by omega)
          have HC := Lib.hid hcall
          have b0 := HBX.out.cell 0
          have b1 := HBX.out.cell 1
          dsimp at b0 b1
          clear hcall
          go_wp2_with fail
          refine HF.out.mono ?_
          rintro e w1 ⟨rfl, rfl⟩
          go_wp2_with fail
          refine HC.out.mono ?_
          rintro e w2 ⟨rfl, ⟨bs2, q1, q2, q3, q4⟩, hb2, hk2⟩
          have HS2 := Lib.hid q1
          have HW2 : Hid (Ce.Wr bs (Ce.joinT (Ce.text p d) (l.take (0 + 1))) bs2) := Lib.hid (by
            rw [HSTEP.out, if_pos (by trivial)]
            have := HW.out.more q2 q3
            simpa using this)
          have HB2 := Lib.hid (HBA.out.trans hb2)
          have HK2 := Lib.hid (HKA.out.trans hk2)
          clear q1 q2 hb2 hk2 b0 b1
          go_wp2
          go_roundw
          case rel => exact ⟨0 + 1, bs2, by omega, by go_num, HS2, HW2, by omega, by omega, HB2, HK2⟩
          case measure => simp [intOf]; omega
        · have hk1 : (0 : Int) < (k : Int) := by omega
          have hcall := HWS.out cur _ HSA.out (by simp; omega) HBBA.out.size
          have HC := Lib.hid hcall
          clear hcall
          go_wp2_with fail
          refine HF.out.mono ?_
          rintro e w1 ⟨rfl, rfl⟩
          go_wp2_with fail
          refine HC.out.mono ?_
          rintro e w2 ⟨⟨m, rfl⟩, hs2, hb2, hk2⟩
          have HC2 := Lib.hid (HV.out v HVM.out (cur ++ [44, 32]) w2 (HBBA.out.trans hb2) hs2 (by simp; omega))
          have hbx := hk2.blk HBX.out (by decide) (by decide)
          have b0 := hbx.cell 0
          have b1 := hbx.cell 1
          dsimp at b0 b1
          have HB2 := Lib.hid (HBA.out.trans hb2)
          have HK2 := Lib.hid (HKA.out.trans hk2)
          clear hs2 hb2 hk2 hbx
          go_wp2_with fail
          refine HC2.out.mono ?_
          rintro e w3 ⟨rfl, ⟨bs3, q1, q2, q3, q4⟩, hb3, hk3⟩
          simp only [List.length_append, List.length_cons, List.length_nil] at q3 q4
          have HS3 := Lib.hid q1
          have HW3 : Hid (Ce.Wr bs (Ce.joinT (Ce.text p d) (l.take (k + 1))) bs3) := Lib.hid (by
            rw [HSTEP.out, if_neg hk0]
            refine HW.out.more ((Ce.Wr.exact cur [44, 32]).more q2 (by simp; omega)) (by omega))
          have HB3 := Lib.hid (HB2.out.trans hb3)
          have HK3 := Lib.hid (HK2.out.trans hk3)
          clear q1 q2 hb3 hk3 b0 b1
          go_wp2
          go_roundw
          case rel => exact ⟨k + 1, bs3, by omega, by go_num, HS3, HW3, by omega, by omega, HB3, HK3⟩
          case measure => simp [intOf]; omega
    · have hlt' : ¬ (k : Int) < l.length := by omega
      have HP : Hid (WrPost w0 b C nc cc bs (Ce.joinT (Ce.text p d) l) (2520 + d) w wr) := Lib.hid ⟨⟨cur, HS.out, by rw [← HJE.out k (by omega)]; exact HW.out, hle, hmx⟩, HB.out, HK.out⟩
      go_wp2
      first | go_end0 | refine bodyPost_ret (results_none rfl _ _ _) rfl ?_
      exact ⟨rfl, HP.out⟩

theorem list_any (p : Ce.Pic) (w0 : World) (b : Nat) (C : Option Addr) (cc : Nat) (hC : LsAt w0 C p.cells) (hlen : ∀ s ∈ p.cells, s.length ≤ 1000) (hall : ∀ s ∈ p.cells, ∀ v ∈ s, Shown p.cells.length v) : ∀ d, d ≤ 12 → ListC p w0 b C cc d
  | 0, _ => list_of_value p w0 b C cc 0 (value_of_struct p w0 b C cc 0 (struct_zero p w0 b C cc))
  | d + 1, h => list_of_value p w0 b C cc (d + 1) (value_of_struct p w0 b C cc (d + 1) (struct_succ p w0 b C cc d (by omega) hC hlen hall (list_any p w0 b C cc hC hlen hall d (by omega))))
end Go.Proofs.YtacggbpgillbaaaGreatDoor

namespace Go.Proofs.YtacggbpgillbaaaGreatDoor
open Go.RowKit Go.El

set_option maxRecDepth 100000 in
set_option maxHeartbeats 2000000 in
theorem string_any (B b : Nat) (C : Option Addr) (nc cc : Nat) (l : List UInt8) (w : World) (h : ShAt w B b C nc cc l) :
    Calls Tryz.prog 103 #[.pointer (some ⟨b, 0, none⟩)] w fun e w' => e = .returned (.string ⟨l.toArray⟩) ∧ Below B w w' := by
  obtain ⟨hB, p, A, cap, hbk, hp, hown⟩ := h
  have mixed : Tryz.prog.follows .mixedOrders = true := by kernel_rfl
  have c1 : w.drew.cell? ⟨b, 1, none⟩ = some (.slice A l.length cap) := by
    have := (hbk.below (Below.refl _ _).drew).cell 1
    exact this
  rcases hown.2 with ⟨hv, h0⟩ | ⟨g, cap', cur, hv, hgB, hg, hn, hcm, hcs, htake⟩
  · injection hv with hA hn hc
    have hl0 : l = [] := List.length_eq_zero_iff.1 h0
    subst hA hc hl0
    rw [show ([] : List UInt8).length = 0 from rfl] at c1
    have hSD : (Builtin.unsafeSliceData_ #[108] 188 #[.slice none 0 0]).run Tryz.prog w.drew = .ok (.pointer none) w.drew := rfl
    have hUS : (Builtin.unsafeString_ #[188, 3] 9 #[.pointer none, .int .i64 0]).run Tryz.prog w.drew = .ok (.string .empty) w.drew := Lib.run_unsafeString_none _ _ _ _ _
    clear hbk hp hown
    go_enter Tryz.func103, Tryz.ntmps103
    go_wp2
    go_region_o
    all_goals (go_wp2; go_ret; exact ⟨rfl, (Below.refl B w).drew⟩)
  · injection hv with hA hn' hc
    subst hA hc
    by_cases hl0 : l = []
    · subst hl0
      rw [show ([] : List UInt8).length = 0 from rfl] at c1
      by_cases hc0 : cap = 0
      · subst hc0
        have hsh : w.drew.shape? g = some (5, cur.size) := by
          have hg' : w.drew.heap[g]? = some (.cells cur 5 (0, 0)) := hg
          simp [World.shape?, hg']
        have hSD : (Builtin.unsafeSliceData_ #[108] 188 #[.slice (some ⟨g, 0, none⟩) 0 0]).run Tryz.prog w.drew = .ok (.pointer (some ⟨w.drew.heap.size, 0, none⟩)) (w.drew.alloc (.view ⟨g, 0, none⟩ 5)) :=
          Lib.run_unsafeSliceData_zero w.drew _ _ 5 Tryz.underlying188 ⟨g, 0, none⟩ 0 _ hsh
        have HUS : Hid (∀ W q, (Builtin.unsafeString_ #[188, 3] 9 #[.pointer q, .int .i64 0]).run Tryz.prog W = .ok (.string .empty) W) := Lib.hid fun W q => Lib.run_unsafeString_none W _ _ _ q
        have hUS := HUS.out (w.drew.alloc (.view ⟨g, 0, none⟩ 5)) (some ⟨w.drew.heap.size, 0, none⟩)
        have hBw : B ≤ w.heap.size := Nat.le_trans hB (Nat.le_of_lt hbk.lt)
        have c2 : (w.drew.alloc (.view ⟨g, 0, none⟩ 5)).cell? ⟨b, 1, none⟩ = some (.slice (some ⟨g, 0, none⟩) 0 0) := (hbk.below ((Below.refl _ _).drew.alloc (Nat.le_refl _) _)).cell 1
        have c3 : (w.alloc (.view ⟨g, 0, none⟩ 5)).drew.cell? ⟨b, 1, none⟩ = some (.slice (some ⟨g, 0, none⟩) 0 0) := c2
        have c4 : (w.alloc (.view ⟨g, 0, none⟩ 5)).cell? ⟨b, 1, none⟩ = some (.slice (some ⟨g, 0, none⟩) 0 0) := c2
        have c0 : w.cell? ⟨b, 1, none⟩ = some (.slice (some ⟨g, 0, none⟩) 0 0) := c1
        have hUS2 := HUS.out (w.alloc (.view ⟨g, 0, none⟩ 5)).drew (some ⟨w.heap.size, 0, none⟩)
        clear hbk hp hown hsh hcs htake
        go_enter Tryz.func103, Tryz.ntmps103
        go_wp2
        go_region_o
        all_goals (go_wp2; go_ret; exact ⟨rfl, (Below.refl B w).drew.alloc hBw _⟩)
      · have hSD : (Builtin.unsafeSliceData_ #[108] 188 #[.slice (some ⟨g, 0, none⟩) 0 cap]).run Tryz.prog w.drew = .ok (.pointer (some ⟨g, 0, none⟩)) w.drew := Lib.run_unsafeSliceData_row _ _ _ _ _ _ hc0
        have hUS : (Builtin.unsafeString_ #[188, 3] 9 #[.pointer (some ⟨g, 0, none⟩), .int .i64 0]).run Tryz.prog w.drew = .ok (.string .empty) w.drew := Lib.run_unsafeString_none _ _ _ _ _
        clear hbk hp hown hcs htake hc0
        go_enter Tryz.func103, Tryz.ntmps103
        go_wp2
        go_region_o
        all_goals (go_wp2; go_ret; exact ⟨rfl, (Below.refl B w).drew⟩)
    · have hcs' : cur.size = cap := by rw [hcs]; simp [ByE]
      have hl1 : l.length ≠ 0 := by simpa using hl0
      have hSD : (Builtin.unsafeSliceData_ #[108] 188 #[.slice (some ⟨g, 0, none⟩) l.length cap]).run Tryz.prog w.drew = .ok (.pointer (some ⟨g, 0, none⟩)) w.drew := Lib.run_unsafeSliceData_row _ _ _ _ _ _ (by omega)
      have hUS : (Builtin.unsafeString_ #[188, 3] 9 #[.pointer (some ⟨g, 0, none⟩), .int .i64 l.length]).run Tryz.prog w.drew = .ok (.string ⟨l.toArray⟩) (w.drew.freeze ⟨g, 0, none⟩ l.length) := by
        refine Lib.run_unsafeString_row w.drew 188 3 9 5 Tryz.underlying188 (by kernel_rfl) g cur.size (by have hg' : w.drew.heap[g]? = some (.cells cur 5 (0, 0)) := hg; simp [World.shape?, hg']) l hl0 (by omega) (by unfold maxLen at hcm; omega) ?_
        intro j x hx
        have hx' : (ByE.row l)[j]? = some (.int .u8 x.toNat) := by rw [by_row, List.getElem?_map, hx]; rfl
        exact World.ownsRow.cells hown (g := g) rfl j _ hx'
      have HBF := Lib.hid (Lib.below_freeze (Below.refl B w).drew (p := ⟨g, 0, none⟩) hgB l.length)
      clear hbk hp hown hcs htake hl0
      generalize hS : (⟨l.toArray⟩ : ByteArray) = S at *
      generalize l.length = n at *
      clear hS
      go_enter Tryz.func103, Tryz.ntmps103
      go_wp2
      go_region_o
      all_goals (go_wp2; go_ret; exact ⟨rfl, HBF.out⟩)
end Go.Proofs.YtacggbpgillbaaaGreatDoor

namespace Go.Proofs.YtacggbpgillbaaaGreatDoor
open Go.RowKit Go.El

theorem shown_of {nc : Nat} {l : List Ce.V} (h : Ce.areValues l nc = true) (hs : ∀ v ∈ l, v.k ≠ 1 ∧ v.k ≠ 5) : ∀ v ∈ l, Shown nc v := fun v hv =>
  ⟨List.all_eq_true.1 h v hv, (hs v hv).1, (hs v hv).2⟩
theorem isPic_parts {p : Ce.Pic} (h : Ce.isPic p = true) : p.vals.length ≤ 100 ∧ Ce.areValues p.vals p.cells.length = true ∧ ∀ s ∈ p.cells, s.length ≤ 100 ∧ Ce.areValues s p.cells.length = true := by
  unfold Ce.isPic Ce.memOk at h
  simp only [Bool.and_eq_true, decide_eq_true_eq] at h
  obtain ⟨⟨⟨_, h1, _⟩, h2, h3⟩, _⟩ := h
  refine ⟨h2, h3, fun s hs => ?_⟩
  have := List.all_eq_true.1 h1 ⟨s, []⟩ (by unfold Ce.memory; exact List.mem_map_of_mem hs)
  unfold Ce.stOk at this
  simp only [Bool.and_eq_true, decide_eq_true_eq] at this
  refine ⟨this.1.1, ?_⟩
  have h4 := this.1.2
  rw [show (Ce.memory p).length = p.cells.length by simp [Ce.memory]] at h4
  exact h4

/-- what Show answers of a picture -/
theorem wr_done {T bs : List UInt8} (h : Ce.Wr [] T bs) (hf : ¬ 2500 < bs.length) : bs = T ∧ ¬ 2500 < T.length := by
  have := h.short hf
  simp at this
  exact ⟨this, by rw [← this]; exact hf⟩
theorem wr_over {T bs : List UInt8} (h : Ce.Wr [] T bs) (hf : 2500 < bs.length) : 2500 < T.length := by
  rcases h with h | ⟨_, h⟩
  · rw [h] at hf; simpa using hf
  · simpa using h

set_option maxRecDepth 100000 in
set_option maxHeartbeats 4000000 in
theorem show_any : ShowC := by
  intro p deep V C cv cc w hp hsi hV
  have hbx : Below w.heap.size w (w.alloc (.cells #[.slice V p.vals.length cv, .slice C p.cells.length cc] 57)) := (Below.refl _ _).alloc (Nat.le_refl _) _
  have HB := Lib.hid hbx
  have HBX := Lib.hid (Blk.new w 57 #[.slice V p.vals.length cv, .slice C p.cells.length cc])
  have HIS := Lib.hid (isPicture_any p hp V C cv cc _ (hV.at_.below hbx))
  have HVV := Lib.hid hV.at_
  by_cases hpic : Ce.isPic p = true
  case neg =>
    have hpf : Ce.isPic p = false := by simpa using hpic
    have hR : Ce.showP p deep = ([], 4) := by unfold Ce.showP; rw [hpf]; rfl
    rw [hR]
    rw [hpf] at HIS
    have hbs : bytesOf [] = ⟨#[]⟩ := rfl
    have b0 := HBX.out.cell 0
    have b1 := HBX.out.cell 1
    dsimp at b0 b1
    rw [hbs]
    generalize p.vals.length = nv at *
    generalize p.cells.length = nc at *
    clear hR hpic hpf hbx hV hsi hp
    go_enter Tryz.func53, Tryz.ntmps53
    go_wp2_with fail
    refine HIS.out.mono ?_
    rintro e w1 ⟨rfl, hb1⟩
    have HE := Lib.hid (HB.out.trans (hb1.mono (by simp)))
    clear hb1
    go_wp2
    go_ret2
    exact ⟨rfl, HE.out⟩
  by_cases hin : Ce.inn deep 0 12 = true
  case neg =>
    have hpf : Ce.inn deep 0 12 = false := by simpa using hin
    have hR : Ce.showP p deep = ([], 3) := by unfold Ce.showP; rw [hpic, hpf]; rfl
    rw [hR]
    rw [hpic] at HIS
    have hbs : bytesOf [] = ⟨#[]⟩ := rfl
    have b0 := HBX.out.cell 0
    have b1 := HBX.out.cell 1
    dsimp at b0 b1
    rw [hbs]
    have hor : deep < 0 ∨ 12 < deep := by
      unfold Ce.inn at hpf
      simp at hpf
      omega
    generalize p.vals.length = nv at *
    generalize p.cells.length = nc at *
    clear hR hpic hpf hbx hV hsi hp hin
    rcases hor with hd | hd
    · go_enter Tryz.func53, Tryz.ntmps53
      go_wp2_with fail
      refine HIS.out.mono ?_
      rintro e w1 ⟨rfl, hb1⟩
      have HE := Lib.hid (HB.out.trans (hb1.mono (by simp)))
      clear hb1
      go_wp2
      go_ret2
      exact ⟨rfl, HE.out⟩
    · have hd0 : decide (deep < 0) = false := decide_eq_false (by omega)
      go_enter Tryz.func53, Tryz.ntmps53
      go_wp2_with fail
      refine HIS.out.mono ?_
      rintro e w1 ⟨rfl, hb1⟩
      have HE := Lib.hid (HB.out.trans (hb1.mono (by simp)))
      clear hb1
      go_wp2
      go_ret2
      exact ⟨rfl, HE.out⟩
  rw [hpic] at HIS
  obtain ⟨d, rfl⟩ : ∃ d : Nat, deep = d := ⟨deep.toNat, by unfold Ce.inn at hin; simp at hin; omega⟩
  have hd12 : d ≤ 12 := by unfold Ce.inn at hin; simp at hin; omega
  obtain ⟨hvl, hvv, hcs⟩ := isPic_parts hpic
  have hR : Ce.showP p d = if 2500 < (Ce.joinT (Ce.text p d) p.vals).length then ([], 5) else (Ce.joinT (Ce.text p d) p.vals, 0) := by
    unfold Ce.showP; rw [hpic, hin, Int.toNat_natCast]; rfl
  have HR := Lib.hid hR
  have HL := Lib.hid (fun (w0 : World) (b : Nat) (hC : LsAt w0 C p.cells) => list_any p w0 b C cc hC (fun s hs => by have := (hcs s hs).1; omega) (fun s hs => shown_of (hcs s hs).2 (hsi.2 s hs)) d hd12)
  have HLV := Lib.hid (fun (w0 : World) (b : Nat) (hC : LsAt w0 C p.cells) (W : World) (hb : Below w0.heap.size w0 W) (ha : ValE.Arg w0 V p.vals) (hs : ShAt W w0.heap.size b C p.cells.length cc []) => HL.out w0 b hC p.vals V cv [] W hb (by omega) (shown_of hvv hsi.1) ha hs (by simp))
  have HAT := Lib.hid (fun W (h : Below w.heap.size w W) => (hV.at_.below h))
  have b0 := HBX.out.cell 0
  have b1 := HBX.out.cell 1
  dsimp at b0 b1
  have hd0 : (0 : Int) ≤ (d : Int) := by omega
  have hd1 : (d : Int) ≤ 12 := by omega
  generalize Ce.joinT (Ce.text p d) p.vals = T at *
  generalize hSP : Ce.showP p d = SP at *
  clear hR hSP hpic hbx hV hsi hp hin hvl hvv hcs HL
  go_enter Tryz.func53, Tryz.ntmps53
  go_wp2_with fail
  refine HIS.out.mono ?_
  rintro e w1 ⟨rfl, hb1⟩
  have HE := Lib.hid (HB.out.trans (hb1.mono (by simp)))
  have HAT1 := Lib.hid (HAT.out _ HE.out)
  have hbx1 := HBX.out.below hb1
  have b0 := hbx1.cell 0
  have b1 := hbx1.cell 1
  dsimp at b0 b1
  have hba : Below w1.heap.size w1 (w1.alloc (.cells #[.pointer none, .slice none 0 0, .slice C p.cells.length cc] 152)) := (Below.refl _ _).alloc (Nat.le_refl _) _
  have hbx2 := hbx1.below hba
  have d0 := hbx2.cell 0
  have d1 := hbx2.cell 1
  dsimp at d0 d1
  have HS0 : Hid (ShAt (w1.alloc (.cells #[.pointer none, .slice none 0 0, .slice C p.cells.length cc] 152)) w1.heap.size w1.heap.size C p.cells.length cc []) := Lib.hid ⟨Nat.le_refl _, _, none, 0, Blk.new _ _ _, .inl rfl, Own.nil _ _ _ _⟩
  have HBA := Lib.hid hba
  have HCALL := Lib.hid (HLV.out w1 w1.heap.size HAT1.out.c _ hba HAT1.out.v.arg HS0.out)
  clear hb1 hbx1 hbx2 hba HLV HIS
  go_wp2_with fail
  refine HCALL.out.mono ?_
  rintro e w2 ⟨rfl, ⟨bs, q1, q2, q3, q4⟩, hb2, hk2⟩
  have HS2 := Lib.hid q1
  have HW2 := Lib.hid q2
  have HB2 := Lib.hid (HE.out.trans ((HBA.out.trans hb2).mono (by have := HE.out.size; omega)))
  have hfu := sfull_any w1.heap.size w1.heap.size C p.cells.length cc bs w2 q1
  clear q1 q2 q3 q4 hb2 hk2 HCALL
  by_cases hf : 2500 < bs.length
  · rw [decide_eq_true hf] at hfu
    have hSP : SP = ([], 5) := by rw [HR.out, if_pos (wr_over HW2.out hf)]
    have HSP := Lib.hid hSP
    have HF := Lib.hid hfu
    clear hfu hf HR hSP
    go_wp2_with fail
    refine HF.out.mono ?_
    rintro e w3 ⟨rfl, rfl⟩
    go_wp2
    go_ret2
    exact ⟨by rw [HSP.out]; rfl, HB2.out⟩
  · rw [decide_eq_false hf] at hfu
    obtain ⟨hbT, hnT⟩ := wr_done HW2.out hf
    have hSP : SP = (bs, 0) := by rw [HR.out, if_neg hnT, hbT]
    have HSP := Lib.hid hSP
    have HF := Lib.hid hfu
    have HST := Lib.hid (string_any w1.heap.size w1.heap.size C p.cells.length cc bs w2 HS2.out)
    clear hfu hf HR hbT hnT hSP
    go_wp2_with fail
    refine HF.out.mono ?_
    rintro e w3 ⟨rfl, rfl⟩
    go_wp2_with fail
    refine HST.out.mono ?_
    rintro e w3 ⟨rfl, hb3⟩
    have HB3 := Lib.hid (HB2.out.trans (hb3.mono (by have := HE.out.size; omega)))
    clear hb3
    go_wp2
    go_ret2
    exact ⟨by rw [HSP.out]; rfl, HB3.out⟩
end Go.Proofs.YtacggbpgillbaaaGreatDoor
