/- Layer 6: the walk of the reference's Prim. -/
import Derived.Test.YtacggbpgillbaaaGreatDoorSj
import Derived.Laws.ResultCell
namespace Go
theorem results_row_tmp {P : Program} {fn : Func} {p u : Tmp} {ty : TypeId} (h : fn.results = #[.cell p ty, .tmp u]) (tmps : Array Value) (w : World) (g : Nat) (t : TypeId) (cs : Array Value) (fr : Nat × Nat) (d : TypeDesc)
    (hp : tmps.getD p undef = .pointer (some ⟨g, 0, none⟩)) (hg : w.heap[g]? = some (.cells cs t fr))
    (hu : P.underlying ty = some d) (hd : (match d with | .struct _ | .array _ _ => true | _ => false) = true) (hi : (P.info? ty).map (·.size) = some cs.size) :
    (results fn tmps).run P w = .ok (.tuple #[.agg cs, tmps.getD u undef]) w := by
  rw [results_cell_tmp h, hp]
  simp [asAddr, run_loadVar_row w g t ty cs fr d hg hu hd hi, Result.andThen]
end Go
namespace Ce
theorem prim_none {s : List UInt8} {l : List V} (h : operands s = 0) : prim s l = (hole, 10) := by unfold prim; rw [if_pos h]
theorem prim_len {s : List UInt8} {l : List V} (h : operands s ≠ 0) (hl : l.length ≠ operands s) : prim s l = (hole, 2) := by unfold prim; rw [if_neg h, if_pos hl]
theorem prim_val {s : List UInt8} {l : List V} (h : operands s ≠ 0) (hl : l.length = operands s) (hv : areValues l (-1) = false) : prim s l = (hole, 4) := by
  unfold prim; rw [if_neg h, if_neg (fun hn => hn hl), hv]; rfl
theorem prim_hole {s : List UInt8} {l : List V} (h : operands s ≠ 0) (hl : l.length = operands s) (hv : areValues l (-1) = true) (hh : (l.any fun v => decide (v.k = 0)) = true) : prim s l = (hole, 0) := by
  unfold prim; rw [if_neg h, if_neg (fun hn => hn hl), hv, hh]; rfl
theorem prim_bad {s : List UInt8} {l : List V} {v : V} (h : operands s ≠ 0) (hl : l.length = operands s) (hv : areValues l (-1) = true) (hh : (l.any fun v => decide (v.k = 0)) = false) (hf : (l.find? fun v => decide (v.k = 5)) = some v) : prim s l = (v, 0) := by
  unfold prim; rw [if_neg h, if_neg (fun hn => hn hl), hv, hh, hf]; rfl
theorem prim_go {s : List UInt8} {l : List V} (h : operands s ≠ 0) (hl : l.length = operands s) (hv : areValues l (-1) = true) (hh : (l.any fun v => decide (v.k = 0)) = false) (hf : (l.find? fun v => decide (v.k = 5)) = none) : prim s l = (reckon s l[0]! l[operands s - 1]!, 0) := by
  unfold prim; rw [if_neg h, if_neg (fun hn => hn hl), hv, hh, hf]; rfl
theorem find_at {l : List V} {f : V → Bool} {k : Nat} {v : V} (h : l[k]? = some v) (h1 : (l.take k).find? f = none) (h2 : f v = true) : l.find? f = some v := by
  conv => lhs; rw [← List.take_append_drop k l, List.find?_append, h1]
  have : l.drop k = v :: l.drop (k + 1) := by
    obtain ⟨hk, rfl⟩ := List.getElem?_eq_some_iff.1 h
    exact List.drop_eq_getElem_cons hk
  rw [this, List.find?_cons, h2]
  rfl
theorem find_step {l : List V} {f : V → Bool} {k : Nat} {v : V} (h : l[k]? = some v) (h1 : (l.take k).find? f = none) (h2 : f v = false) : (l.take (k + 1)).find? f = none := by
  rw [List.take_add_one, h, List.find?_append, h1]
  simp [h2]
theorem any_at {l : List V} {f : V → Bool} {k : Nat} {v : V} (h : l[k]? = some v) (h2 : f v = true) : l.any f = true := List.any_eq_true.2 ⟨v, List.mem_of_getElem? h, h2⟩
theorem any_step {l : List V} {f : V → Bool} {k : Nat} {v : V} (h : l[k]? = some v) (h1 : (l.take k).any f = false) (h2 : f v = false) : (l.take (k + 1)).any f = false := by
  rw [List.take_add_one, h, List.any_append, h1]
  simp [h2]
theorem isValue_int {v : V} {m : Int} (h : isValue v m = true) (h1 : v.k = 1) : -1000000000 ≤ v.n ∧ v.n ≤ 1000000000 := by
  unfold isValue at h
  rw [if_neg (by omega), if_pos h1] at h
  simpa [inn] using h
theorem operands_mem {s : List UInt8} (h : operands s ≠ 0) : s ∈ names := by
  unfold operands at h
  by_cases hc : names.contains s = true
  · exact List.contains_iff_mem.1 hc
  · rw [if_neg hc] at h; exact absurd rfl h
theorem operands_le (s : List UInt8) : operands s ≤ 2 := by
  unfold operands; split
  · split <;> omega
  · omega
end Ce
namespace Go.Proofs.YtacggbpgillbaaaGreatDoor
open Go.RowKit Go.El

set_option maxRecDepth 100000 in
set_option maxHeartbeats 4000000 in
theorem prim6_any (s : ByteArray) (l : List Ce.V) (hl : l.length ≤ 1000) (A : Option Addr) (cap : Nat) (w : World) (h : ValE.Arg w A l) :
    Calls Tryz.prog 21 #[.string s, .slice A l.length cap] w fun e w' => e = .returned (.tuple #[.agg #[.int .u8 (Ce.prim s.data.toList l).1.k, .int .i64 (Ce.prim s.data.toList l).1.n], .int .i64 (Ce.prim s.data.toList l).2]) ∧ Below w.heap.size w w' := by
  have HS : Hid (Stay (fun V => ValE.Arg V A l) (w.alloc (.cells #[.int .u8 0, .int .i64 0] 26))) := Lib.hid (h.stay.alloc _)
  have HZ := Lib.hid (Blk.new w 26 #[.int .u8 0, .int .i64 0])
  have HB : Hid (Below w.heap.size w (w.alloc (.cells #[.int .u8 0, .int .i64 0] 26))) := Lib.hid ((Below.refl _ _).alloc (Nat.le_refl _) _)
  have HO := Lib.hid (fun W => operands_any s W)
  have HBLK : Hid (∀ b o, A = some ⟨b, o, none⟩ → 0 < l.length → b < w.heap.size) := Lib.hid fun b o hA hp => by
    obtain ⟨b1, o1, e1, _, e2⟩ := h.at_lt hp
    rw [hA] at e1
    injection e1 with e1
    injection e1 with e1
    omega
  have HIV := Lib.hid (fun v W => isValue_any v (-1) W)
  have hnone := Ce.prim_none (s := s.data.toList) (l := l)
  have hlen := Ce.prim_len (s := s.data.toList) (l := l)
  have hval := Ce.prim_val (s := s.data.toList) (l := l)
  have hhole := Ce.prim_hole (s := s.data.toList) (l := l)
  have hbad := fun v => Ce.prim_bad (s := s.data.toList) (l := l) (v := v)
  have hgo := Ce.prim_go (s := s.data.toList) (l := l)
  have hmem := Ce.operands_mem (s := s.data.toList)
  have hn2 := Ce.operands_le s.data.toList
  generalize Ce.prim s.data.toList l = R at *
  generalize Ce.operands s.data.toList = n at *
  obtain ⟨⟨rk, rn⟩, re⟩ := R
  have HLEN := Lib.hid hlen
  have HVAL := Lib.hid hval
  have HHOLE := Lib.hid hhole
  have HBADV := Lib.hid hbad
  have HGO := Lib.hid hgo
  have HMEM := Lib.hid hmem
  dsimp only
  clear h hlen hval hhole hbad hgo hmem
  by_cases hn0 : n = 0
  · subst hn0
    have HE := Lib.hid (hnone rfl)
    clear hnone
    obtain ⟨rfl, rfl, rfl⟩ : rk = 0 ∧ rn = 0 ∧ re = 10 := by have := HE.out; simp [Ce.hole] at this; omega
    go_enter Tryz.func21, Tryz.ntmps21
    go_wp2_with fail
    refine (HO.out _).mono ?_
    rintro e w1 ⟨rfl, hb1⟩
    have HZ1 := Lib.hid (HZ.out.below hb1)
    have z0 := HZ1.out.cell 0
    have z1 := HZ1.out.cell 1
    have zf0 := HZ1.out.frozen 0
    have zf1 := HZ1.out.frozen 1
    dsimp at z0 z1
    have HB1 := Lib.hid (HB.out.trans (hb1.mono HB.out.size))
    clear hb1
    go_wp2
    refine bodyPost_ret (results_row_tmp rfl _ _ w.heap.size 26 #[.int .u8 0, .int .i64 0] (0, 0) _ rfl ((HZ1.out.set_ 0 _).set_ 1 _) Tryz.underlying26 rfl val_size) rfl ?_
    exact ⟨rfl, (HB1.out.setCell (by simp) _).setCell (by simp) _⟩
  have hn0' : ((n : Int) == 0) = false := beq_eq_false_iff_ne.2 (by omega)
  clear hnone
  go_enter Tryz.func21, Tryz.ntmps21
  go_wp2_with fail
  refine (HO.out _).mono ?_
  rintro e w1 ⟨rfl, hb1⟩
  have HZ1 := Lib.hid (HZ.out.below hb1)
  have HS1 := Lib.hid (HS.out.step hb1)
  have HB1 := Lib.hid (HB.out.trans (hb1.mono HB.out.size))
  clear hb1 HZ HS HB
  by_cases hln : l.length = n
  case neg =>
    have hln' : ((l.length : Int) == n) = false := beq_eq_false_iff_ne.2 (by omega)
    have hln'' : ((l.length : Int) != n) = true := by rw [bne, hln']; rfl
    have HE := Lib.hid (HLEN.out hn0 hln)
    obtain ⟨rfl, rfl, rfl⟩ : rk = 0 ∧ rn = 0 ∧ re = 2 := by have := HE.out; simp [Ce.hole] at this; omega
    have HZ := HZ1
    have HB := HB1
    have z0 := HZ.out.cell 0
    have z1 := HZ.out.cell 1
    have zf0 := HZ.out.frozen 0
    have zf1 := HZ.out.frozen 1
    dsimp at z0 z1
    go_wp2
    refine bodyPost_ret (results_row_tmp rfl _ _ w.heap.size 26 #[.int .u8 0, .int .i64 0] (0, 0) _ rfl ((HZ.out.set_ 0 _).set_ 1 _) Tryz.underlying26 rfl val_size) rfl ?_
    exact ⟨rfl, (HB.out.setCell (by simp) _).setCell (by simp) _⟩
  subst hln
  clear HLEN
  have HVAL2 := Lib.hid (HVAL.out hn0 rfl)
  have HHOLE2 := Lib.hid (HHOLE.out hn0 rfl)
  have HBADV2 := Lib.hid (fun v => HBADV.out v hn0 rfl)
  have HGO2 := Lib.hid (HGO.out hn0 rfl)
  clear HVAL HHOLE HBADV HGO
  go_wp2_with fail
  clear hn0'
  go_loopw [7] (fun i wr => ∃ k : Nat, k ≤ l.length ∧ i = .int .i64 k ∧ Hid (Ce.areValues (l.take k) (-1) = true) ∧ Hid (Blk wr w.heap.size 26 #[.int .u8 0, .int .i64 0]) ∧ Hid (Stay (fun V => ValE.Arg V A l) wr) ∧ Hid (Below w.heap.size w wr)) (fun i _ => l.length - (intOf i).toNat)
  case atStart => exact ⟨0, Nat.zero_le _, rfl, Lib.hid rfl, HZ1, HS1, HB1⟩
  case round =>
    clear HZ1 HS1 HB1
    obtain ⟨k, hk, rfl, HK, HZ, HST, HB⟩ := hrel
    by_cases hlt : k < l.length
    · have hlt' : (k : Int) < l.length := by omega
      obtain ⟨b, o, rfl, hin, hbl⟩ := HST.out.at_.at_lt hlt
      obtain ⟨p, hp⟩ : ∃ p, l[k]? = some p := ⟨_, List.getElem?_eq_getElem hlt⟩
      obtain ⟨x0, x1⟩ := ValE.at2 hin hp
      have hcall := HIV.out p wr
      have HNO := Lib.hid (fun hf => HVAL2.out (areValues_many l (-1) k p hp hf))
      have HYES := Lib.hid (fun hf => areValues_step l (-1) k p hp hf HK.out)
      generalize Ce.isValue p (-1) = q at hcall HNO HYES
      have HC := Lib.hid hcall
      clear hcall hin hp
      cases q with
      | false =>
        have HE := Lib.hid (HNO.out rfl)
        clear HNO HYES
        obtain ⟨rfl, rfl, rfl⟩ : rk = 0 ∧ rn = 0 ∧ re = 4 := by have := HE.out; simp [Ce.hole] at this; omega
        go_wp2_with fail
        refine HC.out.mono ?_
        rintro e w2 ⟨rfl, hb2⟩
        have HZ := Lib.hid (HZ.out.below hb2)
        have HB := Lib.hid (HB.out.trans (hb2.mono HB.out.size))
        clear hb2
        have z0 := HZ.out.cell 0
        have z1 := HZ.out.cell 1
        have zf0 := HZ.out.frozen 0
        have zf1 := HZ.out.frozen 1
        dsimp at z0 z1
        go_wp2
        refine bodyPost_ret (results_row_tmp rfl _ _ w.heap.size 26 #[.int .u8 0, .int .i64 0] (0, 0) _ rfl ((HZ.out.set_ 0 _).set_ 1 _) Tryz.underlying26 rfl val_size) rfl ?_
        exact ⟨rfl, (HB.out.setCell (by simp) _).setCell (by simp) _⟩
      | true =>
        have HK1 := Lib.hid (HYES.out rfl)
        clear HNO HYES
        go_wp2_with fail
        refine HC.out.mono ?_
        rintro e w2 ⟨rfl, hb2⟩
        have HZ := Lib.hid (HZ.out.below hb2)
        have HB := Lib.hid (HB.out.trans (hb2.mono HB.out.size))
        have HST := Lib.hid (HST.out.step hb2)
        clear hb2
        go_wp2
        go_roundw
        case rel => exact ⟨k + 1, by omega, by go_num, HK1, HZ, HST, HB⟩
        case measure => simp [intOf]; omega
    · have hlt' : ¬ (k : Int) < l.length := by omega
      have HV : Hid (Ce.areValues l (-1) = true) := Lib.hid (by have e := HK.out; rwa [List.take_of_length_le (by omega)] at e)
      have HAV : Hid (∀ p, p ∈ l → Ce.isValue p (-1) = true) := Lib.hid (by have e := HV.out; unfold Ce.areValues at e; exact List.all_eq_true.1 e)
      have HHOLE3 := Lib.hid (HHOLE2.out HV.out)
      have HBADV3 := Lib.hid (fun v => HBADV2.out v HV.out)
      have HGO3 := Lib.hid (HGO2.out HV.out)
      have HZ1 := HZ
      have HS1 := HST
      have HB1 := HB
      clear HVAL2 HHOLE2 HBADV2 HGO2 HK HZ HST HB
      go_wp2_with fail
      clear hlt hlt'
      go_loopw [8] (fun i wr => ∃ k : Nat, k ≤ l.length ∧ i = .int .i64 k ∧ Hid ((l.take k).any (fun v => decide (v.k = 0)) = false) ∧ Hid (Blk wr w.heap.size 26 #[.int .u8 0, .int .i64 0]) ∧ Hid (Stay (fun V => ValE.Arg V A l) wr) ∧ Hid (Below w.heap.size w wr)) (fun i _ => l.length - (intOf i).toNat)
      case atStart => exact ⟨0, Nat.zero_le _, rfl, Lib.hid rfl, HZ1, HS1, HB1⟩
      case round =>
        clear HZ1 HS1 HB1
        obtain ⟨k, hk, rfl, HK, HZ, HST, HB⟩ := hrel
        by_cases hlt : k < l.length
        · have hlt' : (k : Int) < l.length := by omega
          obtain ⟨b, o, rfl, hin, hbl⟩ := HST.out.at_.at_lt hlt
          obtain ⟨p, hp⟩ : ∃ p, l[k]? = some p := ⟨_, List.getElem?_eq_getElem hlt⟩
          obtain ⟨x0, x1⟩ := ValE.at2 hin hp
          by_cases h0 : p.k = 0
          · have HE := Lib.hid (HHOLE3.out (Ce.any_at hp (decide_eq_true h0)))
            obtain ⟨rfl, rfl, rfl⟩ : rk = 0 ∧ rn = 0 ∧ re = 0 := by have := HE.out; simp [Ce.hole] at this; omega
            rw [h0] at x0
            clear hin hp
            have z0 := HZ.out.cell 0
            have z1 := HZ.out.cell 1
            have zf0 := HZ.out.frozen 0
            have zf1 := HZ.out.frozen 1
            dsimp at z0 z1
            go_wp2
            refine bodyPost_ret (results_row_tmp rfl _ _ w.heap.size 26 #[.int .u8 0, .int .i64 0] (0, 0) _ rfl ((HZ.out.set_ 0 _).set_ 1 _) Tryz.underlying26 rfl val_size) rfl ?_
            exact ⟨rfl, (HB.out.setCell (by simp) _).setCell (by simp) _⟩
          · have HK1 := Lib.hid (Ce.any_step hp HK.out (decide_eq_false h0))
            have h0' : (p.k == 0) = false := beq_eq_false_iff_ne.2 h0
            clear hin hp
            go_wp2
            go_roundw
            case rel => exact ⟨k + 1, by omega, by go_num, HK1, HZ, HST, HB⟩
            case measure => simp [intOf]; omega
        · have hlt' : ¬ (k : Int) < l.length := by omega
          have HV : Hid (l.any (fun v => decide (v.k = 0)) = false) := Lib.hid (by have e := HK.out; rwa [List.take_of_length_le (by omega)] at e)
          have HBADV4 := Lib.hid (fun v => HBADV3.out v HV.out)
          have HGO4 := Lib.hid (HGO3.out HV.out)
          have HZ1 := HZ
          have HS1 := HST
          have HB1 := HB
          clear HHOLE3 HBADV3 HGO3 HK HZ HST HB
          go_wp2_with fail
          clear hlt hlt'
          go_loopw [9] (fun i wr => ∃ k : Nat, k ≤ l.length ∧ i = .int .i64 k ∧ Hid ((l.take k).find? (fun v => decide (v.k = 5)) = none) ∧ Hid (Blk wr w.heap.size 26 #[.int .u8 0, .int .i64 0]) ∧ Hid (Stay (fun V => ValE.Arg V A l) wr) ∧ Hid (Below w.heap.size w wr)) (fun i _ => l.length - (intOf i).toNat)
          case atStart => exact ⟨0, Nat.zero_le _, rfl, Lib.hid rfl, HZ1, HS1, HB1⟩
          case round =>
            clear HZ1 HS1 HB1
            obtain ⟨k, hk, rfl, HK, HZ, HST, HB⟩ := hrel
            by_cases hlt : k < l.length
            · have hlt' : (k : Int) < l.length := by omega
              obtain ⟨b, o, rfl, hin, hbl⟩ := HST.out.at_.at_lt hlt
              obtain ⟨p, hp⟩ : ∃ p, l[k]? = some p := ⟨_, List.getElem?_eq_getElem hlt⟩
              obtain ⟨x0, x1⟩ := ValE.at2 hin hp
              by_cases h0 : p.k = 5
              · have HE := Lib.hid (HBADV4.out p (Ce.find_at hp HK.out (decide_eq_true h0)))
                obtain ⟨pk, pn⟩ := p
                dsimp only at h0 x0 x1
                subst h0
                obtain ⟨rfl, rfl, rfl⟩ : rk = 5 ∧ rn = pn ∧ re = 0 := by have := HE.out; simp at this; omega
                clear hin hp HBADV4 HGO4
                have z0 := HZ.out.cell 0
                have z1 := HZ.out.cell 1
                have zf0 := HZ.out.frozen 0
                have zf1 := HZ.out.frozen 1
                dsimp at z0 z1
                go_wp2
                refine bodyPost_ret (results_row_tmp rfl _ _ w.heap.size 26 #[.int .u8 5, .int .i64 rn] (0, 0) _ rfl ((HZ.out.set_ 0 _).set_ 1 _) Tryz.underlying26 rfl val_size) rfl ?_
                exact ⟨rfl, (HB.out.setCell (by simp) _).setCell (by simp) _⟩
              · have HK1 := Lib.hid (Ce.find_step hp HK.out (decide_eq_false h0))
                have h0' : (p.k == 5) = false := beq_eq_false_iff_ne.2 h0
                clear hin hp
                go_wp2
                go_roundw
                case rel => exact ⟨k + 1, by omega, by go_num, HK1, HZ, HST, HB⟩
                case measure => simp [intOf]; omega
            · have hlt' : ¬ (k : Int) < l.length := by omega
              have HE := Lib.hid (HGO4.out (by have e := HK.out; rwa [List.take_of_length_le (by omega)] at e))
              clear HBADV4 HGO4 HK
              have hpos : 0 < l.length := by omega
              have hpos' : (0 : Int) < l.length := by omega
              obtain ⟨j, hj⟩ : ∃ j, l.length = j + 1 := ⟨l.length - 1, by omega⟩
              have hj1 : (l.length : Int) - 1 = j := by omega
              have hjw : IntKind.i64.wrap (j : Int) = j := by rw [IntKind.wrap_i64]; omega
              have hjl : (j : Int) < l.length := by omega
              have hjn : j < l.length := by omega
              clear hj
              obtain ⟨b, o, rfl, hin, hbl⟩ := HST.out.at_.at_lt hpos
              have hbw := HBLK.out b o rfl hpos
              have hne1 : b ≠ w.heap.size := by omega
              have hne2 : w.heap.size ≠ b := by omega
              obtain ⟨x, hx⟩ : ∃ p, l[0]? = some p := ⟨_, List.getElem?_eq_getElem hpos⟩
              obtain ⟨y, hy⟩ : ∃ p, l[j]? = some p := ⟨_, List.getElem?_eq_getElem hjn⟩
              have HR : Hid (rk = (Ce.reckon s.toList x y).k ∧ rn = (Ce.reckon s.toList x y).n ∧ re = 0) := Lib.hid (by
                have e := HE.out
                have e1 : l[0]! = x := by rw [List.getElem!_eq_getElem?_getD, hx]; rfl
                have e2 : l[l.length - 1]! = y := by rw [List.getElem!_eq_getElem?_getD, show l.length - 1 = j by omega, hy]; rfl
                rw [e1, e2, ← Lib.toList_data] at e
                exact ⟨congrArg (fun z => z.1.k) e, congrArg (fun z => z.1.n) e, congrArg (fun z => z.2) e⟩)
              have HREC := Lib.hid (fun W => reckon_any s x y (by rw [Lib.toList_data]; exact HMEM.out hn0) (Ce.isValue_int (HAV.out x (List.mem_of_getElem? hx))) (Ce.isValue_int (HAV.out y (List.mem_of_getElem? hy))) W)
              generalize Ce.reckon s.toList x y = V at HR HREC
              obtain ⟨rfl, rfl, rfl⟩ := HR.out
              have hin0 := ValE.at2 hin hx
              rw [Nat.zero_mul, Nat.add_zero] at hin0
              have SX := Lib.hid (((Stay.cell hin0.1).and (Stay.cell hin0.2)).and ((Stay.cell (ValE.at2 hin hy).1).and (Stay.cell (ValE.at2 hin hy).2)))
              obtain ⟨⟨x0, x1⟩, y0, y1⟩ := SX.out.at_
              clear hin hx hy hin0 HE HR
              go_wp2_with fail
              go_region_held3 (fun W => W.cell? ⟨b, o, none⟩ = some (.int .u8 x.k) ∧ W.cell? ⟨b, o + 1, none⟩ = some (.int .i64 x.n) ∧ W.cell? ⟨b, o + j * 2, none⟩ = some (.int .u8 y.k) ∧ W.cell? ⟨b, o + j * 2 + 1, none⟩ = some (.int .i64 y.n))
                (go_keep)
                (first
                  | (go_at_call 74; refine (HREC.out _).mono ?_; rintro e w2 ⟨rfl, hb2⟩
                     have hb2 : Below wr.heap.size wr w2 := (Below.refl _ _).drew.trans hb2
                     obtain ⟨⟨x0, x1⟩, y0, y1⟩ := SX.out _ hb2
                     have HZ2 := Lib.hid (HZ.out.below hb2)
                     have HB2 := Lib.hid (HB.out.trans (hb2.mono HB.out.size))
                     have z0 := HZ2.out.cell 0
                     have z1 := HZ2.out.cell 1
                     have zf0 := HZ2.out.frozen 0
                     have zf1 := HZ2.out.frozen 1
                     dsimp at z0 z1
                     ))
              all_goals
                go_wp2_with fail
                refine bodyPost_ret (results_row_tmp rfl _ _ w.heap.size 26 #[.int .u8 V.k, .int .i64 V.n] (0, 0) _ rfl ((HZ2.out.set_ 0 _).set_ 1 _) Tryz.underlying26 rfl val_size) rfl ?_
                exact ⟨rfl, (HB2.out.setCell (by simp) _).setCell (by simp) _⟩
end Go.Proofs.YtacggbpgillbaaaGreatDoor
