/- Layer 6, the program: renumbered. -/
import Derived.Test.YtacggbpgillbaaaGreatDoorTt
namespace Go.Proofs.YtacggbpgillbaaaGreatDoor
open Go.RowKit Go.El

theorem val_row_set (x : Ce.V) : ∀ (L : List Ce.V) (i : Nat), i < L.length → ValE.row (L.set i x) = ((ValE.row L).set (i * 2) (.int .u8 x.k)).set (i * 2 + 1) (.int .i64 x.n)
  | [], i, h => by simp at h
  | y :: r, 0, _ => by
    simp [El.row_cons, ValE, vC]
  | y :: r, i + 1, h => by
    rw [List.set_cons_succ, El.row_cons, El.row_cons, val_row_set x r i (by simpa using h)]
    have e : (i + 1) * 2 = (i * 2) + 1 + 1 := by omega
    rw [e]
    simp [ValE, vC]
theorem val_put {T : TypeId} {W : World} {base g cap : Nat} {L : List Ce.V} (h : ValE.Own T W base (some ⟨g, 0, none⟩) cap L) (i : Nat) (hi : i < L.length) (x : Ce.V) :
    ValE.Own T ((W.setCell ⟨g, i * 2, none⟩ (.int .u8 x.k)).setCell ⟨g, i * 2 + 1, none⟩ (.int .i64 x.n)) base (some ⟨g, 0, none⟩) cap (L.set i x) := by
  have h1 := (World.ownsRow.stored h (i * 2) (.int .u8 x.k)).1
  have h2 := (World.ownsRow.stored h1 (i * 2 + 1) (.int .i64 x.n)).1
  show World.ownsRow _ _ _ 2 (.slice _ (L.set i x).length _) (L.set i x).length (ValE.row (L.set i x))
  rw [val_row_set x L i hi, List.length_set]
  exact h2

theorem set_same {α : Type} {L : List α} {i : Nat} {x : α} (h : L[i]? = some x) : L.set i x = L := by
  obtain ⟨hi, rfl⟩ := List.getElem?_eq_some_iff.1 h
  exact List.set_getElem_self hi
/-- the list of a renumbering, so far -/
def renK (l : List Ce.V) (met : List Int) (k : Nat) : List Ce.V := (Ce.renum (l.take k) met).1 ++ l.drop k
def metK (l : List Ce.V) (met : List Int) (k : Nat) : List Int := (Ce.renum (l.take k) met).2
theorem renK_len (l : List Ce.V) (met : List Int) (k : Nat) (hk : k ≤ l.length) : (renK l met k).length = l.length := by
  unfold renK
  rw [List.length_append, Ce.renum_len, List.length_take, List.length_drop]
  omega
theorem renK_at {l : List Ce.V} {met : List Int} {k : Nat} {v : Ce.V} (hv : l[k]? = some v) : (renK l met k)[k]? = some v ∧ (renK l met k).set k (Ce.numV v (metK l met k)) = renK l met (k + 1) ∧ metK l met (k + 1) = Ce.meetV v (metK l met k) := by
  have hk := (List.getElem?_eq_some_iff.1 hv).1
  have hlen : (Ce.renum (l.take k) met).1.length = k := by rw [Ce.renum_len, List.length_take]; omega
  have hd : l.drop k = v :: l.drop (k + 1) := by
    obtain ⟨_, rfl⟩ := List.getElem?_eq_some_iff.1 hv
    exact List.drop_eq_getElem_cons hk
  refine ⟨?_, ?_, ?_⟩
  · unfold renK
    rw [List.getElem?_append_right (by omega), hlen, Nat.sub_self, hd]
    rfl
  · unfold renK metK
    rw [Ce.renum_step hv met, hd, List.set_append_right _ _ (by omega), hlen, Nat.sub_self, List.set_cons_zero, List.append_assoc]
    rfl
  · unfold metK
    rw [Ce.renum_step hv met]
theorem renK_zero (l : List Ce.V) (met : List Int) : renK l met 0 = l ∧ metK l met 0 = met := by
  unfold renK metK
  simp [Ce.renum]
theorem renK_end (l : List Ce.V) (met : List Int) (k : Nat) (hk : l.length ≤ k) : renK l met k = (Ce.renum l met).1 ∧ metK l met k = (Ce.renum l met).2 := by
  unfold renK metK
  rw [List.take_of_length_le hk, List.drop_eq_nil_of_le hk, List.append_nil]
  exact ⟨rfl, rfl⟩
theorem numV_same {v : Ce.V} (h : v.k ≠ 4) (met : List Int) : Ce.numV v met = v ∧ Ce.meetV v met = met := by
  unfold Ce.numV Ce.meetV
  rw [if_neg h, if_neg h]
  exact ⟨rfl, rfl⟩
def RenIs (l : List Ce.V) (met : List Int) (base p b : Nat) (w w' : World) (e : Ending) : Prop :=
  ∃ A c, e = .returned (.slice A l.length c) ∧ ValE.Own 26 w' w.heap.size A c (Ce.renum l met).1 ∧ DrawIs w' base p b (Ce.renum l met).2
theorem DrawIs.below {W W' : World} {base p b : Nat} {met : List Int} (h : DrawIs W base p b met) (hb : Below W.heap.size W W') : DrawIs W' base p b met := by
  obtain ⟨M, cm, h⟩ := h
  exact ⟨M, cm, h.below hb⟩
theorem DrawIs.set {W : World} {base p b : Nat} {met : List Int} (h : DrawIs W base p b met) {a : Addr} {v : Value} {c : Array Value} {f : Nat × Nat} (ha : W.heap[a.block]? = some (.cells c 26 f)) : DrawIs (W.setCell a v) base p b met := by
  obtain ⟨M, cm, h⟩ := h
  exact ⟨M, cm, h.set ha (by decide) (by decide)⟩
theorem own_cells {W : World} {base size g cap n : Nat} {e : TypeId} {xs : List Value} (h : W.ownsRow base e size (.slice (some ⟨g, 0, none⟩) n cap) n xs) : ∃ c, W.heap[g]? = some (.cells c e (0, 0)) := by
  rcases h.2 with ⟨hv, _⟩ | ⟨g', cap', cur, hv, _, hh, _⟩
  · cases hv
  · injection hv with hv
    injection hv with hv
    injection hv with hv
    subst hv
    exact ⟨cur, hh⟩

set_option maxRecDepth 100000 in
set_option maxHeartbeats 4000000 in
theorem renumbered_any (l : List Ce.V) (hl : l.length ≤ 10000) (many : Nat) (hmany : many ≤ 10000) (hv : Ce.areValues l many = true) (met : List Int) (hmb : Ce.Below many met) (hnd : met.Nodup) (base p b : Nat) (A : Option Addr) (cap : Nat) (w : World) (hd : DrawIs w base p b met) (hbw : base ≤ w.heap.size) (h : ValE.Arg w A l) :
    Calls Tryz.prog 137 #[.pointer (some ⟨p, 0, none⟩), .slice A l.length cap] w fun e w' => RenIs l met base p b w w' e ∧ Below base w w' ∧ Keeps2 w w' := by
  have HCL := Lib.hid (valClone_any l (by omega) A cap w h)
  have HD := Lib.hid hd
  have HOKM : Hid (∀ k, Ce.Below many (metK l met k) ∧ (metK l met k).Nodup ∧ (metK l met k).length ≤ 100000) := Lib.hid fun k => by
    have hv' : Ce.areValues (l.take k) many = true := by
      unfold Ce.areValues at hv ⊢
      rw [List.all_eq_true] at hv ⊢
      exact fun x hx => hv x (List.mem_of_mem_take hx)
    obtain ⟨h1, h2⟩ := Ce.renum_ok (l.take k) met hmb hnd hv'
    exact ⟨h1, h2, Nat.le_trans (Ce.below_len h1 h2) (by omega)⟩
  have HR0 := Lib.hid (renK_zero l met)
  have HRE := Lib.hid (fun k hk => renK_end l met k hk)
  have HRL := Lib.hid (fun k hk => renK_len l met k hk)
  have HRA := Lib.hid (fun k v hv => renK_at (l := l) (met := met) (k := k) (v := v) hv)
  have HREF := Lib.hid (fun n W => ref_any n W)
  unfold RenIs
  have hlz : (l.length : Int) ≤ 10000 := by omega
  clear hd h hv hmb hnd
  go_enter Tryz.func137, Tryz.ntmps137
  go_wp2_with fail
  refine HCL.out.mono ?_
  rintro e w1 ⟨⟨B, c, rfl, hown⟩, hb1⟩
  have HO1 : Hid (ValE.Own 26 w1 w.heap.size B c (renK l met 0)) := Lib.hid (by rw [HR0.out.1]; exact hown)
  have HD1 : Hid (DrawIs w1 base p b (metK l met 0)) := Lib.hid (by rw [HR0.out.2]; exact HD.out.below hb1)
  have HB1 := Lib.hid (hb1.mono hbw)
  have HK1 := Lib.hid (Keeps2.below hb1)
  have hz1 := hb1.size
  clear hown hb1 HD HCL HR0
  go_wp2_with fail
  go_loopw [11] (fun i wr => ∃ k : Nat, k ≤ l.length ∧ i = .int .i64 k ∧ Hid (ValE.Own 26 wr w.heap.size B c (renK l met k)) ∧ Hid (DrawIs wr base p b (metK l met k)) ∧ Hid (Below base w wr) ∧ Hid (Keeps2 w wr) ∧ w.heap.size ≤ wr.heap.size) (fun i _ => l.length - (intOf i).toNat)
  case atStart => exact ⟨0, Nat.zero_le _, rfl, HO1, HD1, HB1, HK1, hz1⟩
  case round =>
    clear HO1 HD1 HB1 HK1 hz1
    obtain ⟨k, hk, rfl, HO, HD, HB, HK, hz⟩ := hrel
    by_cases hlt : k < l.length
    · have hlt' : (k : Int) < l.length := by omega
      obtain ⟨v, hv⟩ : ∃ x, l[k]? = some x := ⟨_, List.getElem?_eq_getElem hlt⟩
      obtain ⟨hat, hset, hmet⟩ := HRA.out k v hv
      have hrl := HRL.out k hk
      obtain ⟨g, rfl, hgb, hgl, hin⟩ := Own.in_ HO.out (by intro e; rw [e] at hrl; simp at hrl; omega)
      obtain ⟨x0, x1⟩ := ValE.at2 hin hat
      simp only [Nat.zero_add] at x0 x1
      have HSET := Lib.hid hset
      have HSAME : Hid ((renK l met k).set k v = renK l met k) := Lib.hid (set_same hat)
      have HMET := Lib.hid hmet
      clear hv hat hset hmet hin
      by_cases h4 : v.k = 4
      · obtain ⟨vk, vn⟩ := v
        dsimp only at h4
        subst h4
        dsimp only at x0 x1
        have hba : Below wr.heap.size wr (wr.alloc (.cells #[.int .u8 4, .int .i64 vn] 26)) := (Below.refl _ _).alloc (Nat.le_refl _) _
        have hzb : base ≤ (wr.alloc (.cells #[.int .u8 4, .int .i64 vn] 26)).heap.size := by simp; omega
        have hnum := number_any (metK l met k) vn base p b _ (HD.out.below hba) (HOKM.out k).2.1 (HOKM.out k).2.2 hzb
        have HNUM := Lib.hid hnum
        have HOA := Lib.hid (HO.out.below hba)
        have HBA := Lib.hid (HB.out.alloc (by omega) (.cells #[.int .u8 4, .int .i64 vn] 26))
        have HKA := Lib.hid (HK.out.trans (Keeps2.below hba))
        have HRL2 := Lib.hid hrl
        clear hnum hba hrl
        go_wp2_with fail
        refine HNUM.out.mono ?_
        rintro e w2 ⟨rfl, hd2, hb2, hk2⟩
        have HO2 := Lib.hid (hk2.own HOA.out (by decide) (by decide))
        have HB2 := Lib.hid (HBA.out.trans hb2)
        have HK2 := Lib.hid (HKA.out.trans hk2)
        have HD2 := Lib.hid hd2
        have hz2 := hb2.size
        simp only [World.size_alloc] at hz2
        clear hd2 hb2 hk2 HNUM HOA HBA HKA
        go_wp2_with fail
        refine (HREF.out _ _).mono ?_
        rintro e w3 ⟨rfl, hb3⟩
        have HO3 := Lib.hid (HO2.out.below hb3)
        have HB3 := Lib.hid (HB2.out.trans (hb3.mono (Nat.le_trans hbw HB2.out.size)))
        have HK3 := Lib.hid (HK2.out.trans (Keeps2.below hb3))
        have HD3 := Lib.hid (HD2.out.below hb3)
        have hz3 := hb3.size
        have HIK : Hid (k < (renK l met k).length) := Lib.hid (by rw [HRL2.out]; exact hlt)
        obtain ⟨g', hg', hgb', hgl3, hin3⟩ := Own.in_ HO3.out (by intro e; have := HIK.out; rw [e] at this; simp at this)
        injection hg' with hg'
        injection hg' with hg' _
        subst hg'
        obtain ⟨cc, hcc⟩ := own_cells HO3.out
        obtain ⟨y, hy⟩ : ∃ y, (renK l met k)[k]? = some y := ⟨_, List.getElem?_eq_getElem HIK.out⟩
        obtain ⟨y0, y1⟩ := ValE.at2 hin3 hy
        simp only [Nat.zero_add] at y0 y1
        have hf0 := World.ownsRow.frozenAt HO3.out (k * 2)
        have hf1 := World.ownsRow.frozenAt HO3.out (k * 2 + 1)
        have HO4 : Hid (ValE.Own 26 ((w3.setCell ⟨g, k * 2, none⟩ (.int .u8 4)).setCell ⟨g, k * 2 + 1, none⟩ (.int .i64 (Ce.place vn (metK l met k)))) w.heap.size (some ⟨g, 0, none⟩) c (renK l met (k + 1))) := Lib.hid (by
          have := val_put HO3.out k HIK.out (Ce.numV ⟨4, vn⟩ (metK l met k))
          rw [HSET.out] at this
          exact this)
        have HD4 : Hid (DrawIs ((w3.setCell ⟨g, k * 2, none⟩ (.int .u8 4)).setCell ⟨g, k * 2 + 1, none⟩ (.int .i64 (Ce.place vn (metK l met k)))) base p b (metK l met (k + 1))) := Lib.hid (by
          rw [HMET.out]
          have h1 := HD3.out.set (a := ⟨g, k * 2, none⟩) (v := .int .u8 4) hcc
          obtain ⟨c2, hc2⟩ := own_cells (World.ownsRow.stored HO3.out (k * 2) (.int .u8 4)).1
          exact h1.set (a := ⟨g, k * 2 + 1, none⟩) hc2)
        have HK4 : Hid (Keeps2 w ((w3.setCell ⟨g, k * 2, none⟩ (.int .u8 4)).setCell ⟨g, k * 2 + 1, none⟩ (.int .i64 (Ce.place vn (metK l met k))))) := Lib.hid (fun T t1 t2 i x f hi => by
          have hlt := (Array.getElem?_eq_some_iff.1 hi).1
          rw [RowKit.Below.heap_setCell _ _ _ _ (by dsimp only; omega), RowKit.Below.heap_setCell _ _ _ _ (by dsimp only; omega)]
          exact HK3.out T t1 t2 i x f hi)
        have HB4 : Hid (Below base w ((w3.setCell ⟨g, k * 2, none⟩ (.int .u8 4)).setCell ⟨g, k * 2 + 1, none⟩ (.int .i64 (Ce.place vn (metK l met k))))) := Lib.hid ((HB3.out.setCell (p := ⟨g, k * 2, none⟩) (by dsimp only; omega) _).setCell (p := ⟨g, k * 2 + 1, none⟩) (by dsimp only; omega) _)
        have HRLI : Hid ((renK l met k).length = l.length) := HRL2
        generalize Ce.place vn (metK l met k) = q at *
        clear hb3 hin3 hy hcc HO2 HO3 HB2 HB3 HK2 HK3 HD2 HD3 HSET HMET x0 x1
        go_wp2_with fail
        go_roundw
        case rel => exact ⟨k + 1, by omega, by go_num, HO4, HD4, HB4, HK4, by simp; omega⟩
        case measure => simp [intOf]; omega
      · have h4' : (v.k == 4) = false := beq_eq_false_iff_ne.2 h4
        obtain ⟨s1, s2⟩ := numV_same h4 (metK l met k)
        have hba : Below wr.heap.size wr (wr.alloc (.cells #[.int .u8 v.k, .int .i64 v.n] 26)) := (Below.refl _ _).alloc (Nat.le_refl _) _
        have HO1 : Hid (ValE.Own 26 (wr.alloc (.cells #[.int .u8 v.k, .int .i64 v.n] 26)) w.heap.size (some ⟨g, 0, none⟩) c (renK l met (k + 1))) := Lib.hid (by
          rw [← HSET.out, s1]
          rw [HSAME.out]
          exact HO.out.below hba)
        have HD1 : Hid (DrawIs (wr.alloc (.cells #[.int .u8 v.k, .int .i64 v.n] 26)) base p b (metK l met (k + 1))) := Lib.hid (by rw [HMET.out, s2]; exact HD.out.below hba)
        have HB1 := Lib.hid (HB.out.alloc (by omega) (.cells #[.int .u8 v.k, .int .i64 v.n] 26))
        have HK1 := Lib.hid (HK.out.trans (Keeps2.below hba))
        clear hba s1 s2 h4 HO HD HB HK hrl
        go_wp2_with fail
        go_roundw
        case rel => exact ⟨k + 1, by omega, by go_num, HO1, HD1, HB1, HK1, by simp; omega⟩
        case measure => simp [intOf]; omega
    · have hlt' : ¬ (k : Int) < l.length := by omega
      have HOE : Hid (ValE.Own 26 wr w.heap.size B c (Ce.renum l met).1) := Lib.hid (by rw [← (HRE.out k (by omega)).1]; exact HO.out)
      have HDE : Hid (DrawIs wr base p b (Ce.renum l met).2) := Lib.hid (by rw [← (HRE.out k (by omega)).2]; exact HD.out)
      clear HO HD
      go_wp2
      go_ret
      exact ⟨⟨B, c, rfl, HOE.out, HDE.out⟩, HB.out, HK.out⟩
end Go.Proofs.YtacggbpgillbaaaGreatDoor
