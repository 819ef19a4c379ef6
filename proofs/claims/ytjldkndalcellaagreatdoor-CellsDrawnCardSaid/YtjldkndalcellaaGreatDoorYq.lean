/- Layer 6: the holes of a memory, gone through cell by cell (plain). Layer 6: the walk of the reference's Holes. Layer 6: two arrays of two integers compared. Layer 6, the program: Holes. -/
import Derived.Test.YtjldkndalcellaaGreatDoorYe
import Derived.DeepKeys
import Derived.Test.YtjldkndalcellaaGreatDoorYj
namespace Ce
theorem holesOf_app (i : Nat) : ∀ (k : Nat) (a b : List V), holesOf i k (a ++ b) = holesOf i k a ++ holesOf i (k + a.length) b
  | k, [], b => by simp [holesOf]
  | k, v :: r, b => by
    rw [List.cons_append, holesOf, holesOf, holesOf_app i (k + 1) r b, List.append_assoc, List.length_cons]
    congr 3
    omega
theorem holesK_app : ∀ (i : Nat) (a b : Mem), holesK i (a ++ b) = holesK i a ++ holesK (i + a.length) b
  | i, [], b => by simp [holesK]
  | i, s :: r, b => by
    rw [List.cons_append, holesK, holesK, holesK_app (i + 1) r b, List.append_assoc, List.length_cons]
    congr 3
    omega
theorem holesOf_step {l : List V} {p : Nat} {v : V} (h : l[p]? = some v) (i : Nat) : holesOf i 0 (l.take (p + 1)) = holesOf i 0 (l.take p) ++ (if v.k = 0 then [((i : Int), (p : Int))] else []) := by
  have hp : p < l.length := (List.getElem?_eq_some_iff.1 h).1
  rw [List.take_add_one, h, holesOf_app, List.length_take, Nat.min_eq_left (by omega)]
  simp [holesOf]
theorem holesK_step {m : Mem} {k : Nat} {s : St} (h : m[k]? = some s) : holesK 0 (m.take (k + 1)) = holesK 0 (m.take k) ++ holesOf k 0 s.cells := by
  have hp : k < m.length := (List.getElem?_eq_some_iff.1 h).1
  rw [List.take_add_one, h, holesK_app, List.length_take, Nat.min_eq_left (by omega)]
  simp [holesK]
theorem holesOf_len (i : Nat) : ∀ (k : Nat) (l : List V), (holesOf i k l).length ≤ l.length
  | k, [] => Nat.le_refl _
  | k, v :: r => by
    rw [holesOf, List.length_append, List.length_cons]
    have := holesOf_len i (k + 1) r
    split <;> simp <;> omega
theorem holesK_len (B : Nat) : ∀ (i : Nat) (m : Mem), (∀ s ∈ m, s.cells.length ≤ B) → (holesK i m).length ≤ m.length * B
  | i, [], _ => by simp [holesK]
  | i, s :: r, h => by
    rw [holesK, List.length_append, List.length_cons, Nat.add_mul]
    have h1 := holesOf_len i 0 s.cells
    have h2 := h s (by simp)
    have h3 := holesK_len B (i + 1) r fun t ht => h t (by simp [ht])
    omega
/-- the holes before the cell p of the structure k -/
def holesAt (m : Mem) (k : Nat) (l : List V) (p : Nat) : List (Int × Int) := holesK 0 (m.take k) ++ holesOf k 0 (l.take p)
theorem holesAt_zero (m : Mem) (l : List V) : holesAt m 0 l 0 = [] := by simp [holesAt, holesK, holesOf]
theorem holesAt_yes {m : Mem} {k : Nat} {l : List V} {p : Nat} {v : V} (h : l[p]? = some v) (h0 : v.k = 0) : holesAt m k l (p + 1) = holesAt m k l p ++ [((k : Int), (p : Int))] := by
  unfold holesAt; rw [holesOf_step h, if_pos h0, List.append_assoc]
theorem holesAt_no {m : Mem} {k : Nat} {l : List V} {p : Nat} {v : V} (h : l[p]? = some v) (h0 : v.k ≠ 0) : holesAt m k l (p + 1) = holesAt m k l p := by
  unfold holesAt; rw [holesOf_step h, if_neg h0, List.append_nil]
theorem holesAt_next {m : Mem} {k : Nat} {s : St} {p : Nat} (h : m[k]? = some s) (hp : s.cells.length ≤ p) (l : List V) : holesAt m k s.cells p = holesAt m (k + 1) l 0 := by
  unfold holesAt; rw [holesK_step h, List.take_of_length_le hp]; simp [holesOf]
theorem holesAt_start {m : Mem} {k : Nat} (l l' : List V) : holesAt m k l 0 = holesAt m k l' 0 := by unfold holesAt; simp
theorem holesAt_end {m : Mem} {k : Nat} (hk : m.length ≤ k) (l : List V) : holesAt m k l 0 = holesK 0 m := by unfold holesAt; rw [List.take_of_length_le hk]; simp [holesOf]
theorem holesAt_len {m : Mem} {k : Nat} {s : St} {p : Nat} (h : m[k]? = some s) (ho : memOk m = true) : (holesAt m k s.cells p).length ≤ 40000 := by
  unfold memOk at ho
  rw [Bool.and_eq_true, Bool.and_eq_true] at ho
  have h1 : m.length ≤ 400 := of_decide_eq_true ho.1
  have h2 : ∀ s ∈ m, s.cells.length ≤ 100 := fun s hs => by
    have := List.all_eq_true.1 ho.2.1 s hs
    unfold stOk at this
    rw [Bool.and_eq_true, Bool.and_eq_true] at this
    exact of_decide_eq_true this.1.1
  unfold holesAt
  have hs := holesK_step h
  have a1 : (holesK 0 (m.take (k + 1))).length ≤ (m.take (k + 1)).length * 100 := holesK_len 100 0 _ fun t ht => h2 t (List.mem_of_mem_take ht)
  rw [hs, List.length_append, List.length_take] at a1
  have b : (holesOf k 0 (s.cells.take p)).length ≤ (holesOf k 0 s.cells).length := by
    conv => rhs; rw [← List.take_append_drop p s.cells, holesOf_app]
    rw [List.length_append]; omega
  rw [List.length_append]
  have : min (k + 1) m.length ≤ 400 := by omega
  have := Nat.mul_le_mul_right 100 this
  omega
/-- the kinds of a right memory's values -/
theorem memOk_val {m : Mem} (ho : memOk m = true) {k : Nat} {s : St} (h : m[k]? = some s) {p : Nat} {v : V} (hv : s.cells[p]? = some v) : isValue v m.length = true := by
  unfold memOk at ho
  rw [Bool.and_eq_true, Bool.and_eq_true] at ho
  have := List.all_eq_true.1 ho.2.1 s (List.mem_of_getElem? h)
  unfold stOk at this
  rw [Bool.and_eq_true, Bool.and_eq_true] at this
  exact List.all_eq_true.1 this.1.2 v (List.mem_of_getElem? hv)
theorem holes_ok {m : Mem} (h : memOk m = true) : holes m = holesK 0 m := by unfold holes; rw [if_pos h]
theorem holes_not {m : Mem} (h : memOk m = false) : holes m = [] := by unfold holes; rw [if_neg (by rw [h]; decide)]
theorem check_ok {m : Mem} (h : memOk m = true) : check m = 0 := by unfold check; rw [if_pos h]
theorem check_not {m : Mem} (h : memOk m = false) : check m = 4 := by unfold check; rw [if_neg (by rw [h]; decide)]
/-- holes, told by the whole value -/
theorem isHole_kind {v : V} {many : Int} (h : isValue v many = true) : (v.k == 0 && v.n == 0) = decide (v.k = 0) := by
  by_cases h0 : v.k = 0
  · unfold isValue at h
    rw [if_pos h0] at h
    rw [decide_eq_true h0, h0, of_decide_eq_true h]
    rfl
  · rw [decide_eq_false h0, beq_eq_false_iff_ne.2 h0, Bool.false_and]
end Ce

namespace Go.Proofs.YtjldkndalcellaaGreatDoor
open Go.RowKit Go.El

def PairE : El (Int × Int) := { cells := fun p => [.int .i64 p.1, .int .i64 p.2], k := 2, pos := by decide, len := fun _ => rfl, one := fun x u hu => by simp at hu; rcases hu with rfl | rfl <;> rfl }
theorem pr_info : (Tryz.prog.info? 33).map (fun i => (i.zero, i.size, i.bytes)) = some (some (.agg #[.int .i64 0, .int .i64 0]), 2, 16) := by kernel_rfl
theorem PairE.at2 {w : World} {b o : Nat} {l : List (Int × Int)} (h : PairE.In w b o l) {k : Nat} {p : Int × Int} (hp : l[k]? = some p) :
    w.cell? ⟨b, o + k * 2, none⟩ = some (.int .i64 p.1) ∧ w.cell? ⟨b, o + k * 2 + 1, none⟩ = some (.int .i64 p.2) := ⟨h k p hp 0 _ rfl, h k p hp 1 _ rfl⟩
def PairsIs (L : List (Int × Int)) (w w' : World) (e : Ending) : Prop := ∃ B c, e = .returned (.slice B L.length c) ∧ PairE.Own 33 w' w.heap.size B c L
set_option maxRecDepth 100000 in
set_option maxHeartbeats 4000000 in
theorem holes6_any (m : Ce.Mem) (hm : Sz m) (A : Option Addr) (cap : Nat) (w : World) (h : MemAt w A m) :
    Calls Tryz.prog 14 #[.agg #[.slice A m.length cap]] w fun e w' => PairsIs (Ce.holes m) w w' e ∧ Below w.heap.size w w' := by
  have hm0 := hm.many
  have hml : (m.length : Int) ≤ 9223372036854775807 := by omega
  have hb1 : Below w.heap.size w (w.alloc (Obj.cells #[.slice A m.length cap] 24)) := (Below.refl _ _).alloc (Nat.le_refl _) _
  have HS0 := Lib.hid ((h.stay.step hb1).and (box1 (W := w) (v := .slice A m.length cap) (t := 24)))
  have hcall := check6_any m hm A cap _ (h.below hb1)
  have HB0 := Lib.hid hb1
  cases hq : Ce.memOk m with
  | false =>
    rw [Ce.check_not hq] at hcall
    rw [Ce.holes_not hq]
    have HC := Lib.hid hcall
    clear hcall hm h hb1 hq
    go_enter Tryz.func14, Tryz.ntmps14
    go_wp2_with fail
    refine HC.out.mono ?_
    rintro e w1 ⟨rfl, hb1⟩
    go_wp2
    go_ret
    exact ⟨⟨none, 0, rfl, Own.nil PairE 33 _ _⟩, HB0.out.trans (hb1.mono HB0.out.size)⟩
  | true =>
    rw [Ce.check_ok hq] at hcall
    rw [Ce.holes_ok hq]
    have HC := Lib.hid hcall
    have HSZ := Lib.hid hm.each
    have HLEN : Hid (∀ (k : Nat) (s : Ce.St) (p : Nat), m[k]? = some s → (Ce.holesAt m k s.cells p).length ≤ 40000) := Lib.hid fun k s p hs => Ce.holesAt_len hs hq
    generalize hn : m.length = n at *
    have HN := Lib.hid hn
    clear hcall hm h hb1 hq hn
    go_enter Tryz.func14, Tryz.ntmps14
    go_wp2_with fail
    refine HC.out.mono ?_
    rintro e w1 ⟨rfl, hb1⟩
    have HSZ0 : Hid ((w.alloc (Obj.cells #[.slice A n cap] 24)).heap.size = w.heap.size + 1) := Lib.hid (by simp)
    clear HC
    generalize w.alloc (Obj.cells #[.slice A n cap] 24) = w0 at *
    have HB1 := Lib.hid hb1
    have hsz1 := hb1.size
    clear hb1
    obtain ⟨_, x0⟩ := HS0.out w1 HB1.out
    go_wp2_with fail
    clear x0
    go_loopw [3, 4] (fun r i wr => ∃ (k : Nat) (B : Option Addr) (c : Nat), k ≤ n ∧ i = .int .i64 k ∧ r = .slice B (Ce.holesAt m k [] 0).length c ∧ Hid (PairE.Own 33 wr w0.heap.size B c (Ce.holesAt m k [] 0)) ∧ w0.heap.size ≤ wr.heap.size ∧ Hid (Below w0.heap.size w0 wr)) (fun _ i _ => n - (intOf i).toNat)
    case atStart => exact ⟨0, none, 0, Nat.zero_le _, rfl, by rw [Ce.holesAt_zero]; rfl, Lib.hid (by rw [Ce.holesAt_zero]; exact Own.nil PairE 33 _ _), hsz1, HB1⟩
    case round =>
      clear HB1 hsz1
      obtain ⟨k, B, c, hk, rfl, rfl, HO, hsz, HB⟩ := hrel
      obtain ⟨mA, x0⟩ := HS0.out _ HB.out
      by_cases hlt : k < n
      · have hlt' : (k : Int) < n := by omega
        obtain ⟨s, hs⟩ : ∃ x, m[k]? = some x := ⟨_, List.getElem?_eq_getElem (by rw [HN.out]; exact hlt)⟩
        obtain ⟨hsz1, _⟩ := HSZ.out k s hs
        have HSK := Lib.hid fun (V : World) (hb : Below w0.heap.size w0 V) => MemAt.at' (HS0.out V hb).1 hs
        have HL1 := Lib.hid (fun p => HLEN.out k s p hs)
        have HNX := Lib.hid (fun p (hp : s.cells.length ≤ p) => Ce.holesAt_next hs hp [])
        have HST := Lib.hid (Ce.holesAt_start (m := m) (k := k) [] s.cells)
        obtain ⟨cs, ws⟩ := s
        dsimp only at hsz1 HSK HL1 HNX HST
        have HYES : Hid (∀ (p : Nat) (v : Ce.V), cs[p]? = some v → v.k = 0 → Ce.holesAt m k cs (p + 1) = Ce.holesAt m k cs p ++ [((k : Int), (p : Int))]) := Lib.hid fun p v h1 h2 => Ce.holesAt_yes h1 h2
        have HNOT : Hid (∀ (p : Nat) (v : Ce.V), cs[p]? = some v → v.k ≠ 0 → Ce.holesAt m k cs (p + 1) = Ce.holesAt m k cs p) := Lib.hid fun p v h1 h2 => Ce.holesAt_no h1 h2
        clear mA hs
        have hcl : (cs.length : Int) ≤ 10000 := by omega
        go_wp2_with fail
        clear x0
        go_loopw [3, 5] (fun r j wv => ∃ (p : Nat) (B : Option Addr) (c : Nat), p ≤ cs.length ∧ j = .int .i64 p ∧ r = .slice B (Ce.holesAt m k cs p).length c ∧ Hid (PairE.Own 33 wv w0.heap.size B c (Ce.holesAt m k cs p)) ∧ w0.heap.size ≤ wv.heap.size ∧ Hid (Below w0.heap.size w0 wv)) (fun _ j _ => cs.length - (intOf j).toNat)
        case atStart => exact ⟨0, B, c, Nat.zero_le _, rfl, by rw [← HST.out], Lib.hid (by rw [← HST.out]; exact HO.out), hsz, HB⟩
        case round =>
          clear HO HB hsz
          obtain ⟨p, B, c, hp, rfl, rfl, HO, hsz, HB⟩ := hrel
          obtain ⟨_, x0⟩ := HS0.out _ HB.out
          obtain ⟨b1, o1, A1, c1, A2, c2, rfl, hz1, x1, _, P1, _⟩ := HSK.out _ HB.out
          have hl0 := HL1.out p
          by_cases hpt : p < cs.length
          · have hpt' : (p : Int) < cs.length := by omega
            obtain ⟨v, hv⟩ : ∃ x, cs[p]? = some x := ⟨_, List.getElem?_eq_getElem hpt⟩
            obtain ⟨b5, o5, rfl, hin5, hz5⟩ := P1.at_lt hpt
            obtain ⟨y0, _⟩ := ValE.at2 hin5 hv
            by_cases h0 : v.k = 0
            · have HE := Lib.hid (HYES.out p v hv h0)
              rw [h0] at y0
              clear hin5 hv P1
              generalize Ce.holesAt m k cs p = L at *
              have hba : Below wr.heap.size wr (wr.alloc (.cells #[.int .i64 k, .int .i64 p] 33)) := (Below.refl _ _).alloc (Nat.le_refl _) _
              have HOA : Hid (PairE.Own 33 (wr.alloc (.cells #[.int .i64 k, .int .i64 p] 33)) w0.heap.size B c L) := Lib.hid (Own.below HO.out hba)
              go_wp2_with (at_builtin; refine wpList_append_one PairE _ rfl _ _ 30 33 rfl Tryz.underlying30 pr_info rfl w0.heap.size B c L ((k : Int), (p : Int)) wr.heap.size rfl rfl HOA.out (fun j u hj => by
                match j, hj with
                | 0, hj => simp [PairE] at hj; subst hj; exact cell_of_row _ _ 0 _ _ _ (heap_alloc_new wr _)
                | 1, hj => simp [PairE] at hj; subst hj; exact cell_of_row _ _ 1 _ _ _ (heap_alloc_new wr _)) (by omega) (by omega) (by simp; omega) ?_)
              intro A' c' w2 hown2 hgrow2
              have hr : ∀ j, (Value.slice B L.length c).ownBlock = some j → w0.heap.size ≤ j := fun j hj => (HOA.out.lt _ hj).1
              have HB2 := Lib.hid ((HB.out.trans (hba.mono HB.out.size)).grown hgrow2 (by simp; omega) hr)
              have hz2 : w0.heap.size ≤ w2.heap.size := HB2.out.size
              have HOW := Lib.hid hown2
              clear hba hown2 hgrow2 hr HO HOA x0 x1 y0 hz1 hz5
              go_wp2
              go_roundw
              case rel => exact ⟨p + 1, A', c', by omega, by go_num, by rw [HE.out, List.length_append]; rfl, Lib.hid (by rw [HE.out]; exact HOW.out), hz2, HB2⟩
              case measure => simp [intOf]; omega
            · have HE := Lib.hid (HNOT.out p v hv h0)
              have h0' : (v.k == 0) = false := beq_eq_false_iff_ne.2 h0
              clear hin5 hv P1
              go_wp2
              go_roundw
              case rel => exact ⟨p + 1, B, c, by omega, by go_num, by rw [HE.out], Lib.hid (by rw [HE.out]; exact HO.out), hsz, HB⟩
              case measure => simp [intOf]; omega
          · have hpt' : ¬ (p : Int) < cs.length := by omega
            have HE := Lib.hid (HNX.out p (by omega))
            clear P1
            go_wp2
            go_roundw
            case rel => exact ⟨k + 1, B, c, by omega, by go_num, by rw [HE.out], Lib.hid (by rw [← HE.out]; exact HO.out), hsz, HB⟩
            case measure => simp [intOf]; omega
      · have hlt' : ¬ (k : Int) < n := by omega
        have HE : Hid (Ce.holesAt m k [] 0 = Ce.holesK 0 m) := Lib.hid (Ce.holesAt_end (by rw [HN.out]; omega) [])
        clear mA
        go_wp2
        go_ret
        have hs0 := HSZ0.out
        refine ⟨⟨B, c, by rw [← HE.out]; rfl, ?_⟩, (HB0.out.trans (HB.out.mono HB0.out.size))⟩
        rw [← HE.out]
        exact Own.base_ HO.out (by omega)
end Go.Proofs.YtjldkndalcellaaGreatDoor

namespace Go.Proofs.YtjldkndalcellaaGreatDoor
open Go.RowKit Go.El
set_option maxRecDepth 100000 in
theorem pair_same (a b : Int) (W : World) : (Op.equalIn 10000 33 (.agg #[.int .i64 a, .int .i64 b]) (.agg #[.int .i64 a, .int .i64 b])).run Tryz.prog W = .ok true W := by
  have hc : Tryz.prog.cellsOf 3 = 1 := by kernel_rfl
  obtain ⟨i, hi⟩ := info_of_underlying Tryz.underlying3
  rw [run_equalIn_array W 9999 _ _ Tryz.underlying33 hi, hc]
  have h0 : ∀ c d, (part 3 #[.int .i64 c, .int .i64 d] 0).run Tryz.prog W = .ok (.int .i64 c) W := fun c d => by
    simp [part, isAgg, run_underlying Tryz.underlying3]
  have h1 : ∀ c d, (part 3 #[.int .i64 c, .int .i64 d] 1).run Tryz.prog W = .ok (.int .i64 d) W := fun c d => by
    simp [part, isAgg, run_underlying Tryz.underlying3]
  simp [Op.eqItems, List.range, List.range.loop, h0, h1, run_equalIn_int W 9998 _ _ _ _ _ Tryz.underlying3]
end Go.Proofs.YtjldkndalcellaaGreatDoor

namespace Go.Proofs.YtjldkndalcellaaGreatDoor
open Go.RowKit Go.El

set_option maxRecDepth 100000 in
set_option maxHeartbeats 4000000 in
theorem holes_any (m : Ce.Mem) (hm : Sz m) (A : Option Addr) (cap : Nat) (w : World) (h : MemAt w A m) :
    Calls Tryz.prog 13 #[.agg #[.slice A m.length cap]] w fun e w' => PairsIs (Ce.holes m) w w' e ∧ Below w.heap.size w w' := by
  have hm0 := hm.many
  have hml : (m.length : Int) ≤ 10000 := by omega
  have hb1 : Below w.heap.size w (w.alloc (Obj.cells #[.slice A m.length cap] 24)) := (Below.refl _ _).alloc (Nat.le_refl _) _
  have HS0 := Lib.hid ((h.stay.step hb1).and (box1 (W := w) (v := .slice A m.length cap) (t := 24)))
  have hcall := isMemory_any m hm A cap _ (h.below hb1)
  have HB0 := Lib.hid hb1
  cases hq : Ce.memOk m with
  | false =>
    rw [hq] at hcall
    rw [Ce.holes_not hq]
    have HC := Lib.hid hcall
    clear hcall hm h hb1 hq
    go_enter Tryz.func13, Tryz.ntmps13
    go_wp2_with fail
    refine HC.out.mono ?_
    rintro e w1 ⟨rfl, hb1⟩
    go_wp2
    go_ret
    exact ⟨⟨none, 0, rfl, Own.nil PairE 33 _ _⟩, HB0.out.trans (hb1.mono HB0.out.size)⟩
  | true =>
    rw [hq] at hcall
    rw [Ce.holes_ok hq]
    have HC := Lib.hid hcall
    have HSZ := Lib.hid hm.each
    have HLEN : Hid (∀ (k : Nat) (s : Ce.St) (p : Nat), m[k]? = some s → (Ce.holesAt m k s.cells p).length ≤ 40000) := Lib.hid fun k s p hs => Ce.holesAt_len hs hq
    have HVAL : Hid (∀ (k : Nat) (s : Ce.St), m[k]? = some s → ∀ (p : Nat) (v : Ce.V), s.cells[p]? = some v → isHoleB v = decide (v.k = 0)) := Lib.hid fun k s hs p v hv => Ce.isHole_kind (Ce.memOk_val hq hs hv)
    have HIH := Lib.hid (fun v W => isHole_any v W)
    generalize hn : m.length = n at *
    have HN := Lib.hid hn
    clear hcall hm h hb1 hq hn
    go_enter Tryz.func13, Tryz.ntmps13
    go_wp2_with fail
    refine HC.out.mono ?_
    rintro e w1 ⟨rfl, hb1⟩
    have HSZ0 : Hid ((w.alloc (Obj.cells #[.slice A n cap] 24)).heap.size = w.heap.size + 1) := Lib.hid (by simp)
    clear HC
    generalize w.alloc (Obj.cells #[.slice A n cap] 24) = w0 at *
    have HB1 := Lib.hid hb1
    have hsz1 := hb1.size
    clear hb1
    obtain ⟨_, x0⟩ := HS0.out w1 HB1.out
    go_wp2_with fail
    clear x0
    go_loopw [3, 14] (fun r i wr => ∃ (k : Nat) (B : Option Addr) (c : Nat), k ≤ n ∧ i = .int .i64 k ∧ r = .slice B (Ce.holesAt m k [] 0).length c ∧ Hid (PairE.Own 33 wr w0.heap.size B c (Ce.holesAt m k [] 0)) ∧ w0.heap.size ≤ wr.heap.size ∧ Hid (Below w0.heap.size w0 wr)) (fun _ i _ => n - (intOf i).toNat)
    case atStart => exact ⟨0, none, 0, Nat.zero_le _, rfl, by rw [Ce.holesAt_zero]; rfl, Lib.hid (by rw [Ce.holesAt_zero]; exact Own.nil PairE 33 _ _), hsz1, HB1⟩
    case round =>
      clear HB1 hsz1
      obtain ⟨k, B, c, hk, rfl, rfl, HO, hsz, HB⟩ := hrel
      by_cases hlt : k < n
      · have hlt' : (k : Int) < n := by omega
        obtain ⟨s, hs⟩ : ∃ x, m[k]? = some x := ⟨_, List.getElem?_eq_getElem (by rw [HN.out]; exact hlt)⟩
        obtain ⟨hsz1, _⟩ := HSZ.out k s hs
        obtain ⟨b1, o1, A1, c1, A2, c2, rfl, hz1, x1', x2', P1, _⟩ := MemAt.at' (HS0.out _ (Below.refl _ _)).1 hs
        have x1 := Stay.cell x1' wr HB.out
        have x2 := Stay.cell x2' wr HB.out
        clear x1' x2' hz1
        have HL1 := Lib.hid (fun p => HLEN.out k s p hs)
        have HNX := Lib.hid (fun p (hp : s.cells.length ≤ p) => Ce.holesAt_next hs hp [])
        have HST := Lib.hid (Ce.holesAt_start (m := m) (k := k) [] s.cells)
        have HV1 := Lib.hid (HVAL.out k s hs)
        have HA1 := Lib.hid (Arg.stay P1)
        obtain ⟨cs, ws⟩ := s
        dsimp only at hsz1 HL1 HNX HST HV1 HA1 x1 x2
        have HYES : Hid (∀ (p : Nat) (v : Ce.V), cs[p]? = some v → v.k = 0 → Ce.holesAt m k cs (p + 1) = Ce.holesAt m k cs p ++ [((k : Int), (p : Int))]) := Lib.hid fun p v h1 h2 => Ce.holesAt_yes h1 h2
        have HNOT : Hid (∀ (p : Nat) (v : Ce.V), cs[p]? = some v → v.k ≠ 0 → Ce.holesAt m k cs (p + 1) = Ce.holesAt m k cs p) := Lib.hid fun p v h1 h2 => Ce.holesAt_no h1 h2
        clear hs P1
        have hcl : (cs.length : Int) ≤ 10000 := by omega
        have hba : Below wr.heap.size wr (wr.alloc (.cells #[.slice A1 cs.length c1, .slice A2 ws.length c2] 61)) := (Below.refl _ _).alloc (Nat.le_refl _) _
        have HOA := Lib.hid (Own.below HO.out hba)
        have HBA := Lib.hid (HB.out.trans (hba.mono HB.out.size))
        have hsa := HBA.out.size
        clear hba HO HB hsz
        go_wp2_with fail
        clear x1 x2
        go_loopw [3, 22] (fun r j wv => ∃ (p : Nat) (B : Option Addr) (c : Nat), p ≤ cs.length ∧ j = .int .i64 p ∧ r = .slice B (Ce.holesAt m k cs p).length c ∧ Hid (PairE.Own 33 wv w0.heap.size B c (Ce.holesAt m k cs p)) ∧ w0.heap.size ≤ wv.heap.size ∧ Hid (Below w0.heap.size w0 wv) ) (fun _ j _ => cs.length - (intOf j).toNat)
        case atStart => exact ⟨0, B, c, Nat.zero_le _, rfl, by rw [← HST.out], Lib.hid (by rw [← HST.out]; exact HOA.out), hsa, HBA⟩
        case round =>
          clear HOA HBA hsa
          obtain ⟨p, B, c, hp, rfl, rfl, HO, hsz, HB⟩ := hrel
          have hl0 := HL1.out p
          by_cases hpt : p < cs.length
          · have hpt' : (p : Int) < cs.length := by omega
            obtain ⟨v, hv⟩ : ∃ x, cs[p]? = some x := ⟨_, List.getElem?_eq_getElem hpt⟩
            obtain ⟨b5, o5, rfl, hin5, hz5⟩ := (HA1.out _ HB.out).at_lt hpt
            obtain ⟨y0, y1⟩ := ValE.at2 hin5 hv
            have hvh := HV1.out p v hv
            have HY := Lib.hid (HYES.out p v hv)
            have HNO := Lib.hid (HNOT.out p v hv)
            obtain ⟨vk, vn⟩ := v
            dsimp only at y0 y1 hvh HY HNO
            have hba : Below wr.heap.size wr (wr.alloc (.cells #[.int .u8 vk, .int .i64 vn] 57)) := (Below.refl _ _).alloc (Nat.le_refl _) _
            have HOA := Lib.hid (Own.below HO.out hba)
            have HBA := Lib.hid (HB.out.trans (hba.mono HB.out.size))
            have hcv := HIH.out ⟨vk, vn⟩ (wr.alloc (.cells #[.int .u8 vk, .int .i64 vn] 57))
            rw [hvh] at hcv
            have HCV := Lib.hid hcv
            clear hin5 hv hvh hcv hba HO HB hsz
            by_cases h0 : vk = 0
            · have HE := Lib.hid (HY.out h0)
              rw [decide_eq_true h0] at HCV
              subst h0
              clear HY HNO
              go_wp2_with fail
              refine HCV.out.mono ?_
              rintro e w2 ⟨rfl, hb2⟩
              have HO2 := Lib.hid (Own.below HOA.out hb2)
              have HB2 := Lib.hid (HBA.out.trans (hb2.mono HBA.out.size))
              clear HOA HBA hb2 y0 y1 HCV
              generalize Ce.holesAt m k cs p = L at *
              have hba : Below w2.heap.size w2 (w2.alloc (.cells #[.int .i64 k, .int .i64 p] 33)) := (Below.refl _ _).alloc (Nat.le_refl _) _
              have HOA : Hid (PairE.Own 33 (w2.alloc (.cells #[.int .i64 k, .int .i64 p] 33)) w0.heap.size B c L) := Lib.hid (Own.below HO2.out hba)
              have HBA := Lib.hid (HB2.out.trans (hba.mono HB2.out.size))
              have hsa := HB2.out.size
              clear hba HO2 HB2
              go_wp2_with (at_builtin; refine wpList_append_one PairE _ rfl _ _ 30 33 rfl Tryz.underlying30 pr_info rfl w0.heap.size B c L ((k : Int), (p : Int)) w2.heap.size rfl rfl HOA.out (fun j u hj => by
                match j, hj with
                | 0, hj => simp [PairE] at hj; subst hj; exact cell_of_row _ _ 0 _ _ _ (heap_alloc_new w2 _)
                | 1, hj => simp [PairE] at hj; subst hj; exact cell_of_row _ _ 1 _ _ _ (heap_alloc_new w2 _)) (by omega) (by omega) (by simp; omega) ?_)
              intro A' c' w3 hown3 hgrow3
              have hr : ∀ j, (Value.slice B L.length c).ownBlock = some j → w0.heap.size ≤ j := fun j hj => (HOA.out.lt _ hj).1
              have HB3 := Lib.hid (HBA.out.grown hgrow3 (by simp; omega) hr)
              have hz3 : w0.heap.size ≤ w3.heap.size := HB3.out.size
              have HOW := Lib.hid hown3
              clear hown3 hgrow3 hr HBA HOA
              go_wp2
              go_roundw
              case rel => exact ⟨p + 1, A', c', by omega, by go_num, by rw [HE.out, List.length_append]; rfl, Lib.hid (by rw [HE.out]; exact HOW.out), hz3, HB3⟩
              case measure => simp [intOf]; omega
            · have HE := Lib.hid (HNO.out h0)
              rw [decide_eq_false h0] at HCV
              clear HY HNO
              go_wp2_with fail
              refine HCV.out.mono ?_
              rintro e w2 ⟨rfl, hb2⟩
              have HO2 := Lib.hid (Own.below HOA.out hb2)
              have HB2 := Lib.hid (HBA.out.trans (hb2.mono HBA.out.size))
              have hs2 := HB2.out.size
              clear HOA HBA hb2 y0 y1 HCV
              go_wp2
              go_roundw
              case rel => exact ⟨p + 1, B, c, by omega, by go_num, by rw [HE.out], Lib.hid (by rw [HE.out]; exact HO2.out), hs2, HB2⟩
              case measure => simp [intOf]; omega
          · have hpt' : ¬ (p : Int) < cs.length := by omega
            have HE := Lib.hid (HNX.out p (by omega))
            go_wp2
            go_roundw
            case rel => exact ⟨k + 1, B, c, by omega, by go_num, by rw [HE.out], Lib.hid (by rw [← HE.out]; exact HO.out), hsz, HB⟩
            case measure => simp [intOf]; omega
      · have hlt' : ¬ (k : Int) < n := by omega
        have HE : Hid (Ce.holesAt m k [] 0 = Ce.holesK 0 m) := Lib.hid (Ce.holesAt_end (by rw [HN.out]; omega) [])
        go_wp2
        go_ret
        have hs0 := HSZ0.out
        refine ⟨⟨B, c, by rw [← HE.out]; rfl, ?_⟩, (HB0.out.trans (HB.out.mono HB0.out.size))⟩
        rw [← HE.out]
        exact Own.base_ HO.out (by omega)
end Go.Proofs.YtjldkndalcellaaGreatDoor
