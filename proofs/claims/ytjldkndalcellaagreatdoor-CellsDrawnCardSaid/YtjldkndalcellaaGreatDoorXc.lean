/- Layer 6: the laws' higher: values whose references are one higher. -/
import Derived.Test.YtjldkndalcellaaGreatDoorWa
namespace Ce
/-- a reference one higher -/
def high (v : V) : V := if v.k = 4 then ⟨4, v.n + 1⟩ else v
def hiK (l : List V) (k : Nat) : List V := (l.take k).map high ++ l.drop k
theorem hiK_zero (l : List V) : hiK l 0 = l := by simp [hiK]
theorem hiK_end (l : List V) (k : Nat) (hk : l.length ≤ k) : hiK l k = l.map high := by unfold hiK; rw [List.take_of_length_le hk, List.drop_eq_nil_of_le hk, List.append_nil]
theorem hiK_len (l : List V) (k : Nat) (hk : k ≤ l.length) : (hiK l k).length = l.length := by unfold hiK; rw [List.length_append, List.length_map, List.length_take, List.length_drop]; omega
theorem hiK_at {l : List V} {k : Nat} {v : V} (h : l[k]? = some v) : (hiK l k)[k]? = some v ∧ (hiK l k).set k (high v) = hiK l (k + 1) := by
  have hk := (List.getElem?_eq_some_iff.1 h).1
  have hd : l.drop k = v :: l.drop (k + 1) := by
    obtain ⟨_, rfl⟩ := List.getElem?_eq_some_iff.1 h
    exact List.drop_eq_getElem_cons hk
  have hl : ((l.take k).map high).length = k := by rw [List.length_map, List.length_take]; omega
  unfold hiK
  refine ⟨?_, ?_⟩
  · rw [List.getElem?_append_right (by omega), hl, Nat.sub_self, hd]
    rfl
  · rw [hd, List.set_append_right _ _ (by omega), hl, Nat.sub_self, List.set_cons_zero, List.take_add_one, h, List.map_append, List.append_assoc]
    rfl
end Ce
namespace Go.Proofs.YtjldkndalcellaaGreatDoor
open Go.RowKit Go.El

set_option maxRecDepth 100000 in
set_option maxHeartbeats 2000000 in
theorem higher_any (l : List Ce.V) (hl : l.length ≤ 10000) (hb : ∀ v ∈ l, v.k = 4 → -1000000 ≤ v.n ∧ v.n ≤ 1000000) (A : Option Addr) (cap : Nat) (hA : A = none → cap = 0) (w : World) (h : ValE.Arg w A l) :
    Calls Tryz.prog 33 #[.slice A l.length cap] w fun e w' => (∃ B c, e = .returned (.slice B l.length c) ∧ ValE.Own 57 w' w.heap.size B c (l.map Ce.high)) ∧ Below w.heap.size w w' := by
  have HCL := Lib.hid (values_any l (by omega) A cap hA w h)
  have H0 := Lib.hid (Ce.hiK_zero l)
  have HE := Lib.hid (fun k hk => Ce.hiK_end l k hk)
  have HL := Lib.hid (fun k hk => Ce.hiK_len l k hk)
  have HAT := Lib.hid (fun k v hv => Ce.hiK_at (l := l) (k := k) (v := v) hv)
  have HBD : Hid (∀ (k : Nat) (v : Ce.V), l[k]? = some v → v.k = 4 → -1000000 ≤ v.n ∧ v.n ≤ 1000000) := Lib.hid fun k v hv => hb v (List.mem_of_getElem? hv)
  have hlz : (l.length : Int) ≤ 10000 := by omega
  clear h hb
  go_enter Tryz.func33, Tryz.ntmps33
  go_wp2_with fail
  refine HCL.out.mono ?_
  rintro e w1 ⟨⟨B, c, rfl, hown⟩, hb1⟩
  have HO1 : Hid (ValE.Own 57 w1 w.heap.size B c (Ce.hiK l 0)) := Lib.hid (by rw [H0.out]; exact hown)
  have HB1 := Lib.hid hb1
  have hz1 := hb1.size
  clear hown hb1 HCL H0
  go_wp2_with fail
  go_loopw [4] (fun i wr => ∃ k : Nat, k ≤ l.length ∧ i = .int .i64 k ∧ Hid (ValE.Own 57 wr w.heap.size B c (Ce.hiK l k)) ∧ Hid (Below w.heap.size w wr) ∧ w.heap.size ≤ wr.heap.size) (fun i _ => l.length - (intOf i).toNat)
  case atStart => exact ⟨0, Nat.zero_le _, rfl, HO1, HB1, hz1⟩
  case round =>
    clear HO1 HB1 hz1
    obtain ⟨k, hk, rfl, HO, HB, hz⟩ := hrel
    by_cases hlt : k < l.length
    · have hlt' : (k : Int) < l.length := by omega
      obtain ⟨v, hv⟩ : ∃ x, l[k]? = some x := ⟨_, List.getElem?_eq_getElem hlt⟩
      obtain ⟨hat, hset⟩ := HAT.out k v hv
      have hrl := HL.out k hk
      have hbd := HBD.out k v hv
      obtain ⟨g, rfl, hgb, hgl, hin⟩ := Own.in_ HO.out (by intro e; rw [e] at hrl; simp at hrl; omega)
      obtain ⟨x0, x1⟩ := ValE.at2 hin hat
      simp only [Nat.zero_add] at x0 x1
      have xf := World.ownsRow.frozenAt HO.out (k * 2 + 1)
      have HSET := Lib.hid hset
      have HA2 := Lib.hid hat
      clear hv hat hset hin
      obtain ⟨vk, vn⟩ := v
      dsimp only at x0 x1 hbd
      by_cases h4 : vk = 4
      · subst h4
        obtain ⟨b1, b2⟩ := hbd rfl
        have HO2 : Hid (ValE.Own 57 (wr.setCell ⟨g, k * 2 + 1, none⟩ (.int .i64 (vn + 1))) w.heap.size (some ⟨g, 0, none⟩) c (Ce.hiK l (k + 1))) := Lib.hid (by
          have := val_put1 HO.out HA2.out ⟨4, vn + 1⟩ rfl
          rw [show (⟨4, vn + 1⟩ : Ce.V) = Ce.high ⟨4, vn⟩ from rfl, HSET.out] at this
          exact this)
        have HB2 := Lib.hid (HB.out.setCell (p := ⟨g, k * 2 + 1, none⟩) hgb (.int .i64 (vn + 1)))
        have HZ2 : Hid (w.heap.size ≤ (wr.setCell ⟨g, k * 2 + 1, none⟩ (.int .i64 (vn + 1))).heap.size) := Lib.hid (by simp [World.setCell]; omega)
        have hw : IntKind.i64.wrap (vn + 1) = vn + 1 := by rw [IntKind.wrap_i64]; omega
        clear hbd
        go_wp2
        go_roundw
        case rel => exact ⟨k + 1, by omega, by go_num, HO2, HB2, HZ2.out⟩
        case measure => simp [intOf]; omega
      · have h4' : (vk == 4) = false := beq_eq_false_iff_ne.2 h4
        have HO2 : Hid (ValE.Own 57 wr w.heap.size (some ⟨g, 0, none⟩) c (Ce.hiK l (k + 1))) := Lib.hid (by
          have e : Ce.high ⟨vk, vn⟩ = ⟨vk, vn⟩ := by unfold Ce.high; rw [if_neg h4]
          rw [← HSET.out, e, set_same HA2.out]
          exact HO.out)
        clear hbd
        go_wp2
        go_roundw
        case rel => exact ⟨k + 1, by omega, by go_num, HO2, HB, hz⟩
        case measure => simp [intOf]; omega
    · have hlt' : ¬ (k : Int) < l.length := by omega
      have HO2 : Hid (ValE.Own 57 wr w.heap.size B c (l.map Ce.high)) := Lib.hid (by rw [← HE.out k (by omega)]; exact HO.out)
      have HLL : Hid ((l.map Ce.high).length = l.length) := Lib.hid (List.length_map _)
      clear HO
      go_wp2
      go_ret
      exact ⟨⟨B, c, by first | rfl | (congr 1), HO2.out⟩, HB.out⟩
end Go.Proofs.YtjldkndalcellaaGreatDoor
