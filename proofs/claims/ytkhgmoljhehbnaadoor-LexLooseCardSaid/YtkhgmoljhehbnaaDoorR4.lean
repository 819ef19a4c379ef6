/- The walk of the reference's Sign. -/
import Derived.Test.YtkhgmoljhehbnaaDoorR3
namespace Go.Proofs.YtkhgmoljhehbnaaDoor
open Go.RowKit

/-- the best sign so far -/
def bestOf (l : Lx.B) (k : Nat) : Lx.B := ((Lx.signs.take k).find? (Lx.hasPrefix l)).getD []

theorem find_take_succ {p : Lx.B → Bool} (k : Nat) (t : Lx.B) (ht : Lx.signs[k]? = some t) : (Lx.signs.take (k + 1)).find? p = ((Lx.signs.take k).find? p).or (if p t then some t else none) := by
  have hl : k < Lx.signs.length := (List.getElem?_eq_some_iff.1 ht).1
  have he : Lx.signs[k] = t := (List.getElem?_eq_some_iff.1 ht).2
  rw [List.take_succ_eq_append_getElem hl, he, List.find?_append]
  congr 1
  simp [List.find?_cons]
  cases p t <;> rfl

theorem signs_desc : ∀ (i j : Nat) (a b : Lx.B), i < j → Lx.signs[i]? = some a → Lx.signs[j]? = some b → b.length ≤ a.length := by
  have h : Lx.signs.Pairwise (fun a b => b.length ≤ a.length) := by decide
  intro i j a b hij ha hb
  obtain ⟨h1, rfl⟩ := List.getElem?_eq_some_iff.1 ha
  obtain ⟨h2, rfl⟩ := List.getElem?_eq_some_iff.1 hb
  exact List.pairwise_iff_getElem.1 h i j h1 h2 hij
theorem signs_pos : ∀ t ∈ Lx.signs, 0 < t.length := by decide

/-- what is known of the best one before a step -/
theorem best_step (l : Lx.B) (k : Nat) (t : Lx.B) (ht : Lx.signs[k]? = some t) :
    (bestOf l k ≠ [] ∧ t.length ≤ (bestOf l k).length ∧ bestOf l (k + 1) = bestOf l k) ∨
    (bestOf l k = [] ∧ bestOf l (k + 1) = if Lx.hasPrefix l t then t else []) := by
  unfold bestOf
  rw [find_take_succ k t ht]
  cases h : (Lx.signs.take k).find? (Lx.hasPrefix l) with
  | none => right; simp; cases Lx.hasPrefix l t <;> simp
  | some a =>
    left
    have hm := List.mem_of_find?_eq_some h
    obtain ⟨i, hi, he⟩ := List.getElem_of_mem hm
    simp at hi
    rw [List.getElem_take] at he
    refine ⟨?_, ?_, by simp⟩
    · have := signs_pos a (List.mem_of_mem_take hm)
      intro e; simp at e; subst e; simp at this
    · exact signs_desc i k a t (by omega) (by rw [List.getElem?_eq_getElem (by omega), he]) ht

theorem best_all (l : Lx.B) : bestOf l 26 = (Lx.signOf Lx.signs l).getD [] := by
  unfold bestOf Lx.signOf
  rw [List.take_of_length_le (by decide)]

theorem hasPrefix_short (l t : Lx.B) (h : l.length < t.length) : Lx.hasPrefix l t = false := by
  unfold Lx.hasPrefix
  rw [beq_eq_false_iff_ne]
  intro e
  have := congrArg List.length e
  rw [List.length_take] at this
  omega

theorem slice_eq (s : ByteArray) (a n : Nat) (t : Lx.B) (hn : n = t.length) : ((s.extract a (a + n)).toList == t) = Lx.hasPrefix (s.data.toList.drop a) t := by
  subst hn
  unfold Lx.hasPrefix
  rw [Lib.extract_toList, show a + t.length - a = t.length from by omega]

def signV (_s : ByteArray) (a : Nat) (b : Lx.B) : Value := .tuple #[.agg #[.int .u8 4, sv b, .int .i64 a], .int .i64 ((a + b.length : Nat) : Int), .bool (!(b == []))]

theorem signV_eq (s b : ByteArray) (a : Nat) : signV s a b.data.toList = .tuple #[.agg #[.int .u8 4, .string b, .int .i64 a], .int .i64 ((a : Int) + b.size), .bool (!b.toList.isEmpty)] := by
  unfold signV
  rw [sv_data, ← Lib.size_eq, Lib.toList_data, Int.natCast_add]
  congr 5
  cases b.data.toList <;> rfl

set_option maxHeartbeats 2000000 in
theorem refSign_any (s : ByteArray) (hs : s.size ≤ 281474976710656) (a : Nat) (ha : a ≤ s.size) (w : World) :
    Calls Tryd.prog 74 #[.string s, .int .i64 a] w fun e w' => e = .returned (signV s a (bestOf (s.data.toList.drop a) 26)) ∧ Below w.heap.size w w' := by
  have hm : (s.size : Int) ≤ 281474976710656 := by omega
  have ham : (a : Int) ≤ s.size := by omega
  have hsl : s.data.toList.length = s.size := (Lib.size_eq s).symm
  have HSL := Lib.hid hsl
  clear hsl
  generalize hb26 : bestOf (s.data.toList.drop a) 26 = b26
  have H26 := Lib.hid hb26
  clear hb26
  go_enter Tryd.func74, Tryd.ntmps74
  go_wp2_with (go_at_call 78; refine (signs_any _).mono ?_; rintro e w' ⟨rfl, rfl⟩)
  go_loopw [7, 9, 10] (fun bst i _ wr => ∃ (k : Nat) (b : ByteArray), k ≤ 26 ∧ i = .int .i64 k ∧ bst = .string b ∧ b.size ≤ 2 ∧ Hid (bestOf (s.data.toList.drop a) k = b.data.toList) ∧ Below (w.heap.size + 2) ((w.alloc lexZero).alloc (.cells (strRow Lx.signs) 9)) wr) (fun _ i _ _ => 26 - (intOf i).toNat)
  case atStart => exact ⟨0, ⟨#[]⟩, Nat.zero_le _, rfl, rfl, Nat.zero_le _, rfl, Below.refl _ _⟩
  case round =>
    obtain ⟨k, b, hk, rfl, rfl, hbl, HB, hbw⟩ := hrel
    have hz := hbw.size
    simp only [World.size_alloc] at hz
    by_cases hlt : k < 26
    · obtain ⟨t, ht⟩ : ∃ t, Lx.signs[k]? = some t := ⟨_, List.getElem?_eq_getElem (by rw [show Lx.signs.length = 26 from rfl]; exact hlt)⟩
      obtain ⟨tb, htb⟩ : ∃ tb : ByteArray, tb = ⟨t.toArray⟩ := ⟨_, rfl⟩
      have htd : tb.data.toList = t := by subst htb; simp
      have hts : tb.size = t.length := by rw [Lib.size_eq, htd]
      have htl := signs_short t (List.mem_of_getElem? ht)
      have htp := signs_pos t (List.mem_of_getElem? ht)
      have hcell : wr.cell? ⟨w.heap.size + 1, k, none⟩ = some (.string tb) := by
        rw [(bcell hbw).1 _ _ (by omega), htb]
        simp [strRow_get _ k t ht]
      have hstep := best_step (s.data.toList.drop a) k t ht
      rw [HB.out] at hstep
      have hkl : (k : Int) < 26 := by omega
      have hk0 : (0 : Int) ≤ k := by omega
      have hbs := Lib.size_eq b
      have ht2 : tb.size ≤ 2 := by omega
      have ht0 : 0 < tb.size := by omega
      rw [← htd] at hstep
      rw [← hts] at htl htp
      clear ht htd htb hts
      rcases hstep with ⟨h1, h2, h3⟩ | ⟨h1, h2⟩
      · have H3 := Lib.hid h3
        have hle : ¬ (b.size : Int) < tb.size := by rw [Lib.size_eq tb]; omega
        have hd : decide ((b.size : Int) < tb.size) = false := by simpa using hle
        have hdn : decide (b.size < tb.size) = false := by simp; omega
        clear h1 h2 h3 hbs
        go_wp2_with fail
        go_quiet (fail)
        go_wp2
        go_roundw
        case rel => exact ⟨k + 1, b, by omega, by go_num, rfl, hbl, H3, below_drewN hbw _⟩
        case measure => simp [intOf]; omega
      · have hb0 : b.size = 0 := by rw [hbs, h1]; rfl
        have hlt' : (b.size : Int) < tb.size := by omega
        have hd : decide ((b.size : Int) < tb.size) = true := by simpa using hlt'
        have hdn : decide (b.size < tb.size) = true := by simp; omega
        have H2 := Lib.hid h2
        clear h1 h2 hbs
        by_cases hin : a + tb.size ≤ s.size
        · have hin' : (a : Int) + tb.size ≤ s.size := by omega
          have hd2 : decide ((a : Int) + tb.size ≤ s.size) = true := by simpa using hin'
          have ha0 : (0 : Int) ≤ a := by omega
          have ha1 : (a : Int) ≤ (a : Int) + tb.size := by omega
          have hwr : IntKind.i64.wrap ((a : Int) + tb.size) = (a : Int) + tb.size := IntWalk.i64_in _ (by omega)
          have htn : ((a : Int) + tb.size).toNat = a + tb.size := by omega
          have HE : Hid (((s.extract a (a + tb.size)).toList == tb.toList) = Lx.hasPrefix (s.data.toList.drop a) tb.data.toList) := by
            show _ = _
            rw [Lib.toList_data tb]
            exact slice_eq s a tb.size tb.data.toList (Lib.size_eq tb)
          cases hq : Lx.hasPrefix (s.data.toList.drop a) tb.data.toList
          · have he : ((s.extract a (a + tb.size)).toList == tb.toList) = false := by rw [HE.out]; exact hq
            have H3 : Hid (bestOf (s.data.toList.drop a) (k + 1) = b.data.toList) := by
              show _ = _
              rw [H2.out, if_neg (by rw [hq]; exact Bool.false_ne_true)]
              symm; apply List.eq_nil_of_length_eq_zero; rw [← Lib.size_eq]; exact hb0
            clear hq hb0
            go_wp2_with fail
            go_quiet (fail)
            go_wp2
            go_roundw
            case rel => exact ⟨k + 1, b, by omega, by go_num, rfl, hbl, H3, below_drewN hbw _⟩
            case measure => simp [intOf]; omega
          · have he : ((s.extract a (a + tb.size)).toList == tb.toList) = true := by rw [HE.out]; exact hq
            have H3 : Hid (bestOf (s.data.toList.drop a) (k + 1) = tb.data.toList) := by
              show _ = _
              rw [H2.out, if_pos hq]
            clear hq hb0
            go_wp2_with fail
            go_quiet (fail)
            go_wp2
            go_roundw
            case rel => exact ⟨k + 1, tb, by omega, by go_num, rfl, ht2, H3, below_drewN hbw _⟩
            case measure => simp [intOf]; omega
        · have hin' : ¬ (a : Int) + tb.size ≤ s.size := by omega
          have hd2 : decide ((a : Int) + tb.size ≤ s.size) = false := by simpa using hin'
          have hwr : IntKind.i64.wrap ((a : Int) + tb.size) = (a : Int) + tb.size := IntWalk.i64_in _ (by omega)
          have H3 : Hid (bestOf (s.data.toList.drop a) (k + 1) = b.data.toList) := by
            show _ = _
            rw [H2.out, hasPrefix_short _ _ (by rw [List.length_drop, HSL.out, ← Lib.size_eq]; omega), if_neg Bool.false_ne_true]
            symm; apply List.eq_nil_of_length_eq_zero; rw [← Lib.size_eq]; exact hb0
          clear hb0
          go_wp2_with fail
          go_quiet (fail)
          go_wp2
          go_roundw
          case rel => exact ⟨k + 1, b, by omega, by go_num, rfl, hbl, H3, below_drewN hbw _⟩
          case measure => simp [intOf]; omega
    · have hk26 : k = 26 := by omega
      have hkl : ¬ (k : Int) < 26 := by omega
      have HB2 : Hid (b26 = b.data.toList) := by show _ = _; rw [← H26.out, ← HB.out, hk26]
      clear hk26
      obtain ⟨z0, z1, z2, hB1⟩ := zero_cells (w := w) (w1 := wr) (by
        simp only [World.size_alloc]
        exact ((Below.refl _ _).alloc (by simp) _).trans (hbw.mono (by omega)))
      have f0 : wr.frozen? ⟨w.heap.size, 0, none⟩ = false := by rw [(bcell hbw).2 _ _ (by omega)]; simp
      have f1 : wr.frozen? ⟨w.heap.size, 1, none⟩ = false := by rw [(bcell hbw).2 _ _ (by omega)]; simp
      have f2 : wr.frozen? ⟨w.heap.size, 2, none⟩ = false := by rw [(bcell hbw).2 _ _ (by omega)]; simp
      have hbs : (b.size : Int) ≤ 2 := by omega
      go_wp2
      refine bodyPost_ret (v := .tuple #[.agg #[.int .u8 4, .string b, .int .i64 a], .int .i64 ((a : Int) + b.size), .bool (!b.toList.isEmpty)]) (by simp [results, Tryd.results74, go_sem, z0, z1, z2]) rfl ⟨by rw [HB2.out, signV_eq], ?_⟩
      exact ((hB1.setCell (by simp) _).setCell (by simp) _).setCell (by simp) _

end Go.Proofs.YtkhgmoljhehbnaaDoor
