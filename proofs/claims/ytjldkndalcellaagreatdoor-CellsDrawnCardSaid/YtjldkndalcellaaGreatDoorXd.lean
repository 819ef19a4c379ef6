/- Layer 6: a picture drawn again, with a structure more in front (plain). -/
import Derived.Test.YtjldkndalcellaaGreatDoorXc
import Derived.Test.YtjldkndalcellaaGreatDoorYl
namespace Ce
theorem place_up (n : Int) : ∀ (met : List Int), place (n + 1) (met.map (· + 1)) = place n met
  | [] => rfl
  | x :: r => by
    rw [List.map_cons, place, place, place_up n r]
    by_cases h : x = n
    · rw [if_pos h, if_pos (by omega)]
    · rw [if_neg h, if_neg (by omega)]
theorem renum_cons (v : V) (r : List V) (met : List Int) : renum (v :: r) met = (numV v met :: (renum r (meetV v met)).1, (renum r (meetV v met)).2) := by
  have := renum_append [v] r met
  rw [renum_one] at this
  exact this
theorem meet_up (n : Int) (met : List Int) : meet (n + 1) (met.map (· + 1)) = (meet n met).map (· + 1) := by
  unfold meet
  rw [place_up, List.length_map]
  by_cases h : place n met = met.length
  · rw [if_pos h, if_pos h, List.map_append]; rfl
  · rw [if_neg h, if_neg h]
theorem high_ref {v : V} (h : v.k = 4) : high v = ⟨4, v.n + 1⟩ := if_pos h
theorem high_not {v : V} (h : v.k ≠ 4) : high v = v := if_neg h
theorem numV_up (v : V) (met : List Int) : numV (high v) (met.map (· + 1)) = numV v met := by
  by_cases h : v.k = 4
  · rw [high_ref h]
    unfold numV
    dsimp only
    rw [if_pos rfl, if_pos h, place_up]
  · rw [high_not h]
    unfold numV
    rw [if_neg h, if_neg h]
theorem meetV_up (v : V) (met : List Int) : meetV (high v) (met.map (· + 1)) = (meetV v met).map (· + 1) := by
  by_cases h : v.k = 4
  · rw [high_ref h]
    unfold meetV
    dsimp only
    rw [if_pos rfl, if_pos h, meet_up]
  · rw [high_not h]
    unfold meetV
    rw [if_neg h, if_neg h]
theorem renum_up : ∀ (l : List V) (met : List Int), renum (l.map high) (met.map (· + 1)) = ((renum l met).1, (renum l met).2.map (· + 1))
  | [], met => rfl
  | v :: r, met => by
    rw [List.map_cons, renum_cons, renum_cons, numV_up, meetV_up, renum_up r]
/-- a memory with a structure more in front, and references one higher -/
def upM (m : Mem) : Mem := ⟨[vint 1], []⟩ :: m.map fun s => ⟨s.cells.map high, []⟩
theorem upM_len (m : Mem) : (upM m).length = m.length + 1 := by unfold upM; rw [List.length_cons, List.length_map]
theorem upM_at (m : Mem) (n : Int) (h : 0 ≤ n) : (stAt (upM m) (n + 1)).cells = (stAt m n).cells.map high := by
  obtain ⟨k, rfl⟩ := Int.eq_ofNat_of_zero_le h
  unfold stAt upM
  have e : ((k : Int) + 1).toNat = k + 1 := by omega
  rw [e, Int.toNat_natCast, List.getD_cons_succ, List.getD_eq_getElem?_getD, List.getD_eq_getElem?_getD, List.getElem?_map]
  cases m[k]? <;> rfl
theorem high_val {v : V} {many : Nat} (h : isValue v many = true) : isValue (high v) ((many + 1 : Nat) : Int) = true := by
  unfold high
  by_cases h4 : v.k = 4
  · rw [if_pos h4]
    unfold isValue at h ⊢
    rw [if_neg (by omega), if_neg (by omega), if_neg (by omega), if_neg (by omega), if_pos h4] at h
    dsimp only
    rw [if_neg (by decide), if_neg (by decide), if_neg (by decide), if_neg (by decide), if_pos rfl]
    simp at h ⊢
    omega
  · rw [if_neg h4]
    exact isValue_mono h (by omega) (by omega)
theorem high_vals {l : List V} {many : Nat} (h : areValues l many = true) : areValues (l.map high) ((many + 1 : Nat) : Int) = true := by
  unfold areValues at h ⊢
  rw [List.all_map, List.all_eq_true]
  exact fun v hv => high_val (List.all_eq_true.1 h v hv)
theorem reads_none : ∀ (m : Mem), (∀ s ∈ m, s.wait = []) → reads m = 0
  | [], _ => rfl
  | s :: r, h => by rw [reads, h s (by simp), reads_none r fun t ht => h t (by simp [ht])]; rfl
theorem upM_ok {m : Mem} (h : memOk m = true) (hl : m.length ≤ 399) : memOk (upM m) = true := by
  have hok := (ok_iff m).1 h
  have hr : reads (upM m) = 0 := reads_none _ fun s hs => by
    unfold upM at hs
    rw [List.mem_cons, List.mem_map] at hs
    rcases hs with rfl | ⟨t, _, rfl⟩ <;> rfl
  unfold memOk
  rw [hr, upM_len, decide_eq_true (by omega), Bool.true_and, Bool.and_eq_true]
  refine ⟨List.all_eq_true.2 fun s hs => ?_, rfl⟩
  unfold upM at hs
  rw [List.mem_cons, List.mem_map] at hs
  rcases hs with rfl | ⟨t, ht, rfl⟩
  · rfl
  · have := hok.each t ht
    unfold stOk at this ⊢
    rw [Bool.and_eq_true, Bool.and_eq_true, decide_eq_true_iff] at this
    dsimp only
    rw [List.length_map, decide_eq_true this.1.1, high_vals this.1.2]
    rfl
theorem drawK_fuel (m : Mem) (hok : Ok m) : ∀ (f k : Nat) (met : List Int), Below m.length met → met.Nodup → m.length ≤ k + f → drawK m (f + 1) k met = drawK m f k met
  | 0, k, met, hb, hd, h => by
    have := below_len hb hd
    rw [drawK_end (by omega), drawK_end (by omega)]
  | f + 1, k, met, hb, hd, h => by
    cases hn : met[k]? with
    | none => rw [drawK_end (List.getElem?_eq_none_iff.1 hn), drawK_end (List.getElem?_eq_none_iff.1 hn)]
    | some n =>
      rw [drawK_step hn, drawK_step hn]
      obtain ⟨h0, h1⟩ := hb n (List.mem_of_getElem? hn)
      have hg := stAt_get (m := m) (n := n) (by omega)
      have hs := hok.each _ (List.mem_of_getElem? hg)
      unfold stOk at hs
      rw [Bool.and_eq_true, Bool.and_eq_true] at hs
      obtain ⟨b2, d2⟩ := renum_ok (stAt m n).cells met hb hd hs.1.2
      rw [drawK_fuel m hok f (k + 1) _ b2 d2 (by omega)]
theorem drawK_up (m : Mem) (hok : Ok m) : ∀ (f k : Nat) (met : List Int), Below m.length met → met.Nodup → drawK (upM m) f k (met.map (· + 1)) = drawK m f k met
  | 0, _, _, _, _ => rfl
  | f + 1, k, met, hb, hd => by
    cases hn : met[k]? with
    | none =>
      have := List.getElem?_eq_none_iff.1 hn
      rw [drawK_end this, drawK_end (by rw [List.length_map]; exact this)]
    | some n =>
      have hn' : (met.map (· + 1))[k]? = some (n + 1) := by rw [List.getElem?_map, hn]; rfl
      rw [drawK_step hn, drawK_step hn']
      obtain ⟨h0, h1⟩ := hb n (List.mem_of_getElem? hn)
      have hg := stAt_get (m := m) (n := n) (by omega)
      have hs := hok.each _ (List.mem_of_getElem? hg)
      unfold stOk at hs
      rw [Bool.and_eq_true, Bool.and_eq_true] at hs
      obtain ⟨b2, d2⟩ := renum_ok (stAt m n).cells met hb hd hs.1.2
      rw [upM_at m n h0, renum_up, drawK_up m hok f (k + 1) _ b2 d2]
theorem drawn_up (m : Mem) (h : memOk m = true) (l : List V) (hv : areValues l m.length = true) : drawn (upM m) (l.map high) = drawn m l := by
  have hok := (ok_iff m).1 h
  obtain ⟨b2, d2⟩ := renum_ok l [] (fun n h => by cases h) List.nodup_nil hv
  have e := renum_up l []
  rw [List.map_nil] at e
  unfold drawn
  rw [e, upM_len]
  dsimp only
  rw [drawK_up m hok _ 0 _ b2 d2, drawK_fuel m hok m.length 0 _ b2 d2 (by omega)]
theorem isPic_parts {p : Pic} (h : isPic p = true) : memOk (memory p) = true ∧ p.vals.length ≤ 100 ∧ areValues p.vals p.cells.length = true ∧ drawn (memory p) p.vals = p := by
  unfold isPic at h
  rw [Bool.and_eq_true, Bool.and_eq_true, Bool.and_eq_true] at h
  exact ⟨h.1.1, of_decide_eq_true h.1.2.1, h.1.2.2, of_decide_eq_true h.2⟩
/-- the picture of a picture's values in its memory -/
theorem draw_self {p : Pic} (h : isPic p = true) : draw (memory p) p.vals = (p, 0) := by
  obtain ⟨h1, h2, h3, h4⟩ := isPic_parts h
  unfold draw
  rw [h1, decide_eq_true h2, memory_len, h3, h4]
  rfl
theorem draw_up {p : Pic} (h : isPic p = true) (hl : p.cells.length ≤ 399) : draw (upM (memory p)) (p.vals.map high) = (p, 0) := by
  obtain ⟨h1, h2, h3, h4⟩ := isPic_parts h
  have hm := memory_len p
  have h3' : areValues p.vals (memory p).length = true := by rw [hm]; exact h3
  have e := drawn_up (memory p) h1 p.vals h3'
  unfold draw
  rw [upM_ok h1 (by omega), upM_len, List.length_map, decide_eq_true h2, high_vals h3', e, h4]
  rfl
end Ce
