/- The walks of api.Keywords, api.Signs and newVocabulary, and what a vocabulary is in memory. -/
import Derived.Test.YtkhgmoljhehbnaaGreatDoorW4
import Derived.Maps.Own
import Derived.Maps.Views
namespace Go.Proofs.YtkhgmoljhehbnaaGreatDoor
open Go.RowKit

/-- a string as a value -/
def sv (l : Lx.B) : Value := .string ⟨l.toArray⟩
def strRow (ls : List Lx.B) : Array Value := (ls.map sv).toArray

theorem keywords_any (w : World) : Calls Tryz.prog 46 #[] w fun e w' => e = .returned (.slice (some ⟨w.heap.size, 0, none⟩) 24 24) ∧ w.alloc (.cells (strRow Lx.keywords) 9) = w' := by
  go_enter Tryz.func46, Tryz.ntmps46
  go_wp2
  go_ret
  exact ⟨rfl, rfl⟩

theorem signs_any (w : World) : Calls Tryz.prog 45 #[] w fun e w' => e = .returned (.slice (some ⟨w.heap.size, 0, none⟩) 26 26) ∧ w.alloc (.cells (strRow Lx.signs) 9) = w' := by
  go_enter Tryz.func45, Tryz.ntmps45
  go_wp2
  go_ret
  exact ⟨rfl, rfl⟩

def yes : DataW Unit := .lit (.bool true)
/-- the map of the first k keywords -/
def kwMap (k : Nat) : DataW Unit := Maps.setOf yes ((Lx.keywords.take k).map Lit.string)
theorem kwMap_succ (k : Nat) (h : k < 24) : kwMap (k + 1) = (kwMap k).put (.string (Lx.keywords[k]'(by simpa [Lx.keywords] using h))) yes := by
  unfold kwMap
  rw [List.take_succ_eq_append_getElem (by simpa [Lx.keywords] using h), List.map_append, List.map_singleton, Maps.setOf_snoc]

theorem Tryz.keys : Maps.Keyed Tryz.prog 9 := Maps.string_keyed Tryz.underlying9

abbrev KwMap (w : World) (b n k : Nat) : Prop := w.ownsMap (H := Unit) Tryz.prog 9 (plainElem Tryz.prog 4) b n (kwMap k)

structure Voc (w : World) (bm bs : Nat) : Prop where
  map : KwMap w bm 24 24
  signs : ∀ (j : Nat) t, Lx.signs[j]? = some t → w.cell? ⟨bs, j, none⟩ = some (sv t)
  lt : bs < w.heap.size

def vocV (bm bs : Nat) : Value := .agg #[.map (some bm), .slice (some ⟨bs, 0, none⟩) 26 26]

theorem grown_of_below {a w : World} (h : Below a.heap.size a w) (row : Option Nat) : a.grownBy w row := ⟨h.os, h.tape, h.output, h.size, fun i hi _ => h.block i hi⟩
theorem below_of_grown {a w : World} {row : Option Nat} (h : a.grownBy w row) {B : Nat} (hB : B ≤ a.heap.size) (hr : ∀ k, row = some k → B ≤ k) : Below B a w := (Below.refl _ _).grown h hB hr

theorem grownBy_setCell1 (w : World) (b o : Nat) (v : Value) : w.grownBy (w.setCell ⟨b, o, none⟩ v) (some b) :=
  ⟨rfl, rfl, rfl, by simp [World.setCell], fun k _ hk => Below.heap_setCell _ _ _ k (fun e => hk (by rw [e]))⟩

theorem Voc.grown {w w' : World} {bm bs : Nat} {row : Option Nat} (h : Voc w bm bs) (hg : w.grownBy w' row) (h1 : some bm ≠ row) (h2 : some bs ≠ row) : Voc w' bm bs :=
  ⟨h.map.kept hg h1, fun j t ht => hg.cell (h.signs j t ht) h2, Nat.lt_of_lt_of_le h.lt hg.size⟩
theorem Voc.below {w w' : World} {bm bs : Nat} (h : Voc w bm bs) (hb : Below w.heap.size w w') : Voc w' bm bs := h.grown (grown_of_below hb none) (by simp) (by simp)
theorem Voc.alloc {w : World} {bm bs : Nat} (h : Voc w bm bs) (o : Obj) : Voc (w.alloc o) bm bs := h.grown (World.grownBy_alloc w o none) (by simp) (by simp)
theorem Voc.mlt {w : World} {bm bs : Nat} (h : Voc w bm bs) : bm < w.heap.size := h.map.lt

theorem atKey_fold (u : DataW Unit) (k : Lit) (z : DataW Unit) : ∀ (acc : List Lit) (m : DataW Unit), Maps.IsMap m → (∀ x ∈ acc, WideAt.IsKeyLit x) →
    (acc.foldl (fun m x => m.put x u) m).atKey k z = if acc.any (fun x => x.sameKey k) then u else m.atKey k z
  | [], _, _, _ => by simp
  | x :: r, m, hm, h => by
    rw [List.foldl_cons, atKey_fold u k z r (m.put x u) (hm.put x u) (fun y hy => h y (by simp [hy])), List.any_cons]
    by_cases hx : x.sameKey k = true
    · obtain rfl := WideAt.sameKey_eq hx
      rw [Maps.atKey_put_same hm (h x (by simp))]
      simp [hx]
    · have hne : k ≠ x := fun e => hx (by subst e; have := h k (by simp); cases k <;> simp_all [Lit.sameKey, WideAt.IsKeyLit])
      rw [Maps.atKey_put_other hne]
      simp [hx]

theorem kw_at (l : Lx.B) : (kwMap 24).atKey (.string l) (.lit (.bool false)) = .lit (.bool (Lx.keywords.contains l)) := by
  unfold kwMap Maps.setOf
  rw [atKey_fold _ _ _ _ _ Maps.isMap_empty (fun x hx => by simp only [List.mem_map] at hx; obtain ⟨a, _, rfl⟩ := hx; trivial)]
  have e : ((Lx.keywords.take 24).map Lit.string).any (fun x => x.sameKey (.string l)) = Lx.keywords.contains l := by
    rw [List.any_map]
    rw [show Lx.keywords.take 24 = Lx.keywords from rfl, List.contains_eq_any_beq]
    congr 1
    funext x
    simp only [Function.comp, Lit.sameKey]
    exact BEq.comm
  rw [e]
  cases Lx.keywords.contains l <;> simp [yes, DataW.atKey]

theorem zero_bool (w : World) : (zeroValue 4).run Tryz.prog w = .ok (.bool false) w := by kernel_rfl

theorem plainElem_bool_inv {P : Program} {e : TypeId} (he : P.underlying e = some .bool) {v : Value} {z : DataW Unit × List MemPlace} (h : plainElem P e v = some z) : ∃ x, v = .bool x ∧ z = (.lit (.bool x), []) := by
  unfold plainElem at h
  rw [he] at h
  cases v <;> simp at h
  exact ⟨_, rfl, h.symm⟩

theorem lookV {P : Program} {w : World} {t k e : TypeId} {b n : Nat} {D : DataW Unit} {key : Value} {kl : Lit} {q : Bool} (h : w.ownsMap P k (plainElem P e) b n D) (K : Maps.Keyed P k) (ht : P.underlying t = some (.map k e)) (he : P.underlying e = some .bool)
    (hz : (zeroValue e).run P w = .ok (.bool false) w) (hkey : keyOf P k key = some kl) (hD : D.atKey kl (.lit (.bool false)) = .lit (.bool q)) : (Instr.lookup t (.map (some b)) key false).run P w = .ok (.bool q) w := by
  obtain ⟨v, ps, hrun, hv⟩ := h.lookup K ht hz (plainElem_bool he false) hkey
  obtain ⟨x, rfl, hx⟩ := plainElem_bool_inv he hv
  rw [hD] at hx
  simp only [Prod.mk.injEq, DataW.lit.injEq, Lit.bool.injEq] at hx
  rw [hrun, hx.1]

/-- a look-up in the vocabulary's map -/
theorem Voc.look {w : World} {bm bs : Nat} (h : Voc w bm bs) (t : ByteArray) (ht : t.size ≤ maxLen) :
    (Instr.lookup 56 (.map (some bm)) (.string t) false).run Tryz.prog w = .ok (.bool (Lx.keywords.contains t.data.toList)) w :=
  lookV h.map Tryz.keys Tryz.underlying56 Tryz.underlying4 (zero_bool w) (Go.WideMaps.keyOf_string_mk Tryz.underlying9 ht) (kw_at _)

def vocW0 (w : World) : World := ((((w.alloc (Obj.cells #[Value.map none, Value.slice none 0 0] 58)).alloc (Obj.map #[] 0)).alloc (Obj.cells (strRow Lx.signs) 9)).alloc
      (Obj.cells #[Value.map (some (w.heap.size + 1)), Value.slice (some { block := w.heap.size + 1 + 1, off := 0 }) 26 26] 58)).alloc (Obj.cells (strRow Lx.keywords) 9)

theorem kw_len : Lx.keywords.length = 24 := rfl
theorem kw_short : ∀ t ∈ Lx.keywords, t.length ≤ 12 := by decide
theorem strRow_get (ls : List Lx.B) (j : Nat) (t : Lx.B) (h : ls[j]? = some t) : (strRow ls)[j]? = some (.string ⟨t.toArray⟩) := by simp [strRow, h, sv]

theorem vocW0_facts (w : World) : (vocW0 w).cell? ⟨w.heap.size + 1 + 1 + 1, 0, none⟩ = some (.map (some (w.heap.size + 1))) ∧
    (vocW0 w).cell? ⟨w.heap.size + 1 + 1 + 1, 1, none⟩ = some (.slice (some { block := w.heap.size + 1 + 1, off := 0 }) 26 26) ∧
    (∀ j t, Lx.keywords[j]? = some t → (vocW0 w).cell? ⟨w.heap.size + 1 + 1 + 1 + 1, j, none⟩ = some (.string ⟨t.toArray⟩)) ∧
    (∀ j t, Lx.signs[j]? = some t → (vocW0 w).cell? ⟨w.heap.size + 1 + 1, j, none⟩ = some (sv t)) ∧ (vocW0 w).heap.size = w.heap.size + 5 ∧ KwMap (vocW0 w) (w.heap.size + 1) 0 0 ∧
    (vocW0 w).cell? ⟨w.heap.size, 0, none⟩ = some (.map none) ∧ (vocW0 w).cell? ⟨w.heap.size, 1, none⟩ = some (.slice none 0 0) ∧ Below w.heap.size w (vocW0 w) ∧ (∀ o, (vocW0 w).frozen? ⟨w.heap.size, o, none⟩ = false) := by
  unfold vocW0
  refine ⟨by simp [go_sem], by simp [go_sem], fun j t h => by simp [go_sem, strRow_get _ j t h], fun j t h => by simp [go_sem, strRow_get _ j t h, sv], by simp, ?_, by simp [go_sem], by simp [go_sem], ?_, fun o => by simp [go_sem]⟩
  · have h := World.ownsMap_made (H := Unit) (w.alloc (Obj.cells #[Value.map none, Value.slice none 0 0] 58)) Tryz.prog 9 (plainElem Tryz.prog 4)
    simp only [World.size_alloc] at h
    exact ((h.alloc _).alloc _).alloc _
  · exact (((((Below.refl _ _).alloc (Nat.le_refl _) _).alloc (by simp) _).alloc (by simp; omega) _).alloc (by simp; omega) _).alloc (by simp; omega) _

set_option maxHeartbeats 1000000 in
theorem newVocabulary_any (w : World) : Calls Tryz.prog 31 #[] w fun e w' => ∃ bm bs, e = .returned (vocV bm bs) ∧ Voc w' bm bs ∧ w.heap.size ≤ bm ∧ w.heap.size ≤ bs ∧ Below w.heap.size w w' := by
  have hmm := @run_makeMap Tryz.prog
  obtain ⟨f1, f2, f3, f4, f5, f6, f7, f8, f9, f10⟩ := vocW0_facts w
  have F3 := Lib.hid f3
  have F4 := Lib.hid f4
  have F5 := Lib.hid f5
  clear f3 f4 f5
  go_enter Tryz.func31, Tryz.ntmps31
  go_wp2_with (first | (go_at_call 45; refine (signs_any _).mono ?_; rintro e w' ⟨rfl, rfl⟩) | (go_at_call 46; refine (keywords_any _).mono ?_; rintro e w' ⟨rfl, rfl⟩))
  go_loopw [3, 9] (fun _ i wr => ∃ k : Nat, k ≤ 24 ∧ i = .int .i64 k ∧ KwMap wr (w.heap.size + 1) k k ∧ Hid ((vocW0 w).grownBy wr (some (w.heap.size + 1)))) (fun _ i _ => 24 - (intOf i).toNat)
  case atStart => exact ⟨0, Nat.zero_le _, rfl, f6, World.grownBy.refl (vocW0 w) _⟩
  case round =>
    obtain ⟨k, hk, rfl, hown, HG⟩ := hrel
    clear f6
    have c1 := HG.out.cell f1 (by simp; omega)
    by_cases hlt : k < 24
    · obtain ⟨t, ht⟩ : ∃ t, Lx.keywords[k]? = some t := ⟨_, List.getElem?_eq_getElem (by rw [kw_len]; exact hlt)⟩
      have htl := kw_short t (List.mem_of_getElem? ht)
      have c2 := HG.out.cell (F3.out k t ht) (by simp; omega)
      have hkey : keyOf Tryz.prog 9 (.string ⟨t.toArray⟩) = some (.string t) := Go.WideMaps.keyOf_string_mk (s := ⟨t.toArray⟩) Tryz.underlying9 (by show t.toArray.size ≤ _; simp only [List.size_toArray, maxLen]; omega)
      have HT := Lib.hid ht
      clear ht f1 f2 f7 f8 f9 f10
      have hkl : (k : Int) < 24 := by omega
      go_wp2_with (at_mapUpdate; refine wpList_mapUpdate_own _ rfl _ _ _ 56 rfl 9 4 Tryz.keys Tryz.underlying56 _ (w.heap.size + 1) k _ rfl hown (by simp only [maxLen]; omega) _ _ _ rfl rfl hkey yes [] (plainElem_bool Tryz.underlying4 true) ?_; intro w1 hown1 hgrow1)
      go_roundw
      case rel =>
        refine ⟨k + 1, by omega, by go_num, ?_, HG.out.trans hgrow1⟩
        have e : kwMap (k + 1) = (kwMap k).put (.string t) yes := by
          have h1 := HT.out
          have hl : k < Lx.keywords.length := by rw [kw_len]; exact hlt
          rw [List.getElem?_eq_getElem hl] at h1
          rw [kwMap_succ k hlt, ← Option.some.inj h1]
        unfold KwMap
        rw [e]
        exact hown1
      case measure => simp [intOf]; omega
    · have hk24 : k = 24 := by omega
      have H24 := Lib.hid hk24
      have hnl : ¬ (k : Int) < 24 := by omega
      clear hk24
      have fz : ∀ o, wr.frozen? ⟨w.heap.size, o, none⟩ = false := fun o => (World.frozen?_of_block (a := ⟨w.heap.size, o, none⟩) (HG.out.block _ (by show w.heap.size < _; have := F5.out; omega) (by simp))).trans (f10 o)
      have z0 := fz 0
      have z1 := fz 1
      have c2 := HG.out.cell f2 (by simp; omega)
      have c3 := HG.out.cell f7 (by simp)
      have c4 := HG.out.cell f8 (by simp)
      clear fz f10 hmm f1 f2 f7 f8
      go_wp2
      refine bodyPost_ret (v := vocV (w.heap.size + 1) (w.heap.size + 1 + 1)) ?_ rfl ?_
      · simp [results, Tryz.results31, go_sem, vocV, c3, c4]
      · have g2 : (vocW0 w).grownBy _ (some (w.heap.size + 1)) := HG.out
        have hz : w.heap.size + 5 ≤ wr.heap.size := by have := g2.size; have := F5.out; omega
        have hV : Voc wr (w.heap.size + 1) (w.heap.size + 1 + 1) := ⟨by have h := H24.out; subst h; exact hown, fun j t ht => g2.cell (F4.out j t ht) (by simp), by omega⟩
        refine ⟨_, _, rfl, ?_, by omega, by omega, ?_⟩
        · exact (hV.grown (grownBy_setCell1 wr _ _ _) (by simp) (by simp; omega)).grown (grownBy_setCell1 _ _ _ _) (by simp) (by simp; omega)
        · refine ((f9.trans ?_).setCell (by simp) _).setCell (by simp) _
          exact below_of_grown g2 (by have := F5.out; omega) (fun k hk => by cases hk; omega)

end Go.Proofs.YtkhgmoljhehbnaaGreatDoor
