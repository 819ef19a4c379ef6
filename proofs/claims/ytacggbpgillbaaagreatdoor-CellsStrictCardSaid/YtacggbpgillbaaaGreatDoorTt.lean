/- Layer 6, the program: number. -/
import Derived.Test.YtacggbpgillbaaaGreatDoorTs
namespace Ce
theorem nodup_at {met : List Int} (hd : met.Nodup) {n : Int} {i j : Nat} (h1 : met[i]? = some n) (h2 : met[j]? = some n) : i = j := by
  obtain ⟨hi, _⟩ := List.getElem?_eq_some_iff.1 h1
  exact (List.getElem?_inj hi hd).1 (h1.trans h2.symm)
end Ce
namespace Go.Proofs.YtacggbpgillbaaaGreatDoor
open Go.RowKit Go.El

/-- all blocks are kept but those of drawings and of whole numbers -/
def Keeps2 (w w' : World) : Prop := ∀ T, T ≠ 174 → T ≠ 3 → KeepsT T w w'
theorem Keeps2.refl (w : World) : Keeps2 w w := fun T _ _ => KeepsT.refl T w
theorem Keeps2.trans {a b c : World} (h : Keeps2 a b) (k : Keeps2 b c) : Keeps2 a c := fun T h1 h2 => (h T h1 h2).trans (k T h1 h2)
theorem Keeps2.below {w w' : World} (h : Below w.heap.size w w') : Keeps2 w w' := fun _ _ _ => KeepsT.below h
theorem Keeps2.blk {w w' : World} (h : Keeps2 w w') {g : Nat} {T : TypeId} {cs : Array Value} (hb : Blk w g T cs) (h1 : T ≠ 174) (h2 : T ≠ 3) : Blk w' g T cs := h T h1 h2 _ _ _ hb
theorem Keeps2.own {α : Type} {K : El α} {T : TypeId} {w w' : World} {base cap : Nat} {A : Option Addr} {l : List α} (h : Keeps2 w w') (ho : K.Own T w base A cap l) (h1 : T ≠ 174) (h2 : T ≠ 3) : K.Own T w' base A cap l := Own.keepsT ho (h T h1 h2)
def DrawIs (w' : World) (base p b : Nat) (met : List Int) : Prop := ∃ M cm, DrawAt w' base p b M cm met
theorem zeroInt (w : World) : (zeroValue 3).run Tryz.prog w = .ok (.int .i64 0) w := by kernel_rfl
theorem num_look_in {W : World} {base p b : Nat} {M : Option Addr} {cm : Nat} {met : List Int} (h : DrawAt W base p b M cm met) (hd : met.Nodup) {n : Int} (hn : n ∈ met) :
    (Instr.lookup 172 (.map (some b)) (.int .i64 n) true).run Tryz.prog W = .ok (.tuple #[.int .i64 (Ce.place n met), .bool true]) W := by
  have := run_lookup_some (P := Tryz.prog) h.map Tryz.underlying172 Tryz.underlying3 (key := .int .i64 n) (v := .int .i64 (Ce.place n met)) rfl (nums_mem.2 ⟨n, _, (Ce.place_at met n hn).1, rfl⟩) (fun q hq e => by
    obtain ⟨n', i, hi, rfl⟩ := nums_mem.1 hq
    dsimp only at e ⊢
    injection e with _ e
    subst e
    rw [Ce.nodup_at hd hi (Ce.place_at met _ hn).1]) true
  exact this
theorem num_look_out {W : World} {base p b : Nat} {M : Option Addr} {cm : Nat} {met : List Int} (h : DrawAt W base p b M cm met) {n : Int} (hn : ¬ n ∈ met) :
    (Instr.lookup 172 (.map (some b)) (.int .i64 n) true).run Tryz.prog W = .ok (.tuple #[.int .i64 0, .bool false]) W := by
  have := run_lookup_none (P := Tryz.prog) h.map Tryz.underlying172 Tryz.underlying3 (zeroInt W) (key := .int .i64 n) rfl (fun q hq e => by
    obtain ⟨n', i, hi, rfl⟩ := nums_mem.1 hq
    dsimp only at e
    injection e with _ e
    subst e
    exact hn (List.mem_of_getElem? hi)) true
  exact this
set_option maxRecDepth 100000 in
set_option maxHeartbeats 2000000 in
theorem number_in (met : List Int) (n : Int) (hn : n ∈ met) (base p b : Nat) (M : Option Addr) (cm : Nat) (w : World) (hd : DrawAt w base p b M cm met) (hnd : met.Nodup) :
    Calls Tryz.prog 163 #[.pointer (some ⟨p, 0, none⟩), .int .i64 n] w fun e w' => e = .returned (.int .i64 (Ce.place n met)) ∧ w' = w := by
  have hrun := num_look_in hd hnd hn
  have c0 := hd.blk.cell 0
  have c1 := hd.blk.cell 1
  dsimp at c0 c1
  generalize Ce.place n met = q at *
  clear hd hn hnd
  go_enter Tryz.func163, Tryz.ntmps163
  go_wp2
  go_ret
  exact ⟨rfl, rfl⟩
set_option maxRecDepth 100000 in
set_option maxHeartbeats 4000000 in
theorem number_out (met : List Int) (n : Int) (hn : ¬ n ∈ met) (base p b : Nat) (M : Option Addr) (cm : Nat) (w : World) (hd : DrawAt w base p b M cm met) (hlen : met.length ≤ 100000) (hbw : base ≤ w.heap.size) :
    Calls Tryz.prog 163 #[.pointer (some ⟨p, 0, none⟩), .int .i64 n] w fun e w' => e = .returned (.int .i64 met.length) ∧ DrawIs w' base p b (met ++ [n]) ∧ Below base w w' ∧ Keeps2 w w' := by
  have hrun := num_look_out hd hn
  obtain ⟨w1, hup, hm1, hg1⟩ := run_update_new (P := Tryz.prog) (v := .int .i64 met.length) hd.map Tryz.underlying172 Tryz.underlying3 (key := .int .i64 n) rfl (fun q hq e => by
    obtain ⟨n', i, hi, rfl⟩ := nums_mem.1 hq
    dsimp only at e
    injection e with _ e
    subst e
    exact hn (List.mem_of_getElem? hi))
  rw [← nums_snoc] at hm1
  have c0 := hd.blk.cell 0
  have c1 := hd.blk.cell 1
  dsimp at c0 c1
  have hpb : some p ≠ some b := fun e => by
    obtain ⟨es, ck, hb, _⟩ := hd.map
    injection e with e
    have := hd.blk
    rw [Blk, e, hb] at this
    injection this with this
    cases this
  have hb1 := hd.blk.kept hg1 hpb
  have ho1 : IntE.Own 3 w1 base M cm met := hd.own.kept' hg1 (fun g e => by injection e with e; subst e; exact hd.own.ne_map hd.map)
  have d0 := hb1.cell 0
  have d1 := hb1.cell 1
  have df := hb1.frozen 1
  dsimp at d0 d1
  have hz1 := hg1.size
  have hB1 : Below base w w1 := below_of_grown hg1 hbw (fun k hk => by injection hk with hk; subst hk; exact hd.bb)
  have hK1 : Keeps2 w w1 := fun T _ _ => KeepsT.grown hg1 (fun r c f hr e => by
    injection hr with hr
    subst hr
    obtain ⟨es, ck, hb, _⟩ := hd.map
    rw [hb] at e
    injection e with e
    cases e)
  have hba : Below w1.heap.size w1 (w1.alloc (.cells #[.int .i64 n] 3)) := (Below.refl _ _).alloc (Nat.le_refl _) _
  have HOA := Lib.hid (ho1.below hba)
  have HPB := Lib.hid (hb1.below hba)
  have HM := Lib.hid (hm1.below hba hm1.lt)
  have HBA := Lib.hid (hB1.alloc (by omega) (.cells #[.int .i64 n] 3))
  have HKA := Lib.hid (hK1.trans (Keeps2.below hba))
  have HH := Lib.hid hd.pb
  have HH2 := Lib.hid hd.bb
  have hplt : p < w1.heap.size := hb1.lt
  have HPL := Lib.hid hplt
  have hlz : (met.length : Int) ≤ 100000 := by omega
  clear hd hn hm1 hg1 hpb hb1 ho1 hB1 hK1 hba
  go_enter Tryz.func163, Tryz.ntmps163
  go_wp2_with (at_builtin; refine wpList_append_one IntE _ rfl _ _ 70 3 rfl Tryz.underlying70 int_info rfl base M cm met n w1.heap.size rfl rfl HOA.out (fun j u hj => by
    match j, hj with
    | 0, hj => simp [IntE] at hj; subst hj; exact cell_of_row _ _ 0 _ _ _ (heap_alloc_new w1 _)) (by omega) (by omega) (by simp; omega) ?_)
  intro A' cap' w2 hown2 hgrow2
  have hne : some p ≠ (Value.slice M met.length cm).ownBlock := HOA.out.ne_blk HPB.out (by decide)
  have hb2 := HPB.out.kept hgrow2 hne
  have e1 := hb2.cell 1
  have ef := hb2.frozen 1
  dsimp at e1
  have hm2 := HM.out.grown hgrow2 (HOA.out.ne_map HM.out)
  have HB2 := Lib.hid ((HBA.out.grown hgrow2 (by simp; omega) (fun j hj => (HOA.out.lt j hj).1)).setCell (p := ⟨p, 1, none⟩) HH.out (.slice A' (met.length + 1) cap'))
  have HK2 : Hid (Keeps2 w (w2.setCell ⟨p, 1, none⟩ (.slice A' (met.length + 1) cap'))) := Lib.hid (HKA.out.trans (fun T t1 t2 => (KeepsT.grown hgrow2 (fun r c f hr e => by
    obtain ⟨c', hc⟩ := HOA.out.blk hr
    rw [hc] at e
    injection e with e
    injection e with _ ht
    exact t2 ht.symm)).trans (KeepsT.set (a := ⟨p, 1, none⟩) (v := .slice A' (met.length + 1) cap') (fun c f e => by
      have e' : w2.heap[p]? = some (.cells c T f) := e
      rw [show w2.heap[p]? = _ from hb2] at e'
      injection e' with e'
      injection e' with _ ht
      exact t1 ht.symm))))
  have HD2 : Hid (DrawAt (w2.setCell ⟨p, 1, none⟩ (.slice A' (met.length + 1) cap')) base p b A' cap' (met ++ [n])) := Lib.hid ⟨by simpa using hb2.set_ 1 (.slice A' (met.length + 1) cap'), hm2.cell (fun e => by
      dsimp only at e
      subst e
      obtain ⟨es, ck, hb, _⟩ := hm2
      rw [show w2.heap[b]? = _ from hb2] at hb
      injection hb with hb
      cases hb) _, hown2.keepsT (KeepsT.set (fun c f e => by
      have e' : w2.heap[p]? = some (.cells c 3 f) := e
      rw [show w2.heap[p]? = _ from hb2] at e'
      injection e' with e'
      injection e' with _ ht
      exact absurd ht (by decide))), HH.out, HH2.out⟩
  clear hb2 hm2 hown2 hgrow2 hne
  go_wp2
  go_ret
  exact ⟨rfl, ⟨_, _, HD2.out⟩, HB2.out, HK2.out⟩
theorem number_any (met : List Int) (n : Int) (base p b : Nat) (w : World) (hd : DrawIs w base p b met) (hnd : met.Nodup) (hlen : met.length ≤ 100000) (hbw : base ≤ w.heap.size) :
    Calls Tryz.prog 163 #[.pointer (some ⟨p, 0, none⟩), .int .i64 n] w fun e w' => e = .returned (.int .i64 (Ce.place n met)) ∧ DrawIs w' base p b (Ce.meet n met) ∧ Below base w w' ∧ Keeps2 w w' := by
  obtain ⟨M, cm, hd⟩ := hd
  by_cases hn : n ∈ met
  · rw [Ce.meet_in hn]
    refine (number_in met n hn base p b M cm w hd hnd).mono ?_
    rintro e w' ⟨rfl, rfl⟩
    exact ⟨rfl, ⟨M, cm, hd⟩, Below.refl _ _, Keeps2.refl _⟩
  · rw [Ce.meet_out hn, Ce.place_len met n hn]
    exact number_out met n hn base p b M cm w hd hlen hbw
end Go.Proofs.YtacggbpgillbaaaGreatDoor
