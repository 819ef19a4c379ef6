/- Layer 6, the program: the text of a picture as far as it is written (a strings.Builder at the head of a struct): copyCheck, WriteByte, WriteString, Len, full, FormatBool. -/
import Derived.Test.YtacggbpgillbaaaGreatDoorTx2
import Derived.Lib.AppendStr
import Derived.Lib.UnsafeStr
import Derived.Lib.Builder
namespace Go.Proofs.YtacggbpgillbaaaGreatDoor
open Go.RowKit Go.El

def ByE : El UInt8 := { cells := fun c => [.int .u8 c.toNat], k := 1, pos := by decide, len := fun _ => rfl, one := fun x u hu => by simp at hu; subst hu; rfl }
theorem by_row (l : List UInt8) : ByE.row l = l.map fun c => .int .u8 c.toNat := by
  induction l with
  | nil => rfl
  | cons x r ih => rw [El.row_cons, ih]; rfl
/-- the state of a text -/
structure ShAt (W : World) (B b : Nat) (C : Option Addr) (nc cc : Nat) (l : List UInt8) : Prop where
  hB : B ≤ b
  ex : ∃ p A cap, Blk W b 152 #[p, .slice A l.length cap, .slice C nc cc] ∧ (p = .pointer none ∨ p = .pointer (some ⟨b, 0, none⟩)) ∧ ByE.Own 5 W B A cap l
/-- the same, its address laid -/
structure ShUsed (W : World) (B b : Nat) (C : Option Addr) (nc cc : Nat) (l : List UInt8) : Prop where
  hB : B ≤ b
  ex : ∃ A cap, Blk W b 152 #[.pointer (some ⟨b, 0, none⟩), .slice A l.length cap, .slice C nc cc] ∧ ByE.Own 5 W B A cap l
theorem ShUsed.at_ {W : World} {B b : Nat} {C : Option Addr} {nc cc : Nat} {l : List UInt8} (h : ShUsed W B b C nc cc l) : ShAt W B b C nc cc l := by
  obtain ⟨A, cap, h1, h2⟩ := h.ex
  exact ⟨h.hB, _, A, cap, h1, .inr rfl, h2⟩
theorem ShAt.below {W W' : World} {B b : Nat} {C : Option Addr} {nc cc : Nat} {l : List UInt8} (h : ShAt W B b C nc cc l) (hb : Below W.heap.size W W') : ShAt W' B b C nc cc l := by
  obtain ⟨p, A, cap, h1, h2, h3⟩ := h.ex
  exact ⟨h.hB, p, A, cap, h1.below hb, h2, Own.below h3 hb⟩
theorem ShAt.lt {W : World} {B b : Nat} {C : Option Addr} {nc cc : Nat} {l : List UInt8} (h : ShAt W B b C nc cc l) : b < W.heap.size := by
  obtain ⟨p, A, cap, h1, _⟩ := h.ex
  exact h1.lt
/-- all blocks are kept but those of texts and of bytes -/
def Keeps3 (w w' : World) : Prop := ∀ T, T ≠ 152 → T ≠ 5 → KeepsT T w w'
theorem Keeps3.refl (w : World) : Keeps3 w w := fun T _ _ => KeepsT.refl T w
theorem Keeps3.trans {a b c : World} (h : Keeps3 a b) (k : Keeps3 b c) : Keeps3 a c := fun T h1 h2 => (h T h1 h2).trans (k T h1 h2)
theorem Keeps3.below {w w' : World} (h : Below w.heap.size w w') : Keeps3 w w' := fun _ _ _ => KeepsT.below h
theorem Keeps3.blk {w w' : World} (h : Keeps3 w w') {g : Nat} {T : TypeId} {cs : Array Value} (hb : Blk w g T cs) (h1 : T ≠ 152) (h2 : T ≠ 5) : Blk w' g T cs := h T h1 h2 _ _ _ hb
theorem Keeps3.set {w : World} {b o : Nat} {v : Value} {cs : Array Value} (hb : Blk w b 152 cs) : Keeps3 w (w.setCell ⟨b, o, none⟩ v) := fun T h1 _ => KeepsT.set (fun c f e => by
  have e' : w.heap[b]? = some (.cells c T f) := e
  rw [show w.heap[b]? = _ from hb] at e'
  injection e' with e'
  injection e' with _ ht
  exact h1 ht.symm)
theorem Keeps3.grown {α : Type} {K : El α} {w w' : World} {base cap : Nat} {A : Option Addr} {l : List α} (ho : K.Own 5 w base A cap l) (hg : w.grownBy w' (Value.slice A l.length cap).ownBlock) : Keeps3 w w' := fun T _ h2 => KeepsT.grown hg (fun r c f hr e => by
  obtain ⟨c', hc⟩ := ho.blk hr
  rw [hc] at e
  injection e with e
  injection e with _ ht
  exact h2 ht.symm)

theorem sbld_info : (Tryz.prog.info? 150).map (·.size) = some 2 := by kernel_rfl
theorem sbld_lies : liesAt Tryz.prog Tryz.prog.depth 152 (3 / Tryz.prog.cellsOf 152) 0 150 1 = true := by kernel_rfl
theorem by_info : (Tryz.prog.info? 5).map (fun i => (i.zero, i.size, i.bytes)) = some (some (.int .u8 0), 1, 1) := by kernel_rfl

set_option maxRecDepth 100000 in
set_option maxHeartbeats 3000000 in
theorem scopyCheck_any (B b : Nat) (C : Option Addr) (nc cc : Nat) (l : List UInt8) (w : World) (h : ShAt w B b C nc cc l) :
    Calls Tryz.prog 166 #[.pointer (some ⟨b, 0, none⟩)] w fun e w' => e = .returned (.tuple #[]) ∧ ShUsed w' B b C nc cc l ∧ Below B w w' ∧ Keeps3 w w' := by
  obtain ⟨j, hj, hjs⟩ := Option.map_eq_some_iff.1 sbld_info
  obtain ⟨hB, p, A, cap, hbk, hp, hown⟩ := h
  rcases hp with rfl | rfl
  · have h0 := hbk.cell 0
    dsimp at h0
    have hsh : w.shape? b = some (152, 3) := by
      have : w.heap[b]? = _ := hbk
      simp [World.shape?, this]
    have hfz := hbk.frozen 0
    have HB := Lib.hid hbk
    have HO := Lib.hid hown
    clear hbk hown
    go_enter Tryz.func166, Tryz.ntmps166
    go_wp2
    rw [Lib.run_to_unsafe w ⟨b, 0, none⟩ Tryz.underlying148 Tryz.underlying212 hj (by rw [hjs]; decide) hsh (Nat.zero_lt_succ 2)]
    simp only [Result.andThen]
    rw [Oper.upon_value]
    go_wp2
    rw [run_callFunc_extern Tryz.func178 (by kernel_rfl) (by kernel_rfl) (by kernel_rfl) (e := Extern.AbiNoEscape.same) (by kernel_rfl)]
    rw [Lib.run_noEscape]
    simp only [Result.andThen]
    rw [Oper.upon_value]
    go_wp2
    rw [Lib.run_from_unsafe w ⟨b, 0, none⟩ Tryz.underlying212 Tryz.underlying148 hj hsh sbld_lies]
    simp only [Result.andThen]
    rw [Oper.upon_value]
    go_wp2
    go_end0
    refine ⟨rfl, ⟨hB, A, cap, HB.out.set_ 0 _, ?_⟩, (Below.refl B w).setCell (p := ⟨b, 0, none⟩) hB _, Keeps3.set HB.out⟩
    exact Own.keepsT HO.out (KeepsT.set (fun c f e => by
      have e' : w.heap[b]? = some (.cells c 5 f) := e
      rw [show w.heap[b]? = _ from HB.out] at e'
      injection e' with e'
      injection e' with _ ht
      exact absurd ht (by decide)))
  · have h0 := hbk.cell 0
    dsimp at h0
    have HB := Lib.hid hbk
    have HO := Lib.hid hown
    clear hbk hown
    go_enter Tryz.func166, Tryz.ntmps166
    go_wp2
    rw [Lib.run_neq_ptr_same w _ Tryz.underlying148 hj]
    go_wp2
    go_end0
    exact ⟨rfl, ⟨hB, A, cap, HB.out, HO.out⟩, Below.refl B _, Keeps3.refl _⟩

set_option maxRecDepth 100000 in
set_option maxHeartbeats 2000000 in
theorem swriteByte_any (B b : Nat) (C : Option Addr) (nc cc : Nat) (l : List UInt8) (c : UInt8) (w : World) (h : ShAt w B b C nc cc l) (hlen : l.length ≤ 1000000) (hBw : B ≤ w.heap.size) :
    Calls Tryz.prog 167 #[.pointer (some ⟨b, 0, none⟩), .int .u8 c.toNat] w fun e w' => e = .returned .nilIface ∧ ShAt w' B b C nc cc (l ++ [c]) ∧ Below B w w' ∧ Keeps3 w w' := by
  generalize hcn : (c.toNat : Int) = cn
  have HCN := Lib.hid hcn
  clear hcn
  have HCC := Lib.hid (scopyCheck_any B b C nc cc l w h)
  clear h
  go_enter Tryz.func167, Tryz.ntmps167
  go_wp2_with fail
  refine HCC.out.mono ?_
  rintro e w1 ⟨rfl, ⟨hB, A, cap, hbk, hown⟩, hb1, hk1⟩
  have c1 := hbk.cell 1
  dsimp at c1
  have hz := hb1.size
  have hba : Below w1.heap.size w1 (w1.alloc (.cells #[.int .u8 cn] 5)) := (Below.refl _ _).alloc (Nat.le_refl _) _
  have HOA := Lib.hid (Own.below hown hba)
  have HBA := Lib.hid (hbk.below hba)
  have hlz : (l.length : Int) ≤ 1000000 := by omega
  have HBL := Lib.hid hbk.lt
  have HBE := Lib.hid (hb1.alloc (by omega) (.cells #[.int .u8 cn] 5))
  have HKE := Lib.hid (hk1.trans (Keeps3.below hba))
  clear hbk hown hba hb1 hk1
  go_wp2_with (at_builtin; refine wpList_append_one ByE _ rfl _ _ 108 5 rfl Tryz.underlying108 by_info rfl B A cap l c w1.heap.size rfl rfl HOA.out (fun j u hj => by
    match j, hj with
    | 0, hj => simp [ByE] at hj; subst hj; rw [HCN.out]; exact cell_of_row _ _ 0 _ _ _ (heap_alloc_new w1 _)) (by omega) (by omega) (by simp; omega) ?_)
  intro A' cap' w2 hown2 hgrow2
  have hne : some b ≠ (Value.slice A l.length cap).ownBlock := Own.ne_blk HOA.out HBA.out (by decide)
  have hb2 := HBA.out.kept hgrow2 hne
  have d1 := hb2.cell 1
  have f1 := hb2.frozen 1
  dsimp at d1
  have HB3 := Lib.hid ((HBE.out.grown hgrow2 (by simp; omega) (fun j hj => (HOA.out.lt j hj).1)).setCell (p := ⟨b, 1, none⟩) hB (.slice A' (l.length + 1) cap'))
  have HK3 := Lib.hid ((HKE.out.trans (Keeps3.grown HOA.out hgrow2)).trans (Keeps3.set (o := 1) (v := .slice A' (l.length + 1) cap') hb2))
  have HS3 : Hid (ShAt (w2.setCell ⟨b, 1, none⟩ (.slice A' (l.length + 1) cap')) B b C nc cc (l ++ [c])) := Lib.hid ⟨hB, _, A', cap', by
    have := hb2.set_ 1 (.slice A' (l.length + 1) cap')
    simpa using this, .inr rfl, Own.keepsT hown2 (KeepsT.set (fun c f e => by
      have e' : w2.heap[b]? = some (.cells c 5 f) := e
      rw [show w2.heap[b]? = _ from hb2] at e'
      injection e' with e'
      injection e' with _ ht
      exact absurd ht (by decide)))⟩
  clear hb2 hown2 hgrow2 hne
  go_wp2
  go_ret
  exact ⟨rfl, HS3.out, HB3.out, HK3.out⟩

theorem own_of_cells {W : World} {B cap : Nat} {A : Option Addr} {l : List UInt8} {n : Nat} {xs : List Value} (hn : n = l.length) (hx : xs = ByE.row l) (h : W.ownsRow B 5 1 (.slice A n cap) n xs) : ByE.Own 5 W B A cap l := by
  subst hn hx
  exact h
set_option maxRecDepth 100000 in
set_option maxHeartbeats 2000000 in
theorem swriteString_any (B b : Nat) (C : Option Addr) (nc cc : Nat) (l t : List UInt8) (w : World) (h : ShAt w B b C nc cc l) (hlen : l.length + t.length ≤ 1000000) (hBw : B ≤ w.heap.size) :
    Calls Tryz.prog 147 #[.pointer (some ⟨b, 0, none⟩), .string ⟨t.toArray⟩] w fun e w' => (∃ n, e = .returned (.tuple #[.int .i64 n, .nilIface])) ∧ ShAt w' B b C nc cc (l ++ t) ∧ Below B w w' ∧ Keeps3 w w' := by
  obtain ⟨i0, hi, hz0, hz1, hz2⟩ := info_parts by_info
  have hts : (⟨t.toArray⟩ : ByteArray).size = t.length := by simp [ByteArray.size]
  have htc : Lib.strCells (⟨t.toArray⟩ : ByteArray) = ByE.row t := by rw [by_row]; rfl
  have HTS := Lib.hid hts
  have HTC := Lib.hid htc
  have HCC := Lib.hid (scopyCheck_any B b C nc cc l w h)
  generalize hS : (⟨t.toArray⟩ : ByteArray) = S at *
  clear h hts htc hS
  have hss : S.size ≤ 1000000 := by have := HTS.out; omega
  go_enter Tryz.func147, Tryz.ntmps147
  go_wp2_with fail
  refine HCC.out.mono ?_
  rintro e w1 ⟨rfl, ⟨hB, A, cap, hbk, hown⟩, hb1, hk1⟩
  have c1 := hbk.cell 1
  dsimp at c1
  have hz := hb1.size
  have HOA := Lib.hid hown
  have HBA := Lib.hid hbk
  have hlz : (l.length : Int) ≤ 1000000 := by omega
  have HBE := Lib.hid hb1
  have HKE := Lib.hid hk1
  clear hbk hown hb1 hk1
  go_wp2_with (at_builtin; refine Lib.wpList_append_own_string _ rfl _ _ 108 9 rfl B 5 i0 Tryz.underlying108 Tryz.underlying9 hi hz0 hz1 hz2 _ l.length (ByE.row l) rfl HOA.out S rfl (by unfold maxLen; have := HTS.out; omega) (by have := HTS.out; omega) (by omega) ?_)
  intro v' w2 hown2 hgrow2 _
  have hne : some b ≠ (Value.slice A l.length cap).ownBlock := Own.ne_blk HOA.out HBA.out (by decide)
  have hb2 := HBA.out.kept hgrow2 hne
  have d1 := hb2.cell 1
  have f1 := hb2.frozen 1
  dsimp at d1
  obtain ⟨A', cap', rfl⟩ : ∃ A' cap', v' = .slice A' (l.length + S.size) cap' := by
    rcases hown2.2 with ⟨hv, h0⟩ | ⟨g, cap', cur, hv, _⟩
    · exact ⟨none, 0, by rw [hv, h0]⟩
    · exact ⟨_, _, hv⟩
  have hown3 : ByE.Own 5 w2 B A' cap' (l ++ t) := own_of_cells (by rw [List.length_append, HTS.out]) (by rw [HTC.out, El.row_append]) hown2
  have HB3 := Lib.hid ((HBE.out.grown hgrow2 (by omega) (fun j hj => (HOA.out.lt j hj).1)).setCell (p := ⟨b, 1, none⟩) hB (.slice A' (l.length + S.size) cap'))
  have HK3 := Lib.hid ((HKE.out.trans (Keeps3.grown HOA.out hgrow2)).trans (Keeps3.set (o := 1) (v := .slice A' (l.length + S.size) cap') hb2))
  have HS3 : Hid (ShAt (w2.setCell ⟨b, 1, none⟩ (.slice A' (l.length + S.size) cap')) B b C nc cc (l ++ t)) := Lib.hid ⟨hB, _, A', cap', by
    have := hb2.set_ 1 (.slice A' (l.length + S.size) cap')
    rw [List.length_append, ← HTS.out]
    simpa using this, .inr rfl, Own.keepsT hown3 (KeepsT.set (fun c f e => by
      have e' : w2.heap[b]? = some (.cells c 5 f) := e
      rw [show w2.heap[b]? = _ from hb2] at e'
      injection e' with e'
      injection e' with _ ht
      exact absurd ht (by decide)))⟩
  clear hb2 hown2 hown3 hgrow2 hne
  go_wp2
  go_ret2
  exact ⟨⟨_, rfl⟩, HS3.out, HB3.out, HK3.out⟩

set_option maxHeartbeats 1000000 in
theorem sfull_any (B b : Nat) (C : Option Addr) (nc cc : Nat) (l : List UInt8) (w : World) (h : ShAt w B b C nc cc l) :
    Calls Tryz.prog 102 #[.pointer (some ⟨b, 0, none⟩)] w fun e w' => e = .returned (.bool (decide (2500 < l.length))) ∧ w = w' := by
  obtain ⟨_, p, A, cap, hbk, _, _⟩ := h
  have c1 := hbk.cell 1
  dsimp at c1
  clear hbk
  generalize l.length = n at *
  have hlen : Calls Tryz.prog 149 #[.pointer (some ⟨b, 0, none⟩)] w fun e w' => e = .returned (.int .i64 n) ∧ w = w' := by
    go_enter Tryz.func149, Tryz.ntmps149
    go_wp2
    go_ret
    exact ⟨rfl, rfl⟩
  have HL := Lib.hid hlen
  clear hlen c1
  by_cases h1 : 2500 < n
  · have h1' : (2500 : Int) < n := by omega
    rw [decide_eq_true h1]
    go_enter Tryz.func102, Tryz.ntmps102
    go_wp2_with fail
    refine HL.out.mono ?_
    rintro e w1 ⟨rfl, rfl⟩
    go_wp2
    go_ret
    exact ⟨rfl, rfl⟩
  · have h1' : decide ((2500 : Int) < n) = false := decide_eq_false (by omega)
    rw [decide_eq_false h1]
    clear h1
    go_enter Tryz.func102, Tryz.ntmps102
    go_wp2_with fail
    refine HL.out.mono ?_
    rintro e w1 ⟨rfl, rfl⟩
    go_wp2
    go_ret
    exact ⟨rfl, rfl⟩
def boolText (b : Bool) : List UInt8 := if b then [116, 114, 117, 101] else [102, 97, 108, 115, 101]
theorem formatBool_any (b : Bool) (w : World) : Calls Tryz.prog 169 #[.bool b] w fun e w' => e = .returned (.string ⟨(boolText b).toArray⟩) ∧ w = w' := by
  have hin : Calls Tryz.prog 180 #[.bool b] w fun e w' => e = .returned (.string ⟨(boolText b).toArray⟩) ∧ w = w' := by
    cases b with
    | true =>
      go_enter Tryz.func180, Tryz.ntmps180
      go_wp2
      go_ret
      exact ⟨rfl, rfl⟩
    | false =>
      go_enter Tryz.func180, Tryz.ntmps180
      go_wp2
      go_ret
      exact ⟨rfl, rfl⟩
  generalize (⟨(boolText b).toArray⟩ : ByteArray) = S at *
  have HI := Lib.hid hin
  clear hin
  go_enter Tryz.func169, Tryz.ntmps169
  go_wp2_with fail
  refine HI.out.mono ?_
  rintro e w1 ⟨rfl, rfl⟩
  go_wp2
  go_ret
  exact ⟨rfl, rfl⟩
end Go.Proofs.YtacggbpgillbaaaGreatDoor
