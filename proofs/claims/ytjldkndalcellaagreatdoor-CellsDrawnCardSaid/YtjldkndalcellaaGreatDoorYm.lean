/- Layer 6, the program: the text of a picture as far as it is written (a strings.Builder at the head of a struct): copyCheck, WriteByte, WriteString, Len, full, FormatBool. Layer 6, the program: the text of a picture: value, structure, list, one in the other. Layer 6, the program: the text of a list; Show. Layer 6, the program: the text as a string. Layer 6, the program: Show. -/
import Derived.Test.YtjldkndalcellaaGreatDoorYl
import Derived.Lib.AppendStr
import Derived.Lib.UnsafeStr
import Derived.Lib.Builder
import Derived.Deep.DeepCutAuto
import Derived.Deep.RegionLaw
import Derived.Shelf.RegionOpenPlain
namespace Go.Proofs.YtjldkndalcellaaGreatDoor
open Go.RowKit Go.El

def ByE : El UInt8 := { cells := fun c => [.int .u8 c.toNat], k := 1, pos := by decide, len := fun _ => rfl, one := fun x u hu => by simp at hu; subst hu; rfl }
theorem by_row (l : List UInt8) : ByE.row l = l.map fun c => .int .u8 c.toNat := by
  induction l with
  | nil => rfl
  | cons x r ih => rw [El.row_cons, ih]; rfl
/-- the state of a text -/
structure ShAt (W : World) (B b : Nat) (C : Option Addr) (nc cc : Nat) (l : List UInt8) : Prop where
  hB : B ≤ b
  ex : ∃ p A cap, Blk W b 118 #[p, .slice A l.length cap, .slice C nc cc] ∧ (p = .pointer none ∨ p = .pointer (some ⟨b, 0, none⟩)) ∧ ByE.Own 5 W B A cap l
/-- the same, its address laid -/
structure ShUsed (W : World) (B b : Nat) (C : Option Addr) (nc cc : Nat) (l : List UInt8) : Prop where
  hB : B ≤ b
  ex : ∃ A cap, Blk W b 118 #[.pointer (some ⟨b, 0, none⟩), .slice A l.length cap, .slice C nc cc] ∧ ByE.Own 5 W B A cap l
theorem ShUsed.at_ {W : World} {B b : Nat} {C : Option Addr} {nc cc : Nat} {l : List UInt8} (h : ShUsed W B b C nc cc l) : ShAt W B b C nc cc l := by
  obtain ⟨A, cap, h1, h2⟩ := h.ex
  exact ⟨h.hB, _, A, cap, h1, .inr rfl, h2⟩
theorem ShAt.below {W W' : World} {B b : Nat} {C : Option Addr} {nc cc : Nat} {l : List UInt8} (h : ShAt W B b C nc cc l) (hb : Below W.heap.size W W') : ShAt W' B b C nc cc l := by
  obtain ⟨p, A, cap, h1, h2, h3⟩ := h.ex
  exact ⟨h.hB, p, A, cap, h1.below hb, h2, Own.below h3 hb⟩
theorem ShAt.lt {W : World} {B b : Nat} {C : Option Addr} {nc cc : Nat} {l : List UInt8} (h : ShAt W B b C nc cc l) : b < W.heap.size := by
  obtain ⟨p, A, cap, h1, _⟩ := h.ex
  exact h1.lt
/-- all blocks are kept but those of texts and of bytes -/
def Keeps3 (w w' : World) : Prop := ∀ T, T ≠ 118 → T ≠ 5 → KeepsT T w w'
theorem Keeps3.refl (w : World) : Keeps3 w w := fun T _ _ => KeepsT.refl T w
theorem Keeps3.trans {a b c : World} (h : Keeps3 a b) (k : Keeps3 b c) : Keeps3 a c := fun T h1 h2 => (h T h1 h2).trans (k T h1 h2)
theorem Keeps3.below {w w' : World} (h : Below w.heap.size w w') : Keeps3 w w' := fun _ _ _ => KeepsT.below h
theorem Keeps3.blk {w w' : World} (h : Keeps3 w w') {g : Nat} {T : TypeId} {cs : Array Value} (hb : Blk w g T cs) (h1 : T ≠ 118) (h2 : T ≠ 5) : Blk w' g T cs := h T h1 h2 _ _ _ hb
theorem Keeps3.set {w : World} {b o : Nat} {v : Value} {cs : Array Value} (hb : Blk w b 118 cs) : Keeps3 w (w.setCell ⟨b, o, none⟩ v) := fun T h1 _ => KeepsT.set (fun c f e => by
  have e' : w.heap[b]? = some (.cells c T f) := e
  rw [show w.heap[b]? = _ from hb] at e'
  injection e' with e'
  injection e' with _ ht
  exact h1 ht.symm)
theorem Keeps3.grown {α : Type} {K : El α} {w w' : World} {base cap : Nat} {A : Option Addr} {l : List α} (ho : K.Own 5 w base A cap l) (hg : w.grownBy w' (Value.slice A l.length cap).ownBlock) : Keeps3 w w' := fun T _ h2 => KeepsT.grown hg (fun r c f hr e => by
  obtain ⟨c', hc⟩ := ho.blk hr
  rw [hc] at e
  injection e with e
  injection e with _ ht
  exact h2 ht.symm)

theorem sbld_info : (Tryz.prog.info? 116).map (·.size) = some 2 := by kernel_rfl
theorem sbld_lies : liesAt Tryz.prog Tryz.prog.depth 118 (3 / Tryz.prog.cellsOf 118) 0 116 1 = true := by kernel_rfl
theorem by_info : (Tryz.prog.info? 5).map (fun i => (i.zero, i.size, i.bytes)) = some (some (.int .u8 0), 1, 1) := by kernel_rfl

set_option maxRecDepth 100000 in
set_option maxHeartbeats 3000000 in
theorem scopyCheck_any (B b : Nat) (C : Option Addr) (nc cc : Nat) (l : List UInt8) (w : World) (h : ShAt w B b C nc cc l) :
    Calls Tryz.prog 130 #[.pointer (some ⟨b, 0, none⟩)] w fun e w' => e = .returned (.tuple #[]) ∧ ShUsed w' B b C nc cc l ∧ Below B w w' ∧ Keeps3 w w' := by
  obtain ⟨j, hj, hjs⟩ := Option.map_eq_some_iff.1 sbld_info
  obtain ⟨hB, p, A, cap, hbk, hp, hown⟩ := h
  rcases hp with rfl | rfl
  · have h0 := hbk.cell 0
    dsimp at h0
    have hsh : w.shape? b = some (118, 3) := by
      have : w.heap[b]? = _ := hbk
      simp [World.shape?, this]
    have hfz := hbk.frozen 0
    have HB := Lib.hid hbk
    have HO := Lib.hid hown
    clear hbk hown
    go_enter Tryz.func130, Tryz.ntmps130
    go_wp2
    rw [Lib.run_to_unsafe w ⟨b, 0, none⟩ Tryz.underlying114 Tryz.underlying174 hj (by rw [hjs]; decide) hsh (Nat.zero_lt_succ 2)]
    simp only [Result.andThen]
    rw [Oper.upon_value]
    go_wp2
    rw [run_callFunc_extern Tryz.func141 (by kernel_rfl) (by kernel_rfl) (by kernel_rfl) (e := Extern.AbiNoEscape.same) (by kernel_rfl)]
    rw [Lib.run_noEscape]
    simp only [Result.andThen]
    rw [Oper.upon_value]
    go_wp2
    rw [Lib.run_from_unsafe w ⟨b, 0, none⟩ Tryz.underlying174 Tryz.underlying114 hj hsh sbld_lies]
    simp only [Result.andThen]
    rw [Oper.upon_value]
    go_wp2
    go_end0
    refine ⟨rfl, ⟨hB, A, cap, HB.out.set_ 0 _, ?_⟩, (Below.refl B w).setCell (p := ⟨b, 0, none⟩) hB _, Keeps3.set HB.out⟩
    exact Own.keepsT HO.out (KeepsT.set (fun c f e => by
      have e' : w.heap[b]? = some (.cells c 5 f) := e
      rw [show w.heap[b]? = _ from HB.out] at e'
      injection e' with e'
      injection e' with _ ht
      exact absurd ht (by decide)))
  · have h0 := hbk.cell 0
    dsimp at h0
    have HB := Lib.hid hbk
    have HO := Lib.hid hown
    clear hbk hown
    go_enter Tryz.func130, Tryz.ntmps130
    go_wp2
    rw [Lib.run_neq_ptr_same w _ Tryz.underlying114 hj]
    go_wp2
    go_end0
    exact ⟨rfl, ⟨hB, A, cap, HB.out, HO.out⟩, Below.refl B _, Keeps3.refl _⟩

set_option maxRecDepth 100000 in
set_option maxHeartbeats 2000000 in
theorem swriteByte_any (B b : Nat) (C : Option Addr) (nc cc : Nat) (l : List UInt8) (c : UInt8) (w : World) (h : ShAt w B b C nc cc l) (hlen : l.length ≤ 1000000) (hBw : B ≤ w.heap.size) :
    Calls Tryz.prog 131 #[.pointer (some ⟨b, 0, none⟩), .int .u8 c.toNat] w fun e w' => e = .returned .nilIface ∧ ShAt w' B b C nc cc (l ++ [c]) ∧ Below B w w' ∧ Keeps3 w w' := by
  generalize hcn : (c.toNat : Int) = cn
  have HCN := Lib.hid hcn
  clear hcn
  have HCC := Lib.hid (scopyCheck_any B b C nc cc l w h)
  clear h
  go_enter Tryz.func131, Tryz.ntmps131
  go_wp2_with fail
  refine HCC.out.mono ?_
  rintro e w1 ⟨rfl, ⟨hB, A, cap, hbk, hown⟩, hb1, hk1⟩
  have c1 := hbk.cell 1
  dsimp at c1
  have hz := hb1.size
  have hba : Below w1.heap.size w1 (w1.alloc (.cells #[.int .u8 cn] 5)) := (Below.refl _ _).alloc (Nat.le_refl _) _
  have HOA := Lib.hid (Own.below hown hba)
  have HBA := Lib.hid (hbk.below hba)
  have hlz : (l.length : Int) ≤ 1000000 := by omega
  have HBL := Lib.hid hbk.lt
  have HBE := Lib.hid (hb1.alloc (by omega) (.cells #[.int .u8 cn] 5))
  have HKE := Lib.hid (hk1.trans (Keeps3.below hba))
  clear hbk hown hba hb1 hk1
  go_wp2_with (at_builtin; refine wpList_append_one ByE _ rfl _ _ 100 5 rfl Tryz.underlying100 by_info rfl B A cap l c w1.heap.size rfl rfl HOA.out (fun j u hj => by
    match j, hj with
    | 0, hj => simp [ByE] at hj; subst hj; rw [HCN.out]; exact cell_of_row _ _ 0 _ _ _ (heap_alloc_new w1 _)) (by omega) (by omega) (by simp; omega) ?_)
  intro A' cap' w2 hown2 hgrow2
  have hne : some b ≠ (Value.slice A l.length cap).ownBlock := Own.ne_blk HOA.out HBA.out (by decide)
  have hb2 := HBA.out.kept hgrow2 hne
  have d1 := hb2.cell 1
  have f1 := hb2.frozen 1
  dsimp at d1
  have HB3 := Lib.hid ((HBE.out.grown hgrow2 (by simp; omega) (fun j hj => (HOA.out.lt j hj).1)).setCell (p := ⟨b, 1, none⟩) hB (.slice A' (l.length + 1) cap'))
  have HK3 := Lib.hid ((HKE.out.trans (Keeps3.grown HOA.out hgrow2)).trans (Keeps3.set (o := 1) (v := .slice A' (l.length + 1) cap') hb2))
  have HS3 : Hid (ShAt (w2.setCell ⟨b, 1, none⟩ (.slice A' (l.length + 1) cap')) B b C nc cc (l ++ [c])) := Lib.hid ⟨hB, _, A', cap', by
    have := hb2.set_ 1 (.slice A' (l.length + 1) cap')
    simpa using this, .inr rfl, Own.keepsT hown2 (KeepsT.set (fun c f e => by
      have e' : w2.heap[b]? = some (.cells c 5 f) := e
      rw [show w2.heap[b]? = _ from hb2] at e'
      injection e' with e'
      injection e' with _ ht
      exact absurd ht (by decide)))⟩
  clear hb2 hown2 hgrow2 hne
  go_wp2
  go_ret
  exact ⟨rfl, HS3.out, HB3.out, HK3.out⟩

theorem own_of_cells {W : World} {B cap : Nat} {A : Option Addr} {l : List UInt8} {n : Nat} {xs : List Value} (hn : n = l.length) (hx : xs = ByE.row l) (h : W.ownsRow B 5 1 (.slice A n cap) n xs) : ByE.Own 5 W B A cap l := by
  subst hn hx
  exact h
set_option maxRecDepth 100000 in
set_option maxHeartbeats 2000000 in
theorem swriteString_any (B b : Nat) (C : Option Addr) (nc cc : Nat) (l t : List UInt8) (w : World) (h : ShAt w B b C nc cc l) (hlen : l.length + t.length ≤ 1000000) (hBw : B ≤ w.heap.size) :
    Calls Tryz.prog 112 #[.pointer (some ⟨b, 0, none⟩), .string ⟨t.toArray⟩] w fun e w' => (∃ n, e = .returned (.tuple #[.int .i64 n, .nilIface])) ∧ ShAt w' B b C nc cc (l ++ t) ∧ Below B w w' ∧ Keeps3 w w' := by
  obtain ⟨i0, hi, hz0, hz1, hz2⟩ := info_parts by_info
  have hts : (⟨t.toArray⟩ : ByteArray).size = t.length := by simp [ByteArray.size]
  have htc : Lib.strCells (⟨t.toArray⟩ : ByteArray) = ByE.row t := by rw [by_row]; rfl
  have HTS := Lib.hid hts
  have HTC := Lib.hid htc
  have HCC := Lib.hid (scopyCheck_any B b C nc cc l w h)
  generalize hS : (⟨t.toArray⟩ : ByteArray) = S at *
  clear h hts htc hS
  have hss : S.size ≤ 1000000 := by have := HTS.out; omega
  go_enter Tryz.func112, Tryz.ntmps112
  go_wp2_with fail
  refine HCC.out.mono ?_
  rintro e w1 ⟨rfl, ⟨hB, A, cap, hbk, hown⟩, hb1, hk1⟩
  have c1 := hbk.cell 1
  dsimp at c1
  have hz := hb1.size
  have HOA := Lib.hid hown
  have HBA := Lib.hid hbk
  have hlz : (l.length : Int) ≤ 1000000 := by omega
  have HBE := Lib.hid hb1
  have HKE := Lib.hid hk1
  clear hbk hown hb1 hk1
  go_wp2_with (at_builtin; refine Lib.wpList_append_own_string _ rfl _ _ 100 9 rfl B 5 i0 Tryz.underlying100 Tryz.underlying9 hi hz0 hz1 hz2 _ l.length (ByE.row l) rfl HOA.out S rfl (by unfold maxLen; have := HTS.out; omega) (by have := HTS.out; omega) (by omega) ?_)
  intro v' w2 hown2 hgrow2 _
  have hne : some b ≠ (Value.slice A l.length cap).ownBlock := Own.ne_blk HOA.out HBA.out (by decide)
  have hb2 := HBA.out.kept hgrow2 hne
  have d1 := hb2.cell 1
  have f1 := hb2.frozen 1
  dsimp at d1
  obtain ⟨A', cap', rfl⟩ : ∃ A' cap', v' = .slice A' (l.length + S.size) cap' := by
    rcases hown2.2 with ⟨hv, h0⟩ | ⟨g, cap', cur, hv, _⟩
    · exact ⟨none, 0, by rw [hv, h0]⟩
    · exact ⟨_, _, hv⟩
  have hown3 : ByE.Own 5 w2 B A' cap' (l ++ t) := own_of_cells (by rw [List.length_append, HTS.out]) (by rw [HTC.out, El.row_append]) hown2
  have HB3 := Lib.hid ((HBE.out.grown hgrow2 (by omega) (fun j hj => (HOA.out.lt j hj).1)).setCell (p := ⟨b, 1, none⟩) hB (.slice A' (l.length + S.size) cap'))
  have HK3 := Lib.hid ((HKE.out.trans (Keeps3.grown HOA.out hgrow2)).trans (Keeps3.set (o := 1) (v := .slice A' (l.length + S.size) cap') hb2))
  have HS3 : Hid (ShAt (w2.setCell ⟨b, 1, none⟩ (.slice A' (l.length + S.size) cap')) B b C nc cc (l ++ t)) := Lib.hid ⟨hB, _, A', cap', by
    have := hb2.set_ 1 (.slice A' (l.length + S.size) cap')
    rw [List.length_append, ← HTS.out]
    simpa using this, .inr rfl, Own.keepsT hown3 (KeepsT.set (fun c f e => by
      have e' : w2.heap[b]? = some (.cells c 5 f) := e
      rw [show w2.heap[b]? = _ from hb2] at e'
      injection e' with e'
      injection e' with _ ht
      exact absurd ht (by decide)))⟩
  clear hb2 hown2 hown3 hgrow2 hne
  go_wp2
  go_ret2
  exact ⟨⟨_, rfl⟩, HS3.out, HB3.out, HK3.out⟩

set_option maxHeartbeats 1000000 in
theorem sfull_any (B b : Nat) (C : Option Addr) (nc cc : Nat) (l : List UInt8) (w : World) (h : ShAt w B b C nc cc l) :
    Calls Tryz.prog 70 #[.pointer (some ⟨b, 0, none⟩)] w fun e w' => e = .returned (.bool (decide (2500 < l.length))) ∧ w = w' := by
  obtain ⟨_, p, A, cap, hbk, _, _⟩ := h
  have c1 := hbk.cell 1
  dsimp at c1
  clear hbk
  generalize l.length = n at *
  have hlen : Calls Tryz.prog 114 #[.pointer (some ⟨b, 0, none⟩)] w fun e w' => e = .returned (.int .i64 n) ∧ w = w' := by
    go_enter Tryz.func114, Tryz.ntmps114
    go_wp2
    go_ret
    exact ⟨rfl, rfl⟩
  have HL := Lib.hid hlen
  clear hlen c1
  by_cases h1 : 2500 < n
  · have h1' : (2500 : Int) < n := by omega
    rw [decide_eq_true h1]
    go_enter Tryz.func70, Tryz.ntmps70
    go_wp2_with fail
    refine HL.out.mono ?_
    rintro e w1 ⟨rfl, rfl⟩
    go_wp2
    go_ret
    exact ⟨rfl, rfl⟩
  · have h1' : decide ((2500 : Int) < n) = false := decide_eq_false (by omega)
    rw [decide_eq_false h1]
    clear h1
    go_enter Tryz.func70, Tryz.ntmps70
    go_wp2_with fail
    refine HL.out.mono ?_
    rintro e w1 ⟨rfl, rfl⟩
    go_wp2
    go_ret
    exact ⟨rfl, rfl⟩
def boolText (b : Bool) : List UInt8 := if b then [116, 114, 117, 101] else [102, 97, 108, 115, 101]
theorem formatBool_any (b : Bool) (w : World) : Calls Tryz.prog 133 #[.bool b] w fun e w' => e = .returned (.string ⟨(boolText b).toArray⟩) ∧ w = w' := by
  have hin : Calls Tryz.prog 143 #[.bool b] w fun e w' => e = .returned (.string ⟨(boolText b).toArray⟩) ∧ w = w' := by
    cases b with
    | true =>
      go_enter Tryz.func143, Tryz.ntmps143
      go_wp2
      go_ret
      exact ⟨rfl, rfl⟩
    | false =>
      go_enter Tryz.func143, Tryz.ntmps143
      go_wp2
      go_ret
      exact ⟨rfl, rfl⟩
  generalize (⟨(boolText b).toArray⟩ : ByteArray) = S at *
  have HI := Lib.hid hin
  clear hin
  go_enter Tryz.func133, Tryz.ntmps133
  go_wp2_with fail
  refine HI.out.mono ?_
  rintro e w1 ⟨rfl, rfl⟩
  go_wp2
  go_ret
  exact ⟨rfl, rfl⟩
end Go.Proofs.YtjldkndalcellaaGreatDoor

namespace Ce
/-- written as far as the text is not too long -/
def Wr (bs T bs' : List UInt8) : Prop := bs' = bs ++ T ∨ (2500 < bs'.length ∧ 2500 < (bs ++ T).length)
theorem Wr.nil (bs : List UInt8) : Wr bs [] bs := .inl (List.append_nil _).symm
theorem Wr.more {bs T U a b : List UInt8} (h : Wr bs T a) (k : Wr a U b) (hle : a.length ≤ b.length) : Wr bs (T ++ U) b := by
  rcases h with rfl | ⟨h1, h2⟩
  · rcases k with rfl | ⟨k1, k2⟩
    · exact .inl (by rw [List.append_assoc])
    · exact .inr ⟨k1, by rw [← List.append_assoc]; exact k2⟩
  · exact .inr ⟨by omega, by rw [← List.append_assoc, List.length_append]; omega⟩
theorem Wr.exact (bs T : List UInt8) : Wr bs T (bs ++ T) := .inl rfl
theorem Wr.full {bs T U a : List UInt8} (h : Wr bs T a) (hf : 2500 < a.length) : Wr bs (T ++ U) a := by
  refine .inr ⟨hf, ?_⟩
  rw [← List.append_assoc, List.length_append]
  rcases h with rfl | ⟨_, h2⟩
  · omega
  · omega
theorem Wr.short {bs T a : List UInt8} (h : Wr bs T a) (hf : ¬ 2500 < a.length) : a = bs ++ T := by
  rcases h with h | ⟨h1, _⟩
  · exact h
  · exact absurd h1 hf
theorem joinT_snoc (f : V → List UInt8) : ∀ (l : List V) (v : V), joinT f (l ++ [v]) = joinT f l ++ ((if l = [] then [] else [44, 32]) ++ f v)
  | [], v => rfl
  | [x], v => by simp [joinT]
  | x :: y :: r, v => by
    have ih := joinT_snoc f (y :: r) v
    rw [List.cons_append] at ih
    rw [if_neg (by simp)] at ih ⊢
    have h1 : joinT f (x :: y :: (r ++ [v])) = f x ++ [44, 32] ++ joinT f (y :: (r ++ [v])) := rfl
    have h2 : joinT f (x :: y :: r) = f x ++ [44, 32] ++ joinT f (y :: r) := rfl
    rw [List.cons_append, List.cons_append, h1, h2, ih]
    simp only [List.append_assoc]
theorem joinT_step (f : V → List UInt8) {l : List V} {k : Nat} {v : V} (h : l[k]? = some v) : joinT f (l.take (k + 1)) = joinT f (l.take k) ++ ((if k = 0 then [] else [44, 32]) ++ f v) := by
  have hk := (List.getElem?_eq_some_iff.1 h).1
  rw [List.take_add_one, h, Option.toList_some, joinT_snoc]
  by_cases h0 : k = 0
  · subst h0; simp
  · rw [if_neg h0, if_neg (by intro e; have := congrArg List.length e; rw [List.length_take, List.length_nil] at this; omega)]
theorem joinT_rest (f : V → List UInt8) (l : List V) : ∀ (j k : Nat), l.length = k + j → ∃ U, joinT f l = joinT f (l.take k) ++ U
  | 0, k, h => ⟨[], by rw [List.take_of_length_le (by omega), List.append_nil]⟩
  | j + 1, k, h => by
    have hx : l[k]? = some l[k] := List.getElem?_eq_getElem (by omega)
    obtain ⟨U, hU⟩ := joinT_rest f l j (k + 1) (by omega)
    rw [joinT_step f hx] at hU
    exact ⟨_, by rw [hU, List.append_assoc]⟩
end Ce
namespace Go.Proofs.YtjldkndalcellaaGreatDoor
open Go.RowKit Go.El

/-- what a piece of the text leaves -/
def WrPost (w0 : World) (b : Nat) (C : Option Addr) (nc cc : Nat) (bs T : List UInt8) (bound : Nat) (w w' : World) : Prop :=
  (∃ bs', ShAt w' w0.heap.size b C nc cc bs' ∧ Ce.Wr bs T bs' ∧ bs.length ≤ bs'.length ∧ bs'.length ≤ max bs.length bound) ∧ Below w0.heap.size w w' ∧ Keeps3 w w'
/-- a value that can be shown without a table -/
def Shown (nc : Nat) (v : Ce.V) : Prop := Ce.isValue v nc = true ∧ v.k ≠ 1 ∧ v.k ≠ 5
def ListC (p : Ce.Pic) (w0 : World) (b : Nat) (C : Option Addr) (cc d : Nat) : Prop := ∀ (l : List Ce.V) (A : Option Addr) (cap : Nat) (bs : List UInt8) (w : World), Below w0.heap.size w0 w → l.length ≤ 1000 → (∀ v ∈ l, Shown p.cells.length v) → ValE.Arg w0 A l → ShAt w w0.heap.size b C p.cells.length cc bs → bs.length ≤ 2600 →
  Calls Tryz.prog 69 #[.pointer (some ⟨b, 0, none⟩), .slice A l.length cap, .int .i64 d] w fun e w' => e = .returned (.tuple #[]) ∧ WrPost w0 b C p.cells.length cc bs (Ce.joinT (Ce.text p d) l) (2520 + d) w w'
def StructC (p : Ce.Pic) (w0 : World) (b : Nat) (C : Option Addr) (cc d : Nat) : Prop := ∀ (n : Nat) (bs : List UInt8) (w : World), Below w0.heap.size w0 w → n < p.cells.length → ShAt w w0.heap.size b C p.cells.length cc bs → bs.length ≤ 2502 →
  Calls Tryz.prog 134 #[.pointer (some ⟨b, 0, none⟩), .int .i64 n, .int .i64 d] w fun e w' => e = .returned (.tuple #[]) ∧ WrPost w0 b C p.cells.length cc bs (Ce.text p d (Ce.vref n)) (2520 + d) w w'
def ValC (p : Ce.Pic) (w0 : World) (b : Nat) (C : Option Addr) (cc d : Nat) : Prop := ∀ (v : Ce.V) (bs : List UInt8) (w : World), Below w0.heap.size w0 w → Shown p.cells.length v → ShAt w w0.heap.size b C p.cells.length cc bs → bs.length ≤ 2502 →
  Calls Tryz.prog 113 #[.pointer (some ⟨b, 0, none⟩), .agg #[.int .u8 v.k, .int .i64 v.n], .int .i64 d] w fun e w' => e = .returned (.tuple #[]) ∧ WrPost w0 b C p.cells.length cc bs (Ce.text p d v) (2520 + d) w w'

set_option maxRecDepth 100000 in
set_option maxHeartbeats 2000000 in
theorem struct_zero (p : Ce.Pic) (w0 : World) (b : Nat) (C : Option Addr) (cc : Nat) : StructC p w0 b C cc 0 := by
  intro n bs w hb hn hs hl
  have hT : Ce.text p 0 (Ce.vref n) = [46, 46] := rfl
  rw [hT]
  have HW := Lib.hid (swriteString_any w0.heap.size b C p.cells.length cc bs [46, 46] w hs (by simp; omega) hb.size)
  generalize p.cells.length = nc at *
  clear hs hT
  go_enter Tryz.func134, Tryz.ntmps134
  go_wp2_with fail
  refine HW.out.mono ?_
  rintro e w1 ⟨⟨m, rfl⟩, hs1, hb1, hk1⟩
  have HP : Hid (WrPost w0 b C nc cc bs [46, 46] (2520 + 0) w w1) := Lib.hid ⟨⟨_, hs1, Ce.Wr.exact _ _, by simp, by simp; omega⟩, hb1, hk1⟩
  clear hs1 hb1 hk1
  go_wp2
  first | go_end0 | refine bodyPost_ret (results_none rfl _ _ _) rfl ?_
  exact ⟨rfl, HP.out⟩

set_option maxRecDepth 100000 in
set_option maxHeartbeats 4000000 in
theorem struct_succ (p : Ce.Pic) (w0 : World) (b : Nat) (C : Option Addr) (cc d : Nat) (hd : d ≤ 12) (hC : LsAt w0 C p.cells) (hlen : ∀ s ∈ p.cells, s.length ≤ 1000) (hall : ∀ s ∈ p.cells, ∀ v ∈ s, Shown p.cells.length v) (hL : ListC p w0 b C cc d) : StructC p w0 b C cc (d + 1) := by
  intro n bs w hb hn hs hl
  obtain ⟨s, hsn⟩ : ∃ s, p.cells[n]? = some s := ⟨_, List.getElem?_eq_getElem hn⟩
  have hT : Ce.text p (d + 1) (Ce.vref n) = [91] ++ Ce.joinT (Ce.text p d) s ++ [93] := by
    rw [Ce.text]
    rw [if_neg (by simp [Ce.vref]), if_neg (by simp [Ce.vref]), if_neg (by simp [Ce.vref]), if_neg (by simp [Ce.vref]), if_pos (by simp [Ce.vref])]
    have : p.cells.getD (Ce.vref n).n.toNat [] = s := by
      simp [Ce.vref, List.getD_eq_getElem?_getD, hsn]
    rw [this]
  rw [hT]
  have hms : s ∈ p.cells := List.mem_of_getElem? hsn
  obtain ⟨bc, oc, A1, c1, rfl, hbc, y0, P1⟩ := hC.at_ hsn
  have HY := Lib.hid y0
  have HLI := Lib.hid (fun bs' W hbW hsW hlW => hL s A1 c1 bs' W hbW (hlen s hms) (hall s hms) P1.arg hsW hlW)
  have HW1 := Lib.hid (swriteByte_any w0.heap.size b (some ⟨bc, oc, none⟩) p.cells.length cc bs 91 w hs (by omega) hb.size)
  have HW2 := Lib.hid (fun bs' W hsW hl' hbW => swriteByte_any w0.heap.size b (some ⟨bc, oc, none⟩) p.cells.length cc bs' 93 W hsW hl' hbW)
  have hn0 : (0 : Int) ≤ (n : Int) := by omega
  have hn1 : (n : Int) < (p.cells.length : Int) := by omega
  have hdz : ((d : Int) + 1 == 0) = false := beq_eq_false_iff_ne.2 (by omega)
  have hdd : IntKind.i64.wrap ((d : Int) + 1 - 1) = d := by rw [IntKind.wrap_i64]; omega
  have hdw : IntKind.i64.wrap (d : Int) = d := by rw [IntKind.wrap_i64]; omega
  have HB := Lib.hid hb
  have HS := Lib.hid hs
  have hd12 : (d : Int) ≤ 12 := by omega
  generalize Ce.joinT (Ce.text p d) s = J at *
  generalize p.cells.length = nc at *
  clear hT hsn hms hL hlen hall hC P1 y0 hb hs
  have hcast : ((d + 1 : Nat) : Int) = (d : Int) + 1 := by omega
  rw [hcast]
  clear hcast
  go_enter Tryz.func134, Tryz.ntmps134
  go_wp2_with fail
  refine HW1.out.mono ?_
  rintro e w1 ⟨rfl, hs1, hb1, hk1⟩
  have HB1 := Lib.hid (HB.out.trans hb1)
  have HS1 := Lib.hid hs1
  have HK1 := Lib.hid hk1
  have HBL1 := Lib.hid hb1
  obtain ⟨_, pp, AA, capp, hbk, _, _⟩ := hs1
  have c2 := hbk.cell 2
  dsimp at c2
  have y1 := ((bcell HB1.out).1 _ _ hbc).trans HY.out
  clear hb1 hk1 hbk
  go_wp2_with fail
  refine (HLI.out (bs ++ [91]) _ HB1.out HS1.out (by simp; omega)).mono ?_
  rintro e w2 ⟨rfl, ⟨bs2, hs2, hwr2, hle2, hmx2⟩, hb2, hk2⟩
  have hmx : bs2.length ≤ 2520 + d := by simp at hmx2; omega
  simp only [List.length_append, List.length_singleton] at hle2
  have HB2 := Lib.hid (HB1.out.trans hb2)
  have HP2 : Hid (ShAt w2 w0.heap.size b (some ⟨bc, oc, none⟩) nc cc bs2 ∧ Ce.Wr (bs ++ [91]) J bs2) := Lib.hid ⟨hs2, hwr2⟩
  have HBL2 := Lib.hid (HBL1.out.trans hb2)
  have HK2 := Lib.hid (HK1.out.trans hk2)
  clear c2 y1 hs2 hwr2 hb2 hk2 hmx2
  go_wp2_with fail
  refine (HW2.out bs2 _ HP2.out.1 (by omega) HB2.out.size).mono ?_
  rintro e w3 ⟨rfl, hs3, hb3, hk3⟩
  have HP : Hid (WrPost w0 b (some ⟨bc, oc, none⟩) nc cc bs ([91] ++ J ++ [93]) (2520 + (d + 1)) w w3) := Lib.hid ⟨⟨_, hs3, by
    have h1 := ((Ce.Wr.exact bs [91]).more HP2.out.2 (by simp; omega)).more (Ce.Wr.exact bs2 [93]) (by simp)
    exact h1, by simp; omega, by simp; omega⟩, HBL2.out.trans hb3, HK2.out.trans hk3⟩
  clear hs3 hb3 hk3
  go_wp2
  first | go_end0 | refine bodyPost_ret (results_none rfl _ _ _) rfl ?_
  exact ⟨rfl, HP.out⟩

set_option maxRecDepth 100000 in
set_option maxHeartbeats 4000000 in
theorem value_of_struct (p : Ce.Pic) (w0 : World) (b : Nat) (C : Option Addr) (cc d : Nat) (hS : StructC p w0 b C cc d) : ValC p w0 b C cc d := by
  intro v bs w hb hv hs hl
  obtain ⟨k, n⟩ := v
  obtain ⟨hv1, hv2, hv3⟩ := hv
  dsimp only at hv2 hv3 ⊢
  have hba : Below w.heap.size w (w.alloc (.cells #[.int .u8 k, .int .i64 n] 57)) := (Below.refl _ _).alloc (Nat.le_refl _) _
  have hb0 : Below w0.heap.size w (w.alloc (.cells #[.int .u8 k, .int .i64 n] 57)) := hba.mono hb.size
  have HBE := Lib.hid (hb.trans hb0)
  have HB0 := Lib.hid hb0
  have HK0 := Lib.hid (Keeps3.below hba)
  have HS0 := Lib.hid (hs.below hba)
  have HBX := Lib.hid (Blk.new w 57 #[.int .u8 k, .int .i64 n])
  have HWS := Lib.hid (fun t (ht : t.length ≤ 10) => swriteString_any w0.heap.size b C p.cells.length cc bs t _ HS0.out (by omega) HBE.out.size)
  have HFIN : Hid (∀ t w1, t.length ≤ 10 → ShAt w1 w0.heap.size b C p.cells.length cc (bs ++ t) → Below w0.heap.size (w.alloc (.cells #[.int .u8 k, .int .i64 n] 57)) w1 → Keeps3 (w.alloc (.cells #[.int .u8 k, .int .i64 n] 57)) w1 → WrPost w0 b C p.cells.length cc bs t (2520 + d) w w1) := Lib.hid fun t w1 ht h1 h2 h3 =>
    ⟨⟨_, h1, Ce.Wr.exact _ _, by simp, by simp; omega⟩, HB0.out.trans h2, HK0.out.trans h3⟩
  clear hba hb0 hs hb
  by_cases h0 : k = 0
  · subst h0
    have hT : Ce.text p d ⟨0, n⟩ = [63] := by rw [Ce.text.eq_def]; simp
    rw [hT]
    have HW := Lib.hid (swriteByte_any w0.heap.size b C p.cells.length cc bs 63 _ HS0.out (by omega) HBE.out.size)
    generalize p.cells.length = nc at *
    clear hT hv1 hS HWS
    go_enter Tryz.func113, Tryz.ntmps113
    go_wp2_with fail
    refine HW.out.mono ?_
    rintro e w1 ⟨rfl, hs1, hb1, hk1⟩
    have HP := Lib.hid (HFIN.out [63] w1 (by simp) hs1 hb1 hk1)
    clear hs1 hb1 hk1
    go_wp2
    first | go_end0 | refine bodyPost_ret (results_none rfl _ _ _) rfl ?_
    exact ⟨rfl, HP.out⟩
  have g0 : (k == 0) = false := beq_eq_false_iff_ne.2 h0
  have g1 : (k == 1) = false := beq_eq_false_iff_ne.2 hv2
  by_cases h2 : k = 2
  · subst h2
    have hT : Ce.text p d ⟨2, n⟩ = boolText (n == 1) := by
      rw [Ce.text.eq_def]
      simp only [show ¬ (2 : Int) = 1 by omega, if_false, if_true]
      unfold boolText
      by_cases hn : n = 1 <;> simp [hn]
    rw [hT]
    have HFB := Lib.hid (fun W => formatBool_any (n == 1) W)
    have hbt : (boolText (n == 1)).length ≤ 10 := by
      unfold boolText; split <;> simp
    have HBT := Lib.hid hbt
    generalize boolText (n == 1) = T at *
    have HW := Lib.hid (fun W (h : ShAt W w0.heap.size b C p.cells.length cc bs) (hb : w0.heap.size ≤ W.heap.size) => swriteString_any w0.heap.size b C p.cells.length cc bs T W h (by omega) hb)
    generalize p.cells.length = nc at *
    have x1 := HBX.out.cell 1
    dsimp at x1
    clear hT hv1 hS HWS hbt g0 g1 h0 hv2 hv3
    go_enter Tryz.func113, Tryz.ntmps113
    go_wp2_with fail
    generalize hWA : w.alloc (.cells #[.int .u8 2, .int .i64 n] 57) = WA at *
    clear hWA
    go_region_held3 (fun W => W.cell? ⟨w.heap.size, 1, none⟩ = some (.int .i64 n))
      (go_keep)
      (first
        | (go_at_call 133; refine (HFB.out _).mono ?_; rintro e w1 ⟨rfl, rfl⟩)
        | (go_at_call 112; refine (HW.out WA.drew (HS0.out.below (Below.refl _ _).drew) HBE.out.size).mono ?_; rintro e w2 ⟨⟨m, rfl⟩, hs1, hb1, hk1⟩
           have hb1 : Below w0.heap.size WA w2 := (Below.refl _ _).drew.trans hb1
           have hk1 : Keeps3 WA w2 := (Keeps3.below (Below.refl _ _).drew).trans hk1
           have x1 := (hk1.blk HBX.out (by decide) (by decide)).cell 1
           dsimp at x1))
    have HP := Lib.hid (HFIN.out T w2 HBT.out hs1 hb1 hk1)
    clear hs1 hb1 hk1 x1
    go_wp2
    first | go_end0 | refine bodyPost_ret (results_none rfl _ _ _) rfl ?_
    exact ⟨rfl, HP.out⟩
  have g2 : (k == 2) = false := beq_eq_false_iff_ne.2 h2
  by_cases h3 : k = 3
  · subst h3
    have hT : Ce.text p d ⟨3, n⟩ = [110, 105, 108] := by rw [Ce.text.eq_def]; simp
    rw [hT]
    have HW := Lib.hid (HWS.out [110, 105, 108] (by simp))
    generalize p.cells.length = nc at *
    clear hT hv1 hS HWS
    go_enter Tryz.func113, Tryz.ntmps113
    go_wp2_with fail
    refine HW.out.mono ?_
    rintro e w1 ⟨⟨m, rfl⟩, hs1, hb1, hk1⟩
    have HP := Lib.hid (HFIN.out [110, 105, 108] w1 (by simp) hs1 hb1 hk1)
    clear hs1 hb1 hk1
    go_wp2
    first | go_end0 | refine bodyPost_ret (results_none rfl _ _ _) rfl ?_
    exact ⟨rfl, HP.out⟩
  have g3 : (k == 3) = false := beq_eq_false_iff_ne.2 h3
  have g5 : (k == 5) = false := beq_eq_false_iff_ne.2 hv3
  have h4 : k = 4 := by
    unfold Ce.isValue at hv1
    rw [if_neg h0, if_neg hv2, if_neg h2, if_neg h3] at hv1
    by_cases h4 : k = 4
    · exact h4
    · rw [if_neg h4, if_neg hv3] at hv1; cases hv1
  subst h4
  have hnn : 0 ≤ n ∧ n < p.cells.length := by
    unfold Ce.isValue at hv1
    simp at hv1
    omega
  obtain ⟨j, rfl⟩ : ∃ j : Nat, n = j := ⟨n.toNat, by omega⟩
  have HST := Lib.hid (hS j bs _ HBE.out (by omega) HS0.out hl)
  rw [show (⟨4, (j : Int)⟩ : Ce.V) = Ce.vref j from rfl]
  generalize Ce.text p d (Ce.vref j) = T at *
  generalize p.cells.length = nc at *
  clear hv1 hS HWS h0 hv2 h2 h3 hv3
  go_enter Tryz.func113, Tryz.ntmps113
  go_wp2_with fail
  refine HST.out.mono ?_
  rintro e w1 ⟨rfl, ⟨bs', k1, k2, k3, k4⟩, hb1, hk1⟩
  have HP : Hid (WrPost w0 b C nc cc bs T (2520 + d) w w1) := Lib.hid ⟨⟨bs', k1, k2, k3, k4⟩, HB0.out.trans hb1, HK0.out.trans hk1⟩
  clear k1 k2 k3 k4 hb1 hk1
  go_wp2
  first | go_end0 | refine bodyPost_ret (results_none rfl _ _ _) rfl ?_
  exact ⟨rfl, HP.out⟩
end Go.Proofs.YtjldkndalcellaaGreatDoor

namespace Go.Proofs.YtjldkndalcellaaGreatDoor
open Go.RowKit Go.El

set_option maxRecDepth 100000 in
set_option maxHeartbeats 4000000 in
theorem list_of_value (p : Ce.Pic) (w0 : World) (b : Nat) (C : Option Addr) (cc d : Nat) (hV : ValC p w0 b C cc d) : ListC p w0 b C cc d := by
  intro l A cap bs w hb hl hall ha hs hbl
  have HV := Lib.hid (fun v (hv : v ∈ l) bs' W h1 h2 h3 => hV v bs' W h1 (hall v hv) h2 h3)
  have HFU := Lib.hid (fun cur W h => sfull_any w0.heap.size b C p.cells.length cc cur W h)
  have HWS := Lib.hid (fun cur W h h1 h2 => swriteString_any w0.heap.size b C p.cells.length cc cur [44, 32] W h h1 h2)
  have HA := Lib.hid ha
  have HJS := Lib.hid (fun k v (hv : l[k]? = some v) => Ce.joinT_step (Ce.text p d) hv)
  have HJR : Hid (∀ k, k ≤ l.length → ∃ U, Ce.joinT (Ce.text p d) l = Ce.joinT (Ce.text p d) (l.take k) ++ U) := Lib.hid fun k hk => Ce.joinT_rest (Ce.text p d) l (l.length - k) k (by omega)
  have HJE : Hid (∀ k, l.length ≤ k → Ce.joinT (Ce.text p d) (l.take k) = Ce.joinT (Ce.text p d) l) := Lib.hid fun k hk => by rw [List.take_of_length_le hk]
  have HB0 := Lib.hid hb
  have HS0 := Lib.hid hs
  have hlz : (l.length : Int) ≤ 1000 := by omega
  generalize p.cells.length = nc at *
  clear hV hall ha hs hb
  go_enter Tryz.func69, Tryz.ntmps69
  go_wp2_with fail
  go_loopw [10] (fun i wr => ∃ (k : Nat) (cur : List UInt8), k ≤ l.length ∧ i = .int .i64 k ∧ Hid (ShAt wr w0.heap.size b C nc cc cur) ∧ Hid (Ce.Wr bs (Ce.joinT (Ce.text p d) (l.take k)) cur) ∧ bs.length ≤ cur.length ∧ cur.length ≤ max bs.length (2520 + d) ∧ Hid (Below w0.heap.size w wr) ∧ Hid (Keeps3 w wr)) (fun i _ => l.length - (intOf i).toNat)
  case atStart => exact ⟨0, bs, Nat.zero_le _, rfl, HS0, Lib.hid (Ce.Wr.nil bs), Nat.le_refl _, by omega, Lib.hid (Below.refl _ _), Lib.hid (Keeps3.refl _)⟩
  case round =>
    clear HS0
    obtain ⟨k, cur, hk, rfl, HS, HW, hle, hmx, HB, HK⟩ := hrel
    by_cases hlt : k < l.length
    · have hlt' : (k : Int) < l.length := by omega
      obtain ⟨v, hv⟩ : ∃ x, l[k]? = some x := ⟨_, List.getElem?_eq_getElem hlt⟩
      have HBB := Lib.hid (HB0.out.trans HB.out)
      obtain ⟨bl, ol, rfl, hin, hbl2⟩ := (HA.out.below HBB.out).at_lt hlt
      obtain ⟨x0, x1⟩ := ValE.at2 hin hv
      have HVM : Hid (v ∈ l) := Lib.hid (List.mem_of_getElem? hv)
      have HSTEP := Lib.hid (HJS.out k v hv)
      have hba : Below wr.heap.size wr (wr.alloc (.cells #[.int .u8 v.k, .int .i64 v.n] 57)) := (Below.refl _ _).alloc (Nat.le_refl _) _
      have hb2 : Below w0.heap.size wr (wr.alloc (.cells #[.int .u8 v.k, .int .i64 v.n] 57)) := hba.mono HBB.out.size
      have HSA := Lib.hid (HS.out.below hba)
      have HBA := Lib.hid (HB.out.trans hb2)
      have HBBA := Lib.hid (HBB.out.trans hb2)
      have HKA := Lib.hid (HK.out.trans (Keeps3.below hba))
      have HBX := Lib.hid (Blk.new wr 57 #[.int .u8 v.k, .int .i64 v.n])
      have hfu := HFU.out cur _ HSA.out
      clear hv hin hba hb2 HS HB HK HBB
      by_cases hf : 2500 < cur.length
      · rw [decide_eq_true hf] at hfu
        have HF := Lib.hid hfu
        have HP : Hid (WrPost w0 b C nc cc bs (Ce.joinT (Ce.text p d) l) (2520 + d) w (wr.alloc (.cells #[.int .u8 v.k, .int .i64 v.n] 57))) := Lib.hid (by
          obtain ⟨U, hU⟩ := HJR.out k hk
          exact ⟨⟨cur, HSA.out, by rw [hU]; exact HW.out.full hf, hle, hmx⟩, HBA.out, HKA.out⟩)
        clear hfu hf
        go_wp2_with fail
        refine HF.out.mono ?_
        rintro e w1 ⟨rfl, rfl⟩
        go_wp2
        first | go_end0 | refine bodyPost_ret (results_none rfl _ _ _) rfl ?_
        exact ⟨rfl, HP.out⟩
      · rw [decide_eq_false hf] at hfu
        have HF := Lib.hid hfu
        have hcur : cur.length ≤ 2500 := by omega
        clear hfu hf
        by_cases hk0 : k = 0
        · have y0 : wr.cell? ⟨bl, ol, none⟩ = some (.int .u8 v.k) := by subst hk0; simpa using x0
          have y1 : wr.cell? ⟨bl, ol + 1, none⟩ = some (.int .i64 v.n) := by subst hk0; simpa using x1
          have hlt0 : (0 : Int) < l.length := by omega
          subst hk0
          clear x0 x1
          have hcall := HV.out v HVM.out cur _ HBBA.out HSA.out (by omega)
          have HC := Lib.hid hcall
          have b0 := HBX.out.cell 0
          have b1 := HBX.out.cell 1
          dsimp at b0 b1
          clear hcall
          go_wp2_with fail
          refine HF.out.mono ?_
          rintro e w1 ⟨rfl, rfl⟩
          go_wp2_with fail
          refine HC.out.mono ?_
          rintro e w2 ⟨rfl, ⟨bs2, q1, q2, q3, q4⟩, hb2, hk2⟩
          have HS2 := Lib.hid q1
          have HW2 : Hid (Ce.Wr bs (Ce.joinT (Ce.text p d) (l.take (0 + 1))) bs2) := Lib.hid (by
            rw [HSTEP.out, if_pos (by trivial)]
            have := HW.out.more q2 q3
            simpa using this)
          have HB2 := Lib.hid (HBA.out.trans hb2)
          have HK2 := Lib.hid (HKA.out.trans hk2)
          clear q1 q2 hb2 hk2 b0 b1
          go_wp2
          go_roundw
          case rel => exact ⟨0 + 1, bs2, by omega, by go_num, HS2, HW2, by omega, by omega, HB2, HK2⟩
          case measure => simp [intOf]; omega
        · have hk1 : (0 : Int) < (k : Int) := by omega
          have hcall := HWS.out cur _ HSA.out (by simp; omega) HBBA.out.size
          have HC := Lib.hid hcall
          clear hcall
          go_wp2_with fail
          refine HF.out.mono ?_
          rintro e w1 ⟨rfl, rfl⟩
          go_wp2_with fail
          refine HC.out.mono ?_
          rintro e w2 ⟨⟨m, rfl⟩, hs2, hb2, hk2⟩
          have HC2 := Lib.hid (HV.out v HVM.out (cur ++ [44, 32]) w2 (HBBA.out.trans hb2) hs2 (by simp; omega))
          have hbx := hk2.blk HBX.out (by decide) (by decide)
          have b0 := hbx.cell 0
          have b1 := hbx.cell 1
          dsimp at b0 b1
          have HB2 := Lib.hid (HBA.out.trans hb2)
          have HK2 := Lib.hid (HKA.out.trans hk2)
          clear hs2 hb2 hk2 hbx
          go_wp2_with fail
          refine HC2.out.mono ?_
          rintro e w3 ⟨rfl, ⟨bs3, q1, q2, q3, q4⟩, hb3, hk3⟩
          simp only [List.length_append, List.length_cons, List.length_nil] at q3 q4
          have HS3 := Lib.hid q1
          have HW3 : Hid (Ce.Wr bs (Ce.joinT (Ce.text p d) (l.take (k + 1))) bs3) := Lib.hid (by
            rw [HSTEP.out, if_neg hk0]
            refine HW.out.more ((Ce.Wr.exact cur [44, 32]).more q2 (by simp; omega)) (by omega))
          have HB3 := Lib.hid (HB2.out.trans hb3)
          have HK3 := Lib.hid (HK2.out.trans hk3)
          clear q1 q2 hb3 hk3 b0 b1
          go_wp2
          go_roundw
          case rel => exact ⟨k + 1, bs3, by omega, by go_num, HS3, HW3, by omega, by omega, HB3, HK3⟩
          case measure => simp [intOf]; omega
    · have hlt' : ¬ (k : Int) < l.length := by omega
      have HP : Hid (WrPost w0 b C nc cc bs (Ce.joinT (Ce.text p d) l) (2520 + d) w wr) := Lib.hid ⟨⟨cur, HS.out, by rw [← HJE.out k (by omega)]; exact HW.out, hle, hmx⟩, HB.out, HK.out⟩
      go_wp2
      first | go_end0 | refine bodyPost_ret (results_none rfl _ _ _) rfl ?_
      exact ⟨rfl, HP.out⟩

theorem list_any (p : Ce.Pic) (w0 : World) (b : Nat) (C : Option Addr) (cc : Nat) (hC : LsAt w0 C p.cells) (hlen : ∀ s ∈ p.cells, s.length ≤ 1000) (hall : ∀ s ∈ p.cells, ∀ v ∈ s, Shown p.cells.length v) : ∀ d, d ≤ 12 → ListC p w0 b C cc d
  | 0, _ => list_of_value p w0 b C cc 0 (value_of_struct p w0 b C cc 0 (struct_zero p w0 b C cc))
  | d + 1, h => list_of_value p w0 b C cc (d + 1) (value_of_struct p w0 b C cc (d + 1) (struct_succ p w0 b C cc d (by omega) hC hlen hall (list_any p w0 b C cc hC hlen hall d (by omega))))
end Go.Proofs.YtjldkndalcellaaGreatDoor

namespace Go.Proofs.YtjldkndalcellaaGreatDoor
open Go.RowKit Go.El

set_option maxRecDepth 100000 in
set_option maxHeartbeats 2000000 in
theorem string_any (B b : Nat) (C : Option Addr) (nc cc : Nat) (l : List UInt8) (w : World) (h : ShAt w B b C nc cc l) :
    Calls Tryz.prog 71 #[.pointer (some ⟨b, 0, none⟩)] w fun e w' => e = .returned (.string ⟨l.toArray⟩) ∧ Below B w w' := by
  obtain ⟨hB, p, A, cap, hbk, hp, hown⟩ := h
  have mixed : Tryz.prog.follows .mixedOrders = true := by kernel_rfl
  have c1 : w.drew.cell? ⟨b, 1, none⟩ = some (.slice A l.length cap) := by
    have := (hbk.below (Below.refl _ _).drew).cell 1
    exact this
  rcases hown.2 with ⟨hv, h0⟩ | ⟨g, cap', cur, hv, hgB, hg, hn, hcm, hcs, htake⟩
  · injection hv with hA hn hc
    have hl0 : l = [] := List.length_eq_zero_iff.1 h0
    subst hA hc hl0
    rw [show ([] : List UInt8).length = 0 from rfl] at c1
    have hSD : (Builtin.unsafeSliceData_ #[100] 149 #[.slice none 0 0]).run Tryz.prog w.drew = .ok (.pointer none) w.drew := rfl
    have hUS : (Builtin.unsafeString_ #[149, 3] 9 #[.pointer none, .int .i64 0]).run Tryz.prog w.drew = .ok (.string .empty) w.drew := Lib.run_unsafeString_none _ _ _ _ _
    clear hbk hp hown
    go_enter Tryz.func71, Tryz.ntmps71
    go_wp2
    go_region_o
    all_goals (go_wp2; go_ret; exact ⟨rfl, (Below.refl B w).drew⟩)
  · injection hv with hA hn' hc
    subst hA hc
    by_cases hl0 : l = []
    · subst hl0
      rw [show ([] : List UInt8).length = 0 from rfl] at c1
      by_cases hc0 : cap = 0
      · subst hc0
        have hsh : w.drew.shape? g = some (5, cur.size) := by
          have hg' : w.drew.heap[g]? = some (.cells cur 5 (0, 0)) := hg
          simp [World.shape?, hg']
        have hSD : (Builtin.unsafeSliceData_ #[100] 149 #[.slice (some ⟨g, 0, none⟩) 0 0]).run Tryz.prog w.drew = .ok (.pointer (some ⟨w.drew.heap.size, 0, none⟩)) (w.drew.alloc (.view ⟨g, 0, none⟩ 5)) :=
          Lib.run_unsafeSliceData_zero w.drew _ _ 5 Tryz.underlying149 ⟨g, 0, none⟩ 0 _ hsh
        have HUS : Hid (∀ W q, (Builtin.unsafeString_ #[149, 3] 9 #[.pointer q, .int .i64 0]).run Tryz.prog W = .ok (.string .empty) W) := Lib.hid fun W q => Lib.run_unsafeString_none W _ _ _ q
        have hUS := HUS.out (w.drew.alloc (.view ⟨g, 0, none⟩ 5)) (some ⟨w.drew.heap.size, 0, none⟩)
        have hBw : B ≤ w.heap.size := Nat.le_trans hB (Nat.le_of_lt hbk.lt)
        have c2 : (w.drew.alloc (.view ⟨g, 0, none⟩ 5)).cell? ⟨b, 1, none⟩ = some (.slice (some ⟨g, 0, none⟩) 0 0) := (hbk.below ((Below.refl _ _).drew.alloc (Nat.le_refl _) _)).cell 1
        have c3 : (w.alloc (.view ⟨g, 0, none⟩ 5)).drew.cell? ⟨b, 1, none⟩ = some (.slice (some ⟨g, 0, none⟩) 0 0) := c2
        have c4 : (w.alloc (.view ⟨g, 0, none⟩ 5)).cell? ⟨b, 1, none⟩ = some (.slice (some ⟨g, 0, none⟩) 0 0) := c2
        have c0 : w.cell? ⟨b, 1, none⟩ = some (.slice (some ⟨g, 0, none⟩) 0 0) := c1
        have hUS2 := HUS.out (w.alloc (.view ⟨g, 0, none⟩ 5)).drew (some ⟨w.heap.size, 0, none⟩)
        clear hbk hp hown hsh hcs htake
        go_enter Tryz.func71, Tryz.ntmps71
        go_wp2
        go_region_o
        all_goals (go_wp2; go_ret; exact ⟨rfl, (Below.refl B w).drew.alloc hBw _⟩)
      · have hSD : (Builtin.unsafeSliceData_ #[100] 149 #[.slice (some ⟨g, 0, none⟩) 0 cap]).run Tryz.prog w.drew = .ok (.pointer (some ⟨g, 0, none⟩)) w.drew := Lib.run_unsafeSliceData_row _ _ _ _ _ _ hc0
        have hUS : (Builtin.unsafeString_ #[149, 3] 9 #[.pointer (some ⟨g, 0, none⟩), .int .i64 0]).run Tryz.prog w.drew = .ok (.string .empty) w.drew := Lib.run_unsafeString_none _ _ _ _ _
        clear hbk hp hown hcs htake hc0
        go_enter Tryz.func71, Tryz.ntmps71
        go_wp2
        go_region_o
        all_goals (go_wp2; go_ret; exact ⟨rfl, (Below.refl B w).drew⟩)
    · have hcs' : cur.size = cap := by rw [hcs]; simp [ByE]
      have hl1 : l.length ≠ 0 := by simpa using hl0
      have hSD : (Builtin.unsafeSliceData_ #[100] 149 #[.slice (some ⟨g, 0, none⟩) l.length cap]).run Tryz.prog w.drew = .ok (.pointer (some ⟨g, 0, none⟩)) w.drew := Lib.run_unsafeSliceData_row _ _ _ _ _ _ (by omega)
      have hUS : (Builtin.unsafeString_ #[149, 3] 9 #[.pointer (some ⟨g, 0, none⟩), .int .i64 l.length]).run Tryz.prog w.drew = .ok (.string ⟨l.toArray⟩) (w.drew.freeze ⟨g, 0, none⟩ l.length) := by
        refine Lib.run_unsafeString_row w.drew 149 3 9 5 Tryz.underlying149 (by kernel_rfl) g cur.size (by have hg' : w.drew.heap[g]? = some (.cells cur 5 (0, 0)) := hg; simp [World.shape?, hg']) l hl0 (by omega) (by unfold maxLen at hcm; omega) ?_
        intro j x hx
        have hx' : (ByE.row l)[j]? = some (.int .u8 x.toNat) := by rw [by_row, List.getElem?_map, hx]; rfl
        exact World.ownsRow.cells hown (g := g) rfl j _ hx'
      have HBF := Lib.hid (Lib.below_freeze (Below.refl B w).drew (p := ⟨g, 0, none⟩) hgB l.length)
      clear hbk hp hown hcs htake hl0
      generalize hS : (⟨l.toArray⟩ : ByteArray) = S at *
      generalize l.length = n at *
      clear hS
      go_enter Tryz.func71, Tryz.ntmps71
      go_wp2
      go_region_o
      all_goals (go_wp2; go_ret; exact ⟨rfl, HBF.out⟩)
end Go.Proofs.YtjldkndalcellaaGreatDoor

namespace Go.Proofs.YtjldkndalcellaaGreatDoor
open Go.RowKit Go.El

theorem shown_of {nc : Nat} {l : List Ce.V} (h : Ce.areValues l nc = true) (hs : ∀ v ∈ l, v.k ≠ 1 ∧ v.k ≠ 5) : ∀ v ∈ l, Shown nc v := fun v hv =>
  ⟨List.all_eq_true.1 h v hv, (hs v hv).1, (hs v hv).2⟩
theorem isPic_parts {p : Ce.Pic} (h : Ce.isPic p = true) : p.vals.length ≤ 100 ∧ Ce.areValues p.vals p.cells.length = true ∧ ∀ s ∈ p.cells, s.length ≤ 100 ∧ Ce.areValues s p.cells.length = true := by
  unfold Ce.isPic Ce.memOk at h
  simp only [Bool.and_eq_true, decide_eq_true_eq] at h
  obtain ⟨⟨⟨_, h1, _⟩, h2, h3⟩, _⟩ := h
  refine ⟨h2, h3, fun s hs => ?_⟩
  have := List.all_eq_true.1 h1 ⟨s, []⟩ (by unfold Ce.memory; exact List.mem_map_of_mem hs)
  unfold Ce.stOk at this
  simp only [Bool.and_eq_true, decide_eq_true_eq] at this
  refine ⟨this.1.1, ?_⟩
  have h4 := this.1.2
  rw [show (Ce.memory p).length = p.cells.length by simp [Ce.memory]] at h4
  exact h4

/-- what Show answers of a picture -/
theorem wr_done {T bs : List UInt8} (h : Ce.Wr [] T bs) (hf : ¬ 2500 < bs.length) : bs = T ∧ ¬ 2500 < T.length := by
  have := h.short hf
  simp at this
  exact ⟨this, by rw [← this]; exact hf⟩
theorem wr_over {T bs : List UInt8} (h : Ce.Wr [] T bs) (hf : 2500 < bs.length) : 2500 < T.length := by
  rcases h with h | ⟨_, h⟩
  · rw [h] at hf; simpa using hf
  · simpa using h

set_option maxRecDepth 100000 in
set_option maxHeartbeats 4000000 in
theorem show_any : ShowC := by
  intro p deep V C cv cc w hp hsi hV
  have hbx : Below w.heap.size w (w.alloc (.cells #[.slice V p.vals.length cv, .slice C p.cells.length cc] 37)) := (Below.refl _ _).alloc (Nat.le_refl _) _
  have HB := Lib.hid hbx
  have HBX := Lib.hid (Blk.new w 37 #[.slice V p.vals.length cv, .slice C p.cells.length cc])
  have HIS := Lib.hid (isPicture_any p hp V C cv cc _ (hV.at_.below hbx))
  have HVV := Lib.hid hV.at_
  by_cases hpic : Ce.isPic p = true
  case neg =>
    have hpf : Ce.isPic p = false := by simpa using hpic
    have hR : Ce.showP p deep = ([], 4) := by unfold Ce.showP; rw [hpf]; rfl
    rw [hR]
    rw [hpf] at HIS
    have hbs : bytesOf [] = ⟨#[]⟩ := rfl
    have b0 := HBX.out.cell 0
    have b1 := HBX.out.cell 1
    dsimp at b0 b1
    rw [hbs]
    generalize p.vals.length = nv at *
    generalize p.cells.length = nc at *
    clear hR hpic hpf hbx hV hsi hp
    go_enter Tryz.func44, Tryz.ntmps44
    go_wp2_with fail
    refine HIS.out.mono ?_
    rintro e w1 ⟨rfl, hb1⟩
    have HE := Lib.hid (HB.out.trans (hb1.mono (by simp)))
    clear hb1
    go_wp2
    go_ret2
    exact ⟨rfl, HE.out⟩
  by_cases hin : Ce.inn deep 0 12 = true
  case neg =>
    have hpf : Ce.inn deep 0 12 = false := by simpa using hin
    have hR : Ce.showP p deep = ([], 3) := by unfold Ce.showP; rw [hpic, hpf]; rfl
    rw [hR]
    rw [hpic] at HIS
    have hbs : bytesOf [] = ⟨#[]⟩ := rfl
    have b0 := HBX.out.cell 0
    have b1 := HBX.out.cell 1
    dsimp at b0 b1
    rw [hbs]
    have hor : deep < 0 ∨ 12 < deep := by
      unfold Ce.inn at hpf
      simp at hpf
      omega
    generalize p.vals.length = nv at *
    generalize p.cells.length = nc at *
    clear hR hpic hpf hbx hV hsi hp hin
    rcases hor with hd | hd
    · go_enter Tryz.func44, Tryz.ntmps44
      go_wp2_with fail
      refine HIS.out.mono ?_
      rintro e w1 ⟨rfl, hb1⟩
      have HE := Lib.hid (HB.out.trans (hb1.mono (by simp)))
      clear hb1
      go_wp2
      go_ret2
      exact ⟨rfl, HE.out⟩
    · have hd0 : decide (deep < 0) = false := decide_eq_false (by omega)
      go_enter Tryz.func44, Tryz.ntmps44
      go_wp2_with fail
      refine HIS.out.mono ?_
      rintro e w1 ⟨rfl, hb1⟩
      have HE := Lib.hid (HB.out.trans (hb1.mono (by simp)))
      clear hb1
      go_wp2
      go_ret2
      exact ⟨rfl, HE.out⟩
  rw [hpic] at HIS
  obtain ⟨d, rfl⟩ : ∃ d : Nat, deep = d := ⟨deep.toNat, by unfold Ce.inn at hin; simp at hin; omega⟩
  have hd12 : d ≤ 12 := by unfold Ce.inn at hin; simp at hin; omega
  obtain ⟨hvl, hvv, hcs⟩ := isPic_parts hpic
  have hR : Ce.showP p d = if 2500 < (Ce.joinT (Ce.text p d) p.vals).length then ([], 5) else (Ce.joinT (Ce.text p d) p.vals, 0) := by
    unfold Ce.showP; rw [hpic, hin, Int.toNat_natCast]; rfl
  have HR := Lib.hid hR
  have HL := Lib.hid (fun (w0 : World) (b : Nat) (hC : LsAt w0 C p.cells) => list_any p w0 b C cc hC (fun s hs => by have := (hcs s hs).1; omega) (fun s hs => shown_of (hcs s hs).2 (hsi.2 s hs)) d hd12)
  have HLV := Lib.hid (fun (w0 : World) (b : Nat) (hC : LsAt w0 C p.cells) (W : World) (hb : Below w0.heap.size w0 W) (ha : ValE.Arg w0 V p.vals) (hs : ShAt W w0.heap.size b C p.cells.length cc []) => HL.out w0 b hC p.vals V cv [] W hb (by omega) (shown_of hvv hsi.1) ha hs (by simp))
  have HAT := Lib.hid (fun W (h : Below w.heap.size w W) => (hV.at_.below h))
  have b0 := HBX.out.cell 0
  have b1 := HBX.out.cell 1
  dsimp at b0 b1
  have hd0 : (0 : Int) ≤ (d : Int) := by omega
  have hd1 : (d : Int) ≤ 12 := by omega
  generalize Ce.joinT (Ce.text p d) p.vals = T at *
  generalize hSP : Ce.showP p d = SP at *
  clear hR hSP hpic hbx hV hsi hp hin hvl hvv hcs HL
  go_enter Tryz.func44, Tryz.ntmps44
  go_wp2_with fail
  refine HIS.out.mono ?_
  rintro e w1 ⟨rfl, hb1⟩
  have HE := Lib.hid (HB.out.trans (hb1.mono (by simp)))
  have HAT1 := Lib.hid (HAT.out _ HE.out)
  have hbx1 := HBX.out.below hb1
  have b0 := hbx1.cell 0
  have b1 := hbx1.cell 1
  dsimp at b0 b1
  have hba : Below w1.heap.size w1 (w1.alloc (.cells #[.pointer none, .slice none 0 0, .slice C p.cells.length cc] 118)) := (Below.refl _ _).alloc (Nat.le_refl _) _
  have hbx2 := hbx1.below hba
  have d0 := hbx2.cell 0
  have d1 := hbx2.cell 1
  dsimp at d0 d1
  have HS0 : Hid (ShAt (w1.alloc (.cells #[.pointer none, .slice none 0 0, .slice C p.cells.length cc] 118)) w1.heap.size w1.heap.size C p.cells.length cc []) := Lib.hid ⟨Nat.le_refl _, _, none, 0, Blk.new _ _ _, .inl rfl, Own.nil _ _ _ _⟩
  have HBA := Lib.hid hba
  have HCALL := Lib.hid (HLV.out w1 w1.heap.size HAT1.out.c _ hba HAT1.out.v.arg HS0.out)
  clear hb1 hbx1 hbx2 hba HLV HIS
  go_wp2_with fail
  refine HCALL.out.mono ?_
  rintro e w2 ⟨rfl, ⟨bs, q1, q2, q3, q4⟩, hb2, hk2⟩
  have HS2 := Lib.hid q1
  have HW2 := Lib.hid q2
  have HB2 := Lib.hid (HE.out.trans ((HBA.out.trans hb2).mono (by have := HE.out.size; omega)))
  have hfu := sfull_any w1.heap.size w1.heap.size C p.cells.length cc bs w2 q1
  clear q1 q2 q3 q4 hb2 hk2 HCALL
  by_cases hf : 2500 < bs.length
  · rw [decide_eq_true hf] at hfu
    have hSP : SP = ([], 5) := by rw [HR.out, if_pos (wr_over HW2.out hf)]
    have HSP := Lib.hid hSP
    have HF := Lib.hid hfu
    clear hfu hf HR hSP
    go_wp2_with fail
    refine HF.out.mono ?_
    rintro e w3 ⟨rfl, rfl⟩
    go_wp2
    go_ret2
    exact ⟨by rw [HSP.out]; rfl, HB2.out⟩
  · rw [decide_eq_false hf] at hfu
    obtain ⟨hbT, hnT⟩ := wr_done HW2.out hf
    have hSP : SP = (bs, 0) := by rw [HR.out, if_neg hnT, hbT]
    have HSP := Lib.hid hSP
    have HF := Lib.hid hfu
    have HST := Lib.hid (string_any w1.heap.size w1.heap.size C p.cells.length cc bs w2 HS2.out)
    clear hfu hf HR hbT hnT hSP
    go_wp2_with fail
    refine HF.out.mono ?_
    rintro e w3 ⟨rfl, rfl⟩
    go_wp2_with fail
    refine HST.out.mono ?_
    rintro e w3 ⟨rfl, hb3⟩
    have HB3 := Lib.hid (HB2.out.trans (hb3.mono (by have := HE.out.size; omega)))
    clear hb3
    go_wp2
    go_ret2
    exact ⟨by rw [HSP.out]; rfl, HB3.out⟩
end Go.Proofs.YtjldkndalcellaaGreatDoor
