/- Layer 6: the walks of the reference's areValues, SameTold, Same, SamePicture. Layer 6: a memory that the call owns, each row a block of its own. -/
import Derived.Test.YtjldkndalcellaaGreatDoorYb
import Derived.Deep.DeepCutAuto
import Derived.Deep.RegionLaw
import Derived.RangeFuncBox
namespace Go.El
open Go.RowKit
theorem box1 {W : World} {v : Value} {t : TypeId} : Stay (fun V => V.cell? ⟨W.heap.size, 0, none⟩ = some v) (W.alloc (Obj.cells #[v] t)) :=
  fun _ hb => ((bcell hb).1 W.heap.size 0 (by simp)).trans (cell_of_row _ W.heap.size 0 _ _ _ (heap_alloc_new W _))
theorem box2 {W : World} {v u : Value} {t : TypeId} : Stay (fun V => V.cell? ⟨W.heap.size, 0, none⟩ = some v ∧ V.cell? ⟨W.heap.size, 1, none⟩ = some u) (W.alloc (Obj.cells #[v, u] t)) :=
  fun _ hb => by
    have h := fun j => ((bcell hb).1 W.heap.size j (by simp)).trans (cell_of_row _ W.heap.size j _ _ _ (heap_alloc_new W _))
    exact ⟨h 0, h 1⟩
theorem twoboxes {W : World} {a b c d : Value} {t : TypeId} : Stay (fun V => (V.cell? ⟨W.heap.size, 0, none⟩ = some a ∧ V.cell? ⟨W.heap.size, 1, none⟩ = some b) ∧ (V.cell? ⟨W.heap.size + 1, 0, none⟩ = some c ∧ V.cell? ⟨W.heap.size + 1, 1, none⟩ = some d)) ((W.alloc (Obj.cells #[a, b] t)).alloc (Obj.cells #[c, d] t)).drew := by
  have s := ((box2 (W := W) (v := a) (u := b) (t := t)).alloc (Obj.cells #[c, d] t)).and (box2 (W := W.alloc (Obj.cells #[a, b] t)) (v := c) (u := d) (t := t))
  simp only [World.size_alloc] at s
  exact s.step (Below.refl _ _).drew
end Go.El
namespace Go.Proofs.YtjldkndalcellaaGreatDoor
open Go.RowKit Go.El

theorem areValues_many (l : List Ce.V) (many : Int) (k : Nat) (p : Ce.V) (hp : l[k]? = some p) (h : Ce.isValue p many = false) : Ce.areValues l many = false := by
  unfold Ce.areValues
  rw [List.all_eq_false]
  exact ⟨p, List.mem_of_getElem? hp, by rw [h]; decide⟩
theorem areValues_step (l : List Ce.V) (many : Int) (k : Nat) (p : Ce.V) (hp : l[k]? = some p) (h : Ce.isValue p many = true) (hk : Ce.areValues (l.take k) many = true) : Ce.areValues (l.take (k + 1)) many = true := by
  unfold Ce.areValues at hk ⊢
  rw [List.take_add_one, hp, List.all_append, hk]
  simp [h]
set_option maxRecDepth 100000 in
set_option maxHeartbeats 1000000 in
theorem areValues_any (l : List Ce.V) (hl : l.length ≤ maxLen) (many : Int) (A : Option Addr) (cap : Nat) (w : World) (h : ValE.Arg w A l) :
    Calls Tryz.prog 47 #[.slice A l.length cap, .int .i64 many] w fun e w' => e = .returned (.bool (Ce.areValues l many)) ∧ Below w.heap.size w w' := by
  have hm : (l.length : Int) ≤ 9223372036854775807 := by unfold maxLen at hl; omega
  have H := Lib.hid h
  generalize hR : Ce.areValues l many = R
  have HR := Lib.hid hR
  have HIV := Lib.hid (fun v W => isValue_any v many W)
  clear hR h
  go_enter Tryz.func47, Tryz.ntmps47
  go_wp2_with fail
  go_loopw [5] (fun i wr => ∃ k : Nat, k ≤ l.length ∧ i = .int .i64 k ∧ Hid (Ce.areValues (l.take k) many = true) ∧ Below w.heap.size w wr) (fun i _ => l.length - (intOf i).toNat)
  case atStart => exact ⟨0, Nat.zero_le _, rfl, Lib.hid rfl, Below.refl _ _⟩
  case round =>
    obtain ⟨k, hk, rfl, HK, hbw⟩ := hrel
    have hzw := hbw.size
    by_cases hlt : k < l.length
    · have hlt' : (k : Int) < l.length := by omega
      obtain ⟨b, o, rfl, hin, hbl⟩ := H.out.at_lt hlt
      obtain ⟨p, hp⟩ : ∃ p, l[k]? = some p := ⟨_, List.getElem?_eq_getElem hlt⟩
      obtain ⟨x0, x1⟩ := ValE.at2 (hin.below hbw (fun _ => hbl)) hp
      have hcall := HIV.out p wr
      have HNO := Lib.hid (fun hf => HR.out.symm.trans (areValues_many l many k p hp hf))
      have HYES := Lib.hid (fun hf => areValues_step l many k p hp hf HK.out)
      generalize Ce.isValue p many = q at hcall HNO HYES
      have HC := Lib.hid hcall
      clear hcall hin hp
      cases q with
      | false =>
        have HE := Lib.hid (HNO.out rfl)
        clear HNO HYES
        go_wp2_with fail
        refine HC.out.mono ?_
        rintro e w1 ⟨rfl, hb1⟩
        go_wp2
        go_ret
        exact ⟨by rw [HE.out]; rfl, hbw.trans (hb1.mono hzw)⟩
      | true =>
        have HK1 := Lib.hid (HYES.out rfl)
        clear HNO HYES
        go_wp2_with fail
        refine HC.out.mono ?_
        rintro e w1 ⟨rfl, hb1⟩
        go_wp2
        go_roundw
        case rel => exact ⟨k + 1, by omega, by go_num, HK1, hbw.trans (hb1.mono hzw)⟩
        case measure => simp [intOf]; omega
    · have hlt' : ¬ (k : Int) < l.length := by omega
      have HE : Hid (R = true) := Lib.hid (by have e := HK.out; rw [List.take_of_length_le (by omega)] at e; rw [← HR.out, e])
      go_wp2
      go_ret
      exact ⟨by rw [HE.out]; rfl, hbw⟩

theorem TdE.at3 {w : World} {b o : Nat} {l : List Ce.Td} (h : TdE.In w b o l) {k : Nat} {p : Ce.Td} (hp : l[k]? = some p) :
    w.cell? ⟨b, o + k * 3, none⟩ = some (.int .i64 p.who) ∧ w.cell? ⟨b, o + k * 3 + 1, none⟩ = some (.int .u8 p.v.k) ∧ w.cell? ⟨b, o + k * 3 + 2, none⟩ = some (.int .i64 p.v.n) := ⟨h k p hp 0 _ rfl, h k p hp 1 _ rfl, h k p hp 2 _ rfl⟩
set_option maxRecDepth 100000 in
/-- equal rows of what was told -/
theorem sameTold_any (l : List Ce.Td) (hl : l.length ≤ maxLen) (A C : Option Addr) (cap1 cap2 : Nat) (w : World) (h1 : TdE.Arg w A l) (h2 : TdE.Arg w C l) :
    Calls Tryz.prog 42 #[.slice A l.length cap1, .slice C l.length cap2] w fun e w' => e = .returned (.bool true) ∧ Below w.heap.size w w' := by
  have hm : (l.length : Int) ≤ 9223372036854775807 := by unfold maxLen at hl; omega
  have H1 := Lib.hid h1
  have H2 := Lib.hid h2
  clear h1 h2
  go_enter Tryz.func42, Tryz.ntmps42
  go_wp2_with fail
  go_loopw [5] (fun i wr => ∃ k : Nat, k ≤ l.length ∧ i = .int .i64 k ∧ Below w.heap.size w wr) (fun i _ => l.length - (intOf i).toNat)
  case atStart => exact ⟨0, Nat.zero_le _, rfl, Below.refl _ _⟩
  case round =>
    obtain ⟨k, hk, rfl, hbw⟩ := hrel
    by_cases hlt : k < l.length
    · have hlt' : (k : Int) < l.length := by omega
      obtain ⟨b1, o1, rfl, hin1, hz1⟩ := H1.out.at_lt hlt
      obtain ⟨b2, o2, rfl, hin2, hz2⟩ := H2.out.at_lt hlt
      obtain ⟨x, hx⟩ : ∃ x, l[k]? = some x := ⟨_, List.getElem?_eq_getElem hlt⟩
      obtain ⟨x0, x1, x2⟩ := TdE.at3 (hin1.below hbw (fun _ => hz1)) hx
      obtain ⟨y0, y1, y2⟩ := TdE.at3 (hin2.below hbw (fun _ => hz2)) hx
      clear hx hin1 hin2
      go_wp2_with fail
      go_region
      go_wp2_with fail
      go_roundw
      case rel => exact ⟨k + 1, by omega, by go_num, hbw.drew⟩
      case measure => simp [intOf]; omega
    · have hlt' : ¬ (k : Int) < l.length := by omega
      go_wp2
      go_ret
      exact ⟨rfl, hbw⟩

/-- a structure of a memory, at its place -/
theorem MemAt.at' {W : World} {A : Option Addr} {m : Ce.Mem} (h : MemAt W A m) {i : Nat} {s : Ce.St} (hs : m[i]? = some s) :
    ∃ b o A1 c1 A2 c2, A = some ⟨b, o, none⟩ ∧ b < W.heap.size ∧ W.cell? ⟨b, o + i * 2, none⟩ = some (.slice A1 s.cells.length c1) ∧ W.cell? ⟨b, o + i * 2 + 1, none⟩ = some (.slice A2 s.wait.length c2) ∧ ValE.Arg W A1 s.cells ∧ RdE.Arg W A2 s.wait := by
  obtain ⟨b, o, ⟨A1, n1, c1⟩, ⟨A2, n2, c2⟩, h1, h2, h3, h4, h5, h6⟩ := h.at_ hs
  have e1 := h5.n
  have e2 := h6.n
  dsimp only at e1 e2
  subst e1 e2
  exact ⟨b, o, A1, c1, A2, c2, h1, h2, h3, h4, h5.arg, h6.arg⟩
theorem sameValues_eq (a : List Ce.V) (hla : a.length ≤ maxLen) (A C : Option Addr) (cap1 cap2 : Nat) (w : World) (h1 : ValE.Arg w A a) (h2 : ValE.Arg w C a) :
    Calls Tryz.prog 25 #[.slice A a.length cap1, .slice C a.length cap2] w fun e w' => e = .returned (.bool true) ∧ Below w.heap.size w w' := by
  have h := sameValues_any a a hla A C cap1 cap2 w h1 h2
  rwa [decide_eq_true rfl] at h
/-- small enough for a slice -/
structure Sz (m : Ce.Mem) : Prop where
  many : m.length ≤ 10000
  each : ∀ (i : Nat) (s : Ce.St), m[i]? = some s → s.cells.length ≤ 10000 ∧ s.wait.length ≤ 10000

set_option maxRecDepth 100000 in
set_option maxHeartbeats 4000000 in
/-- equal memories -/
theorem same6_any (m : Ce.Mem) (hm : Sz m) (A C : Option Addr) (cap1 cap2 : Nat) (w : World) (h1 : MemAt w A m) (h2 : MemAt w C m) :
    Calls Tryz.prog 16 #[.agg #[.slice A m.length cap1], .agg #[.slice C m.length cap2]] w fun e w' => e = .returned (.bool true) ∧ Below w.heap.size w w' := by
  have hm0 := hm.many
  have hml : (m.length : Int) ≤ 9223372036854775807 := by omega
  have HSZ := Lib.hid hm.each
  have HSV := Lib.hid (fun l hl A C c1 c2 W h1 h2 => sameValues_eq l hl A C c1 c2 W h1 h2)
  have S0 : Stay (fun V => MemAt V A m ∧ MemAt V C m) w := h1.stay.and h2.stay
  have hb1 : Below w.heap.size w (w.alloc (Obj.cells #[.slice A m.length cap1] 24)) := (Below.refl _ _).alloc (Nat.le_refl _) _
  have hb2 : Below (w.alloc (Obj.cells #[.slice A m.length cap1] 24)).heap.size (w.alloc (Obj.cells #[.slice A m.length cap1] 24)) ((w.alloc (Obj.cells #[.slice A m.length cap1] 24)).alloc (Obj.cells #[.slice C m.length cap2] 24)) := (Below.refl _ _).alloc (Nat.le_refl _) _
  have S1 := (((S0.step hb1).and (box1 (W := w) (v := .slice A m.length cap1) (t := 24))).step hb2).and (box1 (W := w.alloc (Obj.cells #[.slice A m.length cap1] 24)) (v := .slice C m.length cap2) (t := 24))
  simp only [World.size_alloc] at S1
  have hB := hb1.trans (hb2.mono hb1.size)
  have HS := Lib.hid S1
  clear hm h1 h2 S0 S1 hb1 hb2
  go_enter Tryz.func16, Tryz.ntmps16
  go_wp2_with fail
  go_loopw [5] (fun i wr => ∃ k : Nat, k ≤ m.length ∧ i = .int .i64 k ∧ Hid (Stay (fun V => ((MemAt V A m ∧ MemAt V C m) ∧ V.cell? ⟨w.heap.size, 0, none⟩ = some (.slice A m.length cap1)) ∧ V.cell? ⟨w.heap.size + 1, 0, none⟩ = some (.slice C m.length cap2)) wr) ∧ Below w.heap.size w wr) (fun i _ => m.length - (intOf i).toNat)
  case atStart => exact ⟨0, Nat.zero_le _, rfl, HS, hB⟩
  case round =>
    obtain ⟨k, hk, rfl, HS, hbw⟩ := hrel
    obtain ⟨⟨⟨mA, mC⟩, x0⟩, x1⟩ := HS.out.at_
    have hq0 : w.heap.size < wr.heap.size := lt_of_cell x0
    have hq1 : w.heap.size + 1 < wr.heap.size := lt_of_cell x1
    by_cases hlt : k < m.length
    · have hlt' : (k : Int) < m.length := by omega
      obtain ⟨s, hs⟩ : ∃ x, m[k]? = some x := ⟨_, List.getElem?_eq_getElem hlt⟩
      obtain ⟨hsz1, hsz2⟩ := HSZ.out k s hs
      obtain ⟨b1, o1, A1, c1, A2, c2, rfl, hz1, y0, y1, P1, Q1⟩ := mA.at' hs
      obtain ⟨b2, o2, A3, c3, A4, c4, rfl, hz2, z0, z1, P2, Q2⟩ := mC.at' hs
      have HP := Lib.hid ((P1.stay.and P2.stay).and (Q1.stay.and Q2.stay))
      clear mA mC P1 P2 Q1 Q2 hs
      generalize s.cells = cs at *
      generalize s.wait = ws at *
      go_wp2_with fail
      go_cut [6, 7] (fun va vb wx => ∃ ga gb : Nat, va = .pointer (some ⟨ga, 0, none⟩) ∧ vb = .pointer (some ⟨gb, 0, none⟩) ∧ Hid (Stay (fun V => (V.cell? ⟨ga, 0, none⟩ = some (.slice A1 cs.length c1) ∧ V.cell? ⟨ga, 1, none⟩ = some (.slice A2 ws.length c2)) ∧ (V.cell? ⟨gb, 0, none⟩ = some (.slice A3 cs.length c3) ∧ V.cell? ⟨gb, 1, none⟩ = some (.slice A4 ws.length c4))) wx) ∧ Below wr.heap.size wr wx)
      case first =>
        clear HS HP HSV HSZ hB
        go_region
        all_goals go_wp2_with fail
        all_goals go_meet
        · exact ⟨_, _, rfl, rfl, Lib.hid twoboxes, (((Below.refl _ _).alloc (Nat.le_refl _) _).alloc (by simp) _).drew⟩
        · exact ⟨_, _, rfl, rfl, Lib.hid (twoboxes.mono fun _ h => h.symm), (((Below.refl _ _).alloc (Nat.le_refl _) _).alloc (by simp) _).drew⟩
      case rest =>
        obtain ⟨ga, gb, rfl, rfl, HG, hb3⟩ := hcut
        have HS := Lib.hid (HS.out.step hb3)
        have HP := Lib.hid (HP.out.step hb3)
        have hB3 := hbw.trans (hb3.mono hbw.size)
        clear hb3 hbw x0 x1 y0 y1 z0 z1
        obtain ⟨⟨g0, g1⟩, g2, g3⟩ := HG.out.at_
        obtain ⟨⟨P1, P2⟩, _⟩ := HP.out.at_
        have HC := Lib.hid (HSV.out cs (by unfold maxLen; omega) A1 A3 c1 c3 wc P1 P2)
        clear P1 P2
        go_wp2_with fail
        refine HC.out.mono ?_
        rintro e w4 ⟨rfl, hb4⟩
        clear HC
        have HS := Lib.hid (HS.out.step hb4)
        have HP := Lib.hid (HP.out.step hb4)
        have HG := Lib.hid (HG.out.step hb4)
        have hB4 := hB3.trans (hb4.mono hB3.size)
        clear hB3 hb4 g0 g1 g2 g3
        obtain ⟨⟨g0, g1⟩, g2, g3⟩ := HG.out.at_
        go_wp2_with fail
        go_loopw [8] (fun i wv => ∃ q : Nat, q ≤ ws.length ∧ i = .int .i64 q ∧ Below w4.heap.size w4 wv) (fun i _ => ws.length - (intOf i).toNat)
        case atStart => exact ⟨0, Nat.zero_le _, rfl, Below.refl _ _⟩
        case round =>
          obtain ⟨q, hq, rfl, hb5⟩ := hrel
          have HG := Lib.hid (HG.out.step hb5)
          have HP := Lib.hid (HP.out.step hb5)
          obtain ⟨⟨g0, g1⟩, g2, g3⟩ := HG.out.at_
          by_cases hqt : q < ws.length
          · have hqt' : (q : Int) < ws.length := by omega
            obtain ⟨_, Q1, Q2⟩ := HP.out.at_
            obtain ⟨r, hr⟩ : ∃ x, ws[q]? = some x := ⟨_, List.getElem?_eq_getElem hqt⟩
            obtain ⟨b5, o5, rfl, hin5, _⟩ := Q1.at_lt hqt
            obtain ⟨b6, o6, rfl, hin6, _⟩ := Q2.at_lt hqt
            obtain ⟨y0, y1⟩ := RdE.at2 hin5 hr
            obtain ⟨z0, z1⟩ := RdE.at2 hin6 hr
            clear hin5 hin6 hr Q1 Q2
            go_wp2_with fail
            go_region
            go_wp2_with fail
            go_roundw
            case rel => exact ⟨q + 1, by omega, by go_num, hb5.drew⟩
            case measure => simp [intOf]; omega
          · have hqt' : ¬ (q : Int) < ws.length := by omega
            have HS := Lib.hid (HS.out.step hb5)
            have hB5 := hB4.trans (hb5.mono hB4.size)
            go_wp2_with fail
            go_roundw
            case rel => exact ⟨k + 1, by omega, by go_num, HS, hB5⟩
            case measure => simp [intOf]; omega
    · have hlt' : ¬ (k : Int) < m.length := by omega
      go_wp2
      go_ret
      exact ⟨rfl, hbw⟩
end Go.Proofs.YtjldkndalcellaaGreatDoor

namespace Go.El
open Go.RowKit
variable {α : Type} {K : El α} {e : TypeId} {W W' : World} {base cap : Nat} {A : Option Addr} {l : List α}
theorem Own.low (h : K.Own e W base A cap l) {row : Option Nat} (hg : W.grownBy W' row) (hr : ∀ k, row = some k → k < base) : K.Own e W' base A cap l := by
  refine h.kept hg ?_
  by_cases hv : (Value.slice A l.length cap).ownBlock = none
  · exact .inl hv
  · right
    intro he
    cases row with
    | none => exact hv he
    | some k => exact absurd (hr k rfl) (Nat.not_lt.2 (h.lt k he).1)
theorem Own.block {a : Addr} (h : K.Own e W base A cap l) (hA : A = some a) : base ≤ a.block ∧ a.block < W.heap.size := by
  subst hA
  exact h.lt a.block (by simp [Value.ownBlock])
end Go.El
namespace Go.Proofs.YtjldkndalcellaaGreatDoor
open Go.RowKit Go.El

theorem st_info : (Tryz.prog.info? 61).map (fun i => (i.zero, i.size, i.bytes)) = some (some (.agg #[.slice none 0 0, .slice none 0 0]), 2, 48) := by kernel_rfl
theorem rd_info : (Tryz.prog.info? 86).map (fun i => (i.zero, i.size, i.bytes)) = some (some (.agg #[.int .i64 0, .int .i64 0]), 2, 16) := by kernel_rfl

/-- a structure of a memory, at its place, and what is said of nil -/
theorem MemAt.at4 {W : World} {A : Option Addr} {m : Ce.Mem} (h : MemAt W A m) {i : Nat} {s : Ce.St} (hs : m[i]? = some s) :
    ∃ b o A1 c1 A2 c2, A = some ⟨b, o, none⟩ ∧ b < W.heap.size ∧ W.cell? ⟨b, o + i * 2, none⟩ = some (.slice A1 s.cells.length c1) ∧ W.cell? ⟨b, o + i * 2 + 1, none⟩ = some (.slice A2 s.wait.length c2) ∧ SlAt ValE W ⟨A1, s.cells.length, c1⟩ s.cells ∧ SlAt RdE W ⟨A2, s.wait.length, c2⟩ s.wait := by
  obtain ⟨b, o, ⟨A1, n1, c1⟩, ⟨A2, n2, c2⟩, h1, h2, h3, h4, h5, h6⟩ := h.at_ hs
  have e1 := h5.n
  have e2 := h6.n
  dsimp only at e1 e2
  subst e1 e2
  exact ⟨b, o, A1, c1, A2, c2, h1, h2, h3, h4, h5, h6⟩
theorem SlAt_stay {α : Type} {K : El α} {W : World} {h : Sl} {l : List α} (s : SlAt K W h l) : Stay (fun V => SlAt K V h l) W := fun _ hb => s.below hb
/-- two structures share no row -/
def Apart (h h' : Sl × Sl) : Prop := (∀ a b, h.1.A = some a → h'.1.A = some b → a.block ≠ b.block) ∧ (∀ a b, h.2.A = some a → h'.2.A = some b → a.block ≠ b.block)
/-- a structure whose rows the call owns -/
structure HOwn (W : World) (base : Nat) (h : Sl × Sl) (s : Ce.St) : Prop where
  n1 : h.1.n = s.cells.length
  o1 : ValE.Own 57 W base h.1.A h.1.c s.cells
  n2 : h.2.n = s.wait.length
  o2 : RdE.Own 86 W base h.2.A h.2.c s.wait
theorem HOwn.at_ {W : World} {base : Nat} {h : Sl × Sl} {s : Ce.St} (x : HOwn W base h s) : SlAt ValE W h.1 s.cells ∧ SlAt RdE W h.2 s.wait :=
  ⟨⟨x.n1, Own.arg x.o1, (Own.le x.o1).2, by rw [x.n1]; exact (Own.le x.o1).1⟩, ⟨x.n2, Own.arg x.o2, (Own.le x.o2).2, by rw [x.n2]; exact (Own.le x.o2).1⟩⟩
/-- a memory that the call owns -/
structure MO (W : World) (base : Nat) (B : Option Addr) (c : Nat) (hs : List (Sl × Sl)) (m : Ce.Mem) : Prop where
  len : hs.length = m.length
  own : StE.Own 61 W base B c hs
  each : ∀ (i : Nat) (h : Sl × Sl) (s : Ce.St), hs[i]? = some h → m[i]? = some s → HOwn W base h s
  apart : ∀ (i j : Nat) (h h' : Sl × Sl), i < j → hs[i]? = some h → hs[j]? = some h' → Apart h h'
theorem MO.below {W W' : World} {base : Nat} {B : Option Addr} {c : Nat} {hs : List (Sl × Sl)} {m : Ce.Mem} (h : MO W base B c hs m) (hb : Below W.heap.size W W') : MO W' base B c hs m :=
  ⟨h.len, Own.below h.own hb, fun i x s h1 h2 => let y := h.each i x s h1 h2; ⟨y.n1, Own.below y.o1 hb, y.n2, Own.below y.o2 hb⟩, h.apart⟩
theorem MO.low {W W' : World} {base : Nat} {B : Option Addr} {c : Nat} {hs : List (Sl × Sl)} {m : Ce.Mem} (h : MO W base B c hs m) {row : Option Nat} (hg : W.grownBy W' row) (hr : ∀ k, row = some k → k < base) : MO W' base B c hs m :=
  ⟨h.len, Own.low h.own hg hr, fun i x s h1 h2 => let y := h.each i x s h1 h2; ⟨y.n1, Own.low y.o1 hg hr, y.n2, Own.low y.o2 hg hr⟩, h.apart⟩
theorem MO.at_ {W : World} {base : Nat} {B : Option Addr} {c : Nat} {hs : List (Sl × Sl)} {m : Ce.Mem} (h : MO W base B c hs m) : MemAt W B m :=
  ⟨hs, h.len, Own.arg h.own, fun i x s h1 h2 => (h.each i x s h1 h2).at_⟩
theorem MO.nil (W : World) (base : Nat) : MO W base none 0 [] [] := ⟨rfl, Own.nil StE 61 W base, fun i x s h1 _ => by simp at h1, fun i j x y _ h1 _ => by simp at h1⟩
/-- one structure more -/
theorem MO.snoc {W W1 W2 : World} {base : Nat} {B B' : Option Addr} {c c' : Nat} {hs : List (Sl × Sl)} {m : Ce.Mem} {x : Sl × Sl} {s : Ce.St} (h : MO W base B c hs m) (hle : base ≤ W.heap.size) (hb : Below W.heap.size W W1) (hx : HOwn W1 W.heap.size x s)
    (hown : StE.Own 61 W2 base B' c' (hs ++ [x])) (hg : W1.grownBy W2 (Value.slice B hs.length c).ownBlock) : MO W2 base B' c' (hs ++ [x]) (m ++ [s]) := by
  have h1 := h.below hb
  have hk : ∀ {b : Nat} {y : Sl × Sl} {t : Ce.St}, HOwn W1 b y t → HOwn W2 b y t := fun {b y t} z =>
    ⟨z.n1, z.o1.kept hg (own_own_ne z.o1 h1.own (by decide)), z.n2, z.o2.kept hg (own_own_ne z.o2 h1.own (by decide))⟩
  refine ⟨by simp [h.len], hown, fun i y t e1 e2 => ?_, fun i j y z hij e1 e2 => ?_⟩
  · by_cases hi : i < hs.length
    · rw [List.getElem?_append_left hi] at e1
      rw [List.getElem?_append_left (by rw [← h.len]; exact hi)] at e2
      exact hk (h1.each i y t e1 e2)
    · have hi' : i = hs.length := by
        have := (List.getElem?_eq_some_iff.1 e1).1
        simp at this
        omega
      subst hi'
      rw [List.getElem?_append_right (Nat.le_refl _), Nat.sub_self] at e1
      rw [h.len, List.getElem?_append_right (Nat.le_refl _), Nat.sub_self] at e2
      injection e1 with e1
      injection e2 with e2
      subst e1 e2
      have q := hk hx
      exact ⟨q.n1, Own.base_ q.o1 hle, q.n2, Own.base_ q.o2 hle⟩
  · have hj := (List.getElem?_eq_some_iff.1 e2).1
    simp at hj
    rw [List.getElem?_append_left (by omega)] at e1
    by_cases hj2 : j < hs.length
    · rw [List.getElem?_append_left hj2] at e2
      exact h.apart i j y z hij e1 e2
    · have hj' : j = hs.length := by omega
      subst hj'
      rw [List.getElem?_append_right (Nat.le_refl _), Nat.sub_self] at e2
      injection e2 with e2
      subst e2
      have hi : i < m.length := by rw [← h.len]; exact hij
      have q := h.each i y m[i] e1 (List.getElem?_eq_getElem hi)
      exact ⟨fun a b ha hb => by have u := Own.block q.o1 ha; have v := Own.block hx.o1 hb; omega, fun a b ha hb => by have u := Own.block q.o2 ha; have v := Own.block hx.o2 hb; omega⟩

end Go.Proofs.YtjldkndalcellaaGreatDoor
