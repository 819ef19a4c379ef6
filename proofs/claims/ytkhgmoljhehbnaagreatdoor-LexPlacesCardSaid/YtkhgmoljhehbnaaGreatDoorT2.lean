/- The walks of slices.EqualFunc over alike, and begins. -/
import Derived.Test.YtkhgmoljhehbnaaGreatDoorT1
namespace Go.Proofs.YtkhgmoljhehbnaaGreatDoor
open Go.RowKit

def sameL (x y : LT) : Bool := sameB x.kind x.text y.kind y.text
def eqL : List LT → List LT → Bool
  | [], [] => true
  | x :: r, y :: t => sameL x y && eqL r t
  | _, _ => false
theorem eqL_at {xs ys : List LT} {k : Nat} {x y : LT} (hx : xs[k]? = some x) (hy : ys[k]? = some y) : eqL (xs.drop k) (ys.drop k) = (sameL x y && eqL (xs.drop (k + 1)) (ys.drop (k + 1))) := by
  obtain ⟨hk, rfl⟩ := List.getElem?_eq_some_iff.1 hx
  obtain ⟨hk2, rfl⟩ := List.getElem?_eq_some_iff.1 hy
  rw [List.drop_eq_getElem_cons hk, List.drop_eq_getElem_cons hk2, eqL]

theorem alike_ex (ka kb : Nat) (ta tb : ByteArray) (aa ab : Int) (w : World) :
    Calls Tryz.prog 49 #[.agg #[.int .u8 ka, .string ta, .int .i64 aa], .agg #[.int .u8 kb, .string tb, .int .i64 ab]] w fun e w' => e = .returned (.bool (sameB ka ta kb tb)) ∧ Below w.heap.size w w' := alike_any ka kb ta tb aa ab w

set_option maxRecDepth 100000 in
set_option maxHeartbeats 2000000 in
theorem equalFunc_any (xs ys : List LT) (hl : xs.length = ys.length) (hn : xs.length ≤ 3000000) (A C : Option Addr) (cap cap2 : Nat) (w : World) (h1 : Arg w A xs) (h2 : Arg w C ys) :
    Calls Tryz.prog 51 #[.slice A xs.length cap, .slice C ys.length cap2, .func (.func 49) #[] #[]] w fun e w' => e = .returned (.bool (eqL xs ys)) ∧ Below w.heap.size w w' := by
  rw [← hl]
  have H1 := Lib.hid h1
  have H2 := Lib.hid h2
  clear h1 h2
  have HLL := Lib.hid hl
  clear hl
  go_enter Tryz.func51, Tryz.ntmps51
  go_wp2_with fail
  go_loopw [17] (fun a wr => ∃ k : Nat, k ≤ xs.length ∧ a = .int .i64 k ∧ Hid (eqL xs ys = eqL (xs.drop k) (ys.drop k)) ∧ Below w.heap.size w wr) (fun a _ => xs.length - (intOf a).toNat)
  case atStart => exact ⟨0, Nat.zero_le _, rfl, Lib.hid (by simp), Below.refl _ _⟩
  case round =>
    obtain ⟨k, hk, rfl, HK, hbw⟩ := hrel
    have hzw := hbw.size
    by_cases hlt : k < xs.length
    · have hlt' : (k : Int) < xs.length := by omega
      obtain ⟨x, hx⟩ : ∃ x, xs[k]? = some x := ⟨_, List.getElem?_eq_getElem hlt⟩
      obtain ⟨y, hy⟩ : ∃ y, ys[k]? = some y := ⟨_, List.getElem?_eq_getElem (by have := HLL.out; omega)⟩
      obtain ⟨blk, off, rfl, hin⟩ := H1.out.at_ (by intro e; subst e; simp at hlt)
      obtain ⟨blk2, off2, rfl, hin2⟩ := H2.out.at_ (by intro e; have := HLL.out; subst e; simp at this; subst this; simp at hlt)
      have hbl := hin.lt (by intro e; subst e; simp at hlt)
      have hbl2 := hin2.lt (by intro e; have := HLL.out; subst e; simp at this; subst this; simp at hlt)
      obtain ⟨x0, x1, x2⟩ := (hin.below hbw (fun _ => hbl)) k x hx
      obtain ⟨y0, y1, y2⟩ := (hin2.below hbw (fun _ => hbl2)) k y hy
      have y0 := (cell_al wr (.cells #[.int .u8 x.kind, .string x.text, .int .i64 x.at_] 44) (by omega)).trans y0
      have y1 := (cell_al wr (.cells #[.int .u8 x.kind, .string x.text, .int .i64 x.at_] 44) (by omega)).trans y1
      have y2 := (cell_al wr (.cells #[.int .u8 x.kind, .string x.text, .int .i64 x.at_] 44) (by omega)).trans y2
      have heq := HK.out
      rw [eqL_at hx hy] at heq
      have hal := fun W => alike_ex x.kind y.kind x.text y.text x.at_ y.at_ W
      have hsl : sameB x.kind x.text y.kind y.text = sameL x y := rfl
      rw [hsl] at hal
      generalize sameL x y = q at hal heq
      have HAL := Lib.hid hal
      clear hal hsl hin hin2 hx hy HK
      cases q with
      | false =>
        have HF := Lib.hid heq
        clear heq
        go_wp2_with fail
        refine (HAL.out _).mono ?_
        rintro e w2 ⟨rfl, hb2⟩
        have hb : Below w.heap.size w w2 := ((hbw.alloc (by omega) _).alloc (by simp; omega) _).trans (hb2.mono (by simp; omega))
        clear hb2 x0 x1 x2 y0 y1 y2
        go_wp2
        go_ret
        exact ⟨by rw [HF.out]; rfl, hb⟩
      | true =>
        rw [Bool.true_and] at heq
        have HF := Lib.hid heq
        clear heq
        go_wp2_with fail
        refine (HAL.out _).mono ?_
        rintro e w2 ⟨rfl, hb2⟩
        have hb : Below w.heap.size w w2 := ((hbw.alloc (by omega) _).alloc (by simp; omega) _).trans (hb2.mono (by simp; omega))
        clear hb2 x0 x1 x2 y0 y1 y2
        go_wp2_with fail
        go_roundw
        case rel => exact ⟨k + 1, by omega, by go_num, HF, hb⟩
        case measure => simp [intOf]; omega
    · have hlt' : ¬ (k : Int) < xs.length := by omega
      have hkn : k = xs.length := by omega
      have hall := HK.out
      rw [List.drop_eq_nil_of_le (by omega), List.drop_eq_nil_of_le (by have := HLL.out; omega), eqL] at hall
      have HA := Lib.hid hall
      clear hall
      go_wp2
      go_ret
      exact ⟨by rw [HA.out]; rfl, hbw⟩

def beginsP (l m : List LT) : Bool := decide (m.length ≤ l.length) && eqL (l.take m.length) m

theorem Arg.take {w : World} {A : Option Addr} {ts : List LT} (h : Arg w A ts) (n : Nat) : Arg w A (ts.take n) :=
  ⟨fun hne => by
    obtain ⟨blk, off, h1, h2⟩ := h.at_ (by intro e; subst e; simp at hne)
    refine ⟨blk, off, h1, fun i x hx => h2 i x ?_⟩
    rw [List.getElem?_take] at hx
    split at hx
    · exact hx
    · cases hx⟩

set_option maxRecDepth 100000 in
set_option maxHeartbeats 2000000 in
theorem begins_any (xs ys : List LT) (hn : xs.length ≤ 3000000) (hn2 : ys.length ≤ 3000000) (A C : Option Addr) (cap cap2 : Nat) (hcap : xs.length ≤ cap) (hA : A = none → cap = 0) (w : World) (h1 : Arg w A xs) (h2 : Arg w C ys) :
    Calls Tryz.prog 39 #[.slice A xs.length cap, .slice C ys.length cap2] w fun e w' => e = .returned (.bool (beginsP xs ys)) ∧ Below w.heap.size w w' := by
  by_cases h : ys.length ≤ xs.length
  · have hge : (ys.length : Int) ≤ xs.length := by omega
    have hlen : (xs.take ys.length).length = ys.length := by simp; omega
    have hq : beginsP xs ys = eqL (xs.take ys.length) ys := by unfold beginsP; simp [h]
    have hef := fun W hb => equalFunc_any (xs.take ys.length) ys hlen (by omega) A C cap cap2 W ((h1.take ys.length).below hb) (h2.below hb)
    rw [hlen] at hef
    rw [hq]
    generalize eqL (xs.take ys.length) ys = q at hef ⊢
    have HEF := Lib.hid hef
    have hc1 : (ys.length : Int) ≤ cap := by omega
    clear hef h1 h2
    rcases A with _ | a
    · have : cap = 0 := hA rfl
      subst this
      have hy0 : ys.length = 0 := by omega
      have hx0 : xs.length = 0 := by omega
      rw [hy0] at HEF ⊢
      rw [hx0]
      clear hge hc1
      go_enter Tryz.func39, Tryz.ntmps39
      go_wp2_with fail
      refine (HEF.out _ (Below.refl _ _)).mono ?_
      rintro e w1 ⟨rfl, hb1⟩
      go_wp2
      go_ret
      exact ⟨rfl, hb1⟩
    · go_enter Tryz.func39, Tryz.ntmps39
      go_wp2_with fail
      refine (HEF.out _ (Below.refl _ _)).mono ?_
      rintro e w1 ⟨rfl, hb1⟩
      go_wp2
      go_ret
      exact ⟨rfl, hb1⟩
  · have hge : ¬ (ys.length : Int) ≤ xs.length := by omega
    have hq : Hid (beginsP xs ys = false) := by show _ = _; unfold beginsP; simp [h]
    clear h1 h2
    go_enter Tryz.func39, Tryz.ntmps39
    go_wp2
    go_ret
    exact ⟨by rw [hq.out]; rfl, Below.refl _ _⟩

end Go.Proofs.YtkhgmoljhehbnaaGreatDoor
