/- The walk of known, and what its calls answer. -/
import Derived.Test.YtkhgmoljhehbnaaGreatDoorT5
/- The walk of known. -/
namespace Go.Proofs.YtkhgmoljhehbnaaGreatDoor
open Go.RowKit

def kS1 : ByteArray := ⟨#[97, 49, 32, 61, 32, 50, 46, 46, 98, 32, 126, 32, 115, 111]⟩
def kS2 : ByteArray := ⟨#[97, 32, 61, 32, 48, 48, 55]⟩
def kS3 : ByteArray := ⟨#[97, 63]⟩
def kS5 : ByteArray := ⟨#[100, 101, 102, 32, 32, 102, 32, 40, 32, 41, 32, 45, 62, 32, 105, 110, 116, 32, 123, 32, 103, 105, 118, 101, 32, 49, 32, 125]⟩
def kS6 : ByteArray := ⟨#[97, 32, 43, 32, 97, 32, 43, 32, 98]⟩
def kFrom : List LT := [⟨2, ⟨#[97]⟩, 0⟩, ⟨4, ⟨#[43]⟩, 0⟩]
def kTo : List LT := [⟨2, ⟨#[99]⟩, 0⟩, ⟨4, ⟨#[45]⟩, 0⟩]
def kT1 : List Lx.Tok := [⟨2, [97, 49], 0⟩, ⟨4, [61], 3⟩, ⟨3, [50], 5⟩, ⟨4, [46, 46], 6⟩, ⟨2, [98], 8⟩]
def kG1 : List (Nat × Nat) := [(2, 3), (4, 5), (9, 14)]

theorem k1 : Lx.read kS1.data.toList = .ok kT1 kG1 := by kernel_rfl
theorem k2 : Lx.read kS2.data.toList = .bad 4 4 := by kernel_rfl
theorem k3 : Lx.read kS3.data.toList = .bad 1 4 := by kernel_rfl
theorem k5 : bareP ((Lx.read kS5.data.toList).ts.map LT.of) = [100, 101, 102, 32, 102, 40, 41, 45, 62, 105, 110, 116, 123, 103, 105, 118, 101, 32, 49, 125] := by kernel_rfl
theorem k5a : (Lx.read kS5.data.toList).at_ = 0 := by kernel_rfl
theorem k5e : (Lx.read kS5.data.toList).e = 0 := by kernel_rfl
theorem k6e : (Lx.read kS6.data.toList).e = 0 := by kernel_rfl
theorem k6f : (writeP kFrom).2 = 0 := by kernel_rfl
theorem k6t : (writeP kTo).2 = 0 := by kernel_rfl
theorem k6n : (turnP kS6.data.toList kFrom kTo).2 = 2 := by kernel_rfl
theorem k6w : writeP (turnP kS6.data.toList kFrom kTo).1 = ([99, 45, 99, 45, 98], 0) := by kernel_rfl

theorem gapRow_get : ∀ (gs : List (Nat × Nat)) (i : Nat) (x : Nat × Nat), gs[i]? = some x → (gapRow gs)[i * 2]? = some (.int .i64 x.1) ∧ (gapRow gs)[i * 2 + 1]? = some (.int .i64 x.2)
  | [], i, t, h => by simp at h
  | x :: r, 0, t, h => by simp at h; subst h; simp [gapRow, gapCells]
  | x :: r, i + 1, t, h => by
    have h' : r[i]? = some t := by simpa using h
    obtain ⟨h0, h1⟩ := gapRow_get r i t h'
    have e : gapRow (x :: r) = gapCells x ++ gapRow r := by simp [gapRow]
    have hl : (gapCells x).length = 2 := rfl
    rw [e]
    refine ⟨?_, ?_⟩
    · rw [List.getElem?_append_right (by rw [hl]; omega), hl, show (i + 1) * 2 - 2 = i * 2 by omega]; exact h0
    · rw [List.getElem?_append_right (by rw [hl]; omega), hl, show (i + 1) * 2 + 1 - 2 = i * 2 + 1 by omega]; exact h1

theorem gaps_at {w : World} {B : Nat} {G : Option Addr} {cap : Nat} {gs : List (Nat × Nat)} (h : OwnGaps w B G cap gs) (hl : 0 < gs.length) : ∃ g, G = some ⟨g, 0, none⟩ ∧ g < w.heap.size ∧ ∀ i x, gs[i]? = some x → w.cell? ⟨g, i * 2, none⟩ = some (.int .i64 x.1) ∧ w.cell? ⟨g, i * 2 + 1, none⟩ = some (.int .i64 x.2) := by
  have hlt := h.lt
  obtain ⟨g, cap', hv, hg, _⟩ := h.form hl
  injection hv with hA hn hc
  subst hA hc
  refine ⟨g, rfl, (hlt g rfl).2, fun i x hx => ?_⟩
  have hi : i < gs.length := by
    rcases Nat.lt_or_ge i gs.length with h | h
    · exact h
    · rw [List.getElem?_eq_none h] at hx; cases hx
  obtain ⟨h0, h1⟩ := gapRow_get gs i x hx
  have hc := fun j (hj : j < gs.length * 2) => World.ownsRow.cellAt h j hj
  exact ⟨by rw [hc _ (by omega)]; exact h0, by rw [hc _ (by omega)]; exact h1⟩

end Go.Proofs.YtkhgmoljhehbnaaGreatDoor

/- The walk of known, whole. -/
namespace Go.Proofs.YtkhgmoljhehbnaaGreatDoor
open Go.RowKit

theorem kRead1 (W : World) (he : Env W) : Calls Tryz.prog 10 #[.string ⟨#[97, 49, 32, 61, 32, 50, 46, 46, 98, 32, 126, 32, 115, 111]⟩] W fun e w' => (∃ g cap, e = .returned (.tuple #[.slice (some ⟨g, 0, none⟩) 5 cap, .int .i64 0, .int .i64 0]) ∧ g < w'.heap.size ∧ w'.cell? ⟨g, 9, none⟩ = some (.int .u8 4) ∧ w'.cell? ⟨g, 10, none⟩ = some (.string ⟨#[46, 46]⟩) ∧ w'.cell? ⟨g, 11, none⟩ = some (.int .i64 6) ∧ w'.cell? ⟨g, 14, none⟩ = some (.int .i64 8)) ∧ Below W.heap.size W w' := by
  refine (lexRead_any kS1 (by decide) W he).mono ?_
  rintro e w' ⟨⟨A, cap, rfl, hown⟩, hb⟩
  refine ⟨?_, hb⟩
  rw [k1] at hown ⊢
  obtain ⟨g, rfl, _, hin⟩ := toksIn_of_own hown (by simp [Lx.Res.ts, kT1])
  obtain ⟨a0, a1, a2⟩ := hin 3 _ rfl
  obtain ⟨_, _, b2⟩ := hin 4 _ rfl
  exact ⟨g, cap, rfl, hin.lt (by simp [Lx.Res.ts, kT1]), a0, a1, a2, b2⟩
theorem kRead2 (W : World) (he : Env W) : Calls Tryz.prog 10 #[.string ⟨#[97, 32, 61, 32, 48, 48, 55]⟩] W fun e w' => (∃ A cap, e = .returned (.tuple #[.slice A 0 cap, .int .i64 4, .int .i64 4])) ∧ Below W.heap.size W w' := by
  refine (lexRead_any kS2 (by decide) W he).mono ?_
  rintro e w' ⟨⟨A, cap, rfl, hown⟩, hb⟩
  rw [k2] at hown ⊢
  exact ⟨⟨A, cap, rfl⟩, hb⟩
theorem kRead3 (W : World) (he : Env W) : Calls Tryz.prog 10 #[.string ⟨#[97, 63]⟩] W fun e w' => (∃ A cap, e = .returned (.tuple #[.slice A 0 cap, .int .i64 1, .int .i64 4])) ∧ Below W.heap.size W w' := by
  refine (lexRead_any kS3 (by decide) W he).mono ?_
  rintro e w' ⟨⟨A, cap, rfl, hown⟩, hb⟩
  rw [k3] at hown ⊢
  exact ⟨⟨A, cap, rfl⟩, hb⟩
theorem kGaps (W : World) (he : Env W) : Calls Tryz.prog 11 #[.string ⟨#[97, 49, 32, 61, 32, 50, 46, 46, 98, 32, 126, 32, 115, 111]⟩] W fun e w' => (∃ g cap, e = .returned (.tuple #[.slice (some ⟨g, 0, none⟩) 3 cap, .int .i64 0, .int .i64 0]) ∧ g < w'.heap.size ∧ w'.cell? ⟨g, 4, none⟩ = some (.int .i64 9) ∧ w'.cell? ⟨g, 5, none⟩ = some (.int .i64 14)) ∧ Below W.heap.size W w' := by
  refine (lexGaps_any kS1 (by decide) W he).mono ?_
  rintro e w' ⟨⟨A, cap, rfl, hown⟩, hb⟩
  refine ⟨?_, hb⟩
  rw [k1] at hown ⊢
  obtain ⟨g, rfl, hlt, hin⟩ := gaps_at hown (by decide)
  obtain ⟨a0, a1⟩ := hin 2 _ rfl
  exact ⟨g, cap, rfl, hlt, a0, a1⟩
theorem kBare (W : World) (he : Env W) : Calls Tryz.prog 12 #[.string ⟨#[100, 101, 102, 32, 32, 102, 32, 40, 32, 41, 32, 45, 62, 32, 105, 110, 116, 32, 123, 32, 103, 105, 118, 101, 32, 49, 32, 125]⟩] W fun e w' => e = .returned (.tuple #[.string ⟨#[100, 101, 102, 32, 102, 40, 41, 45, 62, 105, 110, 116, 123, 103, 105, 118, 101, 32, 49, 125]⟩, .int .i64 0, .int .i64 0]) ∧ Below W.heap.size W w' := by
  refine (lexBare_any kS5 (by decide) W he).mono ?_
  rintro e w' ⟨rfl, hb⟩
  rw [k5, k5a, k5e]
  exact ⟨rfl, hb⟩
theorem kTurn (b1 b2 : Nat) (W : World) (he : Env W) (h1 : ToksIn W b1 0 kFrom) (h2 : ToksIn W b2 0 kTo) : Calls Tryz.prog 13 #[.string ⟨#[97, 32, 43, 32, 97, 32, 43, 32, 98]⟩, .slice (some ⟨b1, 0, none⟩) 2 2, .slice (some ⟨b2, 0, none⟩) 2 2] W fun e w' => e = .returned (.tuple #[.string ⟨#[99, 45, 99, 45, 98]⟩, .int .i64 2, .int .i64 0]) ∧ Below W.heap.size W w' := by
  have hsz : ∀ l : List LT, (∀ x ∈ l, decide (x.text.size ≤ 2500) = true) → ∀ x ∈ l, x.text.size ≤ 2500 := fun l h x hx => of_decide_eq_true (h x hx)
  refine (turn_ok kS6 (by decide) kFrom kTo (by intro x hx; simp [kFrom] at hx; rcases hx with rfl | rfl <;> decide) (by intro x hx; simp [kTo] at hx; rcases hx with rfl | rfl <;> decide) (by decide) (by decide) (by decide) k6e k6f k6t (by rw [k6w]) (some ⟨b1, 0, none⟩) 2 b2 0 2 W he ⟨fun _ => ⟨b1, 0, rfl, h1⟩⟩ h2 (h2.lt (by simp [kTo]))).mono ?_
  rintro e w' ⟨rfl, hb⟩
  rw [k6w, k6n]
  exact ⟨rfl, hb⟩

theorem toksIn_pair {w : World} {b k1 k2 : Nat} {t1 t2 : ByteArray} (h0 : w.cell? ⟨b, 0, none⟩ = some (.int .u8 k1)) (h1 : w.cell? ⟨b, 1, none⟩ = some (.string t1)) (h2 : w.cell? ⟨b, 2, none⟩ = some (.int .i64 0)) (h3 : w.cell? ⟨b, 3, none⟩ = some (.int .u8 k2)) (h4 : w.cell? ⟨b, 4, none⟩ = some (.string t2)) (h5 : w.cell? ⟨b, 5, none⟩ = some (.int .i64 0)) :
    ToksIn w b 0 [⟨k1, t1, 0⟩, ⟨k2, t2, 0⟩] := by
  intro i x hx
  match i, hx with
  | 0, hx => simp at hx; subst hx; exact ⟨h0, h1, h2⟩
  | 1, hx => simp at hx; subst hx; exact ⟨h3, h4, h5⟩
  | i + 2, hx => simp at hx

set_option maxRecDepth 100000 in
set_option maxHeartbeats 8000000 in
theorem known_any (w : World) (he : Env w) : Calls Tryz.prog 4 #[] w fun e w' => e = .returned (.bool true) ∧ Below w.heap.size w w' := by
  have HE := Lib.hid he
  clear he
  go_enter Tryz.func4, Tryz.ntmps4
  go_wp2_with fail
  refine (kRead1 _ HE.out).mono ?_
  rintro e w1 ⟨⟨g, cap, rfl, hg, c0, c1, c2, c3⟩, hb1⟩
  have HE1 := Lib.hid (HE.out.below hb1 HE.out.lt)
  go_wp2_with fail
  refine (kRead2 _ HE1.out).mono ?_
  rintro e w2 ⟨⟨A2, cap2, rfl⟩, hb2⟩
  have HE2 := Lib.hid (HE1.out.below hb2 HE1.out.lt)
  go_wp2_with fail
  refine (kRead3 _ HE2.out).mono ?_
  rintro e w3 ⟨⟨A3, cap3, rfl⟩, hb3⟩
  have HE3 := Lib.hid (HE2.out.below hb3 HE2.out.lt)
  go_wp2_with fail
  refine (kGaps _ HE3.out).mono ?_
  rintro e w4 ⟨⟨g4, cap4, rfl, hg4, d0, d1⟩, hb4⟩
  have HE4 := Lib.hid (HE3.out.below hb4 HE3.out.lt)
  go_wp2_with fail
  refine (kBare _ HE4.out).mono ?_
  rintro e w5 ⟨rfl, hb5⟩
  have HE5 := Lib.hid (HE4.out.below hb5 HE4.out.lt)
  have z1 := hb1.size
  have z2 := hb2.size
  have z3 := hb3.size
  have z4 := hb4.size
  have z5 := hb5.size
  go_wp2_with fail
  refine (kTurn w5.heap.size (w5.heap.size + 1) _ ((HE5.out.alloc _).alloc _) (toksIn_pair (by simp) (by simp) (by simp) (by simp) (by simp) (by simp)) (toksIn_pair (by simp) (by simp) (by simp) (by simp) (by simp) (by simp))).mono ?_
  rintro e w6 ⟨rfl, hb6⟩
  simp only [World.size_alloc] at hb6
  have hb56 : Below w5.heap.size w5 w6 := (((Below.refl _ w5).alloc (Nat.le_refl _) _).alloc (by simp) _).trans (hb6.mono (by omega))
  have hb16 : Below w1.heap.size w1 w6 := hb2.trans ((hb3.mono (by omega)).trans ((hb4.mono (by omega)).trans ((hb5.mono (by omega)).trans (hb56.mono (by omega)))))
  have hb46 : Below w4.heap.size w4 w6 := hb5.trans (hb56.mono (by omega))
  have hb : Below w.heap.size w w6 := hb1.trans (hb16.mono (by omega))
  have c0 := ((bcell hb16).1 _ _ hg).trans c0
  have c1 := ((bcell hb16).1 _ _ hg).trans c1
  have c2 := ((bcell hb16).1 _ _ hg).trans c2
  have c3 := ((bcell hb16).1 _ _ hg).trans c3
  have d0 := ((bcell hb46).1 _ _ hg4).trans d0
  have d1 := ((bcell hb46).1 _ _ hg4).trans d1
  clear hb1 hb2 hb3 hb4 hb5 hb6 hb56 hb16 hb46 HE HE1 HE2 HE3 HE4 HE5 z1 z2 z3 z4 z5
  go_wp2
  go_ret
  exact ⟨rfl, hb⟩

end Go.Proofs.YtkhgmoljhehbnaaGreatDoor

