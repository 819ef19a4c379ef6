/- The walk of known. -/
import Derived.Test.YtkhgmoljhehbnaaDoorT5
namespace Go.Proofs.YtkhgmoljhehbnaaDoor
open Go.RowKit

def kS1 : ByteArray := ⟨#[97, 49, 32, 61, 32, 50, 46, 46, 98, 32, 126, 32, 115, 111]⟩
def kS2 : ByteArray := ⟨#[97, 32, 61, 32, 48, 48, 55]⟩
def kS3 : ByteArray := ⟨#[97, 63]⟩
def kS5 : ByteArray := ⟨#[100, 101, 102, 32, 32, 102, 32, 40, 32, 41, 32, 45, 62, 32, 105, 110, 116, 32, 123, 32, 103, 105, 118, 101, 32, 49, 32, 125]⟩
def kS6 : ByteArray := ⟨#[97, 32, 43, 32, 97, 32, 43, 32, 98]⟩
def kFrom : List LT := [⟨2, ⟨#[97]⟩, 0⟩, ⟨4, ⟨#[43]⟩, 0⟩]
def kTo : List LT := [⟨2, ⟨#[99]⟩, 0⟩, ⟨4, ⟨#[45]⟩, 0⟩]
def kT1 : List Lx.Tok := [⟨2, [97, 49], 0⟩, ⟨4, [61], 3⟩, ⟨3, [50], 5⟩, ⟨4, [46, 46], 6⟩, ⟨2, [98], 8⟩]
def kG1 : List (Nat × Nat) := [(2, 3), (4, 5), (9, 14)]

theorem k1 : Lx.read kS1.data.toList = .ok kT1 kG1 := by kernel_rfl
theorem k2 : Lx.read kS2.data.toList = .bad 4 4 := by kernel_rfl
theorem k3 : Lx.read kS3.data.toList = .bad 1 4 := by kernel_rfl
theorem k5 : bareP ((Lx.read kS5.data.toList).ts.map LT.of) = [100, 101, 102, 32, 102, 40, 41, 45, 62, 105, 110, 116, 123, 103, 105, 118, 101, 32, 49, 125] := by kernel_rfl
theorem k5a : (Lx.read kS5.data.toList).at_ = 0 := by kernel_rfl
theorem k5e : (Lx.read kS5.data.toList).e = 0 := by kernel_rfl
theorem k6e : (Lx.read kS6.data.toList).e = 0 := by kernel_rfl
theorem k6f : (writeP kFrom).2 = 0 := by kernel_rfl
theorem k6t : (writeP kTo).2 = 0 := by kernel_rfl
theorem k6n : (turnP kS6.data.toList kFrom kTo).2 = 2 := by kernel_rfl
theorem k6w : writeP (turnP kS6.data.toList kFrom kTo).1 = ([99, 45, 99, 45, 98], 0) := by kernel_rfl

theorem gapRow_get : ∀ (gs : List (Nat × Nat)) (i : Nat) (x : Nat × Nat), gs[i]? = some x → (gapRow gs)[i * 2]? = some (.int .i64 x.1) ∧ (gapRow gs)[i * 2 + 1]? = some (.int .i64 x.2)
  | [], i, t, h => by simp at h
  | x :: r, 0, t, h => by simp at h; subst h; simp [gapRow, gapCells]
  | x :: r, i + 1, t, h => by
    have h' : r[i]? = some t := by simpa using h
    obtain ⟨h0, h1⟩ := gapRow_get r i t h'
    have e : gapRow (x :: r) = gapCells x ++ gapRow r := by simp [gapRow]
    have hl : (gapCells x).length = 2 := rfl
    rw [e]
    refine ⟨?_, ?_⟩
    · rw [List.getElem?_append_right (by rw [hl]; omega), hl, show (i + 1) * 2 - 2 = i * 2 by omega]; exact h0
    · rw [List.getElem?_append_right (by rw [hl]; omega), hl, show (i + 1) * 2 + 1 - 2 = i * 2 + 1 by omega]; exact h1

theorem gaps_at {w : World} {B : Nat} {G : Option Addr} {cap : Nat} {gs : List (Nat × Nat)} (h : OwnGaps w B G cap gs) (hl : 0 < gs.length) : ∃ g, G = some ⟨g, 0, none⟩ ∧ g < w.heap.size ∧ ∀ i x, gs[i]? = some x → w.cell? ⟨g, i * 2, none⟩ = some (.int .i64 x.1) ∧ w.cell? ⟨g, i * 2 + 1, none⟩ = some (.int .i64 x.2) := by
  have hlt := h.lt
  obtain ⟨g, cap', hv, hg, _⟩ := h.form hl
  injection hv with hA hn hc
  subst hA hc
  refine ⟨g, rfl, (hlt g rfl).2, fun i x hx => ?_⟩
  have hi : i < gs.length := by
    rcases Nat.lt_or_ge i gs.length with h | h
    · exact h
    · rw [List.getElem?_eq_none h] at hx; cases hx
  obtain ⟨h0, h1⟩ := gapRow_get gs i x hx
  have hc := fun j (hj : j < gs.length * 2) => World.ownsRow.cellAt h j hj
  exact ⟨by rw [hc _ (by omega)]; exact h0, by rw [hc _ (by omega)]; exact h1⟩

end Go.Proofs.YtkhgmoljhehbnaaDoor
