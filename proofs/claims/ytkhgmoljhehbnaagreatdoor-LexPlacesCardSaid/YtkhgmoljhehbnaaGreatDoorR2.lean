/- The walks of the reference's Gap and Has. -/
import Derived.Test.YtkhgmoljhehbnaaGreatDoorR1
namespace Go.Proofs.YtkhgmoljhehbnaaGreatDoor
open Go.RowKit

theorem drop_at (s : ByteArray) (k : Nat) (h : k < s.size) : s.data.toList.drop k = s[k] :: s.data.toList.drop (k + 1) := by
  rw [List.drop_eq_getElem_cons (by simpa using h)]; rfl
theorem gap_byte (c : UInt8) (r : Lx.B) (h : Lx.gapByte c = true) : Lx.gap (c :: r) = 1 + Lx.gap r := by
  simp [Lx.gap, Lx.gapIn, h]; omega
theorem gap_open (c : UInt8) (r : Lx.B) (h : c.toNat = 126) : Lx.gap (c :: r) = Lx.gapIn true (c :: r) := by
  have h1 : Lx.isFeed c = false := by simp [Lx.isFeed, h]
  have h2 : Lx.gapByte c = false := by simp [Lx.gapByte, Lx.isBlank, Lx.isFeed, h]
  simp [Lx.gap, Lx.gapIn, h, h1, h2]
theorem gapIn_step (c : UInt8) (r : Lx.B) (h : c.toNat ≠ 10) : Lx.gapIn true (c :: r) = 1 + Lx.gapIn true r := by
  have h1 : Lx.isFeed c = false := by simpa [Lx.isFeed] using h
  simp [Lx.gapIn, h1]; omega
theorem gapIn_feed (c : UInt8) (r : Lx.B) (h : c.toNat = 10) : Lx.gapIn true (c :: r) = Lx.gap (c :: r) := by
  simp [Lx.gap, Lx.gapIn, Lx.isFeed, Lx.gapByte, h]

end Go.Proofs.YtkhgmoljhehbnaaGreatDoor
