/- The walks of the bytes' sorts: isPrinted, isFeed, isBlank, isLetter, isDigit of lex, IsLetter and IsDigit of the reference. -/
import Derived.Test.YtkhgmoljhehbnaaDoorProg
import Derived.Test.YtkhgmoljhehbnaaDoorPure
import Derived.WalkKit
import Derived.WalkSpells
import Derived.WalkLawsBesides
import Derived.Lib.Hide
import Derived.Shelf.Abstract
namespace Go.Proofs.YtkhgmoljhehbnaaDoor
open Go.RowKit

theorem u8lt (c : UInt8) : 0 ≤ (c.toNat : Int) ∧ (c.toNat : Int) ≤ 255 := ⟨by omega, by have := c.toNat_lt; omega⟩


set_option maxHeartbeats 400000 in
theorem isLetter_any (c : UInt8) (w : World) :
    Calls Tryd.prog 79 #[.int .u8 c.toNat] w fun e w' => e = .returned (.bool (Lx.isLetter c)) ∧ w = w' := by
  have hc := u8lt c
  by_cases h1 : (97 : Int) ≤ c.toNat <;> by_cases h2 : (c.toNat : Int) ≤ 122
  all_goals
    go_enter Tryd.func79, Tryd.ntmps79
    go_wp2
    go_ret
    refine ⟨?_, rfl⟩
    congr 2
    simp [Lx.isLetter]; omega

set_option maxHeartbeats 400000 in
theorem isDigit_any (c : UInt8) (w : World) :
    Calls Tryd.prog 81 #[.int .u8 c.toNat] w fun e w' => e = .returned (.bool (Lx.isDigit c)) ∧ w = w' := by
  have hc := u8lt c
  by_cases h1 : (48 : Int) ≤ c.toNat <;> by_cases h2 : (c.toNat : Int) ≤ 57
  all_goals
    go_enter Tryd.func81, Tryd.ntmps81
    go_wp2
    go_ret
    refine ⟨?_, rfl⟩
    congr 2
    simp [Lx.isDigit]; omega

set_option maxHeartbeats 400000 in
theorem isPrinted_any (c : UInt8) (w : World) :
    Calls Tryd.prog 43 #[.int .u8 c.toNat] w fun e w' => e = .returned (.bool (Lx.isPrinted c)) ∧ w = w' := by
  have hc := u8lt c
  by_cases h1 : (32 : Int) ≤ c.toNat <;> by_cases h2 : (c.toNat : Int) ≤ 126
  all_goals
    go_enter Tryd.func43, Tryd.ntmps43
    go_wp2
    go_ret
    refine ⟨?_, rfl⟩
    congr 2
    simp [Lx.isPrinted]; omega

set_option maxHeartbeats 400000 in
theorem refIsLetter_any (c : UInt8) (w : World) :
    Calls Tryd.prog 73 #[.int .u8 c.toNat] w fun e w' => e = .returned (.bool (Lx.isLetter c)) ∧ w = w' := by
  have hc := u8lt c
  by_cases h1 : (97 : Int) ≤ c.toNat <;> by_cases h2 : (c.toNat : Int) ≤ 122
  all_goals
    go_enter Tryd.func73, Tryd.ntmps73
    go_wp2
    go_ret
    refine ⟨?_, rfl⟩
    congr 2
    simp [Lx.isLetter]; omega

set_option maxHeartbeats 400000 in
theorem refIsDigit_any (c : UInt8) (w : World) :
    Calls Tryd.prog 72 #[.int .u8 c.toNat] w fun e w' => e = .returned (.bool (Lx.isDigit c)) ∧ w = w' := by
  have hc := u8lt c
  by_cases h1 : (48 : Int) ≤ c.toNat <;> by_cases h2 : (c.toNat : Int) ≤ 57
  all_goals
    go_enter Tryd.func72, Tryd.ntmps72
    go_wp2
    go_ret
    refine ⟨?_, rfl⟩
    congr 2
    simp [Lx.isDigit]; omega

set_option maxHeartbeats 400000 in
theorem isFeed_any (c : UInt8) (w : World) :
    Calls Tryd.prog 44 #[.int .u8 c.toNat] w fun e w' => e = .returned (.bool (Lx.isFeed c)) ∧ w = w' := by
  have hc := u8lt c
  by_cases h1 : (c.toNat : Int) = 10
  all_goals
    go_enter Tryd.func44, Tryd.ntmps44
    go_wp2
    go_ret
    refine ⟨?_, rfl⟩
    congr 2
    simp [Lx.isFeed]
    try (rw [Bool.eq_iff_iff]; simp; omega)
    try omega

set_option maxHeartbeats 400000 in
theorem isBlank_any (c : UInt8) (w : World) :
    Calls Tryd.prog 107 #[.int .u8 c.toNat] w fun e w' => e = .returned (.bool (Lx.isBlank c)) ∧ w = w' := by
  have hc := u8lt c
  by_cases h1 : (c.toNat : Int) = 32
  all_goals
    go_enter Tryd.func107, Tryd.ntmps107
    go_wp2
    go_ret
    refine ⟨?_, rfl⟩
    congr 2
    simp [Lx.isBlank]
    try (rw [Bool.eq_iff_iff]; simp; omega)
    try omega

set_option maxHeartbeats 400000 in
theorem notFeed_any (c : UInt8) (w : World) :
    Calls Tryd.prog 106 #[.int .u8 c.toNat] w fun e w' => e = .returned (.bool (!Lx.isFeed c)) ∧ w = w' := by
  go_enter Tryd.func106, Tryd.ntmps106
  go_wp2_with (go_at_call 44; refine (isFeed_any c _).mono ?_; rintro e w' ⟨rfl, rfl⟩)
  go_ret
  exact ⟨rfl, rfl⟩

/-- the sorts of bytes that are handed on as function values -/
inductive Srt where
  | letter | digit | printed | feed | blank | notFeed
deriving Inhabited
def Srt.fn : Srt → Nat
  | .letter => 79 | .digit => 81 | .printed => 43 | .feed => 44 | .blank => 107 | .notFeed => 106
def Srt.is : Srt → UInt8 → Bool
  | .letter => Lx.isLetter | .digit => Lx.isDigit | .printed => Lx.isPrinted | .feed => Lx.isFeed | .blank => Lx.isBlank | .notFeed => fun c => !Lx.isFeed c
def Srt.v (x : Srt) : Value := .func (.func x.fn) #[] #[]

theorem srt_any (x : Srt) (c : UInt8) (w : World) : Calls Tryd.prog x.fn #[.int .u8 c.toNat] w fun e w' => e = .returned (.bool (x.is c)) ∧ w = w' := by
  cases x
  · exact isLetter_any c w
  · exact isDigit_any c w
  · exact isPrinted_any c w
  · exact isFeed_any c w
  · exact isBlank_any c w
  · exact notFeed_any c w

theorem srt_enters (x : Srt) : ∀ args w, (callFunc x.fn args).run Tryd.prog w = .ok (.enter x.fn args) w := by
  cases x
  · exact enters_of Tryd.func79 (by kernel_rfl) rfl
  · exact enters_of Tryd.func81 (by kernel_rfl) rfl
  · exact enters_of Tryd.func43 (by kernel_rfl) rfl
  · exact enters_of Tryd.func44 (by kernel_rfl) rfl
  · exact enters_of Tryd.func107 (by kernel_rfl) rfl
  · exact enters_of Tryd.func106 (by kernel_rfl) rfl

/-- the function prefix$1: is the byte at a place of the sort? -/
theorem prefix1_any (x : Srt) (s : ByteArray) (k : Nat) (hk : k < s.size) (_hs : s.size ≤ maxLen) (p q : Addr) (w : World) (hp : w.cell? p = some (.string s)) (hq : w.cell? q = some (.int .i64 k)) :
    Calls Tryd.prog 66 #[x.v, .pointer (some p), .pointer (some q)] w fun e w' => e = .returned (.bool (x.is s[k])) ∧ w = w' := by
  have eg := srt_enters x
  have hcall := srt_any x s[k] w
  unfold Srt.v
  go_enter Tryd.func66, Tryd.ntmps66
  go_wp2_with (go_at_fn x.fn; refine hcall.mono ?_; rintro e w' ⟨rfl, rfl⟩)
  go_ret
  exact ⟨rfl, rfl⟩

end Go.Proofs.YtkhgmoljhehbnaaDoor
