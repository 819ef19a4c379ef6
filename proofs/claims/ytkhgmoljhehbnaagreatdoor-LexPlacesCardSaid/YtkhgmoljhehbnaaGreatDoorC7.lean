/- The walks of lex.Read and lex.Gaps. -/
import Derived.Test.YtkhgmoljhehbnaaGreatDoorC6
namespace Go.Proofs.YtkhgmoljhehbnaaGreatDoor
open Go.RowKit

/-- how lex.read ends, in one form -/
def RdrU (w : World) (B : Nat) (R : Lx.Res) (e : Ending) : Prop := ∃ A cap G gcap mo so q sx, e = .returned (.tuple #[rdV A R.ts.length cap G R.gs.length gcap mo so q sx, .int .i64 R.at_, .int .i64 R.e]) ∧ OwnToks w B A cap R.ts ∧ OwnGaps w B G gcap R.gs ∧
  (R.e = 0 → ∃ bm bs, mo = some bm ∧ so = some ⟨bs, 0, none⟩ ∧ q = 26 ∧ Voc w bm bs)

theorem read_e (l : Lx.B) (k er : Nat) (h : Lx.read l = .bad k er) : er ≠ 0 := by
  unfold Lx.read at h
  split at h
  · have : ∀ fuel k0 l0 ts gs, Lx.scan fuel k0 l0 ts gs = .bad k er → er ≠ 0 := by
      intro fuel
      induction fuel with
      | zero => intro k0 l0 ts gs h; simp [Lx.scan] at h
      | succ n ih =>
        intro k0 l0 ts gs h
        rw [Lx.scan] at h
        split at h
        · cases h
        · split at h
          · exact ih _ _ _ _ h
          · split at h
            · cases h; decide
            · split at h
              · cases h; decide
              · exact ih _ _ _ _ h
    exact this _ _ _ _ _ h
  · cases h; assumption

theorem rd_any (s : ByteArray) (hs : s.size ≤ 281474976710656) (w : World) (he : Env w) :
    Calls Tryz.prog 18 #[.string s] w fun e w' => RdrU w' w.heap.size (Lx.read s.data.toList) e ∧ Below w.heap.size w w' := by
  have key : Calls Tryz.prog 18 #[.string s] w fun e w' => RdrIs w' w.heap.size s (Lx.read s.data.toList) e ∧ Below w.heap.size w w' := by
    by_cases h : (Lx.check s.data.toList).2 = 0
    · exact rd_ok s w he h
    · exact rd_bad s hs w h
  refine key.mono ?_
  rintro e w' ⟨h, hb⟩
  refine ⟨?_, hb⟩
  have hre := read_e s.data.toList
  generalize Lx.read s.data.toList = R at h hre ⊢
  cases R with
  | ok ts gs =>
    obtain ⟨A, cap, G, gcap, bm, bs, rfl, h1, h2, h3⟩ := h
    exact ⟨A, cap, G, gcap, _, _, _, _, rfl, h1, h2, fun _ => ⟨bm, bs, rfl, rfl, rfl, h3⟩⟩
  | bad k er =>
    have h : e = _ := h
    subst h
    exact ⟨none, 0, none, 0, _, _, _, _, rfl, ownToks_nil _ _, World.ownsRow_nil _ _ _ _, fun h => absurd h (hre k er rfl)⟩

set_option maxHeartbeats 2000000 in
theorem lexRead_any (s : ByteArray) (hs : s.size ≤ 281474976710656) (w : World) (he : Env w) :
    Calls Tryz.prog 10 #[.string s] w fun e w' => RdIs w' w.heap.size (Lx.read s.data.toList) e ∧ Below w.heap.size w w' := by
  have h := rd_any s hs w he
  generalize Lx.read s.data.toList = R at h ⊢
  have H := Lib.hid h
  clear h
  go_enter Tryz.func10, Tryz.ntmps10
  go_wp2_with fail
  refine H.out.mono ?_
  rintro e w1 ⟨⟨A, cap, G, gcap, mo, so, q, sx, heq, h1, h2, _⟩, hb⟩
  unfold rdV at heq
  subst heq
  have H1 := Lib.hid h1
  have hz := hb.size
  clear h1 h2
  go_wp2
  go_ret3
  exact ⟨⟨A, cap, rfl, H1.out.alloc _⟩, hb.alloc hz _⟩

/-- how Gaps ends -/
def GpIs (w : World) (base : Nat) (R : Lx.Res) (e : Ending) : Prop := ∃ A cap, e = .returned (.tuple #[.slice A R.gs.length cap, .int .i64 R.at_, .int .i64 R.e]) ∧ OwnGaps w base A cap R.gs

set_option maxHeartbeats 2000000 in
theorem lexGaps_any (s : ByteArray) (hs : s.size ≤ 281474976710656) (w : World) (he : Env w) :
    Calls Tryz.prog 11 #[.string s] w fun e w' => GpIs w' w.heap.size (Lx.read s.data.toList) e ∧ Below w.heap.size w w' := by
  have h := rd_any s hs w he
  generalize Lx.read s.data.toList = R at h ⊢
  have H := Lib.hid h
  clear h
  go_enter Tryz.func11, Tryz.ntmps11
  go_wp2_with fail
  refine H.out.mono ?_
  rintro e w1 ⟨⟨A, cap, G, gcap, mo, so, q, sx, heq, h1, h2, _⟩, hb⟩
  unfold rdV at heq
  subst heq
  have H1 := Lib.hid h2
  have hz := hb.size
  clear h1 h2
  go_wp2
  go_ret3
  exact ⟨⟨G, gcap, rfl, H1.out.alloc _⟩, hb.alloc hz _⟩

end Go.Proofs.YtkhgmoljhehbnaaGreatDoor
