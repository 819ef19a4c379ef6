/- The walk of prefix: how many bytes at the beginning are of one of the sorts. -/
import Derived.Test.YtkhgmoljhehbnaaDoorW2
import Derived.Lib.IndexBytes
namespace Go.Proofs.YtkhgmoljhehbnaaDoor
open Go.RowKit

theorem bcell {B : Nat} {W w1 : World} (hb : Below B W w1) : (∀ b o, b < B → w1.cell? ⟨b, o, none⟩ = W.cell? ⟨b, o, none⟩) ∧ (∀ b o, b < B → w1.frozen? ⟨b, o, none⟩ = W.frozen? ⟨b, o, none⟩) :=
  ⟨fun b o h => hb.cell (p := ⟨b, o, none⟩) h, fun b o h => hb.frozen (p := ⟨b, o, none⟩) h⟩

theorem bytes_at (s : ByteArray) (k : Nat) (hk : k < s.size) : s.data.toList[k]? = some s[k] := by
  rw [List.getElem?_eq_getElem (by simpa using hk)]; rfl

theorem SrtRow.below {w w' : World} {b B : Nat} {xs : List Srt} (h : SrtRow w b xs) (hb : Below B w w') (hB : b < B) : SrtRow w' b xs :=
  fun j x hj => (hb.cell (p := ⟨b, j, none⟩) hB).trans (h j x hj)

theorem cell_al (w : World) (o : Obj) {b off : Nat} (h : b < w.heap.size) : (w.alloc o).cell? ⟨b, off, none⟩ = w.cell? ⟨b, off, none⟩ := World.cell?_alloc_lt w o ⟨b, off, none⟩ h

def anySrt (xs : List Srt) (c : UInt8) : Bool := xs.any fun x => x.is c

set_option maxHeartbeats 1000000 in
theorem prefix_any (s : ByteArray) (hs : s.size ≤ maxLen) (b cap : Nat) (xs : List Srt) (hx : xs.length ≤ 100) (w : World) (hb : b < w.heap.size) (hr : SrtRow w b xs) :
    Calls Tryd.prog 42 #[.string s, .slice (some ⟨b, 0, none⟩) xs.length cap] w fun e w' => e = .returned (.int .i64 (Lx.run (anySrt xs) s.data.toList)) ∧ Below w.heap.size w w' := by
  have hm : (s.size : Int) ≤ 9223372036854775807 := by unfold maxLen at hs; omega
  go_enter Tryd.func42, Tryd.ntmps42
  have eg : ∀ args w, (callFunc 66 args).run Tryd.prog w = .ok (.enter 66 args) w := enters_of Tryd.func66 (by kernel_rfl) rfl
  have HR := Lib.hid hr
  clear hr
  go_wp2
  go_loopw [5, 8] (fun _ i wr => ∃ k : Nat, k ≤ s.size ∧ i = .int .i64 k ∧ Hid (∀ i c, i < k → s.data.toList[i]? = some c → anySrt xs c = true) ∧ Below (w.heap.size + 1) (w.alloc (.cells #[.string s] 9)) wr) (fun _ i _ => s.size - (intOf i).toNat)
  case atStart => exact ⟨0, Nat.zero_le _, rfl, fun i y hi => absurd hi (by omega), by simpa using Below.refl _ _⟩
  case round =>
    obtain ⟨k, hk, rfl, HJ, hB⟩ := hrel
    obtain ⟨hc, hf⟩ := bcell hB
    have hz : w.heap.size + 1 ≤ wr.heap.size := by have := hB.size; simpa using this
    have hbox : wr.cell? ⟨w.heap.size, 0, none⟩ = some (.string s) := by rw [hc _ _ (by omega)]; simp
    have hBw : Below w.heap.size w wr := ((Below.refl _ w).alloc (Nat.le_refl _) _).trans (hB.mono (by omega))
    by_cases hlt : k < s.size
    · have hrow := HR.out.below hBw (by omega)
      have hba := bytes_at s k hlt
      have HA := Lib.hid hba
      have hbB : b < wr.heap.size := by omega
      have hcall := containsSrt_any s[k] s k hlt hs rfl ⟨w.heap.size, 0, none⟩ ⟨wr.heap.size, 0, none⟩ b cap xs hx (wr.alloc (.cells #[.int .i64 k] 3)) (by rw [cell_al _ _ (by omega)]; exact hbox) (by simp)
        (fun j x hj => by rw [cell_al _ _ (by omega)]; exact HR.out.below hBw (by omega) j x hj)
      clear hba hrow hbox
      cases ha : anySrt xs s[k]
      · have HN := Lib.hid ha
        unfold anySrt at ha
        rw [ha] at hcall
        clear ha
        go_wp2_with (go_at_call 65; refine hcall.mono ?_; rintro e w' ⟨rfl, rfl⟩)
        go_ret
        refine ⟨?_, hBw.alloc (by omega) _⟩
        rw [Lx.run_split (anySrt xs) s.data.toList k (fun i hi => ?_) (fun _ => ⟨s[k], HA.out, HN.out⟩) (by simp; omega)]
        · rfl
        · have hl : i < s.data.toList.length := by simp; omega
          exact ⟨_, List.getElem?_eq_getElem hl, HJ.out i _ hi (List.getElem?_eq_getElem hl)⟩
      · have HN := Lib.hid ha
        unfold anySrt at ha
        rw [ha] at hcall
        clear ha
        go_wp2_with (go_at_call 65; refine hcall.mono ?_; rintro e w' ⟨rfl, rfl⟩)
        go_roundw
        case rel =>
          refine ⟨k + 1, by omega, by go_num, fun i c hi hy => ?_, hB.alloc (by omega) _⟩
          by_cases e : i = k
          · subst e; rw [HA.out] at hy; cases hy; exact HN.out
          · exact HJ.out i c (by omega) hy
        case measure => simp [intOf]; omega
    · have : k = s.size := by omega
      subst this
      go_wp2
      go_ret
      refine ⟨?_, hBw⟩
      rw [Lx.run_split (anySrt xs) s.data.toList s.size (fun i hi => ?_) (fun h => absurd h (by simp)) (by simp)]
      · rfl
      · have hl : i < s.data.toList.length := by simp; omega
        exact ⟨_, List.getElem?_eq_getElem hl, HJ.out i _ hi (List.getElem?_eq_getElem hl)⟩

/-- prefix at a row that was just made -/
theorem prefix_row (xs : List Srt) (hx : xs.length ≤ 100) (p : UInt8 → Bool) (hp : anySrt xs = p) (t : ByteArray) (l : Lx.B) (ht : t.data.toList = l) (hs : t.size ≤ maxLen) (w : World) :
    Calls Tryd.prog 42 #[.string t, .slice (some ⟨w.heap.size, 0, none⟩) xs.length xs.length] (w.alloc (.cells (xs.map Srt.v).toArray 71)) fun e w' => e = .returned (.int .i64 (Lx.run p l)) ∧ Below w.heap.size w w' := by
  subst ht; subst hp
  refine (prefix_any t hs w.heap.size xs.length xs hx _ (by simp) (fun j x hj => ?_)).mono fun e w' ⟨he, hb⟩ => ⟨he, ((Below.refl _ _).alloc (Nat.le_refl _) _).trans (hb.mono (by simp))⟩
  simp [hj]

theorem prefix_notFeed (t : ByteArray) (l : Lx.B) (ht : t.data.toList = l) (hs : t.size ≤ maxLen) (w : World) :
    Calls Tryd.prog 42 #[.string t, .slice (some ⟨w.heap.size, 0, none⟩) 1 1] (w.alloc (.cells #[.func (.func 106) #[] #[]] 71)) fun e w' => e = .returned (.int .i64 (Lx.run (fun c => !Lx.isFeed c) l)) ∧ Below w.heap.size w w' :=
  prefix_row [.notFeed] (by simp) _ (by funext c; simp [anySrt, Srt.is]) t l ht hs w
theorem prefix_gap (t : ByteArray) (l : Lx.B) (ht : t.data.toList = l) (hs : t.size ≤ maxLen) (w : World) :
    Calls Tryd.prog 42 #[.string t, .slice (some ⟨w.heap.size, 0, none⟩) 2 2] (w.alloc (.cells #[.func (.func 107) #[] #[], .func (.func 44) #[] #[]] 71)) fun e w' => e = .returned (.int .i64 (Lx.run Lx.gapByte l)) ∧ Below w.heap.size w w' :=
  prefix_row [.blank, .feed] (by simp) _ (by funext c; simp [anySrt, Srt.is, Lx.gapByte]) t l ht hs w
theorem prefix_ok (t : ByteArray) (l : Lx.B) (ht : t.data.toList = l) (hs : t.size ≤ maxLen) (w : World) :
    Calls Tryd.prog 42 #[.string t, .slice (some ⟨w.heap.size, 0, none⟩) 2 2] (w.alloc (.cells #[.func (.func 43) #[] #[], .func (.func 44) #[] #[]] 71)) fun e w' => e = .returned (.int .i64 (Lx.run Lx.okByte l)) ∧ Below w.heap.size w w' :=
  prefix_row [.printed, .feed] (by simp) _ (by funext c; simp [anySrt, Srt.is, Lx.okByte]) t l ht hs w
theorem prefix_letter (t : ByteArray) (l : Lx.B) (ht : t.data.toList = l) (hs : t.size ≤ maxLen) (w : World) :
    Calls Tryd.prog 42 #[.string t, .slice (some ⟨w.heap.size, 0, none⟩) 1 1] (w.alloc (.cells #[.func (.func 79) #[] #[]] 71)) fun e w' => e = .returned (.int .i64 (Lx.run Lx.isLetter l)) ∧ Below w.heap.size w w' :=
  prefix_row [.letter] (by simp) _ (by funext c; simp [anySrt, Srt.is]) t l ht hs w
theorem prefix_digit (t : ByteArray) (l : Lx.B) (ht : t.data.toList = l) (hs : t.size ≤ maxLen) (w : World) :
    Calls Tryd.prog 42 #[.string t, .slice (some ⟨w.heap.size, 0, none⟩) 1 1] (w.alloc (.cells #[.func (.func 81) #[] #[]] 71)) fun e w' => e = .returned (.int .i64 (Lx.run Lx.isDigit l)) ∧ Below w.heap.size w w' :=
  prefix_row [.digit] (by simp) _ (by funext c; simp [anySrt, Srt.is]) t l ht hs w
theorem prefix_word (t : ByteArray) (l : Lx.B) (ht : t.data.toList = l) (hs : t.size ≤ maxLen) (w : World) :
    Calls Tryd.prog 42 #[.string t, .slice (some ⟨w.heap.size, 0, none⟩) 2 2] (w.alloc (.cells #[.func (.func 79) #[] #[], .func (.func 81) #[] #[]] 71)) fun e w' => e = .returned (.int .i64 (Lx.run Lx.wordByte l)) ∧ Below w.heap.size w w' :=
  prefix_row [.letter, .digit] (by simp) _ (by funext c; simp [anySrt, Srt.is, Lx.wordByte]) t l ht hs w

end Go.Proofs.YtkhgmoljhehbnaaDoor
