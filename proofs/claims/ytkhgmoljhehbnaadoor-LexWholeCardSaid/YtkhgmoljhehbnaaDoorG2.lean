/- The walks of the reference's Some and Gaps. -/
import Derived.Test.YtkhgmoljhehbnaaDoorG1
import Derived.Test.YtkhgmoljhehbnaaDoorE1
namespace Go.Proofs.YtkhgmoljhehbnaaDoor
open Go.RowKit

set_option maxHeartbeats 2000000 in
theorem refSome_any (s : ByteArray) (hs : s.size ≤ 281474976710656) (ts : List Lx.Tok) (gs : List (Nat × Nat)) (hR : Lx.read s.data.toList = .ok ts gs) (w : World) :
    Calls Tryd.prog 53 #[.string s] w fun e w' => (∃ A cap, e = .returned (.slice A ts.length cap) ∧ OwnToks w' w.heap.size A cap ts) ∧ Below w.heap.size w w' := by
  have h := refRead_any s hs w
  rw [hR] at h
  have H := Lib.hid h
  clear h hR
  go_enter Tryd.func53, Tryd.ntmps53
  go_wp2_with fail
  refine H.out.mono ?_
  rintro e w1 ⟨⟨A, cap, rfl, h1⟩, hb⟩
  have H1 := Lib.hid h1
  clear h1
  go_wp2
  go_ret
  exact ⟨⟨A, cap, rfl, H1.out⟩, hb⟩

/-- where the loop of Gaps stands -/
def GpAt (ts : List Lx.Tok) (gs : List (Nat × Nat)) (n : Nat) (D : List (Nat × Nat)) (a i : Nat) : Prop := if i ≤ ts.length then D ++ Lx.gapsOf a (ts.drop i) n = gs else D = gs

theorem GpAt.tok {ts : List Lx.Tok} {gs : List (Nat × Nat)} {n : Nat} {D : List (Nat × Nat)} {a i : Nat} {x : Lx.Tok} (h : GpAt ts gs n D a i) (hx : ts[i]? = some x) :
    GpAt ts gs n (if a < x.at_ then D ++ [(a, x.at_)] else D) (x.at_ + x.text.length) (i + 1) := by
  have hi : i < ts.length := by
    rcases Nat.lt_or_ge i ts.length with h | h
    · exact h
    · rw [List.getElem?_eq_none h] at hx; cases hx
  unfold GpAt at h ⊢
  rw [if_pos (by omega)] at h ⊢
  have hd : ts.drop i = x :: ts.drop (i + 1) := by
    rw [List.drop_eq_getElem_cons hi]
    congr 1
    rw [List.getElem?_eq_getElem hi] at hx
    exact Option.some.inj hx
  rw [hd, Lx.gapsOf] at h
  rw [← h]
  split <;> simp
theorem GpAt.stop {ts : List Lx.Tok} {gs : List (Nat × Nat)} {n : Nat} {D : List (Nat × Nat)} {a : Nat} (h : GpAt ts gs n D a ts.length) : GpAt ts gs n (if a < n then D ++ [(a, n)] else D) a (ts.length + 1) := by
  unfold GpAt at h ⊢
  rw [if_pos (Nat.le_refl _), List.drop_length, Lx.gapsOf] at h
  rw [if_neg (by omega), ← h]
  split <;> simp

theorem gapsOf_len (n : Nat) : ∀ (r : List Lx.Tok) (a : Nat), (Lx.gapsOf a r n).length ≤ r.length + 1
  | [], a => by simp only [Lx.gapsOf]; split <;> simp
  | t :: r, a => by
    have := gapsOf_len n r (t.at_ + t.text.length)
    simp only [Lx.gapsOf, List.length_append, List.length_cons]
    split <;> simp <;> omega
theorem GpAt.len {ts : List Lx.Tok} {gs : List (Nat × Nat)} {n : Nat} {D : List (Nat × Nat)} {a i : Nat} (h : GpAt ts gs n D a i) : D.length ≤ gs.length := by
  unfold GpAt at h
  split at h
  · rw [← h]; simp
  · rw [h]; exact Nat.le_refl _

theorem own_cells {W : World} {B g cap : Nat} {ts : List Lx.Tok} (h : OwnToks W B (some ⟨g, 0, none⟩) cap ts) {j : Nat} {x : Lx.Tok} (hx : ts[j]? = some x) :
    W.cell? ⟨g, j * 3, none⟩ = some (.int .u8 x.kind) ∧ W.cell? ⟨g, j * 3 + 1, none⟩ = some (.string (LT.of x).text) ∧ W.cell? ⟨g, j * 3 + 2, none⟩ = some (.int .i64 x.at_) := by
  obtain ⟨g', hT, _, htin⟩ := toksIn_of_own h (by intro e; subst e; simp at hx)
  injection hT with hT
  injection hT with hg
  subst hg
  have := htin j (LT.of x) (by rw [List.getElem?_map, hx]; rfl)
  obtain ⟨h0, h1, h2⟩ := this
  rw [Nat.zero_add] at h0 h1 h2
  exact ⟨h0, h1, h2⟩

set_option maxRecDepth 100000 in
set_option maxHeartbeats 4000000 in
theorem refGaps_any (s : ByteArray) (hs : s.size ≤ 2500) (ts : List Lx.Tok) (gs : List (Nat × Nat)) (hR : Lx.read s.data.toList = .ok ts gs) (w : World) :
    Calls Tryd.prog 26 #[.string s] w fun e w' => (∃ A cap, e = .returned (.slice A gs.length cap) ∧ OwnGaps w' w.heap.size A cap gs) ∧ Below w.heap.size w w' := by
  obtain ⟨hg, hin⟩ := Lx.read_gaps hR
  rw [← Lib.size_eq] at hg hin
  have hn9 := (read_small s.data.toList).2
  rw [hR] at hn9
  have hn9' : ts.length ≤ 900 := hn9
  have hst : GpAt ts gs s.size [] 0 0 := by unfold GpAt; rw [if_pos (Nat.zero_le _), hg]; simp
  have hgl : gs.length ≤ 901 := by rw [hg]; have := gapsOf_len s.size ts 0; omega
  have hsome := fun W => refSome_any s (by omega) ts gs hR W
  have HS := Lib.hid hsome
  have HST := Lib.hid hst
  have HIN := Lib.hid hin
  clear hsome hst hR hg hn9 hin
  go_enter Tryd.func26, Tryd.ntmps26
  go_wp2_with fail
  refine (HS.out _).mono ?_
  rintro e w1 ⟨⟨T, tcap, rfl, htoks⟩, hb1⟩
  have hz1 := hb1.size
  have hgr := grown_of_below hb1 none
  simp only [World.size_alloc] at hz1 hb1 htoks
  have hB1 : Below w.heap.size w w1 := ((Below.refl _ _).alloc (Nat.le_refl _) _).trans (hb1.mono (by omega))
  have hown0 : OwnGaps w1 w.heap.size (some ⟨w.heap.size, 0, none⟩) 0 [] := by
    have h0 := World.ownsRow_made (base := w.heap.size) (e := 45) (size := 2) w #[] 0 (Nat.le_refl _) (by simp [maxLen]) (by simp)
    have h1 := h0.kept hgr (by right; simp [Value.ownBlock])
    simpa [OwnGaps, gapRow] using h1
  clear hb1 hgr
  go_wp2_with fail
  go_loopw [3, 5, 6] (fun o a i wr => ∃ (D : List (Nat × Nat)) (A : Option Addr) (cap k j : Nat), j ≤ ts.length + 1 ∧ k ≤ s.size ∧ a = .int .i64 k ∧ i = .int .i64 j ∧ o = .slice A D.length cap ∧ OwnGaps wr w.heap.size A cap D ∧ OwnToks wr (w.heap.size + 1) T tcap ts ∧ Hid (GpAt ts gs s.size D k j) ∧ Below w.heap.size w wr) (fun _ _ i _ => ts.length + 1 - (intOf i).toNat)
  case atStart => exact ⟨[], _, 0, 0, 0, by omega, Nat.zero_le _, rfl, rfl, rfl, hown0, htoks, HST, hB1⟩
  case round =>
    obtain ⟨D, A, cap, k, j, hj, hk, rfl, rfl, rfl, hown, htk, HG, hbw⟩ := hrel
    have hzw := hbw.size
    have hdl := HG.out.len
    by_cases hlt : j < ts.length
    · have hlt' : (j : Int) < ts.length := by omega
      have hle' : (j : Int) ≤ ts.length := by omega
      obtain ⟨x, hx⟩ : ∃ x, ts[j]? = some x := ⟨_, List.getElem?_eq_getElem hlt⟩
      have hbx := HIN.out x (List.mem_of_getElem? hx)
      obtain ⟨g, hT, _, _⟩ := toksIn_of_own htk (by intro e; subst e; simp at hlt)
      subst hT
      obtain ⟨x0, x1, x2⟩ := own_cells htk hx
      have hrd := fun W (h : OwnToks W (w.heap.size + 1) (some ⟨g, 0, none⟩) tcap ts) => own_cells h hx
      have hN := HG.out.tok hx
      have hxs : x.text.length = (LT.of x).text.size := by rw [Lib.size_eq, of_data]
      rw [hxs] at hN hbx
      have hsz : (LT.of x).text.size ≤ 2500 := by omega
      generalize (LT.of x).text = tx at x1 hN hbx hsz hrd
      generalize x.kind = kx at x0 hrd
      generalize x.at_ = ax at x2 hN hbx hrd
      have HRD := Lib.hid hrd
      clear hx hxs hrd
      by_cases hgt : k < ax
      · have hgt' : (k : Int) < ax := by omega
        rw [if_pos hgt] at hN
        have HN := Lib.hid hN
        clear hN
        go_wp2_with (at_builtin; refine wpList_append_gap _ rfl _ _ rfl w.heap.size A cap D wr.heap.size k ax rfl rfl (hown.alloc _) (by simp) (by simp) (by omega) (by simp; omega) ?_; intro A' cap' w2 hown2 hgrow2)
        have htk2 : OwnToks w2 (w.heap.size + 1) (some ⟨g, 0, none⟩) tcap ts := (htk.alloc _).kept hgrow2 (own_own_ne (htk.alloc (.cells #[.int .i64 k, .int .i64 ax] 45)) (hown.alloc _) (by decide))
        obtain ⟨y0, y1, y2⟩ := HRD.out w2 htk2
        go_region
        go_wp2_with fail
        go_roundw
        case rel =>
          refine ⟨D ++ [(k, ax)], A', cap', ax + tx.size, j + 1, by omega, by omega, by go_num, by go_num, by simp, hown2, htk2, HN, Below.drew ?_⟩
          refine (hbw.alloc hzw _).grown hgrow2 (by simp; omega) (fun j hj => ?_)
          exact (hown.lt j hj).1
        case measure => simp [intOf]; omega
      · have hgt' : ¬ (k : Int) < ax := by omega
        rw [if_neg hgt] at hN
        have HN := Lib.hid hN
        clear hN
        go_wp2_with fail
        go_region
        go_wp2_with fail
        go_roundw
        case rel => exact ⟨D, A, cap, ax + tx.size, j + 1, by omega, by omega, by go_num, by go_num, rfl, hown, htk, HN, hbw.drew⟩
        case measure => simp [intOf]; omega
    · have hlt' : ¬ (j : Int) < ts.length := by omega
      by_cases hle : j = ts.length
      · have hle' : (j : Int) ≤ ts.length := by omega
        have hN := (hle ▸ HG.out).stop
        by_cases hgt : k < s.size
        · have hgt' : (k : Int) < s.size := by omega
          rw [if_pos hgt] at hN
          have HN := Lib.hid hN
          clear hN
          go_wp2_with (at_builtin; refine wpList_append_gap _ rfl _ _ rfl w.heap.size A cap D wr.heap.size k s.size rfl rfl (hown.alloc _) (by simp) (by simp) (by omega) (by simp; omega) ?_; intro A' cap' w2 hown2 hgrow2)
          have htk2 : OwnToks w2 (w.heap.size + 1) T tcap ts := (htk.alloc _).kept hgrow2 (own_own_ne (htk.alloc (.cells #[.int .i64 k, .int .i64 s.size] 45)) (hown.alloc _) (by decide))
          go_roundw
          case rel =>
            refine ⟨D ++ [(k, s.size)], A', cap', k, j + 1, by omega, by omega, rfl, by go_num, by simp, hown2, htk2, by rw [hle]; exact HN, ?_⟩
            refine (hbw.alloc hzw _).grown hgrow2 (by simp; omega) (fun j hj => ?_)
            exact (hown.lt j hj).1
          case measure => simp [intOf]; omega
        · have hgt' : ¬ (k : Int) < s.size := by omega
          rw [if_neg hgt] at hN
          have HN := Lib.hid hN
          clear hN
          go_wp2
          go_roundw
          case rel => exact ⟨D, A, cap, k, j + 1, by omega, by omega, rfl, by go_num, rfl, hown, htk, by rw [hle]; exact HN, hbw⟩
          case measure => simp [intOf]; omega
      · have hle' : ¬ (j : Int) ≤ ts.length := by omega
        have hend := HG.out
        unfold GpAt at hend
        rw [if_neg (by omega)] at hend
        subst hend
        go_wp2
        go_ret
        exact ⟨⟨A, cap, rfl, hown⟩, hbw⟩

end Go.Proofs.YtkhgmoljhehbnaaDoor
