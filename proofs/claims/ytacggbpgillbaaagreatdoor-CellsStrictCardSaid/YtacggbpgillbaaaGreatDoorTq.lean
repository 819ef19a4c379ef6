/- Layer 6, the program: waiting, isMemory, drawable, Check. -/
import Derived.Test.YtacggbpgillbaaaGreatDoorTp
import Derived.Test.YtacggbpgillbaaaGreatDoorSn
namespace Ce
theorem reads_take {m : Mem} {k : Nat} {s : St} (h : m[k]? = some s) : reads (m.take (k + 1)) = reads (m.take k) + s.wait.length := by
  rw [List.take_add_one, h, reads_app]
  simp [reads]
theorem reads_take_le2 (m : Mem) (k : Nat) (h : ∀ (i : Nat) (s : St), m[i]? = some s → s.wait.length ≤ 10000) (hk : k ≤ m.length) : reads (m.take k) ≤ k * 10000 := by
  induction k with
  | zero => simp [reads]
  | succ k ih =>
    have hx : m[k]? = some m[k] := List.getElem?_eq_getElem (by omega)
    rw [reads_take hx]
    have := h k _ hx
    have := ih (by omega)
    omega
end Ce
namespace Go.Proofs.YtacggbpgillbaaaGreatDoor
open Go.RowKit Go.El

set_option maxRecDepth 100000 in
set_option maxHeartbeats 2000000 in
theorem waiting_any (m : Ce.Mem) (hm : Sz m) (A : Option Addr) (c : Nat) (w : World) (h : MemAt w A m) :
    Calls Tryz.prog 126 #[.agg #[.slice A m.length c]] w fun e w' => e = .returned (.int .i64 (Ce.reads m)) ∧ Below w.heap.size w w' := by
  have hml := hm.many
  have hm2 : (m.length : Int) ≤ 10000 := by omega
  have HEACH := Lib.hid hm.each
  have HS := Lib.hid (h.stay)
  have HRL : Hid (∀ k, k ≤ m.length → Ce.reads (m.take k) ≤ k * 10000) := Lib.hid fun k hk => Ce.reads_take_le2 m k (fun i s h => (hm.each i s h).2) hk
  have HE : Hid (Ce.reads (m.take m.length) = Ce.reads m) := Lib.hid (by rw [List.take_of_length_le (Nat.le_refl _)])
  have hb0 : Below w.heap.size w (w.alloc (.cells #[.slice A m.length c] 35)) := (Below.refl _ _).alloc (Nat.le_refl _) _
  have HB0 := Lib.hid hb0
  have x0 := (box1 (W := w) (v := .slice A m.length c) (t := 35)).at_
  clear hm h hb0
  go_enter Tryz.func126, Tryz.ntmps126
  go_wp2_with fail
  go_loopw [3, 9] (fun t i wr => ∃ k : Nat, k ≤ m.length ∧ i = .int .i64 k ∧ t = .int .i64 (Ce.reads (m.take k)) ∧ Hid (Below w.heap.size w wr)) (fun _ i _ => m.length - (intOf i).toNat)
  case atStart => exact ⟨0, Nat.zero_le _, rfl, rfl, HB0⟩
  case round =>
    clear x0
    obtain ⟨k, hk, rfl, rfl, HB⟩ := hrel
    by_cases hlt : k < m.length
    · have hlt' : (k : Int) < m.length := by omega
      obtain ⟨s, hs⟩ : ∃ x, m[k]? = some x := ⟨_, List.getElem?_eq_getElem hlt⟩
      have hsz := (HEACH.out k s hs).2
      have hr := HRL.out k hk
      have HN := Lib.hid (Ce.reads_take hs)
      obtain ⟨b, o, A1, c1, A2, c2, rfl, hbl, y0, y1, _, _⟩ := (HS.out wr HB.out).at' hs
      clear hs
      generalize Ce.reads (m.take k) = n at *
      generalize s.cells.length = q1 at *
      generalize s.wait.length = q2 at *
      go_wp2_with fail
      go_roundw
      case rel => exact ⟨k + 1, by omega, by go_num, by rw [HN.out]; go_num, Lib.hid (HB.out.alloc HB.out.size _)⟩
      case measure => simp [intOf]; omega
    · have hlt' : ¬ (k : Int) < m.length := by omega
      obtain rfl : k = m.length := by omega
      have HE2 := HE
      generalize Ce.reads (m.take m.length) = n at *
      go_wp2
      go_ret
      exact ⟨by rw [← HE2.out]; rfl, HB.out⟩

set_option maxRecDepth 100000 in
set_option maxHeartbeats 2000000 in
theorem isMemory_any (m : Ce.Mem) (hm : Sz m) (A : Option Addr) (c : Nat) (w : World) (h : MemAt w A m) :
    Calls Tryz.prog 76 #[.agg #[.slice A m.length c]] w fun e w' => e = .returned (.bool (Ce.memOk m)) ∧ Below w.heap.size w w' := by
  have HB : Hid (Below w.heap.size w (w.alloc (.cells #[.slice A m.length c] 35))) := Lib.hid ((Below.refl _ _).alloc (Nat.le_refl _) _)
  have sb := box1 (W := w) (v := .slice A m.length c) (t := 35)
  have hcw := waiting_any m hm A c _ (h.below HB.out)
  have hlt : m.length < 1000000 := by have := hm.many; omega
  have hca : ∀ W, Below (w.alloc (.cells #[.slice A m.length c] 35)).heap.size (w.alloc (.cells #[.slice A m.length c] 35)) W →
      Calls Tryz.prog 127 #[.slice A m.length c, .func (.func 128) #[] #[.pointer (some ⟨w.heap.size, 0, none⟩)]] W fun e w' => e = .returned (.bool (m.all (Ce.stOk m.length))) ∧ Below W.heap.size W w' := by
    intro W hb
    obtain ⟨hs, e1, e2, e3⟩ := (h.below HB.out).below hb
    have hz : (hs.zip m).length = m.length := by rw [List.length_zip, e1, Nat.min_self]
    have := st_all (hs.zip m) (by omega) A c (fun x => Ce.stOk m.length x.2) 128 #[.pointer (some ⟨w.heap.size, 0, none⟩)] (enters_of Tryz.func128 (by kernel_rfl) rfl) W (StE.zip e2 e1) (fun x hx W' hb' => by
      obtain ⟨i, hi⟩ := List.getElem?_of_mem hx
      rw [List.getElem?_zip_eq_some] at hi
      obtain ⟨k1, k2⟩ := e3 i x.1 x.2 hi.1 hi.2
      have k3 := hm.each i x.2 hi.2
      rw [k1.n, k2.n]
      exact isMemory1_any m.length A c x.2 (by omega) (by omega) x.1.1.A x.1.2.A x.1.1.c x.1.2.c w.heap.size W' (k1.arg.below hb') (k2.arg.below hb') (sb W' (hb.trans (hb'.mono hb.size))))
    rw [hz, Ce.zip_all _ hs m e1] at this
    exact this
  rw [Ce.memOk_eq]
  generalize Ce.reads m = r at *
  generalize m.all (Ce.stOk m.length) = q at *
  have SB := Lib.hid sb
  have HCW := Lib.hid hcw
  have HCA := Lib.hid hca
  have hm2 : (m.length : Int) ≤ 1000000 := by omega
  clear hcw hca sb h hm
  by_cases h4 : m.length ≤ 400
  · rw [decide_eq_true h4, Bool.true_and]
    have h4' : (m.length : Int) ≤ 400 := by omega
    by_cases hr : r ≤ 6000
    · rw [decide_eq_true hr, Bool.true_and]
      have hr' : (r : Int) ≤ 6000 := by omega
      cases q with
      | true =>
        go_enter Tryz.func76, Tryz.ntmps76
        go_wp2_with fail
        refine HCW.out.mono ?_
        rintro e w1 ⟨rfl, hb1⟩
        have x0 := SB.out w1 hb1
        have HB1 := Lib.hid (HB.out.trans (hb1.mono HB.out.size))
        have HC := Lib.hid (HCA.out w1 hb1)
        clear hb1 HCA
        go_wp2_with fail
        refine HC.out.mono ?_
        rintro e w2 ⟨rfl, hb2⟩
        go_wp2
        go_ret
        exact ⟨rfl, HB1.out.trans (hb2.mono HB1.out.size)⟩
      | false =>
        go_enter Tryz.func76, Tryz.ntmps76
        go_wp2_with fail
        refine HCW.out.mono ?_
        rintro e w1 ⟨rfl, hb1⟩
        have x0 := SB.out w1 hb1
        have HB1 := Lib.hid (HB.out.trans (hb1.mono HB.out.size))
        have HC := Lib.hid (HCA.out w1 hb1)
        clear hb1 HCA
        go_wp2_with fail
        refine HC.out.mono ?_
        rintro e w2 ⟨rfl, hb2⟩
        go_wp2
        go_ret
        exact ⟨rfl, HB1.out.trans (hb2.mono HB1.out.size)⟩
    · have hr' : decide ((r : Int) ≤ 6000) = false := decide_eq_false (by omega)
      rw [decide_eq_false hr, Bool.false_and]
      clear hr HCA
      go_enter Tryz.func76, Tryz.ntmps76
      go_wp2_with fail
      refine HCW.out.mono ?_
      rintro e w1 ⟨rfl, hb1⟩
      go_wp2
      go_ret
      exact ⟨rfl, HB.out.trans (hb1.mono HB.out.size)⟩
  · have h4' : ¬ (m.length : Int) ≤ 400 := by omega
    rw [decide_eq_false h4, Bool.false_and]
    clear HCA HCW h4
    go_enter Tryz.func76, Tryz.ntmps76
    go_wp2
    go_ret
    exact ⟨rfl, HB.out⟩

set_option maxHeartbeats 1000000 in
theorem check_any (m : Ce.Mem) (hm : Sz m) (A : Option Addr) (c : Nat) (w : World) (h : MemAt w A m) :
    Calls Tryz.prog 27 #[.agg #[.slice A m.length c]] w fun e w' => e = .returned (.int .i64 (Ce.check m)) ∧ Below w.heap.size w w' := by
  have HB : Hid (Below w.heap.size w (w.alloc (.cells #[.slice A m.length c] 35))) := Lib.hid ((Below.refl _ _).alloc (Nat.le_refl _) _)
  have hc := isMemory_any m hm A c _ (h.below HB.out)
  unfold Ce.check
  generalize Ce.memOk m = q at *
  have HC := Lib.hid hc
  clear hc h hm
  cases q with
  | true =>
    go_enter Tryz.func27, Tryz.ntmps27
    go_wp2_with fail
    refine HC.out.mono ?_
    rintro e w1 ⟨rfl, hb1⟩
    go_wp2
    go_ret
    exact ⟨rfl, HB.out.trans (hb1.mono HB.out.size)⟩
  | false =>
    go_enter Tryz.func27, Tryz.ntmps27
    go_wp2_with fail
    refine HC.out.mono ?_
    rintro e w1 ⟨rfl, hb1⟩
    go_wp2
    go_ret
    exact ⟨rfl, HB.out.trans (hb1.mono HB.out.size)⟩

set_option maxHeartbeats 1000000 in
theorem drawable_any (m : Nat) (B : Option Addr) (c : Nat) (l : List Ce.V) (hl : l.length ≤ 1000000) (A : Option Addr) (cap : Nat) (w : World) (h : ValE.Arg w A l) :
    Calls Tryz.prog 86 #[.agg #[.slice B m c], .slice A l.length cap] w fun e w' => e = .returned (.bool (decide (l.length ≤ 100) && Ce.areValues l m)) ∧ Below w.heap.size w w' := by
  have HB : Hid (Below w.heap.size w (w.alloc (.cells #[.slice B m c] 35))) := Lib.hid ((Below.refl _ _).alloc (Nat.le_refl _) _)
  have hc := has_any m B c l hl A cap _ (h.below HB.out)
  have hl1 : (l.length : Int) ≤ 1000000 := by omega
  generalize Ce.areValues l m = q at *
  have HC := Lib.hid hc
  clear hc h
  by_cases h1 : l.length ≤ 100
  · have h1' : (l.length : Int) ≤ 100 := by omega
    rw [decide_eq_true h1, Bool.true_and]
    cases q with
    | true =>
      go_enter Tryz.func86, Tryz.ntmps86
      go_wp2_with fail
      refine HC.out.mono ?_
      rintro e w1 ⟨rfl, hb1⟩
      go_wp2
      go_ret
      exact ⟨rfl, HB.out.trans (hb1.mono HB.out.size)⟩
    | false =>
      go_enter Tryz.func86, Tryz.ntmps86
      go_wp2_with fail
      refine HC.out.mono ?_
      rintro e w1 ⟨rfl, hb1⟩
      go_wp2
      go_ret
      exact ⟨rfl, HB.out.trans (hb1.mono HB.out.size)⟩
  · have h1' : decide ((l.length : Int) ≤ 100) = false := decide_eq_false (by omega)
    rw [decide_eq_false h1, Bool.false_and]
    clear h1 HC
    go_enter Tryz.func86, Tryz.ntmps86
    go_wp2
    go_ret
    exact ⟨rfl, HB.out⟩
end Go.Proofs.YtacggbpgillbaaaGreatDoor
