/- Layer 5: the walk of the law RegionEnds. -/
import Derived.Test.YthagelnimmfhbaaRu
namespace Go.Proofs.Ythagelnimmfhbaa
open Go.RowKit Go.El

def pqP (n m st : Nat) : Rg.Pt := ⟨⟨false, n⟩, ⟨true, m⟩, st⟩
theorem pq_ok {n m st : Nat} (hn : n ≤ 100) (hm : m ≤ 100) (h1 : 1 ≤ st) (h9 : st ≤ 9) : (pqP n m st).ok = true := by
  rw [Rg.Pt.ok_iff]
  simp only [pqP]
  omega
theorem pq_len (n m st : Nat) (s : Int) : ((pqP n m st).cells s).length = Rg.cnt n (s - m) st := by
  unfold Rg.Pt.cells
  rw [Rg.run_len]
  rfl
theorem pq_code (hC : CellsC) {n m st : Nat} (hn : n ≤ 100) (hm : m ≤ 100) (h1 : 1 ≤ st) (h9 : st ≤ 9) (k : Nat) (hk : k ≤ 100) (w : World) :
    Calls Try.prog 12 #[.agg #[.bool false, .int .i64 n, .bool true, .int .i64 m, .int .i64 st], .int .i64 k] w fun e w' =>
      (∃ B c, e = .returned (.tuple #[.slice B (Rg.cnt n ((k : Int) - m) st) c, .int .i64 0])) ∧ Below w.heap.size w w' := by
  refine (cells_code hC (pqP n m st) k _ 0 (by unfold Rg.cellsR; rw [pq_ok hn hm h1 h9, (Rg.inS_iff k).2 (by omega)]; rfl) w).mono ?_
  rintro e w' ⟨⟨B, c, he, _⟩, hb⟩
  rw [pq_len] at he
  exact ⟨⟨B, c, he⟩, hb⟩

set_option maxRecDepth 100000 in
set_option maxHeartbeats 2000000 in
theorem ends_law (h : Prg) (a b st : Nat) (ha : a < 256) (hb : b < 256) (hst : st < 256) (w : World) :
    Calls Try.prog 10 #[.int .u8 a, .int .u8 b, .int .u8 st] w fun e w' => e = .returned (.bool true) ∧ Below w.heap.size w w' := by
  have HK := Lib.hid (fun W => known_any h W)
  have ha1 : (0 : Int) ≤ a := by omega
  have ha2 : (a : Int) < 256 := by omega
  have hb1 : (0 : Int) ≤ b := by omega
  have hb2 : (b : Int) < 256 := by omega
  have hc1 : (0 : Int) ≤ st := by omega
  have hc2 : (st : Int) < 256 := by omega
  go_enter Try.func10, Try.ntmps10
  go_wp2_with fail
  have e1 : (a : Int) % 101 = ((a % 101 : Nat) : Int) := by omega
  have e2 : (b : Int) % 101 = ((b % 101 : Nat) : Int) := by omega
  have e3 : (st : Int) % 9 + 1 = ((st % 9 + 1 : Nat) : Int) := by omega
  rw [e1, e2, e3]
  have hn : a % 101 ≤ 100 := by omega
  have hm : b % 101 ≤ 100 := by omega
  have ht1 : 1 ≤ st % 9 + 1 := by omega
  have ht9 : st % 9 + 1 ≤ 9 := by omega
  clear e1 e2 e3
  generalize a % 101 = n at *
  generalize b % 101 = m at *
  generalize st % 9 + 1 = t at *
  have HC1 := Lib.hid (fun k hk W => pq_code h.cells hn hm ht1 ht9 k hk W)
  have HC2 := Lib.hid (fun k hk W => pq_code h.cells hm hn ht1 ht9 k hk W)
  have HE := Lib.hid (fun k : Nat => Rg.cnt_ends n m k t)
  have HM := Lib.hid (fun (k : Nat) (hp : 0 < Rg.cnt n ((k : Int) - m) t) => Rg.cnt_more (b := (k : Int) - m) (show (1 : Int) ≤ t by omega) hp)
  have sp0 : Stay (fun V => (V.cell? ⟨w.heap.size, 0, none⟩ = some (.bool false) ∧ V.cell? ⟨w.heap.size, 1, none⟩ = some (.int .i64 (n : Nat)) ∧ V.cell? ⟨w.heap.size, 2, none⟩ = some (.bool true) ∧ V.cell? ⟨w.heap.size, 3, none⟩ = some (.int .i64 (m : Nat)) ∧ V.cell? ⟨w.heap.size, 4, none⟩ = some (.int .i64 (t : Nat)))) (w.alloc (Obj.cells #[.bool false, .int .i64 (n : Nat), .bool true, .int .i64 (m : Nat), .int .i64 (t : Nat)] 25)) := boxed (p := pqP n m t)
  have SP := Lib.hid (sp0.alloc (Obj.cells #[.bool false, .int .i64 (m : Nat), .bool true, .int .i64 (n : Nat), .int .i64 (t : Nat)] 25))
  have sq0 : Stay (fun V => (V.cell? ⟨(w.alloc (Obj.cells #[.bool false, .int .i64 (n : Nat), .bool true, .int .i64 (m : Nat), .int .i64 (t : Nat)] 25)).heap.size, 0, none⟩ = some (.bool false) ∧ V.cell? ⟨(w.alloc (Obj.cells #[.bool false, .int .i64 (n : Nat), .bool true, .int .i64 (m : Nat), .int .i64 (t : Nat)] 25)).heap.size, 1, none⟩ = some (.int .i64 (m : Nat)) ∧ V.cell? ⟨(w.alloc (Obj.cells #[.bool false, .int .i64 (n : Nat), .bool true, .int .i64 (m : Nat), .int .i64 (t : Nat)] 25)).heap.size, 2, none⟩ = some (.bool true) ∧ V.cell? ⟨(w.alloc (Obj.cells #[.bool false, .int .i64 (n : Nat), .bool true, .int .i64 (m : Nat), .int .i64 (t : Nat)] 25)).heap.size, 3, none⟩ = some (.int .i64 (n : Nat)) ∧ V.cell? ⟨(w.alloc (Obj.cells #[.bool false, .int .i64 (n : Nat), .bool true, .int .i64 (m : Nat), .int .i64 (t : Nat)] 25)).heap.size, 4, none⟩ = some (.int .i64 (t : Nat)))) ((w.alloc (Obj.cells #[.bool false, .int .i64 (n : Nat), .bool true, .int .i64 (m : Nat), .int .i64 (t : Nat)] 25)).alloc (Obj.cells #[.bool false, .int .i64 (m : Nat), .bool true, .int .i64 (n : Nat), .int .i64 (t : Nat)] 25)) := boxed (p := pqP m n t)
  rw [World.size_alloc] at sq0
  have SQ := Lib.hid sq0
  have hB0 : Below w.heap.size w ((w.alloc (Obj.cells #[.bool false, .int .i64 (n : Nat), .bool true, .int .i64 (m : Nat), .int .i64 (t : Nat)] 25)).alloc (Obj.cells #[.bool false, .int .i64 (m : Nat), .bool true, .int .i64 (n : Nat), .int .i64 (t : Nat)] 25)) := ((Below.refl _ _).alloc (Nat.le_refl _) _).alloc (by simp) _
  clear h sp0 sq0 ha hb hst
  generalize (w.alloc (Obj.cells #[.bool false, .int .i64 (n : Nat), .bool true, .int .i64 (m : Nat), .int .i64 (t : Nat)] 25)).alloc (Obj.cells #[.bool false, .int .i64 (m : Nat), .bool true, .int .i64 (n : Nat), .int .i64 (t : Nat)] 25) = W0 at *
  go_loopw [12] (fun i wr => ∃ k : Nat, k ≤ 101 ∧ i = .int .i64 k ∧ Below W0.heap.size W0 wr) (fun i _ => (101 - intOf i).toNat)
  case atStart => exact ⟨0, by omega, rfl, Below.refl _ _⟩
  case round =>
    obtain ⟨k, hk, rfl, hbw⟩ := hrel
    have hzw := hbw.size
    by_cases hlt : k ≤ 100
    · have hlt' : (k : Int) ≤ 100 := by omega
      obtain ⟨p0, p1, p2, p3, p4⟩ := SP.out _ hbw
      have c1 := HC1.out k hlt
      have c2 := HC2.out k hlt
      rw [← HE.out k] at c2
      have hmr := HM.out k
      have h210 : Rg.cnt n ((k : Int) - m) t ≤ 210 := by have := Rg.cells_len (p := pqP n m t) (pq_ok hn hm ht1 ht9) (s := k) (by omega) (by omega); rw [pq_len] at this; exact this
      have HC210 := Lib.hid h210
      clear h210
      generalize Rg.cnt n ((k : Int) - m) t = C at c1 c2 hmr HC210
      have CC1 := Lib.hid c1
      have CC2 := Lib.hid c2
      have HMR := Lib.hid hmr
      clear c1 c2 hmr
      have hcc : ((C : Int) == C) = true := beq_self_eq_true _
      have hcc' : ((C : Int) != C) = false := by rw [bne, hcc]; rfl
      go_wp2_with fail
      refine (CC1.out _).mono ?_
      rintro e w1 ⟨⟨B1, c1, rfl⟩, hb1⟩
      have hbw := hbw.trans (hb1.mono hzw)
      have hzw := hbw.size
      obtain ⟨q0, q1, q2, q3, q4⟩ := SQ.out _ hbw
      clear p0 p1 p2 p3 p4 hb1
      go_wp2_with fail
      refine (CC2.out _).mono ?_
      rintro e w2 ⟨⟨B2, c2, rfl⟩, hb2⟩
      have hbw := hbw.trans (hb2.mono hzw)
      have hzw := hbw.size
      obtain ⟨p0, p1, p2, p3, p4⟩ := SP.out _ hbw
      clear q0 q1 q2 q3 q4 hb2
      by_cases hbig : 100 < k + t
      · have hbig' : (100 : Int) < (k : Int) + t := by omega
        go_wp2
        go_roundw
        case rel => exact ⟨k + 1, by omega, by go_num, hbw⟩
        case measure => simp [intOf]; omega
      · have hbig' : ¬ (100 : Int) < (k : Int) + t := by omega
        by_cases hz : C = 0
        · subst hz
          go_wp2
          go_roundw
          case rel => exact ⟨k + 1, by omega, by go_num, hbw⟩
          case measure => simp [intOf]; omega
        · have hz1 : ((C : Int) == 0) = false := by rw [beq_eq_false_iff_ne]; omega
          have c3 := HC1.out (k + t) (by omega)
          have hmr := HMR.out (by omega)
          rw [show ((k + t : Nat) : Int) - m = (k : Int) - m + t by omega, hmr, show ((k + t : Nat) : Int) = (k : Int) + t by omega] at c3
          have CC3 := Lib.hid c3
          have hdd : ((C : Int) + 1 == C + 1) = true := beq_self_eq_true _
          have hdd' : ((C : Int) + 1 != C + 1) = false := by rw [bne, hdd]; rfl
          clear c3 hmr
          go_wp2_with fail
          refine (CC3.out _).mono ?_
          rintro e w3 ⟨⟨B3, c3, rfl⟩, hb3⟩
          have hC210 : (C : Int) + 1 ≤ 1000000 := by have := HC210.out; omega
          go_wp2
          go_roundw
          case rel => exact ⟨k + 1, by omega, by go_num, hbw.trans (hb3.mono hzw)⟩
          case measure => simp [intOf]; omega
    · have hlt' : ¬ (k : Int) ≤ 100 := by omega
      go_wp2_with fail
      refine (HK.out _).mono ?_
      rintro e w1 ⟨rfl, hb1⟩
      go_wp2
      go_ret
      exact ⟨rfl, hB0.trans ((hbw.trans (hb1.mono hzw)).mono hB0.size)⟩

end Go.Proofs.Ythagelnimmfhbaa
