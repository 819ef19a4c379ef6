/- Layer 6: the walk of the reference's reckon. -/
import Derived.Test.YtacggbpgillbaaaGreatDoorSi
namespace Go.Proofs.YtacggbpgillbaaaGreatDoor
open Go.RowKit Go.El

/-- a block of cells that nothing has frozen -/
def Blk (W : World) (g : Nat) (t : TypeId) (cs : Array Value) : Prop := W.heap[g]? = some (.cells cs t (0, 0))
theorem Blk.lt {W : World} {g : Nat} {t : TypeId} {cs : Array Value} (h : Blk W g t cs) : g < W.heap.size := (Array.getElem?_eq_some_iff.1 h).1
theorem Blk.cell {W : World} {g : Nat} {t : TypeId} {cs : Array Value} (h : Blk W g t cs) (j : Nat) : W.cell? ⟨g, j, none⟩ = cs[j]? := by simp [World.cell?, show W.heap[g]? = _ from h]
theorem Blk.frozen {W : World} {g : Nat} {t : TypeId} {cs : Array Value} (h : Blk W g t cs) (j : Nat) : W.frozen? ⟨g, j, none⟩ = false := by simp [World.frozen?, show W.heap[g]? = _ from h]
theorem Blk.new (W : World) (t : TypeId) (cs : Array Value) : Blk (W.alloc (.cells cs t)) W.heap.size t cs := heap_alloc_new W _
theorem Blk.kept {W W' : World} {row : Option Nat} {g : Nat} {t : TypeId} {cs : Array Value} (h : Blk W g t cs) (hg : W.grownBy W' row) (hne : some g ≠ row) : Blk W' g t cs := (hg.block g h.lt hne).trans h
theorem Blk.below {W W' : World} {g : Nat} {t : TypeId} {cs : Array Value} (h : Blk W g t cs) (hb : Below W.heap.size W W') : Blk W' g t cs := h.kept (grown_of_below hb none) (by simp)
theorem Blk.alloc {W : World} {g : Nat} {t : TypeId} {cs : Array Value} (h : Blk W g t cs) (o : Obj) : Blk (W.alloc o) g t cs := h.kept (World.grownBy_alloc W o none) (by simp)
theorem Blk.drew {W : World} {g : Nat} {t : TypeId} {cs : Array Value} (h : Blk W g t cs) : Blk W.drew g t cs := h.below (Below.refl _ _).drew
theorem Blk.set_ {W : World} {g : Nat} {t : TypeId} {cs : Array Value} (h : Blk W g t cs) (i : Nat) (u : Value) : Blk (W.setCell ⟨g, i, none⟩ u) g t (cs.setIfInBounds i u) := by
  have h' : W.heap[g]? = some (.cells cs t (0, 0)) := h
  show (W.setCell ⟨g, i, none⟩ u).heap[g]? = _
  simp [World.setCell, Array.getElem?_modify, h']
theorem Blk.stay {W : World} {g : Nat} {t : TypeId} {cs : Array Value} (h : Blk W g t cs) : Stay (fun V => Blk V g t cs) W := fun _ hb => h.below hb


theorem mul_le1 {a b : Int} (a1 : -1000000000 ≤ a) (a2 : a ≤ 1000000000) (b1 : -1000000000 ≤ b) (b2 : b ≤ 1000000000) : a * b ≤ 1000000000000000000 := by
  have h : a.natAbs * b.natAbs ≤ 1000000000 * 1000000000 := Nat.mul_le_mul (by omega) (by omega)
  have h2 : a * b ≤ ((a * b).natAbs : Int) := Int.le_natAbs
  rw [Int.natAbs_mul] at h2
  generalize a.natAbs * b.natAbs = q at *
  omega
theorem mul_le2 {a b : Int} (a1 : -1000000000 ≤ a) (a2 : a ≤ 1000000000) (b1 : -1000000000 ≤ b) (b2 : b ≤ 1000000000) : -1000000000000000000 ≤ a * b := by
  have h := mul_le1 (a := -a) (b := b) (by omega) (by omega) b1 b2
  rw [Int.neg_mul] at h
  omega
theorem tdiv_le {a b : Int} (a1 : -1000000000 ≤ a) (a2 : a ≤ 1000000000) : -1000000000 ≤ a.tdiv b ∧ a.tdiv b ≤ 1000000000 := by
  have h : (a.tdiv b).natAbs ≤ a.natAbs := Int.natAbs_tdiv_le_natAbs a b
  omega
theorem tmod_le {a b : Int} (a1 : -1000000000 ≤ a) (a2 : a ≤ 1000000000) : -1000000000 ≤ a.tmod b ∧ a.tmod b ≤ 1000000000 := by
  have h : (a.tmod b).natAbs ≤ a.natAbs := by rw [Int.natAbs_tmod]; exact Nat.mod_le _ _
  omega

set_option maxRecDepth 100000 in
set_option maxHeartbeats 4000000 in
theorem reckon_add (s : ByteArray) (a b : Ce.V) (hs : s.toList = [97, 100, 100]) (ha0 : a.k = 1 → -1000000000 ≤ a.n ∧ a.n ≤ 1000000000) (hb0 : b.k = 1 → -1000000000 ≤ b.n ∧ b.n ≤ 1000000000) (w : World) :
    Calls Tryz.prog 74 #[.string s, .agg #[.int .u8 a.k, .int .i64 a.n], .agg #[.int .u8 b.k, .int .i64 b.n]] w fun e w' => e = .returned (.agg #[.int .u8 (Ce.reckon s.toList a b).k, .int .i64 (Ce.reckon s.toList a b).n]) ∧ Below w.heap.size w w' := by
  obtain ⟨ak, an⟩ := a
  obtain ⟨bk, bn⟩ := b
  dsimp only at ha0 hb0
  have HB : Hid (Below w.heap.size w (((w.alloc (.cells #[.int .u8 ak, .int .i64 an] 26)).alloc (.cells #[.int .u8 bk, .int .i64 bn] 26)).alloc (.cells #[.int .u8 0, .int .i64 0] 26))) := Lib.hid ((((Below.refl _ _).alloc (Nat.le_refl _) _).alloc (by simp) _).alloc (by simp; omega) _)
  have HZ := Lib.hid (Blk.new ((w.alloc (.cells #[.int .u8 ak, .int .i64 an] 26)).alloc (.cells #[.int .u8 bk, .int .i64 bn] 26)) 26 #[.int .u8 0, .int .i64 0])
  simp only [World.size_alloc] at HZ
  by_cases hk : ak = bk
  · subst hk
    by_cases h1 : ak = 1
    · subst h1
      have HINT := Lib.hid (fun k W => mkInt_any k W)
      have HBAD := Lib.hid (fun k W => mkBad_any k W)
      obtain ⟨a1, a2⟩ := ha0 rfl
      obtain ⟨b1, b2⟩ := hb0 rfl
      clear ha0 hb0
      have HE : Hid (Ce.reckon s.toList ⟨1, an⟩ ⟨1, bn⟩ = Ce.ranged (an + bn)) := Lib.hid (by rw [hs]; rfl)
      have hq : IntKind.i64.wrap (an + bn) = an + bn := by rw [IntKind.wrap_i64]; omega
      have HIN := Lib.hid (fun W => in6_any (an + bn) (-1000000000) 1000000000 W)
      cases hin : Ce.inn (an + bn) (-1000000000) 1000000000 with
      | false =>
        rw [hin] at HIN
        have HE := Lib.hid (HE.out.trans (show Ce.ranged (an + bn) = Ce.vbad 2 by unfold Ce.ranged; rw [hin]; rfl))
        clear hin
        go_enter Tryz.func74, Tryz.ntmps74
        go_wp2_with fail
        refine (HIN.out _).mono ?_
        rintro e w1 ⟨rfl, rfl⟩
        go_wp2_with fail
        refine (HBAD.out _ _).mono ?_
        rintro e w2 ⟨rfl, hb2⟩
        have HZ2 := Lib.hid (HZ.out.below hb2)
        have HB2 := Lib.hid (HB.out.trans (hb2.mono HB.out.size))
        have z0 := HZ2.out.cell 0
        have z1 := HZ2.out.cell 1
        have zf0 := HZ2.out.frozen 0
        have zf1 := HZ2.out.frozen 1
        dsimp at z0 z1
        clear hb2
        go_wp2
        refine bodyPost_ret (results_cell_row rfl _ _ (w.heap.size + 1 + 1) 26 #[.int .u8 5, .int .i64 2] (0, 0) _ rfl ((HZ2.out.set_ 0 _).set_ 1 _) Tryz.underlying26 rfl val_size) rfl ?_
        exact ⟨by rw [HE.out]; rfl, (HB2.out.setCell (by simp; omega) _).setCell (by simp; omega) _⟩
      | true =>
        rw [hin] at HIN
        have HE := Lib.hid (HE.out.trans (show Ce.ranged (an + bn) = Ce.vint (an + bn) by unfold Ce.ranged; rw [hin]; rfl))
        clear hin
        go_enter Tryz.func74, Tryz.ntmps74
        go_wp2_with fail
        refine (HIN.out _).mono ?_
        rintro e w1 ⟨rfl, rfl⟩
        go_wp2_with fail
        refine (HINT.out (an + bn) _).mono ?_
        rintro e w2 ⟨rfl, hb2⟩
        have HZ2 := Lib.hid (HZ.out.below hb2)
        have HB2 := Lib.hid (HB.out.trans (hb2.mono HB.out.size))
        have z0 := HZ2.out.cell 0
        have z1 := HZ2.out.cell 1
        have zf0 := HZ2.out.frozen 0
        have zf1 := HZ2.out.frozen 1
        dsimp at z0 z1
        clear hb2
        go_wp2
        refine bodyPost_ret (results_cell_row rfl _ _ (w.heap.size + 1 + 1) 26 #[.int .u8 1, .int .i64 (an + bn)] (0, 0) _ rfl ((HZ2.out.set_ 0 _).set_ 1 _) Tryz.underlying26 rfl val_size) rfl ?_
        exact ⟨by rw [HE.out]; rfl, (HB2.out.setCell (by simp; omega) _).setCell (by simp; omega) _⟩
    · have HBAD := Lib.hid (fun k W => mkBad_any k W)
      have h1' : (ak == 1) = false := beq_eq_false_iff_ne.2 h1
      have h1'' : (ak != 1) = true := by rw [bne, h1']; rfl
      have HE : Hid (Ce.reckon s.toList ⟨ak, an⟩ ⟨ak, bn⟩ = Ce.vbad 5) := Lib.hid (by rw [hs]; unfold Ce.reckon; rw [if_neg (by decide), if_neg (by decide), if_pos (fun h => h1 h.2)])
      go_enter Tryz.func74, Tryz.ntmps74
      go_wp2_with fail
      refine (HBAD.out _ _).mono ?_
      rintro e w1 ⟨rfl, hb1⟩
      have HZ1 := Lib.hid (HZ.out.below hb1)
      have HB1 := Lib.hid (HB.out.trans (hb1.mono HB.out.size))
      have z0 := HZ1.out.cell 0
      have z1 := HZ1.out.cell 1
      have zf0 := HZ1.out.frozen 0
      have zf1 := HZ1.out.frozen 1
      dsimp at z0 z1
      clear hb1
      go_wp2
      refine bodyPost_ret (results_cell_row rfl _ _ (w.heap.size + 1 + 1) 26 #[.int .u8 5, .int .i64 5] (0, 0) _ rfl ((HZ1.out.set_ 0 _).set_ 1 _) Tryz.underlying26 rfl val_size) rfl ?_
      exact ⟨by rw [HE.out]; rfl, (HB1.out.setCell (by simp; omega) _).setCell (by simp; omega) _⟩
  · have HBAD := Lib.hid (fun k W => mkBad_any k W)
    have hk' : (ak == bk) = false := beq_eq_false_iff_ne.2 hk
    have HE : Hid (Ce.reckon s.toList ⟨ak, an⟩ ⟨bk, bn⟩ = Ce.vbad 5) := Lib.hid (by rw [hs]; unfold Ce.reckon; rw [if_neg (by decide), if_neg (by decide), if_pos (fun h => hk h.1)])
    go_enter Tryz.func74, Tryz.ntmps74
    go_wp2_with fail
    refine (HBAD.out _ _).mono ?_
    rintro e w1 ⟨rfl, hb1⟩
    have HZ1 := Lib.hid (HZ.out.below hb1)
    have HB1 := Lib.hid (HB.out.trans (hb1.mono HB.out.size))
    have z0 := HZ1.out.cell 0
    have z1 := HZ1.out.cell 1
    have zf0 := HZ1.out.frozen 0
    have zf1 := HZ1.out.frozen 1
    dsimp at z0 z1
    clear hb1
    go_wp2
    refine bodyPost_ret (results_cell_row rfl _ _ (w.heap.size + 1 + 1) 26 #[.int .u8 5, .int .i64 5] (0, 0) _ rfl ((HZ1.out.set_ 0 _).set_ 1 _) Tryz.underlying26 rfl val_size) rfl ?_
    exact ⟨by rw [HE.out]; rfl, (HB1.out.setCell (by simp; omega) _).setCell (by simp; omega) _⟩

set_option maxRecDepth 100000 in
set_option maxHeartbeats 4000000 in
theorem reckon_sub (s : ByteArray) (a b : Ce.V) (hs : s.toList = [115, 117, 98]) (ha0 : a.k = 1 → -1000000000 ≤ a.n ∧ a.n ≤ 1000000000) (hb0 : b.k = 1 → -1000000000 ≤ b.n ∧ b.n ≤ 1000000000) (w : World) :
    Calls Tryz.prog 74 #[.string s, .agg #[.int .u8 a.k, .int .i64 a.n], .agg #[.int .u8 b.k, .int .i64 b.n]] w fun e w' => e = .returned (.agg #[.int .u8 (Ce.reckon s.toList a b).k, .int .i64 (Ce.reckon s.toList a b).n]) ∧ Below w.heap.size w w' := by
  obtain ⟨ak, an⟩ := a
  obtain ⟨bk, bn⟩ := b
  dsimp only at ha0 hb0
  have HB : Hid (Below w.heap.size w (((w.alloc (.cells #[.int .u8 ak, .int .i64 an] 26)).alloc (.cells #[.int .u8 bk, .int .i64 bn] 26)).alloc (.cells #[.int .u8 0, .int .i64 0] 26))) := Lib.hid ((((Below.refl _ _).alloc (Nat.le_refl _) _).alloc (by simp) _).alloc (by simp; omega) _)
  have HZ := Lib.hid (Blk.new ((w.alloc (.cells #[.int .u8 ak, .int .i64 an] 26)).alloc (.cells #[.int .u8 bk, .int .i64 bn] 26)) 26 #[.int .u8 0, .int .i64 0])
  simp only [World.size_alloc] at HZ
  by_cases hk : ak = bk
  · subst hk
    by_cases h1 : ak = 1
    · subst h1
      have HINT := Lib.hid (fun k W => mkInt_any k W)
      have HBAD := Lib.hid (fun k W => mkBad_any k W)
      obtain ⟨a1, a2⟩ := ha0 rfl
      obtain ⟨b1, b2⟩ := hb0 rfl
      clear ha0 hb0
      have HE : Hid (Ce.reckon s.toList ⟨1, an⟩ ⟨1, bn⟩ = Ce.ranged (an - bn)) := Lib.hid (by rw [hs]; rfl)
      have hq : IntKind.i64.wrap (an - bn) = an - bn := by rw [IntKind.wrap_i64]; omega
      have HIN := Lib.hid (fun W => in6_any (an - bn) (-1000000000) 1000000000 W)
      cases hin : Ce.inn (an - bn) (-1000000000) 1000000000 with
      | false =>
        rw [hin] at HIN
        have HE := Lib.hid (HE.out.trans (show Ce.ranged (an - bn) = Ce.vbad 2 by unfold Ce.ranged; rw [hin]; rfl))
        clear hin
        go_enter Tryz.func74, Tryz.ntmps74
        go_wp2_with fail
        refine (HIN.out _).mono ?_
        rintro e w1 ⟨rfl, rfl⟩
        go_wp2_with fail
        refine (HBAD.out _ _).mono ?_
        rintro e w2 ⟨rfl, hb2⟩
        have HZ2 := Lib.hid (HZ.out.below hb2)
        have HB2 := Lib.hid (HB.out.trans (hb2.mono HB.out.size))
        have z0 := HZ2.out.cell 0
        have z1 := HZ2.out.cell 1
        have zf0 := HZ2.out.frozen 0
        have zf1 := HZ2.out.frozen 1
        dsimp at z0 z1
        clear hb2
        go_wp2
        refine bodyPost_ret (results_cell_row rfl _ _ (w.heap.size + 1 + 1) 26 #[.int .u8 5, .int .i64 2] (0, 0) _ rfl ((HZ2.out.set_ 0 _).set_ 1 _) Tryz.underlying26 rfl val_size) rfl ?_
        exact ⟨by rw [HE.out]; rfl, (HB2.out.setCell (by simp; omega) _).setCell (by simp; omega) _⟩
      | true =>
        rw [hin] at HIN
        have HE := Lib.hid (HE.out.trans (show Ce.ranged (an - bn) = Ce.vint (an - bn) by unfold Ce.ranged; rw [hin]; rfl))
        clear hin
        go_enter Tryz.func74, Tryz.ntmps74
        go_wp2_with fail
        refine (HIN.out _).mono ?_
        rintro e w1 ⟨rfl, rfl⟩
        go_wp2_with fail
        refine (HINT.out (an - bn) _).mono ?_
        rintro e w2 ⟨rfl, hb2⟩
        have HZ2 := Lib.hid (HZ.out.below hb2)
        have HB2 := Lib.hid (HB.out.trans (hb2.mono HB.out.size))
        have z0 := HZ2.out.cell 0
        have z1 := HZ2.out.cell 1
        have zf0 := HZ2.out.frozen 0
        have zf1 := HZ2.out.frozen 1
        dsimp at z0 z1
        clear hb2
        go_wp2
        refine bodyPost_ret (results_cell_row rfl _ _ (w.heap.size + 1 + 1) 26 #[.int .u8 1, .int .i64 (an - bn)] (0, 0) _ rfl ((HZ2.out.set_ 0 _).set_ 1 _) Tryz.underlying26 rfl val_size) rfl ?_
        exact ⟨by rw [HE.out]; rfl, (HB2.out.setCell (by simp; omega) _).setCell (by simp; omega) _⟩
    · have HBAD := Lib.hid (fun k W => mkBad_any k W)
      have h1' : (ak == 1) = false := beq_eq_false_iff_ne.2 h1
      have h1'' : (ak != 1) = true := by rw [bne, h1']; rfl
      have HE : Hid (Ce.reckon s.toList ⟨ak, an⟩ ⟨ak, bn⟩ = Ce.vbad 5) := Lib.hid (by rw [hs]; unfold Ce.reckon; rw [if_neg (by decide), if_neg (by decide), if_pos (fun h => h1 h.2)])
      go_enter Tryz.func74, Tryz.ntmps74
      go_wp2_with fail
      refine (HBAD.out _ _).mono ?_
      rintro e w1 ⟨rfl, hb1⟩
      have HZ1 := Lib.hid (HZ.out.below hb1)
      have HB1 := Lib.hid (HB.out.trans (hb1.mono HB.out.size))
      have z0 := HZ1.out.cell 0
      have z1 := HZ1.out.cell 1
      have zf0 := HZ1.out.frozen 0
      have zf1 := HZ1.out.frozen 1
      dsimp at z0 z1
      clear hb1
      go_wp2
      refine bodyPost_ret (results_cell_row rfl _ _ (w.heap.size + 1 + 1) 26 #[.int .u8 5, .int .i64 5] (0, 0) _ rfl ((HZ1.out.set_ 0 _).set_ 1 _) Tryz.underlying26 rfl val_size) rfl ?_
      exact ⟨by rw [HE.out]; rfl, (HB1.out.setCell (by simp; omega) _).setCell (by simp; omega) _⟩
  · have HBAD := Lib.hid (fun k W => mkBad_any k W)
    have hk' : (ak == bk) = false := beq_eq_false_iff_ne.2 hk
    have HE : Hid (Ce.reckon s.toList ⟨ak, an⟩ ⟨bk, bn⟩ = Ce.vbad 5) := Lib.hid (by rw [hs]; unfold Ce.reckon; rw [if_neg (by decide), if_neg (by decide), if_pos (fun h => hk h.1)])
    go_enter Tryz.func74, Tryz.ntmps74
    go_wp2_with fail
    refine (HBAD.out _ _).mono ?_
    rintro e w1 ⟨rfl, hb1⟩
    have HZ1 := Lib.hid (HZ.out.below hb1)
    have HB1 := Lib.hid (HB.out.trans (hb1.mono HB.out.size))
    have z0 := HZ1.out.cell 0
    have z1 := HZ1.out.cell 1
    have zf0 := HZ1.out.frozen 0
    have zf1 := HZ1.out.frozen 1
    dsimp at z0 z1
    clear hb1
    go_wp2
    refine bodyPost_ret (results_cell_row rfl _ _ (w.heap.size + 1 + 1) 26 #[.int .u8 5, .int .i64 5] (0, 0) _ rfl ((HZ1.out.set_ 0 _).set_ 1 _) Tryz.underlying26 rfl val_size) rfl ?_
    exact ⟨by rw [HE.out]; rfl, (HB1.out.setCell (by simp; omega) _).setCell (by simp; omega) _⟩

set_option maxRecDepth 100000 in
set_option maxHeartbeats 4000000 in
theorem reckon_mul (s : ByteArray) (a b : Ce.V) (hs : s.toList = [109, 117, 108]) (ha0 : a.k = 1 → -1000000000 ≤ a.n ∧ a.n ≤ 1000000000) (hb0 : b.k = 1 → -1000000000 ≤ b.n ∧ b.n ≤ 1000000000) (w : World) :
    Calls Tryz.prog 74 #[.string s, .agg #[.int .u8 a.k, .int .i64 a.n], .agg #[.int .u8 b.k, .int .i64 b.n]] w fun e w' => e = .returned (.agg #[.int .u8 (Ce.reckon s.toList a b).k, .int .i64 (Ce.reckon s.toList a b).n]) ∧ Below w.heap.size w w' := by
  obtain ⟨ak, an⟩ := a
  obtain ⟨bk, bn⟩ := b
  dsimp only at ha0 hb0
  have HB : Hid (Below w.heap.size w (((w.alloc (.cells #[.int .u8 ak, .int .i64 an] 26)).alloc (.cells #[.int .u8 bk, .int .i64 bn] 26)).alloc (.cells #[.int .u8 0, .int .i64 0] 26))) := Lib.hid ((((Below.refl _ _).alloc (Nat.le_refl _) _).alloc (by simp) _).alloc (by simp; omega) _)
  have HZ := Lib.hid (Blk.new ((w.alloc (.cells #[.int .u8 ak, .int .i64 an] 26)).alloc (.cells #[.int .u8 bk, .int .i64 bn] 26)) 26 #[.int .u8 0, .int .i64 0])
  simp only [World.size_alloc] at HZ
  by_cases hk : ak = bk
  · subst hk
    by_cases h1 : ak = 1
    · subst h1
      have HINT := Lib.hid (fun k W => mkInt_any k W)
      have HBAD := Lib.hid (fun k W => mkBad_any k W)
      obtain ⟨a1, a2⟩ := ha0 rfl
      obtain ⟨b1, b2⟩ := hb0 rfl
      clear ha0 hb0
      have hm1 : an * bn ≤ 1000000000000000000 := mul_le1 a1 a2 b1 b2
      have hm2 : -1000000000000000000 ≤ an * bn := mul_le2 a1 a2 b1 b2
      have HE : Hid (Ce.reckon s.toList ⟨1, an⟩ ⟨1, bn⟩ = Ce.ranged (an * bn)) := Lib.hid (by rw [hs]; rfl)
      have hq : IntKind.i64.wrap (an * bn) = an * bn := by rw [IntKind.wrap_i64]; omega
      have HIN := Lib.hid (fun W => in6_any (an * bn) (-1000000000) 1000000000 W)
      cases hin : Ce.inn (an * bn) (-1000000000) 1000000000 with
      | false =>
        rw [hin] at HIN
        have HE := Lib.hid (HE.out.trans (show Ce.ranged (an * bn) = Ce.vbad 2 by unfold Ce.ranged; rw [hin]; rfl))
        clear hin
        go_enter Tryz.func74, Tryz.ntmps74
        go_wp2_with fail
        refine (HIN.out _).mono ?_
        rintro e w1 ⟨rfl, rfl⟩
        go_wp2_with fail
        refine (HBAD.out _ _).mono ?_
        rintro e w2 ⟨rfl, hb2⟩
        have HZ2 := Lib.hid (HZ.out.below hb2)
        have HB2 := Lib.hid (HB.out.trans (hb2.mono HB.out.size))
        have z0 := HZ2.out.cell 0
        have z1 := HZ2.out.cell 1
        have zf0 := HZ2.out.frozen 0
        have zf1 := HZ2.out.frozen 1
        dsimp at z0 z1
        clear hb2
        go_wp2
        refine bodyPost_ret (results_cell_row rfl _ _ (w.heap.size + 1 + 1) 26 #[.int .u8 5, .int .i64 2] (0, 0) _ rfl ((HZ2.out.set_ 0 _).set_ 1 _) Tryz.underlying26 rfl val_size) rfl ?_
        exact ⟨by rw [HE.out]; rfl, (HB2.out.setCell (by simp; omega) _).setCell (by simp; omega) _⟩
      | true =>
        rw [hin] at HIN
        have HE := Lib.hid (HE.out.trans (show Ce.ranged (an * bn) = Ce.vint (an * bn) by unfold Ce.ranged; rw [hin]; rfl))
        clear hin
        go_enter Tryz.func74, Tryz.ntmps74
        go_wp2_with fail
        refine (HIN.out _).mono ?_
        rintro e w1 ⟨rfl, rfl⟩
        go_wp2_with fail
        refine (HINT.out (an * bn) _).mono ?_
        rintro e w2 ⟨rfl, hb2⟩
        have HZ2 := Lib.hid (HZ.out.below hb2)
        have HB2 := Lib.hid (HB.out.trans (hb2.mono HB.out.size))
        have z0 := HZ2.out.cell 0
        have z1 := HZ2.out.cell 1
        have zf0 := HZ2.out.frozen 0
        have zf1 := HZ2.out.frozen 1
        dsimp at z0 z1
        clear hb2
        go_wp2
        refine bodyPost_ret (results_cell_row rfl _ _ (w.heap.size + 1 + 1) 26 #[.int .u8 1, .int .i64 (an * bn)] (0, 0) _ rfl ((HZ2.out.set_ 0 _).set_ 1 _) Tryz.underlying26 rfl val_size) rfl ?_
        exact ⟨by rw [HE.out]; rfl, (HB2.out.setCell (by simp; omega) _).setCell (by simp; omega) _⟩
    · have HBAD := Lib.hid (fun k W => mkBad_any k W)
      have h1' : (ak == 1) = false := beq_eq_false_iff_ne.2 h1
      have h1'' : (ak != 1) = true := by rw [bne, h1']; rfl
      have HE : Hid (Ce.reckon s.toList ⟨ak, an⟩ ⟨ak, bn⟩ = Ce.vbad 5) := Lib.hid (by rw [hs]; unfold Ce.reckon; rw [if_neg (by decide), if_neg (by decide), if_pos (fun h => h1 h.2)])
      go_enter Tryz.func74, Tryz.ntmps74
      go_wp2_with fail
      refine (HBAD.out _ _).mono ?_
      rintro e w1 ⟨rfl, hb1⟩
      have HZ1 := Lib.hid (HZ.out.below hb1)
      have HB1 := Lib.hid (HB.out.trans (hb1.mono HB.out.size))
      have z0 := HZ1.out.cell 0
      have z1 := HZ1.out.cell 1
      have zf0 := HZ1.out.frozen 0
      have zf1 := HZ1.out.frozen 1
      dsimp at z0 z1
      clear hb1
      go_wp2
      refine bodyPost_ret (results_cell_row rfl _ _ (w.heap.size + 1 + 1) 26 #[.int .u8 5, .int .i64 5] (0, 0) _ rfl ((HZ1.out.set_ 0 _).set_ 1 _) Tryz.underlying26 rfl val_size) rfl ?_
      exact ⟨by rw [HE.out]; rfl, (HB1.out.setCell (by simp; omega) _).setCell (by simp; omega) _⟩
  · have HBAD := Lib.hid (fun k W => mkBad_any k W)
    have hk' : (ak == bk) = false := beq_eq_false_iff_ne.2 hk
    have HE : Hid (Ce.reckon s.toList ⟨ak, an⟩ ⟨bk, bn⟩ = Ce.vbad 5) := Lib.hid (by rw [hs]; unfold Ce.reckon; rw [if_neg (by decide), if_neg (by decide), if_pos (fun h => hk h.1)])
    go_enter Tryz.func74, Tryz.ntmps74
    go_wp2_with fail
    refine (HBAD.out _ _).mono ?_
    rintro e w1 ⟨rfl, hb1⟩
    have HZ1 := Lib.hid (HZ.out.below hb1)
    have HB1 := Lib.hid (HB.out.trans (hb1.mono HB.out.size))
    have z0 := HZ1.out.cell 0
    have z1 := HZ1.out.cell 1
    have zf0 := HZ1.out.frozen 0
    have zf1 := HZ1.out.frozen 1
    dsimp at z0 z1
    clear hb1
    go_wp2
    refine bodyPost_ret (results_cell_row rfl _ _ (w.heap.size + 1 + 1) 26 #[.int .u8 5, .int .i64 5] (0, 0) _ rfl ((HZ1.out.set_ 0 _).set_ 1 _) Tryz.underlying26 rfl val_size) rfl ?_
    exact ⟨by rw [HE.out]; rfl, (HB1.out.setCell (by simp; omega) _).setCell (by simp; omega) _⟩

set_option maxRecDepth 100000 in
set_option maxHeartbeats 4000000 in
theorem reckon_div (s : ByteArray) (a b : Ce.V) (hs : s.toList = [100, 105, 118]) (ha0 : a.k = 1 → -1000000000 ≤ a.n ∧ a.n ≤ 1000000000) (hb0 : b.k = 1 → -1000000000 ≤ b.n ∧ b.n ≤ 1000000000) (w : World) :
    Calls Tryz.prog 74 #[.string s, .agg #[.int .u8 a.k, .int .i64 a.n], .agg #[.int .u8 b.k, .int .i64 b.n]] w fun e w' => e = .returned (.agg #[.int .u8 (Ce.reckon s.toList a b).k, .int .i64 (Ce.reckon s.toList a b).n]) ∧ Below w.heap.size w w' := by
  obtain ⟨ak, an⟩ := a
  obtain ⟨bk, bn⟩ := b
  dsimp only at ha0 hb0
  have HB : Hid (Below w.heap.size w (((w.alloc (.cells #[.int .u8 ak, .int .i64 an] 26)).alloc (.cells #[.int .u8 bk, .int .i64 bn] 26)).alloc (.cells #[.int .u8 0, .int .i64 0] 26))) := Lib.hid ((((Below.refl _ _).alloc (Nat.le_refl _) _).alloc (by simp) _).alloc (by simp; omega) _)
  have HZ := Lib.hid (Blk.new ((w.alloc (.cells #[.int .u8 ak, .int .i64 an] 26)).alloc (.cells #[.int .u8 bk, .int .i64 bn] 26)) 26 #[.int .u8 0, .int .i64 0])
  simp only [World.size_alloc] at HZ
  by_cases hk : ak = bk
  · subst hk
    by_cases h1 : ak = 1
    · subst h1
      have HINT := Lib.hid (fun k W => mkInt_any k W)
      have HBAD := Lib.hid (fun k W => mkBad_any k W)
      obtain ⟨a1, a2⟩ := ha0 rfl
      obtain ⟨b1, b2⟩ := hb0 rfl
      clear ha0 hb0
      by_cases hz : bn = 0
      · subst hz
        have HE : Hid (Ce.reckon s.toList ⟨1, an⟩ ⟨1, 0⟩ = Ce.vbad 1) := Lib.hid (by rw [hs]; rfl)
        go_enter Tryz.func74, Tryz.ntmps74
        go_wp2_with fail
        refine (HBAD.out _ _).mono ?_
        rintro e w1 ⟨rfl, hb1⟩
        have HZ1 := Lib.hid (HZ.out.below hb1)
        have HB1 := Lib.hid (HB.out.trans (hb1.mono HB.out.size))
        have z0 := HZ1.out.cell 0
        have z1 := HZ1.out.cell 1
        have zf0 := HZ1.out.frozen 0
        have zf1 := HZ1.out.frozen 1
        dsimp at z0 z1
        clear hb1
        go_wp2
        refine bodyPost_ret (results_cell_row rfl _ _ (w.heap.size + 1 + 1) 26 #[.int .u8 5, .int .i64 1] (0, 0) _ rfl ((HZ1.out.set_ 0 _).set_ 1 _) Tryz.underlying26 rfl val_size) rfl ?_
        exact ⟨by rw [HE.out]; rfl, (HB1.out.setCell (by simp; omega) _).setCell (by simp; omega) _⟩
      · have hz' : (bn == 0) = false := beq_eq_false_iff_ne.2 hz
        have HE : Hid (Ce.reckon s.toList ⟨1, an⟩ ⟨1, bn⟩ = Ce.ranged (an.tdiv bn)) := Lib.hid (by rw [hs]; unfold Ce.reckon; rw [if_neg (by decide), if_neg (by decide), if_neg (by simp), if_neg (by decide), if_neg (by decide), if_neg (by decide), if_neg (by decide), if_neg (by decide), if_neg (by decide), if_neg hz, if_neg (by decide)])
        have hd1 := tdiv_le (b := bn) a1 a2
        have hd2 := tmod_le (b := bn) a1 a2
        have hqd : IntKind.i64.wrap (an.tdiv bn) = an.tdiv bn := by rw [IntKind.wrap_i64]; omega
        have hq : IntKind.i64.wrap (an.tdiv bn) = an.tdiv bn := by rw [IntKind.wrap_i64]; omega
        have HIN := Lib.hid (fun W => in6_any (an.tdiv bn) (-1000000000) 1000000000 W)
        cases hin : Ce.inn (an.tdiv bn) (-1000000000) 1000000000 with
        | false =>
          rw [hin] at HIN
          have HE := Lib.hid (HE.out.trans (show Ce.ranged (an.tdiv bn) = Ce.vbad 2 by unfold Ce.ranged; rw [hin]; rfl))
          clear hin
          go_enter Tryz.func74, Tryz.ntmps74
          go_wp2_with fail
          refine (HIN.out _).mono ?_
          rintro e w1 ⟨rfl, rfl⟩
          go_wp2_with fail
          refine (HBAD.out _ _).mono ?_
          rintro e w2 ⟨rfl, hb2⟩
          have HZ2 := Lib.hid (HZ.out.below hb2)
          have HB2 := Lib.hid (HB.out.trans (hb2.mono HB.out.size))
          have z0 := HZ2.out.cell 0
          have z1 := HZ2.out.cell 1
          have zf0 := HZ2.out.frozen 0
          have zf1 := HZ2.out.frozen 1
          dsimp at z0 z1
          clear hb2
          go_wp2
          refine bodyPost_ret (results_cell_row rfl _ _ (w.heap.size + 1 + 1) 26 #[.int .u8 5, .int .i64 2] (0, 0) _ rfl ((HZ2.out.set_ 0 _).set_ 1 _) Tryz.underlying26 rfl val_size) rfl ?_
          exact ⟨by rw [HE.out]; rfl, (HB2.out.setCell (by simp; omega) _).setCell (by simp; omega) _⟩
        | true =>
          rw [hin] at HIN
          have HE := Lib.hid (HE.out.trans (show Ce.ranged (an.tdiv bn) = Ce.vint (an.tdiv bn) by unfold Ce.ranged; rw [hin]; rfl))
          clear hin
          go_enter Tryz.func74, Tryz.ntmps74
          go_wp2_with fail
          refine (HIN.out _).mono ?_
          rintro e w1 ⟨rfl, rfl⟩
          go_wp2_with fail
          refine (HINT.out (an.tdiv bn) _).mono ?_
          rintro e w2 ⟨rfl, hb2⟩
          have HZ2 := Lib.hid (HZ.out.below hb2)
          have HB2 := Lib.hid (HB.out.trans (hb2.mono HB.out.size))
          have z0 := HZ2.out.cell 0
          have z1 := HZ2.out.cell 1
          have zf0 := HZ2.out.frozen 0
          have zf1 := HZ2.out.frozen 1
          dsimp at z0 z1
          clear hb2
          go_wp2
          refine bodyPost_ret (results_cell_row rfl _ _ (w.heap.size + 1 + 1) 26 #[.int .u8 1, .int .i64 (an.tdiv bn)] (0, 0) _ rfl ((HZ2.out.set_ 0 _).set_ 1 _) Tryz.underlying26 rfl val_size) rfl ?_
          exact ⟨by rw [HE.out]; rfl, (HB2.out.setCell (by simp; omega) _).setCell (by simp; omega) _⟩
    · have HBAD := Lib.hid (fun k W => mkBad_any k W)
      have h1' : (ak == 1) = false := beq_eq_false_iff_ne.2 h1
      have h1'' : (ak != 1) = true := by rw [bne, h1']; rfl
      have HE : Hid (Ce.reckon s.toList ⟨ak, an⟩ ⟨ak, bn⟩ = Ce.vbad 5) := Lib.hid (by rw [hs]; unfold Ce.reckon; rw [if_neg (by decide), if_neg (by decide), if_pos (fun h => h1 h.2)])
      go_enter Tryz.func74, Tryz.ntmps74
      go_wp2_with fail
      refine (HBAD.out _ _).mono ?_
      rintro e w1 ⟨rfl, hb1⟩
      have HZ1 := Lib.hid (HZ.out.below hb1)
      have HB1 := Lib.hid (HB.out.trans (hb1.mono HB.out.size))
      have z0 := HZ1.out.cell 0
      have z1 := HZ1.out.cell 1
      have zf0 := HZ1.out.frozen 0
      have zf1 := HZ1.out.frozen 1
      dsimp at z0 z1
      clear hb1
      go_wp2
      refine bodyPost_ret (results_cell_row rfl _ _ (w.heap.size + 1 + 1) 26 #[.int .u8 5, .int .i64 5] (0, 0) _ rfl ((HZ1.out.set_ 0 _).set_ 1 _) Tryz.underlying26 rfl val_size) rfl ?_
      exact ⟨by rw [HE.out]; rfl, (HB1.out.setCell (by simp; omega) _).setCell (by simp; omega) _⟩
  · have HBAD := Lib.hid (fun k W => mkBad_any k W)
    have hk' : (ak == bk) = false := beq_eq_false_iff_ne.2 hk
    have HE : Hid (Ce.reckon s.toList ⟨ak, an⟩ ⟨bk, bn⟩ = Ce.vbad 5) := Lib.hid (by rw [hs]; unfold Ce.reckon; rw [if_neg (by decide), if_neg (by decide), if_pos (fun h => hk h.1)])
    go_enter Tryz.func74, Tryz.ntmps74
    go_wp2_with fail
    refine (HBAD.out _ _).mono ?_
    rintro e w1 ⟨rfl, hb1⟩
    have HZ1 := Lib.hid (HZ.out.below hb1)
    have HB1 := Lib.hid (HB.out.trans (hb1.mono HB.out.size))
    have z0 := HZ1.out.cell 0
    have z1 := HZ1.out.cell 1
    have zf0 := HZ1.out.frozen 0
    have zf1 := HZ1.out.frozen 1
    dsimp at z0 z1
    clear hb1
    go_wp2
    refine bodyPost_ret (results_cell_row rfl _ _ (w.heap.size + 1 + 1) 26 #[.int .u8 5, .int .i64 5] (0, 0) _ rfl ((HZ1.out.set_ 0 _).set_ 1 _) Tryz.underlying26 rfl val_size) rfl ?_
    exact ⟨by rw [HE.out]; rfl, (HB1.out.setCell (by simp; omega) _).setCell (by simp; omega) _⟩

set_option maxRecDepth 100000 in
set_option maxHeartbeats 4000000 in
theorem reckon_mod (s : ByteArray) (a b : Ce.V) (hs : s.toList = [109, 111, 100]) (ha0 : a.k = 1 → -1000000000 ≤ a.n ∧ a.n ≤ 1000000000) (hb0 : b.k = 1 → -1000000000 ≤ b.n ∧ b.n ≤ 1000000000) (w : World) :
    Calls Tryz.prog 74 #[.string s, .agg #[.int .u8 a.k, .int .i64 a.n], .agg #[.int .u8 b.k, .int .i64 b.n]] w fun e w' => e = .returned (.agg #[.int .u8 (Ce.reckon s.toList a b).k, .int .i64 (Ce.reckon s.toList a b).n]) ∧ Below w.heap.size w w' := by
  obtain ⟨ak, an⟩ := a
  obtain ⟨bk, bn⟩ := b
  dsimp only at ha0 hb0
  have HB : Hid (Below w.heap.size w (((w.alloc (.cells #[.int .u8 ak, .int .i64 an] 26)).alloc (.cells #[.int .u8 bk, .int .i64 bn] 26)).alloc (.cells #[.int .u8 0, .int .i64 0] 26))) := Lib.hid ((((Below.refl _ _).alloc (Nat.le_refl _) _).alloc (by simp) _).alloc (by simp; omega) _)
  have HZ := Lib.hid (Blk.new ((w.alloc (.cells #[.int .u8 ak, .int .i64 an] 26)).alloc (.cells #[.int .u8 bk, .int .i64 bn] 26)) 26 #[.int .u8 0, .int .i64 0])
  simp only [World.size_alloc] at HZ
  by_cases hk : ak = bk
  · subst hk
    by_cases h1 : ak = 1
    · subst h1
      have HINT := Lib.hid (fun k W => mkInt_any k W)
      have HBAD := Lib.hid (fun k W => mkBad_any k W)
      obtain ⟨a1, a2⟩ := ha0 rfl
      obtain ⟨b1, b2⟩ := hb0 rfl
      clear ha0 hb0
      by_cases hz : bn = 0
      · subst hz
        have HE : Hid (Ce.reckon s.toList ⟨1, an⟩ ⟨1, 0⟩ = Ce.vbad 1) := Lib.hid (by rw [hs]; rfl)
        go_enter Tryz.func74, Tryz.ntmps74
        go_wp2_with fail
        refine (HBAD.out _ _).mono ?_
        rintro e w1 ⟨rfl, hb1⟩
        have HZ1 := Lib.hid (HZ.out.below hb1)
        have HB1 := Lib.hid (HB.out.trans (hb1.mono HB.out.size))
        have z0 := HZ1.out.cell 0
        have z1 := HZ1.out.cell 1
        have zf0 := HZ1.out.frozen 0
        have zf1 := HZ1.out.frozen 1
        dsimp at z0 z1
        clear hb1
        go_wp2
        refine bodyPost_ret (results_cell_row rfl _ _ (w.heap.size + 1 + 1) 26 #[.int .u8 5, .int .i64 1] (0, 0) _ rfl ((HZ1.out.set_ 0 _).set_ 1 _) Tryz.underlying26 rfl val_size) rfl ?_
        exact ⟨by rw [HE.out]; rfl, (HB1.out.setCell (by simp; omega) _).setCell (by simp; omega) _⟩
      · have hz' : (bn == 0) = false := beq_eq_false_iff_ne.2 hz
        have HE : Hid (Ce.reckon s.toList ⟨1, an⟩ ⟨1, bn⟩ = Ce.ranged (an.tmod bn)) := Lib.hid (by rw [hs]; unfold Ce.reckon; rw [if_neg (by decide), if_neg (by decide), if_neg (by simp), if_neg (by decide), if_neg (by decide), if_neg (by decide), if_neg (by decide), if_neg (by decide), if_neg (by decide), if_neg hz, if_pos (by decide)])
        have hd1 := tdiv_le (b := bn) a1 a2
        have hd2 := tmod_le (b := bn) a1 a2
        have hqd : IntKind.i64.wrap (an.tdiv bn) = an.tdiv bn := by rw [IntKind.wrap_i64]; omega
        have hq : IntKind.i64.wrap (an.tmod bn) = an.tmod bn := by rw [IntKind.wrap_i64]; omega
        have HIN := Lib.hid (fun W => in6_any (an.tmod bn) (-1000000000) 1000000000 W)
        cases hin : Ce.inn (an.tmod bn) (-1000000000) 1000000000 with
        | false =>
          rw [hin] at HIN
          have HE := Lib.hid (HE.out.trans (show Ce.ranged (an.tmod bn) = Ce.vbad 2 by unfold Ce.ranged; rw [hin]; rfl))
          clear hin
          go_enter Tryz.func74, Tryz.ntmps74
          go_wp2_with fail
          refine (HIN.out _).mono ?_
          rintro e w1 ⟨rfl, rfl⟩
          go_wp2_with fail
          refine (HBAD.out _ _).mono ?_
          rintro e w2 ⟨rfl, hb2⟩
          have HZ2 := Lib.hid (HZ.out.below hb2)
          have HB2 := Lib.hid (HB.out.trans (hb2.mono HB.out.size))
          have z0 := HZ2.out.cell 0
          have z1 := HZ2.out.cell 1
          have zf0 := HZ2.out.frozen 0
          have zf1 := HZ2.out.frozen 1
          dsimp at z0 z1
          clear hb2
          go_wp2
          refine bodyPost_ret (results_cell_row rfl _ _ (w.heap.size + 1 + 1) 26 #[.int .u8 5, .int .i64 2] (0, 0) _ rfl ((HZ2.out.set_ 0 _).set_ 1 _) Tryz.underlying26 rfl val_size) rfl ?_
          exact ⟨by rw [HE.out]; rfl, (HB2.out.setCell (by simp; omega) _).setCell (by simp; omega) _⟩
        | true =>
          rw [hin] at HIN
          have HE := Lib.hid (HE.out.trans (show Ce.ranged (an.tmod bn) = Ce.vint (an.tmod bn) by unfold Ce.ranged; rw [hin]; rfl))
          clear hin
          go_enter Tryz.func74, Tryz.ntmps74
          go_wp2_with fail
          refine (HIN.out _).mono ?_
          rintro e w1 ⟨rfl, rfl⟩
          go_wp2_with fail
          refine (HINT.out (an.tmod bn) _).mono ?_
          rintro e w2 ⟨rfl, hb2⟩
          have HZ2 := Lib.hid (HZ.out.below hb2)
          have HB2 := Lib.hid (HB.out.trans (hb2.mono HB.out.size))
          have z0 := HZ2.out.cell 0
          have z1 := HZ2.out.cell 1
          have zf0 := HZ2.out.frozen 0
          have zf1 := HZ2.out.frozen 1
          dsimp at z0 z1
          clear hb2
          go_wp2
          refine bodyPost_ret (results_cell_row rfl _ _ (w.heap.size + 1 + 1) 26 #[.int .u8 1, .int .i64 (an.tmod bn)] (0, 0) _ rfl ((HZ2.out.set_ 0 _).set_ 1 _) Tryz.underlying26 rfl val_size) rfl ?_
          exact ⟨by rw [HE.out]; rfl, (HB2.out.setCell (by simp; omega) _).setCell (by simp; omega) _⟩
    · have HBAD := Lib.hid (fun k W => mkBad_any k W)
      have h1' : (ak == 1) = false := beq_eq_false_iff_ne.2 h1
      have h1'' : (ak != 1) = true := by rw [bne, h1']; rfl
      have HE : Hid (Ce.reckon s.toList ⟨ak, an⟩ ⟨ak, bn⟩ = Ce.vbad 5) := Lib.hid (by rw [hs]; unfold Ce.reckon; rw [if_neg (by decide), if_neg (by decide), if_pos (fun h => h1 h.2)])
      go_enter Tryz.func74, Tryz.ntmps74
      go_wp2_with fail
      refine (HBAD.out _ _).mono ?_
      rintro e w1 ⟨rfl, hb1⟩
      have HZ1 := Lib.hid (HZ.out.below hb1)
      have HB1 := Lib.hid (HB.out.trans (hb1.mono HB.out.size))
      have z0 := HZ1.out.cell 0
      have z1 := HZ1.out.cell 1
      have zf0 := HZ1.out.frozen 0
      have zf1 := HZ1.out.frozen 1
      dsimp at z0 z1
      clear hb1
      go_wp2
      refine bodyPost_ret (results_cell_row rfl _ _ (w.heap.size + 1 + 1) 26 #[.int .u8 5, .int .i64 5] (0, 0) _ rfl ((HZ1.out.set_ 0 _).set_ 1 _) Tryz.underlying26 rfl val_size) rfl ?_
      exact ⟨by rw [HE.out]; rfl, (HB1.out.setCell (by simp; omega) _).setCell (by simp; omega) _⟩
  · have HBAD := Lib.hid (fun k W => mkBad_any k W)
    have hk' : (ak == bk) = false := beq_eq_false_iff_ne.2 hk
    have HE : Hid (Ce.reckon s.toList ⟨ak, an⟩ ⟨bk, bn⟩ = Ce.vbad 5) := Lib.hid (by rw [hs]; unfold Ce.reckon; rw [if_neg (by decide), if_neg (by decide), if_pos (fun h => hk h.1)])
    go_enter Tryz.func74, Tryz.ntmps74
    go_wp2_with fail
    refine (HBAD.out _ _).mono ?_
    rintro e w1 ⟨rfl, hb1⟩
    have HZ1 := Lib.hid (HZ.out.below hb1)
    have HB1 := Lib.hid (HB.out.trans (hb1.mono HB.out.size))
    have z0 := HZ1.out.cell 0
    have z1 := HZ1.out.cell 1
    have zf0 := HZ1.out.frozen 0
    have zf1 := HZ1.out.frozen 1
    dsimp at z0 z1
    clear hb1
    go_wp2
    refine bodyPost_ret (results_cell_row rfl _ _ (w.heap.size + 1 + 1) 26 #[.int .u8 5, .int .i64 5] (0, 0) _ rfl ((HZ1.out.set_ 0 _).set_ 1 _) Tryz.underlying26 rfl val_size) rfl ?_
    exact ⟨by rw [HE.out]; rfl, (HB1.out.setCell (by simp; omega) _).setCell (by simp; omega) _⟩

set_option maxRecDepth 100000 in
set_option maxHeartbeats 4000000 in
theorem reckon_neg (s : ByteArray) (a b : Ce.V) (hs : s.toList = [110, 101, 103]) (ha0 : a.k = 1 → -1000000000 ≤ a.n ∧ a.n ≤ 1000000000) (hb0 : b.k = 1 → -1000000000 ≤ b.n ∧ b.n ≤ 1000000000) (w : World) :
    Calls Tryz.prog 74 #[.string s, .agg #[.int .u8 a.k, .int .i64 a.n], .agg #[.int .u8 b.k, .int .i64 b.n]] w fun e w' => e = .returned (.agg #[.int .u8 (Ce.reckon s.toList a b).k, .int .i64 (Ce.reckon s.toList a b).n]) ∧ Below w.heap.size w w' := by
  obtain ⟨ak, an⟩ := a
  obtain ⟨bk, bn⟩ := b
  dsimp only at ha0 hb0
  have HB : Hid (Below w.heap.size w (((w.alloc (.cells #[.int .u8 ak, .int .i64 an] 26)).alloc (.cells #[.int .u8 bk, .int .i64 bn] 26)).alloc (.cells #[.int .u8 0, .int .i64 0] 26))) := Lib.hid ((((Below.refl _ _).alloc (Nat.le_refl _) _).alloc (by simp) _).alloc (by simp; omega) _)
  have HZ := Lib.hid (Blk.new ((w.alloc (.cells #[.int .u8 ak, .int .i64 an] 26)).alloc (.cells #[.int .u8 bk, .int .i64 bn] 26)) 26 #[.int .u8 0, .int .i64 0])
  simp only [World.size_alloc] at HZ
  by_cases hk : ak = bk
  · subst hk
    by_cases h1 : ak = 1
    · subst h1
      have HINT := Lib.hid (fun k W => mkInt_any k W)
      have HBAD := Lib.hid (fun k W => mkBad_any k W)
      obtain ⟨a1, a2⟩ := ha0 rfl
      obtain ⟨b1, b2⟩ := hb0 rfl
      clear ha0 hb0
      have HE : Hid (Ce.reckon s.toList ⟨1, an⟩ ⟨1, bn⟩ = Ce.ranged (- an)) := Lib.hid (by rw [hs]; rfl)
      have hq : IntKind.i64.wrap (- an) = - an := by rw [IntKind.wrap_i64]; omega
      have HIN := Lib.hid (fun W => in6_any (- an) (-1000000000) 1000000000 W)
      cases hin : Ce.inn (- an) (-1000000000) 1000000000 with
      | false =>
        rw [hin] at HIN
        have HE := Lib.hid (HE.out.trans (show Ce.ranged (- an) = Ce.vbad 2 by unfold Ce.ranged; rw [hin]; rfl))
        clear hin
        go_enter Tryz.func74, Tryz.ntmps74
        go_wp2_with fail
        refine (HIN.out _).mono ?_
        rintro e w1 ⟨rfl, rfl⟩
        go_wp2_with fail
        refine (HBAD.out _ _).mono ?_
        rintro e w2 ⟨rfl, hb2⟩
        have HZ2 := Lib.hid (HZ.out.below hb2)
        have HB2 := Lib.hid (HB.out.trans (hb2.mono HB.out.size))
        have z0 := HZ2.out.cell 0
        have z1 := HZ2.out.cell 1
        have zf0 := HZ2.out.frozen 0
        have zf1 := HZ2.out.frozen 1
        dsimp at z0 z1
        clear hb2
        go_wp2
        refine bodyPost_ret (results_cell_row rfl _ _ (w.heap.size + 1 + 1) 26 #[.int .u8 5, .int .i64 2] (0, 0) _ rfl ((HZ2.out.set_ 0 _).set_ 1 _) Tryz.underlying26 rfl val_size) rfl ?_
        exact ⟨by rw [HE.out]; rfl, (HB2.out.setCell (by simp; omega) _).setCell (by simp; omega) _⟩
      | true =>
        rw [hin] at HIN
        have HE := Lib.hid (HE.out.trans (show Ce.ranged (- an) = Ce.vint (- an) by unfold Ce.ranged; rw [hin]; rfl))
        clear hin
        go_enter Tryz.func74, Tryz.ntmps74
        go_wp2_with fail
        refine (HIN.out _).mono ?_
        rintro e w1 ⟨rfl, rfl⟩
        go_wp2_with fail
        refine (HINT.out (- an) _).mono ?_
        rintro e w2 ⟨rfl, hb2⟩
        have HZ2 := Lib.hid (HZ.out.below hb2)
        have HB2 := Lib.hid (HB.out.trans (hb2.mono HB.out.size))
        have z0 := HZ2.out.cell 0
        have z1 := HZ2.out.cell 1
        have zf0 := HZ2.out.frozen 0
        have zf1 := HZ2.out.frozen 1
        dsimp at z0 z1
        clear hb2
        go_wp2
        refine bodyPost_ret (results_cell_row rfl _ _ (w.heap.size + 1 + 1) 26 #[.int .u8 1, .int .i64 (- an)] (0, 0) _ rfl ((HZ2.out.set_ 0 _).set_ 1 _) Tryz.underlying26 rfl val_size) rfl ?_
        exact ⟨by rw [HE.out]; rfl, (HB2.out.setCell (by simp; omega) _).setCell (by simp; omega) _⟩
    · have HBAD := Lib.hid (fun k W => mkBad_any k W)
      have h1' : (ak == 1) = false := beq_eq_false_iff_ne.2 h1
      have h1'' : (ak != 1) = true := by rw [bne, h1']; rfl
      have HE : Hid (Ce.reckon s.toList ⟨ak, an⟩ ⟨ak, bn⟩ = Ce.vbad 5) := Lib.hid (by rw [hs]; unfold Ce.reckon; rw [if_neg (by decide), if_neg (by decide), if_pos (fun h => h1 h.2)])
      go_enter Tryz.func74, Tryz.ntmps74
      go_wp2_with fail
      refine (HBAD.out _ _).mono ?_
      rintro e w1 ⟨rfl, hb1⟩
      have HZ1 := Lib.hid (HZ.out.below hb1)
      have HB1 := Lib.hid (HB.out.trans (hb1.mono HB.out.size))
      have z0 := HZ1.out.cell 0
      have z1 := HZ1.out.cell 1
      have zf0 := HZ1.out.frozen 0
      have zf1 := HZ1.out.frozen 1
      dsimp at z0 z1
      clear hb1
      go_wp2
      refine bodyPost_ret (results_cell_row rfl _ _ (w.heap.size + 1 + 1) 26 #[.int .u8 5, .int .i64 5] (0, 0) _ rfl ((HZ1.out.set_ 0 _).set_ 1 _) Tryz.underlying26 rfl val_size) rfl ?_
      exact ⟨by rw [HE.out]; rfl, (HB1.out.setCell (by simp; omega) _).setCell (by simp; omega) _⟩
  · have HBAD := Lib.hid (fun k W => mkBad_any k W)
    have hk' : (ak == bk) = false := beq_eq_false_iff_ne.2 hk
    have HE : Hid (Ce.reckon s.toList ⟨ak, an⟩ ⟨bk, bn⟩ = Ce.vbad 5) := Lib.hid (by rw [hs]; unfold Ce.reckon; rw [if_neg (by decide), if_neg (by decide), if_pos (fun h => hk h.1)])
    go_enter Tryz.func74, Tryz.ntmps74
    go_wp2_with fail
    refine (HBAD.out _ _).mono ?_
    rintro e w1 ⟨rfl, hb1⟩
    have HZ1 := Lib.hid (HZ.out.below hb1)
    have HB1 := Lib.hid (HB.out.trans (hb1.mono HB.out.size))
    have z0 := HZ1.out.cell 0
    have z1 := HZ1.out.cell 1
    have zf0 := HZ1.out.frozen 0
    have zf1 := HZ1.out.frozen 1
    dsimp at z0 z1
    clear hb1
    go_wp2
    refine bodyPost_ret (results_cell_row rfl _ _ (w.heap.size + 1 + 1) 26 #[.int .u8 5, .int .i64 5] (0, 0) _ rfl ((HZ1.out.set_ 0 _).set_ 1 _) Tryz.underlying26 rfl val_size) rfl ?_
    exact ⟨by rw [HE.out]; rfl, (HB1.out.setCell (by simp; omega) _).setCell (by simp; omega) _⟩

set_option maxRecDepth 100000 in
set_option maxHeartbeats 4000000 in
theorem reckon_lt (s : ByteArray) (a b : Ce.V) (hs : s.toList = [108, 116]) (ha0 : a.k = 1 → -1000000000 ≤ a.n ∧ a.n ≤ 1000000000) (hb0 : b.k = 1 → -1000000000 ≤ b.n ∧ b.n ≤ 1000000000) (w : World) :
    Calls Tryz.prog 74 #[.string s, .agg #[.int .u8 a.k, .int .i64 a.n], .agg #[.int .u8 b.k, .int .i64 b.n]] w fun e w' => e = .returned (.agg #[.int .u8 (Ce.reckon s.toList a b).k, .int .i64 (Ce.reckon s.toList a b).n]) ∧ Below w.heap.size w w' := by
  obtain ⟨ak, an⟩ := a
  obtain ⟨bk, bn⟩ := b
  dsimp only at ha0 hb0
  have HB : Hid (Below w.heap.size w (((w.alloc (.cells #[.int .u8 ak, .int .i64 an] 26)).alloc (.cells #[.int .u8 bk, .int .i64 bn] 26)).alloc (.cells #[.int .u8 0, .int .i64 0] 26))) := Lib.hid ((((Below.refl _ _).alloc (Nat.le_refl _) _).alloc (by simp) _).alloc (by simp; omega) _)
  have HZ := Lib.hid (Blk.new ((w.alloc (.cells #[.int .u8 ak, .int .i64 an] 26)).alloc (.cells #[.int .u8 bk, .int .i64 bn] 26)) 26 #[.int .u8 0, .int .i64 0])
  simp only [World.size_alloc] at HZ
  by_cases hk : ak = bk
  · subst hk
    by_cases h1 : ak = 1
    · subst h1
      have HBOOL := Lib.hid (fun k W => mkBool_any k W)
      have HE : Hid (Ce.reckon s.toList ⟨1, an⟩ ⟨1, bn⟩ = Ce.vbool (decide (an < bn))) := Lib.hid (by rw [hs]; rfl)
      go_enter Tryz.func74, Tryz.ntmps74
      go_wp2_with fail
      refine (HBOOL.out (decide (an < bn)) _).mono ?_
      rintro e w1 ⟨rfl, hb1⟩
      have HZ1 := Lib.hid (HZ.out.below hb1)
      have HB1 := Lib.hid (HB.out.trans (hb1.mono HB.out.size))
      have z0 := HZ1.out.cell 0
      have z1 := HZ1.out.cell 1
      have zf0 := HZ1.out.frozen 0
      have zf1 := HZ1.out.frozen 1
      dsimp at z0 z1
      clear hb1
      go_wp2
      refine bodyPost_ret (results_cell_row rfl _ _ (w.heap.size + 1 + 1) 26 #[.int .u8 2, .int .i64 (Ce.vbool (decide (an < bn))).n] (0, 0) _ rfl ((HZ1.out.set_ 0 _).set_ 1 _) Tryz.underlying26 rfl val_size) rfl ?_
      exact ⟨by rw [HE.out]; rfl, (HB1.out.setCell (by simp; omega) _).setCell (by simp; omega) _⟩
    · have HBAD := Lib.hid (fun k W => mkBad_any k W)
      have h1' : (ak == 1) = false := beq_eq_false_iff_ne.2 h1
      have h1'' : (ak != 1) = true := by rw [bne, h1']; rfl
      have HE : Hid (Ce.reckon s.toList ⟨ak, an⟩ ⟨ak, bn⟩ = Ce.vbad 5) := Lib.hid (by rw [hs]; unfold Ce.reckon; rw [if_neg (by decide), if_neg (by decide), if_pos (fun h => h1 h.2)])
      go_enter Tryz.func74, Tryz.ntmps74
      go_wp2_with fail
      refine (HBAD.out _ _).mono ?_
      rintro e w1 ⟨rfl, hb1⟩
      have HZ1 := Lib.hid (HZ.out.below hb1)
      have HB1 := Lib.hid (HB.out.trans (hb1.mono HB.out.size))
      have z0 := HZ1.out.cell 0
      have z1 := HZ1.out.cell 1
      have zf0 := HZ1.out.frozen 0
      have zf1 := HZ1.out.frozen 1
      dsimp at z0 z1
      clear hb1
      go_wp2
      refine bodyPost_ret (results_cell_row rfl _ _ (w.heap.size + 1 + 1) 26 #[.int .u8 5, .int .i64 5] (0, 0) _ rfl ((HZ1.out.set_ 0 _).set_ 1 _) Tryz.underlying26 rfl val_size) rfl ?_
      exact ⟨by rw [HE.out]; rfl, (HB1.out.setCell (by simp; omega) _).setCell (by simp; omega) _⟩
  · have HBAD := Lib.hid (fun k W => mkBad_any k W)
    have hk' : (ak == bk) = false := beq_eq_false_iff_ne.2 hk
    have HE : Hid (Ce.reckon s.toList ⟨ak, an⟩ ⟨bk, bn⟩ = Ce.vbad 5) := Lib.hid (by rw [hs]; unfold Ce.reckon; rw [if_neg (by decide), if_neg (by decide), if_pos (fun h => hk h.1)])
    go_enter Tryz.func74, Tryz.ntmps74
    go_wp2_with fail
    refine (HBAD.out _ _).mono ?_
    rintro e w1 ⟨rfl, hb1⟩
    have HZ1 := Lib.hid (HZ.out.below hb1)
    have HB1 := Lib.hid (HB.out.trans (hb1.mono HB.out.size))
    have z0 := HZ1.out.cell 0
    have z1 := HZ1.out.cell 1
    have zf0 := HZ1.out.frozen 0
    have zf1 := HZ1.out.frozen 1
    dsimp at z0 z1
    clear hb1
    go_wp2
    refine bodyPost_ret (results_cell_row rfl _ _ (w.heap.size + 1 + 1) 26 #[.int .u8 5, .int .i64 5] (0, 0) _ rfl ((HZ1.out.set_ 0 _).set_ 1 _) Tryz.underlying26 rfl val_size) rfl ?_
    exact ⟨by rw [HE.out]; rfl, (HB1.out.setCell (by simp; omega) _).setCell (by simp; omega) _⟩

set_option maxRecDepth 100000 in
set_option maxHeartbeats 4000000 in
theorem reckon_le (s : ByteArray) (a b : Ce.V) (hs : s.toList = [108, 101]) (ha0 : a.k = 1 → -1000000000 ≤ a.n ∧ a.n ≤ 1000000000) (hb0 : b.k = 1 → -1000000000 ≤ b.n ∧ b.n ≤ 1000000000) (w : World) :
    Calls Tryz.prog 74 #[.string s, .agg #[.int .u8 a.k, .int .i64 a.n], .agg #[.int .u8 b.k, .int .i64 b.n]] w fun e w' => e = .returned (.agg #[.int .u8 (Ce.reckon s.toList a b).k, .int .i64 (Ce.reckon s.toList a b).n]) ∧ Below w.heap.size w w' := by
  obtain ⟨ak, an⟩ := a
  obtain ⟨bk, bn⟩ := b
  dsimp only at ha0 hb0
  have HB : Hid (Below w.heap.size w (((w.alloc (.cells #[.int .u8 ak, .int .i64 an] 26)).alloc (.cells #[.int .u8 bk, .int .i64 bn] 26)).alloc (.cells #[.int .u8 0, .int .i64 0] 26))) := Lib.hid ((((Below.refl _ _).alloc (Nat.le_refl _) _).alloc (by simp) _).alloc (by simp; omega) _)
  have HZ := Lib.hid (Blk.new ((w.alloc (.cells #[.int .u8 ak, .int .i64 an] 26)).alloc (.cells #[.int .u8 bk, .int .i64 bn] 26)) 26 #[.int .u8 0, .int .i64 0])
  simp only [World.size_alloc] at HZ
  by_cases hk : ak = bk
  · subst hk
    by_cases h1 : ak = 1
    · subst h1
      have HBOOL := Lib.hid (fun k W => mkBool_any k W)
      have HE : Hid (Ce.reckon s.toList ⟨1, an⟩ ⟨1, bn⟩ = Ce.vbool (decide (an ≤ bn))) := Lib.hid (by rw [hs]; rfl)
      go_enter Tryz.func74, Tryz.ntmps74
      go_wp2_with fail
      refine (HBOOL.out (decide (an ≤ bn)) _).mono ?_
      rintro e w1 ⟨rfl, hb1⟩
      have HZ1 := Lib.hid (HZ.out.below hb1)
      have HB1 := Lib.hid (HB.out.trans (hb1.mono HB.out.size))
      have z0 := HZ1.out.cell 0
      have z1 := HZ1.out.cell 1
      have zf0 := HZ1.out.frozen 0
      have zf1 := HZ1.out.frozen 1
      dsimp at z0 z1
      clear hb1
      go_wp2
      refine bodyPost_ret (results_cell_row rfl _ _ (w.heap.size + 1 + 1) 26 #[.int .u8 2, .int .i64 (Ce.vbool (decide (an ≤ bn))).n] (0, 0) _ rfl ((HZ1.out.set_ 0 _).set_ 1 _) Tryz.underlying26 rfl val_size) rfl ?_
      exact ⟨by rw [HE.out]; rfl, (HB1.out.setCell (by simp; omega) _).setCell (by simp; omega) _⟩
    · have HBAD := Lib.hid (fun k W => mkBad_any k W)
      have h1' : (ak == 1) = false := beq_eq_false_iff_ne.2 h1
      have h1'' : (ak != 1) = true := by rw [bne, h1']; rfl
      have HE : Hid (Ce.reckon s.toList ⟨ak, an⟩ ⟨ak, bn⟩ = Ce.vbad 5) := Lib.hid (by rw [hs]; unfold Ce.reckon; rw [if_neg (by decide), if_neg (by decide), if_pos (fun h => h1 h.2)])
      go_enter Tryz.func74, Tryz.ntmps74
      go_wp2_with fail
      refine (HBAD.out _ _).mono ?_
      rintro e w1 ⟨rfl, hb1⟩
      have HZ1 := Lib.hid (HZ.out.below hb1)
      have HB1 := Lib.hid (HB.out.trans (hb1.mono HB.out.size))
      have z0 := HZ1.out.cell 0
      have z1 := HZ1.out.cell 1
      have zf0 := HZ1.out.frozen 0
      have zf1 := HZ1.out.frozen 1
      dsimp at z0 z1
      clear hb1
      go_wp2
      refine bodyPost_ret (results_cell_row rfl _ _ (w.heap.size + 1 + 1) 26 #[.int .u8 5, .int .i64 5] (0, 0) _ rfl ((HZ1.out.set_ 0 _).set_ 1 _) Tryz.underlying26 rfl val_size) rfl ?_
      exact ⟨by rw [HE.out]; rfl, (HB1.out.setCell (by simp; omega) _).setCell (by simp; omega) _⟩
  · have HBAD := Lib.hid (fun k W => mkBad_any k W)
    have hk' : (ak == bk) = false := beq_eq_false_iff_ne.2 hk
    have HE : Hid (Ce.reckon s.toList ⟨ak, an⟩ ⟨bk, bn⟩ = Ce.vbad 5) := Lib.hid (by rw [hs]; unfold Ce.reckon; rw [if_neg (by decide), if_neg (by decide), if_pos (fun h => hk h.1)])
    go_enter Tryz.func74, Tryz.ntmps74
    go_wp2_with fail
    refine (HBAD.out _ _).mono ?_
    rintro e w1 ⟨rfl, hb1⟩
    have HZ1 := Lib.hid (HZ.out.below hb1)
    have HB1 := Lib.hid (HB.out.trans (hb1.mono HB.out.size))
    have z0 := HZ1.out.cell 0
    have z1 := HZ1.out.cell 1
    have zf0 := HZ1.out.frozen 0
    have zf1 := HZ1.out.frozen 1
    dsimp at z0 z1
    clear hb1
    go_wp2
    refine bodyPost_ret (results_cell_row rfl _ _ (w.heap.size + 1 + 1) 26 #[.int .u8 5, .int .i64 5] (0, 0) _ rfl ((HZ1.out.set_ 0 _).set_ 1 _) Tryz.underlying26 rfl val_size) rfl ?_
    exact ⟨by rw [HE.out]; rfl, (HB1.out.setCell (by simp; omega) _).setCell (by simp; omega) _⟩

set_option maxRecDepth 100000 in
set_option maxHeartbeats 4000000 in
theorem reckon_eq (s : ByteArray) (a b : Ce.V) (hs : s.toList = [101, 113]) (ha0 : a.k = 1 → -1000000000 ≤ a.n ∧ a.n ≤ 1000000000) (hb0 : b.k = 1 → -1000000000 ≤ b.n ∧ b.n ≤ 1000000000) (w : World) :
    Calls Tryz.prog 74 #[.string s, .agg #[.int .u8 a.k, .int .i64 a.n], .agg #[.int .u8 b.k, .int .i64 b.n]] w fun e w' => e = .returned (.agg #[.int .u8 (Ce.reckon s.toList a b).k, .int .i64 (Ce.reckon s.toList a b).n]) ∧ Below w.heap.size w w' := by
  obtain ⟨ak, an⟩ := a
  obtain ⟨bk, bn⟩ := b
  dsimp only at ha0 hb0
  have HB : Hid (Below w.heap.size w (((w.alloc (.cells #[.int .u8 ak, .int .i64 an] 26)).alloc (.cells #[.int .u8 bk, .int .i64 bn] 26)).alloc (.cells #[.int .u8 0, .int .i64 0] 26))) := Lib.hid ((((Below.refl _ _).alloc (Nat.le_refl _) _).alloc (by simp) _).alloc (by simp; omega) _)
  have HZ := Lib.hid (Blk.new ((w.alloc (.cells #[.int .u8 ak, .int .i64 an] 26)).alloc (.cells #[.int .u8 bk, .int .i64 bn] 26)) 26 #[.int .u8 0, .int .i64 0])
  simp only [World.size_alloc] at HZ
  have HBAD := Lib.hid (fun k W => mkBad_any k W)
  have HBOOL := Lib.hid (fun k W => mkBool_any k W)
  by_cases hk : ak = bk
  · subst hk
    by_cases h1 : ak = 1
    · subst h1
      have HE : Hid (Ce.reckon s.toList ⟨1, an⟩ ⟨1, bn⟩ = Ce.vbool (an == bn)) := Lib.hid (by rw [hs]; rfl)
      go_enter Tryz.func74, Tryz.ntmps74
      go_wp2_with fail
      refine (HBOOL.out (an == bn) _).mono ?_
      rintro e w1 ⟨rfl, hb1⟩
      have HZ1 := Lib.hid (HZ.out.below hb1)
      have HB1 := Lib.hid (HB.out.trans (hb1.mono HB.out.size))
      have z0 := HZ1.out.cell 0
      have z1 := HZ1.out.cell 1
      have zf0 := HZ1.out.frozen 0
      have zf1 := HZ1.out.frozen 1
      dsimp at z0 z1
      clear hb1
      go_wp2
      refine bodyPost_ret (results_cell_row rfl _ _ (w.heap.size + 1 + 1) 26 #[.int .u8 2, .int .i64 (Ce.vbool (an == bn)).n] (0, 0) _ rfl ((HZ1.out.set_ 0 _).set_ 1 _) Tryz.underlying26 rfl val_size) rfl ?_
      exact ⟨by rw [HE.out]; rfl, (HB1.out.setCell (by simp; omega) _).setCell (by simp; omega) _⟩
    · by_cases h2 : ak = 2
      · subst h2
        have HE : Hid (Ce.reckon s.toList ⟨2, an⟩ ⟨2, bn⟩ = Ce.vbool (an == bn)) := Lib.hid (by rw [hs]; rfl)
        go_enter Tryz.func74, Tryz.ntmps74
        go_wp2_with fail
        refine (HBOOL.out (an == bn) _).mono ?_
        rintro e w1 ⟨rfl, hb1⟩
        have HZ1 := Lib.hid (HZ.out.below hb1)
        have HB1 := Lib.hid (HB.out.trans (hb1.mono HB.out.size))
        have z0 := HZ1.out.cell 0
        have z1 := HZ1.out.cell 1
        have zf0 := HZ1.out.frozen 0
        have zf1 := HZ1.out.frozen 1
        dsimp at z0 z1
        clear hb1
        go_wp2
        refine bodyPost_ret (results_cell_row rfl _ _ (w.heap.size + 1 + 1) 26 #[.int .u8 2, .int .i64 (Ce.vbool (an == bn)).n] (0, 0) _ rfl ((HZ1.out.set_ 0 _).set_ 1 _) Tryz.underlying26 rfl val_size) rfl ?_
        exact ⟨by rw [HE.out]; rfl, (HB1.out.setCell (by simp; omega) _).setCell (by simp; omega) _⟩
      · have h1' : (ak == 1) = false := beq_eq_false_iff_ne.2 h1
        have h1'' : (ak != 1) = true := by rw [bne, h1']; rfl
        have h2' : (ak == 2) = false := beq_eq_false_iff_ne.2 h2
        have h2'' : (ak != 2) = true := by rw [bne, h2']; rfl
        have HE : Hid (Ce.reckon s.toList ⟨ak, an⟩ ⟨ak, bn⟩ = Ce.vbad 5) := Lib.hid (by rw [hs]; unfold Ce.reckon; rw [if_neg (by decide), if_pos (by decide), if_neg (by rintro ⟨_, h | h⟩; exact h1 h; exact h2 h)])
        go_enter Tryz.func74, Tryz.ntmps74
        go_wp2_with fail
        refine (HBAD.out _ _).mono ?_
        rintro e w1 ⟨rfl, hb1⟩
        have HZ1 := Lib.hid (HZ.out.below hb1)
        have HB1 := Lib.hid (HB.out.trans (hb1.mono HB.out.size))
        have z0 := HZ1.out.cell 0
        have z1 := HZ1.out.cell 1
        have zf0 := HZ1.out.frozen 0
        have zf1 := HZ1.out.frozen 1
        dsimp at z0 z1
        clear hb1
        go_wp2
        refine bodyPost_ret (results_cell_row rfl _ _ (w.heap.size + 1 + 1) 26 #[.int .u8 5, .int .i64 5] (0, 0) _ rfl ((HZ1.out.set_ 0 _).set_ 1 _) Tryz.underlying26 rfl val_size) rfl ?_
        exact ⟨by rw [HE.out]; rfl, (HB1.out.setCell (by simp; omega) _).setCell (by simp; omega) _⟩
  · have hk' : (ak == bk) = false := beq_eq_false_iff_ne.2 hk
    have HE : Hid (Ce.reckon s.toList ⟨ak, an⟩ ⟨bk, bn⟩ = Ce.vbad 5) := Lib.hid (by rw [hs]; unfold Ce.reckon; rw [if_neg (by decide), if_pos (by decide), if_neg (fun h => hk h.1)])
    go_enter Tryz.func74, Tryz.ntmps74
    go_wp2_with fail
    refine (HBAD.out _ _).mono ?_
    rintro e w1 ⟨rfl, hb1⟩
    have HZ1 := Lib.hid (HZ.out.below hb1)
    have HB1 := Lib.hid (HB.out.trans (hb1.mono HB.out.size))
    have z0 := HZ1.out.cell 0
    have z1 := HZ1.out.cell 1
    have zf0 := HZ1.out.frozen 0
    have zf1 := HZ1.out.frozen 1
    dsimp at z0 z1
    clear hb1
    go_wp2
    refine bodyPost_ret (results_cell_row rfl _ _ (w.heap.size + 1 + 1) 26 #[.int .u8 5, .int .i64 5] (0, 0) _ rfl ((HZ1.out.set_ 0 _).set_ 1 _) Tryz.underlying26 rfl val_size) rfl ?_
    exact ⟨by rw [HE.out]; rfl, (HB1.out.setCell (by simp; omega) _).setCell (by simp; omega) _⟩

set_option maxRecDepth 100000 in
set_option maxHeartbeats 4000000 in
theorem reckon_not (s : ByteArray) (a b : Ce.V) (hs : s.toList = [110, 111, 116]) (ha0 : a.k = 1 → -1000000000 ≤ a.n ∧ a.n ≤ 1000000000) (hb0 : b.k = 1 → -1000000000 ≤ b.n ∧ b.n ≤ 1000000000) (w : World) :
    Calls Tryz.prog 74 #[.string s, .agg #[.int .u8 a.k, .int .i64 a.n], .agg #[.int .u8 b.k, .int .i64 b.n]] w fun e w' => e = .returned (.agg #[.int .u8 (Ce.reckon s.toList a b).k, .int .i64 (Ce.reckon s.toList a b).n]) ∧ Below w.heap.size w w' := by
  obtain ⟨ak, an⟩ := a
  obtain ⟨bk, bn⟩ := b
  dsimp only at ha0 hb0
  have HB : Hid (Below w.heap.size w (((w.alloc (.cells #[.int .u8 ak, .int .i64 an] 26)).alloc (.cells #[.int .u8 bk, .int .i64 bn] 26)).alloc (.cells #[.int .u8 0, .int .i64 0] 26))) := Lib.hid ((((Below.refl _ _).alloc (Nat.le_refl _) _).alloc (by simp) _).alloc (by simp; omega) _)
  have HZ := Lib.hid (Blk.new ((w.alloc (.cells #[.int .u8 ak, .int .i64 an] 26)).alloc (.cells #[.int .u8 bk, .int .i64 bn] 26)) 26 #[.int .u8 0, .int .i64 0])
  simp only [World.size_alloc] at HZ
  have HBAD := Lib.hid (fun k W => mkBad_any k W)
  have HBOOL := Lib.hid (fun k W => mkBool_any k W)
  by_cases h2 : ak = 2
  · subst h2
    have HE : Hid (Ce.reckon s.toList ⟨2, an⟩ ⟨bk, bn⟩ = Ce.vbool (an == 0)) := Lib.hid (by rw [hs]; rfl)
    go_enter Tryz.func74, Tryz.ntmps74
    go_wp2_with fail
    refine (HBOOL.out (an == 0) _).mono ?_
    rintro e w1 ⟨rfl, hb1⟩
    have HZ1 := Lib.hid (HZ.out.below hb1)
    have HB1 := Lib.hid (HB.out.trans (hb1.mono HB.out.size))
    have z0 := HZ1.out.cell 0
    have z1 := HZ1.out.cell 1
    have zf0 := HZ1.out.frozen 0
    have zf1 := HZ1.out.frozen 1
    dsimp at z0 z1
    clear hb1
    go_wp2
    refine bodyPost_ret (results_cell_row rfl _ _ (w.heap.size + 1 + 1) 26 #[.int .u8 2, .int .i64 (Ce.vbool (an == 0)).n] (0, 0) _ rfl ((HZ1.out.set_ 0 _).set_ 1 _) Tryz.underlying26 rfl val_size) rfl ?_
    exact ⟨by rw [HE.out]; rfl, (HB1.out.setCell (by simp; omega) _).setCell (by simp; omega) _⟩
  · have h2' : (ak == 2) = false := beq_eq_false_iff_ne.2 h2
    have h2'' : (ak != 2) = true := by rw [bne, h2']; rfl
    have HE : Hid (Ce.reckon s.toList ⟨ak, an⟩ ⟨bk, bn⟩ = Ce.vbad 5) := Lib.hid (by rw [hs]; unfold Ce.reckon; rw [if_pos (by decide), if_neg h2])
    go_enter Tryz.func74, Tryz.ntmps74
    go_wp2_with fail
    refine (HBAD.out _ _).mono ?_
    rintro e w1 ⟨rfl, hb1⟩
    have HZ1 := Lib.hid (HZ.out.below hb1)
    have HB1 := Lib.hid (HB.out.trans (hb1.mono HB.out.size))
    have z0 := HZ1.out.cell 0
    have z1 := HZ1.out.cell 1
    have zf0 := HZ1.out.frozen 0
    have zf1 := HZ1.out.frozen 1
    dsimp at z0 z1
    clear hb1
    go_wp2
    refine bodyPost_ret (results_cell_row rfl _ _ (w.heap.size + 1 + 1) 26 #[.int .u8 5, .int .i64 5] (0, 0) _ rfl ((HZ1.out.set_ 0 _).set_ 1 _) Tryz.underlying26 rfl val_size) rfl ?_
    exact ⟨by rw [HE.out]; rfl, (HB1.out.setCell (by simp; omega) _).setCell (by simp; omega) _⟩

theorem reckon_any (s : ByteArray) (a b : Ce.V) (hs : s.toList ∈ Ce.names) (ha0 : a.k = 1 → -1000000000 ≤ a.n ∧ a.n ≤ 1000000000) (hb0 : b.k = 1 → -1000000000 ≤ b.n ∧ b.n ≤ 1000000000) (w : World) :
    Calls Tryz.prog 74 #[.string s, .agg #[.int .u8 a.k, .int .i64 a.n], .agg #[.int .u8 b.k, .int .i64 b.n]] w fun e w' => e = .returned (.agg #[.int .u8 (Ce.reckon s.toList a b).k, .int .i64 (Ce.reckon s.toList a b).n]) ∧ Below w.heap.size w w' := by
  simp only [Ce.names, List.mem_cons, List.not_mem_nil, or_false] at hs
  rcases hs with h | h | h | h | h | h | h | h | h | h
  · exact reckon_add s a b h ha0 hb0 w
  · exact reckon_sub s a b h ha0 hb0 w
  · exact reckon_mul s a b h ha0 hb0 w
  · exact reckon_div s a b h ha0 hb0 w
  · exact reckon_mod s a b h ha0 hb0 w
  · exact reckon_neg s a b h ha0 hb0 w
  · exact reckon_lt s a b h ha0 hb0 w
  · exact reckon_le s a b h ha0 hb0 w
  · exact reckon_eq s a b h ha0 hb0 w
  · exact reckon_not s a b h ha0 hb0 w

end Go.Proofs.YtacggbpgillbaaaGreatDoor
