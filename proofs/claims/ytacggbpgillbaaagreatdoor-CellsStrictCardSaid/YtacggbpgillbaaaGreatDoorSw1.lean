/- Layer 6: the walk of the law CellsStrict. Layer 6: the walks of the reference's known, Reads, Size, fits. Layer 6: the walk of the law CellsStrict. -/
import Derived.Test.YtacggbpgillbaaaGreatDoorSo
import Derived.Test.YtacggbpgillbaaaGreatDoorSn
namespace Ce
theorem reckon_kind (s : List UInt8) (a b : V) : (reckon s a b).k = 1 ∨ (reckon s a b).k = 2 ∨ (reckon s a b).k = 5 := by
  unfold reckon
  have hr : ∀ n, (ranged n).k = 1 ∨ (ranged n).k = 2 ∨ (ranged n).k = 5 := fun n => by unfold ranged; split <;> simp [vint, vbad]
  have hb : ∀ q, (vbool q).k = 1 ∨ (vbool q).k = 2 ∨ (vbool q).k = 5 := fun q => by simp [vbool]
  have hd : ∀ n, (vbad n).k = 1 ∨ (vbad n).k = 2 ∨ (vbad n).k = 5 := fun n => by simp [vbad]
  repeat (first | exact hr _ | exact hb _ | exact hd _ | split)
/-- what an operation of two operands gives -/
theorem prim_both {s : List UInt8} {a b : V} (hs : operands s = 2) (ha : isValue a (-1) = true) (hb : isValue b (-1) = true) :
    (prim s [a, b]).2 = 0 ∧ ((a.k = 0 ∧ (prim s [a, b]).1 = hole) ∨ (a.k ≠ 0 ∧ b.k = 0 ∧ (prim s [a, b]).1 = hole) ∨ (a.k = 5 ∧ b.k ≠ 0 ∧ (prim s [a, b]).1 = a) ∨ (a.k ≠ 0 ∧ a.k ≠ 5 ∧ b.k = 5 ∧ (prim s [a, b]).1 = b) ∨ (a.k ≠ 0 ∧ a.k ≠ 5 ∧ b.k ≠ 0 ∧ b.k ≠ 5 ∧ (prim s [a, b]).1 = reckon s a b)) := by
  have hv : areValues [a, b] (-1) = true := by simp [areValues, ha, hb]
  have hop : operands s ≠ 0 := by omega
  have hlen : [a, b].length = operands s := by rw [hs]; rfl
  by_cases a0 : a.k = 0
  · rw [prim_hole hop hlen hv (by simp [a0])]
    exact ⟨rfl, .inl ⟨a0, rfl⟩⟩
  by_cases b0 : b.k = 0
  · rw [prim_hole hop hlen hv (by simp [b0])]
    exact ⟨rfl, .inr (.inl ⟨a0, b0, rfl⟩)⟩
  have hn : ([a, b].any fun v => decide (v.k = 0)) = false := by simp [a0, b0]
  by_cases a5 : a.k = 5
  · rw [prim_bad (v := a) hop hlen hv hn (by simp [a5])]
    exact ⟨rfl, .inr (.inr (.inl ⟨a5, b0, rfl⟩))⟩
  by_cases b5 : b.k = 5
  · rw [prim_bad (v := b) hop hlen hv hn (by simp [a5, b5])]
    exact ⟨rfl, .inr (.inr (.inr (.inl ⟨a0, a5, b5, rfl⟩)))⟩
  · rw [prim_go hop hlen hv hn (by simp [a5, b5]), hs]
    exact ⟨rfl, .inr (.inr (.inr (.inr ⟨a0, a5, b0, b5, rfl⟩)))⟩
/-- whole division and its rest -/
theorem prim_div {a b q r : V} {e f : Nat} (ha : isValue a (-1) = true) (hb : isValue b (-1) = true) (hq : prim nDiv [a, b] = (q, e)) (hr : prim nMod [a, b] = (r, f)) (h1 : q.k = 1) :
    q.n * b.n + r.n = a.n ∧ -1000000000 ≤ q.n * b.n ∧ q.n * b.n ≤ 1000000000 ∧ -1000000000 ≤ r.n ∧ r.n ≤ 1000000000 := by
  have d := (prim_both (s := nDiv) rfl ha hb).2
  have m := (prim_both (s := nMod) rfl ha hb).2
  rw [hq] at d
  rw [hr] at m
  dsimp only at d m
  rcases d with ⟨_, h⟩ | ⟨_, _, h⟩ | ⟨h5, _, h⟩ | ⟨_, _, h5, h⟩ | ⟨a0, a5, b0, b5, h⟩
  · rw [h] at h1; cases h1
  · rw [h] at h1; cases h1
  · rw [h] at h1; omega
  · rw [h] at h1; omega
  · have m' : r = reckon nMod a b := by
      rcases m with ⟨h, _⟩ | ⟨_, h, _⟩ | ⟨h, _⟩ | ⟨_, _, h, _⟩ | ⟨_, _, _, _, h⟩
      · exact absurd h a0
      · exact absurd h b0
      · exact absurd h a5
      · exact absurd h b5
      · exact h
    unfold reckon at h m'
    rw [if_neg (by decide), if_neg (by decide)] at h m'
    by_cases hk : a.k = b.k ∧ a.k = 1
    · have hka : a.k = 1 := hk.2
      have ra := isValue_int ha hka
      rw [if_neg (fun hh => hh hk), if_neg (by decide), if_neg (by decide), if_neg (by decide), if_neg (by decide), if_neg (by decide), if_neg (by decide)] at h m'
      by_cases hz : b.n = 0
      · rw [if_pos hz] at h
        rw [h] at h1
        cases h1
      · rw [if_neg hz, if_neg (by decide)] at h
        rw [if_neg hz, if_pos (by decide)] at m'
        have e1 := Int.mul_tdiv_add_tmod a.n b.n
        have hm1 : (a.n.tmod b.n).natAbs ≤ a.n.natAbs := by rw [Int.natAbs_tmod]; exact Nat.mod_le _ _
        have hd : q.n = a.n.tdiv b.n := by
          rw [h]
          rw [h] at h1
          unfold ranged at h1 ⊢
          split
          · rfl
          · rename_i hh; rw [if_neg hh] at h1; cases h1
        have hmm : r.n = a.n.tmod b.n := by
          rw [m']
          unfold ranged
          rw [if_pos (by simp [inn]; omega)]
          rfl
        rw [hd, hmm, Int.mul_comm]
        have h2 : ((b.n * a.n.tdiv b.n).natAbs : Nat) ≤ a.n.natAbs := by
          rw [Int.natAbs_mul, Int.natAbs_tdiv, Nat.mul_comm]
          exact Nat.div_mul_le_self _ _
        refine ⟨e1, ?_, ?_, ?_, ?_⟩ <;> omega
    · rw [if_pos hk] at h
      rw [h] at h1
      cases h1
end Ce

namespace Go.Proofs.YtacggbpgillbaaaGreatDoor
open Go.RowKit Go.El

/-- a memory and a value, boxed one behind the other -/
def memBox (w : World) (A : Option Addr) (n c : Nat) : World := w.alloc (.cells #[.slice A n c] 35)
theorem bx2 (w : World) (A : Option Addr) (n c : Nat) (v : Ce.V) : Stay (fun V => V.cell? ⟨w.heap.size, 0, none⟩ = some (.slice A n c) ∧ (V.cell? ⟨w.heap.size + 1, 0, none⟩ = some (.int .u8 v.k) ∧ V.cell? ⟨w.heap.size + 1, 1, none⟩ = some (.int .i64 v.n))) ((w.alloc (.cells #[.slice A n c] 35)).alloc (.cells #[.int .u8 v.k, .int .i64 v.n] 26)) := by
  have s := ((box1 (W := w) (v := .slice A n c) (t := 35)).alloc (.cells #[.int .u8 v.k, .int .i64 v.n] 26)).and (box2 (W := w.alloc (.cells #[.slice A n c] 35)) (v := .int .u8 v.k) (u := .int .i64 v.n) (t := 26))
  simpa only [World.size_alloc] using s
theorem bb2 (w : World) (o1 o2 : Obj) : Below w.heap.size w ((w.alloc o1).alloc o2) := ((Below.refl _ _).alloc (Nat.le_refl _) _).alloc (by simp) _

set_option maxRecDepth 100000 in
set_option maxHeartbeats 1000000 in
theorem known6_any (n : Nat) (v : Ce.V) (A : Option Addr) (cap : Nat) (w : World) :
    Calls Tryz.prog 81 #[.agg #[.slice A n cap], .agg #[.int .u8 v.k, .int .i64 v.n]] w fun e w' => e = .returned (.bool (Ce.isValue v n && !decide (v.k = 0))) ∧ Below w.heap.size w w' := by
  have HX := Lib.hid (bx2 w A n cap v)
  have HIV := Lib.hid (fun W => isValue_any v n W)
  have HB := Lib.hid (bb2 w (.cells #[.slice A n cap] 35) (.cells #[.int .u8 v.k, .int .i64 v.n] 26))
  generalize Ce.isValue v n = q at *
  cases q with
  | false =>
    go_enter Tryz.func81, Tryz.ntmps81
    go_wp2_with fail
    refine (HIV.out _).mono ?_
    rintro e w1 ⟨rfl, hb1⟩
    go_wp2
    go_ret
    exact ⟨rfl, HB.out.trans (hb1.mono HB.out.size)⟩
  | true =>
    obtain ⟨vk, vn⟩ := v
    dsimp only at *
    by_cases h0 : vk = 0
    · subst h0
      rw [decide_eq_true rfl]
      go_enter Tryz.func81, Tryz.ntmps81
      go_wp2_with fail
      refine (HIV.out _).mono ?_
      rintro e w1 ⟨rfl, hb1⟩
      obtain ⟨_, x0, x1⟩ := HX.out _ hb1
      go_wp2
      go_ret
      exact ⟨rfl, HB.out.trans (hb1.mono HB.out.size)⟩
    · rw [decide_eq_false h0]
      have h0' : (vk == 0) = false := beq_eq_false_iff_ne.2 h0
      have h0'' : (vk != 0) = true := by rw [bne, h0']; rfl
      clear h0
      go_enter Tryz.func81, Tryz.ntmps81
      go_wp2_with fail
      refine (HIV.out _).mono ?_
      rintro e w1 ⟨rfl, hb1⟩
      obtain ⟨_, x0, x1⟩ := HX.out _ hb1
      go_wp2
      go_ret
      exact ⟨rfl, HB.out.trans (hb1.mono HB.out.size)⟩

set_option maxRecDepth 100000 in
set_option maxHeartbeats 2000000 in
theorem reads6_any (m : Ce.Mem) (hm : Sz m) (A : Option Addr) (cap : Nat) (w : World) (h : MemAt w A m) :
    Calls Tryz.prog 64 #[.agg #[.slice A m.length cap]] w fun e w' => e = .returned (.int .i64 (Ce.reads m)) ∧ Below w.heap.size w w' := by
  have hm0 := hm.many
  have hml : (m.length : Int) ≤ 9223372036854775807 := by omega
  have HSZ := Lib.hid hm.each
  have HRD : Hid (Ce.reads m ≤ 100000000) := Lib.hid (by
    have := Ce.reads_le m 10000 fun s hs => by obtain ⟨i, hi⟩ := List.getElem?_of_mem hs; exact (hm.each i s hi).2
    have := Nat.mul_le_mul_right 10000 hm0
    omega)
  have hb1 : Below w.heap.size w (w.alloc (Obj.cells #[.slice A m.length cap] 35)) := (Below.refl _ _).alloc (Nat.le_refl _) _
  have HS0 := Lib.hid ((h.stay.step hb1).and (box1 (W := w) (v := .slice A m.length cap) (t := 35)))
  have HB0 := Lib.hid hb1
  generalize hn : m.length = n at *
  have HN := Lib.hid hn
  generalize hR : Ce.reads m = R
  have HR := Lib.hid hR
  clear hm h hb1 hn hR
  go_enter Tryz.func64, Tryz.ntmps64
  go_wp2_with fail
  go_loopw [3, 4] (fun r i wr => ∃ (k q : Nat), k ≤ n ∧ i = .int .i64 k ∧ r = .int .i64 q ∧ Hid (q = Ce.reads (m.take k)) ∧ Hid (Stay (fun V => MemAt V A m ∧ V.cell? ⟨w.heap.size, 0, none⟩ = some (.slice A n cap)) wr) ∧ Hid (Below w.heap.size w wr)) (fun _ i _ => n - (intOf i).toNat)
  case atStart => exact ⟨0, 0, Nat.zero_le _, rfl, rfl, Lib.hid rfl, HS0, HB0⟩
  case round =>
    clear HS0 HB0
    obtain ⟨k, q, hk, rfl, rfl, HQ, HS, HB⟩ := hrel
    obtain ⟨mA, x0⟩ := HS.out.at_
    by_cases hlt : k < n
    · have hlt' : (k : Int) < n := by omega
      obtain ⟨s, hs⟩ : ∃ x, m[k]? = some x := ⟨_, List.getElem?_eq_getElem (by rw [HN.out]; exact hlt)⟩
      have HQ1 : Hid (q + s.wait.length = Ce.reads (m.take (k + 1))) := Lib.hid (by rw [Ce.reads_step m k s hs, HQ.out])
      have hqb : q + s.wait.length ≤ 100000000 := by rw [HQ1.out]; exact Nat.le_trans (Ce.reads_take_le m _) HRD.out
      obtain ⟨b1, o1, A1, c1, A2, c2, rfl, hz1, x1, x2, P1, P2⟩ := mA.at' hs
      clear mA hs P1 P2
      go_wp2
      go_roundw
      case rel => exact ⟨k + 1, q + s.wait.length, by omega, by go_num, by first | go_num | rfl, HQ1, HS, HB⟩
      case measure => simp [intOf]; omega
    · have hlt' : ¬ (k : Int) < n := by omega
      have HQ2 : Hid (q = R) := Lib.hid (by have := HQ.out; rwa [List.take_of_length_le (by rw [HN.out]; omega), HR.out] at this)
      clear mA
      go_wp2
      go_ret
      exact ⟨by rw [← HQ2.out]; rfl, HB.out⟩
end Go.Proofs.YtacggbpgillbaaaGreatDoor

namespace Go.Proofs.YtacggbpgillbaaaGreatDoor
open Go.RowKit Go.El

theorem stay_blk2 {W : World} {g : Nat} {t : TypeId} {u v : Value} (h : Blk W g t #[u, v]) : Stay (fun V => V.cell? ⟨g, 0, none⟩ = some u ∧ V.cell? ⟨g, 1, none⟩ = some v) W := h.stay.mono fun _ q => ⟨q.cell 0, q.cell 1⟩
/-- the names of two operands -/
def nms2 : List ByteArray := [⟨#[97, 100, 100]⟩, ⟨#[115, 117, 98]⟩, ⟨#[109, 117, 108]⟩, ⟨#[100, 105, 118]⟩, ⟨#[109, 111, 100]⟩, ⟨#[108, 116]⟩, ⟨#[108, 101]⟩, ⟨#[101, 113]⟩]
theorem nms2_ops : ∀ x ∈ nms2, Ce.operands x.data.toList = 2 ∧ x.size ≤ 100 := by decide +kernel

set_option maxRecDepth 100000 in
set_option maxHeartbeats 4000000 in
theorem strict_in (h : Prg) (a b : Ce.V) (hva : Ce.isValue a (-1) = true) (hvb : Ce.isValue b (-1) = true) (w : World) :
    Calls Tryz.prog 12 #[.agg #[.int .u8 a.k, .int .i64 a.n], .agg #[.int .u8 b.k, .int .i64 b.n]] w fun e w' => e = .returned (.bool true) ∧ Below w.heap.size w w' := by
  have HAW := Lib.hid (fun W => awake_any h W)
  have HVA := Lib.hid (fun W => hva ▸ isValue_any a (-1) W)
  have HVB := Lib.hid (fun W => hvb ▸ isValue_any b (-1) W)
  have HPR := Lib.hid h.prim
  have HTWO := Lib.hid (fun x (hx : x ∈ nms2) => Ce.prim_both (nms2_ops x hx).1 hva hvb)
  have HSZN := Lib.hid (fun x (hx : x ∈ nms2) => (nms2_ops x hx).2)
  have HDIV := Lib.hid (fun q r e f => Ce.prim_div (a := a) (b := b) (q := q) (r := r) (e := e) (f := f) hva hvb)
  obtain ⟨ak, an⟩ := a
  obtain ⟨bk, bn⟩ := b
  have HX := Lib.hid (twoboxes0 (W := w) (a := .int .u8 ak) (b := .int .i64 an) (c := .int .u8 bk) (d := .int .i64 bn) (t := 26))
  have HB := Lib.hid (bb2 w (.cells #[.int .u8 ak, .int .i64 an] 26) (.cells #[.int .u8 bk, .int .i64 bn] 26))
  have hlen : nms2.length = 8 := rfl
  have HLEN := Lib.hid hlen
  have HROW : Hid ((#[.string ⟨#[97, 100, 100]⟩, .string ⟨#[115, 117, 98]⟩, .string ⟨#[109, 117, 108]⟩, .string ⟨#[100, 105, 118]⟩, .string ⟨#[109, 111, 100]⟩, .string ⟨#[108, 116]⟩, .string ⟨#[108, 101]⟩, .string ⟨#[101, 113]⟩] : Array Value).toList = StrE.row nms2) := Lib.hid rfl
  have HD1 : Hid (⟨#[100, 105, 118]⟩ ∈ nms2) := Lib.hid (by simp [nms2])
  have HD2 : Hid (⟨#[109, 111, 100]⟩ ∈ nms2) := Lib.hid (by simp [nms2])
  generalize nms2 = N at *
  clear hlen h hva hvb
  dsimp only at *
  go_enter Tryz.func12, Tryz.ntmps12
  go_wp2_with fail
  refine (HVA.out _).mono ?_
  rintro e w1 ⟨rfl, hb1⟩
  have HX1 := Lib.hid (HX.out.step hb1)
  have HB1 := Lib.hid (HB.out.trans (hb1.mono HB.out.size))
  clear hb1 HX HB HVA
  obtain ⟨⟨a0, a1⟩, b0, b1⟩ := HX1.out.at_
  go_wp2_with fail
  refine (HVB.out _).mono ?_
  rintro e w2 ⟨rfl, hb2⟩
  have HX2 := Lib.hid ((HX1.out.step hb2).alloc (.cells #[.string ⟨#[97, 100, 100]⟩, .string ⟨#[115, 117, 98]⟩, .string ⟨#[109, 117, 108]⟩, .string ⟨#[100, 105, 118]⟩, .string ⟨#[109, 111, 100]⟩, .string ⟨#[108, 116]⟩, .string ⟨#[108, 101]⟩, .string ⟨#[101, 113]⟩] 9))
  have HB2 := Lib.hid ((HB1.out.trans (hb2.mono HB1.out.size)).alloc (HB1.out.trans (hb2.mono HB1.out.size)).size (.cells #[.string ⟨#[97, 100, 100]⟩, .string ⟨#[115, 117, 98]⟩, .string ⟨#[109, 117, 108]⟩, .string ⟨#[100, 105, 118]⟩, .string ⟨#[109, 111, 100]⟩, .string ⟨#[108, 116]⟩, .string ⟨#[108, 101]⟩, .string ⟨#[101, 113]⟩] 9))
  have HN2 : Hid (Stay (fun V => StrE.Arg V (some ⟨w2.heap.size, 0, none⟩) N) (w2.alloc (.cells #[.string ⟨#[97, 100, 100]⟩, .string ⟨#[115, 117, 98]⟩, .string ⟨#[109, 117, 108]⟩, .string ⟨#[100, 105, 118]⟩, .string ⟨#[109, 111, 100]⟩, .string ⟨#[108, 116]⟩, .string ⟨#[108, 101]⟩, .string ⟨#[101, 113]⟩] 9))) := Lib.hid (Arg.stay (row_arg rfl HROW.out))
  clear hb2 HX1 HB1 HVB a0 a1 b0 b1 HROW
  generalize hgs : w2.heap.size = gN at *
  go_wp2_with fail
  go_loopw [6] (fun i wr => ∃ k : Nat, k ≤ 8 ∧ i = .int .i64 k ∧ Hid (Stay (fun V => (V.cell? ⟨w.heap.size, 0, none⟩ = some (.int .u8 ak) ∧ V.cell? ⟨w.heap.size, 1, none⟩ = some (.int .i64 an)) ∧ (V.cell? ⟨w.heap.size + 1, 0, none⟩ = some (.int .u8 bk) ∧ V.cell? ⟨w.heap.size + 1, 1, none⟩ = some (.int .i64 bn))) wr) ∧ Hid (Stay (fun V => StrE.Arg V (some ⟨gN, 0, none⟩) N) wr) ∧ Hid (Below w.heap.size w wr)) (fun i _ => 8 - (intOf i).toNat)
  case atStart => exact ⟨0, Nat.zero_le _, rfl, HX2, HN2, HB2⟩
  case round =>
    clear HX2 HN2 HB2
    obtain ⟨k, hk, rfl, HX, HN, HB⟩ := hrel
    obtain ⟨⟨a0, a1⟩, b0, b1⟩ := HX.out.at_
    by_cases hlt : k < 8
    · have hlt' : (k : Int) < 8 := by omega
      obtain ⟨bN, oN, hAN, hin, hz⟩ := HN.out.at_.at_lt (by rw [HLEN.out]; exact hlt)
      injection hAN with hAN
      injection hAN with e1 e2
      subst e1 e2
      obtain ⟨x, hx⟩ : ∃ x, N[k]? = some x := ⟨_, List.getElem?_eq_getElem (by rw [HLEN.out]; exact hlt)⟩
      have x0 := StrE.at1 hin hx
      simp only [Nat.zero_add, Nat.mul_one] at x0
      have HT := Lib.hid (HTWO.out x (List.mem_of_getElem? hx))
      have HPX := Lib.hid (fun A c W hh => HPR.out x [⟨ak, an⟩, ⟨bk, bn⟩] A c W (HSZN.out x (List.mem_of_getElem? hx)) (by simp) hh)
      generalize Ce.prim x.data.toList [⟨ak, an⟩, ⟨bk, bn⟩] = R at HT HPX
      obtain ⟨⟨vk, vn⟩, ve⟩ := R
      dsimp only at HT HPX
      obtain rfl : ve = 0 := HT.out.1
      have HT2 := Lib.hid HT.out.2
      clear hx hin
      have hq0 : w.heap.size < wr.heap.size := lt_of_cell a0
      have hq1 : w.heap.size + 1 < wr.heap.size := lt_of_cell b0
      have HAL : Hid (∀ W, Below wr.heap.size wr W → (W.cell? ⟨w.heap.size, 0, none⟩ = some (.int .u8 ak) ∧ W.cell? ⟨w.heap.size, 1, none⟩ = some (.int .i64 an) ∧ W.cell? ⟨w.heap.size + 1, 0, none⟩ = some (.int .u8 bk) ∧ W.cell? ⟨w.heap.size + 1, 1, none⟩ = some (.int .i64 bn)) ∧ W.cell? ⟨gN, k, none⟩ = some (.string x) ∧ w.heap.size < W.heap.size ∧ w.heap.size + 1 < W.heap.size ∧ gN < W.heap.size) :=
        Lib.hid fun W hb => ⟨⟨(HX.out W hb).1.1, (HX.out W hb).1.2, (HX.out W hb).2.1, (HX.out W hb).2.2⟩, ((bcell hb).1 _ _ hz).trans x0, by have := hb.size; omega, by have := hb.size; omega, by have := hb.size; omega⟩
      have HRW0 : Hid (SlAt ValE (wr.alloc (.cells #[.int .u8 ak, .int .i64 an, .int .u8 bk, .int .i64 bn] 26)) ⟨some ⟨wr.heap.size, 0, none⟩, 2, 2⟩ [⟨ak, an⟩, ⟨bk, bn⟩]) := Lib.hid (slat_row rfl rfl rfl)
      have HRW : Hid (SlAt ValE (wr.alloc (.cells #[.int .u8 ak, .int .i64 an, .int .u8 bk, .int .i64 bn] 26)).drew ⟨some ⟨wr.heap.size, 0, none⟩, 2, 2⟩ [⟨ak, an⟩, ⟨bk, bn⟩]) := Lib.hid (HRW0.out.below (Below.refl _ _).drew)
      have HRB : Hid (SlAt ValE ((wr.alloc (.cells #[.int .u8 ak, .int .i64 an, .int .u8 bk, .int .i64 bn] 26)).alloc (.cells #[.int .u8 0, .int .i64 0] 26)).drew ⟨some ⟨wr.heap.size, 0, none⟩, 2, 2⟩ [⟨ak, an⟩, ⟨bk, bn⟩]) := Lib.hid ((HRW0.out.below ((Below.refl _ _).alloc (Nat.le_refl _) _)).below (Below.refl _ _).drew)
      have HRC0 : Hid (SlAt ValE ((wr.alloc (.cells #[.int .u8 0, .int .i64 0] 26)).alloc (.cells #[.int .u8 ak, .int .i64 an, .int .u8 bk, .int .i64 bn] 26)) ⟨some ⟨wr.heap.size + 1, 0, none⟩, 2, 2⟩ [⟨ak, an⟩, ⟨bk, bn⟩]) := Lib.hid (slat_row (by simp) rfl rfl)
      have HRC : Hid (SlAt ValE ((wr.alloc (.cells #[.int .u8 0, .int .i64 0] 26)).alloc (.cells #[.int .u8 ak, .int .i64 an, .int .u8 bk, .int .i64 bn] 26)).drew ⟨some ⟨wr.heap.size + 1, 0, none⟩, 2, 2⟩ [⟨ak, an⟩, ⟨bk, bn⟩]) := Lib.hid (HRC0.out.below (Below.refl _ _).drew)
      have HZB : Hid (Blk ((wr.alloc (.cells #[.int .u8 ak, .int .i64 an, .int .u8 bk, .int .i64 bn] 26)).alloc (.cells #[.int .u8 0, .int .i64 0] 26)).drew (wr.heap.size + 1) 26 #[.int .u8 0, .int .i64 0]) := Lib.hid (by have q := (Blk.new (wr.alloc (.cells #[.int .u8 ak, .int .i64 an, .int .u8 bk, .int .i64 bn] 26)) 26 #[.int .u8 0, .int .i64 0]).drew; simpa only [World.size_alloc] using q)
      have HZC : Hid (Blk ((wr.alloc (.cells #[.int .u8 0, .int .i64 0] 26)).alloc (.cells #[.int .u8 ak, .int .i64 an, .int .u8 bk, .int .i64 bn] 26)).drew wr.heap.size 26 #[.int .u8 0, .int .i64 0]) := Lib.hid ((Blk.new wr 26 #[.int .u8 0, .int .i64 0]).alloc _).drew
      have m0 : w.heap.size ≠ wr.heap.size := by omega
      have m1 : w.heap.size ≠ wr.heap.size + 1 := by omega
      have m2 : w.heap.size + 1 ≠ wr.heap.size := by omega
      have m3 : w.heap.size + 1 ≠ wr.heap.size + 1 := by omega
      have m4 : gN ≠ wr.heap.size := by omega
      have m5 : gN ≠ wr.heap.size + 1 := by omega
      have r0 : wr.heap.size ≠ w.heap.size := by omega
      have r1 : wr.heap.size + 1 ≠ w.heap.size := by omega
      have r2 : wr.heap.size ≠ w.heap.size + 1 := by omega
      have r4 : wr.heap.size ≠ gN := by omega
      have r5 : wr.heap.size + 1 ≠ gN := by omega
      have HPX2 : Hid (∀ c W, SlAt ValE W ⟨c, 2, 2⟩ [⟨ak, an⟩, ⟨bk, bn⟩] → Calls Tryz.prog 20 #[.string x, .slice c 2 2] W fun e w' => e = .returned (.tuple #[.agg #[.int .u8 vk, .int .i64 vn], .int .i64 0]) ∧ Below W.heap.size W w') := Lib.hid fun c W hh => HPX.out c 2 W hh
      go_wp2_with fail
      go_cut [7, 8] (fun va vb wx => ∃ g : Nat, va = .pointer (some ⟨g, 0, none⟩) ∧ vb = .int .i64 0 ∧ Hid (Stay (fun V => V.cell? ⟨g, 0, none⟩ = some (.int .u8 vk) ∧ V.cell? ⟨g, 1, none⟩ = some (.int .i64 vn)) wx) ∧ Hid (Below wr.heap.size wr wx))
      case first =>
        clear HT HT2 HN HB HX
        go_region_held3 (fun W => W.cell? ⟨w.heap.size, 0, none⟩ = some (.int .u8 ak) ∧ W.cell? ⟨w.heap.size, 1, none⟩ = some (.int .i64 an) ∧ W.cell? ⟨w.heap.size + 1, 0, none⟩ = some (.int .u8 bk) ∧ W.cell? ⟨w.heap.size + 1, 1, none⟩ = some (.int .i64 bn) ∧ W.cell? ⟨gN, k, none⟩ = some (.string x))
          (go_keep)
          (first
            | (go_at_call 20; refine (HPX2.out _ _ ?hh).mono ?_; (case hh => with_reducible exact HRB.out); rintro e w4 ⟨rfl, hb4⟩
               have hb5 : Below wr.heap.size wr w4 := (((Below.refl wr.heap.size wr).alloc (Nat.le_refl _) _).alloc (by simp) _).drew.trans (hb4.mono (by simp; omega))
               have HZ4 := Lib.hid (HZB.out.below hb4)
               have z0 := HZ4.out.cell 0
               have z1 := HZ4.out.cell 1
               have zf0 := HZ4.out.frozen 0
               have zf1 := HZ4.out.frozen 1
               dsimp at z0 z1
               obtain ⟨⟨a0, a1, b0, b1⟩, x0, l0, l1, l2⟩ := HAL.out _ hb5)
            | (go_at_call 20; refine (HPX2.out _ _ ?hh).mono ?_; (case hh => with_reducible exact HRC.out); rintro e w4 ⟨rfl, hb4⟩
               have hb5 : Below wr.heap.size wr w4 := (((Below.refl wr.heap.size wr).alloc (Nat.le_refl _) _).alloc (by simp) _).drew.trans (hb4.mono (by simp; omega))
               have HZ4 := Lib.hid (HZC.out.below hb4)
               have z0 := HZ4.out.cell 0
               have z1 := HZ4.out.cell 1
               have zf0 := HZ4.out.frozen 0
               have zf1 := HZ4.out.frozen 1
               dsimp at z0 z1
               obtain ⟨⟨a0, a1, b0, b1⟩, x0, l0, l1, l2⟩ := HAL.out _ hb5)
            | (go_at_call 20; refine (HPX2.out _ _ ?hh).mono ?_; (case hh => with_reducible exact HRW.out); rintro e w4 ⟨rfl, hb4⟩
               have hb5 : Below wr.heap.size wr w4 := (((Below.refl wr.heap.size wr).alloc (Nat.le_refl _) _).drew).trans (hb4.mono (by simp))
               obtain ⟨⟨a0, a1, b0, b1⟩, x0, l0, l1, l2⟩ := HAL.out _ hb5))
        all_goals go_wp2_with fail
        all_goals go_meet
        · exact ⟨_, rfl, rfl, Lib.hid box2, Lib.hid (hb5.alloc hb5.size _)⟩
        · exact ⟨_, rfl, rfl, Lib.hid (stay_blk2 ((HZ4.out.set_ 0 _).set_ 1 _)), Lib.hid ((hb5.setCell (by simp) _).setCell (by simp) _)⟩
        · exact ⟨_, rfl, rfl, Lib.hid (stay_blk2 ((HZ4.out.set_ 0 _).set_ 1 _)), Lib.hid ((hb5.setCell (by simp) _).setCell (by simp) _)⟩
      case rest =>
        obtain ⟨g7, rfl, rfl, HG7, HB7⟩ := hcut
        have HX := Lib.hid (HX.out.step HB7.out)
        have HN := Lib.hid (HN.out.step HB7.out)
        have HB := Lib.hid (HB.out.trans (HB7.out.mono HB.out.size))
        have x0 := ((bcell HB7.out).1 _ _ hz).trans x0
        have hz : gN < wc.heap.size := by have := HB7.out.size; omega
        clear a0 a1 b0 b1 hq0 hq1 HAL HRW0 HRW HRB HRC0 HRC HZB HZC m0 m1 m2 m3 m4 m5 r0 r1 r2 r4 r5 HPX2 HB7
        obtain ⟨⟨a0, a1⟩, b0, b1⟩ := HX.out.at_
        have hq0 : w.heap.size < wc.heap.size := lt_of_cell a0
        have hq1 : w.heap.size + 1 < wc.heap.size := lt_of_cell b0
        have HAL : Hid (∀ W, Below wc.heap.size wc W → (W.cell? ⟨w.heap.size, 0, none⟩ = some (.int .u8 ak) ∧ W.cell? ⟨w.heap.size, 1, none⟩ = some (.int .i64 an) ∧ W.cell? ⟨w.heap.size + 1, 0, none⟩ = some (.int .u8 bk) ∧ W.cell? ⟨w.heap.size + 1, 1, none⟩ = some (.int .i64 bn)) ∧ W.cell? ⟨gN, k, none⟩ = some (.string x) ∧ w.heap.size < W.heap.size ∧ w.heap.size + 1 < W.heap.size ∧ gN < W.heap.size) :=
          Lib.hid fun W hb => ⟨⟨(HX.out W hb).1.1, (HX.out W hb).1.2, (HX.out W hb).2.1, (HX.out W hb).2.2⟩, ((bcell hb).1 _ _ hz).trans x0, by have := hb.size; omega, by have := hb.size; omega, by have := hb.size; omega⟩
        have HRW0 : Hid (SlAt ValE (wc.alloc (.cells #[.int .u8 ak, .int .i64 an, .int .u8 bk, .int .i64 bn] 26)) ⟨some ⟨wc.heap.size, 0, none⟩, 2, 2⟩ [⟨ak, an⟩, ⟨bk, bn⟩]) := Lib.hid (slat_row rfl rfl rfl)
        have HRW : Hid (SlAt ValE (wc.alloc (.cells #[.int .u8 ak, .int .i64 an, .int .u8 bk, .int .i64 bn] 26)).drew ⟨some ⟨wc.heap.size, 0, none⟩, 2, 2⟩ [⟨ak, an⟩, ⟨bk, bn⟩]) := Lib.hid (HRW0.out.below (Below.refl _ _).drew)
        have HRB : Hid (SlAt ValE ((wc.alloc (.cells #[.int .u8 ak, .int .i64 an, .int .u8 bk, .int .i64 bn] 26)).alloc (.cells #[.int .u8 0, .int .i64 0] 26)).drew ⟨some ⟨wc.heap.size, 0, none⟩, 2, 2⟩ [⟨ak, an⟩, ⟨bk, bn⟩]) := Lib.hid ((HRW0.out.below ((Below.refl _ _).alloc (Nat.le_refl _) _)).below (Below.refl _ _).drew)
        have HRC0 : Hid (SlAt ValE ((wc.alloc (.cells #[.int .u8 0, .int .i64 0] 26)).alloc (.cells #[.int .u8 ak, .int .i64 an, .int .u8 bk, .int .i64 bn] 26)) ⟨some ⟨wc.heap.size + 1, 0, none⟩, 2, 2⟩ [⟨ak, an⟩, ⟨bk, bn⟩]) := Lib.hid (slat_row (by simp) rfl rfl)
        have HRC : Hid (SlAt ValE ((wc.alloc (.cells #[.int .u8 0, .int .i64 0] 26)).alloc (.cells #[.int .u8 ak, .int .i64 an, .int .u8 bk, .int .i64 bn] 26)).drew ⟨some ⟨wc.heap.size + 1, 0, none⟩, 2, 2⟩ [⟨ak, an⟩, ⟨bk, bn⟩]) := Lib.hid (HRC0.out.below (Below.refl _ _).drew)
        have HZB : Hid (Blk ((wc.alloc (.cells #[.int .u8 ak, .int .i64 an, .int .u8 bk, .int .i64 bn] 26)).alloc (.cells #[.int .u8 0, .int .i64 0] 26)).drew (wc.heap.size + 1) 26 #[.int .u8 0, .int .i64 0]) := Lib.hid (by have q := (Blk.new (wc.alloc (.cells #[.int .u8 ak, .int .i64 an, .int .u8 bk, .int .i64 bn] 26)) 26 #[.int .u8 0, .int .i64 0]).drew; simpa only [World.size_alloc] using q)
        have HZC : Hid (Blk ((wc.alloc (.cells #[.int .u8 0, .int .i64 0] 26)).alloc (.cells #[.int .u8 ak, .int .i64 an, .int .u8 bk, .int .i64 bn] 26)).drew wc.heap.size 26 #[.int .u8 0, .int .i64 0]) := Lib.hid ((Blk.new wc 26 #[.int .u8 0, .int .i64 0]).alloc _).drew
        have m0 : w.heap.size ≠ wc.heap.size := by omega
        have m1 : w.heap.size ≠ wc.heap.size + 1 := by omega
        have m2 : w.heap.size + 1 ≠ wc.heap.size := by omega
        have m3 : w.heap.size + 1 ≠ wc.heap.size + 1 := by omega
        have m4 : gN ≠ wc.heap.size := by omega
        have m5 : gN ≠ wc.heap.size + 1 := by omega
        have r0 : wc.heap.size ≠ w.heap.size := by omega
        have r1 : wc.heap.size + 1 ≠ w.heap.size := by omega
        have r2 : wc.heap.size ≠ w.heap.size + 1 := by omega
        have r4 : wc.heap.size ≠ gN := by omega
        have r5 : wc.heap.size + 1 ≠ gN := by omega
        have HPX2 : Hid (∀ c W, SlAt ValE W ⟨c, 2, 2⟩ [⟨ak, an⟩, ⟨bk, bn⟩] → Calls Tryz.prog 20 #[.string x, .slice c 2 2] W fun e w' => e = .returned (.tuple #[.agg #[.int .u8 vk, .int .i64 vn], .int .i64 0]) ∧ Below W.heap.size W w') := Lib.hid fun c W hh => HPX.out c 2 W hh
        go_wp2_with fail
        go_cut [9, 10] (fun va vb wx => ∃ g : Nat, va = .pointer (some ⟨g, 0, none⟩) ∧ vb = .int .i64 0 ∧ Hid (Stay (fun V => V.cell? ⟨g, 0, none⟩ = some (.int .u8 vk) ∧ V.cell? ⟨g, 1, none⟩ = some (.int .i64 vn)) wx) ∧ Hid (Below wc.heap.size wc wx))
        case first =>
          clear HT HT2 HN HB HX
          go_region_held3 (fun W => W.cell? ⟨w.heap.size, 0, none⟩ = some (.int .u8 ak) ∧ W.cell? ⟨w.heap.size, 1, none⟩ = some (.int .i64 an) ∧ W.cell? ⟨w.heap.size + 1, 0, none⟩ = some (.int .u8 bk) ∧ W.cell? ⟨w.heap.size + 1, 1, none⟩ = some (.int .i64 bn) ∧ W.cell? ⟨gN, k, none⟩ = some (.string x))
            (go_keep)
            (first
              | (go_at_call 20; refine (HPX2.out _ _ ?hh).mono ?_; (case hh => with_reducible exact HRB.out); rintro e w4 ⟨rfl, hb4⟩
                 have hb5 : Below wc.heap.size wc w4 := (((Below.refl wc.heap.size wc).alloc (Nat.le_refl _) _).alloc (by simp) _).drew.trans (hb4.mono (by simp; omega))
                 have HZ4 := Lib.hid (HZB.out.below hb4)
                 have z0 := HZ4.out.cell 0
                 have z1 := HZ4.out.cell 1
                 have zf0 := HZ4.out.frozen 0
                 have zf1 := HZ4.out.frozen 1
                 dsimp at z0 z1
                 obtain ⟨⟨a0, a1, b0, b1⟩, x0, l0, l1, l2⟩ := HAL.out _ hb5)
              | (go_at_call 20; refine (HPX2.out _ _ ?hh).mono ?_; (case hh => with_reducible exact HRC.out); rintro e w4 ⟨rfl, hb4⟩
                 have hb5 : Below wc.heap.size wc w4 := (((Below.refl wc.heap.size wc).alloc (Nat.le_refl _) _).alloc (by simp) _).drew.trans (hb4.mono (by simp; omega))
                 have HZ4 := Lib.hid (HZC.out.below hb4)
                 have z0 := HZ4.out.cell 0
                 have z1 := HZ4.out.cell 1
                 have zf0 := HZ4.out.frozen 0
                 have zf1 := HZ4.out.frozen 1
                 dsimp at z0 z1
                 obtain ⟨⟨a0, a1, b0, b1⟩, x0, l0, l1, l2⟩ := HAL.out _ hb5)
              | (go_at_call 20; refine (HPX2.out _ _ ?hh).mono ?_; (case hh => with_reducible exact HRW.out); rintro e w4 ⟨rfl, hb4⟩
                 have hb5 : Below wc.heap.size wc w4 := (((Below.refl wc.heap.size wc).alloc (Nat.le_refl _) _).drew).trans (hb4.mono (by simp))
                 obtain ⟨⟨a0, a1, b0, b1⟩, x0, l0, l1, l2⟩ := HAL.out _ hb5))
          all_goals go_wp2_with fail
          all_goals go_meet
          · exact ⟨_, rfl, rfl, Lib.hid box2, Lib.hid (hb5.alloc hb5.size _)⟩
          · exact ⟨_, rfl, rfl, Lib.hid (stay_blk2 ((HZ4.out.set_ 0 _).set_ 1 _)), Lib.hid ((hb5.setCell (by simp) _).setCell (by simp) _)⟩
          · exact ⟨_, rfl, rfl, Lib.hid (stay_blk2 ((HZ4.out.set_ 0 _).set_ 1 _)), Lib.hid ((hb5.setCell (by simp) _).setCell (by simp) _)⟩
        case rest =>
          obtain ⟨g9, rfl, rfl, HG9, HB9⟩ := hcut
          have HX := Lib.hid (HX.out.step HB9.out)
          have HN := Lib.hid (HN.out.step HB9.out)
          have HB := Lib.hid (HB.out.trans (HB9.out.mono HB.out.size))
          have HG7 := Lib.hid (HG7.out.step HB9.out)
          clear a0 a1 b0 b1 hq0 hq1 HAL HRW0 HRW HRB HRC0 HRC HZB HZC m0 m1 m2 m3 m4 m5 r0 r1 r2 r4 r5 HPX2 HB9 x0 hz
          rcases HT2.out with ⟨e0, hv⟩ | ⟨e00, e1, hv⟩ | ⟨e0, e10, hv⟩ | ⟨e00, e50, e1, hv⟩ | ⟨e00, e50, e10, e60, hv⟩
          · subst e0
            obtain ⟨rfl, rfl⟩ : vk = 0 ∧ vn = 0 := by simpa [Ce.hole] using hv
            clear hv
            have s7 := lt_of_cell HG7.out.at_.1
            have s9 := lt_of_cell HG9.out.at_.1
            obtain ⟨p0, p1⟩ := HG7.out.at_
            obtain ⟨t0, t1⟩ := HG9.out.at_
            obtain ⟨⟨a0, a1⟩, b0, b1⟩ := HX.out.at_
            have l0 := lt_of_cell a0
            have l1 := lt_of_cell b0
            go_wp2
            go_roundw
            case rel => exact ⟨k + 1, by omega, by go_num, Lib.hid (HX.out.alloc _), Lib.hid (HN.out.alloc _), Lib.hid (HB.out.alloc HB.out.size _)⟩
            case measure => simp [intOf]; omega
          · subst e1
            obtain ⟨rfl, rfl⟩ : vk = 0 ∧ vn = 0 := by simpa [Ce.hole] using hv
            have e0 : (ak == 0) = false := beq_eq_false_iff_ne.2 e00
            clear hv e00
            have s7 := lt_of_cell HG7.out.at_.1
            have s9 := lt_of_cell HG9.out.at_.1
            obtain ⟨p0, p1⟩ := HG7.out.at_
            obtain ⟨t0, t1⟩ := HG9.out.at_
            obtain ⟨⟨a0, a1⟩, b0, b1⟩ := HX.out.at_
            have l0 := lt_of_cell a0
            have l1 := lt_of_cell b0
            go_wp2
            go_roundw
            case rel => exact ⟨k + 1, by omega, by go_num, Lib.hid (HX.out.alloc _), Lib.hid (HN.out.alloc _), Lib.hid (HB.out.alloc HB.out.size _)⟩
            case measure => simp [intOf]; omega
          · subst e0
            obtain ⟨rfl, rfl⟩ : vk = 5 ∧ vn = an := by simpa using hv
            have e1 : (bk == 0) = false := beq_eq_false_iff_ne.2 e10
            clear hv e10
            have s7 := lt_of_cell HG7.out.at_.1
            have s9 := lt_of_cell HG9.out.at_.1
            obtain ⟨p0, p1⟩ := HG7.out.at_
            obtain ⟨t0, t1⟩ := HG9.out.at_
            obtain ⟨⟨a0, a1⟩, b0, b1⟩ := HX.out.at_
            have l0 := lt_of_cell a0
            have l1 := lt_of_cell b0
            go_wp2
            go_roundw
            case rel => exact ⟨k + 1, by omega, by go_num, Lib.hid (HX.out.alloc _), Lib.hid (HN.out.alloc _), Lib.hid (HB.out.alloc HB.out.size _)⟩
            case measure => simp [intOf]; omega
          · subst e1
            obtain ⟨rfl, rfl⟩ : vk = 5 ∧ vn = bn := by simpa using hv
            have e0 : (ak == 0) = false := beq_eq_false_iff_ne.2 e00
            have e5 : (ak == 5) = false := beq_eq_false_iff_ne.2 e50
            clear hv e00 e50
            have s7 := lt_of_cell HG7.out.at_.1
            have s9 := lt_of_cell HG9.out.at_.1
            obtain ⟨p0, p1⟩ := HG7.out.at_
            obtain ⟨t0, t1⟩ := HG9.out.at_
            obtain ⟨⟨a0, a1⟩, b0, b1⟩ := HX.out.at_
            have l0 := lt_of_cell a0
            have l1 := lt_of_cell b0
            go_wp2
            go_roundw
            case rel => exact ⟨k + 1, by omega, by go_num, Lib.hid (HX.out.alloc _), Lib.hid (HN.out.alloc _), Lib.hid (HB.out.alloc HB.out.size _)⟩
            case measure => simp [intOf]; omega
          · have e0 : (ak == 0) = false := beq_eq_false_iff_ne.2 e00
            have e5 : (ak == 5) = false := beq_eq_false_iff_ne.2 e50
            have e1 : (bk == 0) = false := beq_eq_false_iff_ne.2 e10
            have e6 : (bk == 5) = false := beq_eq_false_iff_ne.2 e60
            have hvk := Ce.reckon_kind x.data.toList ⟨ak, an⟩ ⟨bk, bn⟩
            rw [← hv] at hvk
            dsimp only at hvk
            clear hv e00 e50 e10 e60 HT2
            rcases hvk with rfl | rfl | rfl
            · have s7 := lt_of_cell HG7.out.at_.1
              have s9 := lt_of_cell HG9.out.at_.1
              obtain ⟨p0, p1⟩ := HG7.out.at_
              obtain ⟨t0, t1⟩ := HG9.out.at_
              obtain ⟨⟨a0, a1⟩, b0, b1⟩ := HX.out.at_
              have l0 := lt_of_cell a0
              have l1 := lt_of_cell b0
              go_wp2
              go_roundw
              case rel => exact ⟨k + 1, by omega, by go_num, Lib.hid (HX.out.alloc _), Lib.hid (HN.out.alloc _), Lib.hid (HB.out.alloc HB.out.size _)⟩
              case measure => simp [intOf]; omega
            · have s7 := lt_of_cell HG7.out.at_.1
              have s9 := lt_of_cell HG9.out.at_.1
              obtain ⟨p0, p1⟩ := HG7.out.at_
              obtain ⟨t0, t1⟩ := HG9.out.at_
              obtain ⟨⟨a0, a1⟩, b0, b1⟩ := HX.out.at_
              have l0 := lt_of_cell a0
              have l1 := lt_of_cell b0
              go_wp2
              go_roundw
              case rel => exact ⟨k + 1, by omega, by go_num, Lib.hid (HX.out.alloc _), Lib.hid (HN.out.alloc _), Lib.hid (HB.out.alloc HB.out.size _)⟩
              case measure => simp [intOf]; omega
            · have s7 := lt_of_cell HG7.out.at_.1
              have s9 := lt_of_cell HG9.out.at_.1
              obtain ⟨p0, p1⟩ := HG7.out.at_
              obtain ⟨t0, t1⟩ := HG9.out.at_
              obtain ⟨⟨a0, a1⟩, b0, b1⟩ := HX.out.at_
              have l0 := lt_of_cell a0
              have l1 := lt_of_cell b0
              go_wp2
              go_roundw
              case rel => exact ⟨k + 1, by omega, by go_num, Lib.hid (HX.out.alloc _), Lib.hid (HN.out.alloc _), Lib.hid (HB.out.alloc HB.out.size _)⟩
              case measure => simp [intOf]; omega
    · have hlt' : ¬ (k : Int) < 8 := by omega
      have T1 := HTWO.out _ HD1.out
      have T2 := HTWO.out _ HD2.out
      have V1 := fun A c W hh => HPR.out ⟨#[100, 105, 118]⟩ [⟨ak, an⟩, ⟨bk, bn⟩] A c W (HSZN.out _ HD1.out) (by simp) hh
      have V2 := fun A c W hh => HPR.out ⟨#[109, 111, 100]⟩ [⟨ak, an⟩, ⟨bk, bn⟩] A c W (HSZN.out _ HD2.out) (by simp) hh
      obtain ⟨⟨⟨qk, qn⟩, qe⟩, hq⟩ : ∃ R, Ce.prim (⟨#[100, 105, 118]⟩ : ByteArray).data.toList [⟨ak, an⟩, ⟨bk, bn⟩] = R := ⟨_, rfl⟩
      obtain ⟨⟨⟨rk, rn⟩, re⟩, hr⟩ : ∃ R, Ce.prim (⟨#[109, 111, 100]⟩ : ByteArray).data.toList [⟨ak, an⟩, ⟨bk, bn⟩] = R := ⟨_, rfl⟩
      rw [hq] at T1
      rw [hr] at T2
      simp only [hq] at V1
      simp only [hr] at V2
      obtain rfl : qe = 0 := T1.1
      obtain rfl : re = 0 := T2.1
      have HD := Lib.hid (HDIV.out ⟨qk, qn⟩ ⟨rk, rn⟩ 0 0 hq hr)
      have HV1 : Hid (∀ c W, SlAt ValE W ⟨c, 2, 2⟩ [⟨ak, an⟩, ⟨bk, bn⟩] → Calls Tryz.prog 20 #[.string ⟨#[100, 105, 118]⟩, .slice c 2 2] W fun e w' => e = .returned (.tuple #[.agg #[.int .u8 qk, .int .i64 qn], .int .i64 0]) ∧ Below W.heap.size W w') := Lib.hid fun c W hh => V1 c 2 W hh
      have HV2 : Hid (∀ c W, SlAt ValE W ⟨c, 2, 2⟩ [⟨ak, an⟩, ⟨bk, bn⟩] → Calls Tryz.prog 20 #[.string ⟨#[109, 111, 100]⟩, .slice c 2 2] W fun e w' => e = .returned (.tuple #[.agg #[.int .u8 rk, .int .i64 rn], .int .i64 0]) ∧ Below W.heap.size W w') := Lib.hid fun c W hh => V2 c 2 W hh
      clear T1 T2 V1 V2 hq hr HDIV HTWO HPR
      go_wp2_with fail
      refine (HV1.out _ _ (slat_row (K := ValE) rfl rfl rfl)).mono ?_
      rintro e w20 ⟨rfl, hb20⟩
      have hb20 : Below wr.heap.size wr w20 := ((Below.refl wr.heap.size wr).alloc (Nat.le_refl _) _).trans (hb20.mono (by simp))
      have hc20 : Below wr.heap.size wr (w20.alloc (.cells #[.int .u8 qk, .int .i64 qn] 26)) := hb20.alloc hb20.size _
      have HX2 := Lib.hid (HX.out.step hc20)
      have HQ2 := Lib.hid (box2 (W := w20) (v := .int .u8 qk) (u := .int .i64 qn) (t := 26))
      have HBB := Lib.hid (HB.out.trans (hc20.mono HB.out.size))
      clear hb20 hc20 a0 a1 b0 b1
      obtain ⟨⟨a0, a1⟩, b0, b1⟩ := HX2.out.at_
      go_wp2_with fail
      refine (HV2.out _ _ (slat_row (K := ValE) (by simp) rfl rfl)).mono ?_
      rintro e w21 ⟨rfl, hb21⟩
      have hb21 : Below (w20.alloc (.cells #[.int .u8 qk, .int .i64 qn] 26)).heap.size (w20.alloc (.cells #[.int .u8 qk, .int .i64 qn] 26)) w21 := ((Below.refl (w20.alloc (.cells #[.int .u8 qk, .int .i64 qn] 26)).heap.size (w20.alloc (.cells #[.int .u8 qk, .int .i64 qn] 26))).alloc (Nat.le_refl _) _).trans (hb21.mono (by simp))
      have HX3 := Lib.hid ((HX2.out.step hb21).alloc (.cells #[.int .u8 rk, .int .i64 rn] 26))
      have HQ3 := Lib.hid ((HQ2.out.step hb21).alloc (.cells #[.int .u8 rk, .int .i64 rn] 26))
      have HR3 := Lib.hid (box2 (W := w21) (v := .int .u8 rk) (u := .int .i64 rn) (t := 26))
      have HB3 := Lib.hid ((HBB.out.trans (hb21.mono HBB.out.size)).alloc (HBB.out.trans (hb21.mono HBB.out.size)).size (.cells #[.int .u8 rk, .int .i64 rn] 26))
      clear hb21 HX2 HQ2 HBB a0 a1 b0 b1
      obtain ⟨⟨a0, a1⟩, b0, b1⟩ := HX3.out.at_
      obtain ⟨q0, q1⟩ := HQ3.out.at_
      obtain ⟨r0, r1⟩ := HR3.out.at_
      by_cases h1 : qk = 1
      · subst h1
        obtain ⟨e1, m1, m2, n1, n2⟩ := HD.out rfl
        have hw1 : IntKind.i64.wrap (qn * bn) = qn * bn := by rw [IntKind.wrap_i64]; omega
        have hw2 : IntKind.i64.wrap (qn * bn + rn) = qn * bn + rn := by rw [IntKind.wrap_i64]; omega
        have he : (qn * bn + rn == an) = true := by rw [e1]; simp
        have hne : (qn * bn + rn != an) = false := by rw [bne, he]; rfl
        clear e1 m1 m2 n1 n2 HX HN HB HX3 HQ3 HR3 HD
        go_wp2_with fail
        refine (HAW.out _).mono ?_
        rintro e w30 ⟨rfl, hb30⟩
        go_wp2
        go_ret
        exact ⟨rfl, HB3.out.trans (hb30.mono HB3.out.size)⟩
      · have h1' : (qk == 1) = false := beq_eq_false_iff_ne.2 h1
        clear h1 HX HN HB HX3 HQ3 HR3 HD
        go_wp2_with fail
        refine (HAW.out _).mono ?_
        rintro e w30 ⟨rfl, hb30⟩
        go_wp2
        go_ret
        exact ⟨rfl, HB3.out.trans (hb30.mono HB3.out.size)⟩
end Go.Proofs.YtacggbpgillbaaaGreatDoor
