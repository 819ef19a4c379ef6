/- Layer 6: the reference's new numbers of structures: what is met, in a box; the walk of renumber. -/
import Derived.Test.YtjldkndalcellaaGreatDoorYj
namespace Ce
theorem place_min : ∀ (met : List Int) (n : Int) (j : Nat), j < place n met → met[j]? ≠ some n
  | [], n, j, h => by simp [place] at h
  | x :: r, n, j, h => by
    rw [place] at h
    by_cases hx : x = n
    · rw [if_pos hx] at h; omega
    · rw [if_neg hx] at h
      cases j with
      | zero => simpa using hx
      | succ j => simpa using place_min r n j (by omega)
theorem place_hit {met : List Int} {n : Int} {q : Nat} (h : met[q]? = some n) (hq : q ≤ place n met) : place n met = q := by
  by_cases hlt : q < place n met
  · exact absurd h (place_min met n q hlt)
  · omega
theorem place_miss {met : List Int} {n x : Int} {q : Nat} (h : met[q]? = some x) (hx : x ≠ n) (hq : q ≤ place n met) : q + 1 ≤ place n met := by
  by_cases he : place n met = q
  · have hlt := (List.getElem?_eq_some_iff.1 h).1
    have hm : n ∈ met := by
      by_cases hm : n ∈ met
      · exact hm
      · have := place_len met n hm; omega
    have := (place_at met n hm).1
    rw [he, h] at this
    exact absurd (Option.some.inj this) hx
  · omega
theorem place_over {met : List Int} {n : Int} (h : met.length ≤ place n met) : place n met = met.length ∧ meet n met = met ++ [n] := by
  have e : place n met = met.length := by have := place_le met n; omega
  exact ⟨e, meet_out ((place_eq_iff met n).1 e)⟩
theorem place_under {met : List Int} {n : Int} {q : Nat} (h : met[q]? = some n) : meet n met = met := meet_in (List.mem_of_getElem? h)
end Ce
namespace Go.Proofs.YtjldkndalcellaaGreatDoor
open Go.RowKit Go.El

theorem below_drewN (w : World) (n : Nat) : Below w.heap.size w (w.drewN n) := by
  induction n with
  | zero => exact Below.refl _ _
  | succ n ih => exact ih.drew
/-- what is met, in a box -/
structure MetAt (W : World) (base p : Nat) (M : Option Addr) (cm : Nat) (met : List Int) : Prop where
  blk : Blk W p 52 #[.slice M met.length cm]
  own : IntE.Own 3 W base M cm met
  pb : base ≤ p
theorem MetAt.below {W W' : World} {base p : Nat} {M : Option Addr} {cm : Nat} {met : List Int} (h : MetAt W base p M cm met) (hb : Below W.heap.size W W') : MetAt W' base p M cm met := ⟨h.blk.below hb, h.own.below hb, h.pb⟩
theorem MetAt.set {W : World} {base p : Nat} {M : Option Addr} {cm : Nat} {met : List Int} (h : MetAt W base p M cm met) {a : Addr} {v : Value} {c : Array Value} {T : TypeId} {f : Nat × Nat} (ha : W.heap[a.block]? = some (.cells c T f)) (h1 : T ≠ 52) (h2 : T ≠ 3) : MetAt (W.setCell a v) base p M cm met := by
  refine ⟨?_, ?_, h.pb⟩
  · show (W.setCell a v).heap[p]? = _
    rw [RowKit.Below.heap_setCell _ _ _ _ (fun e => ?_)]
    · exact h.blk
    · have : W.heap[p]? = _ := h.blk
      rw [e, ha] at this
      injection this with this
      injection this with _ ht
      exact h1 ht
  · exact h.own.keepsT (KeepsT.set (fun c' f' e => by
      rw [ha] at e
      injection e with e
      injection e with _ ht
      exact h2 ht))
def MetIs (W : World) (base p : Nat) (met : List Int) : Prop := ∃ M cm, MetAt W base p M cm met
theorem MetIs.below {W W' : World} {base p : Nat} {met : List Int} (h : MetIs W base p met) (hb : Below W.heap.size W W') : MetIs W' base p met := by
  obtain ⟨M, cm, h⟩ := h
  exact ⟨M, cm, h.below hb⟩
theorem MetIs.set {W : World} {base p : Nat} {met : List Int} (h : MetIs W base p met) {a : Addr} {v : Value} {c : Array Value} {T : TypeId} {f : Nat × Nat} (ha : W.heap[a.block]? = some (.cells c T f)) (h1 : T ≠ 52) (h2 : T ≠ 3) : MetIs (W.setCell a v) base p met := by
  obtain ⟨M, cm, h⟩ := h
  exact ⟨M, cm, h.set ha h1 h2⟩
/-- a row of another kind grows -/
theorem MetIs.grown {α : Type} {K : El α} {W W' : World} {base p : Nat} {met : List Int} (h : MetIs W base p met) {T : TypeId} {base' cap : Nat} {B : Option Addr} {l : List α} (ho : K.Own T W base' B cap l) (h1 : T ≠ 52) (h2 : T ≠ 3) (hg : W.grownBy W' (Value.slice B l.length cap).ownBlock) : MetIs W' base p met := by
  obtain ⟨M, cm, h⟩ := h
  refine ⟨M, cm, h.blk.kept hg (ho.ne_blk h.blk (Ne.symm h1)), h.own.kept' hg (fun g e => ?_), h.pb⟩
  obtain ⟨c', hc⟩ := ho.blk e
  exact h.own.ne_blk hc h2
/-- all blocks are kept but those of boxes of rows of whole numbers, and of these -/
def KeepsM (w w' : World) : Prop := ∀ T, T ≠ 52 → T ≠ 3 → KeepsT T w w'
theorem KeepsM.refl (w : World) : KeepsM w w := fun T _ _ => KeepsT.refl T w
theorem KeepsM.trans {a b c : World} (h : KeepsM a b) (k : KeepsM b c) : KeepsM a c := fun T h1 h2 => (h T h1 h2).trans (k T h1 h2)
theorem KeepsM.below {w w' : World} (h : Below w.heap.size w w') : KeepsM w w' := fun _ _ _ => KeepsT.below h
theorem KeepsM.blk {w w' : World} (h : KeepsM w w') {g : Nat} {T : TypeId} {cs : Array Value} (hb : Blk w g T cs) (h1 : T ≠ 52) (h2 : T ≠ 3) : Blk w' g T cs := h T h1 h2 _ _ _ hb
theorem KeepsM.own {α : Type} {K : El α} {T : TypeId} {w w' : World} {base cap : Nat} {A : Option Addr} {l : List α} (h : KeepsM w w') (ho : K.Own T w base A cap l) (h1 : T ≠ 52) (h2 : T ≠ 3) : K.Own T w' base A cap l := Own.keepsT ho (h T h1 h2)
/-- the number of a value alone is put -/
theorem val_put1 {T : TypeId} {W : World} {base g cap : Nat} {L : List Ce.V} (h : ValE.Own T W base (some ⟨g, 0, none⟩) cap L) {i : Nat} {v : Ce.V} (hv : L[i]? = some v) (x : Ce.V) (hk : x.k = v.k) :
    ValE.Own T (W.setCell ⟨g, i * 2 + 1, none⟩ (.int .i64 x.n)) base (some ⟨g, 0, none⟩) cap (L.set i x) := by
  have hi := (List.getElem?_eq_some_iff.1 hv).1
  have h1 := (World.ownsRow.stored h (i * 2 + 1) (.int .i64 x.n)).1
  have hg : (ValE.row L)[i * 2]? = some (.int .u8 x.k) := by
    have := ValE.row_get L i v hv 0 (by decide)
    rw [hk]
    exact this
  show World.ownsRow _ _ _ 2 (.slice _ (L.set i x).length _) (L.set i x).length (ValE.row (L.set i x))
  rw [val_row_set x L i hi, List.length_set, set_same hg]
  exact h1
def Ren6Is (l : List Ce.V) (met : List Int) (base p : Nat) (w w' : World) (e : Ending) : Prop :=
  ∃ A c, e = .returned (.slice A l.length c) ∧ ValE.Own 57 w' w.heap.size A c (Ce.renum l met).1 ∧ MetIs w' base p (Ce.renum l met).2
def ldMet : Oper := { dst := some 53, op := Op.load 52 (Operand.tmp 52), type := 52, pos := "ref.go:403", after := #[{ on := 2, ground := Ground.data }], guard := none }
attribute [local go_sem] ldMet
set_option maxRecDepth 100000 in
set_option maxHeartbeats 8000000 in
theorem renumber6_any (l : List Ce.V) (hl : l.length ≤ 10000) (many : Nat) (hmany : many ≤ 10000) (hv : Ce.areValues l many = true) (met : List Int) (hmb : Ce.Below many met) (hnd : met.Nodup) (base p : Nat) (A : Option Addr) (cap : Nat) (hA : A = none → cap = 0) (w : World) (hd : MetIs w base p met) (hbw : base ≤ w.heap.size) (h : ValE.Arg w A l) :
    Calls Tryz.prog 79 #[.slice A l.length cap, .pointer (some ⟨p, 0, none⟩)] w fun e w' => Ren6Is l met base p w w' e ∧ Below base w w' ∧ KeepsM w w' := by
  have HCL := Lib.hid (values_any l (by omega) A cap hA w h)
  have HD := Lib.hid hd
  have HOKM : Hid (∀ k, (metK l met k).length ≤ 100000) := Lib.hid fun k => by
    have hv' : Ce.areValues (l.take k) many = true := by
      unfold Ce.areValues at hv ⊢
      rw [List.all_eq_true] at hv ⊢
      exact fun x hx => hv x (List.mem_of_mem_take hx)
    obtain ⟨h1, h2⟩ := Ce.renum_ok (l.take k) met hmb hnd hv'
    exact Nat.le_trans (Ce.below_len h1 h2) (by omega)
  have HR0 := Lib.hid (renK_zero l met)
  have HRE := Lib.hid (fun k hk => renK_end l met k hk)
  have HRL := Lib.hid (fun k hk => renK_len l met k hk)
  have HRA := Lib.hid (fun k v hv => renK_at (l := l) (met := met) (k := k) (v := v) hv)
  unfold Ren6Is
  have hlz : (l.length : Int) ≤ 10000 := by omega
  clear hd h hv hmb hnd
  go_enter Tryz.func79, Tryz.ntmps79
  go_wp2_with fail
  refine HCL.out.mono ?_
  rintro e w1 ⟨⟨B, c, rfl, hown⟩, hb1⟩
  have HO1 : Hid (ValE.Own 57 w1 w.heap.size B c (renK l met 0)) := Lib.hid (by rw [HR0.out.1]; exact hown)
  have HD1 : Hid (MetIs w1 base p (metK l met 0)) := Lib.hid (by rw [HR0.out.2]; exact HD.out.below hb1)
  have HB1 := Lib.hid (hb1.mono hbw)
  have HK1 := Lib.hid (KeepsM.below hb1)
  have hz1 := hb1.size
  clear hown hb1 HD HCL HR0
  go_wp2_with fail
  go_loopw [6] (fun i wr => ∃ k : Nat, k ≤ l.length ∧ i = .int .i64 k ∧ Hid (ValE.Own 57 wr w.heap.size B c (renK l met k)) ∧ Hid (MetIs wr base p (metK l met k)) ∧ Hid (Below base w wr) ∧ Hid (KeepsM w wr) ∧ w.heap.size ≤ wr.heap.size) (fun i _ => l.length - (intOf i).toNat)
  case atStart => exact ⟨0, Nat.zero_le _, rfl, HO1, HD1, HB1, HK1, hz1⟩
  case round =>
    clear HO1 HD1 HB1 HK1 hz1
    obtain ⟨k, hk, rfl, HO, HD, HB, HK, hz⟩ := hrel
    by_cases hlt : k < l.length
    · have hlt' : (k : Int) < l.length := by omega
      obtain ⟨v, hv⟩ : ∃ x, l[k]? = some x := ⟨_, List.getElem?_eq_getElem hlt⟩
      obtain ⟨hat, hset, hmet⟩ := HRA.out k v hv
      have hrl := HRL.out k hk
      obtain ⟨g, rfl, hgb, hgl, hin⟩ := Own.in_ HO.out (by intro e; rw [e] at hrl; simp at hrl; omega)
      obtain ⟨x0, x1⟩ := ValE.at2 hin hat
      simp only [Nat.zero_add] at x0 x1
      have HSET := Lib.hid hset
      have HAT := Lib.hid hat
      have HMET := Lib.hid hmet
      clear hv hat hset hmet hin
      obtain ⟨vk, vn⟩ := v
      dsimp only at x0 x1
      by_cases h4 : vk = 4
      · subst h4
        obtain ⟨M, cm, hM⟩ := HD.out
        have hl0 := HOKM.out k
        have HMK1 : Hid (metK l met (k + 1) = Ce.meet vn (metK l met k)) := Lib.hid (by rw [HMET.out]; unfold Ce.meetV; rw [if_pos rfl])
        have HRK1 : Hid ((renK l met k).set k (Ce.vref (Ce.place vn (metK l met k))) = renK l met (k + 1)) := Lib.hid (by rw [← HSET.out]; unfold Ce.numV; rw [if_pos rfl])
        have HMV := Lib.hid hM
        clear HD HMET HSET hM
        generalize hR1 : renK l met (k + 1) = R1 at *
        generalize hM1 : metK l met (k + 1) = M1 at *
        have HR1 := Lib.hid hR1
        have HM1 := Lib.hid hM1
        clear hR1 hM1
        generalize hR0 : renK l met k = R0 at *
        generalize hM0 : metK l met k = M0 at *
        clear hR0 hM0
        obtain ⟨WO, hWO⟩ : ∃ x, x = wr := ⟨_, rfl⟩
        subst hWO
        have m0 := HMV.out.blk.cell 0
        dsimp at m0
        have hlm : (M0.length : Int) ≤ 100000 := by omega
        go_wp2_with fail
        go_loopw [7] (fun j wq => ∃ q : Nat, q ≤ M0.length ∧ j = .int .i64 q ∧ Hid (q ≤ Ce.place vn M0) ∧ Hid (Below WO.heap.size WO wq)) (fun j _ => M0.length - (intOf j).toNat)
        case atStart => exact ⟨0, Nat.zero_le _, rfl, Lib.hid (Nat.zero_le _), Lib.hid (Below.refl _ _)⟩
        case round =>
          clear x0 x1 m0 hgl
          obtain ⟨q, hq, rfl, HQ, HBW⟩ := hrel
          have HOW := Lib.hid (Own.below HO.out HBW.out)
          have HMW := Lib.hid (HMV.out.below HBW.out)
          obtain ⟨g', hg', hgb', hgl, hin⟩ := Own.in_ HOW.out (by intro e; rw [e] at hrl; simp at hrl; omega)
          injection hg' with hg'
          injection hg' with hg' _
          subst hg'
          obtain ⟨x0, x1⟩ := ValE.at2 hin HAT.out
          simp only [Nat.zero_add] at x0 x1
          have m0 := HMW.out.blk.cell 0
          dsimp at m0
          clear hin
          by_cases hqt : q < M0.length
          · have hqt' : (q : Int) < M0.length := by omega
            obtain ⟨x, hx⟩ : ∃ x, M0[q]? = some x := ⟨_, List.getElem?_eq_getElem hqt⟩
            obtain ⟨gM, rfl, _, _, hinM⟩ := Own.in_ HMW.out.own (by rintro rfl; simp at hqt)
            have m1 := IntE.at1 hinM hx
            simp only [Nat.zero_add, Nat.mul_one] at m1
            clear hinM
            by_cases hxn : x = vn
            · rw [hxn] at hx m1
              have HPL := Lib.hid (Ce.place_hit hx HQ.out)
              have HMU := Lib.hid (Ce.place_under hx)
              have hqn : ((q : Int) == M0.length) = false := beq_eq_false_iff_ne.2 (by omega)
              clear hx
              go_wp2_with fail
              go_quiet (fail)
              have hbq := HBW.out.trans ((below_drewN wr nq).mono HBW.out.size)
              have HO5 := Lib.hid (Own.below HO.out hbq)
              have HM5 : Hid (MetIs (wr.drewN nq) base p M0) := Lib.hid ⟨_, _, HMV.out.below hbq⟩
              have HMB5 := Lib.hid (HMV.out.blk.below hbq)
              have HB5 := Lib.hid (HB.out.trans (hbq.mono (Nat.le_trans hbw HB.out.size)))
              have HK5 := Lib.hid (HK.out.trans (KeepsM.below hbq))
              have hz5 := Nat.le_trans hz hbq.size
              clear hbq x0 x1 m0 m1 HOW HMW
              generalize wr.drewN nq = W5 at *
              have m5 : W5.cell? ⟨p, 0, none⟩ = some (.slice (some ⟨gM, 0, none⟩) M0.length cm) := HMB5.out.cell 0
              have HO6 : Hid (ValE.Own 57 (W5.setCell ⟨g, k * 2 + 1, none⟩ (.int .i64 q)) w.heap.size (some ⟨g, 0, none⟩) c R1) := Lib.hid (by
                have := val_put1 HO5.out HAT.out (Ce.vref (Ce.place vn M0)) rfl
                rw [HRK1.out, HPL.out] at this
                exact this)
              have HM6 : Hid (MetIs (W5.setCell ⟨g, k * 2 + 1, none⟩ (.int .i64 q)) base p M1) := Lib.hid (by
                obtain ⟨cc, hcc⟩ := own_cells HO5.out
                rw [HMK1.out, HMU.out]
                exact HM5.out.set (a := ⟨g, k * 2 + 1, none⟩) hcc (by decide) (by decide))
              have HB6 := Lib.hid (HB5.out.setCell (p := ⟨g, k * 2 + 1, none⟩) (by dsimp only; omega) (.int .i64 q))
              have HK6 : Hid (KeepsM w (W5.setCell ⟨g, k * 2 + 1, none⟩ (.int .i64 q))) := Lib.hid (fun T t1 t2 i x f hi => by
                have hlt := (Array.getElem?_eq_some_iff.1 hi).1
                rw [RowKit.Below.heap_setCell _ _ _ _ (by dsimp only; omega)]
                exact HK5.out T t1 t2 i x f hi)
              have hz6 : w.heap.size ≤ (W5.setCell ⟨g, k * 2 + 1, none⟩ (.int .i64 q)).heap.size := by simp [World.setCell]; omega
              obtain ⟨g', hg', _, hgl5, hin5⟩ := Own.in_ HO5.out (by intro e; rw [e] at hrl; simp at hrl; omega)
              injection hg' with hg'
              injection hg' with hg' _
              subst hg'
              have y1 := (ValE.at2 hin5 HAT.out).2
              simp only [Nat.zero_add] at y1
              have yf := World.ownsRow.frozenAt HO5.out (k * 2 + 1)
              clear hin5
              go_wp2
              go_roundw
              case rel => exact ⟨k + 1, by omega, by go_num, Lib.hid (by rw [HR1.out]; exact HO6.out), Lib.hid (by rw [HM1.out]; exact HM6.out), HB6, HK6, hz6⟩
              case measure => simp [intOf]; omega
            · have hxn' : (x == vn) = false := beq_eq_false_iff_ne.2 hxn
              have HQ1 := Lib.hid (Ce.place_miss hx hxn HQ.out)
              go_wp2_with fail
              go_quiet (fail)
              go_wp2
              go_roundw
              case rel => exact ⟨q + 1, by omega, by go_num, HQ1, Lib.hid (HBW.out.trans ((below_drewN _ _).mono HBW.out.size))⟩
              case measure => simp [intOf]; omega
          · obtain rfl : q = M0.length := by omega
            have hqt' : decide ((M0.length : Int) < M0.length) = false := decide_eq_false (by omega)
            have HPO := Lib.hid (Ce.place_over HQ.out)
            have HPL := Lib.hid HPO.out.1
            have HMU := Lib.hid HPO.out.2
            clear hqt hq
            go_wp2_with fail
            go_quiet (fail)
            have hbq := HBW.out.trans ((below_drewN wr nq).mono HBW.out.size)
            have HOX := Lib.hid (Own.below HO.out hbq)
            have HMX := Lib.hid (HMV.out.below hbq)
            have HBX := Lib.hid (HB.out.trans (hbq.mono (Nat.le_trans hbw HB.out.size)))
            have HKX := Lib.hid (HK.out.trans (KeepsM.below hbq))
            have hzX := Nat.le_trans hz hbq.size
            clear hbq x0 x1 m0 HOW HMW hgl
            generalize wr.drewN nq = WX at *
            have m0 := HMX.out.blk.cell 0
            dsimp at m0
            obtain ⟨g', hg', _, hgl, hin⟩ := Own.in_ HOX.out (by intro e; rw [e] at hrl; simp at hrl; omega)
            injection hg' with hg'
            injection hg' with hg' _
            subst hg'
            have x1 := (ValE.at2 hin HAT.out).2
            simp only [Nat.zero_add] at x1
            have hpl := HMX.out.blk.lt
            clear hin
            have hpg : p ≠ g := fun e => by
              obtain ⟨cc, hcc⟩ := own_cells HOX.out
              have hb := HMX.out.blk
              rw [Blk, e, hcc] at hb
              injection hb with hb
              injection hb with _ ht
              exact absurd ht (by decide)
            have hgp : g ≠ p := fun e => hpg e.symm
            have HXA : Hid (Below WX.heap.size WX (WX.alloc (.cells #[.int .i64 vn] 3)).drew) := Lib.hid (((Below.refl _ _).alloc (Nat.le_refl _) _).drew)
            have HARG : Hid (IntE.Arg (WX.alloc (.cells #[.int .i64 vn] 3)).drew (some ⟨WX.heap.size, 0, none⟩) [vn]) := Lib.hid ((row_arg (K := IntE) (W := WX) (t := 3) (cs := #[.int .i64 vn]) rfl rfl).below (Below.refl _ _).drew)
            go_wp2_with fail
            rw [show ({ dst := some 53, op := Op.load 52 (Operand.tmp 52), type := 52, pos := "ref.go:403", after := #[{ on := 2, ground := Ground.data }], guard := none } : Oper) = ldMet from rfl]
            go_region_held3 (fun W => W.cell? ⟨g, k * 2 + 1, none⟩ = some (.int .i64 vn))
              (go_keep)
              (first
                | (refine step_append_any IntE _ rfl _ _ 52 3 rfl Tryz.underlying52 int_info rfl base M cm _ M0 [vn] _ _ _ rfl rfl rfl rfl (fun hh => by cases hh) (Own.below HMX.out.own HXA.out) HARG.out (by simp [maxLen]; omega) (by simp; omega) (by have := HBX.out.size; have := HXA.out.size; omega) ?_; intro A4 c4 w4 hown4 hgrow4
                   have hb4 := (HMX.out.blk.below HXA.out).kept hgrow4 (Own.ne_blk (Own.below HMX.out.own HXA.out) (HMX.out.blk.below HXA.out) (by decide))
                   have ho4 := (Own.below HOX.out HXA.out).kept hgrow4 (own_own_ne (Own.below HOX.out HXA.out) (Own.below HMX.out.own HXA.out) (by decide))
                   obtain ⟨g', hg', _, hgl4, hin4⟩ := Own.in_ ho4 (by intro e; rw [e] at hrl; simp at hrl; omega)
                   injection hg' with hg'
                   injection hg' with hg' _
                   subst hg'
                   have v1 := (ValE.at2 hin4 HAT.out).2
                   simp only [Nat.zero_add] at v1
                   have v2 := hb4.cell 0
                   dsimp at v2
                   have vf := hb4.frozen 0
                   have vl := hb4.lt
                   clear hin4))
            all_goals
              have hK4 : KeepsM WX w4 := (KeepsM.below HXA.out).trans (fun T t1 t2 => KeepsT.grown hgrow4 (fun r c f hr e => by
                obtain ⟨c', hc⟩ := (Own.below HMX.out.own HXA.out).blk hr
                rw [hc] at e
                injection e with e
                injection e with _ ht
                exact t2 ht.symm))
              have hS : ∀ T, T ≠ 52 → KeepsT T w4 (w4.setCell ⟨p, 0, none⟩ (.slice A4 (M0.length + 1) c4)) := fun T t1 => KeepsT.set (a := ⟨p, 0, none⟩) (fun c f e => by
                have e' : w4.heap[p]? = some (.cells c T f) := e
                rw [show w4.heap[p]? = _ from hb4] at e'
                injection e' with e'
                injection e' with _ ht
                exact t1 ht.symm)
              have HO5 := Lib.hid (Own.keepsT ho4 (hS _ (by decide)))
              have HM5 : Hid (MetIs (w4.setCell ⟨p, 0, none⟩ (.slice A4 (M0.length + 1) c4)) base p (M0 ++ [vn])) := Lib.hid ⟨A4, c4, by simpa using hb4.set_ 0 (.slice A4 (M0.length + 1) c4), Own.keepsT hown4 (hS _ (by decide)), HMX.out.pb⟩
              have HB5 := Lib.hid (((HBX.out.trans (HXA.out.mono (Nat.le_trans hbw HBX.out.size))).grown hgrow4 (by have := HBX.out.size; have := HXA.out.size; omega) (fun j hj => ((Own.below HMX.out.own HXA.out).lt j hj).1)).setCell (p := ⟨p, 0, none⟩) HMX.out.pb (.slice A4 (M0.length + 1) c4))
              have HK5 := Lib.hid ((HKX.out.trans hK4).trans (fun T t1 _ => hS T t1))
              have hz5 : w.heap.size ≤ (w4.setCell ⟨p, 0, none⟩ (.slice A4 (M0.length + 1) c4)).heap.size := by have := hgrow4.size; have := HXA.out.size; simp [World.setCell]; omega
              clear hK4 hS ho4 hb4 hown4 hgrow4 v1 v2 vf vl hgl4 x1 m0 hpl hgl
              generalize hW5 : World.setCell w4 _ _ = W5 at *
              clear hW5
              have HO6 : Hid (ValE.Own 57 (W5.setCell ⟨g, k * 2 + 1, none⟩ (.int .i64 M0.length)) w.heap.size (some ⟨g, 0, none⟩) c R1) := Lib.hid (by
                have := val_put1 HO5.out HAT.out (Ce.vref (Ce.place vn M0)) rfl
                rw [HRK1.out, HPL.out] at this
                exact this)
              have HM6 : Hid (MetIs (W5.setCell ⟨g, k * 2 + 1, none⟩ (.int .i64 M0.length)) base p M1) := Lib.hid (by
                obtain ⟨cc, hcc⟩ := own_cells HO5.out
                rw [HMK1.out, HMU.out]
                exact HM5.out.set (a := ⟨g, k * 2 + 1, none⟩) hcc (by decide) (by decide))
              have HB6 := Lib.hid (HB5.out.setCell (p := ⟨g, k * 2 + 1, none⟩) (by dsimp only; omega) (.int .i64 M0.length))
              have HK6 : Hid (KeepsM w (W5.setCell ⟨g, k * 2 + 1, none⟩ (.int .i64 M0.length))) := Lib.hid (fun T t1 t2 i x f hi => by
                have hlt := (Array.getElem?_eq_some_iff.1 hi).1
                rw [RowKit.Below.heap_setCell _ _ _ _ (by dsimp only; omega)]
                exact HK5.out T t1 t2 i x f hi)
              have hz6 : w.heap.size ≤ (W5.setCell ⟨g, k * 2 + 1, none⟩ (.int .i64 M0.length)).heap.size := by simp [World.setCell]; omega
              obtain ⟨g', hg', _, hgl5, hin5⟩ := Own.in_ HO5.out (by intro e; rw [e] at hrl; simp at hrl; omega)
              injection hg' with hg'
              injection hg' with hg' _
              subst hg'
              have y1 := (ValE.at2 hin5 HAT.out).2
              simp only [Nat.zero_add] at y1
              have yf := World.ownsRow.frozenAt HO5.out (k * 2 + 1)
              clear hin5
              go_wp2
              go_roundw
              case rel => exact ⟨k + 1, by omega, by go_num, Lib.hid (by rw [HR1.out]; exact HO6.out), Lib.hid (by rw [HM1.out]; exact HM6.out), HB6, HK6, hz6⟩
              case measure => simp [intOf]; omega
      · have h4' : (vk == 4) = false := beq_eq_false_iff_ne.2 h4
        obtain ⟨s1, s2⟩ := numV_same (v := ⟨vk, vn⟩) h4 (metK l met k)
        have HO1 : Hid (ValE.Own 57 wr w.heap.size (some ⟨g, 0, none⟩) c (renK l met (k + 1))) := Lib.hid (by
          rw [← HSET.out, s1, set_same HAT.out]
          exact HO.out)
        have HD1 : Hid (MetIs wr base p (metK l met (k + 1))) := Lib.hid (by rw [HMET.out, s2]; exact HD.out)
        clear s1 s2 HO HD
        go_wp2
        go_roundw
        case rel => exact ⟨k + 1, by omega, by go_num, HO1, HD1, HB, HK, hz⟩
        case measure => simp [intOf]; omega
    · have hlt' : ¬ (k : Int) < l.length := by omega
      obtain ⟨e1, e2⟩ := HRE.out k (by omega)
      have HRL2 := Lib.hid (HRL.out k hk)
      have HO1 : Hid (ValE.Own 57 wr w.heap.size B c (Ce.renum l met).1) := Lib.hid (by rw [← e1]; exact HO.out)
      have HD1 : Hid (MetIs wr base p (Ce.renum l met).2) := Lib.hid (by rw [← e2]; exact HD.out)
      clear e1 e2 HO HD
      go_wp2
      go_ret
      exact ⟨⟨B, c, rfl, HO1.out, HD1.out⟩, HB.out, HK.out⟩
end Go.Proofs.YtjldkndalcellaaGreatDoor
