/- The walk of the reference's Read. -/
import Derived.Test.YtkhgmoljhehbnaaDoorR5
import Derived.Test.YtkhgmoljhehbnaaDoorW10
import Derived.Deep.AppendLies
import Derived.Laws.OwnMore
import Derived.Maps.AppendAt
import Derived.Deep.DeepMust
namespace Go.Proofs.YtkhgmoljhehbnaaDoor
open Go.RowKit

/-- a token's cells -/
def tokCells (t : Lx.Tok) : List Value := [.int .u8 t.kind, sv t.text, .int .i64 t.at_]
def tokRow (ts : List Lx.Tok) : List Value := ts.flatMap tokCells
theorem tokRow_len (ts : List Lx.Tok) : (tokRow ts).length = ts.length * 3 := by
  induction ts with
  | nil => rfl
  | cons t r ih => simp only [tokRow, List.flatMap_cons, List.length_append, List.length_cons] at ih ⊢; rw [ih]; simp [tokCells]; omega
theorem tokRow_snoc (ts : List Lx.Tok) (t : Lx.Tok) : tokRow (ts ++ [t]) = tokRow ts ++ tokCells t := by simp [tokRow]

theorem lex_info : (Tryd.prog.info? 47).map (fun i => (i.zero, i.size, i.bytes)) = some (some (.agg #[.int .u8 0, .string ⟨#[]⟩, .int .i64 0]), 3, 32) := by kernel_rfl

/-- a list of tokens of the call's own -/
abbrev OwnToks (w : World) (base : Nat) (A : Option Addr) (cap : Nat) (ts : List Lx.Tok) : Prop := w.ownsRow base 47 3 (.slice A ts.length cap) ts.length (tokRow ts)

theorem ownToks_empty (w : World) (base : Nat) (h : base ≤ w.heap.size) : OwnToks (w.alloc (.cells #[] 47)) base (some ⟨w.heap.size, 0, none⟩) 0 [] := by
  have := World.ownsRow_made (base := base) (e := 47) (size := 3) w #[] 0 h (by simp [maxLen]) (by simp)
  simpa [OwnToks, tokRow] using this

/-- how Read ends -/
def RdIs (w : World) (base : Nat) (R : Lx.Res) (e : Ending) : Prop := ∃ A cap, e = .returned (.tuple #[.slice A R.ts.length cap, .int .i64 R.at_, .int .i64 R.e]) ∧ OwnToks w base A cap R.ts

/-- where the loop of Read stands -/
def RdAt (s : ByteArray) (R : Lx.Res) (k : Nat) (ts : List Lx.Tok) : Prop := ∃ fuel gs, (s.data.toList.drop k).length ≤ fuel ∧ Lx.gap (s.data.toList.drop k) = 0 ∧ Lx.scan fuel k (s.data.toList.drop k) ts gs = R
def RdMid (s : ByteArray) (R : Lx.Res) (k : Nat) (ts : List Lx.Tok) : Prop := ∃ fuel gs, (s.data.toList.drop k).length ≤ fuel ∧ Lx.scan fuel k (s.data.toList.drop k) ts gs = R

theorem RdMid.go {s : ByteArray} {R : Lx.Res} {k : Nat} {ts : List Lx.Tok} (h : RdMid s R k ts) : RdAt s R (k + Lx.gap (s.data.toList.drop k)) ts := by
  obtain ⟨fuel, gs, hf, he⟩ := h
  obtain ⟨f2, g2, hf2, he2⟩ := Lx.scan_gap fuel k _ ts gs hf
  have hd : s.data.toList.drop (k + Lx.gap (s.data.toList.drop k)) = (s.data.toList.drop k).drop (Lx.gap (s.data.toList.drop k)) := by rw [List.drop_drop]
  refine ⟨f2, g2, by rw [hd]; exact hf2, by rw [hd]; exact Lx.gap_gap _, ?_⟩
  rw [hd, ← he2]; exact he
theorem RdAt.none_ {s : ByteArray} {R : Lx.Res} {k : Nat} {ts : List Lx.Tok} (h : RdAt s R k ts) (hk : k < s.size) (ht : Lx.tok (s.data.toList.drop k) = none) : R = .bad k 4 := by
  obtain ⟨fuel, gs, hf, hg, he⟩ := h
  rw [← he]; exact Lx.scan_none fuel k _ ts gs hf (by rw [drop_at s k hk]; simp) hg ht
theorem RdAt.full {s : ByteArray} {R : Lx.Res} {k : Nat} {ts : List Lx.Tok} (h : RdAt s R k ts) (hk : k < s.size) {x : Nat × Lx.B} (ht : Lx.tok (s.data.toList.drop k) = some x) (h9 : ts.length = 900) : R = .bad k 5 := by
  obtain ⟨fuel, gs, hf, hg, he⟩ := h
  rw [← he]; exact Lx.scan_full fuel k _ ts gs hf (by rw [drop_at s k hk]; simp) hg ht h9
theorem RdAt.tok {s : ByteArray} {R : Lx.Res} {k : Nat} {ts : List Lx.Tok} (h : RdAt s R k ts) (hk : k < s.size) {kd : Nat} {t : Lx.B} (ht : Lx.tok (s.data.toList.drop k) = some (kd, t)) (h9 : ts.length ≠ 900) :
    RdMid s R (k + t.length) (ts ++ [⟨kd, t, k⟩]) ∧ 0 < t.length ∧ k + t.length ≤ s.size := by
  obtain ⟨fuel, gs, hf, hg, he⟩ := h
  obtain ⟨hp1, hp2, hp3, _, _⟩ := Lx.tok_prefix ht
  obtain ⟨f2, hf2, he2⟩ := Lx.scan_tok fuel k _ ts gs hf (by rw [drop_at s k hk]; simp) hg ht hp2 h9
  rw [List.drop_drop] at hf2 he2
  refine ⟨⟨f2, gs, hf2, by rw [← he2]; exact he⟩, hp2, ?_⟩
  rw [List.length_drop, ← Lib.size_eq] at hp3
  omega
theorem RdAt.stop {s : ByteArray} {R : Lx.Res} {k : Nat} {ts : List Lx.Tok} (h : RdAt s R k ts) (hk : s.size ≤ k) : ∃ gs, R = .ok ts gs := by
  obtain ⟨fuel, gs, hf, hg, he⟩ := h
  rw [List.drop_eq_nil_of_le (by rw [← Lib.size_eq]; exact hk), Lx.scan_end] at he
  exact ⟨gs, he.symm⟩
theorem RdMid.start (s : ByteArray) (h : (Lx.check s.data.toList).2 = 0) : RdMid s (Lx.read s.data.toList) 0 [] :=
  ⟨s.data.toList.length, [], by simp, by unfold Lx.read; rw [if_pos h]; simp⟩
theorem read_bad (s : ByteArray) (h : (Lx.check s.data.toList).2 ≠ 0) : Lx.read s.data.toList = .bad (Lx.check s.data.toList).1 (Lx.check s.data.toList).2 := by unfold Lx.read; rw [if_neg h]

theorem ownToks_below {w w' : World} {base : Nat} {A : Option Addr} {cap : Nat} {ts : List Lx.Tok} (h : OwnToks w base A cap ts) (hb : Below w.heap.size w w') : OwnToks w' base A cap ts :=
  h.kept (grown_of_below hb none) (by
    rcases A with _ | a
    · left; rfl
    · right; simp [Value.ownBlock])

/-- append of one token, at the operation -/
theorem wpList_append_tok (w : World) {ops : Array Oper} {rest : List Oper} {o : Oper} {a : Act} {Q : Exit → Act → World → Prop} (hgd : o.guard = none) (x y : Operand)
    (ho : o.op = .call { callee := .builtin .append, args := #[x, y], argTypes := #[31, 31] }) (base : Nat) (A : Option Addr) (cap : Nat) (ts : List Lx.Tok) (b kd : Nat) (t : ByteArray) (k : Nat)
    (hx : a.eval x = .slice A ts.length cap) (hy : a.eval y = .slice (some ⟨b, 0, none⟩) 1 1) (hown : OwnToks w base A cap ts) (hl : LexAt w b kd t k) (hts : ts.length ≤ 10000000) (hbase : base ≤ w.heap.size)
    (h : ∀ A' cap' w', OwnToks w' base A' cap' (ts ++ [⟨kd, t.data.toList, k⟩]) → w.grownBy w' (Value.slice A ts.length cap).ownBlock → wpList Tryd.prog ops Q rest (a.put o.dst (.slice A' (ts.length + 1) cap')) w') : wpList Tryd.prog ops Q (o :: rest) a w := by
  obtain ⟨i0, hi0, hz0, hz1, hz2⟩ := info_parts lex_info
  refine wpList_append_own w hgd x y 31 ho base 47 i0 _ 3 32 Tryd.underlying31 hi0 hz0 hz1 hz2 rfl (by decide) _ ts.length (tokRow ts) hx hown ⟨b, 0, none⟩ 1 1 [.int .u8 kd, .string t, .int .i64 k] hy rfl ?_ ?_ (by simp only [maxLen]; omega) (by omega) hbase ?_
  · obtain ⟨l0, l1, l2⟩ := hl
    intro j u hj
    match j, hj with
    | 0, hj => simp at hj; subst hj; simpa [Addr.add] using l0
    | 1, hj => simp at hj; subst hj; simpa [Addr.add] using l1
    | 2, hj => simp at hj; subst hj; simpa [Addr.add] using l2
  · intro u hu; simp at hu; rcases hu with rfl | rfl | rfl <;> rfl
  · intro v' w' h2 h3 _
    obtain ⟨g, cap', hv, _, _⟩ := h2.form (by omega)
    subst hv
    refine h _ cap' w' ?_ h3
    unfold OwnToks
    rw [tokRow_snoc, List.length_append, List.length_singleton]
    have : tokCells ⟨kd, t.data.toList, k⟩ = [.int .u8 kd, .string t, .int .i64 k] := by simp only [tokCells, sv_data]
    rw [this]
    exact h2

set_option maxRecDepth 100000 in
set_option maxHeartbeats 4000000 in
theorem refRead_any (s : ByteArray) (hs : s.size ≤ 281474976710656) (w : World) :
    Calls Tryd.prog 21 #[.string s] w fun e w' => RdIs w' w.heap.size (Lx.read s.data.toList) e ∧ Below w.heap.size w w' := by
  have hm : (s.size : Int) ≤ 281474976710656 := by omega
  have hm' : s.size ≤ maxLen := by unfold maxLen; omega
  have hchk := refCheck_any s hm' w
  have hbad := read_bad s
  have hst := RdMid.start s
  generalize Lx.read s.data.toList = R at hbad hst ⊢
  unfold chkV at hchk
  generalize (Lx.check s.data.toList).1 = c1 at hchk hbad
  generalize (Lx.check s.data.toList).2 = c2 at hchk hbad hst
  have hg0 : ∀ W, Calls Tryd.prog 48 #[.string s, .int .i64 0] W fun e w' => e = .returned (.int .i64 ((0 + Lx.gap (s.data.toList.drop 0) : Nat) : Int)) ∧ W = w' := fun W => refGap_any s hm' 0 (Nat.zero_le _) W
  by_cases hc : c2 = 0
  · have H1 : Hid (RdAt s R (0 + Lx.gap (s.data.toList.drop 0)) []) := (hst hc).go
    have hle : 0 + Lx.gap (s.data.toList.drop 0) ≤ s.size := by have := Lx.gap_le (s.data.toList.drop 0); simp at this ⊢; omega
    generalize 0 + Lx.gap (s.data.toList.drop 0) = k0 at hg0 H1 hle
    subst hc
    have HC := Lib.hid hchk
    have HG := Lib.hid hg0
    clear hchk hg0 hbad hst
    obtain ⟨i0, hi0, hz0, hz1, hz2⟩ := info_parts lex_info
    go_enter Tryd.func21, Tryd.ntmps21
    go_wp2_with fail
    refine HC.out.mono ?_
    rintro e w0 ⟨rfl, rfl⟩
    go_wp2_with fail
    refine (HG.out _).mono ?_
    rintro e w1 ⟨rfl, rfl⟩
    go_wp2_with fail
    go_loopw [7, 8] (fun o a wr => ∃ (k : Nat) (ts : List Lx.Tok) (A : Option Addr) (cap : Nat), k ≤ s.size ∧ ts.length ≤ 900 ∧ a = .int .i64 k ∧ o = .slice A ts.length cap ∧ OwnToks wr w.heap.size A cap ts ∧ Hid (RdAt s R k ts) ∧ Below w.heap.size w wr) (fun _ a _ => s.size - (intOf a).toNat)
    case atStart => exact ⟨k0, [], _, 0, hle, by simp, rfl, rfl, ownToks_empty w _ (Nat.le_refl _), H1, (Below.refl _ _).alloc (Nat.le_refl _) _⟩
    case round =>
      obtain ⟨k, ts, A, cap, hk, htl, rfl, rfl, hown, HR, hbw⟩ := hrel
      by_cases hlt : k < s.size
      · have hlt' : (k : Int) < s.size := by omega
        have hat := refAt_any s hs k hlt wr
        have HAT := Lib.hid hat
        clear hat
        go_wp2_with fail
        refine HAT.out.mono ?_
        rintro e w1 ⟨⟨kd, t, a2, en, rfl, hat⟩, hb1⟩
        have hown1 := ownToks_below hown hb1
        have hz1' := hb1.size
        have hzw := hbw.size
        have hbw1 : Below w.heap.size w w1 := hbw.trans (hb1.mono hzw)
        cases hq : Lx.tok (s.data.toList.drop k) with
        | none =>
          have HRB : Hid (R = .bad k 4) := HR.out.none_ hlt hq
          rw [hq] at hat
          clear hq hat
          simp only [Option.isSome_none]
          go_wp2
          go_ret3
          refine ⟨⟨some ⟨w1.heap.size + 1, 0, none⟩, 0, ?_, ?_⟩, ?_⟩
          · rw [HRB.out]; rfl
          · rw [HRB.out]
            have := ownToks_empty (w1.alloc (.cells #[.int .u8 kd, .string t, .int .i64 a2] 47)) w.heap.size (by simp; omega)
            rwa [World.size_alloc] at this
          · exact (hbw1.alloc (by omega) _).alloc (by simp; omega) _
        | some x =>
          obtain ⟨kx, tx⟩ := x
          rw [hq] at hat
          obtain ⟨e1, e2, e3, e4⟩ := hat rfl
          have e1' : kx = kd := e1.symm
          have htx : tx = t.data.toList := by rw [e2]; simp [optS]
          clear hat e1 e2
          subst e1' htx e3 e4
          have hts := Lib.size_eq t
          simp only [Option.isSome_some]
          by_cases h9 : ts.length = 900
          · have HRB : Hid (R = .bad k 5) := HR.out.full hlt hq h9
            have h9b : ((ts.length : Int) == 900) = true := by simp [h9]
            clear hq h9 hts
            go_wp2
            go_ret3
            refine ⟨⟨some ⟨w1.heap.size + 1, 0, none⟩, 0, ?_, ?_⟩, ?_⟩
            · rw [HRB.out]; rfl
            · rw [HRB.out]
              have := ownToks_empty (w1.alloc (.cells #[.int .u8 kx, .string t, .int .i64 k] 47)) w.heap.size (by simp; omega)
              rwa [World.size_alloc] at this
            · exact (hbw1.alloc (by omega) _).alloc (by simp; omega) _
          · obtain ⟨hmid, hpos, hke⟩ := HR.out.tok hlt hq h9
            have h9b : ((ts.length : Int) == 900) = false := by simp; omega
            have HGO := Lib.hid hmid.go
            have HSV : Hid (tokCells ⟨kx, t.data.toList, k⟩ = [.int .u8 kx, .string t, .int .i64 k]) := by show _ = _; simp only [tokCells, sv_data]
            have hgap := fun W => refGap_any s hm' (k + t.data.toList.length) hke W
            have hg2 := Lx.gap_le (s.data.toList.drop (k + t.data.toList.length))
            rw [List.length_drop, ← Lib.size_eq s] at hg2
            generalize Lx.gap (s.data.toList.drop (k + t.data.toList.length)) = g2 at hgap HGO hg2
            rw [← hts] at hgap HGO hg2 hke hpos
            simp only [Int.natCast_add] at hgap
            have HGAP := Lib.hid hgap
            clear hgap hmid hq hts
            have hk0 : (0 : Int) ≤ k := by omega
            have hkt : (k : Int) + t.size ≤ s.size := by omega
            go_wp2_with (at_builtin; refine wpList_append_tok _ rfl _ _ rfl w.heap.size A cap ts (w1.heap.size + 1) kx t k rfl rfl ((hown1.alloc _).alloc _) ⟨by simp, by simp, by simp⟩ (by omega) (by simp; omega) ?_; intro A' cap' w2 hown2 hgrow2)
            refine (HGAP.out _).mono ?_
            rintro e w3 ⟨rfl, rfl⟩
            go_wp2_with fail
            go_roundw
            case rel =>
              refine ⟨k + t.size + g2, ts ++ [⟨kx, t.data.toList, k⟩], A', cap', by omega, by simp; omega, by go_num, by simp, hown2, HGO, ?_⟩
              refine ((hbw1.alloc (by omega) _).alloc (by simp; omega) _).grown hgrow2 (by simp; omega) (fun j hj => ?_)
              exact (hown.lt j hj).1
            case measure => simp [intOf]; omega
      · have hlt' : ¬ (k : Int) < s.size := by omega
        obtain ⟨gs, hR⟩ := HR.out.stop (by omega)
        have HRE := Lib.hid hR
        clear hR
        go_wp2
        go_ret3
        refine ⟨⟨A, cap, ?_, ?_⟩, hbw⟩
        · rw [HRE.out]; rfl
        · rw [HRE.out]; exact hown
  · have hR := hbad hc
    have HRE := Lib.hid hR
    have hcb : ((c2 : Int) == 0) = false := by simp [hc]
    have hcb2 : (!((c2 : Int) == 0)) = true := by rw [hcb]; rfl
    have hcb3 : ((c2 : Int) != 0) = true := hcb2
    clear hR hbad hst hc hg0
    go_enter Tryd.func21, Tryd.ntmps21
    go_wp2_with fail
    refine hchk.mono ?_
    rintro e w0 ⟨rfl, rfl⟩
    go_wp2
    go_ret3
    refine ⟨⟨some ⟨w.heap.size, 0, none⟩, 0, ?_, ?_⟩, ?_⟩
    · rw [HRE.out]; rfl
    · rw [HRE.out]; exact ownToks_empty w _ (Nat.le_refl _)
    · exact (Below.refl _ _).alloc (Nat.le_refl _) _

end Go.Proofs.YtkhgmoljhehbnaaDoor
