/- LexBack, proved: whatever bytes it is given, it returns true; and its tied card. No condition. -/
import Derived.Test.YtkhgmoljhehbnaaDoorN4
import Derived.Test.YtkhgmoljhehbnaaDoorF3
import Derived.Test.YtkhgmoljhehbnaaDoorP2
import Derived.Test.YtkhgmoljhehbnaaDoorTie
import Derived.Test.YtkhgmoljhehbnaaDoorCards
import Derived.SevenTiedAt
import Derived.Deep.RegionWith
namespace Go.Proofs.YtkhgmoljhehbnaaDoor
open Go.RowKit

/-- tokens with the gaps of bytes, one behind each, from the first on again -/
def gapped (L : List LT) (gs : List Nat) : List (LT × Lx.B) := L.mapIdx (fun k x => (x, (Lx.gapTexts[(gs[k % gs.length]?).getD 0 % 7]?).getD [32]))
theorem gapped_fst (L : List LT) (gs : List Nat) : (gapped L gs).map (·.1) = L := by
  unfold gapped
  apply List.ext_getElem?
  intro i
  rw [List.getElem?_map, List.getElem?_mapIdx, Option.map_map]
  cases L[i]? <;> rfl
theorem gap_text (c : Nat) : (Lx.gapTexts[c % 7]?).getD [32] ∈ Lx.gapTexts ∧ Lx.gapTexts[c % 7]? = some ((Lx.gapTexts[c % 7]?).getD [32]) := by
  have h : c % 7 < Lx.gapTexts.length := Nat.mod_lt _ (by decide)
  rw [List.getElem?_eq_getElem h]
  exact ⟨List.getElem_mem h, rfl⟩
theorem gapped_mem (L : List LT) (gs : List Nat) : ∀ p ∈ gapped L gs, p.1 ∈ L ∧ p.2 ∈ Lx.gapTexts := by
  intro p hp
  have h1 : p.1 ∈ (gapped L gs).map (·.1) := List.mem_map.2 ⟨p, hp, rfl⟩
  rw [gapped_fst] at h1
  refine ⟨h1, ?_⟩
  obtain ⟨k, hk⟩ := List.getElem?_of_mem hp
  unfold gapped at hk
  rw [List.getElem?_mapIdx] at hk
  obtain ⟨x, _, rfl⟩ := Option.map_eq_some_iff.1 hk
  exact (gap_text _).1

theorem spaced_any (L : List LT) (hF : Fine L) (gs : List Nat) (hgs : ∀ c ∈ gs, c < 256) (A C : Option Addr) (cap1 cap2 : Nat) (w : World) (h1 : Arg w A L) (h2 : BytesArg w C gs) :
    Calls Tryd.prog 38 #[.slice A L.length cap1, .slice C gs.length cap2] w fun e w' => (∃ (B : ByteArray) (ps : List (LT × Lx.B)), e = .returned (.string B) ∧ B.data.toList = looseL ps ∧ ps.map (·.1) = L ∧ ∀ p ∈ ps, p.2 ∈ Lx.gapTexts) ∧ Below w.heap.size w w' := by
  by_cases hne : L = []
  · subst hne
    refine (spaced_none A C cap1 cap2 gs.length w).mono ?_
    rintro e w' ⟨rfl, rfl⟩
    exact ⟨⟨_, [], rfl, rfl, rfl, by simp⟩, Below.refl _ _⟩
  · obtain ⟨b1, o1, rfl, i1⟩ := h1.at_ hne
    by_cases hg : gs = []
    · subst hg
      have hm : (L.map (fun x => (x, ([32] : Lx.B)))).map (·.1) = L := by rw [List.map_map]; exact List.map_id' L
      have hmem : ∀ p ∈ L.map (fun x => (x, ([32] : Lx.B))), p.1 ∈ L ∧ p.2 = [32] := by
        intro p hp
        obtain ⟨x, hx, rfl⟩ := List.mem_map.1 hp
        exact ⟨hx, rfl⟩
      have := spaced_plain (L.map (fun x => (x, ([32] : Lx.B)))) (fun p hp => (hmem p hp).2) (fun p hp => hF.small _ (hmem p hp).1) (by rw [List.length_map]; exact hF.few) b1 o1 cap1 cap2 C w (by rw [hm]; exact i1)
      rw [List.length_map] at this
      refine this.mono ?_
      rintro e w' ⟨⟨B, rfl, hB⟩, hb⟩
      exact ⟨⟨B, _, rfl, hB, hm, fun p hp => by rw [(hmem p hp).2]; decide⟩, hb⟩
    · obtain ⟨b2, o2, rfl, i2⟩ := h2.at_ hg
      have hpos : 0 < gs.length := List.length_pos_iff.2 hg
      obtain ⟨c0, hc0⟩ : ∃ c, gs[0]? = some c := ⟨_, List.getElem?_eq_getElem hpos⟩
      have hfew := hF.few
      have hlen : (gapped L gs).length = L.length := by rw [← List.length_map (f := (·.1)), gapped_fst]
      have := spaced_gaps (gapped L gs) gs hpos ?_ (fun p hp => hF.small _ (gapped_mem L gs p hp).1) (fun p hp => (Lx.gap_okBytes _ (gapped_mem L gs p hp).2).2.1) (by omega) b1 o1 cap1 b2 o2 cap2 w (by rw [gapped_fst]; exact i1) (lt_of_cell (i2 0 c0 hc0)) i2
      · rw [hlen] at this
        refine this.mono ?_
        rintro e w' ⟨⟨B, rfl, hB⟩, hb⟩
        exact ⟨⟨B, _, rfl, hB, gapped_fst L gs, fun p hp => (gapped_mem L gs p hp).2⟩, hb⟩
      · intro k p hp
        unfold gapped at hp
        rw [List.getElem?_mapIdx] at hp
        obtain ⟨x, _, rfl⟩ := Option.map_eq_some_iff.1 hp
        have hlt : k % gs.length < gs.length := Nat.mod_lt _ hpos
        have hq : gs[k % gs.length]? = some (gs[k % gs.length]'hlt) := List.getElem?_eq_getElem hlt
        refine ⟨_, hq, hgs _ (List.getElem_mem hlt), ?_⟩
        rw [hq]
        exact (gap_text _).2

/-- what is asked of a text with a blank less -/
theorem less_any {L : List LT} {S T : ByteArray} (hS : S.data.toList = bareP L) (hT : T.size < S.size) {pl : List Lx.Tok} {gs : List (Nat × Nat)} (hR : Lx.read T.data.toList = .ok pl gs) : eqL (pl.map LT.of) L = false := by
  cases hq : eqL (pl.map LT.of) L with
  | false => rfl
  | true =>
    exfalso
    have h1 := (eqL_sim _ _).1 hq
    have h2 := (read_lined hR).2.1
    rw [bareP_bareL, sim_bareL h1, ← bareP_bareL, ← hS, ← Lib.size_eq, ← Lib.size_eq] at h2
    omega

set_option maxRecDepth 100000 in
set_option maxHeartbeats 4000000 in
theorem back_run (L : List LT) (hF : Fine L) (C : Option Addr) (gn cap2 : Nat) (V : Value) (pick : Nat) (hpk : pick < 256) (w : World) (he : Env w)
    (htk : Calls Tryd.prog 37 #[V, .int .i64 60] w fun e w' => OwnIs L w w' e ∧ Below w.heap.size w w')
    (hsp : ∀ A cap1 W, Below w.heap.size w W → Arg W A L → Calls Tryd.prog 38 #[.slice A L.length cap1, .slice C gn cap2] W fun e w' => (∃ (B : ByteArray) (ps : List (LT × Lx.B)), e = .returned (.string B) ∧ B.data.toList = looseL ps ∧ ps.map (·.1) = L ∧ ∀ p ∈ ps, p.2 ∈ Lx.gapTexts) ∧ Below W.heap.size W w') :
    Calls Tryd.prog 9 #[V, .slice C gn cap2, .int .u8 pick] w fun e w' => e = .returned (.bool true) ∧ Below w.heap.size w w' := by
  have hLs : ∀ y ∈ L, y.text.size ≤ 2500 := fun y hy => by have := hF.small y hy; omega
  have hLn := hF.few
  have hown := fun A cap (hA : A = none → cap = 0) W hT => own_any2 L (by omega) A cap hA W hT
  have htx := fun A c W hE hT => lexText_any L hLs (by omega) A c W hE hT
  rw [hF.write] at htx
  generalize hS : (⟨(bareP L).toArray⟩ : ByteArray) = S at htx
  have hSd : S.data.toList = bareP L := by rw [← hS]
  have hSz : S.size ≤ 780 := by rw [Lib.size_eq, hSd]; exact hF.bare
  obtain ⟨pl, gs, hR, hlk⟩ := read_back L hF.right (by omega) (by have := hF.bare; omega)
  have hsim := like_sim hlk
  have hrd := fun W hE => lexRead_any S (by omega) W hE
  have hba := fun W hE => lexBare_any S (by omega) W hE
  rw [hSd, hR] at hrd hba
  have hbp : (bareP ((Lx.Res.ok pl gs).ts.map LT.of)) = bareP L := by rw [bareP_bareL, bareP_bareL]; exact sim_bareL hsim
  rw [hbp, hS] at hba
  have hbl : ∀ (B : ByteArray) (ps : List (LT × Lx.B)) W, B.data.toList = looseL ps → ps.map (·.1) = L → (∀ p ∈ ps, p.2 ∈ Lx.gapTexts) → Env W → Calls Tryd.prog 20 #[.string B] W fun e w' => e = .returned (.tuple #[.string S, .int .i64 0, .int .i64 0]) ∧ Below W.heap.size W w' := by
    intro B ps W hB hps hpg hE
    have hpm : ∀ p ∈ ps, p.1 ∈ L := fun p hp => by rw [← hps]; exact List.mem_map.2 ⟨p, hp, rfl⟩
    have hpl : ps.length ≤ 60 := by rw [← List.length_map (f := (·.1)), hps]; exact hLn
    have hsm := looseL_small ps (fun p hp => ⟨hF.small _ (hpm p hp), (Lx.gap_okBytes _ (hpg p hp)).2.1⟩)
    obtain ⟨pl2, gs2, hR2, hlk2⟩ := read_loose ps (fun p hp => ⟨hF.right _ (hpm p hp), hpg p hp⟩) (by omega) (by omega)
    have h := lexBare_any B (by rw [Lib.size_eq, hB]; omega) W hE
    rw [hps] at hlk2
    have hbp2 : (bareP ((Lx.Res.ok pl2 gs2).ts.map LT.of)) = bareP L := by rw [bareP_bareL, bareP_bareL]; exact sim_bareL (like_sim hlk2)
    rw [hB, hR2, hbp2, hS] at h
    exact h
  have hpn : pl.length ≤ 60 := by have := sim_len hsim; rw [List.length_map] at this; omega
  have hal1 := fun A C c1 c2 W h1 h2 => lawAlike_any (pl.map LT.of) L (by rw [List.length_map]; omega) A C c1 c2 W h1 h2
  rw [(eqL_sim _ _).2 hsim] at hal1
  simp only [List.length_map] at hal1
  have hle : ∀ T : ByteArray, T.size < S.size → ∀ W, Env W → Calls Tryd.prog 19 #[.string T] W fun e w' => (∃ (A : Option Addr) (n cap k er : Nat), e = .returned (.tuple #[.slice A n cap, .int .i64 k, .int .i64 er]) ∧ (er ≠ 0 ∨ ∃ ts : List LT, n = ts.length ∧ ts.length ≤ 900 ∧ Arg w' A ts ∧ eqL ts L = false)) ∧ Below W.heap.size W w' := by
    intro T hT W hE
    refine (lexRead_any T (by omega) W hE).mono ?_
    rintro e w' ⟨⟨A, cap, rfl, ho⟩, hb⟩
    refine ⟨⟨A, _, cap, _, _, rfl, ?_⟩, hb⟩
    cases hq : Lx.read T.data.toList with
    | bad k er => exact .inl (read_e _ k er hq)
    | ok ts gs2 =>
      right
      have hn := (read_small T.data.toList).2
      rw [hq] at ho hn
      exact ⟨ts.map LT.of, by rw [List.length_map]; rfl, by rw [List.length_map]; exact hn, (OwnLT.of ho).arg, less_any hSd hT hq⟩
  have hal2 := fun (ts : List LT) (hn : ts.length ≤ 900) (hq : eqL ts L = false) A C c1 c2 W h1 h2 => (lawAlike_any ts L (by omega) A C c1 c2 W h1 h2).mono (R' := fun e w' => e = .returned (.bool false) ∧ Below W.heap.size W w') (by rw [hq]; exact fun _ _ h => h)
  have HTK := Lib.hid htk
  have HOW := Lib.hid hown
  have HTX := Lib.hid htx
  have HRD := Lib.hid hrd
  have HBA := Lib.hid hba
  have HBL := Lib.hid hbl
  have HSP := Lib.hid hsp
  have HA1 := Lib.hid hal1
  have HA2 := Lib.hid hal2
  have HLE := Lib.hid hle
  have HK := Lib.hid (fun W hE => known_any W hE)
  have HE := Lib.hid he
  clear he htk hown htx hrd hba hbl hsp hal1 hal2 hle hF hLs hR hlk hsim hbp hS hSd
  go_enter Tryd.func9, Tryd.ntmps9
  go_wp2_with fail
  refine HTK.out.mono ?_
  rintro e w1 ⟨⟨A, c1, rfl, ho1⟩, hb1⟩
  have HE1 := Lib.hid (HE.out.below hb1 HE.out.lt)
  have hle1 := ho1.le
  have HO1 := Lib.hid ho1
  clear ho1
  go_wp2_with fail
  refine (HOW.out _ _ hle1.2 _ HO1.out.arg).mono ?_
  rintro e w2 ⟨⟨g2, c2, rfl, ho2⟩, hb2⟩
  have hB2 := hb1.trans (hb2.mono hb1.size)
  have HE2 := Lib.hid (HE1.out.below hb2 HE1.out.lt)
  have HO2 := Lib.hid (HO1.out.below hb2)
  have HA2' := Lib.hid ho2.arg
  clear ho2 hb2 HO1 HE1 hle1
  go_wp2_with fail
  refine (HTX.out _ _ _ HE2.out HA2'.out).mono ?_
  rintro e w3 ⟨rfl, hb3⟩
  have hB3 := hB2.trans (hb3.mono hB2.size)
  have HE3 := Lib.hid (HE2.out.below hb3 HE2.out.lt)
  have HO3 := Lib.hid (HO2.out.below hb3)
  clear hb3 HE2 HO2 HA2'
  go_wp2_with fail
  refine (HRD.out _ HE3.out).mono ?_
  rintro e w4 ⟨⟨A4, c4, rfl, ho4⟩, hb4⟩
  have hB4 := hB3.trans (hb4.mono hB3.size)
  have HE4 := Lib.hid (HE3.out.below hb4 HE3.out.lt)
  have HO4 := Lib.hid (HO3.out.below hb4)
  have HR4 := Lib.hid (OwnLT.of ho4)
  simp only [Lx.Res.ts, Lx.Res.at_, Lx.Res.e]
  clear hb4 HE3 HO3 ho4
  go_wp2_with fail
  refine (HBA.out _ HE4.out).mono ?_
  rintro e w5 ⟨rfl, hb5⟩
  have hB5 := hB4.trans (hb5.mono hB4.size)
  have HE5 := Lib.hid (HE4.out.below hb5 HE4.out.lt)
  have HO5 := Lib.hid (HO4.out.below hb5)
  have HR5 := Lib.hid (HR4.out.below hb5)
  simp only [Lx.Res.at_, Lx.Res.e]
  clear hb5 HE4 HO4 HR4
  go_wp2_with fail
  refine (HSP.out _ _ _ hB5 HO5.out.arg).mono ?_
  rintro e w6 ⟨⟨B, ps, rfl, hB, hps, hpg⟩, hb6⟩
  have hB6 := hB5.trans (hb6.mono hB5.size)
  have HE6 := Lib.hid (HE5.out.below hb6 HE5.out.lt)
  have HO6 := Lib.hid (HO5.out.below hb6)
  have HR6 := Lib.hid (HR5.out.below hb6)
  have HBB := Lib.hid (fun W hE => HBL.out B ps W hB hps hpg hE)
  clear hb6 HE5 HO5 HR5 hB hps hpg
  go_wp2_with fail
  refine (HBB.out _ HE6.out).mono ?_
  rintro e w7 ⟨rfl, hb7⟩
  have hB7 := hB6.trans (hb7.mono hB6.size)
  have HE7 := Lib.hid (HE6.out.below hb7 HE6.out.lt)
  have HO7 := Lib.hid (HO6.out.below hb7)
  have HR7 := Lib.hid (HR6.out.below hb7)
  clear hb7 HE6 HO6 HR6
  go_wp2_with fail
  refine (HA1.out _ _ _ _ _ HR7.out.arg HO7.out.arg).mono ?_
  rintro e w8 ⟨rfl, hb8⟩
  have hB8 := hB7.trans (hb8.mono hB7.size)
  have HE8 := Lib.hid (HE7.out.below hb8 HE7.out.lt)
  have HO8 := Lib.hid (HO7.out.below hb8)
  have HI0 := Lib.hid (ownInts_empty w8 w8.heap.size (Nat.le_refl _))
  clear hb8 HE7 HO7 HR7 HTK HOW HTX HRD HBA HBL HSP HA1 HBB hB2 hB3 hB4 hB5 hB6 hB7
  go_wp2_with fail
  go_loopw [19, 20] (fun vb vi wr => ∃ (k : Nat) (ls : List Nat) (A5 : Option Addr) (cap5 : Nat), k ≤ S.size ∧ ls.length ≤ k ∧ vi = .int .i64 k ∧ vb = .slice A5 ls.length cap5 ∧ Hid (∀ n ∈ ls, n < S.size) ∧ Hid (OwnInts wr w8.heap.size A5 cap5 ls) ∧ Below w8.heap.size w8 wr) (fun _ vi _ => S.size - (intOf vi).toNat)
  case atStart => exact ⟨0, [], _, 0, Nat.zero_le _, Nat.le_refl _, rfl, rfl, Lib.hid (by simp), HI0, (Below.refl _ _).alloc (Nat.le_refl _) _⟩
  case round =>
    obtain ⟨k, ls, A5, cap5, hk, hlk, rfl, rfl, HLS, HOI, hbr⟩ := hrel
    have hzr := hbr.size
    by_cases hlt : k < S.size
    · have hlt' : (k : Int) < S.size := by omega
      have hk0 : (0 : Int) ≤ k := by omega
      have HA := Lib.hid (bytes_at S k hlt)
      by_cases h32 : (S[k].toNat : Int) = 32
      · have b1 : ((S[k].toNat : Int) == 32) = true := by simp [h32]
        have HN : Hid (∀ n ∈ ls ++ [k], n < S.size) := by
          show ∀ n ∈ ls ++ [k], _
          intro n hn
          rcases List.mem_append.1 hn with h | h
          · exact HLS.out n h
          · rw [List.mem_singleton] at h; omega
        clear h32
        go_wp2_with (at_builtin; refine wpList_append_ints _ rfl _ _ rfl w8.heap.size A5 cap5 ls [k] wr.heap.size (by simp) rfl rfl (ownInts_below HOI.out ((Below.refl _ _).alloc (Nat.le_refl _) _)) (fun i n hi => by (cases i with | zero => (simp at hi; subst hi; simp) | succ i => (simp at hi))) (by simp; omega) (by simp; omega) ?_; intro A' cap' w2 hown2 hgrow2)
        go_roundw
        case rel =>
          refine ⟨k + 1, ls ++ [k], A', cap', hlt, by simp; omega, by go_num, by simp, HN, Lib.hid hown2, ?_⟩
          exact (hbr.alloc hzr _).grown hgrow2 (by simp; omega) (fun j hj => (HOI.out.lt j hj).1)
        case measure => simp [intOf]; omega
      · have b1 : ((S[k].toNat : Int) == 32) = false := by simp [h32]
        clear h32
        go_wp2
        go_roundw
        case rel => exact ⟨k + 1, ls, A5, cap5, hlt, by omega, by go_num, rfl, HLS, HOI, hbr⟩
        case measure => simp [intOf]; omega
    · have hlt' : ¬ (k : Int) < S.size := by omega
      have hBr := hB8.trans (hbr.mono hB8.size)
      have HEr := Lib.hid (HE8.out.below hbr HE8.out.lt)
      have HOr := Lib.hid (HO8.out.below hbr)
      clear HE8 HO8 hlt
      by_cases hne : ls = []
      · subst hne
        clear HLS HOI
        go_wp2_with fail
        refine (HK.out _ HEr.out).mono ?_
        rintro e w9 ⟨rfl, hb9⟩
        go_wp2
        go_ret
        exact ⟨rfl, hBr.trans (hb9.mono hBr.size)⟩
      · have hpos : 0 < ls.length := List.length_pos_iff.2 hne
        have hlz : ((ls.length : Int) == 0) = false := by rw [beq_eq_false_iff_ne]; omega
        obtain ⟨q, hq⟩ : ∃ q, q = pick % ls.length := ⟨_, rfl⟩
        have hqm : (pick : Int) % (ls.length : Int) = (q : Int) := by rw [hq]; omega
        have hql : q < ls.length := by rw [hq]; exact Nat.mod_lt _ hpos
        obtain ⟨n, hn⟩ : ∃ n, ls[q]? = some n := ⟨_, List.getElem?_eq_getElem hql⟩
        have hnS := HLS.out n (List.mem_of_getElem? hn)
        obtain ⟨g5, hg5, hc5⟩ := ownInts_get HOI.out hn
        subst hg5
        have hqI : (q : Int) < ls.length := by omega
        have hq0 : (0 : Int) ≤ q := by omega
        have hn0 : (0 : Int) ≤ n := by omega
        have hn1 : (n : Int) ≤ S.size := by omega
        obtain ⟨m, hm⟩ : ∃ m, m = n + 1 := ⟨_, rfl⟩
        have hn2 : (m : Int) ≤ S.size := by omega
        have hn3 : (0 : Int) ≤ (m : Int) := by omega
        have hw0 : (n : Int) + 1 = (m : Int) := by omega
        have hw1 : IntKind.i64.wrap (m : Int) = (m : Int) := by rw [IntKind.wrap_i64]; omega
        have hT : (S.extract 0 n ++ S.extract m S.size).size < S.size := by rw [ByteArray.size_append, ByteArray.size_extract, ByteArray.size_extract]; omega
        have hT2 : (S.extract 0 n).size + (S.extract m S.size).size ≤ 281474976710656 := by rw [ByteArray.size_extract, ByteArray.size_extract]; omega
        have hT3 : ¬ 9223372036854775807 < min n S.size + (S.size - m) := by omega
        clear hm
        have hpkI : (pick : Int) < 256 := by omega
        have HT := Lib.hid (fun W hE => HLE.out _ hT W hE)
        clear hq hn hT HLS HOI HLE
        go_wp2_with fail
        go_region_with (go_at_call 19; refine (HT.out _ (HEr.out.below (Below.refl _ _).drew HEr.out.lt)).mono ?_; rintro e w9 ⟨⟨A9, n9, cap9, k9, er9, rfl, hd9⟩, hb9⟩)
        have hB9 : Below w.heap.size w w9 := hBr.drew.trans (hb9.mono (by simp; exact hBr.size))
        have HE9 := Lib.hid (HEr.out.below ((Below.refl _ _).drew.trans hb9) HEr.out.lt)
        have HO9 := Lib.hid (HOr.out.below ((Below.refl _ _).drew.trans hb9))
        have HD9 := Lib.hid hd9
        clear hd9 hb9 HEr HOr HT
        by_cases her : er9 = 0
        · obtain ⟨ts, rfl, hn9, ha9, hq9⟩ : ∃ ts : List LT, n9 = ts.length ∧ ts.length ≤ 900 ∧ Arg w9 A9 ts ∧ eqL ts L = false := by
            rcases HD9.out with h | h
            · exact absurd her h
            · exact h
          have HA9 := Lib.hid ha9
          have HQ9 := Lib.hid hq9
          subst her
          clear ha9 hq9 HD9
          go_wp2_with fail
          refine (HA2.out ts hn9 HQ9.out _ _ _ _ _ HA9.out HO9.out.arg).mono ?_
          rintro e w10 ⟨rfl, hb10⟩
          have hB10 := hB9.trans (hb10.mono hB9.size)
          have HE10 := Lib.hid (HE9.out.below hb10 HE9.out.lt)
          go_wp2_with fail
          refine (HK.out _ HE10.out).mono ?_
          rintro e w11 ⟨rfl, hb11⟩
          go_wp2
          go_ret
          exact ⟨rfl, hB10.trans (hb11.mono hB10.size)⟩
        · have herb : ((er9 : Int) == 0) = false := by rw [beq_eq_false_iff_ne]; omega
          have herb2 : ((er9 : Int) != 0) = true := by rw [bne, herb]; rfl
          clear her HD9
          go_wp2_with fail
          refine (HK.out _ HE9.out).mono ?_
          rintro e w11 ⟨rfl, hb11⟩
          go_wp2
          go_ret
          exact ⟨rfl, hB9.trans (hb11.mono hB9.size)⟩

end Go.Proofs.YtkhgmoljhehbnaaDoor

namespace Go.Proofs.YtkhgmoljhehbnaaDoor
open Go.ChangeShapes Go.WideShapes Go.ChangeAt Go.RowKit

set_option maxRecDepth 100000 in
theorem open_bytes {H : Type} {enc : TypeId × Value → H} {w : World} {base b0 : Nat} {spare : Nat → Bool} {held : Bool} {r : Reach} {v : Value} {d : DataW H} {p : List MemPlace}
    (hv : Value.okWide Tryd.prog w r b0 60 v) (h : DataW.Trod enc Tryd.prog w base spare held 60 v d p) :
    ∃ A cap bs, v = .slice A (bs : List Nat).length cap ∧ BytesArg w A bs ∧ (∀ c ∈ bs, c < 256) ∧ bs.length ≤ maxLen := by
  obtain ⟨a0, len0, cap0, rfl⟩ := okWide_slice Tryd.underlying60 hv
  obtain ⟨fuel, hf⟩ := h
  rcases Go.Deep.open_slice1 Tryd.underlying60 (by kernel_rfl) hf with ⟨hcs, _⟩ | ⟨a, len, cap, m, n, V, D, Pl, hcs, _, hl, hm, hmm, _, hi⟩
  · simp only [Value.cells] at hcs
    injection hcs with hcs _
    injection hcs with e1 e2 e3
    subst e1 e2 e3
    exact ⟨none, 0, [], rfl, ⟨fun h => absurd rfl h⟩, by simp, Nat.zero_le _⟩
  · simp only [Value.cells] at hcs
    injection hcs with hcs _
    injection hcs with e1 e2 e3
    subst e1 e2 e3
    have hlm : len0 ≤ m := by rw [hmm]; split <;> omega
    have hex : ∀ i, i < len0 → ∃ c : Nat, w.cell? (a.add i) = some (.int .u8 c) ∧ c < 256 := by
      intro i hil
      obtain ⟨h1, h2⟩ := hi i (by omega)
      obtain ⟨k, e0, _, wk⟩ := DataW.trod_int Tryd.underlying5 h2
      simp at e0
      rw [e0] at h1
      have rk : 0 ≤ k ∧ k < 256 := by have h1 : IntKind.u8.min = 0 := rfl; have h2 : IntKind.u8.max = 255 := rfl; simp [Lit.wf] at wk; omega
      obtain ⟨nk, rfl⟩ : ∃ n : Nat, k = n := ⟨k.toNat, by omega⟩
      exact ⟨nk, h1, by omega⟩
    obtain ⟨F, hF⟩ := Go.Deep.choose_lt hex
    refine ⟨some a, cap0, (List.range len0).map F, by simp, ⟨fun hne => ?_⟩, ?_, (by simp; omega)⟩
    · have hpos : 0 < len0 := by
        rcases Nat.eq_zero_or_pos len0 with h0 | h0
        · subst h0; exact absurd rfl hne
        · exact h0
      have hsp := World.cell?_spot (hF 0 hpos).1
      obtain ⟨b, o, sp⟩ := a
      simp only [Addr.add, if_true] at hsp
      subst hsp
      refine ⟨b, o, rfl, fun i c hc => ?_⟩
      rw [List.getElem?_map] at hc
      cases hr : (List.range len0)[i]? with
      | none => rw [hr] at hc; simp at hc
      | some j =>
        obtain ⟨hij, hj⟩ := List.getElem?_eq_some_iff.1 hr
        simp at hij hj
        subst hj
        rw [hr] at hc
        simp at hc
        subst hc
        have h0 := (hF i hij).1
        rw [add_eq] at h0
        exact h0
    · intro c hc
      obtain ⟨i, hi', rfl⟩ := List.mem_map.1 hc
      exact (hF i (List.mem_range.1 hi')).2



theorem back_any (bs : List Nat) (hb : ∀ c ∈ bs, c < 256) (hm : bs.length ≤ maxLen) (A : Option Addr) (cap : Nat) (gs : List Nat) (hg : ∀ c ∈ gs, c < 256) (C : Option Addr) (cap2 pick : Nat) (hpk : pick < 256) (w : World) (he : Env w) (hin : BytesArg w A bs) (hin2 : BytesArg w C gs) :
    Calls Tryd.prog 9 #[.slice A bs.length cap, .slice C gs.length cap2, .int .u8 pick] w fun e w' => e = .returned (.bool true) ∧ Below w.heap.size w w' := by
  have hF := tokLs_fine bs hb
  refine back_run (tokLs (bs.take 60)) hF C gs.length cap2 _ pick hpk w he (tokens_any bs hb hm A cap w hin) (fun A1 c1 W hW hA => ?_)
  refine spaced_any _ hF gs hg A1 C c1 cap2 W hA ⟨fun hne => ?_⟩
  obtain ⟨b, o, rfl, hc⟩ := hin2.at_ hne
  exact ⟨b, o, rfl, fun i c hi => ((bcell hW).1 _ _ (lt_of_cell (hc i c hi))).trans (hc i c hi)⟩

theorem back_door (os : Os) (args : Array Value) : laidMetH Tryd.prog Rows.lexBackRow.laid ((World.doorLaid Tryd.prog 400 os).forCall (fun _ _ => 0) ⟨#[], args, []⟩).memory :=
  laidMetH_of_parts3 (fuel := 8) (laidMet_of_run' 8 (by kernel_rfl) (by kernel_rfl)) (by kernel_rfl) (by kernel_rfl)
theorem back_env {W : World} (h : laidMetH Tryd.prog Rows.lexBackRow.laid W) : Env W := kinds_env h

set_option maxRecDepth 100000 in
theorem back_lifted (os : Os) (started : os.Started) (H : Type) (enc : TypeId × Value → H) :
    ReturnsInHanded {} Tryd.checked os 9 .any (fun w args => (Rows.lexBackSpec.pre enc Tryd.prog Tryd.f9 [] false w args ∧ laidMetH Tryd.prog Rows.lexBackRow.laid w) ∧ sizedMet enc Tryd.prog Tryd.f9 (OpenSpec.ofChange Rows.lexBackSpec) false w args)
      (Rows.lexBackSpec.post enc Tryd.prog Tryd.f9 false true false false) := by
  refine returnsInHanded_of_change_and (C := Tryd.checked) (X := fun w _ => laidMetH Tryd.prog Rows.lexBackRow.laid w) (fun _ _ _ hh h => h.of_heap hh) own_knob started (by kernel_rfl) Tryd.func9
    (ChangeSpec.witness_shaped (enc := enc) (C := Tryd.checked) (os := os) (X := fun w _ => laidMetH Tryd.prog Rows.lexBackRow.laid w) false (World.doorLaid Tryd.prog 400 os) #[.slice none 0 0, .slice none 0 0, .int .u8 0] 8 rfl (World.shaped_of_RefB (by kernel_rfl) (by kernel_rfl)) (by kernel_rfl) (by kernel_rfl) (by kernel_rfl) (back_door os _)) ?_
  intro W base args ds gs before hval0 hW _ _ hL _
  have hval : ∀ (j : Nat) t v, Tryd.f9.params[j]? = some t → args[j]? = some v → Value.okWide Tryd.prog W .any base t v := hval0
  have hW' := hW
  obtain ⟨p, q, hA0, hV, rfl, hfz, hnd⟩ := hW
  have hA : DataW.TrodAll enc Tryd.prog W 0 (fun _ => true) true Tryd.f9.params.toList args.toList ds p := hA0
  rw [Tryd.params9] at hA hval
  obtain ⟨v0, v1, v2, d0, d1, d2, p0, p1, p2, rfl, rfl, rfl, h0, h1, h2⟩ := trodAll_three hA
  obtain ⟨rfl, rfl⟩ := trodVars_none hV
  obtain ⟨n, rfl⟩ := okWide_int Tryd.underlying5 (hval 2 5 v2 rfl rfl)
  obtain ⟨f2, hf2⟩ := h2
  obtain ⟨n', e1, e2, wn⟩ := DataW.trod_int Tryd.underlying5 hf2
  simp only [Value.cells] at e1
  injection e1 with e1 _
  injection e1 with _ e1
  subst e1
  injection e2 with e2 e3
  subst e2 e3
  have rn : 0 ≤ n ∧ n < 256 := by have h1 : IntKind.u8.min = 0 := rfl; have h2 : IntKind.u8.max = 255 := rfl; simp [Lit.wf] at wn; omega
  obtain ⟨nn, rfl⟩ : ∃ m : Nat, n = m := ⟨n.toNat, by omega⟩
  obtain ⟨A, cap, bs, hv0, harg, hb, hlen⟩ := open_bytes (hval 0 60 v0 rfl rfl) h0
  obtain ⟨C, cap2, cs, hv1, harg2, hb2, hlen2⟩ := open_bytes (hval 1 60 v1 rfl rfl) h1
  subst hv0 hv1
  clear hA0 hval0 hA hV
  have hW' : DataW.Whole enc Tryd.checked.prog Tryd.f9.params.toList Rows.lexBackSpec.vars false W [.slice A bs.length cap, .slice C cs.length cap2, .int .u8 nn] [d0, d1, .lit (.int .u8 nn)] [] (p0 ++ p1) := by simpa using hW'
  have hlt1 : ∀ x ∈ p0, x.block < W.heap.size := fun x hx => hW'.lt x (List.mem_append_left _ hx)
  have hlt2 : ∀ x ∈ p1, x.block < W.heap.size := fun x hx => hW'.lt x (List.mem_append_right _ hx)
  refine (back_any bs hb hlen A cap cs hb2 C cap2 nn (by omega) W (back_env hL) harg harg2).mono fun e W' ⟨he, hb⟩ => ?_
  subst he
  refine ⟨_, rfl, post_of_below (ds := [d0, d1, .lit (.int .u8 nn)]) (gs := []) (pa := p0 ++ (p1 ++ [])) (pv := []) (by simpa using hW') (fun _ _ _ => trodAll_mk1 (shut_bool Tryd.underlying4 _)) (fun sp hsp => ?_) (fun _ _ => rfl) (by simp) hb (ok_one (by kernel_rfl) rfl (okWide_bool_mk Tryd.underlying4 _))⟩
  have q1 := WideElems.Trod_stays (sp' := sp) (show laidOutB Tryd.prog = true by kernel_rfl) (by kernel_rfl) (of_decide_eq_true (by kernel_rfl)) h0 (fun x hx => hb.same (hlt1 x hx)) (fun x hx => hsp x (by simp [hx]))
  have q2 := WideElems.Trod_stays (sp' := sp) (show laidOutB Tryd.prog = true by kernel_rfl) (by kernel_rfl) (of_decide_eq_true (by kernel_rfl)) h1 (fun x hx => hb.same (hlt2 x hx)) (fun x hx => hsp x (by simp [hx]))
  exact trodAll_mk3 q1 q2 ⟨_, trod_int_mk 0 Tryd.underlying5 wn⟩

theorem lexBack_holds : Rows.LexBackSaid :=
  OpenClaim.holds_of_wide 9 Tryd.f9 rfl rfl rfl rfl rfl rfl rfl ⟨rfl, rfl, rfl, rfl, rfl⟩ rfl rfl rfl rfl rfl (by kernel_rfl) Tryd.func9 (by kernel_rfl)
    (of_decide_eq_true (by kernel_rfl)) (by unfold Func.isWrapper; first | (rw [if_pos (by decide +kernel)]; kernel_rfl) | (rw [if_neg (by decide +kernel)]; exact ⟨rfl, rfl⟩))
    (fun os started H enc _ => back_lifted os started H enc)

theorem lexBack_card : Rows.LexBackCardSaid :=
  Claim7.holds_tied_plain_at .later [] [.data, .data, .data, .sentinel, .sentinel] true (true, "f51a4df611f266c61089f3f16e5fd496e205699899bcbcf703f8f4943d053c1c") true
    lexBack_holds (fun _ h => by cases h) (by kernel_rfl) (fun _ h => by cases h) lexBack_row_tie rfl ⟨rfl, rfl⟩ (by kernel_rfl) rfl
    (fun f fn hf hfn => by
      obtain rfl : f = 9 := Option.some.inj ((show Tryd.prog.funcNamed "floodgate/floodgatelaw01.LexBack" = some 9 by kernel_rfl).symm.trans hf) |>.symm
      obtain rfl : fn = Tryd.f9 := (Option.some.inj (Tryd.func9.symm.trans hfn)).symm
      exact ⟨by kernel_rfl, fun j t ht => by
        rw [Tryd.params9] at ht
        have hm : t ∈ [60, 60, 5] := by simpa using Array.mem_of_getElem? ht
        have hall : ([60, 60, 5].all fun u => !Tryd.prog.wantsStandIn u) = true := by kernel_rfl
        exact (show Tryd.prog.wantsStandIn t = false by simpa using List.all_eq_true.1 hall t hm)⟩)
    (by kernel_rfl)
end Go.Proofs.YtkhgmoljhehbnaaDoor
