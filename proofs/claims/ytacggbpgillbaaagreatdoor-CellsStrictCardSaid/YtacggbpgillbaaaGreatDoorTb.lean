/- Layer 6, the program: slices.IndexFunc, slices.ContainsFunc at values, structures, reads, whole numbers. -/
import Derived.Test.YtacggbpgillbaaaGreatDoorSe
import Derived.Test.YtacggbpgillbaaaGreatDoorMa
import Derived.Shelf.RegionOpen
namespace Ce
/-- the number of the first element that a test takes -/
def idxK {α : Type} (p : α → Bool) : List α → Nat → Option Nat
  | [], _ => none
  | x :: r, i => if p x then some i else idxK p r (i + 1)
theorem idxK_at {α : Type} {p : α → Bool} {l : List α} {k : Nat} {x : α} (h : l[k]? = some x) : idxK p (l.drop k) k = if p x then some k else idxK p (l.drop (k + 1)) (k + 1) := by
  obtain ⟨hk, e⟩ := List.getElem?_eq_some_iff.1 h
  rw [List.drop_eq_getElem_cons hk, idxK, e]
theorem idxK_any {α : Type} (p : α → Bool) : ∀ (l : List α) (i : Nat), (idxK p l i).isSome = l.any p
  | [], _ => rfl
  | x :: r, i => by
    rw [idxK, List.any_cons]
    cases h : p x with
    | true => simp
    | false => simpa using idxK_any p r (i + 1)
theorem idxK_find {α : Type} (p : α → Bool) : ∀ (l : List α) (i : Nat), match idxK p l i with
    | none => l.find? p = none
    | some n => i ≤ n ∧ n < i + l.length ∧ ∃ x, l[n - i]? = some x ∧ l.find? p = some x
  | [], _ => rfl
  | x :: r, i => by
    rw [idxK, List.find?_cons]
    cases h : p x with
    | true => exact ⟨Nat.le_refl _, by simp, x, by simp, rfl⟩
    | false =>
      have ih := idxK_find p r (i + 1)
      simp only [Bool.false_eq_true, if_false]
      cases hr : idxK p r (i + 1) with
      | none => rw [hr] at ih; exact ih
      | some n =>
        rw [hr] at ih
        obtain ⟨h1, h2, y, h3, h4⟩ := ih
        refine ⟨by omega, by simp only [List.length_cons]; omega, y, ?_, h4⟩
        rw [show n - i = (n - (i + 1)) + 1 by omega, List.getElem?_cons_succ]
        exact h3
theorem not_any_not {α : Type} (p : α → Bool) (l : List α) : (!l.any fun x => !p x) = l.all p := by
  rw [List.not_any_eq_all_not]
  simp
end Ce
namespace Go.Proofs.YtacggbpgillbaaaGreatDoor
open Go.RowKit Go.El

def optV : Option Nat → Int
  | none => -1
  | some n => n
/-- structures, their handles beside what they are -/
def StE2 : El ((Sl × Sl) × Ce.St) := { cells := fun h => [h.1.1.val, h.1.2.val], k := 2, pos := by decide, len := fun _ => rfl, one := fun x u hu => by simp at hu; rcases hu with rfl | rfl <;> rfl }
theorem IntE.at1 {w : World} {b o : Nat} {l : List Int} (h : IntE.In w b o l) {k : Nat} {p : Int} (hp : l[k]? = some p) : w.cell? ⟨b, o + k * 1, none⟩ = some (.int .i64 p) := h k p hp 0 _ rfl
theorem StE2.at2 {w : World} {b o : Nat} {l : List ((Sl × Sl) × Ce.St)} (h : StE2.In w b o l) {k : Nat} {p : (Sl × Sl) × Ce.St} (hp : l[k]? = some p) :
    w.cell? ⟨b, o + k * 2, none⟩ = some (.slice p.1.1.A p.1.1.n p.1.1.c) ∧ w.cell? ⟨b, o + k * 2 + 1, none⟩ = some (.slice p.1.2.A p.1.2.n p.1.2.c) := ⟨h k p hp 0 _ rfl, h k p hp 1 _ rfl⟩
theorem StE.zip {W : World} {A : Option Addr} {hs : List (Sl × Sl)} {m : Ce.Mem} (h : StE.Arg W A hs) (hl : hs.length = m.length) : StE2.Arg W A (hs.zip m) := by
  refine ⟨fun hne => ?_⟩
  obtain ⟨b, o, hA, hin⟩ := h.at_ (by rintro rfl; simp at hne)
  refine ⟨b, o, hA, fun i x hx j u hu => ?_⟩
  have hx' : hs[i]? = some x.1 := by
    rw [List.getElem?_zip_eq_some] at hx
    exact hx.1
  exact hin i x.1 hx' j u hu

set_option maxRecDepth 100000 in
set_option maxHeartbeats 1000000 in
theorem val_index (l : List Ce.V) (hl : l.length ≤ 1000000) (A : Option Addr) (cap : Nat) (p : Ce.V → Bool) (g : Nat) (lb : Array Value) (eg : ∀ args w, (callFunc g args).run Tryz.prog w = .ok (.enter g args) w) (w : World) (h : ValE.Arg w A l)
    (hp : ∀ x ∈ l, ∀ W, Below w.heap.size w W → Calls Tryz.prog g (#[.agg #[.int .u8 x.k, .int .i64 x.n]] ++ lb) W fun e w' => e = .returned (.bool (p x)) ∧ Below W.heap.size W w') :
    Calls Tryz.prog 151 #[.slice A l.length cap, .func (.func g) #[] lb] w fun e w' => e = .returned (.int .i64 (optV (Ce.idxK p l 0))) ∧ Below w.heap.size w w' := by
  have H := Lib.hid h
  have HP := Lib.hid hp
  clear h hp
  have HAT := Lib.hid (fun k x (hx : l[k]? = some x) => Ce.idxK_at (p := p) hx)
  have h00 : Ce.idxK p (l.drop 0) 0 = Ce.idxK p l 0 := rfl
  have HEND : Hid (∀ k, l.length ≤ k → Ce.idxK p (l.drop k) k = none) := Lib.hid fun k hk => by rw [List.drop_eq_nil_of_le hk]; rfl
  generalize Ce.idxK p l 0 = R at *
  have H00 := Lib.hid h00
  clear h00
  go_enter Tryz.func151, Tryz.ntmps151
  go_wp2_with fail
  go_loopw [5, 8] (fun _ i wr => ∃ k : Nat, k ≤ l.length ∧ i = .int .i64 k ∧ Hid (Ce.idxK p (l.drop k) k = R) ∧ Below w.heap.size w wr) (fun _ i _ => l.length - (intOf i).toNat)
  case atStart => exact ⟨0, Nat.zero_le _, rfl, H00, Below.refl _ _⟩
  case round =>
    obtain ⟨k, hk, rfl, HK, hbw⟩ := hrel
    have hzw := hbw.size
    by_cases hlt : k < l.length
    · have hlt' : (k : Int) < l.length := by omega
      obtain ⟨b, o, rfl, hin, hbl⟩ := H.out.at_lt hlt
      obtain ⟨x, hx⟩ : ∃ x, l[k]? = some x := ⟨_, List.getElem?_eq_getElem hlt⟩
      have hcell := ValE.at2 (hin.below hbw (fun _ => hbl)) hx
      clear hin
      have hcall := HP.out x (List.mem_of_getElem? hx) wr hbw
      have HS := Lib.hid (HAT.out k x hx)
      clear hx
      generalize hq : p x = q at hcall
      have HQ := Lib.hid hq
      clear hq
      obtain ⟨x0, x1⟩ := hcell
      cases q with
      | true =>
        go_wp2_with (go_at_fn g; refine hcall.mono ?_; rintro e w' ⟨rfl, hb'⟩)
        go_ret
        refine ⟨?_, hbw.trans (hb'.mono hzw)⟩
        rw [← HK.out, HS.out, HQ.out]
        rfl
      | false =>
        go_wp2_with (go_at_fn g; refine hcall.mono ?_; rintro e w' ⟨rfl, hb'⟩)
        go_roundw
        case rel => exact ⟨k + 1, by omega, by go_num, Lib.hid (by rw [← HK.out, HS.out, HQ.out]; rfl), hbw.trans (hb'.mono hzw)⟩
        case measure => simp [intOf]; omega
    · have hlt' : ¬ (k : Int) < l.length := by omega
      have hT : R = none := by rw [← HK.out, HEND.out k (by omega)]
      subst hT
      go_wp2
      go_ret
      exact ⟨rfl, hbw⟩

theorem val_contains (l : List Ce.V) (hl : l.length ≤ 1000000) (A : Option Addr) (cap : Nat) (p : Ce.V → Bool) (g : Nat) (lb : Array Value) (eg : ∀ args w, (callFunc g args).run Tryz.prog w = .ok (.enter g args) w) (w : World) (h : ValE.Arg w A l)
    (hp : ∀ x ∈ l, ∀ W, Below w.heap.size w W → Calls Tryz.prog g (#[.agg #[.int .u8 x.k, .int .i64 x.n]] ++ lb) W fun e w' => e = .returned (.bool (p x)) ∧ Below W.heap.size W w') :
    Calls Tryz.prog 121 #[.slice A l.length cap, .func (.func g) #[] lb] w fun e w' => e = .returned (.bool (l.any p)) ∧ Below w.heap.size w w' := by
  have hc := val_index l hl A cap p g lb eg w h hp
  rw [← Ce.idxK_any p l 0]
  cases hR : Ce.idxK p l 0 with
  | none =>
    rw [hR] at hc
    clear hp eg h hR
    have HC : Hid _ := Lib.hid hc
    clear hc
    go_enter Tryz.func121, Tryz.ntmps121
    go_wp2_with fail
    refine HC.out.mono ?_
    rintro e w1 ⟨rfl, hb1⟩
    unfold optV
    go_wp2
    go_ret
    exact ⟨rfl, hb1⟩
  | some n =>
    rw [hR] at hc
    clear hp eg h hR
    have HC : Hid _ := Lib.hid hc
    clear hc
    have hn : 0 ≤ (n : Int) := by omega
    go_enter Tryz.func121, Tryz.ntmps121
    go_wp2_with fail
    refine HC.out.mono ?_
    rintro e w1 ⟨rfl, hb1⟩
    unfold optV
    go_wp2
    go_ret
    exact ⟨rfl, hb1⟩

set_option maxRecDepth 100000 in
set_option maxHeartbeats 1000000 in
theorem st_index (l : List ((Sl × Sl) × Ce.St)) (hl : l.length ≤ 1000000) (A : Option Addr) (cap : Nat) (p : ((Sl × Sl) × Ce.St) → Bool) (g : Nat) (lb : Array Value) (eg : ∀ args w, (callFunc g args).run Tryz.prog w = .ok (.enter g args) w) (w : World) (h : StE2.Arg w A l)
    (hp : ∀ x ∈ l, ∀ W, Below w.heap.size w W → Calls Tryz.prog g (#[.agg #[.slice x.1.1.A x.1.1.n x.1.1.c, .slice x.1.2.A x.1.2.n x.1.2.c]] ++ lb) W fun e w' => e = .returned (.bool (p x)) ∧ Below W.heap.size W w') :
    Calls Tryz.prog 172 #[.slice A l.length cap, .func (.func g) #[] lb] w fun e w' => e = .returned (.int .i64 (optV (Ce.idxK p l 0))) ∧ Below w.heap.size w w' := by
  have H := Lib.hid h
  have HP := Lib.hid hp
  clear h hp
  have HAT := Lib.hid (fun k x (hx : l[k]? = some x) => Ce.idxK_at (p := p) hx)
  have h00 : Ce.idxK p (l.drop 0) 0 = Ce.idxK p l 0 := rfl
  have HEND : Hid (∀ k, l.length ≤ k → Ce.idxK p (l.drop k) k = none) := Lib.hid fun k hk => by rw [List.drop_eq_nil_of_le hk]; rfl
  generalize Ce.idxK p l 0 = R at *
  have H00 := Lib.hid h00
  clear h00
  go_enter Tryz.func172, Tryz.ntmps172
  go_wp2_with fail
  go_loopw [5, 8] (fun _ i wr => ∃ k : Nat, k ≤ l.length ∧ i = .int .i64 k ∧ Hid (Ce.idxK p (l.drop k) k = R) ∧ Below w.heap.size w wr) (fun _ i _ => l.length - (intOf i).toNat)
  case atStart => exact ⟨0, Nat.zero_le _, rfl, H00, Below.refl _ _⟩
  case round =>
    obtain ⟨k, hk, rfl, HK, hbw⟩ := hrel
    have hzw := hbw.size
    by_cases hlt : k < l.length
    · have hlt' : (k : Int) < l.length := by omega
      obtain ⟨b, o, rfl, hin, hbl⟩ := H.out.at_lt hlt
      obtain ⟨x, hx⟩ : ∃ x, l[k]? = some x := ⟨_, List.getElem?_eq_getElem hlt⟩
      have hcell := StE2.at2 (hin.below hbw (fun _ => hbl)) hx
      clear hin
      have hcall := HP.out x (List.mem_of_getElem? hx) wr hbw
      have HS := Lib.hid (HAT.out k x hx)
      clear hx
      generalize hq : p x = q at hcall
      have HQ := Lib.hid hq
      clear hq
      obtain ⟨x0, x1⟩ := hcell
      cases q with
      | true =>
        go_wp2_with (go_at_fn g; refine hcall.mono ?_; rintro e w' ⟨rfl, hb'⟩)
        go_ret
        refine ⟨?_, hbw.trans (hb'.mono hzw)⟩
        rw [← HK.out, HS.out, HQ.out]
        rfl
      | false =>
        go_wp2_with (go_at_fn g; refine hcall.mono ?_; rintro e w' ⟨rfl, hb'⟩)
        go_roundw
        case rel => exact ⟨k + 1, by omega, by go_num, Lib.hid (by rw [← HK.out, HS.out, HQ.out]; rfl), hbw.trans (hb'.mono hzw)⟩
        case measure => simp [intOf]; omega
    · have hlt' : ¬ (k : Int) < l.length := by omega
      have hT : R = none := by rw [← HK.out, HEND.out k (by omega)]
      subst hT
      go_wp2
      go_ret
      exact ⟨rfl, hbw⟩

theorem st_contains (l : List ((Sl × Sl) × Ce.St)) (hl : l.length ≤ 1000000) (A : Option Addr) (cap : Nat) (p : ((Sl × Sl) × Ce.St) → Bool) (g : Nat) (lb : Array Value) (eg : ∀ args w, (callFunc g args).run Tryz.prog w = .ok (.enter g args) w) (w : World) (h : StE2.Arg w A l)
    (hp : ∀ x ∈ l, ∀ W, Below w.heap.size w W → Calls Tryz.prog g (#[.agg #[.slice x.1.1.A x.1.1.n x.1.1.c, .slice x.1.2.A x.1.2.n x.1.2.c]] ++ lb) W fun e w' => e = .returned (.bool (p x)) ∧ Below W.heap.size W w') :
    Calls Tryz.prog 154 #[.slice A l.length cap, .func (.func g) #[] lb] w fun e w' => e = .returned (.bool (l.any p)) ∧ Below w.heap.size w w' := by
  have hc := st_index l hl A cap p g lb eg w h hp
  rw [← Ce.idxK_any p l 0]
  cases hR : Ce.idxK p l 0 with
  | none =>
    rw [hR] at hc
    clear hp eg h hR
    have HC : Hid _ := Lib.hid hc
    clear hc
    go_enter Tryz.func154, Tryz.ntmps154
    go_wp2_with fail
    refine HC.out.mono ?_
    rintro e w1 ⟨rfl, hb1⟩
    unfold optV
    go_wp2
    go_ret
    exact ⟨rfl, hb1⟩
  | some n =>
    rw [hR] at hc
    clear hp eg h hR
    have HC : Hid _ := Lib.hid hc
    clear hc
    have hn : 0 ≤ (n : Int) := by omega
    go_enter Tryz.func154, Tryz.ntmps154
    go_wp2_with fail
    refine HC.out.mono ?_
    rintro e w1 ⟨rfl, hb1⟩
    unfold optV
    go_wp2
    go_ret
    exact ⟨rfl, hb1⟩

set_option maxRecDepth 100000 in
set_option maxHeartbeats 1000000 in
theorem rd_index (l : List Ce.Rd) (hl : l.length ≤ 1000000) (A : Option Addr) (cap : Nat) (p : Ce.Rd → Bool) (g : Nat) (lb : Array Value) (eg : ∀ args w, (callFunc g args).run Tryz.prog w = .ok (.enter g args) w) (w : World) (h : RdE.Arg w A l)
    (hp : ∀ x ∈ l, ∀ W, Below w.heap.size w W → Calls Tryz.prog g (#[.agg #[.int .i64 x.cell, .int .i64 x.who]] ++ lb) W fun e w' => e = .returned (.bool (p x)) ∧ Below W.heap.size W w') :
    Calls Tryz.prog 181 #[.slice A l.length cap, .func (.func g) #[] lb] w fun e w' => e = .returned (.int .i64 (optV (Ce.idxK p l 0))) ∧ Below w.heap.size w w' := by
  have H := Lib.hid h
  have HP := Lib.hid hp
  clear h hp
  have HAT := Lib.hid (fun k x (hx : l[k]? = some x) => Ce.idxK_at (p := p) hx)
  have h00 : Ce.idxK p (l.drop 0) 0 = Ce.idxK p l 0 := rfl
  have HEND : Hid (∀ k, l.length ≤ k → Ce.idxK p (l.drop k) k = none) := Lib.hid fun k hk => by rw [List.drop_eq_nil_of_le hk]; rfl
  generalize Ce.idxK p l 0 = R at *
  have H00 := Lib.hid h00
  clear h00
  go_enter Tryz.func181, Tryz.ntmps181
  go_wp2_with fail
  go_loopw [5, 8] (fun _ i wr => ∃ k : Nat, k ≤ l.length ∧ i = .int .i64 k ∧ Hid (Ce.idxK p (l.drop k) k = R) ∧ Below w.heap.size w wr) (fun _ i _ => l.length - (intOf i).toNat)
  case atStart => exact ⟨0, Nat.zero_le _, rfl, H00, Below.refl _ _⟩
  case round =>
    obtain ⟨k, hk, rfl, HK, hbw⟩ := hrel
    have hzw := hbw.size
    by_cases hlt : k < l.length
    · have hlt' : (k : Int) < l.length := by omega
      obtain ⟨b, o, rfl, hin, hbl⟩ := H.out.at_lt hlt
      obtain ⟨x, hx⟩ : ∃ x, l[k]? = some x := ⟨_, List.getElem?_eq_getElem hlt⟩
      have hcell := RdE.at2 (hin.below hbw (fun _ => hbl)) hx
      clear hin
      have hcall := HP.out x (List.mem_of_getElem? hx) wr hbw
      have HS := Lib.hid (HAT.out k x hx)
      clear hx
      generalize hq : p x = q at hcall
      have HQ := Lib.hid hq
      clear hq
      obtain ⟨x0, x1⟩ := hcell
      cases q with
      | true =>
        go_wp2_with (go_at_fn g; refine hcall.mono ?_; rintro e w' ⟨rfl, hb'⟩)
        go_ret
        refine ⟨?_, hbw.trans (hb'.mono hzw)⟩
        rw [← HK.out, HS.out, HQ.out]
        rfl
      | false =>
        go_wp2_with (go_at_fn g; refine hcall.mono ?_; rintro e w' ⟨rfl, hb'⟩)
        go_roundw
        case rel => exact ⟨k + 1, by omega, by go_num, Lib.hid (by rw [← HK.out, HS.out, HQ.out]; rfl), hbw.trans (hb'.mono hzw)⟩
        case measure => simp [intOf]; omega
    · have hlt' : ¬ (k : Int) < l.length := by omega
      have hT : R = none := by rw [← HK.out, HEND.out k (by omega)]
      subst hT
      go_wp2
      go_ret
      exact ⟨rfl, hbw⟩

theorem rd_contains (l : List Ce.Rd) (hl : l.length ≤ 1000000) (A : Option Addr) (cap : Nat) (p : Ce.Rd → Bool) (g : Nat) (lb : Array Value) (eg : ∀ args w, (callFunc g args).run Tryz.prog w = .ok (.enter g args) w) (w : World) (h : RdE.Arg w A l)
    (hp : ∀ x ∈ l, ∀ W, Below w.heap.size w W → Calls Tryz.prog g (#[.agg #[.int .i64 x.cell, .int .i64 x.who]] ++ lb) W fun e w' => e = .returned (.bool (p x)) ∧ Below W.heap.size W w') :
    Calls Tryz.prog 173 #[.slice A l.length cap, .func (.func g) #[] lb] w fun e w' => e = .returned (.bool (l.any p)) ∧ Below w.heap.size w w' := by
  have hc := rd_index l hl A cap p g lb eg w h hp
  rw [← Ce.idxK_any p l 0]
  cases hR : Ce.idxK p l 0 with
  | none =>
    rw [hR] at hc
    clear hp eg h hR
    have HC : Hid _ := Lib.hid hc
    clear hc
    go_enter Tryz.func173, Tryz.ntmps173
    go_wp2_with fail
    refine HC.out.mono ?_
    rintro e w1 ⟨rfl, hb1⟩
    unfold optV
    go_wp2
    go_ret
    exact ⟨rfl, hb1⟩
  | some n =>
    rw [hR] at hc
    clear hp eg h hR
    have HC : Hid _ := Lib.hid hc
    clear hc
    have hn : 0 ≤ (n : Int) := by omega
    go_enter Tryz.func173, Tryz.ntmps173
    go_wp2_with fail
    refine HC.out.mono ?_
    rintro e w1 ⟨rfl, hb1⟩
    unfold optV
    go_wp2
    go_ret
    exact ⟨rfl, hb1⟩

set_option maxRecDepth 100000 in
set_option maxHeartbeats 1000000 in
theorem num_index (l : List Int) (hl : l.length ≤ 1000000) (A : Option Addr) (cap : Nat) (p : Int → Bool) (g : Nat) (lb : Array Value) (eg : ∀ args w, (callFunc g args).run Tryz.prog w = .ok (.enter g args) w) (w : World) (h : IntE.Arg w A l)
    (hp : ∀ x ∈ l, ∀ W, Below w.heap.size w W → Calls Tryz.prog g (#[.int .i64 x] ++ lb) W fun e w' => e = .returned (.bool (p x)) ∧ Below W.heap.size W w') :
    Calls Tryz.prog 165 #[.slice A l.length cap, .func (.func g) #[] lb] w fun e w' => e = .returned (.int .i64 (optV (Ce.idxK p l 0))) ∧ Below w.heap.size w w' := by
  have H := Lib.hid h
  have HP := Lib.hid hp
  clear h hp
  have HAT := Lib.hid (fun k x (hx : l[k]? = some x) => Ce.idxK_at (p := p) hx)
  have h00 : Ce.idxK p (l.drop 0) 0 = Ce.idxK p l 0 := rfl
  have HEND : Hid (∀ k, l.length ≤ k → Ce.idxK p (l.drop k) k = none) := Lib.hid fun k hk => by rw [List.drop_eq_nil_of_le hk]; rfl
  generalize Ce.idxK p l 0 = R at *
  have H00 := Lib.hid h00
  clear h00
  go_enter Tryz.func165, Tryz.ntmps165
  go_wp2_with fail
  go_loopw [5, 8] (fun _ i wr => ∃ k : Nat, k ≤ l.length ∧ i = .int .i64 k ∧ Hid (Ce.idxK p (l.drop k) k = R) ∧ Below w.heap.size w wr) (fun _ i _ => l.length - (intOf i).toNat)
  case atStart => exact ⟨0, Nat.zero_le _, rfl, H00, Below.refl _ _⟩
  case round =>
    obtain ⟨k, hk, rfl, HK, hbw⟩ := hrel
    have hzw := hbw.size
    by_cases hlt : k < l.length
    · have hlt' : (k : Int) < l.length := by omega
      obtain ⟨b, o, rfl, hin, hbl⟩ := H.out.at_lt hlt
      obtain ⟨x, hx⟩ : ∃ x, l[k]? = some x := ⟨_, List.getElem?_eq_getElem hlt⟩
      have hcell := IntE.at1 (hin.below hbw (fun _ => hbl)) hx
      clear hin
      have hcall := HP.out x (List.mem_of_getElem? hx) wr hbw
      have HS := Lib.hid (HAT.out k x hx)
      clear hx
      generalize hq : p x = q at hcall
      have HQ := Lib.hid hq
      clear hq
      simp only [Nat.mul_one] at hcell
      cases q with
      | true =>
        go_wp2_with (go_at_fn g; refine hcall.mono ?_; rintro e w' ⟨rfl, hb'⟩)
        go_ret
        refine ⟨?_, hbw.trans (hb'.mono hzw)⟩
        rw [← HK.out, HS.out, HQ.out]
        rfl
      | false =>
        go_wp2_with (go_at_fn g; refine hcall.mono ?_; rintro e w' ⟨rfl, hb'⟩)
        go_roundw
        case rel => exact ⟨k + 1, by omega, by go_num, Lib.hid (by rw [← HK.out, HS.out, HQ.out]; rfl), hbw.trans (hb'.mono hzw)⟩
        case measure => simp [intOf]; omega
    · have hlt' : ¬ (k : Int) < l.length := by omega
      have hT : R = none := by rw [← HK.out, HEND.out k (by omega)]
      subst hT
      go_wp2
      go_ret
      exact ⟨rfl, hbw⟩

theorem num_contains (l : List Int) (hl : l.length ≤ 1000000) (A : Option Addr) (cap : Nat) (p : Int → Bool) (g : Nat) (lb : Array Value) (eg : ∀ args w, (callFunc g args).run Tryz.prog w = .ok (.enter g args) w) (w : World) (h : IntE.Arg w A l)
    (hp : ∀ x ∈ l, ∀ W, Below w.heap.size w W → Calls Tryz.prog g (#[.int .i64 x] ++ lb) W fun e w' => e = .returned (.bool (p x)) ∧ Below W.heap.size W w') :
    Calls Tryz.prog 144 #[.slice A l.length cap, .func (.func g) #[] lb] w fun e w' => e = .returned (.bool (l.any p)) ∧ Below w.heap.size w w' := by
  have hc := num_index l hl A cap p g lb eg w h hp
  rw [← Ce.idxK_any p l 0]
  cases hR : Ce.idxK p l 0 with
  | none =>
    rw [hR] at hc
    clear hp eg h hR
    have HC : Hid _ := Lib.hid hc
    clear hc
    go_enter Tryz.func144, Tryz.ntmps144
    go_wp2_with fail
    refine HC.out.mono ?_
    rintro e w1 ⟨rfl, hb1⟩
    unfold optV
    go_wp2
    go_ret
    exact ⟨rfl, hb1⟩
  | some n =>
    rw [hR] at hc
    clear hp eg h hR
    have HC : Hid _ := Lib.hid hc
    clear hc
    have hn : 0 ≤ (n : Int) := by omega
    go_enter Tryz.func144, Tryz.ntmps144
    go_wp2_with fail
    refine HC.out.mono ?_
    rintro e w1 ⟨rfl, hb1⟩
    unfold optV
    go_wp2
    go_ret
    exact ⟨rfl, hb1⟩

end Go.Proofs.YtacggbpgillbaaaGreatDoor
