/- Layer 5, the program: slices.IndexFunc, slices.ContainsFunc at parts; valid, checkSized. -/
import Derived.Test.YthagelnimmfhbaaA1
import Derived.LoopTactic
import Derived.Shelf.RegionOpen
namespace Rg
/-- the number of the first part that a test takes -/
def idxK (p : Pt → Bool) : List Pt → Nat → Option Nat
  | [], _ => none
  | x :: r, i => if p x then some i else idxK p r (i + 1)
theorem idxK_at {p : Pt → Bool} {l : List Pt} {k : Nat} {x : Pt} (h : l[k]? = some x) : idxK p (l.drop k) k = if p x then some k else idxK p (l.drop (k + 1)) (k + 1) := by
  obtain ⟨hk, e⟩ := List.getElem?_eq_some_iff.1 h
  rw [List.drop_eq_getElem_cons hk, idxK, e]
theorem idxK_who (s c : Int) : ∀ (l : List Pt) (i : Nat), idxK (fun p => p.has s c) l i = whoK s c l i
  | [], _ => rfl
  | p :: r, i => by rw [idxK, whoK, idxK_who s c r]
theorem idxK_any (p : Pt → Bool) : ∀ (l : List Pt) (i : Nat), (idxK p l i).isSome = l.any p
  | [], _ => rfl
  | x :: r, i => by
    rw [idxK, List.any_cons]
    cases h : p x with
    | true => simp
    | false => simpa using idxK_any p r (i + 1)
end Rg
namespace Go.Proofs.Ythagelnimmfhbaa
open Go.RowKit Go.El

def optV : Option Nat → Int
  | none => -1
  | some n => n
set_option maxRecDepth 100000 in
set_option maxHeartbeats 1000000 in
theorem indexFunc_any (l : List Rg.Pt) (hl : l.length ≤ 1000000) (A : Option Addr) (cap : Nat) (p : Rg.Pt → Bool) (g : Nat) (lb : Array Value) (eg : ∀ args w, (callFunc g args).run Try.prog w = .ok (.enter g args) w) (w : World) (h : PtE.Arg w A l)
    (hp : ∀ x ∈ l, ∀ W, Below w.heap.size w W → Calls Try.prog g (#[.agg (ptC x).toArray] ++ lb) W fun e w' => e = .returned (.bool (p x)) ∧ Below w.heap.size w w') :
    Calls Try.prog 64 #[.slice A l.length cap, .func (.func g) #[] lb] w fun e w' => e = .returned (.int .i64 (optV (Rg.idxK p l 0))) ∧ Below w.heap.size w w' := by
  have H := Lib.hid h
  have HP := Lib.hid hp
  clear h hp
  have HAT := Lib.hid (fun k x (hx : l[k]? = some x) => Rg.idxK_at (p := p) hx)
  have h00 : Rg.idxK p (l.drop 0) 0 = Rg.idxK p l 0 := rfl
  have HEND : Hid (∀ k, l.length ≤ k → Rg.idxK p (l.drop k) k = none) := Lib.hid fun k hk => by rw [List.drop_eq_nil_of_le hk]; rfl
  generalize Rg.idxK p l 0 = R at *
  have H00 := Lib.hid h00
  clear h00
  go_enter Try.func64, Try.ntmps64
  go_wp2_with fail
  go_loopw [5, 8] (fun _ i wr => ∃ k : Nat, k ≤ l.length ∧ i = .int .i64 k ∧ Hid (Rg.idxK p (l.drop k) k = R) ∧ Below w.heap.size w wr) (fun _ i _ => l.length - (intOf i).toNat)
  case atStart => exact ⟨0, Nat.zero_le _, rfl, H00, Below.refl _ _⟩
  case round =>
    obtain ⟨k, hk, rfl, HK, hbw⟩ := hrel
    have hzw := hbw.size
    by_cases hlt : k < l.length
    · have hlt' : (k : Int) < l.length := by omega
      obtain ⟨b, o, rfl, hin, hbl⟩ := H.out.at_lt hlt
      obtain ⟨x, hx⟩ : ∃ x, l[k]? = some x := ⟨_, List.getElem?_eq_getElem hlt⟩
      obtain ⟨x0, x1, x2, x3, x4⟩ := PtE.at5 (hin.below hbw (fun _ => hbl)) hx
      clear hin
      have hcall := HP.out x (List.mem_of_getElem? hx) wr hbw
      unfold ptC at hcall
      have HS := Lib.hid (HAT.out k x hx)
      clear hx
      generalize hq : p x = q at hcall
      have HQ := Lib.hid hq
      clear hq
      cases q with
      | true =>
        go_wp2_with (go_at_fn g; refine hcall.mono ?_; rintro e w' ⟨rfl, hb'⟩)
        go_ret
        refine ⟨?_, hb'⟩
        rw [← HK.out, HS.out, HQ.out]
        rfl
      | false =>
        go_wp2_with (go_at_fn g; refine hcall.mono ?_; rintro e w' ⟨rfl, hb'⟩)
        go_roundw
        case rel => exact ⟨k + 1, by omega, by go_num, Lib.hid (by rw [← HK.out, HS.out, HQ.out]; rfl), hb'⟩
        case measure => simp [intOf]; omega
    · have hlt' : ¬ (k : Int) < l.length := by omega
      have hT : R = none := by rw [← HK.out, HEND.out k (by omega)]
      subst hT
      go_wp2
      go_ret
      exact ⟨rfl, hbw⟩

theorem containsFunc_any (l : List Rg.Pt) (hl : l.length ≤ 1000000) (A : Option Addr) (cap : Nat) (p : Rg.Pt → Bool) (g : Nat) (lb : Array Value) (eg : ∀ args w, (callFunc g args).run Try.prog w = .ok (.enter g args) w) (w : World) (h : PtE.Arg w A l)
    (hp : ∀ x ∈ l, ∀ W, Below w.heap.size w W → Calls Try.prog g (#[.agg (ptC x).toArray] ++ lb) W fun e w' => e = .returned (.bool (p x)) ∧ Below w.heap.size w w') :
    Calls Try.prog 63 #[.slice A l.length cap, .func (.func g) #[] lb] w fun e w' => e = .returned (.bool (l.any p)) ∧ Below w.heap.size w w' := by
  have hc := indexFunc_any l hl A cap p g lb eg w h hp
  rw [← Rg.idxK_any p l 0]
  cases hR : Rg.idxK p l 0 with
  | none =>
    rw [hR] at hc
    clear hp eg h hR
    have HC : Hid _ := Lib.hid hc
    clear hc
    go_enter Try.func63, Try.ntmps63
    go_wp2_with fail
    refine HC.out.mono ?_
    rintro e w1 ⟨rfl, hb1⟩
    unfold optV
    go_wp2
    go_ret
    exact ⟨rfl, hb1⟩
  | some n =>
    rw [hR] at hc
    clear hp eg h hR
    have HC : Hid _ := Lib.hid hc
    clear hc
    have hn : 0 ≤ (n : Int) := by omega
    go_enter Try.func63, Try.ntmps63
    go_wp2_with fail
    refine HC.out.mono ?_
    rintro e w1 ⟨rfl, hb1⟩
    unfold optV
    go_wp2
    go_ret
    exact ⟨rfl, hb1⟩

theorem all_any (l : List Rg.Pt) : (!l.any fun p => !p.ok) = l.all Rg.Pt.ok := by
  rw [List.not_any_eq_all_not]
  simp

set_option maxHeartbeats 1000000 in
theorem svalid_any (l : List Rg.Pt) (hl : l.length ≤ maxLen) (A : Option Addr) (cap : Nat) (w : World) (h : PtE.Arg w A l) :
    Calls Try.prog 46 #[.slice A l.length cap] w fun e w' => e = .returned (.bool (Rg.valid l)) ∧ Below w.heap.size w w' := by
  have hm : (l.length : Int) ≤ 9223372036854775807 := by unfold maxLen at hl; omega
  by_cases h12 : l.length ≤ 12
  · have hv : Rg.valid l = !(l.any fun p => !p.ok) := by unfold Rg.valid; rw [decide_eq_true h12, all_any]; rfl
    have hc := containsFunc_any l (by omega) A cap (fun p => !p.ok) 62 #[] (enters_of Try.func62 (by kernel_rfl) rfl) w h (fun x _ W hb => (valid1_any x W).mono fun e w' ⟨he, hb'⟩ => ⟨he, hb.trans (hb'.mono hb.size)⟩)
    rw [hv]
    generalize (l.any fun p => !p.ok) = q at hc
    have HC := Lib.hid hc
    clear hc h hv
    have h12' : (l.length : Int) ≤ 12 := by omega
    cases q with
    | true =>
      go_enter Try.func46, Try.ntmps46
      go_wp2_with fail
      refine HC.out.mono ?_
      rintro e w1 ⟨rfl, hb1⟩
      go_wp2
      go_ret
      exact ⟨rfl, hb1⟩
    | false =>
      go_enter Try.func46, Try.ntmps46
      go_wp2_with fail
      refine HC.out.mono ?_
      rintro e w1 ⟨rfl, hb1⟩
      go_wp2
      go_ret
      exact ⟨rfl, hb1⟩
  · have h12' : ¬ (l.length : Int) ≤ 12 := by omega
    have hv : Rg.valid l = false := by unfold Rg.valid; rw [decide_eq_false h12]; rfl
    rw [hv]
    clear hv h
    go_enter Try.func46, Try.ntmps46
    go_wp2
    go_ret
    exact ⟨rfl, Below.refl _ _⟩

def chk (l : List Rg.Pt) (s : Int) : Nat := if Rg.valid l then (if Rg.inS s then 0 else 3) else 2
theorem checkSized_any (l : List Rg.Pt) (hl : l.length ≤ maxLen) (A : Option Addr) (cap : Nat) (s : Int) (w : World) (h : PtE.Arg w A l) :
    Calls Try.prog 34 #[.int .i64 s, .slice A l.length cap] w fun e w' => e = .returned (.int .i64 (chk l s : Nat)) ∧ Below w.heap.size w w' := by
  have hc := svalid_any l hl A cap w h
  have hs : ∀ W, Calls Try.prog 53 #[.int .i64 s] W fun e w' => e = .returned (.bool (Rg.inS s)) ∧ W = w' := fun W => isSize_any s W
  unfold chk
  generalize Rg.valid l = q at *
  generalize Rg.inS s = r at *
  have HC := Lib.hid hc
  have HS := Lib.hid hs
  clear hc hs h
  cases q with
  | false =>
    go_enter Try.func34, Try.ntmps34
    go_wp2_with fail
    refine HC.out.mono ?_
    rintro e w1 ⟨rfl, hb1⟩
    go_wp2
    go_ret
    exact ⟨rfl, hb1⟩
  | true =>
    cases r with
    | false =>
      go_enter Try.func34, Try.ntmps34
      go_wp2_with fail
      refine HC.out.mono ?_
      rintro e w1 ⟨rfl, hb1⟩
      go_wp2_with fail
      refine (HS.out _).mono ?_
      rintro e w1 ⟨rfl, rfl⟩
      go_wp2
      go_ret
      exact ⟨rfl, hb1⟩
    | true =>
      go_enter Try.func34, Try.ntmps34
      go_wp2_with fail
      refine HC.out.mono ?_
      rintro e w1 ⟨rfl, hb1⟩
      go_wp2_with fail
      refine (HS.out _).mono ?_
      rintro e w1 ⟨rfl, rfl⟩
      go_wp2
      go_ret
      exact ⟨rfl, hb1⟩

end Go.Proofs.Ythagelnimmfhbaa
