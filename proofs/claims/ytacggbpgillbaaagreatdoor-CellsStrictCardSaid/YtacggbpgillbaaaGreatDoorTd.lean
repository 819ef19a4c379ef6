/- Layer 6, the program: cells.all at values, structures, reads, whole numbers. -/
import Derived.Test.YtacggbpgillbaaaGreatDoorTb
namespace Go.Proofs.YtacggbpgillbaaaGreatDoor
open Go.RowKit Go.El

set_option maxHeartbeats 1000000 in
theorem val_not1 (x : Ce.V) (g : Nat) (lb : Array Value) (eg : ∀ args w, (callFunc g args).run Tryz.prog w = .ok (.enter g args) w) (bb : Nat) (q : Bool) (w : World) (hbx : w.cell? ⟨bb, 0, none⟩ = some (.func (.func g) #[] lb))
    (hp : ∀ W, Below w.heap.size w W → Calls Tryz.prog g (#[.agg #[.int .u8 x.k, .int .i64 x.n]] ++ lb) W fun e w' => e = .returned (.bool q) ∧ Below W.heap.size W w') :
    Calls Tryz.prog 122 #[.agg #[.int .u8 x.k, .int .i64 x.n], .pointer (some ⟨bb, 0, none⟩)] w fun e w' => e = .returned (.bool !q) ∧ Below w.heap.size w w' := by
  have HB : Hid (Below w.heap.size w (w.alloc (.cells #[.int .u8 x.k, .int .i64 x.n] 26))) := Lib.hid ((Below.refl _ _).alloc (Nat.le_refl _) _)
  have x0 := (Stay.cell hbx).alloc (.cells #[.int .u8 x.k, .int .i64 x.n] 26) _ (Below.refl _ _)
  have hcall := hp _ HB.out
  clear hp hbx
  cases q with
  | true =>
    go_enter Tryz.func122, Tryz.ntmps122
    go_wp2_with (go_at_fn g; refine hcall.mono ?_; rintro e w' ⟨rfl, hb'⟩)
    go_ret
    exact ⟨rfl, HB.out.trans (hb'.mono HB.out.size)⟩
  | false =>
    go_enter Tryz.func122, Tryz.ntmps122
    go_wp2_with (go_at_fn g; refine hcall.mono ?_; rintro e w' ⟨rfl, hb'⟩)
    go_ret
    exact ⟨rfl, HB.out.trans (hb'.mono HB.out.size)⟩
set_option maxHeartbeats 1000000 in
theorem val_all (l : List Ce.V) (hl : l.length ≤ 1000000) (A : Option Addr) (cap : Nat) (p : Ce.V → Bool) (g : Nat) (lb : Array Value) (eg : ∀ args w, (callFunc g args).run Tryz.prog w = .ok (.enter g args) w) (w : World) (h : ValE.Arg w A l)
    (hp : ∀ x ∈ l, ∀ W, Below w.heap.size w W → Calls Tryz.prog g (#[.agg #[.int .u8 x.k, .int .i64 x.n]] ++ lb) W fun e w' => e = .returned (.bool (p x)) ∧ Below W.heap.size W w') :
    Calls Tryz.prog 71 #[.slice A l.length cap, .func (.func g) #[] lb] w fun e w' => e = .returned (.bool (l.all p)) ∧ Below w.heap.size w w' := by
  have HB : Hid (Below w.heap.size w (w.alloc (.cells #[.func (.func g) #[] lb] 116))) := Lib.hid ((Below.refl _ _).alloc (Nat.le_refl _) _)
  have sb := box1 (W := w) (v := .func (.func g) #[] lb) (t := 116)
  have hc := val_contains l hl A cap (fun x => !p x) 122 #[.pointer (some ⟨w.heap.size, 0, none⟩)] (enters_of Tryz.func122 (by kernel_rfl) rfl) (w.alloc (.cells #[.func (.func g) #[] lb] 116)) (h.below HB.out)
    (fun x hx W hb => val_not1 x g lb eg w.heap.size (p x) W (sb W hb) (fun W2 hb2 => hp x hx W2 ((HB.out.trans (hb.mono HB.out.size)).trans (hb2.mono (HB.out.trans (hb.mono HB.out.size)).size))))
  rw [← Ce.not_any_not]
  generalize l.any (fun x => !p x) = q at *
  have HC := Lib.hid hc
  clear hc h hp eg sb
  cases q with
  | true =>
    go_enter Tryz.func71, Tryz.ntmps71
    go_wp2_with fail
    refine HC.out.mono ?_
    rintro e w1 ⟨rfl, hb1⟩
    go_wp2
    go_ret
    exact ⟨rfl, HB.out.trans (hb1.mono HB.out.size)⟩
  | false =>
    go_enter Tryz.func71, Tryz.ntmps71
    go_wp2_with fail
    refine HC.out.mono ?_
    rintro e w1 ⟨rfl, hb1⟩
    go_wp2
    go_ret
    exact ⟨rfl, HB.out.trans (hb1.mono HB.out.size)⟩

set_option maxHeartbeats 1000000 in
theorem st_not1 (x : ((Sl × Sl) × Ce.St)) (g : Nat) (lb : Array Value) (eg : ∀ args w, (callFunc g args).run Tryz.prog w = .ok (.enter g args) w) (bb : Nat) (q : Bool) (w : World) (hbx : w.cell? ⟨bb, 0, none⟩ = some (.func (.func g) #[] lb))
    (hp : ∀ W, Below w.heap.size w W → Calls Tryz.prog g (#[.agg #[.slice x.1.1.A x.1.1.n x.1.1.c, .slice x.1.2.A x.1.2.n x.1.2.c]] ++ lb) W fun e w' => e = .returned (.bool q) ∧ Below W.heap.size W w') :
    Calls Tryz.prog 155 #[.agg #[.slice x.1.1.A x.1.1.n x.1.1.c, .slice x.1.2.A x.1.2.n x.1.2.c], .pointer (some ⟨bb, 0, none⟩)] w fun e w' => e = .returned (.bool !q) ∧ Below w.heap.size w w' := by
  have HB : Hid (Below w.heap.size w (w.alloc (.cells #[.slice x.1.1.A x.1.1.n x.1.1.c, .slice x.1.2.A x.1.2.n x.1.2.c] 83))) := Lib.hid ((Below.refl _ _).alloc (Nat.le_refl _) _)
  have x0 := (Stay.cell hbx).alloc (.cells #[.slice x.1.1.A x.1.1.n x.1.1.c, .slice x.1.2.A x.1.2.n x.1.2.c] 83) _ (Below.refl _ _)
  have hcall := hp _ HB.out
  clear hp hbx
  cases q with
  | true =>
    go_enter Tryz.func155, Tryz.ntmps155
    go_wp2_with (go_at_fn g; refine hcall.mono ?_; rintro e w' ⟨rfl, hb'⟩)
    go_ret
    exact ⟨rfl, HB.out.trans (hb'.mono HB.out.size)⟩
  | false =>
    go_enter Tryz.func155, Tryz.ntmps155
    go_wp2_with (go_at_fn g; refine hcall.mono ?_; rintro e w' ⟨rfl, hb'⟩)
    go_ret
    exact ⟨rfl, HB.out.trans (hb'.mono HB.out.size)⟩
set_option maxHeartbeats 1000000 in
theorem st_all (l : List ((Sl × Sl) × Ce.St)) (hl : l.length ≤ 1000000) (A : Option Addr) (cap : Nat) (p : ((Sl × Sl) × Ce.St) → Bool) (g : Nat) (lb : Array Value) (eg : ∀ args w, (callFunc g args).run Tryz.prog w = .ok (.enter g args) w) (w : World) (h : StE2.Arg w A l)
    (hp : ∀ x ∈ l, ∀ W, Below w.heap.size w W → Calls Tryz.prog g (#[.agg #[.slice x.1.1.A x.1.1.n x.1.1.c, .slice x.1.2.A x.1.2.n x.1.2.c]] ++ lb) W fun e w' => e = .returned (.bool (p x)) ∧ Below W.heap.size W w') :
    Calls Tryz.prog 127 #[.slice A l.length cap, .func (.func g) #[] lb] w fun e w' => e = .returned (.bool (l.all p)) ∧ Below w.heap.size w w' := by
  have HB : Hid (Below w.heap.size w (w.alloc (.cells #[.func (.func g) #[] lb] 165))) := Lib.hid ((Below.refl _ _).alloc (Nat.le_refl _) _)
  have sb := box1 (W := w) (v := .func (.func g) #[] lb) (t := 165)
  have hc := st_contains l hl A cap (fun x => !p x) 155 #[.pointer (some ⟨w.heap.size, 0, none⟩)] (enters_of Tryz.func155 (by kernel_rfl) rfl) (w.alloc (.cells #[.func (.func g) #[] lb] 165)) (h.below HB.out)
    (fun x hx W hb => st_not1 x g lb eg w.heap.size (p x) W (sb W hb) (fun W2 hb2 => hp x hx W2 ((HB.out.trans (hb.mono HB.out.size)).trans (hb2.mono (HB.out.trans (hb.mono HB.out.size)).size))))
  rw [← Ce.not_any_not]
  generalize l.any (fun x => !p x) = q at *
  have HC := Lib.hid hc
  clear hc h hp eg sb
  cases q with
  | true =>
    go_enter Tryz.func127, Tryz.ntmps127
    go_wp2_with fail
    refine HC.out.mono ?_
    rintro e w1 ⟨rfl, hb1⟩
    go_wp2
    go_ret
    exact ⟨rfl, HB.out.trans (hb1.mono HB.out.size)⟩
  | false =>
    go_enter Tryz.func127, Tryz.ntmps127
    go_wp2_with fail
    refine HC.out.mono ?_
    rintro e w1 ⟨rfl, hb1⟩
    go_wp2
    go_ret
    exact ⟨rfl, HB.out.trans (hb1.mono HB.out.size)⟩

set_option maxHeartbeats 1000000 in
theorem rd_not1 (x : Ce.Rd) (g : Nat) (lb : Array Value) (eg : ∀ args w, (callFunc g args).run Tryz.prog w = .ok (.enter g args) w) (bb : Nat) (q : Bool) (w : World) (hbx : w.cell? ⟨bb, 0, none⟩ = some (.func (.func g) #[] lb))
    (hp : ∀ W, Below w.heap.size w W → Calls Tryz.prog g (#[.agg #[.int .i64 x.cell, .int .i64 x.who]] ++ lb) W fun e w' => e = .returned (.bool q) ∧ Below W.heap.size W w') :
    Calls Tryz.prog 174 #[.agg #[.int .i64 x.cell, .int .i64 x.who], .pointer (some ⟨bb, 0, none⟩)] w fun e w' => e = .returned (.bool !q) ∧ Below w.heap.size w w' := by
  have HB : Hid (Below w.heap.size w (w.alloc (.cells #[.int .i64 x.cell, .int .i64 x.who] 122))) := Lib.hid ((Below.refl _ _).alloc (Nat.le_refl _) _)
  have x0 := (Stay.cell hbx).alloc (.cells #[.int .i64 x.cell, .int .i64 x.who] 122) _ (Below.refl _ _)
  have hcall := hp _ HB.out
  clear hp hbx
  cases q with
  | true =>
    go_enter Tryz.func174, Tryz.ntmps174
    go_wp2_with (go_at_fn g; refine hcall.mono ?_; rintro e w' ⟨rfl, hb'⟩)
    go_ret
    exact ⟨rfl, HB.out.trans (hb'.mono HB.out.size)⟩
  | false =>
    go_enter Tryz.func174, Tryz.ntmps174
    go_wp2_with (go_at_fn g; refine hcall.mono ?_; rintro e w' ⟨rfl, hb'⟩)
    go_ret
    exact ⟨rfl, HB.out.trans (hb'.mono HB.out.size)⟩
set_option maxHeartbeats 1000000 in
theorem rd_all (l : List Ce.Rd) (hl : l.length ≤ 1000000) (A : Option Addr) (cap : Nat) (p : Ce.Rd → Bool) (g : Nat) (lb : Array Value) (eg : ∀ args w, (callFunc g args).run Tryz.prog w = .ok (.enter g args) w) (w : World) (h : RdE.Arg w A l)
    (hp : ∀ x ∈ l, ∀ W, Below w.heap.size w W → Calls Tryz.prog g (#[.agg #[.int .i64 x.cell, .int .i64 x.who]] ++ lb) W fun e w' => e = .returned (.bool (p x)) ∧ Below W.heap.size W w') :
    Calls Tryz.prog 157 #[.slice A l.length cap, .func (.func g) #[] lb] w fun e w' => e = .returned (.bool (l.all p)) ∧ Below w.heap.size w w' := by
  have HB : Hid (Below w.heap.size w (w.alloc (.cells #[.func (.func g) #[] lb] 192))) := Lib.hid ((Below.refl _ _).alloc (Nat.le_refl _) _)
  have sb := box1 (W := w) (v := .func (.func g) #[] lb) (t := 192)
  have hc := rd_contains l hl A cap (fun x => !p x) 174 #[.pointer (some ⟨w.heap.size, 0, none⟩)] (enters_of Tryz.func174 (by kernel_rfl) rfl) (w.alloc (.cells #[.func (.func g) #[] lb] 192)) (h.below HB.out)
    (fun x hx W hb => rd_not1 x g lb eg w.heap.size (p x) W (sb W hb) (fun W2 hb2 => hp x hx W2 ((HB.out.trans (hb.mono HB.out.size)).trans (hb2.mono (HB.out.trans (hb.mono HB.out.size)).size))))
  rw [← Ce.not_any_not]
  generalize l.any (fun x => !p x) = q at *
  have HC := Lib.hid hc
  clear hc h hp eg sb
  cases q with
  | true =>
    go_enter Tryz.func157, Tryz.ntmps157
    go_wp2_with fail
    refine HC.out.mono ?_
    rintro e w1 ⟨rfl, hb1⟩
    go_wp2
    go_ret
    exact ⟨rfl, HB.out.trans (hb1.mono HB.out.size)⟩
  | false =>
    go_enter Tryz.func157, Tryz.ntmps157
    go_wp2_with fail
    refine HC.out.mono ?_
    rintro e w1 ⟨rfl, hb1⟩
    go_wp2
    go_ret
    exact ⟨rfl, HB.out.trans (hb1.mono HB.out.size)⟩

set_option maxHeartbeats 1000000 in
theorem num_not1 (x : Int) (g : Nat) (lb : Array Value) (eg : ∀ args w, (callFunc g args).run Tryz.prog w = .ok (.enter g args) w) (bb : Nat) (q : Bool) (w : World) (hbx : w.cell? ⟨bb, 0, none⟩ = some (.func (.func g) #[] lb))
    (hp : ∀ W, Below w.heap.size w W → Calls Tryz.prog g (#[.int .i64 x] ++ lb) W fun e w' => e = .returned (.bool q) ∧ Below W.heap.size W w') :
    Calls Tryz.prog 145 #[.int .i64 x, .pointer (some ⟨bb, 0, none⟩)] w fun e w' => e = .returned (.bool !q) ∧ Below w.heap.size w w' := by
  have HB : Hid (Below w.heap.size w w) := Lib.hid (Below.refl _ _)
  have x0 := hbx
  have hcall := hp _ HB.out
  clear hp hbx
  cases q with
  | true =>
    go_enter Tryz.func145, Tryz.ntmps145
    go_wp2_with (go_at_fn g; refine hcall.mono ?_; rintro e w' ⟨rfl, hb'⟩)
    go_ret
    exact ⟨rfl, HB.out.trans (hb'.mono HB.out.size)⟩
  | false =>
    go_enter Tryz.func145, Tryz.ntmps145
    go_wp2_with (go_at_fn g; refine hcall.mono ?_; rintro e w' ⟨rfl, hb'⟩)
    go_ret
    exact ⟨rfl, HB.out.trans (hb'.mono HB.out.size)⟩
set_option maxHeartbeats 1000000 in
theorem num_all (l : List Int) (hl : l.length ≤ 1000000) (A : Option Addr) (cap : Nat) (p : Int → Bool) (g : Nat) (lb : Array Value) (eg : ∀ args w, (callFunc g args).run Tryz.prog w = .ok (.enter g args) w) (w : World) (h : IntE.Arg w A l)
    (hp : ∀ x ∈ l, ∀ W, Below w.heap.size w W → Calls Tryz.prog g (#[.int .i64 x] ++ lb) W fun e w' => e = .returned (.bool (p x)) ∧ Below W.heap.size W w') :
    Calls Tryz.prog 95 #[.slice A l.length cap, .func (.func g) #[] lb] w fun e w' => e = .returned (.bool (l.all p)) ∧ Below w.heap.size w w' := by
  have HB : Hid (Below w.heap.size w (w.alloc (.cells #[.func (.func g) #[] lb] 142))) := Lib.hid ((Below.refl _ _).alloc (Nat.le_refl _) _)
  have sb := box1 (W := w) (v := .func (.func g) #[] lb) (t := 142)
  have hc := num_contains l hl A cap (fun x => !p x) 145 #[.pointer (some ⟨w.heap.size, 0, none⟩)] (enters_of Tryz.func145 (by kernel_rfl) rfl) (w.alloc (.cells #[.func (.func g) #[] lb] 142)) (h.below HB.out)
    (fun x hx W hb => num_not1 x g lb eg w.heap.size (p x) W (sb W hb) (fun W2 hb2 => hp x hx W2 ((HB.out.trans (hb.mono HB.out.size)).trans (hb2.mono (HB.out.trans (hb.mono HB.out.size)).size))))
  rw [← Ce.not_any_not]
  generalize l.any (fun x => !p x) = q at *
  have HC := Lib.hid hc
  clear hc h hp eg sb
  cases q with
  | true =>
    go_enter Tryz.func95, Tryz.ntmps95
    go_wp2_with fail
    refine HC.out.mono ?_
    rintro e w1 ⟨rfl, hb1⟩
    go_wp2
    go_ret
    exact ⟨rfl, HB.out.trans (hb1.mono HB.out.size)⟩
  | false =>
    go_enter Tryz.func95, Tryz.ntmps95
    go_wp2_with fail
    refine HC.out.mono ?_
    rintro e w1 ⟨rfl, hb1⟩
    go_wp2
    go_ret
    exact ⟨rfl, HB.out.trans (hb1.mono HB.out.size)⟩

end Go.Proofs.YtacggbpgillbaaaGreatDoor
