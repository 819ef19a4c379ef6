/- The walks of the reference's Same and Apart. -/
import Derived.Test.YtkhgmoljhehbnaaDoorL3
namespace Go.Proofs.YtkhgmoljhehbnaaDoor
open Go.RowKit

set_option maxRecDepth 100000 in
set_option maxHeartbeats 2000000 in
theorem refSame_any (ka kb : Nat) (ta tb : ByteArray) (aa ab : Int) (w : World) :
    Calls Tryd.prog 58 #[.agg #[.int .u8 ka, .string ta, .int .i64 aa], .agg #[.int .u8 kb, .string tb, .int .i64 ab]] w fun e w' => e = .returned (.bool (sameB ka ta kb tb)) ∧ Below w.heap.size w w' := by
  have hB : ∀ a b : Obj, Below w.heap.size w ((w.alloc a).alloc b) := fun a b => ((Below.refl _ _).alloc (Nat.le_refl _) _).alloc (by simp) _
  by_cases h : ka = kb
  · subst h
    have hq : sameB ka ta ka tb = (ta.toList == tb.toList) := by unfold sameB; rw [Lib.toList_data, Lib.toList_data]; simp
    rw [hq]
    go_enter Tryd.func58, Tryd.ntmps58
    go_wp2
    go_ret
    exact ⟨rfl, hB _ _⟩
  · have hb : ((ka : Int) == kb) = false := by rw [beq_eq_false_iff_ne]; omega
    have hq : sameB ka ta kb tb = false := by unfold sameB; rw [show (ka == kb) = false by simpa using h]; rfl
    rw [hq]
    go_enter Tryd.func58, Tryd.ntmps58
    go_wp2
    go_ret
    exact ⟨rfl, hB _ _⟩

def apartR (R : Lx.Res) (ka : Nat) (ta : ByteArray) (kb : Nat) (tb : ByteArray) : Bool := match R with
  | .ok [x, y] _ => !(sameB x.kind ⟨x.text.toArray⟩ ka ta) || !(sameB y.kind ⟨y.text.toArray⟩ kb tb)
  | _ => true

set_option maxRecDepth 100000 in
set_option maxHeartbeats 16000000 in
theorem refApart_any (ka kb : Nat) (ta tb : ByteArray) (aa ab : Int) (hs : ta.size + tb.size ≤ 281474976710656) (w : World) :
    Calls Tryd.prog 31 #[.agg #[.int .u8 ka, .string ta, .int .i64 aa], .agg #[.int .u8 kb, .string tb, .int .i64 ab]] w fun e w' => e = .returned (.bool (apartR (Lx.read (ta.data.toList ++ tb.data.toList)) ka ta kb tb)) ∧ Below w.heap.size w w' := by
  have hrd := fun W => refRead_any (ta ++ tb) (by simp; omega) W
  rw [append_data] at hrd
  have hre := read_e (ta.data.toList ++ tb.data.toList)
  generalize Lx.read (ta.data.toList ++ tb.data.toList) = R at hrd hre ⊢
  generalize hK : apartR R ka ta kb tb = K
  have HRD := Lib.hid hrd
  clear hrd
  have hB : ∀ a b : Obj, Below w.heap.size w ((w.alloc a).alloc b) := fun a b => ((Below.refl _ _).alloc (Nat.le_refl _) _).alloc (by simp) _
  have HB := Lib.hid hB
  clear hB
  cases R with
  | bad k er =>
    have her := hre k er rfl
    have herb : ((er : Int) == 0) = false := by rw [beq_eq_false_iff_ne]; omega
    have herb2 : ((er : Int) != 0) = true := by rw [bne, herb]; rfl
    have hK0 : K = true := hK.symm
    subst hK0
    clear hre hK
    go_enter Tryd.func31, Tryd.ntmps31
    go_wp2_with fail
    refine (HRD.out _).mono ?_
    rintro e w1 ⟨⟨A, cap, heq, _⟩, hb⟩
    simp only [Lx.Res.ts, Lx.Res.at_, Lx.Res.e] at heq
    subst heq
    go_wp2_with fail
    go_region
    go_wp2
    go_ret
    exact ⟨rfl, ((HB.out _ _).trans (hb.mono (by simp; omega))).drew⟩
  | ok ts gs =>
    clear hre
    by_cases h1 : ts.length = 2
    · obtain ⟨x, y, rfl⟩ : ∃ x y, ts = [x, y] := match ts, h1 with | [x, y], _ => ⟨x, y, rfl⟩
      have hK' : K = (!(sameB x.kind ⟨x.text.toArray⟩ ka ta) || !(sameB y.kind ⟨y.text.toArray⟩ kb tb)) := hK.symm
      clear hK h1
      go_enter Tryd.func31, Tryd.ntmps31
      go_wp2_with fail
      refine (HRD.out _).mono ?_
      rintro e w1 ⟨⟨A, cap, heq, hown⟩, hb⟩
      simp only [Lx.Res.ts, Lx.Res.at_, Lx.Res.e, List.length_cons, List.length_nil] at heq hown
      subst heq
      obtain ⟨g, rfl, _, hin⟩ := toksIn_of_own hown (by simp)
      obtain ⟨a0, a1, a2⟩ := hin 0 _ rfl
      obtain ⟨b0, b1, b2⟩ := hin 1 _ rfl
      simp only [LT.of, Nat.zero_mul, Nat.add_zero, Nat.zero_add, Nat.one_mul, Nat.reduceAdd] at a0 a1 a2 b0 b1 b2
      have hg := hin.lt (by simp)
      clear hown hin
      generalize (⟨x.text.toArray⟩ : ByteArray) = xb at a1 hK'
      generalize (⟨y.text.toArray⟩ : ByteArray) = yb at b1 hK'
      simp only [World.size_alloc] at hb
      have c0 := ((bcell hb).1 w.heap.size 0 (by omega)).trans (by simp : _ = some (Value.int .u8 ka))
      have c1 := ((bcell hb).1 w.heap.size 1 (by omega)).trans (by simp : _ = some (Value.string ta))
      have c2 := ((bcell hb).1 w.heap.size 2 (by omega)).trans (by simp : _ = some (Value.int .i64 aa))
      have d0 := ((bcell hb).1 (w.heap.size + 1) 0 (by omega)).trans (by simp : _ = some (Value.int .u8 kb))
      have d1 := ((bcell hb).1 (w.heap.size + 1) 1 (by omega)).trans (by simp : _ = some (Value.string tb))
      have d2 := ((bcell hb).1 (w.heap.size + 1) 2 (by omega)).trans (by simp : _ = some (Value.int .i64 ab))
      have hz := hb.size
      simp only [World.size_alloc] at hz
      have hb01 : Below w.heap.size w w1 := (HB.out _ _).trans (hb.mono (by omega))
      have hs1 := fun W => refSame_any x.kind ka xb ta x.at_ aa W
      have hs2 := fun W => refSame_any y.kind kb yb tb y.at_ ab W
      generalize sameB x.kind xb ka ta = p at hs1 hK'
      generalize sameB y.kind yb kb tb = p2 at hs2 hK'
      subst hK'
      have HS1 := Lib.hid hs1
      have HS2 := Lib.hid hs2
      have hzd : w1.drew.heap.size = w1.heap.size := rfl
      clear hs1 hs2 hb
      cases p with
      | false =>
        go_wp2_with fail
        refine wp_region_held_drew (S := fun W => W.cell? ⟨g, 0, none⟩ = some (.int .u8 x.kind) ∧ W.cell? ⟨g, 1, none⟩ = some (.string xb) ∧ W.cell? ⟨g, 2, none⟩ = some (.int .i64 x.at_) ∧ W.cell? ⟨w.heap.size, 0, none⟩ = some (.int .u8 ka) ∧ W.cell? ⟨w.heap.size, 1, none⟩ = some (.string ta) ∧ W.cell? ⟨w.heap.size, 2, none⟩ = some (.int .i64 aa)) (by kernel_rfl) ⟨a0, a1, a2, c0, c1, c2⟩ (fun hHeld => ?_)
        refine wpAnyH_take (i := 0) (oi := { dst := some 18, op := Op.move (Operand.tmp 7), type := 23, pos := "ref.go:202", after := #[], guard := none }) (v := ?_) rfl (by kernel_rfl) (by kernel_rfl) (by kernel_rfl) (fun _ _ _ h => h) (Or.inl ⟨by rfl, ?_⟩) hHeld ?_
        rotate_left
        · (intro W hW; (try dsimp only at hW); go_simp) <;> with_reducible rfl
        try simp only [Act.put, List.setIfInBounds_toArray, List.set_cons_zero, List.set_cons_succ]
        refine wpAnyH_take (i := 1) (oi := { dst := some 19, op := Op.binOp BinOp.neq 23 (Operand.tmp 18) (Operand.const (Value.int IntKind.i64 0)) 23, type := 4, pos := "ref.go:202", after := #[{ on := 0, ground := Ground.data }], guard := none }) (v := ?_) rfl (by kernel_rfl) (by kernel_rfl) (by kernel_rfl) (fun _ _ _ h => h) (Or.inl ⟨by rfl, ?_⟩) hHeld ?_
        rotate_left
        · (intro W hW; (try dsimp only at hW); go_simp) <;> with_reducible rfl
        try simp only [Act.put, List.setIfInBounds_toArray, List.set_cons_zero, List.set_cons_succ]
        refine wpAnyH_take (i := 2) (oi := { dst := some 20, op := Op.move (Operand.tmp 19), type := 4, pos := "ref.go:202", after := #[{ on := 1, ground := Ground.data }], guard := none }) (v := ?_) rfl (by kernel_rfl) (by kernel_rfl) (by kernel_rfl) (fun _ _ _ h => h) (Or.inl ⟨by rfl, ?_⟩) hHeld ?_
        rotate_left
        · (intro W hW; (try dsimp only at hW); go_simp) <;> with_reducible rfl
        try simp only [Act.put, List.setIfInBounds_toArray, List.set_cons_zero, List.set_cons_succ]
        refine wpAnyH_take (i := 3) (oi := { dst := some 21, op := Op.move (Operand.tmp 5), type := 31, pos := "ref.go:202", after := #[{ on := 2, ground := Ground.guard }], guard := some (2, false) }) (v := ?_) rfl (by kernel_rfl) (by kernel_rfl) (by kernel_rfl) (fun _ _ _ h => h) (Or.inl ⟨by rfl, ?_⟩) hHeld ?_
        rotate_left
        · (intro W hW; (try dsimp only at hW); go_simp) <;> with_reducible rfl
        try simp only [Act.put, List.setIfInBounds_toArray, List.set_cons_zero, List.set_cons_succ]
        refine wpAnyH_take (i := 4) (oi := { dst := some 22, op := Op.call { callee := Callee.builtin Builtin.len, args := #[Operand.tmp 21], argTypes := #[31] }, type := 3, pos := "ref.go:202", after := #[{ on := 3, ground := Ground.data }, { on := 2, ground := Ground.guard }], guard := some (2, false) }) (v := ?_) rfl (by kernel_rfl) (by kernel_rfl) (by kernel_rfl) (fun _ _ _ h => h) (Or.inl ⟨by rfl, ?_⟩) hHeld ?_
        rotate_left
        · (intro W hW; (try dsimp only at hW); go_simp) <;> with_reducible rfl
        try simp only [Act.put, List.setIfInBounds_toArray, List.set_cons_zero, List.set_cons_succ]
        refine wpAnyH_take (i := 5) (oi := { dst := some 23, op := Op.binOp BinOp.neq 3 (Operand.tmp 22) (Operand.const (Value.int IntKind.i64 2)) 3, type := 4, pos := "ref.go:202", after := #[{ on := 4, ground := Ground.data }, { on := 2, ground := Ground.guard }], guard := some (2, false) }) (v := ?_) rfl (by kernel_rfl) (by kernel_rfl) (by kernel_rfl) (fun _ _ _ h => h) (Or.inl ⟨by rfl, ?_⟩) hHeld ?_
        rotate_left
        · (intro W hW; (try dsimp only at hW); go_simp) <;> with_reducible rfl
        try simp only [Act.put, List.setIfInBounds_toArray, List.set_cons_zero, List.set_cons_succ]
        refine wpAnyH_take (i := 6) (oi := { dst := some 24, op := Op.pick (Operand.tmp 20) (Operand.const (Value.bool true)) (Operand.tmp 23), type := 4, pos := "ref.go:202", after := #[{ on := 2, ground := Ground.data }, { on := 5, ground := Ground.data }], guard := none }) (v := ?_) rfl (by kernel_rfl) (by kernel_rfl) (by kernel_rfl) (fun _ _ _ h => h) (Or.inl ⟨by rfl, ?_⟩) hHeld ?_
        rotate_left
        · (intro W hW; (try dsimp only at hW); go_simp) <;> with_reducible rfl
        try simp only [Act.put, List.setIfInBounds_toArray, List.set_cons_zero, List.set_cons_succ]
        refine wpAnyH_take (i := 7) (oi := { dst := some 25, op := Op.move (Operand.tmp 24), type := 4, pos := "ref.go:202", after := #[{ on := 6, ground := Ground.data }, { on := 2, ground := Ground.chain }], guard := none }) (v := ?_) rfl (by kernel_rfl) (by kernel_rfl) (by kernel_rfl) (fun _ _ _ h => h) (Or.inl ⟨by rfl, ?_⟩) hHeld ?_
        rotate_left
        · (intro W hW; (try dsimp only at hW); go_simp) <;> with_reducible rfl
        try simp only [Act.put, List.setIfInBounds_toArray, List.set_cons_zero, List.set_cons_succ]
        refine wpAnyH_take (i := 8) (oi := { dst := some 26, op := Op.move (Operand.tmp 5), type := 31, pos := "ref.go:202", after := #[{ on := 7, ground := Ground.guard }], guard := some (7, false) }) (v := ?_) rfl (by kernel_rfl) (by kernel_rfl) (by kernel_rfl) (fun _ _ _ h => h) (Or.inl ⟨by rfl, ?_⟩) hHeld ?_
        rotate_left
        · (intro W hW; (try dsimp only at hW); go_simp) <;> with_reducible rfl
        try simp only [Act.put, List.setIfInBounds_toArray, List.set_cons_zero, List.set_cons_succ]
        refine wpAnyH_take (i := 9) (oi := { dst := some 27, op := Op.indexAddr 31 (Operand.tmp 26) (Operand.const (Value.int IntKind.i64 0)), type := 0, pos := "ref.go:202", after := #[{ on := 8, ground := Ground.data }, { on := 7, ground := Ground.guard }], guard := some (7, false) }) (v := ?_) rfl (by kernel_rfl) (by kernel_rfl) (by kernel_rfl) (fun _ _ _ h => h) (Or.inl ⟨by rfl, ?_⟩) hHeld ?_
        rotate_left
        · (intro W hW; (try dsimp only at hW); go_simp) <;> with_reducible rfl
        try simp only [Act.put, List.setIfInBounds_toArray, List.set_cons_zero, List.set_cons_succ]
        refine wpAnyH_take (i := 10) (oi := { dst := some 28, op := Op.load 47 (Operand.tmp 27), type := 47, pos := "ref.go:202", after := #[{ on := 9, ground := Ground.data }, { on := 7, ground := Ground.guard }], guard := some (7, false) }) (v := ?_) rfl (by kernel_rfl) (by kernel_rfl) (by kernel_rfl) (fun _ _ _ h => h) (Or.inl ⟨by rfl, ?_⟩) hHeld ?_
        rotate_left
        · (intro W hW; (try dsimp only at hW); go_simp) <;> with_reducible rfl
        try simp only [Act.put, List.setIfInBounds_toArray, List.set_cons_zero, List.set_cons_succ]
        refine wpAnyH_take (i := 11) (oi := { dst := some 29, op := Op.load 47 (Operand.tmp 2), type := 47, pos := "ref.go:202", after := #[{ on := 7, ground := Ground.guard }], guard := some (7, false) }) (v := ?_) rfl (by kernel_rfl) (by kernel_rfl) (by kernel_rfl) (fun _ _ _ h => h) (Or.inl ⟨by rfl, ?_⟩) hHeld ?_
        rotate_left
        · (intro W hW; (try dsimp only at hW); go_simp) <;> with_reducible rfl
        try simp only [Act.put, List.setIfInBounds_toArray, List.set_cons_zero, List.set_cons_succ]
        refine wpAnyH_ready (rs := [12]) (by kernel_rfl) (by simp) ?_
        refine AllReadyH.cons (o := { dst := some 30, op := Op.call { callee := Callee.value (Operand.func 58), args := #[Operand.tmp 28, Operand.tmp 29], argTypes := #[47, 47] }, type := 4, pos := "ref.go:202", after := #[{ on := 10, ground := Ground.data }, { on := 11, ground := Ground.data }, { on := 7, ground := Ground.chain }, { on := 7, ground := Ground.guard }], guard := some (7, false) }) rfl (fun K hK => ?_) ?_
        rotate_left
        · exact AllReadyH.nil
        go_simp
        refine (HS1.out w1.drew).mono ?_
        rintro e w2 ⟨rfl, hb2⟩
        refine hK.out _ _ ⟨((bcell hb2).1 _ _ hg).trans a0, ((bcell hb2).1 _ _ hg).trans a1, ((bcell hb2).1 _ _ hg).trans a2, ((bcell hb2).1 _ _ (by omega)).trans c0, ((bcell hb2).1 _ _ (by omega)).trans c1, ((bcell hb2).1 _ _ (by omega)).trans c2⟩ (fun hHeld2 => ?_)
        clear hK K
        try simp only [Act.put, List.setIfInBounds_toArray, List.set_cons_zero, List.set_cons_succ]
        refine wpAnyH_take (i := 13) (oi := { dst := some 31, op := Op.unOp UnOp.not 4 (Operand.tmp 30), type := 4, pos := "ref.go:202", after := #[{ on := 12, ground := Ground.data }, { on := 7, ground := Ground.guard }], guard := some (7, false) }) (v := ?_) rfl (by kernel_rfl) (by kernel_rfl) (by kernel_rfl) (fun _ _ _ h => h) (Or.inl ⟨by rfl, ?_⟩) hHeld2 ?_
        rotate_left
        · (intro W hW; (try dsimp only at hW); go_simp) <;> with_reducible rfl
        try simp only [Act.put, List.setIfInBounds_toArray, List.set_cons_zero, List.set_cons_succ]
        refine wpAnyH_take (i := 14) (oi := { dst := some 32, op := Op.pick (Operand.tmp 25) (Operand.const (Value.bool true)) (Operand.tmp 31), type := 4, pos := "ref.go:202", after := #[{ on := 7, ground := Ground.data }, { on := 13, ground := Ground.data }], guard := none }) (v := ?_) rfl (by kernel_rfl) (by kernel_rfl) (by kernel_rfl) (fun _ _ _ h => h) (Or.inl ⟨by rfl, ?_⟩) hHeld2 ?_
        rotate_left
        · (intro W hW; (try dsimp only at hW); go_simp) <;> with_reducible rfl
        try simp only [Act.put, List.setIfInBounds_toArray, List.set_cons_zero, List.set_cons_succ]
        refine wpAnyH_take (i := 15) (oi := { dst := some 33, op := Op.move (Operand.tmp 32), type := 4, pos := "ref.go:202", after := #[{ on := 14, ground := Ground.data }, { on := 12, ground := Ground.chain }], guard := none }) (v := ?_) rfl (by kernel_rfl) (by kernel_rfl) (by kernel_rfl) (fun _ _ _ h => h) (Or.inl ⟨by rfl, ?_⟩) hHeld2 ?_
        rotate_left
        · (intro W hW; (try dsimp only at hW); go_simp) <;> with_reducible rfl
        try simp only [Act.put, List.setIfInBounds_toArray, List.set_cons_zero, List.set_cons_succ]
        refine wpAnyH_take (i := 16) (oi := { dst := some 34, op := Op.move (Operand.tmp 5), type := 31, pos := "ref.go:202", after := #[{ on := 15, ground := Ground.guard }], guard := some (15, false) }) (v := undef) rfl (by kernel_rfl) (by kernel_rfl) (by kernel_rfl) (fun _ _ _ h => h) (Or.inr ⟨by rfl, rfl⟩) hHeld2 ?_
        try simp only [Act.put, List.setIfInBounds_toArray, List.set_cons_zero, List.set_cons_succ]
        refine wpAnyH_take (i := 17) (oi := { dst := some 35, op := Op.indexAddr 31 (Operand.tmp 34) (Operand.const (Value.int IntKind.i64 1)), type := 0, pos := "ref.go:202", after := #[{ on := 16, ground := Ground.data }, { on := 15, ground := Ground.guard }], guard := some (15, false) }) (v := undef) rfl (by kernel_rfl) (by kernel_rfl) (by kernel_rfl) (fun _ _ _ h => h) (Or.inr ⟨by rfl, rfl⟩) hHeld2 ?_
        try simp only [Act.put, List.setIfInBounds_toArray, List.set_cons_zero, List.set_cons_succ]
        refine wpAnyH_take (i := 18) (oi := { dst := some 36, op := Op.load 47 (Operand.tmp 35), type := 47, pos := "ref.go:202", after := #[{ on := 17, ground := Ground.data }, { on := 15, ground := Ground.guard }], guard := some (15, false) }) (v := undef) rfl (by kernel_rfl) (by kernel_rfl) (by kernel_rfl) (fun _ _ _ h => h) (Or.inr ⟨by rfl, rfl⟩) hHeld2 ?_
        try simp only [Act.put, List.setIfInBounds_toArray, List.set_cons_zero, List.set_cons_succ]
        refine wpAnyH_take (i := 19) (oi := { dst := some 37, op := Op.load 47 (Operand.tmp 3), type := 47, pos := "ref.go:202", after := #[{ on := 15, ground := Ground.guard }], guard := some (15, false) }) (v := undef) rfl (by kernel_rfl) (by kernel_rfl) (by kernel_rfl) (fun _ _ _ h => h) (Or.inr ⟨by rfl, rfl⟩) hHeld2 ?_
        try simp only [Act.put, List.setIfInBounds_toArray, List.set_cons_zero, List.set_cons_succ]
        refine wpAnyH_take (i := 20) (oi := { dst := some 38, op := Op.call { callee := Callee.value (Operand.func 58), args := #[Operand.tmp 36, Operand.tmp 37], argTypes := #[47, 47] }, type := 4, pos := "ref.go:202", after := #[{ on := 18, ground := Ground.data }, { on := 19, ground := Ground.data }, { on := 15, ground := Ground.chain }, { on := 15, ground := Ground.guard }], guard := some (15, false) }) (v := undef) rfl (by kernel_rfl) (by kernel_rfl) (by kernel_rfl) (fun _ _ _ h => h) (Or.inr ⟨by rfl, rfl⟩) hHeld2 ?_
        try simp only [Act.put, List.setIfInBounds_toArray, List.set_cons_zero, List.set_cons_succ]
        refine wpAnyH_take (i := 21) (oi := { dst := some 39, op := Op.unOp UnOp.not 4 (Operand.tmp 38), type := 4, pos := "ref.go:202", after := #[{ on := 20, ground := Ground.data }, { on := 15, ground := Ground.guard }], guard := some (15, false) }) (v := undef) rfl (by kernel_rfl) (by kernel_rfl) (by kernel_rfl) (fun _ _ _ h => h) (Or.inr ⟨by rfl, rfl⟩) hHeld2 ?_
        try simp only [Act.put, List.setIfInBounds_toArray, List.set_cons_zero, List.set_cons_succ]
        refine wpAnyH_take (i := 22) (oi := { dst := some 40, op := Op.pick (Operand.tmp 33) (Operand.const (Value.bool true)) (Operand.tmp 39), type := 4, pos := "ref.go:202", after := #[{ on := 15, ground := Ground.data }, { on := 21, ground := Ground.data }], guard := none }) (v := ?_) rfl (by kernel_rfl) (by kernel_rfl) (by kernel_rfl) (fun _ _ _ h => h) (Or.inl ⟨by rfl, ?_⟩) hHeld2 ?_
        rotate_left
        · (intro W hW; (try dsimp only at hW); go_simp) <;> with_reducible rfl
        try simp only [Act.put, List.setIfInBounds_toArray, List.set_cons_zero, List.set_cons_succ]
        refine wpAnyH_take (i := 23) (oi := { dst := some 4, op := Op.assign (Operand.tmp 40), type := 4, pos := "ref.go:202", after := #[{ on := 22, ground := Ground.data }, { on := 20, ground := Ground.chain }, { on := 0, ground := Ground.phase }, { on := 1, ground := Ground.phase }, { on := 2, ground := Ground.phase }, { on := 3, ground := Ground.phase }, { on := 4, ground := Ground.phase }, { on := 5, ground := Ground.phase }, { on := 6, ground := Ground.phase }, { on := 7, ground := Ground.phase }, { on := 8, ground := Ground.phase }, { on := 9, ground := Ground.phase }, { on := 10, ground := Ground.phase }, { on := 11, ground := Ground.phase }, { on := 12, ground := Ground.phase }, { on := 13, ground := Ground.phase }, { on := 14, ground := Ground.phase }, { on := 15, ground := Ground.phase }, { on := 16, ground := Ground.phase }, { on := 17, ground := Ground.phase }, { on := 18, ground := Ground.phase }, { on := 19, ground := Ground.phase }, { on := 20, ground := Ground.phase }, { on := 21, ground := Ground.phase }, { on := 22, ground := Ground.phase }], guard := none }) (v := ?_) rfl (by kernel_rfl) (by kernel_rfl) (by kernel_rfl) (fun _ _ _ h => h) (Or.inl ⟨by rfl, ?_⟩) hHeld2 ?_
        rotate_left
        · (intro W hW; (try dsimp only at hW); go_simp) <;> with_reducible rfl
        try simp only [Act.put, List.setIfInBounds_toArray, List.set_cons_zero, List.set_cons_succ]
        refine wpAnyH_done (by kernel_rfl) ?_ _
        go_wp2
        go_ret
        exact ⟨rfl, hb01.trans ((Below.refl _ w1).drew.trans hb2 |>.mono (by omega))⟩
      | true =>
        go_wp2_with fail
        first
          | (go_region_held3 (fun W => W.cell? ⟨g, 0, none⟩ = some (.int .u8 x.kind) ∧ W.cell? ⟨g, 1, none⟩ = some (.string xb) ∧ W.cell? ⟨g, 2, none⟩ = some (.int .i64 x.at_) ∧ W.cell? ⟨w.heap.size, 0, none⟩ = some (.int .u8 ka) ∧ W.cell? ⟨w.heap.size, 1, none⟩ = some (.string ta) ∧ W.cell? ⟨w.heap.size, 2, none⟩ = some (.int .i64 aa) ∧ W.cell? ⟨g, 3, none⟩ = some (.int .u8 y.kind) ∧ W.cell? ⟨g, 4, none⟩ = some (.string yb) ∧ W.cell? ⟨g, 5, none⟩ = some (.int .i64 y.at_) ∧ W.cell? ⟨w.heap.size + 1, 0, none⟩ = some (.int .u8 kb) ∧ W.cell? ⟨w.heap.size + 1, 1, none⟩ = some (.string tb) ∧ W.cell? ⟨w.heap.size + 1, 2, none⟩ = some (.int .i64 ab))
              (first
                | exact ⟨((bcell hb3).1 _ _ hg).trans a0, ((bcell hb3).1 _ _ hg).trans a1, ((bcell hb3).1 _ _ hg).trans a2, ((bcell hb3).1 _ _ (by omega)).trans c0, ((bcell hb3).1 _ _ (by omega)).trans c1, ((bcell hb3).1 _ _ (by omega)).trans c2, ((bcell hb3).1 _ _ hg).trans b0, ((bcell hb3).1 _ _ hg).trans b1, ((bcell hb3).1 _ _ hg).trans b2, ((bcell hb3).1 _ _ (by omega)).trans d0, ((bcell hb3).1 _ _ (by omega)).trans d1, ((bcell hb3).1 _ _ (by omega)).trans d2⟩
                | exact ⟨((bcell hb2).1 _ _ hg).trans a0, ((bcell hb2).1 _ _ hg).trans a1, ((bcell hb2).1 _ _ hg).trans a2, ((bcell hb2).1 _ _ (by omega)).trans c0, ((bcell hb2).1 _ _ (by omega)).trans c1, ((bcell hb2).1 _ _ (by omega)).trans c2, ((bcell hb2).1 _ _ hg).trans b0, ((bcell hb2).1 _ _ hg).trans b1, ((bcell hb2).1 _ _ hg).trans b2, ((bcell hb2).1 _ _ (by omega)).trans d0, ((bcell hb2).1 _ _ (by omega)).trans d1, ((bcell hb2).1 _ _ (by omega)).trans d2⟩
                | exact ⟨a0, a1, a2, c0, c1, c2, b0, b1, b2, d0, d1, d2⟩)
              ((first
                | (go_at_call 58; refine (HS2.out w2).mono ?_; rintro e w3 ⟨rfl, hb3'⟩; have hb3 : Below w1.drew.heap.size w1.drew w3 := hb2.trans (hb3'.mono hz2); have hz3 : w2.heap.size ≤ w3.heap.size := hb3'.size)
                | (go_at_call 58; refine (HS1.out w1.drew).mono ?_; rintro e w2 ⟨rfl, hb2⟩; have hz2 : w1.heap.size ≤ w2.heap.size := hb2.size))))
          | fail
        go_wp2
        go_ret
        exact ⟨rfl, hb01.trans ((Below.refl _ w1).drew.trans hb3 |>.mono (by omega))⟩
    · have hl : ((ts.length : Int) == 2) = false := by rw [beq_eq_false_iff_ne]; omega
      have hl2 : ((ts.length : Int) != 2) = true := by rw [bne, hl]; rfl
      have hK0 : K = true := by
        rw [← hK]
        match ts, h1 with
        | [], _ => rfl
        | [_], _ => rfl
        | [_, _], h1 => simp at h1
        | _ :: _ :: _ :: _, _ => rfl
      subst hK0
      clear hK h1
      go_enter Tryd.func31, Tryd.ntmps31
      go_wp2_with fail
      refine (HRD.out _).mono ?_
      rintro e w1 ⟨⟨A, cap, heq, _⟩, hb⟩
      simp only [Lx.Res.ts, Lx.Res.at_, Lx.Res.e] at heq
      subst heq
      go_wp2_with fail
      go_region
      go_wp2
      go_ret
      exact ⟨rfl, ((HB.out _ _).trans (hb.mono (by simp; omega))).drew⟩

end Go.Proofs.YtkhgmoljhehbnaaDoor
