/- Layer 6, the program: Operands, Prim. -/
import Derived.Test.YtacggbpgillbaaaGreatDoorTk
namespace Go.Proofs.YtacggbpgillbaaaGreatDoor
open Go.RowKit Go.El

/-- an operation, its function and what this gives -/
structure Tab where
  sp : Spec
  g : Int → Int → Ce.V
def Tab.Ok (t : Tab) : Prop := GivesIs t.sp.fn t.g ∧ (∀ args w, (callFunc t.sp.fn args).run Tryz.prog w = .ok (.enter t.sp.fn args) w) ∧ Ce.operands t.sp.name ≠ 0 ∧ t.sp.n = Ce.operands t.sp.name ∧ t.sp.kinds.length ≤ 100 ∧ (∀ k ∈ t.sp.kinds, k = 1 ∨ k = 2) ∧ ∀ l : List Ce.V, l.length = Ce.operands t.sp.name → Ce.areValues l (-1) = true → Ce.prim t.sp.name l = (Ce.resultV t.sp.kinds t.g l, 0)
theorem ok_two {sp : Spec} {g : Int → Int → Ce.V} (h1 : GivesIs sp.fn g) (h2 : ∀ args w, (callFunc sp.fn args).run Tryz.prog w = .ok (.enter sp.fn args) w) (hop : Ce.operands sp.name = 2) (hn : sp.n = 2) (hks : sp.kinds.length ≤ 100) (h12 : ∀ k ∈ sp.kinds, k = 1 ∨ k = 2)
    (hg : ∀ x y : Ce.V, Ce.reckon sp.name x y = if sp.kinds.any (fun z => x.k == z) && y.k == x.k then g x.n y.n else Ce.vbad 5) : Tab.Ok ⟨sp, g⟩ := by
  refine ⟨h1, h2, by dsimp only; omega, by dsimp only; omega, hks, h12, fun l hl hv => ?_⟩
  dsimp only at hl ⊢
  rw [hop] at hl
  match l, hl with
  | [x, y], _ => exact Ce.prim_two hop (fun h => by rcases h12 5 h with h | h <;> omega) (fun x y _ _ => hg x y) x y hv
theorem ok_one' {sp : Spec} {g : Int → Int → Ce.V} (h1 : GivesIs sp.fn g) (h2 : ∀ args w, (callFunc sp.fn args).run Tryz.prog w = .ok (.enter sp.fn args) w) (hop : Ce.operands sp.name = 1) (hn : sp.n = 1) (hks : sp.kinds.length ≤ 100) (h12 : ∀ k ∈ sp.kinds, k = 1 ∨ k = 2)
    (hg : ∀ x : Ce.V, Ce.reckon sp.name x x = if sp.kinds.any (fun z => x.k == z) then g x.n 0 else Ce.vbad 5) : Tab.Ok ⟨sp, g⟩ := by
  refine ⟨h1, h2, by dsimp only; omega, by dsimp only; omega, hks, h12, fun l hl hv => ?_⟩
  dsimp only at hl ⊢
  rw [hop] at hl
  match l, hl with
  | [x], _ => exact Ce.prim_one hop (fun h => by rcases h12 5 h with h | h <;> omega) (fun x _ => hg x) x hv
/-- each operation of the map is as the model has it -/
theorem specs_ok (sp : Spec) (h : sp ∈ specs) : ∃ g, Tab.Ok ⟨sp, g⟩ := by
  simp only [specs, List.mem_cons, List.not_mem_nil, or_false] at h
  rcases h with rfl | rfl | rfl | rfl | rfl | rfl | rfl | rfl | rfl | rfl
  · exact ⟨_, ok_two g_eq (enters_of Tryz.func107 (by kernel_rfl) rfl) (by decide) rfl (by decide) (by decide) Ce.reck_eq⟩
  · exact ⟨_, ok_one' g_neg (enters_of Tryz.func109 (by kernel_rfl) rfl) (by decide) rfl (by decide) (by decide) Ce.reck_neg⟩
  · exact ⟨_, ok_one' g_not (enters_of Tryz.func111 (by kernel_rfl) rfl) (by decide) rfl (by decide) (by decide) Ce.reck_not⟩
  · exact ⟨_, ok_two g_add (enters_of Tryz.func113 (by kernel_rfl) rfl) (by decide) rfl (by decide) (by decide) Ce.reck_add⟩
  · exact ⟨_, ok_two g_sub (enters_of Tryz.func114 (by kernel_rfl) rfl) (by decide) rfl (by decide) (by decide) Ce.reck_sub⟩
  · exact ⟨_, ok_two g_mul (enters_of Tryz.func115 (by kernel_rfl) rfl) (by decide) rfl (by decide) (by decide) Ce.reck_mul⟩
  · exact ⟨_, ok_two g_lt (enters_of Tryz.func116 (by kernel_rfl) rfl) (by decide) rfl (by decide) (by decide) Ce.reck_lt⟩
  · exact ⟨_, ok_two g_le (enters_of Tryz.func117 (by kernel_rfl) rfl) (by decide) rfl (by decide) (by decide) Ce.reck_le⟩
  · exact ⟨_, ok_two g_div (enters_of Tryz.func118 (by kernel_rfl) rfl) (by decide) rfl (by decide) (by decide) Ce.reck_div⟩
  · exact ⟨_, ok_two g_mod (enters_of Tryz.func120 (by kernel_rfl) rfl) (by decide) rfl (by decide) (by decide) Ce.reck_mod⟩
theorem specs_names (s : List UInt8) : Ce.operands s ≠ 0 ↔ ∃ sp ∈ specs, sp.name = s := by
  constructor
  · intro h
    have := Ce.operands_mem h
    simp only [Ce.names, List.mem_cons, List.not_mem_nil, or_false] at this
    rcases this with rfl | rfl | rfl | rfl | rfl | rfl | rfl | rfl | rfl | rfl
    · exact ⟨sp_add, by simp [specs], rfl⟩
    · exact ⟨sp_sub, by simp [specs], rfl⟩
    · exact ⟨sp_mul, by simp [specs], rfl⟩
    · exact ⟨sp_div, by simp [specs], rfl⟩
    · exact ⟨sp_mod, by simp [specs], rfl⟩
    · exact ⟨sp_neg, by simp [specs], rfl⟩
    · exact ⟨sp_lt, by simp [specs], rfl⟩
    · exact ⟨sp_le, by simp [specs], rfl⟩
    · exact ⟨sp_eq, by simp [specs], rfl⟩
    · exact ⟨sp_not, by simp [specs], rfl⟩
  · rintro ⟨sp, hsp, rfl⟩
    obtain ⟨g, h⟩ := specs_ok sp hsp
    exact h.2.2.1

theorem zeroOp (w : World) : (zeroValue 111).run Tryz.prog w = .ok (.agg #[.int .i64 0, .slice none 0 0, .nilFunc]) w := by kernel_rfl
theorem EntriesIs.one {W : World} : ∀ {L : List (Value × Value)} {S : List Spec}, EntriesIs W L S → (S.map Spec.name).Nodup → ∀ p ∈ L, ∀ q ∈ L, p.1 = q.1 → p = q
  | [], _, _, _, p, hp, _, _, _ => by cases hp
  | _ :: _, [], h, _, _, _, _, _, _ => h.elim
  | x :: L, s :: S, h, hd, p, hp, q, hq, e => by
    rw [List.map_cons, List.nodup_cons] at hd
    have far : ∀ y ∈ L, y.1 ≠ x.1 := fun y hy e => by
      obtain ⟨t, ht, he⟩ := EntriesIs.key h.2 hy
      rw [he.key, h.1.key, key_inj] at e
      exact hd.1 (List.mem_map.2 ⟨t, ht, e⟩)
    cases hp with
    | head =>
      cases hq with
      | head => rfl
      | tail _ hq => exact absurd e.symm (far q hq)
    | tail _ hp =>
      cases hq with
      | head => exact absurd e (far p hp)
      | tail _ hq => exact EntriesIs.one h.2 hd.2 p hp q hq e
/-- what is looked up is not there -/
theorem look_none {W : World} {b : Nat} (h : OpsAt W b specs) (s : ByteArray) (hs : Ce.operands s.data.toList = 0) (ok : Bool) :
    (Instr.lookup 113 (.map (some b)) (.string s) ok).run Tryz.prog W = .ok (if ok then .tuple #[.agg #[.int .i64 0, .slice none 0 0, .nilFunc], .bool false] else .agg #[.int .i64 0, .slice none 0 0, .nilFunc]) W := by
  obtain ⟨⟨L, h1, h2⟩, _, _⟩ := h
  refine run_lookup_none h1 Tryz.underlying113 Tryz.underlying9 (zeroOp W) (key := .string s) trivial ?_ ok
  intro p hp e
  obtain ⟨t, ht, he⟩ := h2.key hp
  rw [he.key] at e
  unfold Spec.key at e
  injection e with e
  have : Ce.operands t.name ≠ 0 := (specs_names _).2 ⟨t, ht, rfl⟩
  rw [← e] at hs
  exact this hs
/-- what is looked up is there -/
theorem look_some {W : World} {b : Nat} (h : OpsAt W b specs) (s : ByteArray) (sp : Spec) (hm : sp ∈ specs) (hn : sp.name = s.data.toList) (ok : Bool) :
    ∃ g, U8E.In W g 0 sp.kinds ∧ g < W.heap.size ∧ (Instr.lookup 113 (.map (some b)) (.string s) ok).run Tryz.prog W = .ok (if ok then .tuple #[.agg #[.int .i64 sp.n, .slice (some ⟨g, 0, none⟩) sp.kinds.length sp.kinds.length, .func (.func sp.fn) #[] #[]], .bool true] else .agg #[.int .i64 sp.n, .slice (some ⟨g, 0, none⟩) sp.kinds.length sp.kinds.length, .func (.func sp.fn) #[] #[]]) W := by
  obtain ⟨⟨L, h1, h2⟩, _, h4⟩ := h
  obtain ⟨p, hp, g, hg, hin, hlt⟩ := h2.at_ hm
  have hk : sp.key = .string s := by
    unfold Spec.key
    rw [hn]
  subst hg
  rw [hk] at hp
  exact ⟨g, hin, hlt, run_lookup_some h1 Tryz.underlying113 Tryz.underlying9 (key := .string s) trivial hp (fun q hq e => by rw [EntriesIs.one h2 h4 q hq _ hp e]) ok⟩

theorem field_op (n : Int) (a b : Value) (w : World) : (Instr.field 111 (.agg #[.int .i64 n, a, b]) 0).run Tryz.prog w = .ok (.int .i64 n) w := by kernel_rfl
set_option maxRecDepth 100000 in
set_option maxHeartbeats 1000000 in
theorem cOperands_any (s : ByteArray) (w : World) : Calls Tryz.prog 22 #[.string s] w fun e w' => e = .returned (.int .i64 (Ce.operands s.data.toList)) ∧ Below w.heap.size w w' := by
  have HOP := Lib.hid (fun W => operations_any W)
  by_cases h0 : Ce.operands s.data.toList = 0
  · rw [h0]
    have HL := Lib.hid (fun W b (h : OpsAt W b specs) => look_none h s h0 false)
    clear h0
    go_enter Tryz.func22, Tryz.ntmps22
    go_wp2_with fail
    refine (HOP.out _).mono ?_
    rintro e w1 ⟨⟨b, rfl, ho⟩, hb1⟩
    have hrun := HL.out w1 b ho
    simp only [Bool.false_eq_true, if_false] at hrun
    clear ho
    have hf := fun n a b => field_op n a b w1
    go_wp2
    go_ret
    exact ⟨rfl, hb1⟩
  · obtain ⟨sp, hm, hn⟩ := (specs_names _).1 h0
    obtain ⟨g, hok⟩ := specs_ok sp hm
    have hnn := hok.2.2.2.1
    dsimp only at hnn
    rw [← hn, ← hnn]
    have HL := Lib.hid (fun W b (h : OpsAt W b specs) => look_some h s sp hm hn false)
    clear h0 hok hnn hn hm
    go_enter Tryz.func22, Tryz.ntmps22
    go_wp2_with fail
    refine (HOP.out _).mono ?_
    rintro e w1 ⟨⟨b, rfl, ho⟩, hb1⟩
    obtain ⟨g, _, _, hrun⟩ := HL.out w1 b ho
    simp only [Bool.false_eq_true, if_false] at hrun
    clear ho
    have hf := fun n a b => field_op n a b w1
    go_wp2
    go_ret
    exact ⟨rfl, hb1⟩
end Go.Proofs.YtacggbpgillbaaaGreatDoor
