/- Layer 6: what is asked of the program's functions (Prg), and the rest of the plain model: below, build, stream, text, holes. -/
import Derived.Test.YtacggbpgillbaaaGreatDoorSm
namespace Ce
/-- the digits of a number -/
def decN : Nat → Nat → List UInt8
  | 0, _ => []
  | f + 1, n => if n < 10 then [UInt8.ofNat (48 + n)] else decN f (n / 10) ++ [UInt8.ofNat (48 + n % 10)]
def decimal (n : Int) : List UInt8 := if n < 0 then 45 :: decN 20 n.natAbs else decN 20 n.natAbs
def badText (n : Int) : List UInt8 :=
  if n = 1 then [122, 101, 114, 111, 33] else if n = 2 then [114, 97, 110, 103, 101, 33] else if n = 3 then [105, 110, 100, 101, 120, 33] else if n = 4 then [115, 105, 122, 101, 33] else if n = 5 then [107, 105, 110, 100, 33] else []
def joinT (f : V → List UInt8) : List V → List UInt8
  | [] => []
  | [v] => f v
  | v :: r => f v ++ [44, 32] ++ joinT f r
/-- the text of a value of a picture, whole -/
def text (p : Pic) : Nat → V → List UInt8
  | d, v =>
    if v.k = 1 then decimal v.n
    else if v.k = 2 then (if v.n = 1 then [116, 114, 117, 101] else [102, 97, 108, 115, 101])
    else if v.k = 3 then [110, 105, 108]
    else if v.k = 5 then badText v.n
    else if v.k = 4 then (match d with | 0 => [46, 46] | d + 1 => [91] ++ joinT (text p d) (p.cells.getD v.n.toNat []) ++ [93])
    else [63]
def showP (p : Pic) (deep : Int) : List UInt8 × Nat :=
  if !isPic p then ([], 4)
  else if !inn deep 0 12 then ([], 3)
  else if 2500 < (joinT (text p deep.toNat) p.vals).length then ([], 5)
  else (joinT (text p deep.toNat) p.vals, 0)
/-- the integers of a stream, and what is behind them -/
def streamK (p : Pic) : Nat → V → List Int × V
  | 0, v => ([], v)
  | f + 1, v =>
    if v.k ≠ 4 then ([], v)
    else match p.cells.getD v.n.toNat [] with
      | [a, b] => if a.k ≠ 1 then ([], v) else (a.n :: (streamK p f b).1, (streamK p f b).2)
      | _ => ([], v)
def stream (p : Pic) (n : Int) : List Int × V × Nat :=
  if !isPic p then ([], hole, 4)
  else if !inn n 0 (p.vals.length - 1) then ([], hole, 3)
  else ((streamK p 400 (p.vals.getD n.toNat hole)).1, (streamK p 400 (p.vals.getD n.toNat hole)).2, 0)
def holesOf (i : Nat) : Nat → List V → List (Int × Int)
  | _, [] => []
  | k, v :: r => (if v.k = 0 then [((i : Int), (k : Int))] else []) ++ holesOf i (k + 1) r
def holesK : Nat → Mem → List (Int × Int)
  | _, [] => []
  | i, s :: r => holesOf i 0 s.cells ++ holesK (i + 1) r
def holes (m : Mem) : List (Int × Int) := if memOk m then holesK 0 m else []
/-- the rest of a stream behind so many of its integers -/
def rest (first k many : Nat) (closed : Bool) : V := if k < many then vref (first + k) else if closed then vnil else hole
def chain (first many : Nat) (closed : Bool) : Nat → List Int → Mem
  | _, [] => []
  | k, n :: r => ⟨[vint n, rest first (k + 1) many closed], []⟩ :: chain first many closed (k + 1) r
def buildK : Nat → List (List Int) → List Bool → Mem × List V
  | first, l :: ls, c :: cs => (chain first l.length c 0 l ++ (buildK (first + l.length) ls cs).1, rest first 0 l.length c :: (buildK (first + l.length) ls cs).2)
  | _, _, _ => ([], [])
def build (l : List (List Int)) (cs : List Bool) : Mem × List V × Nat :=
  if l.length ≠ cs.length then ([], [], 2)
  else if !(l.all fun x => x.all fun n => inn n (-1000000000) 1000000000) then ([], [], 3)
  else if 400 < (l.map List.length).sum then ([], [], 5)
  else ((buildK 0 l cs).1, (buildK 0 l cs).2, 0)
/-- pairs of values compared; the pairs of structures that were met -/
def belowL : List V → List V → List (Int × Int) → Option (List (Int × Int))
  | [], [], met => some met
  | v :: l, w :: m, met =>
    if v.k = 0 then belowL l m met
    else if v.k ≠ 4 ∨ w.k ≠ 4 then (if v = w then belowL l m met else none)
    else if met.any fun x => decide (x.1 = v.n) != decide (x.2 = w.n) then none
    else belowL l m (if met.any fun x => decide (x.1 = v.n) then met else met ++ [(v.n, w.n)])
  | _, _, _ => none
def belowK (a b : Pic) : Nat → Nat → List (Int × Int) → Bool
  | 0, _, _ => true
  | f + 1, i, met => match met[i]? with
    | none => true
    | some x => match belowL (a.cells.getD x.1.toNat []) (b.cells.getD x.2.toNat []) met with
      | none => false
      | some met' => belowK a b f (i + 1) met'
def below (a b : Pic) : Bool × Nat :=
  if !(isPic a && isPic b) then (false, 4)
  else match belowL a.vals b.vals [] with
    | none => (false, 0)
    | some met => (belowK a b 401 0 met, 0)
end Ce
namespace Go.Proofs.YtacggbpgillbaaaGreatDoor
open Go.RowKit Go.El

/-- a memory as a value: its slice's address and room -/
structure MemV (W : World) (A : Option Addr) (c : Nat) (m : Ce.Mem) : Prop where
  at_ : MemAt W A m
  none_ : A = none → c = 0
  le : m.length ≤ c
structure PicV (W : World) (V : Option Addr) (cv : Nat) (C : Option Addr) (cc : Nat) (p : Ce.Pic) : Prop where
  at_ : PicAt W V cv C p
  none_ : C = none → cc = 0
  le : p.cells.length ≤ cc
theorem MemV.below {W W' : World} {A : Option Addr} {c : Nat} {m : Ce.Mem} (h : MemV W A c m) (hb : Below W.heap.size W W') : MemV W' A c m := ⟨h.at_.below hb, h.none_, h.le⟩
theorem PicV.below {W W' : World} {V C : Option Addr} {cv cc : Nat} {p : Ce.Pic} (h : PicV W V cv C cc p) (hb : Below W.heap.size W W') : PicV W' V cv C cc p := ⟨h.at_.below hb, h.none_, h.le⟩
theorem MemV.stay {W : World} {A : Option Addr} {c : Nat} {m : Ce.Mem} (h : MemV W A c m) : Stay (fun V => MemV V A c m) W := fun _ hb => h.below hb
theorem PicV.stay {W : World} {V C : Option Addr} {cv cc : Nat} {p : Ce.Pic} (h : PicV W V cv C cc p) : Stay (fun W => PicV W V cv C cc p) W := fun _ hb => h.below hb
theorem MO.memV {W : World} {base : Nat} {B : Option Addr} {c : Nat} {hs : List (Sl × Sl)} {m : Ce.Mem} (h : MO W base B c hs m) : MemV W B c m := ⟨h.at_, (Own.le h.own).2, by rw [← h.len]; exact (Own.le h.own).1⟩
theorem LO.picV {W : World} {base : Nat} {V : Option Addr} {cv : Nat} {B : Option Addr} {c : Nat} {hs : List Sl} {p : Ce.Pic} (h0 : ValE.Own 26 W base V cv p.vals) (h : LO W base B c hs p.cells) : PicV W V cv B c p :=
  ⟨⟨SlAt.of_own h0, h.at_⟩, (Own.le h.own).2, by rw [← h.len]; exact (Own.le h.own).1⟩

/-! what is asked of the program's functions -/
def bytesOf (l : List UInt8) : ByteArray := ⟨l.toArray⟩
def PrimC : Prop := ∀ (s : ByteArray) (l : List Ce.V) (A : Option Addr) (cap : Nat) (w : World), s.size ≤ 100 → l.length ≤ 100 → SlAt ValE w ⟨A, l.length, cap⟩ l →
  Calls Tryz.prog 20 #[.string s, .slice A l.length cap] w fun e w' => e = .returned (.tuple #[.agg #[.int .u8 (Ce.prim s.data.toList l).1.k, .int .i64 (Ce.prim s.data.toList l).1.n], .int .i64 (Ce.prim s.data.toList l).2]) ∧ Below w.heap.size w w'
def PlayC : Prop := ∀ (m : Ce.Mem) (l : List Ce.Op) (A B : Option Addr) (c c2 : Nat) (w : World), Sz m → l.length ≤ 100 → MemV w A c m → SlAt OpE w ⟨B, l.length, c2⟩ l →
  Calls Tryz.prog 36 #[.agg #[.slice A m.length c], .slice B l.length c2] w fun e w' => (∃ A' c' G cg T ct, e = .returned (.tuple #[.agg #[.slice A' (Ce.play m l).1.length c'], .slice G (Ce.play m l).2.1.length cg, .slice T (Ce.play m l).2.2.1.length ct, .int .i64 (Ce.play m l).2.2.2.1, .int .i64 (Ce.play m l).2.2.2.2]) ∧
    MemV w' A' c' (Ce.play m l).1 ∧ SlAt ValE w' ⟨G, (Ce.play m l).2.1.length, cg⟩ (Ce.play m l).2.1 ∧ SlAt TdE w' ⟨T, (Ce.play m l).2.2.1.length, ct⟩ (Ce.play m l).2.2.1) ∧ Below w.heap.size w w'
/-- the operations of the law's proof that it is awake -/
def opsL : List Ce.Op := [⟨1, Ce.vint 2, Ce.hole, Ce.hole, 0⟩, ⟨3, Ce.vref 0, Ce.vint 1, Ce.hole, 7⟩, ⟨2, Ce.vref 0, Ce.vint 1, Ce.vint 5, 0⟩, ⟨3, Ce.vref 0, Ce.vint 2, Ce.hole, 8⟩]
/-- Play, of these operations -/
def PlayA : Prop := ∀ (m : Ce.Mem) (l : List Ce.Op) (A B : Option Addr) (c c2 : Nat) (w : World), m = [] → l = opsL → Sz m → l.length ≤ 100 → MemV w A c m → SlAt OpE w ⟨B, l.length, c2⟩ l →
  Calls Tryz.prog 36 #[.agg #[.slice A m.length c], .slice B l.length c2] w fun e w' => (∃ A' c' G cg T ct, e = .returned (.tuple #[.agg #[.slice A' (Ce.play m l).1.length c'], .slice G (Ce.play m l).2.1.length cg, .slice T (Ce.play m l).2.2.1.length ct, .int .i64 (Ce.play m l).2.2.2.1, .int .i64 (Ce.play m l).2.2.2.2]) ∧
    MemV w' A' c' (Ce.play m l).1 ∧ SlAt ValE w' ⟨G, (Ce.play m l).2.1.length, cg⟩ (Ce.play m l).2.1 ∧ SlAt TdE w' ⟨T, (Ce.play m l).2.2.1.length, ct⟩ (Ce.play m l).2.2.1) ∧ Below w.heap.size w w'
def DrawC : Prop := ∀ (m : Ce.Mem) (l : List Ce.V) (A B : Option Addr) (c c2 : Nat) (w : World), Sz m → l.length ≤ 1000 → MemV w A c m → SlAt ValE w ⟨B, l.length, c2⟩ l →
  Calls Tryz.prog 40 #[.agg #[.slice A m.length c], .slice B l.length c2] w fun e w' => (∃ V cv C cc, e = .returned (.tuple #[.agg #[.slice V (Ce.draw m l).1.vals.length cv, .slice C (Ce.draw m l).1.cells.length cc], .int .i64 (Ce.draw m l).2]) ∧ PicV w' V cv C cc (Ce.draw m l).1) ∧ Below w.heap.size w w'
/-- a picture whose text asks no table: neither whole numbers nor VBads -/
def Simple (p : Ce.Pic) : Prop := (∀ v ∈ p.vals, v.k ≠ 1 ∧ v.k ≠ 5) ∧ ∀ s ∈ p.cells, ∀ v ∈ s, v.k ≠ 1 ∧ v.k ≠ 5
def ShowC : Prop := ∀ (p : Ce.Pic) (deep : Int) (V C : Option Addr) (cv cc : Nat) (w : World), Szp p → Simple p → PicV w V cv C cc p →
  Calls Tryz.prog 53 #[.agg #[.slice V p.vals.length cv, .slice C p.cells.length cc], .int .i64 deep] w fun e w' => e = .returned (.tuple #[.string (bytesOf (Ce.showP p deep).1), .int .i64 (Ce.showP p deep).2]) ∧ Below w.heap.size w w'
structure Prg : Prop where
  prim : PrimC
  play : PlayA
  draw : DrawC
  show_ : ShowC

end Go.Proofs.YtacggbpgillbaaaGreatDoor
