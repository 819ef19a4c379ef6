/- The plain functions of layer 6: values, operations, memories and what is done to them, pictures, streams, texts. It imports nothing of the program. -/
namespace Ce

structure V where
  k : Int
  n : Int
deriving DecidableEq, Repr
instance vInh : Inhabited V := ⟨⟨0, 0⟩⟩
def hole : V := ⟨0, 0⟩
def vint (n : Int) : V := ⟨1, n⟩
def vbool (b : Bool) : V := ⟨2, if b then 1 else 0⟩
def vnil : V := ⟨3, 0⟩
def vref (n : Int) : V := ⟨4, n⟩
def vbad (n : Int) : V := ⟨5, n⟩
def inn (n lo hi : Int) : Bool := decide (lo ≤ n) && decide (n ≤ hi)
/-- is a value, of a memory with so many structures -/
def isValue (v : V) (many : Int) : Bool :=
  if v.k = 0 then decide (v.n = 0)
  else if v.k = 1 then inn v.n (-1000000000) 1000000000
  else if v.k = 2 then decide (v.n = 0) || decide (v.n = 1)
  else if v.k = 3 then decide (v.n = 0)
  else if v.k = 4 then decide (0 ≤ v.n) && (decide (many < 0) || decide (v.n < many))
  else if v.k = 5 then inn v.n 1 5
  else false
def areValues (l : List V) (many : Int) : Bool := l.all fun v => isValue v many

/-! names: their bytes -/
def nAdd : List UInt8 := [97, 100, 100]
def nSub : List UInt8 := [115, 117, 98]
def nMul : List UInt8 := [109, 117, 108]
def nDiv : List UInt8 := [100, 105, 118]
def nMod : List UInt8 := [109, 111, 100]
def nNeg : List UInt8 := [110, 101, 103]
def nLt : List UInt8 := [108, 116]
def nLe : List UInt8 := [108, 101]
def nEq : List UInt8 := [101, 113]
def nNot : List UInt8 := [110, 111, 116]
def names : List (List UInt8) := [nAdd, nSub, nMul, nDiv, nMod, nNeg, nLt, nLe, nEq, nNot]
def operands (s : List UInt8) : Nat := if names.contains s then (if s = nNeg ∨ s = nNot then 1 else 2) else 0
def ranged (n : Int) : V := if inn n (-1000000000) 1000000000 then vint n else vbad 2
def reckon (s : List UInt8) (a b : V) : V :=
  if s = nNot then (if a.k = 2 then vbool (decide (a.n = 0)) else vbad 5)
  else if s = nEq then (if a.k = b.k ∧ (a.k = 1 ∨ a.k = 2) then vbool (decide (a.n = b.n)) else vbad 5)
  else if ¬ (a.k = b.k ∧ a.k = 1) then vbad 5
  else if s = nLt then vbool (decide (a.n < b.n))
  else if s = nLe then vbool (decide (a.n ≤ b.n))
  else if s = nAdd then ranged (a.n + b.n)
  else if s = nSub then ranged (a.n - b.n)
  else if s = nMul then ranged (a.n * b.n)
  else if s = nNeg then ranged (- a.n)
  else if b.n = 0 then vbad 1
  else if s = nMod then ranged (a.n.tmod b.n)
  else ranged (a.n.tdiv b.n)
def prim (s : List UInt8) (l : List V) : V × Nat :=
  if operands s = 0 then (hole, 10)
  else if l.length ≠ operands s then (hole, 2)
  else if !areValues l (-1) then (hole, 4)
  else if l.any fun v => decide (v.k = 0) then (hole, 0)
  else match l.find? fun v => decide (v.k = 5) with
    | some v => (v, 0)
    | none => (reckon s l[0]! l[operands s - 1]!, 0)

structure Rd where
  cell : Int
  who : Int
deriving DecidableEq, Repr
instance rInh : Inhabited Rd := ⟨⟨0, 0⟩⟩
structure St where
  cells : List V
  wait : List Rd
deriving DecidableEq, Repr
instance sInh : Inhabited St := ⟨⟨[], []⟩⟩
abbrev Mem := List St
structure Td where
  who : Int
  v : V
deriving DecidableEq, Repr

/-- the cell of a number, if there is one -/
def cellAt (l : List V) (c : Int) : Option V := if 0 ≤ c then l[c.toNat]? else none
def rdOk (l : List V) (r : Rd) : Bool := match cellAt l r.cell with
  | some v => decide (v.k = 0)
  | none => false
def stOk (n : Int) (s : St) : Bool := (decide (s.cells.length ≤ 100) && areValues s.cells n) && s.wait.all (rdOk s.cells)
def reads : Mem → Nat
  | [] => 0
  | s :: r => s.wait.length + reads r
def memOk (m : Mem) : Bool := decide (m.length ≤ 400) && (m.all (stOk m.length) && decide (reads m ≤ 6000))
def check (m : Mem) : Nat := if memOk m then 0 else 4

def known (m : Mem) (v : V) : Bool := isValue v m.length && !decide (v.k = 0)
/-- a structure, by its number -/
def stAt (m : Mem) (n : Int) : St := m.getD n.toNat ⟨[], []⟩
def fits (m : Mem) (s i : V) : Bool := (decide (s.k = 4) && decide (i.k = 1)) && inn i.n 0 ((stAt m s.n).cells.length - 1)
def alloc (m : Mem) (size : V) : Mem × V × Nat :=
  if size.k = 5 then (m, size, 0)
  else if size.k ≠ 1 then (m, vbad 5, 0)
  else if !inn size.n 0 100 then (m, vbad 4, 0)
  else if m.length = 400 then (m, hole, 5)
  else (m ++ [⟨List.replicate size.n.toNat hole, []⟩], vref m.length, 0)
def write (m : Mem) (s i v : V) : Mem × List Td × Nat :=
  if !fits m s i then (m, [], 0)
  else if ((stAt m s.n).cells.getD i.n.toNat hole).k ≠ 0 then (m, [], 6)
  else (m.set s.n.toNat ⟨(stAt m s.n).cells.set i.n.toNat v, (stAt m s.n).wait.filter fun r => !decide (r.cell = i.n)⟩, ((stAt m s.n).wait.filter fun r => decide (r.cell = i.n)).map fun r => ⟨r.who, v⟩, 0)
def read (m : Mem) (s i : V) (who : Int) : Mem × V × Nat :=
  if s.k = 5 then (m, s, 0)
  else if i.k = 5 then (m, i, 0)
  else if s.k = 3 then (m, vbad 3, 0)
  else if s.k ≠ 4 ∨ i.k ≠ 1 then (m, vbad 5, 0)
  else if !fits m s i then (m, vbad 3, 0)
  else if ((stAt m s.n).cells.getD i.n.toNat hole).k ≠ 0 then (m, (stAt m s.n).cells.getD i.n.toNat hole, 0)
  else if 6000 ≤ reads m then (m, hole, 5)
  else (m.set s.n.toNat ⟨(stAt m s.n).cells, (stAt m s.n).wait ++ [⟨i.n, who⟩]⟩, hole, 0)
def size (m : Mem) (s : V) : V := if s.k = 5 then s else if s.k = 4 then vint (stAt m s.n).cells.length else vbad 5

structure Op where
  kind : Int
  v : V
  i : V
  x : V
  who : Int
deriving DecidableEq, Repr
def opOk (m : Mem) (o : Op) : Bool := (inn o.kind 1 4 && known m o.v) && ((!(decide (o.kind = 2) || decide (o.kind = 3)) || known m o.i) && (!decide (o.kind = 2) || known m o.x))
/-- what is done to a right memory by a right operation: the memory, what it gives, who is told, the error -/
def step (m : Mem) (o : Op) : Mem × V × List Td × Nat :=
  if o.kind = 1 then ((alloc m o.v).1, (alloc m o.v).2.1, [], (alloc m o.v).2.2)
  else if o.kind = 2 then ((write m o.v o.i o.x).1, vnil, (write m o.v o.i o.x).2.1, (write m o.v o.i o.x).2.2)
  else if o.kind = 3 then ((read m o.v o.i o.who).1, (read m o.v o.i o.who).2.1, [], (read m o.v o.i o.who).2.2)
  else (m, size m o.v, [], 0)
def doo (m : Mem) (o : Op) : Mem × V × List Td × Nat :=
  if !memOk m then ([], hole, [], 4)
  else if !opOk m o then ([], hole, [], 2)
  else if (step m o).2.2.2 ≠ 0 then ([], hole, [], (step m o).2.2.2)
  else step m o
def playK : Mem → List Op → List V → List Td → Nat → Mem × List V × List Td × Nat × Nat
  | m, [], g, t, i => (m, g, t, i, 0)
  | m, o :: r, g, t, i => if (doo m o).2.2.2 ≠ 0 then (m, g, t, i, (doo m o).2.2.2) else playK (doo m o).1 r (g ++ [(doo m o).2.1]) (t ++ (doo m o).2.2.1) (i + 1)
def play (m : Mem) (l : List Op) : Mem × List V × List Td × Nat × Nat := if memOk m then playK m l [] [] 0 else ([], [], [], 0, 4)

structure Pic where
  vals : List V
  cells : List (List V)
deriving DecidableEq, Repr
/-- the place of a number, or behind the last -/
def place (n : Int) : List Int → Nat
  | [] => 0
  | x :: r => if x = n then 0 else place n r + 1
/-- values with new numbers, and what is met -/
def renum : List V → List Int → List V × List Int
  | [], met => ([], met)
  | v :: r, met =>
    if v.k ≠ 4 then (v :: (renum r met).1, (renum r met).2)
    else ((⟨v.k, place v.n met⟩ : V) :: (renum r (if place v.n met = met.length then met ++ [v.n] else met)).1, (renum r (if place v.n met = met.length then met ++ [v.n] else met)).2)
/-- the structures from the i-th that is met on, as long as there are such -/
def drawK (m : Mem) : Nat → Nat → List Int → List (List V)
  | 0, _, _ => []
  | f + 1, i, met => match met[i]? with
    | none => []
    | some n => (renum (stAt m n).cells met).1 :: drawK m f (i + 1) (renum (stAt m n).cells met).2
def drawn (m : Mem) (l : List V) : Pic := ⟨(renum l []).1, drawK m m.length 0 (renum l []).2⟩
def draw (m : Mem) (l : List V) : Pic × Nat :=
  if !memOk m then (⟨[], []⟩, 4)
  else if !(decide (l.length ≤ 100) && areValues l m.length) then (⟨[], []⟩, 2)
  else (drawn m l, 0)
def memory (p : Pic) : Mem := p.cells.map fun l => ⟨l, []⟩
def isPic (p : Pic) : Bool := (memOk (memory p) && (decide (p.vals.length ≤ 100) && areValues p.vals p.cells.length)) && decide (drawn (memory p) p.vals = p)
def memoryR (p : Pic) : Mem × Nat := if isPic p then (memory p, 0) else ([], 4)

end Ce
