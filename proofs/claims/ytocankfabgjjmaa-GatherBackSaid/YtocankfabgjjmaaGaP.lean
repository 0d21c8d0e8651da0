/-
  Without the program: assemblies and their frames; what is open of an assembly; what a frame does to it.
  Conditions: none.
-/
import Derived.Test.YtocankfabgjjmaaFrL
namespace Go.Proofs.Ytocankfabgjjmaa
open Go.RowKit
set_option linter.unusedVariables false
set_option linter.unusedSimpArgs false

/-- A segment of an assembly. -/
structure Sg where
  t : Nat
  p : ByteArray
deriving DecidableEq

/-- The bytes of all segments together. -/
def sumS : List Sg → Nat
  | [] => 0
  | s :: r => s.p.size + sumS r

/-- Types that rise, to 3 at most. -/
def risesD (x : Nat) : List Sg → Bool
  | [] => true
  | s :: r => decide (x < s.t ∧ s.t ≤ 3) && risesD s.t r

/-- May an assembly begin so on that track? -/
def firstD (t k : Nat) : Bool := if k = 0 then t == 0 else if k = 1 then t == 1 else false

/-- Do the types stand so that they may? -/
def typesD (k : Nat) : List Sg → Bool
  | [] => false
  | s :: r => firstD s.t k && (if k = 0 then r.isEmpty else risesD s.t r)

/-- The answer of Check. -/
def checkA (k : Nat) (l : List Sg) : Nat := if typesD k l = true ∧ sumS l ≤ 16384 then 0 else 70

/-- A payload in pieces. -/
def cutP (n : Nat) (l : List UInt8) : List (List UInt8) :=
  if h : n = 0 ∨ l.length ≤ n then [l] else l.take n :: cutP n (l.drop n)
termination_by l.length
decreasing_by simp; omega

/-- The pieces of one segment as frames. -/
def pieceF (a b : Bool) (t k ch : Nat) (c : Bool) : List (List UInt8) → List Fr
  | [] => []
  | [x] => [⟨a, b, c, true, t, k, ch, str8 x⟩]
  | x :: y :: r => ⟨a, b, c, false, t, k, ch, str8 x⟩ :: pieceF a b t k ch false (y :: r)

/-- The frames of a segment. -/
def segF (n k ch : Nat) (a b : Bool) (s : Sg) : List Fr := pieceF a b s.t k ch true (cutP n (sb s.p))

/-- The frames of the segments, of which the first is the assembly's first if a. -/
def framesD (n k ch : Nat) (a : Bool) : List Sg → List Fr
  | [] => []
  | s :: r => segF n k ch a r.isEmpty s ++ framesD n k ch false r

/-- What is open of an assembly: its segments' types and where each one's bytes begin, the bytes, the last segment's first frame without its payload, and whether it is whole. -/
structure Pt where
  segs : List (Nat × Nat)
  bytes : List UInt8
  head : Fr
  whole : Bool

def fr0 : Fr := ⟨false, false, false, false, 0, 0, 0, ⟨#[]⟩⟩
def pt0 : Pt := ⟨[], [], fr0, false⟩

def Pt.add (p : Pt) (f : Fr) : Pt where
  segs := p.segs ++ (if f.c = true then [(f.t, p.bytes.length)] else [])
  bytes := p.bytes ++ sb f.p
  head := if f.c = true then { f with p := ⟨#[]⟩ } else p.head
  whole := f.d

/-- Does a frame fit what is open? -/
def fitsD (f : Fr) : Option Pt → Bool
  | none => f.a && f.c && firstD f.t f.k && (f.b || !(f.k == 0))
  | some p => if p.whole = false then !f.c && f.t == p.head.t && f.a == p.head.a && f.b == p.head.b else f.c && !f.a && decide (p.head.t < f.t)

/-- Why a frame can't be added. -/
def refusedD (f : Fr) (o : Option Pt) : Nat :=
  if checkF f ≠ 0 then 60 else if fitsD f o = false then 70 else if 16384 < (o.getD pt0).bytes.length + f.p.size then 3 else 0

/-- The segments of what is whole: from the last one. -/
def wholeD (bytes : List UInt8) : List (Nat × Nat) → List Sg
  | [] => []
  | [s] => [⟨s.1, str8 (bytes.drop s.2)⟩]
  | s :: q :: r => ⟨s.1, str8 ((bytes.take q.2).drop s.2)⟩ :: wholeD bytes (q :: r)

abbrev Plc := Nat × Nat
def Fr.plc (f : Fr) : Plc := (f.ch, f.k)

/-- What stands at a place. -/
def getM {α : Type} : List (Plc × α) → Plc → Option α
  | [], _ => none
  | x :: r, q => if x.1 = q then some x.2 else getM r q
def putM {α : Type} : List (Plc × α) → Plc → α → List (Plc × α)
  | [], q, v => [(q, v)]
  | x :: r, q, v => if x.1 = q then (q, v) :: r else x :: putM r q v
def delM {α : Type} : List (Plc × α) → Plc → List (Plc × α)
  | [], _ => []
  | x :: r, q => if x.1 = q then r else x :: delM r q

/-- An answer of Feed: channel and track and segments; whether there is an assembly; the error. -/
structure Ans where
  ch : Nat
  k : Nat
  l : List Sg
  is : Bool
  e : Nat

def ans0 (e : Nat) : Ans := ⟨0, 0, [], false, e⟩

/-- Feed of a gatherer that is alive: the answer and what is open then (none: it is dead). -/
def feedM (M : List (Plc × Pt)) (f : Fr) : Ans × Option (List (Plc × Pt)) :=
  let o := getM M f.plc
  if refusedD f o ≠ 0 then (ans0 (refusedD f o), none)
  else
    let p := (o.getD pt0).add f
    if f.b = true ∧ f.d = true then (⟨f.ch, f.k, wholeD p.bytes p.segs, true, 0⟩, some (delM M f.plc))
    else (ans0 0, some (putM M f.plc p))

end Go.Proofs.Ytocankfabgjjmaa
