/- The plain mathematics of places: the texts between two places, by lists of bytes. No program is named here. -/
import GoSem.Op.String
namespace Go.Proofs.YtmenknbgmgnfhaaDoor
namespace Pm

def inside (t a b : List UInt8) : Bool := (!(Op.bytesLess t a || t == a)) && (b.isEmpty || Op.bytesLess t b)
def stem (t a b : List UInt8) : Bool := (inside t a b && (t.getLast? != some 97)) && !(t.isPrefixOf b)
def may (t a b : List UInt8) : Bool := inside t a b || t.isPrefixOf a
def isLet (c : UInt8) : Bool := decide (97 ≤ c.toNat ∧ c.toNat ≤ 122)
def isWho (n : Int) : Bool := decide (1 ≤ n) && decide (n ≤ 8)
/- the author's number by the last letter -/
def whoOf (p : List UInt8) : Int := ((p.getLast?.getD 0).toNat : Int) - 97
/- what is wrong with a place: 0: nothing -/
def chk (p : List UInt8) : Int :=
  if 12 < p.length then 4
  else if p.length < 2 then 2
  else if !(p.all isLet) then 2
  else if p.dropLast.getLast? == some 97 then 2
  else if !(isWho (whoOf p)) then 2
  else 0
def whoR (p : List UInt8) : Int := if chk p = 0 then whoOf p else 0
def sides (a b : List UInt8) : Int :=
  if a ≠ [] ∧ chk a ≠ 0 then chk a
  else if b ≠ [] ∧ chk b ≠ 0 then chk b
  else if a ≠ [] ∧ b ≠ [] ∧ Op.bytesLess a b = false then 3
  else 0


/- the letters; one letter more behind a text; behind each of some texts -/
def letters : List UInt8 := (List.range 26).map fun i => UInt8.ofNat (97 + i)
def ext (h : List UInt8) : List (List UInt8) := letters.map fun c => h ++ [c]
def exts (o : List (List UInt8)) : List (List UInt8) := o.flatMap ext
def stems (o : List (List UInt8)) (a b : List UInt8) : List (List UInt8) := (exts o).filter fun t => stem t a b
def longer (o : List (List UInt8)) (a b : List UInt8) : List (List UInt8) := (exts o).filter fun t => may t a b
/- what has been tried behind k whole rounds and j letters -/
def cand (o : List (List UInt8)) (k j : Nat) : List (List UInt8) := exts (o.take k) ++ (ext (o.getD k [])).take j

end Pm
end Go.Proofs.YtmenknbgmgnfhaaDoor
