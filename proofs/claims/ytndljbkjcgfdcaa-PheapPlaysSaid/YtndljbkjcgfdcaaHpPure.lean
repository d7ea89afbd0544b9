/- A heap's parts: its nodes, its links, of each vertex the cell and the key, the root; what each of the program's steps makes of them. Plain facts: no function of the program is named. -/
import Derived.Test.YtndljbkjcgfdcaaNdPure
namespace Go.Proofs.Ytndljbkjcgfdcaa
namespace HpPure
open NdPure
structure Hp where
  S : St
  links : Int
  C : List Int
  Y : List Int
  root : Int
def setBackS (S : St) (c back : Int) : St := setS S c ⟨(atV S c).v, (atV S c).below, (atV S c).next, back⟩
def hangS (S : St) (t a : Int) : St :=
  setS (setS (setBackS S (atV S a).below t) t ⟨(atV S t).v, (atV S t).below, (atV S a).below, a⟩) a ⟨(atV S a).v, t, (atV S a).next, (atV S a).back⟩
def backN (S : St) (t : Int) : Nd :=
  if (atV S (atV S t).back).below = t then ⟨(atV S (atV S t).back).v, (atV S t).next, (atV S (atV S t).back).next, (atV S (atV S t).back).back⟩
  else ⟨(atV S (atV S t).back).v, (atV S (atV S t).back).below, (atV S t).next, (atV S (atV S t).back).back⟩
def cutS (S : St) (t : Int) : St := setBackS (setS S (atV S t).back (backN S t)) (atV S t).next (atV S t).back
def putS' (S : St) (t l : Int) : St := setS S t ⟨(atV S t).v, (atV S t).below, l, (atV S t).back⟩
def plantS (N : Nat) (S : St) (v : Int) : St := giveS N S ⟨v, -1, 0, 0⟩
/-- What comes ahead: the greater key; of like ones the lesser vertex. -/
def keyAt (Y : List Int) (u : Int) : Int := Y.getD u.toNat 0
def aheadB (Y : List Int) (u v : Int) : Bool := decide (keyAt Y v < keyAt Y u) || (decide (keyAt Y u = keyAt Y v) && decide (u < v))
def meldN (Y : List Int) (S : St) (a b : Int) : Int := if a = -1 then b else if b = -1 then a else if aheadB Y (atV S a).v (atV S b).v = true then a else b
def meldS (Y : List Int) (S : St) (a b : Int) : St := if a = -1 then S else if b = -1 then S else if aheadB Y (atV S a).v (atV S b).v = true then hangS S b a else hangS S a b
def meldL (a b : Int) : Int := if a = -1 then 0 else if b = -1 then 0 else 1
def Hp.withS (M : Hp) (S : St) : Hp := ⟨S, M.links, M.C, M.Y, M.root⟩
def Hp.linked (M : Hp) (S : St) (n : Int) : Hp := ⟨S, M.links + n, M.C, M.Y, M.root⟩
theorem withS_self (M : Hp) : M.withS M.S = M := rfl
theorem linked_zero (M : Hp) (S : St) : M.linked S 0 = M.withS S := by unfold Hp.linked Hp.withS; rw [Int.add_zero]
end HpPure
end Go.Proofs.Ytndljbkjcgfdcaa
