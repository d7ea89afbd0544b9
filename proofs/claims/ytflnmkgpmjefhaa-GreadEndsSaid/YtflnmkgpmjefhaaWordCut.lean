/- Contracts of word's cutting of a text: what each closure takes, the loop that cuts, the lines and the words of a text. -/
import Derived.Test.YtflnmkgpmjefhaaWordCode
import Derived.Test.YtflnmkgpmjefhaaCellAt
import Derived.Deep.RegionWith
import Derived.Deep.RegionHeld3
import Derived.Deep.QuietTactic
import Derived.BigQuiet
import Derived.WalkMore
namespace Go.Proofs.Ytflnmkgpmjefhaa.Wd
open Go.RowKit Go.ChangeShapes WordPure Str
/-- What a closure has gathered in its variable, at block N. -/
def Gath (N : Nat) (w0 w : World) (xs : List (List UInt8)) : Prop :=
  Below N w0 w ∧ ∃ v, CellAt N w v ∧ w.ownsRow (N + 1) 9 1 v xs.length (xs.map encS)
theorem Gath.start (w : World) : Gath w.heap.size w (w.alloc (.cells #[.slice none 0 0] 58)) [] :=
  ⟨(Below.refl _ _).alloc (Nat.le_refl _) _, _, CellAt.new _ _ _, World.ownsRow_nil _ _ _ _⟩
theorem Gath.keep {N : Nat} {w0 w w' : World} {xs : List (List UInt8)} (h : Gath N w0 w xs) (hb : Below w.heap.size w w') : Gath N w0 w' xs := by
  obtain ⟨h1, v, h2, h3⟩ := h
  exact ⟨h1.trans (hb.mono (Nat.le_of_lt h2.lt)), v, h2.keep hb, owns_below h3 hb⟩
theorem Gath.step {N : Nat} {w0 w w' : World} {xs : List (List UInt8)} {v v' : Value} {o : Obj} (h1 : Below N w0 w) (h2 : CellAt N w v) (h3 : w.ownsRow (N + 1) 9 1 v xs.length (xs.map encS)) (x : List UInt8)
    (g1 : w'.ownsRow (N + 1) 9 1 v' (xs.length + 1) (xs.map encS ++ [encS x])) (g2 : (w.alloc o).grownBy w' v.ownBlock) : Gath N w0 (w'.setCell ⟨N, 0, none⟩ v') (xs ++ [x]) := by
  have hlt := h2.lt
  have hs : (w.alloc o).heap.size = w.heap.size + 1 := by simp
  have b1 : Below (N + 1) w w' := ((Below.refl (N + 1) w).alloc (by omega) o).grown g2 (by rw [hs]; omega) fun j hj => by have := (h3.lt j hj).1; omega
  have b1' : Below N w w' := b1.mono (by omega)
  have b2 : Below N w (w'.setCell ⟨N, 0, none⟩ v') := b1'.setCell (p := ⟨N, 0, none⟩) (Nat.le_refl N) v'
  refine ⟨h1.trans b2, v', (h2.on b1 (by omega)).set v', ?_⟩
  rw [List.map_append, List.length_append]
  exact owns_setCell g1 (by show N < N + 1; omega) v'
theorem Gath.reads {N : Nat} {w0 w : World} {xs : List (List UInt8)} (h : Gath N w0 w xs) : ∃ p cap, CellAt N w (.slice p xs.length cap) ∧ ReadsL encS w.heap.size w p xs ∧ xs.length ≤ cap := by
  obtain ⟨h1, v, h2, h3⟩ := h
  obtain ⟨p, cap, rfl, hr, hc⟩ := owns_readsL rfl h3
  exact ⟨p, cap, h2, hr, hc⟩
theorem byte_eq (c : UInt8) (n : Nat) (hn : n < 256) : ((c.toNat : Nat) : Int) = (n : Int) ↔ c = UInt8.ofNat n := by
  constructor
  · intro h
    apply UInt8.toNat.inj
    have : (UInt8.ofNat n).toNat = n := by simp; omega
    rw [this]; omega
  · intro h
    subst h
    have : (UInt8.ofNat n).toNat = n := by simp; omega
    rw [this]
/-- At the head of a round of cut. -/
def CutRel (c : UInt8) (N : Nat) (w0 : World) (l : List UInt8) (d : List (List UInt8)) (f k : Nat) (w : World) : Prop := At c l d f k ∧ Gath N w0 w d
end Go.Proofs.Ytflnmkgpmjefhaa.Wd
