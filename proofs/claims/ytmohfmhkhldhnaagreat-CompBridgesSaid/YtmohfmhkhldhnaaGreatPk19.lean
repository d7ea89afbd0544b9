/- The document's answers of layer 10: how many vertices a class has; whether two lists of lists are the same. -/
import Derived.Test.YtmohfmhkhldhnaaGreatPk17
import Derived.Test.YtmohfmhkhldhnaaGreatPk18
namespace Go.Proofs.YtmohfmhkhldhnaaGreat.Ds
open Go.RowKit Go.ChangeShapes Go.Maps DsuPure
def sameC (n : Nat) (p : Nat → Nat) (v : Int) (k : Nat) : Nat := (List.range k).countP fun i : Nat => sameZ n p (i : Int) v
theorem sameC_succ (n : Nat) (p : Nat → Nat) (v : Int) (k : Nat) : sameC n p v (k + 1) = sameC n p v k + if sameZ n p (k : Int) v = true then 1 else 0 := by
  unfold sameC
  rw [List.range_succ, List.countP_append, List.countP_singleton]
theorem sameC_le (n : Nat) (p : Nat → Nat) (v : Int) (k : Nat) : sameC n p v k ≤ k := by
  have := List.countP_le_length (p := fun i : Nat => sameZ n p (i : Int) v) (l := List.range k)
  rwa [List.length_range] at this
theorem sameC_all (n : Nat) (p : Nat → Nat) (v : Int) : sameC n p v n = sizeZ n p v := by
  unfold sameC sizeZ cntZ
  refine List.countP_congr fun i hi => ?_
  have hi := List.mem_range.1 hi
  unfold sameZ ofZ
  rw [fit_of hi, Int.toNat_natCast, Bool.true_and]
  cases hv : fitB n v
  · simp
    try omega
  · simp
    try omega
end Go.Proofs.YtmohfmhkhldhnaaGreat.Ds
