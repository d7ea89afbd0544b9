/- Why there is no graph of so many vertices and these edges. -/
import Derived.Test.YtbankocbncpepaaEdLoops
namespace Go.Proofs.Ytbankocbncpepaa
open Go.RowKit Go.ChangeShapes EdPure
/-- Why there is no graph, and where. -/
def errN (n : Int) (l : List Ed) : Int × Int := if n < 0 then (1, 0) else if 4096 < n ∨ 1048576 < l.length then (3, 0) else chkL n l 0
theorem chkL_good {n : Int} : ∀ {l : List Ed} {i : Nat}, (chkL n l i).1 = 0 → ∀ e ∈ l, chkE n e = 0
  | [], _, _, e, he => by simp at he
  | x :: r, i, h, e, he => by
    unfold chkL at h
    by_cases hx : chkE n x = 0
    · rw [if_pos hx] at h
      rcases List.mem_cons.1 he with rfl | he
      · exact hx
      · exact chkL_good h e he
    · rw [if_neg hx] at h
      exact absurd h hx
theorem chkL_zero {n : Int} {l : List Ed} (h : (chkL n l 0).1 = 0) : chkL n l 0 = (0, 0) :=
  chk_miss n l 0 fun _ hj => chkL_good h _ (List.getElem_mem hj)
end Go.Proofs.Ytbankocbncpepaa
