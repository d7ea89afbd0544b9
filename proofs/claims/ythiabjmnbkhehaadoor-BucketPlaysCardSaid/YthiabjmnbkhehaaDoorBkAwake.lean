/- The law's awake of layer 13: three vertices put, the highest one taken out; a row that a call made, beside nothing else. -/
import Derived.Test.YthiabjmnbkhehaaDoorBkNew
namespace Go.Proofs.YthiabjmnbkhehaaDoor
open Go.RowKit Go.ChangeShapes BkPure
/-- From w on nothing that was there is otherwise; a new row tells D. -/
def RowIn (B : Bl) (w : World) (N : Nat) (D : List (Nat × Nat)) (W : World) : Prop := Below w.heap.size w W ∧ (∀ k, BQ B k → w.heap.size ≤ k) ∧ BkAt B N D W
section
variable {B : Bl} {w W W' : World} {N : Nat} {D D' : List (Nat × Nat)}
theorem RowIn.turn (h : RowIn B w N D W) (d : DropOut B N D' W W') : RowIn B w N D' W' := ⟨h.1.trans (d.1.below h.1.size h.2.1), h.2.1, d.2⟩
theorem BkAt.keep (h : BkAt B N D W) (hb : Below W.heap.size W W') : BkAt B N D W' := by
  obtain ⟨h1, M, h2, h3⟩ := h
  exact ⟨h1, M, h2.keep hb, h3⟩
theorem RowIn.keep (h : RowIn B w N D W) (hb : Below W.heap.size W W') : RowIn B w N D W' := ⟨h.1.trans (hb.mono h.1.size), h.2.1, h.2.2.keep hb⟩
theorem BkAt.glob (h : BkAt B N D W) : GlobAt W := by
  obtain ⟨h1, M, h2, h3⟩ := h
  exact h2.glob
theorem BkAt.once (h : BkAt B N D W) : Once N D := by
  obtain ⟨h1, M, h2, h3⟩ := h
  exact h3.1
end
set_option maxHeartbeats 2000000 in
theorem awake_any (w : World) (hg : GlobAt w) :
    Calls Tryd.prog 5 #[] w fun e w' => e = .returned (.bool true) ∧ Below w.heap.size w w' := by
  have HG := Lib.hid hg
  clear hg
  go_enter Tryd.func5, Tryd.ntmps5
  go_wp2_with fail
  refine (new_run 3 w HG.out).mono ?_
  rintro e w1 ⟨B, rfl, h1⟩
  have H1 : Hid (RowIn B w 3 [] w1) := Lib.hid h1
  clear h1
  go_wp2_with fail
  refine (put_run 0 3 w1 H1.out.2.2).mono ?_
  rintro e w2 ⟨rfl, h2⟩
  rw [show fitD 3 0 3 = true from rfl]
  have H2 : Hid (RowIn B w 3 [(0, 3)] w2) := Lib.hid (H1.out.turn h2)
  clear h2 H1
  go_wp2_with fail
  refine (put_run 1 3 w2 H2.out.2.2).mono ?_
  rintro e w3 ⟨rfl, h3⟩
  rw [show fitD 3 1 3 = true from rfl]
  have H3 : Hid (RowIn B w 3 [(1, 3), (0, 3)] w3) := Lib.hid (H2.out.turn h3)
  clear h3 H2
  go_wp2_with fail
  refine (put_run 2 1 w3 H3.out.2.2).mono ?_
  rintro e w4 ⟨rfl, h4⟩
  rw [show fitD 3 2 1 = true from rfl]
  have H4 : Hid (RowIn B w 3 [(2, 1), (1, 3), (0, 3)] w4) := Lib.hid (H3.out.turn h4)
  clear h4 H3
  go_wp2_with fail
  refine (high_run w4 H4.out.2.2).mono ?_
  rintro e w5 ⟨rfl, h5⟩
  rw [show topD [(2, 1), (1, 3), (0, 3)] = some (1, 3) from rfl, show topV (some (1, 3)) = 1 from rfl, show topL (some (1, 3)) = 3 from rfl, show (some ((1 : Nat), (3 : Nat))).isSome = true from rfl]
  have H5 : Hid (RowIn B w 3 [(2, 1), (1, 3), (0, 3)] w5) := Lib.hid (H4.out.turn h5)
  clear h5 H4
  go_wp2_with fail
  refine (count_run 3 w5 H5.out.2.2).mono ?_
  rintro e w6 ⟨rfl, rfl⟩
  rw [show cntD [(2, 1), (1, 3), (0, 3)] 3 = 2 from rfl]
  go_wp2_with fail
  refine (drop_run 1 w5 H5.out.2.2).mono ?_
  rintro e w7 ⟨rfl, h7⟩
  rw [show wasD [(2, 1), (1, 3), (0, 3)] 1 = true from rfl]
  have H7 : Hid (RowIn B w 3 [(2, 1), (0, 3)] w7) := Lib.hid (H5.out.turn h7)
  clear h7 H5
  go_wp2_with fail
  refine (label_run 1 w7 H7.out.2.2).mono ?_
  rintro e w8 ⟨rfl, h8⟩
  rw [show labD [(2, 1), (0, 3)] 1 = -1 from rfl]
  have H8 := Lib.hid (H7.out.keep h8)
  clear h8 H7
  go_wp2
  go_ret
  exact ⟨rfl, H8.out.1⟩
end Go.Proofs.YthiabjmnbkhehaaDoor
