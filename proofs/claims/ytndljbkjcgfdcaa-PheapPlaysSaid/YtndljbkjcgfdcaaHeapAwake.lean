/- The law's awake of layer 12: three vertices pushed, one raised, the first one popped. -/
import Derived.Test.YtndljbkjcgfdcaaHeapNew
namespace Go.Proofs.Ytndljbkjcgfdcaa
open Go.RowKit Go.ChangeShapes NdPure HpPure HeapPure
/-- Nothing that was there is otherwise. -/
theorem HpIs.below {B : Bl} {w W : World} {A : List (Option Int)} {l : Int} (h : HpIs (fun _ => False) B w A l W) : Below w.heap.size w W := by
  obtain ⟨M, ⟨t, -⟩, -⟩ := h
  exact t.below (Nat.le_refl _) (fun k e => e.elim)
set_option maxHeartbeats 2000000 in
theorem awake_any (w : World) :
    Calls Try.prog 6 #[] w fun e w' => e = .returned (.bool true) ∧ Below w.heap.size w w' := by
  go_enter Try.func6, Try.ntmps6
  go_wp2_with fail
  refine (newH_run 3 w).mono ?_
  rintro e w1 ⟨B, rfl, h1⟩
  have H1 : Hid (HpIs (fun _ => False) B w [none, none, none] 0 w1) := Lib.hid h1
  clear h1
  go_wp2_with fail
  refine (push_run w1 0 2 H1.out (by omega)).mono ?_
  rintro e w2 ⟨rfl, l2, -, hl2, h2⟩
  rw [show pushB [none, none, none] 0 = true from rfl]
  have H2 : Hid (HpIs (fun _ => False) B w [some 2, none, none] l2 w2) := Lib.hid h2
  clear h2 H1
  go_wp2_with fail
  refine (push_run w2 2 5 H2.out (by omega)).mono ?_
  rintro e w3 ⟨rfl, l3, -, hl3, h3⟩
  rw [show pushB [some 2, none, none] 2 = true from rfl]
  have H3 : Hid (HpIs (fun _ => False) B w [some 2, none, some 5] l3 w3) := Lib.hid h3
  clear h3 H2
  go_wp2_with fail
  refine (push_run w3 1 4 H3.out (by omega)).mono ?_
  rintro e w4 ⟨rfl, l4, -, hl4, h4⟩
  rw [show pushB [some 2, none, some 5] 1 = true from rfl]
  have H4 : Hid (HpIs (fun _ => False) B w [some 2, some 4, some 5] l4 w4) := Lib.hid h4
  clear h4 H3
  go_wp2_with fail
  refine (raise_run w4 1 5 H4.out (by omega)).mono ?_
  rintro e w5 ⟨rfl, l5, -, hl5, h5⟩
  rw [show raiseB [some 2, some 4, some 5] 1 5 = true from rfl]
  have H5 : Hid (HpIs (fun _ => False) B w [some 2, some 5, some 5] l5 w5) := Lib.hid h5
  clear h5 H4
  go_wp2_with fail
  refine (pop_run w5 H5.out (by omega)).mono ?_
  rintro e w6 ⟨rfl, l6, -, hl6, h6⟩
  rw [show topV [some 2, some 5, some 5] = 1 from rfl, show topK [some 2, some 5, some 5] = 5 from rfl, show topB [some 2, some 5, some 5] = true from rfl]
  have H6 : Hid (HpIs (fun _ => False) B w [some 2, none, some 5] l6 w6) := Lib.hid h6
  clear h6 H5
  go_wp2_with fail
  refine (len_run w6 H6.out).mono ?_
  rintro e w7 ⟨rfl, rfl⟩
  rw [show lenA [some 2, none, some 5] = 2 from rfl]
  go_wp2
  go_ret
  exact ⟨rfl, H6.out.below⟩
end Go.Proofs.Ytndljbkjcgfdcaa
