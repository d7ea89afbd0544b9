/- Contracts of the heap's Room, has, Len, Links and join. -/
import Derived.Test.YtndljbkjcgfdcaaHpPairC
namespace Go.Proofs.Ytndljbkjcgfdcaa
open Go.RowKit Go.ChangeShapes NdPure HpPure
/-- What joining a tree makes of a heap. -/
def HpPure.Hp.joined (M : Hp) (t : Int) : Hp := ⟨meldS M.Y M.S M.root t, M.links + meldL M.root t, M.C, M.Y, meldN M.Y M.S M.root t⟩
section
variable {O : Nat → Prop} {B : Bl} {w0 : World} {M : Hp}
set_option maxRecDepth 100000 in
set_option maxHeartbeats 2000000 in
theorem join_run (W : World) (t : Int) (h : Hs O B w0 M W) (hl0 : 0 ≤ M.links) (hl1 : M.links ≤ 4611686018427387904) (hr : M.root ≠ -1 → t ≠ -1 → TopsIn M.C.length M.S M.root t) :
    Calls Try.prog 31 #[.pointer (some ⟨B.b, 0, none⟩), .int .i64 t] W fun e W' => e = .returned (.tuple #[]) ∧ Hs O B w0 (M.joined t) W' := by
  have H := Lib.hid (h.drawn 1)
  have HR := Lib.hid hr
  obtain ⟨⟨c0, -, -, -, c4⟩, -, ⟨hb, -⟩, -⟩ := (h.drawn 1).cells
  clear h hr
  go_enter Try.func31, Try.ntmps31
  go_wp2_with fail
  have HM : Hid (∀ w3, Hs O B w0 (M.linked (meldS M.Y M.S M.root t) (meldL M.root t)) w3 → Hs O B w0 (M.joined t) (w3.setCell ⟨B.b, 4, none⟩ (.int .i64 (meldN M.Y M.S M.root t)))) := Lib.hid fun w3 h3 => h3.layRoot _
  generalize hmn : meldN M.Y M.S M.root t = y at *
  have HMN := Lib.hid hmn
  clear hmn
  have c0' : W.cell? ⟨B.b, 0, none⟩ = _ := c0
  have c4' : W.cell? ⟨B.b, 4, none⟩ = _ := c4
  have hb' : B.b < W.heap.size := hb
  have H' : Hid (Hs O B w0 M W.drew) := H
  clear H c0 c4 hb
  go_region_with (go_at_call 38; refine (meld_run _ M.root t H'.out hl0 hl1 HR.out).mono ?_; rintro e w3 ⟨rfl, h3⟩; rw [HMN.out]; obtain ⟨⟨-, -, -, -, d4⟩, ⟨-, f4⟩, ⟨hb3, -⟩, -⟩ := h3.cells; have H3 := Lib.hid (HM.out _ h3); clear h3 HM)
  all_goals (go_wp2; go_end0; exact ⟨rfl, H3.out⟩)
end
end Go.Proofs.Ytndljbkjcgfdcaa
