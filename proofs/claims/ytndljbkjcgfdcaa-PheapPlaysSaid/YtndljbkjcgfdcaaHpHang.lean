/- Contracts of the trees' hang and cut, at every argument. -/
import Derived.Test.YtndljbkjcgfdcaaHpTree
namespace Go.Proofs.Ytndljbkjcgfdcaa
open Go.RowKit Go.ChangeShapes NdPure HpPure
section
variable {O : Nat → Prop} {B : Bl} {w0 : World} {M : Hp}
set_option maxRecDepth 100000 in
set_option maxHeartbeats 4000000 in
theorem hang_run (W : World) (t a : Int) (h : Hs O B w0 M W) (hl0 : 0 ≤ M.links) (hl1 : M.links ≤ 4611686018427387904) :
    Calls Try.prog 46 #[.pointer (some ⟨B.b, 0, none⟩), .int .i64 t, .int .i64 a] W fun e W' => e = .returned (.tuple #[]) ∧ Hs O B w0 (M.linked (hangS M.S t a) 1) W' := by
  have H := Lib.hid h
  have HF : Hid (hangS M.S t a = setS (setS (setBackS M.S (atV M.S a).below t) t ⟨(atV M.S t).v, (atV M.S t).below, (atV M.S a).below, a⟩) a ⟨(atV M.S a).v, t, (atV M.S a).next, (atV M.S a).back⟩) := Lib.hid rfl
  clear h
  generalize hX : atV M.S t = X at *
  have HX := Lib.hid hX
  clear hX
  obtain ⟨x0, x1, x2, x3⟩ := X
  generalize hY : atV M.S a = Y at *
  have HY := Lib.hid hY
  clear hY
  obtain ⟨y0, y1, y2, y3⟩ := Y
  simp only at HF
  go_enter Try.func46, Try.ntmps46
  go_wp2_with fail
  refine (atT_run _ a H.out).mono ?_
  rintro e w2 ⟨rfl, hb2⟩
  rw [HY.out]
  have H2 := Lib.hid (H.out.keep hb2)
  clear hb2 H
  go_wp2_with fail
  refine (atT_run _ t H2.out).mono ?_
  rintro e w3 ⟨rfl, hb3⟩
  rw [HX.out]
  have H3 := Lib.hid (HsL.of (H2.out.keep hb3))
  clear hb3 H2
  unfold encNd
  simp only
  go_wp2_with fail
  have L : Hid (HsL O B w0 [w3.heap.size + 1, w3.heap.size] M ((w3.alloc (boxNd ⟨y0, y1, y2, y3⟩ 47)).alloc (boxNd ⟨x0, x1, y1, a⟩ 47))) := Lib.hid (by
    have := (H3.out.more (boxNd ⟨y0, y1, y2, y3⟩ 47)).more (boxNd ⟨x0, x1, y1, a⟩ 47)
    rwa [show (w3.alloc (boxNd ⟨y0, y1, y2, y3⟩ 47)).heap.size = w3.heap.size + 1 by simp] at this)
  have NB : Hid (NdAt (w3.heap.size + 1) ((w3.alloc (boxNd ⟨y0, y1, y2, y3⟩ 47)).alloc (boxNd ⟨x0, x1, y1, a⟩ 47)) ⟨x0, x1, y1, a⟩) := Lib.hid (by
    have := NdAt.new (w3.alloc (boxNd ⟨y0, y1, y2, y3⟩ 47)) ⟨x0, x1, y1, a⟩ 47
    rwa [show (w3.alloc (boxNd ⟨y0, y1, y2, y3⟩ 47)).heap.size = w3.heap.size + 1 by simp] at this)
  have NA : Hid (NdAt w3.heap.size ((w3.alloc (boxNd ⟨y0, y1, y2, y3⟩ 47)).alloc (boxNd ⟨x0, x1, y1, a⟩ 47)) ⟨y0, y1, y2, y3⟩) := Lib.hid
    ((NdAt.new w3 ⟨y0, y1, y2, y3⟩ 47).on ((Below.refl _ _).alloc (Nat.le_refl _) _) (by simp))
  simp only [boxNd] at L NA NB
  refine (L.out.call (fun O' ha => setBack_run _ y1 t (Hs.start ha))).mono ?_
  rintro e w4 ⟨rfl, h4, hk⟩
  have L4 := Lib.hid h4
  have NA4 := Lib.hid (NA.out.same (hk w3.heap.size (by simp)))
  have NB4 := Lib.hid (NB.out.same (hk (w3.heap.size + 1) (by simp)))
  clear h4 hk L NA NB H3
  obtain ⟨⟨z0, z1, z2, z3⟩, f0, f1, f2, f3⟩ := NA4.out.cells
  have hA4 := NA4.out.lt
  simp only at z0 z1 z2 z3
  have n67 : w3.heap.size ≠ w3.heap.size + 1 := by omega
  generalize w3.heap.size + 1 = B7 at *
  generalize w3.heap.size = B6 at *
  go_wp2_with fail
  have L5 := Lib.hid (L4.out.put (k := B6) (by simp) 1 (.int .i64 t))
  have NA5 : Hid (NdAt B6 (w4.setCell ⟨B6, 1, none⟩ (.int .i64 t)) ⟨y0, t, y2, y3⟩) := Lib.hid (RowIs.set NA4.out (k := 1) (by simp) (.int .i64 t))
  have NB5 : Hid (NdAt B7 (w4.setCell ⟨B6, 1, none⟩ (.int .i64 t)) ⟨x0, x1, y1, a⟩) := Lib.hid (NB4.out.same (cell_other (fun e => n67 e.symm)))
  clear L4 NA4 NB4 z0 z1 z2 z3 f0 f1 f2 f3 hA4
  generalize w4.setCell ⟨B6, 1, none⟩ (.int .i64 t) = W5 at *
  refine wp_region_still_tail 6 (by kernel_rfl) (by kernel_rfl) ?_
  change wpStill _ _ (W5.drewN 1) _ _ _
  change wpStill _ _ _ (fun a' => wpList _ _ _ _ _ (W5.drewN 1)) _ _
  have L6 := Lib.hid (L5.out.drawn 1)
  have NA6 : Hid (NdAt B6 (W5.drewN 1) ⟨y0, t, y2, y3⟩) := Lib.hid (NA5.out.same rfl)
  have NB6 : Hid (NdAt B7 (W5.drewN 1) ⟨x0, x1, y1, a⟩) := Lib.hid (NB5.out.same rfl)
  clear L5 NA5 NB5
  generalize W5.drewN 1 = W6 at *
  obtain ⟨⟨q0, q1, q2, q3⟩, -⟩ := NB6.out.cells
  have hB6 := NB6.out.lt
  obtain ⟨⟨c0, -⟩, -, ⟨hb, -⟩, -⟩ := L6.out.hs.cells
  simp only at q0 q1 q2 q3
  simp only [List.take_succ_cons, List.take_zero, List.drop_succ_cons, List.drop_zero]
  repeat still_step
  refine wpStill_nil ?_
  go_wp2_with fail
  refine (L6.out.call (fun O' ha => setA_run _ t ⟨x0, x1, y1, a⟩ (Hs.start ha))).mono ?_
  rintro e w7 ⟨rfl, h7, hk⟩
  have L7 := Lib.hid (h7.drawn 1)
  have NA7 : Hid (NdAt B6 (w7.drewN 1) ⟨y0, t, y2, y3⟩) := Lib.hid ((NA6.out.same (hk B6 (by simp))).same rfl)
  clear h7 hk L6 NA6 NB6 q0 q1 q2 q3 c0 hb hB6
  go_wp2_with fail
  refine wp_region_still_tail 6 (by kernel_rfl) (by kernel_rfl) ?_
  change wpStill _ _ (w7.drewN 1) _ _ _
  change wpStill _ _ _ (fun a' => wpList _ _ _ _ _ (w7.drewN 1)) _ _
  generalize w7.drewN 1 = W8 at *
  obtain ⟨⟨q0, q1, q2, q3⟩, -⟩ := NA7.out.cells
  have hA8 := NA7.out.lt
  obtain ⟨⟨c0, -⟩, -, ⟨hb, -⟩, -⟩ := L7.out.hs.cells
  simp only at q0 q1 q2 q3
  simp only [List.take_succ_cons, List.take_zero, List.drop_succ_cons, List.drop_zero]
  repeat still_step
  refine wpStill_nil ?_
  go_wp2_with fail
  refine (setA_run _ a ⟨y0, t, y2, y3⟩ L7.out.hs).mono ?_
  rintro e w9 ⟨rfl, h9⟩
  obtain ⟨⟨-, c1, -⟩, ⟨f1, -⟩, ⟨hb9, -⟩, -⟩ := h9.cells
  have H9 : Hid (Hs O B w0 (M.linked (hangS M.S t a) 1) (w9.setCell ⟨B.b, 1, none⟩ (.int .i64 (M.links + 1)))) := Lib.hid (by
    have := h9.layLinks (M.links + 1)
    rw [HF.out]
    exact this)
  clear h9 L7 NA7 q0 q1 q2 q3 c0 hb hA8
  replace c1 : w9.cell? ⟨B.b, 1, none⟩ = some (.int .i64 M.links) := c1
  generalize M.links = L at *
  go_wp2
  go_end0
  exact ⟨rfl, H9.out⟩
set_option maxRecDepth 100000 in
set_option maxHeartbeats 4000000 in
theorem cut_run (W : World) (t : Int) (h : Hs O B w0 M W) :
    Calls Try.prog 32 #[.pointer (some ⟨B.b, 0, none⟩), .int .i64 t] W fun e W' => e = .returned (.tuple #[]) ∧ Hs O B w0 (M.withS (cutS M.S t)) W' := by
  have H := Lib.hid h
  have HF : Hid (cutS M.S t = setBackS (setS M.S (atV M.S t).back (backN M.S t)) (atV M.S t).next (atV M.S t).back) := Lib.hid rfl
  clear h
  generalize hX : atV M.S t = X at *
  have HX := Lib.hid hX
  clear hX
  obtain ⟨x0, x1, x2, x3⟩ := X
  generalize hY : atV M.S x3 = Y at *
  have HY := Lib.hid hY
  clear hY
  obtain ⟨y0, y1, y2, y3⟩ := Y
  simp only at HF
  go_enter Try.func32, Try.ntmps32
  go_wp2_with fail
  refine (atT_run _ t H.out).mono ?_
  rintro e w2 ⟨rfl, hb2⟩
  rw [HX.out]
  have H2 := Lib.hid ((HsL.of (H.out.keep hb2)).more (boxNd ⟨x0, x1, x2, x3⟩ 47))
  have NA2 := Lib.hid (NdAt.new w2 ⟨x0, x1, x2, x3⟩ 47)
  clear hb2 H
  unfold encNd
  simp only
  go_wp2_with fail
  refine (atT_run _ x3 H2.out.hs).mono ?_
  rintro e w3 ⟨rfl, hb3⟩
  rw [HY.out]
  have H3 := Lib.hid (H2.out.keep hb3)
  have NA3 := Lib.hid (NA2.out.on hb3 (by simp [boxNd]))
  clear hb3 H2 NA2
  obtain ⟨⟨z0, z1, z2, z3⟩, -⟩ := NA3.out.cells
  have hz := NA3.out.lt
  simp only at z0 z1 z2 z3
  unfold encNd
  simp only
  by_cases hc : y1 = t
  · have HB : Hid (backN M.S t = ⟨y0, x2, y2, y3⟩) := Lib.hid (by unfold backN; rw [HX.out]; simp only; rw [HY.out]; simp only; rw [if_pos hc])
    have E : ((y1 : Int) == t) = true := by simpa using hc
    clear hc
    go_wp2_with fail
    have L : Hid (HsL O B w0 [w3.heap.size, w2.heap.size] M (w3.alloc (boxNd ⟨y0, x2, y2, y3⟩ 47))) := Lib.hid (H3.out.more (boxNd ⟨y0, x2, y2, y3⟩ 47))
    have NB : Hid (NdAt w3.heap.size (w3.alloc (boxNd ⟨y0, x2, y2, y3⟩ 47)) ⟨y0, x2, y2, y3⟩) := Lib.hid (NdAt.new w3 ⟨y0, x2, y2, y3⟩ 47)
    have NA : Hid (NdAt w2.heap.size (w3.alloc (boxNd ⟨y0, x2, y2, y3⟩ 47)) ⟨x0, x1, x2, x3⟩) := Lib.hid (NA3.out.on ((Below.refl _ _).alloc (Nat.le_refl _) _) NA3.out.lt)
    simp only [boxNd] at L NA NB
    clear H3 NA3 z0 z1 z2 z3 hz
    refine wp_region_still_tail 7 (by kernel_rfl) (by kernel_rfl) ?_
    change wpStill _ _ ((w3.alloc (.cells #[.int .i64 y0, .int .i64 x2, .int .i64 y2, .int .i64 y3] 47)).drewN 1) _ _ _
    change wpStill _ _ _ (fun a' => wpList _ _ _ _ _ ((w3.alloc (.cells #[.int .i64 y0, .int .i64 x2, .int .i64 y2, .int .i64 y3] 47)).drewN 1)) _ _
    have L6 := Lib.hid (L.out.drawn 1)
    have NA6 : Hid (NdAt w2.heap.size ((w3.alloc (.cells #[.int .i64 y0, .int .i64 x2, .int .i64 y2, .int .i64 y3] 47)).drewN 1) ⟨x0, x1, x2, x3⟩) := Lib.hid (NA.out.same rfl)
    have NB6 : Hid (NdAt w3.heap.size ((w3.alloc (.cells #[.int .i64 y0, .int .i64 x2, .int .i64 y2, .int .i64 y3] 47)).drewN 1) ⟨y0, x2, y2, y3⟩) := Lib.hid (NB.out.same rfl)
    clear L NA NB
    generalize (w3.alloc (.cells #[.int .i64 y0, .int .i64 x2, .int .i64 y2, .int .i64 y3] 47)).drewN 1 = W6 at *
    obtain ⟨⟨q0, q1, q2, q3⟩, -⟩ := NB6.out.cells
    obtain ⟨⟨z0, z1, z2, z3⟩, -⟩ := NA6.out.cells
    have hB6 := NB6.out.lt
    have hA6 := NA6.out.lt
    obtain ⟨⟨c0, -⟩, -, ⟨hb, -⟩, -⟩ := L6.out.hs.cells
    simp only at q0 q1 q2 q3 z0 z1 z2 z3
    simp only [List.take_succ_cons, List.take_zero, List.drop_succ_cons, List.drop_zero]
    repeat still_step
    refine wpStill_nil ?_
    go_wp2_with fail
    refine (L6.out.call (fun O' ha => setA_run _ x3 ⟨y0, x2, y2, y3⟩ (Hs.start ha))).mono ?_
    rintro e w7 ⟨rfl, h7, hk⟩
    rw [← HB.out] at h7
    have L7 := Lib.hid h7
    have NA7 := Lib.hid (NA6.out.same (hk w2.heap.size (by simp)))
    clear h7 hk L6 NA6 NB6 q0 q1 q2 q3 c0 hb hB6 hA6 z0 z1 z2 z3
    obtain ⟨⟨z0, z1, z2, z3⟩, -⟩ := NA7.out.cells
    have hA7 := NA7.out.lt
    simp only at z0 z1 z2 z3
    go_wp2_with fail
    refine (setBack_run _ x2 x3 L7.out.hs).mono ?_
    rintro e w9 ⟨rfl, h9⟩
    have H9 : Hid (Hs O B w0 (M.withS (cutS M.S t)) w9) := Lib.hid (by rw [HF.out]; exact h9)
    clear h9 L7 NA7 z0 z1 z2 z3 hA7
    go_wp2
    go_end0
    exact ⟨rfl, H9.out⟩
  · have HB : Hid (backN M.S t = ⟨y0, y1, x2, y3⟩) := Lib.hid (by unfold backN; rw [HX.out]; simp only; rw [HY.out]; simp only; rw [if_neg hc])
    have E : ((y1 : Int) == t) = false := by simpa using hc
    clear hc
    go_wp2_with fail
    have L : Hid (HsL O B w0 [w3.heap.size, w2.heap.size] M (w3.alloc (boxNd ⟨y0, y1, x2, y3⟩ 47))) := Lib.hid (H3.out.more (boxNd ⟨y0, y1, x2, y3⟩ 47))
    have NB : Hid (NdAt w3.heap.size (w3.alloc (boxNd ⟨y0, y1, x2, y3⟩ 47)) ⟨y0, y1, x2, y3⟩) := Lib.hid (NdAt.new w3 ⟨y0, y1, x2, y3⟩ 47)
    have NA : Hid (NdAt w2.heap.size (w3.alloc (boxNd ⟨y0, y1, x2, y3⟩ 47)) ⟨x0, x1, x2, x3⟩) := Lib.hid (NA3.out.on ((Below.refl _ _).alloc (Nat.le_refl _) _) NA3.out.lt)
    simp only [boxNd] at L NA NB
    clear H3 NA3 z0 z1 z2 z3 hz
    refine wp_region_still_tail 7 (by kernel_rfl) (by kernel_rfl) ?_
    change wpStill _ _ ((w3.alloc (.cells #[.int .i64 y0, .int .i64 y1, .int .i64 x2, .int .i64 y3] 47)).drewN 1) _ _ _
    change wpStill _ _ _ (fun a' => wpList _ _ _ _ _ ((w3.alloc (.cells #[.int .i64 y0, .int .i64 y1, .int .i64 x2, .int .i64 y3] 47)).drewN 1)) _ _
    have L6 := Lib.hid (L.out.drawn 1)
    have NA6 : Hid (NdAt w2.heap.size ((w3.alloc (.cells #[.int .i64 y0, .int .i64 y1, .int .i64 x2, .int .i64 y3] 47)).drewN 1) ⟨x0, x1, x2, x3⟩) := Lib.hid (NA.out.same rfl)
    have NB6 : Hid (NdAt w3.heap.size ((w3.alloc (.cells #[.int .i64 y0, .int .i64 y1, .int .i64 x2, .int .i64 y3] 47)).drewN 1) ⟨y0, y1, x2, y3⟩) := Lib.hid (NB.out.same rfl)
    clear L NA NB
    generalize (w3.alloc (.cells #[.int .i64 y0, .int .i64 y1, .int .i64 x2, .int .i64 y3] 47)).drewN 1 = W6 at *
    obtain ⟨⟨q0, q1, q2, q3⟩, -⟩ := NB6.out.cells
    obtain ⟨⟨z0, z1, z2, z3⟩, -⟩ := NA6.out.cells
    have hB6 := NB6.out.lt
    have hA6 := NA6.out.lt
    obtain ⟨⟨c0, -⟩, -, ⟨hb, -⟩, -⟩ := L6.out.hs.cells
    simp only at q0 q1 q2 q3 z0 z1 z2 z3
    simp only [List.take_succ_cons, List.take_zero, List.drop_succ_cons, List.drop_zero]
    repeat still_step
    refine wpStill_nil ?_
    go_wp2_with fail
    refine (L6.out.call (fun O' ha => setA_run _ x3 ⟨y0, y1, x2, y3⟩ (Hs.start ha))).mono ?_
    rintro e w7 ⟨rfl, h7, hk⟩
    rw [← HB.out] at h7
    have L7 := Lib.hid h7
    have NA7 := Lib.hid (NA6.out.same (hk w2.heap.size (by simp)))
    clear h7 hk L6 NA6 NB6 q0 q1 q2 q3 c0 hb hB6 hA6 z0 z1 z2 z3
    obtain ⟨⟨z0, z1, z2, z3⟩, -⟩ := NA7.out.cells
    have hA7 := NA7.out.lt
    simp only at z0 z1 z2 z3
    go_wp2_with fail
    refine (setBack_run _ x2 x3 L7.out.hs).mono ?_
    rintro e w9 ⟨rfl, h9⟩
    have H9 : Hid (Hs O B w0 (M.withS (cutS M.S t)) w9) := Lib.hid (by rw [HF.out]; exact h9)
    clear h9 L7 NA7 z0 z1 z2 z3 hA7
    go_wp2
    go_end0
    exact ⟨rfl, H9.out⟩
end
end Go.Proofs.Ytndljbkjcgfdcaa
