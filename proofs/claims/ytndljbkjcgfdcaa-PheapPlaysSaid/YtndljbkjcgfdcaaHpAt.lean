/- Contracts of the trees' at and setBack, at every argument. -/
import Derived.Test.YtndljbkjcgfdcaaHpMem
namespace Go.Proofs.Ytndljbkjcgfdcaa
open Go.RowKit Go.ChangeShapes NdPure HpPure
theorem below_put4 {N B : Nat} {w W : World} {x : Nd} (h : Below N w W) (hB : N ≤ B) : Below N w (put4 W B x) :=
  (((h.setCell (p := ⟨B, 0, none⟩) hB _).setCell (p := ⟨B, 1, none⟩) hB _).setCell (p := ⟨B, 2, none⟩) hB _).setCell (p := ⟨B, 3, none⟩) hB _
section
variable {O : Nat → Prop} {B : Bl} {w0 : World} {M : Hp}
theorem atA_run (W : World) (n : Int) (h : Hs O B w0 M W) :
    Calls Try.prog 41 #[.pointer (some ⟨B.ba, 0, none⟩), .int .i64 n] W fun e W' => e = .returned (.tuple #[encNd (atV M.S n), .bool (hasB M.S n)]) ∧ Below W.heap.size W W' := by
  obtain ⟨Oa, ha, -⟩ := h.arena
  exact at_any Oa B.ba _ M.S n W ha
theorem setA_run (W : World) (n : Int) (x : Nd) (h : Hs O B w0 M W) :
    Calls Try.prog 39 #[.pointer (some ⟨B.ba, 0, none⟩), .int .i64 n, encNd x] W fun e W' => e = .returned (.bool (hasB M.S n)) ∧ Hs O B w0 (M.withS (setS M.S n x)) W' := by
  obtain ⟨Oa, ha, hk⟩ := h.arena
  refine (set_any Oa B.ba _ M.S n x W ha).mono ?_
  rintro e W' ⟨rfl, ht, ha'⟩
  exact ⟨rfl, hk W' Oa _ ht (fun _ e => Or.inl e) ha'⟩
theorem freeA_run (W : World) (n : Int) (h : Hs O B w0 M W) :
    Calls Try.prog 44 #[.pointer (some ⟨B.ba, 0, none⟩), .int .i64 n] W fun e W' => e = .returned (.tuple #[encNd (atV M.S n), .bool (hasB M.S n)]) ∧ Hs O B w0 (M.withS (freeS M.S n)) W' := by
  obtain ⟨Oa, ha, hk⟩ := h.arena
  refine (free_any Oa B.ba _ M.S n W ha).mono ?_
  rintro e W' ⟨rfl, ht, ha'⟩
  exact ⟨rfl, hk W' Oa _ ht (fun _ e => Or.inl e) ha'⟩
theorem giveA_run (W : World) (x : Nd) (h : Hs O B w0 M W) :
    Calls Try.prog 37 #[.pointer (some ⟨B.ba, 0, none⟩), encNd x] W fun e W' => e = .returned (.tuple #[.int .i64 (giveN M.C.length M.S), .bool (giveB M.C.length M.S)]) ∧ Hs O B w0 (M.withS (giveS M.C.length M.S x)) W' := by
  obtain ⟨Oa, ha, hk⟩ := h.arena
  refine (give_any Oa B.ba _ M.S x W ha).mono ?_
  rintro e W' ⟨rfl, ht, O', ho, ha'⟩
  exact ⟨rfl, hk W' O' _ ht ho ha'⟩
theorem lenA_run (W : World) (h : Hs O B w0 M W) :
    Calls Try.prog 28 #[.pointer (some ⟨B.ba, 0, none⟩)] W fun e W' => e = .returned (.int .i64 (liveN M.S : Int)) ∧ W = W' := by
  obtain ⟨Oa, ha, hk⟩ := h.arena
  exact len_any Oa B.ba _ M.S W ha
set_option maxHeartbeats 1000000 in
theorem atT_run (W : World) (n : Int) (h : Hs O B w0 M W) :
    Calls Try.prog 33 #[.pointer (some ⟨B.b, 0, none⟩), .int .i64 n] W fun e W' => e = .returned (encNd (atV M.S n)) ∧ Below W.heap.size W W' := by
  have HK : Hid (∀ o, Hs O B w0 M (W.alloc o)) := Lib.hid fun o => h.alloc o
  obtain ⟨⟨c0, -⟩, -, ⟨hb, -⟩, -⟩ := h.cells
  clear h
  generalize hX : atV M.S n = X at *
  have HX := Lib.hid hX
  clear hX
  obtain ⟨x0, x1, x2, x3⟩ := X
  go_enter Try.func33, Try.ntmps33
  go_wp2_with fail
  refine (atA_run _ n (HK.out _)).mono ?_
  rintro e w2 ⟨rfl, hb2⟩
  rw [HX.out]
  generalize hasB M.S n = q at *
  unfold encNd
  simp only
  have H0 := Lib.hid ((NdAt.new W nd0 47).on hb2 (by simp))
  obtain ⟨⟨z0, z1, z2, z3⟩, g0, g1, g2, g3⟩ := H0.out.cells
  have hz : W.heap.size < w2.heap.size := by have := hb2.size; simp at this; omega
  have HE : Hid (∀ o, Below W.heap.size W ((put4 w2 W.heap.size ⟨x0, x1, x2, x3⟩).alloc o)) := Lib.hid fun o =>
    (below_put4 (((Below.refl _ W).alloc (Nat.le_refl _) _).trans (hb2.mono (by simp))) (Nat.le_refl _)).alloc (by simp [put4]; omega) o
  clear hb2 H0 HK c0 hb
  simp only [put4, nd0] at z0 z1 z2 z3 HE
  generalize hB0 : W.heap.size = B0 at *
  have HB0 := Lib.hid hB0
  clear hB0
  go_wp2
  exact bodyPost_ret (v := .agg #[.int .i64 x0, .int .i64 x1, .int .i64 x2, .int .i64 x3]) (by simp [results, Try.results33, go_sem, z0, z1, z2, z3, hz]) rfl ⟨rfl, by rw [HB0.out]; exact HE.out _⟩
end
end Go.Proofs.Ytndljbkjcgfdcaa
