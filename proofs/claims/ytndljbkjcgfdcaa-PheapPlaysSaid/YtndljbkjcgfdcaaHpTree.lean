/- Contracts of the trees' setBack, put, hang and cut, at every argument. -/
import Derived.Test.YtndljbkjcgfdcaaHpAt
namespace Go.Proofs.Ytndljbkjcgfdcaa
open Go.RowKit Go.ChangeShapes NdPure HpPure
section
variable {O : Nat → Prop} {B : Bl} {w0 : World} {M : Hp}
set_option maxHeartbeats 1000000 in
theorem setBack_run (W : World) (c x : Int) (h : Hs O B w0 M W) :
    Calls Try.prog 40 #[.pointer (some ⟨B.b, 0, none⟩), .int .i64 c, .int .i64 x] W fun e W' => e = .returned (.tuple #[]) ∧ Hs O B w0 (M.withS (setBackS M.S c x)) W' := by
  have H := Lib.hid h
  have HF : Hid (setBackS M.S c x = setS M.S c ⟨(atV M.S c).v, (atV M.S c).below, (atV M.S c).next, x⟩) := Lib.hid rfl
  clear h
  generalize hX : atV M.S c = X at *
  have HX := Lib.hid hX
  clear hX
  obtain ⟨x0, x1, x2, x3⟩ := X
  go_enter Try.func40, Try.ntmps40
  go_wp2_with fail
  refine (atT_run _ c H.out).mono ?_
  rintro e w2 ⟨rfl, hb2⟩
  rw [HX.out]
  have H2 := Lib.hid ((H.out.keep hb2).alloc (.cells #[.int .i64 x0, .int .i64 x1, .int .i64 x2, .int .i64 x] 47))
  obtain ⟨⟨c0, -⟩, -, ⟨hb, -⟩, -⟩ := (H.out.keep hb2).cells
  clear hb2 H
  unfold encNd
  simp only
  go_wp2_with fail
  refine wp_region_still_tail 6 (by kernel_rfl) (by kernel_rfl) ?_
  change wpStill _ _ ((w2.alloc (.cells #[.int .i64 x0, .int .i64 x1, .int .i64 x2, .int .i64 x] 47)).drewN 1) _ _ _
  change wpStill _ _ _ (fun a' => wpList _ _ _ _ _ ((w2.alloc (.cells #[.int .i64 x0, .int .i64 x1, .int .i64 x2, .int .i64 x] 47)).drewN 1)) _ _
  simp only [List.take_succ_cons, List.take_zero, List.drop_succ_cons, List.drop_zero]
  repeat still_step
  refine wpStill_nil ?_
  go_wp2_with fail
  refine (setA_run _ c ⟨x0, x1, x2, x⟩ (H2.out.drawn 1)).mono ?_
  rintro e w3 ⟨rfl, h3⟩
  rw [← HF.out] at h3
  have H3 := Lib.hid h3
  clear h3 H2
  go_wp2
  go_end0
  exact ⟨rfl, H3.out⟩
/-- A heap beside blocks of a caller's own. -/
def HsL (O : Nat → Prop) (B : Bl) (w0 : World) (Ls : List Nat) (M : Hp) (W : World) : Prop :=
  Turn O w0 W ∧ (∀ k ∈ Ls, w0.heap.size ≤ k ∧ k < W.heap.size) ∧ ∃ O', (∀ k, O' k → O k ∨ w0.heap.size ≤ k) ∧ (∀ k ∈ Ls, ¬ O' k) ∧ HpAt O' B W M
section
variable {W W' : World} {Ls : List Nat}
theorem HsL.of (h : Hs O B w0 M W) : HsL O B w0 [] M W := by
  obtain ⟨t, O', o, a⟩ := h
  exact ⟨t, fun k e => by simp at e, O', o, fun k e => by simp at e, a⟩
theorem HsL.hs (h : HsL O B w0 Ls M W) : Hs O B w0 M W := by
  obtain ⟨t, -, O', o, -, a⟩ := h
  exact ⟨t, O', o, a⟩
theorem HsL.keep (h : HsL O B w0 Ls M W) (hb : Below W.heap.size W W') : HsL O B w0 Ls M W' := by
  obtain ⟨t, l, O', o, d, a⟩ := h
  have := hb.size
  exact ⟨t.trans (Turn.ofBelow (O := O) hb) (fun _ e => Or.inl e), fun k e => ⟨(l k e).1, by have := (l k e).2; omega⟩, O', o, d, a.keep hb⟩
theorem HsL.drawn (h : HsL O B w0 Ls M W) (k : Nat) : HsL O B w0 Ls M (W.drewN k) := h.keep (below_drewN (Below.refl _ _) k)
/-- A variable of the caller's own. -/
theorem HsL.more (h : HsL O B w0 Ls M W) (o : Obj) : HsL O B w0 (W.heap.size :: Ls) M (W.alloc o) := by
  obtain ⟨t, l, O', oo, d, a⟩ := h
  have hl := a.lt
  have hb := (Below.refl W.heap.size W).alloc (Nat.le_refl _) o
  refine ⟨t.trans (Turn.ofBelow (O := O) hb) (fun _ e => Or.inl e), fun k e => ?_, O', oo, fun k e => ?_, a.keep hb⟩
  · rcases List.mem_cons.1 e with rfl | e
    · exact ⟨t.size, by simp⟩
    · exact ⟨(l k e).1, by have := (l k e).2; simp; omega⟩
  · rcases List.mem_cons.1 e with rfl | e
    · exact fun e2 => by have := hl _ e2; omega
    · exact d k e
/-- A store into a variable of the caller's own. -/
theorem HsL.put {k : Nat} (h : HsL O B w0 Ls M W) (hk : k ∈ Ls) (i : Nat) (v : Value) : HsL O B w0 Ls M (W.setCell ⟨k, i, none⟩ v) := by
  obtain ⟨t, l, O', o, d, a⟩ := h
  have hc := Turn.cell (O := fun x => x = k) W i v rfl
  exact ⟨t.trans hc (fun x e => Or.inr (by rw [show x = k from e]; exact (l k hk).1)), fun x e => by simpa using l x e, O', o, d, a.past hc (fun x e e2 => d k hk (by rw [← show x = k from e2]; exact e))⟩
theorem HsL.far {k : Nat} (h : HsL O B w0 Ls M W) (hk : k ∈ Ls) : k < W.heap.size ∧ k ≠ B.b ∧ B.b ≠ k ∧ k ≠ B.gC ∧ k ≠ B.gK := by
  obtain ⟨t, l, O', o, d, Oa, g1, g2, g3, g4, g5, g6, g7, g8⟩ := h
  have hn := d k hk
  refine ⟨(l k hk).2, fun e => hn ((g8 k).2 (Or.inl e)), fun e => hn ((g8 k).2 (Or.inl e.symm)), fun e => hn ((g8 k).2 (Or.inr (Or.inl e))), fun e => hn ((g8 k).2 (Or.inr (Or.inr (Or.inl e))))⟩
/-- A call, beside blocks of the caller's own: these stay as they are. -/
theorem HsL.call {P : Program} {F : FuncId} {args : Array Value} {E : Ending → Prop} {M' : Hp} (h : HsL O B w0 Ls M W) (hc : ∀ O', HpAt O' B W M → Calls P F args W fun e W' => E e ∧ Hs O' B W M' W') :
    Calls P F args W fun e W' => E e ∧ HsL O B w0 Ls M' W' ∧ ∀ k ∈ Ls, W'.heap[k]? = W.heap[k]? := by
  obtain ⟨t, l, O', o, d, a⟩ := h
  refine (hc O' a).mono ?_
  rintro e W' ⟨he, t', O'', o', a'⟩
  have hs := t'.size
  refine ⟨he, ⟨t.trans t' o, fun k e => ⟨(l k e).1, by have := (l k e).2; omega⟩, O'', fun k e => ?_, fun k e e2 => ?_, a'⟩, fun k e => t'.2.2.2.2 k (l k e).2 (d k e)⟩
  · rcases o' k e with e2 | e2
    · exact o k e2
    · exact Or.inr (Nat.le_trans t.size e2)
  · rcases o' k e2 with e3 | e3
    · exact d k e e3
    · have := (l k e).2; omega
end
set_option maxHeartbeats 1000000 in
theorem put_run (W : World) (c x : Int) (h : Hs O B w0 M W) :
    Calls Try.prog 43 #[.pointer (some ⟨B.b, 0, none⟩), .int .i64 c, .int .i64 x] W fun e W' => e = .returned (.int .i64 c) ∧ Hs O B w0 (M.withS (putS' M.S c x)) W' := by
  have H := Lib.hid h
  have HF : Hid (putS' M.S c x = setS M.S c ⟨(atV M.S c).v, (atV M.S c).below, x, (atV M.S c).back⟩) := Lib.hid rfl
  clear h
  generalize hX : atV M.S c = X at *
  have HX := Lib.hid hX
  clear hX
  obtain ⟨x0, x1, x2, x3⟩ := X
  go_enter Try.func43, Try.ntmps43
  go_wp2_with fail
  refine (atT_run _ c H.out).mono ?_
  rintro e w2 ⟨rfl, hb2⟩
  rw [HX.out]
  have H2 := Lib.hid ((H.out.keep hb2).alloc (.cells #[.int .i64 x0, .int .i64 x1, .int .i64 x, .int .i64 x3] 47))
  obtain ⟨⟨c0, -⟩, -, ⟨hb, -⟩, -⟩ := (H.out.keep hb2).cells
  clear hb2 H
  unfold encNd
  simp only
  go_wp2_with fail
  refine wp_region_still_tail 6 (by kernel_rfl) (by kernel_rfl) ?_
  change wpStill _ _ ((w2.alloc (.cells #[.int .i64 x0, .int .i64 x1, .int .i64 x, .int .i64 x3] 47)).drewN 1) _ _ _
  change wpStill _ _ _ (fun a' => wpList _ _ _ _ _ ((w2.alloc (.cells #[.int .i64 x0, .int .i64 x1, .int .i64 x, .int .i64 x3] 47)).drewN 1)) _ _
  simp only [List.take_succ_cons, List.take_zero, List.drop_succ_cons, List.drop_zero]
  repeat still_step
  refine wpStill_nil ?_
  go_wp2_with fail
  refine (setA_run _ c ⟨x0, x1, x, x3⟩ (H2.out.drawn 1)).mono ?_
  rintro e w3 ⟨rfl, h3⟩
  rw [← HF.out] at h3
  have H3 := Lib.hid h3
  clear h3 H2
  go_wp2
  go_ret
  exact ⟨rfl, H3.out⟩
end
end Go.Proofs.Ytndljbkjcgfdcaa
