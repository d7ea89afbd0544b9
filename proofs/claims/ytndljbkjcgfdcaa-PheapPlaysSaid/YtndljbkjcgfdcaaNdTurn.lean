/- Contracts of Set and Free of an arena of nodes, at every argument. -/
import Derived.Test.YtndljbkjcgfdcaaNdStep
namespace Go.Proofs.Ytndljbkjcgfdcaa
open Go.RowKit Go.ChangeShapes NdPure
def boxNd (x : Nd) (T : TypeId) : Obj := .cells #[.int .i64 x.v, .int .i64 x.below, .int .i64 x.next, .int .i64 x.back] T
set_option maxHeartbeats 1000000 in
theorem set_any (O : Nat → Prop) (b N : Nat) (S : St) (n : Int) (x : Nd) (w : World) (h : ArAt O b w N S) :
    Calls Try.prog 39 #[.pointer (some ⟨b, 0, none⟩), .int .i64 n, encNd x] w fun e w' => e = .returned (.bool (hasB S n)) ∧ Turn O w w' ∧ ArAt O b w' N (setS S n x) := by
  have HK : Hid (∀ o, ArAt O b (w.alloc o) N S) := Lib.hid fun o => h.keep ((Below.refl _ w).alloc (Nat.le_refl _) o)
  cases hh : hasB S n
  · have HF := Lib.hid hh
    have HS : Hid (setS S n x = S) := Lib.hid (by unfold setS; rw [hh]; exact if_neg (by decide))
    clear h hh
    unfold encNd
    go_enter Try.func39, Try.ntmps39
    go_wp2_with (first | (go_at_call 47; refine (has_any O b N S n _ (HK.out _)).mono ?_; rintro e w' ⟨rfl, rfl⟩; rw [HF.out]))
    go_ret
    exact ⟨rfl, Turn.ofBelow ((Below.refl _ w).alloc (Nat.le_refl _) _), by rw [HS.out]; exact HK.out _⟩
  · have HF := Lib.hid hh
    obtain ⟨k, rfl, hk, hy⟩ := has_yes hh
    have HS : Hid (setS S (k : Int) x = layS S k x) := Lib.hid (by unfold setS; rw [hh, if_pos rfl, Int.toNat_natCast])
    have HY := Lib.hid hy
    clear h hh hy hk
    obtain ⟨x0, x1, x2, x3⟩ := x
    unfold encNd
    simp only
    go_enter Try.func39, Try.ntmps39
    go_wp2_with (first | (go_at_call 47; refine (has_any O b N S _ _ (HK.out _)).mono ?_; rintro e w' ⟨rfl, rfl⟩; rw [HF.out]))
    have HT0 : Hid (Turn O w ((w.alloc (boxNd ⟨x0, x1, x2, x3⟩ 47)).drewN 1)) := Lib.hid ((Turn.ofBelow ((Below.refl _ w).alloc (Nat.le_refl _) _)).drawn 1)
    have HB : Hid (ArAt O b ((w.alloc (boxNd ⟨x0, x1, x2, x3⟩ 47)).drewN 1) N S) := Lib.hid ((HK.out _).drawn 1)
    have y0 : ((w.alloc (boxNd ⟨x0, x1, x2, x3⟩ 47)).drewN 1).cell? ⟨w.heap.size, 0, none⟩ = some (.int .i64 x0) := by simp [boxNd]
    have y1 : ((w.alloc (boxNd ⟨x0, x1, x2, x3⟩ 47)).drewN 1).cell? ⟨w.heap.size, 1, none⟩ = some (.int .i64 x1) := by simp [boxNd]
    have y2 : ((w.alloc (boxNd ⟨x0, x1, x2, x3⟩ 47)).drewN 1).cell? ⟨w.heap.size, 2, none⟩ = some (.int .i64 x2) := by simp [boxNd]
    have y3 : ((w.alloc (boxNd ⟨x0, x1, x2, x3⟩ 47)).drewN 1).cell? ⟨w.heap.size, 3, none⟩ = some (.int .i64 x3) := by simp [boxNd]
    refine wp_region_still_tail 8 (by kernel_rfl) (by kernel_rfl) ?_
    change wpStill _ _ ((w.alloc (boxNd ⟨x0, x1, x2, x3⟩ 47)).drewN 1) _ _ _
    change wpStill _ _ _ (fun a' => wpList _ _ _ _ _ ((w.alloc (boxNd ⟨x0, x1, x2, x3⟩ 47)).drewN 1)) _ _
    generalize (w.alloc (boxNd ⟨x0, x1, x2, x3⟩ 47)).drewN 1 = W1 at *
    obtain ⟨g, K, cap, c1, hkK, hb, hg, ⟨u0, u1, u2, u3, e0, e1, e2, e3⟩, ⟨f0, f1, f2, f3⟩, ht, ha⟩ := HB.out.lay HY.out ⟨x0, x1, x2, x3⟩
    have HT := Lib.hid (And.intro (HT0.out.trans ht (fun _ e => Or.inl e)) ha)
    have a3 : (k : Int) < (K : Int) := by omega
    have a4 : (0 : Int) ≤ (k : Int) := by omega
    clear ht ha hkK HB HT0
    simp only [List.take_succ_cons, List.take_zero, List.drop_succ_cons, List.drop_zero]
    repeat still_step
    refine wpStill_nil ?_
    go_wp2
    go_ret
    exact ⟨rfl, HT.out.1, by rw [HS.out]; exact HT.out.2⟩
theorem drop_live {S : St} {k : Nat} (h : S.I[k]? = some true) : liveN S = liveN (dropS S k) + 1 := by
  have := count_lay h false
  unfold liveN dropS
  simp at this
  exact this.symm
/-- A result's place is laid. -/
def put4 (w : World) (B : Nat) (x : Nd) : World := (((w.setCell ⟨B, 0, none⟩ (.int .i64 x.v)).setCell ⟨B, 1, none⟩ (.int .i64 x.below)).setCell ⟨B, 2, none⟩ (.int .i64 x.next)).setCell ⟨B, 3, none⟩ (.int .i64 x.back)
theorem put4_turn {O : Nat → Prop} {B : Nat} (w : World) (x : Nd) (ho : O B) : Turn O w (put4 w B x) :=
  (((Turn.cell w 0 _ ho).trans (Turn.cell _ 1 _ ho) (fun _ h => Or.inl h)).trans (Turn.cell _ 2 _ ho) (fun _ h => Or.inl h)).trans (Turn.cell _ 3 _ ho) (fun _ h => Or.inl h)
/-- A node in a block of its own. -/
def NdAt (B : Nat) (w : World) (x : Nd) : Prop := FourAt B w (.int .i64 x.v) (.int .i64 x.below) (.int .i64 x.next) (.int .i64 x.back)
theorem NdAt.new (w : World) (x : Nd) (T : TypeId) : NdAt w.heap.size (w.alloc (boxNd x T)) x := FourAt.new w _ _ _ _ T
theorem NdAt.on {B M : Nat} {w w' : World} {x : Nd} (h : NdAt B w x) (hb : Below M w w') (hM : B < M) : NdAt B w' x := RowIs.on h hb hM
theorem NdAt.same {B : Nat} {w w' : World} {x : Nd} (h : NdAt B w x) (hk : w'.heap[B]? = w.heap[B]?) : NdAt B w' x := row_same h hk
/-- The end of a call that turned an arena and lays a result. -/
theorem turn_put {O : Nat → Prop} {b N B : Nat} {w W : World} {S : St} (ht : Turn O w W) (ha : ArAt O b W N S) (hB : w.heap.size ≤ B) (hO : ∀ k, O k → k < w.heap.size) (x : Nd) : Turn O w (put4 W B x) ∧ ArAt O b (put4 W B x) N S := by
  have h := put4_turn (O := fun k => k = B) W x rfl
  refine ⟨ht.trans h fun k e => ?_, ha.past h fun k e e2 => ?_⟩
  · have e3 : k = B := e
    right
    omega
  · have e3 : k = B := e2
    have := hO k e
    omega
theorem turn_alloc {O : Nat → Prop} {b N : Nat} {w W : World} {S : St} (h : Turn O w W ∧ ArAt O b W N S) (o : Obj) : Turn O w (W.alloc o) ∧ ArAt O b (W.alloc o) N S := by
  have hb := (Below.refl W.heap.size W).alloc (Nat.le_refl _) o
  exact ⟨h.1.trans (Turn.ofBelow (O := O) hb) (fun _ e => Or.inl e), h.2.keep hb⟩
set_option maxHeartbeats 1000000 in
theorem free_any (O : Nat → Prop) (b N : Nat) (S : St) (n : Int) (w : World) (h : ArAt O b w N S) :
    Calls Try.prog 44 #[.pointer (some ⟨b, 0, none⟩), .int .i64 n] w fun e w' => e = .returned (.tuple #[encNd (atV S n), .bool (hasB S n)]) ∧ Turn O w w' ∧ ArAt O b w' N (freeS S n) := by
  have HK : Hid (∀ o, ArAt O b (w.alloc o) N S) := Lib.hid fun o => h.keep ((Below.refl _ w).alloc (Nat.le_refl _) o)
  have HO : Hid (∀ k, O k → k < w.heap.size) := Lib.hid fun k e => (h.lt k e).2
  cases hh : hasB S n
  · have HF := Lib.hid hh
    have HV := Lib.hid (at_no hh)
    have HS : Hid (freeS S n = S) := Lib.hid (by unfold freeS; rw [hh]; exact if_neg (by decide))
    clear h hh
    go_enter Try.func44, Try.ntmps44
    go_wp2_with fail
    refine (at_any O b N S n _ (HK.out _)).mono ?_
    rintro e w2 ⟨rfl, hb2⟩
    rw [HF.out, HV.out]
    unfold encNd nd0
    simp only
    have H0 := Lib.hid ((NdAt.new w nd0 47).on hb2 (by simp))
    obtain ⟨⟨z0, z1, z2, z3⟩, g0, g1, g2, g3⟩ := H0.out.cells
    have hz : w.heap.size < w2.heap.size := by have := hb2.size; simp at this; omega
    have HE : Hid (∀ o, Turn O w ((put4 w2 w.heap.size nd0).alloc o) ∧ ArAt O b ((put4 w2 w.heap.size nd0).alloc o) N S) := Lib.hid fun o =>
      turn_alloc (turn_put (Turn.ofBelow (((Below.refl _ w).alloc (Nat.le_refl _) _).trans (hb2.mono (by simp)))) ((HK.out _).keep hb2) (Nat.le_refl _) HO.out nd0) o
    clear hb2 H0
    simp only [put4, nd0] at z0 z1 z2 z3 HE
    go_wp2
    exact bodyPost_ret (v := .tuple #[.agg #[.int .i64 0, .int .i64 0, .int .i64 0, .int .i64 0], .bool false]) (by simp [results, Try.results44, go_sem, z0, z1, z2, z3, hz]) rfl ⟨by rw [HV.out]; rfl, (HE.out _).1, by rw [HS.out]; exact (HE.out _).2⟩
  · have HF := Lib.hid hh
    obtain ⟨k, rfl, hk, hy⟩ := has_yes hh
    have HS : Hid (freeS S (k : Int) = dropS S k) := Lib.hid (by unfold freeS; rw [hh, if_pos rfl, Int.toNat_natCast])
    have hN := h.1
    have hlv := live_le h.2.1
    have hd := drop_live hy
    have HY := Lib.hid hy
    clear h hh hk hy
    go_enter Try.func44, Try.ntmps44
    go_wp2_with fail
    refine (at_any O b N S _ _ (HK.out _)).mono ?_
    rintro e w2 ⟨rfl, hb2⟩
    rw [HF.out]
    generalize hX : atV S (k : Int) = X at *
    have HX := Lib.hid hX
    clear hX
    obtain ⟨x0, x1, x2, x3⟩ := X
    unfold encNd
    simp only
    have H0 := Lib.hid (((NdAt.new w nd0 47).on hb2 (by simp)).on ((Below.refl _ w2).alloc (Nat.le_refl _) (boxNd ⟨x0, x1, x2, x3⟩ 47)) (by have := hb2.size; simp at this; omega))
    have H1 := Lib.hid (NdAt.new w2 ⟨x0, x1, x2, x3⟩ 47)
    have hz : w.heap.size < w2.heap.size := by have := hb2.size; simp at this; omega
    have HT0 : Hid (Turn O w ((w2.alloc (boxNd ⟨x0, x1, x2, x3⟩ 47)).drewN 1) ∧ ArAt O b ((w2.alloc (boxNd ⟨x0, x1, x2, x3⟩ 47)).drewN 1) N S) := Lib.hid (by
      have h2 := turn_alloc (O := O) (b := b) (N := N) (S := S) ⟨Turn.ofBelow (((Below.refl _ w).alloc (Nat.le_refl _) _).trans (hb2.mono (by simp))), (HK.out _).keep hb2⟩ (boxNd ⟨x0, x1, x2, x3⟩ 47)
      exact ⟨h2.1.drawn 1, h2.2.drawn 1⟩)
    have HOB : Hid (O b) := Lib.hid (by obtain ⟨-, -, v, f, cs, -, -, -, h4⟩ := HT0.out.2; exact (h4 b).2 (Or.inl rfl))
    have hb0 : b < w.heap.size := HO.out b HOB.out
    clear hb2 HK
    go_wp2_with fail
    refine wp_region_still_tail 11 (by kernel_rfl) (by kernel_rfl) ?_
    change wpStill _ _ ((w2.alloc (boxNd ⟨x0, x1, x2, x3⟩ 47)).drewN 1) _ _ _
    change wpStill _ _ _ (fun a' => wpList _ _ _ _ _ ((w2.alloc (boxNd ⟨x0, x1, x2, x3⟩ 47)).drewN 1)) _ _
    have H0' : Hid (NdAt w.heap.size ((w2.alloc (boxNd ⟨x0, x1, x2, x3⟩ 47)).drewN 1) nd0) := Lib.hid (H0.out.same rfl)
    have H1' : Hid (NdAt w2.heap.size ((w2.alloc (boxNd ⟨x0, x1, x2, x3⟩ 47)).drewN 1) ⟨x0, x1, x2, x3⟩) := Lib.hid (H1.out.same rfl)
    clear H0 H1
    generalize (w2.alloc (boxNd ⟨x0, x1, x2, x3⟩ 47)).drewN 1 = W1 at *
    obtain ⟨g, K, cap, f, og, ⟨c1, c3⟩, hkK, hb, hg, hbg, ⟨u0, u1, u2, u3, u4, u5, e0, e1, e2, e3, e4, e5⟩, ⟨f0, f1, f2, f3, f4, f5⟩, a1, a2, h4, ht, ha⟩ := HT0.out.2.drop HY.out
    have HT : Hid (Turn O w _ ∧ _) := Lib.hid (And.intro (HT0.out.1.trans ht (fun _ e => Or.inl e)) ha)
    have H4 := Lib.hid h4
    have hg0 := HO.out g og
    have n1 : w.heap.size ≠ b := by omega
    have n2 : b ≠ w.heap.size := by omega
    have n3 : w2.heap.size ≠ b := by omega
    have n4 : b ≠ w2.heap.size := by omega
    have G0 : Hid (NdAt w.heap.size (lay6 W1 g k (nd0, false, f)) nd0) := Lib.hid (H0'.out.same (lay6_other (by omega)))
    have G1 : Hid (NdAt w2.heap.size (lay6 W1 g k (nd0, false, f)) ⟨x0, x1, x2, x3⟩) := Lib.hid (H1'.out.same (lay6_other (by omega)))
    have a3 : (k : Int) < (K : Int) := by omega
    have a4 : (0 : Int) ≤ (k : Int) := by omega
    clear ht ha h4 hkK HT0 H0' H1'
    simp only [List.take_succ_cons, List.take_zero, List.drop_succ_cons, List.drop_zero]
    repeat still_step
    refine wpStill_nil ?_
    go_upto_region 4 with fail
    have hL : ((liveN (dropS S k) : Nat) : Int) = (liveN S : Int) - 1 := by omega
    rw [hL] at HT
    simp only [lay6, lay4, nd0] at HT H4 G0 G1
    clear e0 e1 e2 e3 e4 e5 f0 f1 f2 f3 f4 f5 c1 c3 hL hd
    generalize (((((W1.setCell ⟨g, k * 6, none⟩ (.int .i64 0)).setCell ⟨g, k * 6 + 1, none⟩ (.int .i64 0)).setCell ⟨g, k * 6 + 2, none⟩ (.int .i64 0)).setCell ⟨g, k * 6 + 3, none⟩ (.int .i64 0)).setCell ⟨g, k * 6 + 4, none⟩ (.bool false)).setCell ⟨g, k * 6 + 5, none⟩ (.int .i64 f) = W2 at *
    obtain ⟨⟨c0, c1, c2, c3⟩, f0, f1, f2, f3⟩ := H4.out.cells
    obtain ⟨⟨z0, z1, z2, z3⟩, q0, q1, q2, q3⟩ := G0.out.cells
    obtain ⟨⟨y0, y1, y2, y3⟩, -⟩ := G1.out.cells
    have hb2 := H4.out.lt
    have hz2 := G0.out.lt
    have hy2 := G1.out.lt
    have HE := Lib.hid (turn_put HT.out.1 HT.out.2 (Nat.le_refl _) HO.out ⟨x0, x1, x2, x3⟩)
    simp only [put4] at HE
    clear hg hb G0 G1 HT H4 hg0 og hbg a3 a4
    simp only at z0 z1 z2 z3 y0 y1 y2 y3
    generalize w.heap.size = B0 at *
    generalize w2.heap.size = B1 at *
    generalize liveN S = L at *
    go_wp2
    exact bodyPost_ret (v := .tuple #[.agg #[.int .i64 x0, .int .i64 x1, .int .i64 x2, .int .i64 x3], .bool true]) (by simp [results, Try.results44, go_sem, z0, z1, z2, z3, hz2, n1, n2]) rfl ⟨by rw [HX.out]; rfl, HE.out.1, by rw [HS.out]; exact HE.out.2⟩
end Go.Proofs.Ytndljbkjcgfdcaa
