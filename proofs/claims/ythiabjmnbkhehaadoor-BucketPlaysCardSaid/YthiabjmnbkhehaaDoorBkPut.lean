/- Contract of Put of a row of buckets, at every argument. -/
import Derived.Test.YthiabjmnbkhehaaDoorBkDrop
namespace Go.Proofs.YthiabjmnbkhehaaDoor
open Go.RowKit Go.ChangeShapes BkPure
theorem two_same {b : Nat} {w w' : World} {u v : Value} (h : TwoAt b w u v) (hk : w'.heap[b]? = w.heap[b]?) : TwoAt b w' u v := by
  obtain ⟨h0, h1, f0, f1⟩ := h
  exact ⟨(World.cell?_of_block hk).trans h0, (World.cell?_of_block hk).trans h1, (World.frozen?_of_block hk).trans f0, (World.frozen?_of_block hk).trans f1⟩
/-- A row that is turned, beside a variable of two numbers. -/
def PtSt (B : Bl) (w0 : World) (M : Mb) (K : Nat) (p q : Int) (W : World) : Prop := BkSt B w0 M W ∧ TwoAt K W (.int .i64 p) (.int .i64 q) ∧ w0.heap.size ≤ K
section
variable {B : Bl} {w0 W W' : World} {M M' : Mb} {K : Nat} {p q : Int}
theorem PtSt.drawn (h : PtSt B w0 M K p q W) (n : Nat) : PtSt B w0 M K p q (W.drewN n) := ⟨h.1.drawn n, two_same h.2.1 rfl, h.2.2⟩
theorem PtSt.turn (h : PtSt B w0 M K p q W) (ht : Turn (BQ B) W W') (h1 : BkSt B w0 M' W') : PtSt B w0 M' K p q W' :=
  ⟨h1, two_same h.2.1 (ht.2.2.2.2 K h.2.1.lt (fun e => by have := h.1.2.2 K (Or.inl e); have := h.2.2; omega)), h.2.2⟩
theorem turn_S (W : World) (i : Nat) (v : Value) : Turn (BQ B) W (W.setCell ⟨B.gS, i, none⟩ v) := Turn.cell W i v (Or.inr (Or.inr rfl))
theorem turn_S3 (W : World) (i j k : Nat) (u v x : Value) : Turn (BQ B) W (((W.setCell ⟨B.gS, i, none⟩ u).setCell ⟨B.gS, j, none⟩ v).setCell ⟨B.gS, k, none⟩ x) :=
  ((turn_S W i u).trans (turn_S _ j v) (fun _ e => Or.inl e)).trans (turn_S _ k x) (fun _ e => Or.inl e)
theorem PtSt.facts (h : PtSt B w0 M K p q W) :
    (W.cell? ⟨B.b, 0, none⟩ = some (.slice (some ⟨B.gL, 0, none⟩) M.F.length M.F.length) ∧ W.cell? ⟨B.b, 1, none⟩ = some (.slice (some ⟨B.gS, 0, none⟩) M.S.length M.S.length) ∧ W.cell? ⟨B.b, 2, none⟩ = some (.int .i64 M.inn) ∧ W.cell? ⟨B.b, 3, none⟩ = some (.int .i64 M.high) ∧ W.frozen? ⟨B.b, 2, none⟩ = false ∧ W.frozen? ⟨B.b, 3, none⟩ = false) ∧
    (W.cell? ⟨K, 0, none⟩ = some (.int .i64 p) ∧ W.cell? ⟨K, 1, none⟩ = some (.int .i64 q)) ∧
    (B.b < W.heap.size ∧ B.gL < W.heap.size ∧ B.gS < W.heap.size ∧ K < W.heap.size ∧ 0 < W.heap.size) ∧
    ((B.b ≠ B.gL ∧ B.gL ≠ B.b ∧ B.b ≠ B.gS ∧ B.gS ≠ B.b ∧ B.gL ≠ B.gS ∧ B.gS ≠ B.gL) ∧ (K ≠ B.b ∧ B.b ≠ K ∧ K ≠ B.gL ∧ B.gL ≠ K ∧ K ≠ B.gS ∧ B.gS ≠ K)) ∧
    (W.cell? ⟨0, 0, none⟩ = some (.int .i64 (-1)) ∧ W.cell? ⟨0, 1, none⟩ = some (.int .i64 0)) ∧ (0 ≠ B.gS ∧ B.gS ≠ 0) := by
  obtain ⟨h1, h2, h3⟩ := h
  obtain ⟨⟨c0, c1, c2, c3⟩, ⟨f2, f3⟩, ⟨b1, b2, b3⟩, n⟩ := h1.2.1.cells
  have ng : 0 ≠ B.gS := fun e => h1.2.1.2.2.2.2.2.2 _ (Or.inl rfl) (by rw [e]; exact Or.inr (Or.inr rfl))
  exact ⟨⟨c0, c1, c2, c3, f2, f3⟩, ⟨h2.1, h2.2.1⟩, ⟨b1, b2, b3, h2.lt, h1.2.1.lts.1⟩, ⟨n, (h1.far h3).1⟩, h1.2.1.glob.1, ng, fun e => ng e.symm⟩
theorem put_nil (v l : Int) (w : World) :
    Calls Tryd.prog 8 #[.pointer none, .int .i64 v, .int .i64 l] w fun e w' => e = .returned (.bool false) ∧ w = w' := by
  by_cases a : v < 0
  · go_enter Tryd.func8, Tryd.ntmps8
    go_wp2
    go_ret
    exact ⟨rfl, rfl⟩
  · have a1 : v ≥ 0 := by omega
    go_enter Tryd.func8, Tryd.ntmps8
    go_wp2_with (first | (go_at_call 19; refine (room_nil _).mono ?_; rintro e w' ⟨rfl, rfl⟩))
    go_ret
    exact ⟨rfl, rfl⟩
theorem fit_iff {N : Nat} {v l : Int} : fitD N v l = true ↔ (0 ≤ v ∧ v < N ∧ 0 ≤ l ∧ l ≤ 2 * N) := by unfold fitD; exact decide_eq_true_iff
theorem drop_st {N : Nat} {D' : List (Nat × Nat)} (h0 : BkM B M W) (h : DropOut B N D' W W') : ∃ M', BkSt B W M' W' ∧ GoodB N D' M' := by
  obtain ⟨h1, -, M', h2, h3⟩ := h
  exact ⟨M', ⟨h1, h2, fun k e => e.elim (h0.lt k) (h0.glob.lt k)⟩, h3⟩
set_option maxRecDepth 100000 in
set_option maxHeartbeats 4000000 in
theorem put_run {N : Nat} {D : List (Nat × Nat)} (v l : Int) (W : World) (h : BkAt B N D W) :
    Calls Tryd.prog 8 #[.pointer (some ⟨B.b, 0, none⟩), .int .i64 v, .int .i64 l] W fun e W' => e = .returned (.bool (fitD N v l)) ∧ DropOut B N (putD N D v l) W W' := by
  have HAt := Lib.hid h
  obtain ⟨hN, M0, hM0, hg0⟩ := h
  have HM0 := Lib.hid hM0
  obtain ⟨⟨c0, -⟩, -, ⟨hb, -⟩, -⟩ := hM0.cells
  have hlF := hg0.2.1
  have hlS := hg0.2.2.1
  have s1 : (M0.S.length : Int) = (N : Int) := by omega
  have s2 : (M0.F.length : Int) = 2 * (N : Int) + 1 := by omega
  by_cases hf : fitD N v l = true
  · have hf' := fit_iff.1 hf
    obtain ⟨u, rfl⟩ := Int.eq_ofNat_of_zero_le hf'.1
    obtain ⟨L, rfl⟩ := Int.eq_ofNat_of_zero_le hf'.2.2.1
    have a1 : ¬ (u : Int) ≥ (M0.S.length : Int) := by omega
    have a2 : ¬ (L : Int) ≥ (M0.F.length : Int) := by omega
    have hu : u < N := by omega
    have hL : L ≤ 2 * N := by omega
    have hL2 : (L : Int) ≤ 8192 := by omega
    have HW := Lib.hid hf
    have HD : Hid (putD N D (u : Int) (L : Int) = (u, L) :: dropD D (u : Int)) := Lib.hid (by unfold putD; rw [if_pos hf, Int.toNat_natCast, Int.toNat_natCast])
    have HN := Lib.hid hN
    have HUL := Lib.hid (And.intro hu hL)
    clear hf hf' s1 s2 hlF hlS hM0 hg0 hN hu hL
    generalize M0.F.length = KF at *
    go_enter Tryd.func8, Tryd.ntmps8
    go_upto_region 4 with (first
      | (go_at_call 19; refine (room_run _ HM0.out).mono ?_; rintro e w' ⟨rfl, rfl⟩)
      | (go_at_call 10; refine (drop_run (u : Int) _ HAt.out).mono ?_; rintro e w2 ⟨rfl, hd⟩; have HX := Lib.hid (drop_st HM0.out hd); clear hd c0 hb a1 a2))
    obtain ⟨M, hst, hgd⟩ := HX.out
    obtain ⟨f, c, hF, hLF, hvS, hfc, ⟨hc0, hc1⟩, hgp⟩ := good_put hgd HUL.out.1 HUL.out.2 (by rw [lab_drop, if_pos rfl])
    have hi := good_inn hgd
    have hi0 := hi.1
    have hi1 : M.inn ≤ 4096 := by have := HN.out; omega
    have hc2 : c ≤ 4096 := by have := HN.out; omega
    have hh0 := hgd.2.2.2.2.1.1
    have hh1 : M.high ≤ 8193 := by have := HN.out; have := hgd.2.2.2.2.1.2; omega
    have i0 : (0 : Int) ≤ (L : Int) := by omega
    have i1 : (L : Int) < (M.F.length : Int) := by omega
    have j0 : (0 : Int) ≤ (u : Int) := by omega
    have j1 : (u : Int) < (M.S.length : Int) := by omega
    have HP := Lib.hid hgp
    have HLS := Lib.hid (And.intro hLF hvS)
    obtain ⟨⟨c0, -⟩, -, ⟨b1, b2, b3⟩, -⟩ := hst.2.1.cells
    obtain ⟨⟨e0, e1⟩, -⟩ := hst.2.1.getF hF
    have H3 : Hid (PtSt B W M w2.heap.size f c (w2.alloc (.cells #[.int .i64 f, .int .i64 c] 47))) := Lib.hid ⟨hst.alloc _, TwoAt.new _ _ _ _, hst.1.size⟩
    clear hgp hgd hi hc1 hst HX hF hLF hvS
    go_wp2_with fail
    clear c0 b1 b2 b3 e0 e1
    generalize w2.alloc (.cells #[.int .i64 f, .int .i64 c] 47) = W3 at *
    generalize w2.heap.size = K at *
    rcases hfc with ⟨rfl, rfl⟩ | ⟨y, rfl, hy, hcp⟩
    ·
      have H4 := Lib.hid (H3.out.drawn 1)
      refine wp_region_still_tail 10 (by kernel_rfl) (by kernel_rfl) ?_
      change wpStill _ _ (World.drewN W3 1) _ _ _
      change wpStill _ _ _ (fun a' => wpList _ _ _ _ _ (World.drewN W3 1)) _ _
      generalize World.drewN W3 1 = V1 at *
      obtain ⟨⟨c0, c1, c2, c3, g2, g3⟩, ⟨k0, k1⟩, ⟨b1, b2, b3, b4, b5⟩, ⟨⟨n1, n2, n3, n4, n5, n6⟩, n7, n8, n9, n10, n11, n12⟩, ⟨o0, o1⟩, n13, n14⟩ := H4.out.facts
      (try simp only [List.length_set, layBehind_len, layAhead_len] at c0 c1)
      obtain ⟨⟨e0, e1, e2⟩, q0, q1, q2⟩ := H4.out.1.2.1.getS (List.getElem?_eq_getElem HLS.out.2)
      simp only [List.take_succ_cons, List.take_zero, List.drop_succ_cons, List.drop_zero]
      repeat still_step
      refine wpStill_nil ?_
      clear H3
      go_wp2_with fail
      have HP2 : Hid (PtSt B W ⟨M.F, (M.S.set u ((L : Int), -1, (-1))), M.inn, M.high⟩ K (-1) 0 (((V1.setCell ⟨B.gS, u * 3, none⟩ (.int .i64 (L : Int))).setCell ⟨B.gS, u * 3 + 1, none⟩ (.int .i64 (-1))).setCell ⟨B.gS, u * 3 + 2, none⟩ (.int .i64 (-1)))) := Lib.hid (H4.out.turn (turn_S3 _ _ _ _ _ _ _) (H4.out.1.layS HLS.out.2 ((L : Int), -1, (-1))))
      clear H4 e0 e1 e2 q0 q1 q2
      clear c0 c1 c2 c3 g2 g3 k0 k1 b1 b2 b3 b4 b5 n1 n2 n3 n4 n5 n6 n7 n8 n9 n10 n11 n12 n13 n14 o0 o1
      have H6 := Lib.hid (HP2.out.drawn 1)
      refine wp_region_still_tail 11 (by kernel_rfl) (by kernel_rfl) ?_
      change wpStill _ _ (World.drewN (((V1.setCell ⟨B.gS, u * 3, none⟩ (.int .i64 (L : Int))).setCell ⟨B.gS, u * 3 + 1, none⟩ (.int .i64 (-1))).setCell ⟨B.gS, u * 3 + 2, none⟩ (.int .i64 (-1))) 1) _ _ _
      change wpStill _ _ _ (fun a' => wpList _ _ _ _ _ (World.drewN (((V1.setCell ⟨B.gS, u * 3, none⟩ (.int .i64 (L : Int))).setCell ⟨B.gS, u * 3 + 1, none⟩ (.int .i64 (-1))).setCell ⟨B.gS, u * 3 + 2, none⟩ (.int .i64 (-1))) 1)) _ _
      generalize World.drewN (((V1.setCell ⟨B.gS, u * 3, none⟩ (.int .i64 (L : Int))).setCell ⟨B.gS, u * 3 + 1, none⟩ (.int .i64 (-1))).setCell ⟨B.gS, u * 3 + 2, none⟩ (.int .i64 (-1))) 1 = V3 at *
      obtain ⟨⟨c0, c1, c2, c3, g2, g3⟩, ⟨k0, k1⟩, ⟨b1, b2, b3, b4, b5⟩, ⟨⟨n1, n2, n3, n4, n5, n6⟩, n7, n8, n9, n10, n11, n12⟩, ⟨o0, o1⟩, n13, n14⟩ := H6.out.facts
      (try simp only [List.length_set, layBehind_len, layAhead_len] at c0 c1)
      obtain ⟨⟨e0, e1⟩, q0, q1⟩ := H6.out.1.2.1.getF (List.getElem?_eq_getElem HLS.out.1)
      simp only [List.take_succ_cons, List.take_zero, List.drop_succ_cons, List.drop_zero]
      repeat still_step
      refine wpStill_nil ?_
      clear HP2
      have HE : Hid (∀ m, m = max M.high ((L : Int) + 1) → DropOut B N (putD N D (u : Int) (L : Int)) W ((((V3.setCell ⟨B.gL, L * 2, none⟩ (.int .i64 (u : Int))).setCell ⟨B.gL, L * 2 + 1, none⟩ (.int .i64 (0 + 1))).setCell ⟨B.b, 2, none⟩ (.int .i64 (M.inn + 1))).setCell ⟨B.b, 3, none⟩ (.int .i64 m))) := Lib.hid (fun m hm => by
        subst hm
        rw [HD.out]
        have hg := HP.out
        unfold putM at hg
        rw [layAhead_none] at hg
        exact drop_end HN.out hg (((H6.out.1.layF HLS.out.1 ((u : Int), 0 + 1)).layIn (M.inn + 1)).layHigh _))
      clear H6 HP HD
      rcases Int.lt_trichotomy M.high ((L : Int) + 1) with r1 | r1 | r1
      · have r2 : M.high ≤ (L : Int) + 1 := by omega
        have r3 : ¬ (L : Int) + 1 < M.high := by omega
        have r4 : ¬ (L : Int) + 1 ≤ M.high := by omega
        have HM := Lib.hid (HE.out ((L : Int) + 1) (by omega))
        go_wp2
        go_ret
        exact ⟨bool_ret HW.out.symm, HM.out⟩
      · have HM := Lib.hid (HE.out ((L : Int) + 1) (by omega))
        rw [r1] at c3
        go_wp2
        go_ret
        exact ⟨bool_ret HW.out.symm, HM.out⟩
      · have r2 : ¬ M.high ≤ (L : Int) + 1 := by omega
        have r3 : ¬ M.high < (L : Int) + 1 := by omega
        have r4 : (L : Int) + 1 ≤ M.high := by omega
        have r5 : (L : Int) + 1 < M.high := by omega
        have HM := Lib.hid (HE.out M.high (by omega))
        go_wp2
        go_ret
        exact ⟨bool_ret HW.out.symm, HM.out⟩
    ·
      have H4 := Lib.hid (H3.out.drawn 1)
      refine wp_region_still_tail 10 (by kernel_rfl) (by kernel_rfl) ?_
      change wpStill _ _ (World.drewN W3 1) _ _ _
      change wpStill _ _ _ (fun a' => wpList _ _ _ _ _ (World.drewN W3 1)) _ _
      generalize World.drewN W3 1 = V1 at *
      obtain ⟨⟨c0, c1, c2, c3, g2, g3⟩, ⟨k0, k1⟩, ⟨b1, b2, b3, b4, b5⟩, ⟨⟨n1, n2, n3, n4, n5, n6⟩, n7, n8, n9, n10, n11, n12⟩, ⟨o0, o1⟩, n13, n14⟩ := H4.out.facts
      (try simp only [List.length_set, layBehind_len, layAhead_len] at c0 c1)
      obtain ⟨⟨e0, e1, e2⟩, q0, q1, q2⟩ := H4.out.1.2.1.getS (List.getElem?_eq_getElem HLS.out.2)
      simp only [List.take_succ_cons, List.take_zero, List.drop_succ_cons, List.drop_zero]
      repeat still_step
      refine wpStill_nil ?_
      clear H3
      have tc : ((c : Int) == 0) = false := by
        have : ¬ c = 0 := by omega
        simpa using this
      go_wp2_with fail
      have HP2 : Hid (PtSt B W ⟨M.F, (M.S.set u ((L : Int), -1, (y : Int))), M.inn, M.high⟩ K (y : Int) c (((V1.setCell ⟨B.gS, u * 3, none⟩ (.int .i64 (L : Int))).setCell ⟨B.gS, u * 3 + 1, none⟩ (.int .i64 (-1))).setCell ⟨B.gS, u * 3 + 2, none⟩ (.int .i64 (y : Int)))) := Lib.hid (H4.out.turn (turn_S3 _ _ _ _ _ _ _) (H4.out.1.layS HLS.out.2 ((L : Int), -1, (y : Int))))
      clear H4 e0 e1 e2 q0 q1 q2
      clear c0 c1 c2 c3 g2 g3 k0 k1 b1 b2 b3 b4 b5 n1 n2 n3 n4 n5 n6 n7 n8 n9 n10 n11 n12 n13 n14 o0 o1
      have H5 := Lib.hid (HP2.out.drawn 1)
      refine wp_region_still_tail 9 (by kernel_rfl) (by kernel_rfl) ?_
      change wpStill _ _ (World.drewN (((V1.setCell ⟨B.gS, u * 3, none⟩ (.int .i64 (L : Int))).setCell ⟨B.gS, u * 3 + 1, none⟩ (.int .i64 (-1))).setCell ⟨B.gS, u * 3 + 2, none⟩ (.int .i64 (y : Int))) 1) _ _ _
      change wpStill _ _ _ (fun a' => wpList _ _ _ _ _ (World.drewN (((V1.setCell ⟨B.gS, u * 3, none⟩ (.int .i64 (L : Int))).setCell ⟨B.gS, u * 3 + 1, none⟩ (.int .i64 (-1))).setCell ⟨B.gS, u * 3 + 2, none⟩ (.int .i64 (y : Int))) 1)) _ _
      generalize World.drewN (((V1.setCell ⟨B.gS, u * 3, none⟩ (.int .i64 (L : Int))).setCell ⟨B.gS, u * 3 + 1, none⟩ (.int .i64 (-1))).setCell ⟨B.gS, u * 3 + 2, none⟩ (.int .i64 (y : Int))) 1 = V2 at *
      obtain ⟨⟨c0, c1, c2, c3, g2, g3⟩, ⟨k0, k1⟩, ⟨b1, b2, b3, b4, b5⟩, ⟨⟨n1, n2, n3, n4, n5, n6⟩, n7, n8, n9, n10, n11, n12⟩, ⟨o0, o1⟩, n13, n14⟩ := H5.out.facts
      (try simp only [List.length_set, layBehind_len, layAhead_len] at c0 c1)
      have hy2 : y < (M.S.set u ((L : Int), -1, (y : Int))).length := by rw [List.length_set]; exact hy
      obtain ⟨⟨e0, e1, e2⟩, q0, q1, q2⟩ := H5.out.1.2.1.getS (List.getElem?_eq_getElem hy2)
      have hy1 : (y : Int) < (M.S.length : Int) := by omega
      have hy0 : (0 : Int) ≤ (y : Int) := by omega
      simp only [List.take_succ_cons, List.take_zero, List.drop_succ_cons, List.drop_zero]
      repeat still_step
      refine wpStill_nil ?_
      clear HP2
      go_wp2_with fail
      have HP3 : Hid (PtSt B W ⟨M.F, (layAhead (M.S.set u ((L : Int), -1, (y : Int))) (y : Int) (u : Int)), M.inn, M.high⟩ K (y : Int) c (V2.setCell ⟨B.gS, y * 3 + 1, none⟩ (.int .i64 (u : Int)))) := Lib.hid (H5.out.turn (turn_S _ _ _) (H5.out.1.layS1 hy2 (u : Int)))
      clear H5 e0 e1 e2 q0 q1 q2
      clear c0 c1 c2 c3 g2 g3 k0 k1 b1 b2 b3 b4 b5 n1 n2 n3 n4 n5 n6 n7 n8 n9 n10 n11 n12 n13 n14 o0 o1
      have H6 := Lib.hid (HP3.out.drawn 1)
      refine wp_region_still_tail 11 (by kernel_rfl) (by kernel_rfl) ?_
      change wpStill _ _ (World.drewN (V2.setCell ⟨B.gS, y * 3 + 1, none⟩ (.int .i64 (u : Int))) 1) _ _ _
      change wpStill _ _ _ (fun a' => wpList _ _ _ _ _ (World.drewN (V2.setCell ⟨B.gS, y * 3 + 1, none⟩ (.int .i64 (u : Int))) 1)) _ _
      generalize World.drewN (V2.setCell ⟨B.gS, y * 3 + 1, none⟩ (.int .i64 (u : Int))) 1 = V3 at *
      obtain ⟨⟨c0, c1, c2, c3, g2, g3⟩, ⟨k0, k1⟩, ⟨b1, b2, b3, b4, b5⟩, ⟨⟨n1, n2, n3, n4, n5, n6⟩, n7, n8, n9, n10, n11, n12⟩, ⟨o0, o1⟩, n13, n14⟩ := H6.out.facts
      (try simp only [List.length_set, layBehind_len, layAhead_len] at c0 c1)
      obtain ⟨⟨e0, e1⟩, q0, q1⟩ := H6.out.1.2.1.getF (List.getElem?_eq_getElem HLS.out.1)
      simp only [List.take_succ_cons, List.take_zero, List.drop_succ_cons, List.drop_zero]
      repeat still_step
      refine wpStill_nil ?_
      clear HP3
      have HE : Hid (∀ m, m = max M.high ((L : Int) + 1) → DropOut B N (putD N D (u : Int) (L : Int)) W ((((V3.setCell ⟨B.gL, L * 2, none⟩ (.int .i64 (u : Int))).setCell ⟨B.gL, L * 2 + 1, none⟩ (.int .i64 (c + 1))).setCell ⟨B.b, 2, none⟩ (.int .i64 (M.inn + 1))).setCell ⟨B.b, 3, none⟩ (.int .i64 m))) := Lib.hid (fun m hm => by
        subst hm
        rw [HD.out]
        have hg := HP.out
        unfold putM at hg
        exact drop_end HN.out hg (((H6.out.1.layF HLS.out.1 ((u : Int), c + 1)).layIn (M.inn + 1)).layHigh _))
      clear H6 HP HD
      rcases Int.lt_trichotomy M.high ((L : Int) + 1) with r1 | r1 | r1
      · have r2 : M.high ≤ (L : Int) + 1 := by omega
        have r3 : ¬ (L : Int) + 1 < M.high := by omega
        have r4 : ¬ (L : Int) + 1 ≤ M.high := by omega
        have HM := Lib.hid (HE.out ((L : Int) + 1) (by omega))
        go_wp2
        go_ret
        exact ⟨bool_ret HW.out.symm, HM.out⟩
      · have HM := Lib.hid (HE.out ((L : Int) + 1) (by omega))
        rw [r1] at c3
        go_wp2
        go_ret
        exact ⟨bool_ret HW.out.symm, HM.out⟩
      · have r2 : ¬ M.high ≤ (L : Int) + 1 := by omega
        have r3 : ¬ M.high < (L : Int) + 1 := by omega
        have r4 : (L : Int) + 1 ≤ M.high := by omega
        have r5 : (L : Int) + 1 < M.high := by omega
        have HM := Lib.hid (HE.out M.high (by omega))
        go_wp2
        go_ret
        exact ⟨bool_ret HW.out.symm, HM.out⟩
  · have hff : fitD N v l = false := by simpa using hf
    have HW := Lib.hid hff
    have HE : Hid (DropOut B N (putD N D v l) W W) := Lib.hid ⟨Turn.refl _ _, by unfold putD; rw [if_neg hf]; exact HAt.out⟩
    rw [fit_iff] at hf
    clear hff HAt hg0 hN
    by_cases a : v < 0
    · go_enter Tryd.func8, Tryd.ntmps8
      go_wp2_with (first | (go_at_call 19; refine (room_run _ HM0.out).mono ?_; rintro e w' ⟨rfl, rfl⟩))
      go_ret
      exact ⟨bool_ret HW.out.symm, HE.out⟩
    by_cases a2 : v ≥ (M0.S.length : Int)
    · go_enter Tryd.func8, Tryd.ntmps8
      go_wp2_with (first | (go_at_call 19; refine (room_run _ HM0.out).mono ?_; rintro e w' ⟨rfl, rfl⟩))
      go_ret
      exact ⟨bool_ret HW.out.symm, HE.out⟩
    by_cases a3 : l < 0
    · go_enter Tryd.func8, Tryd.ntmps8
      go_wp2_with (first | (go_at_call 19; refine (room_run _ HM0.out).mono ?_; rintro e w' ⟨rfl, rfl⟩))
      go_ret
      exact ⟨bool_ret HW.out.symm, HE.out⟩
    have a4 : l ≥ (M0.F.length : Int) := by omega
    clear hf s1 s2
    go_enter Tryd.func8, Tryd.ntmps8
    go_wp2_with (first | (go_at_call 19; refine (room_run _ HM0.out).mono ?_; rintro e w' ⟨rfl, rfl⟩))
    go_ret
    exact ⟨bool_ret HW.out.symm, HE.out⟩
end
end Go.Proofs.YthiabjmnbkhehaaDoor
