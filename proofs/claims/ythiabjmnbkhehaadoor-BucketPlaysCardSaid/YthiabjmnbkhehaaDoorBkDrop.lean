/- Contract of Drop of a row of buckets, at every argument. -/
import Derived.Test.YthiabjmnbkhehaaDoorBkAsk
namespace Go.Proofs.YthiabjmnbkhehaaDoor
open Go.RowKit Go.ChangeShapes BkPure
theorem three_same {b : Nat} {w w' : World} {u v x : Value} (h : ThreeAt b w u v x) (hk : w'.heap[b]? = w.heap[b]?) : ThreeAt b w' u v x := by
  obtain ⟨h0, h1, h2, f0, f1, f2⟩ := h
  exact ⟨(World.cell?_of_block hk).trans h0, (World.cell?_of_block hk).trans h1, (World.cell?_of_block hk).trans h2, (World.frozen?_of_block hk).trans f0, (World.frozen?_of_block hk).trans f1, (World.frozen?_of_block hk).trans f2⟩
/-- A row that is turned, beside a variable of three numbers. -/
def DrSt (B : Bl) (w0 : World) (M : Mb) (K : Nat) (p q r : Int) (W : World) : Prop := BkSt B w0 M W ∧ ThreeAt K W (.int .i64 p) (.int .i64 q) (.int .i64 r) ∧ w0.heap.size ≤ K
section
variable {B : Bl} {w0 W W' : World} {M M' : Mb} {K : Nat} {p q r : Int}
theorem DrSt.drawn (h : DrSt B w0 M K p q r W) (n : Nat) : DrSt B w0 M K p q r (W.drewN n) := ⟨h.1.drawn n, three_same h.2.1 rfl, h.2.2⟩
theorem DrSt.cell {b i : Nat} {v : Value} (h : DrSt B w0 M K p q r W) (hb : BQ B b) (h1 : BkSt B w0 M' (W.setCell ⟨b, i, none⟩ v)) : DrSt B w0 M' K p q r (W.setCell ⟨b, i, none⟩ v) :=
  ⟨h1, three_same h.2.1 (cell_other (fun e => by have := h.1.2.2 b (Or.inl hb); have := h.2.2; omega)), h.2.2⟩
theorem DrSt.facts (h : DrSt B w0 M K p q r W) :
    (W.cell? ⟨B.b, 0, none⟩ = some (.slice (some ⟨B.gL, 0, none⟩) M.F.length M.F.length) ∧ W.cell? ⟨B.b, 1, none⟩ = some (.slice (some ⟨B.gS, 0, none⟩) M.S.length M.S.length) ∧ W.cell? ⟨B.b, 2, none⟩ = some (.int .i64 M.inn) ∧ W.frozen? ⟨B.b, 2, none⟩ = false) ∧
    (W.cell? ⟨K, 0, none⟩ = some (.int .i64 p) ∧ W.cell? ⟨K, 1, none⟩ = some (.int .i64 q) ∧ W.cell? ⟨K, 2, none⟩ = some (.int .i64 r)) ∧
    (B.b < W.heap.size ∧ B.gL < W.heap.size ∧ B.gS < W.heap.size ∧ K < W.heap.size ∧ 1 < W.heap.size) ∧
    ((B.b ≠ B.gL ∧ B.gL ≠ B.b ∧ B.b ≠ B.gS ∧ B.gS ≠ B.b ∧ B.gL ≠ B.gS ∧ B.gS ≠ B.gL) ∧ (K ≠ B.b ∧ B.b ≠ K ∧ K ≠ B.gL ∧ B.gL ≠ K ∧ K ≠ B.gS ∧ B.gS ≠ K)) ∧
    (W.cell? ⟨1, 0, none⟩ = some (.int .i64 (-1)) ∧ W.cell? ⟨1, 1, none⟩ = some (.int .i64 (-1)) ∧ W.cell? ⟨1, 2, none⟩ = some (.int .i64 (-1))) := by
  obtain ⟨h1, h2, h3⟩ := h
  obtain ⟨⟨c0, c1, c2, c3⟩, ⟨f2, f3⟩, ⟨b1, b2, b3⟩, n⟩ := h1.2.1.cells
  exact ⟨⟨c0, c1, c2, f2⟩, ⟨h2.1, h2.2.1, h2.2.2.1⟩, ⟨b1, b2, b3, h2.lt, h1.2.1.lts.2⟩, ⟨n, (h1.far h3).1⟩, h1.2.1.glob.2⟩
theorem drop_nil (v : Int) (w : World) (h : GlobAt w) :
    Calls Tryd.prog 10 #[.pointer none, .int .i64 v] w fun e w' => e = .returned (.bool false) ∧ Below w.heap.size w w' := by
  have H := Lib.hid h
  clear h
  go_enter Tryd.func10, Tryd.ntmps10
  go_wp2_with fail
  refine (at_nil _ _ H.out).mono ?_
  rintro e w2 ⟨rfl, hb⟩
  obtain ⟨-, o0, o1, o2⟩ := H.out.keep hb
  have l1 : 1 < w2.heap.size := World.block_lt_of_cell? w2 _ o0
  have HB := Lib.hid (fun o => hb.alloc hb.size o)
  clear hb H
  unfold encS3 out3
  simp only
  go_wp2
  go_ret
  exact ⟨rfl, HB.out _⟩
theorem layAhead_none (S : List (Int × Int × Int)) (a : Int) : layAhead S (-1) a = S := if_pos (by decide)
theorem dropM_no (M : Mb) (v L : Nat) (z f c : Int) : dropM M v L (-1) z f c = ⟨M.F.set L (z, c - 1), (layAhead M.S z (-1)).set v out3, M.inn - 1, M.high⟩ := rfl
theorem dropM_x (M : Mb) (v L x : Nat) (z f c : Int) : dropM M v L (x : Int) z f c = ⟨M.F.set L (f, c - 1), (layAhead (layBehind M.S (x : Int) z) z (x : Int)).set v out3, M.inn - 1, M.high⟩ := by
  unfold dropM
  rw [if_neg (by omega)]
def DropOut (B : Bl) (N : Nat) (D : List (Nat × Nat)) (W W' : World) : Prop := Turn (BQ B) W W' ∧ BkAt B N D W'
theorem drop_end {N : Nat} {D : List (Nat × Nat)} (hN : N ≤ 4096) (hg : GoodB N D M) (h : BkSt B w0 M W) : DropOut B N D w0 W := ⟨h.1, hN, M, h.2.1, hg⟩
set_option maxRecDepth 100000 in
set_option maxHeartbeats 4000000 in
theorem drop_run {N : Nat} {D : List (Nat × Nat)} (v : Int) (W : World) (h : BkAt B N D W) :
    Calls Tryd.prog 10 #[.pointer (some ⟨B.b, 0, none⟩), .int .i64 v] W fun e W' => e = .returned (.bool (wasD D v)) ∧ DropOut B N (dropD D v) W W' := by
  have HAt := Lib.hid h
  obtain ⟨hN, M, hM, hg⟩ := h
  have HM := Lib.hid hM
  rcases lab_cases D v with ⟨hl, hno⟩ | ⟨u, L, rfl, hl, hm⟩
  · have HW : Hid (wasD D v = false) := Lib.hid (was_iff.2 hl)
    have HA : Hid (atS M v = out3) := Lib.hid ((at_lab hg v).2 hl)
    have HD : Hid (dropD D v = D) := Lib.hid (drop_none hno)
    have HGd := Lib.hid hg
    clear hg hM hl hno hN
    go_enter Tryd.func10, Tryd.ntmps10
    go_wp2_with fail
    refine (at_run _ _ HM.out).mono ?_
    rintro e w2 ⟨rfl, hb⟩
    rw [HA.out]
    have hM2 := HM.out.keep hb
    obtain ⟨-, o0, o1, o2⟩ := hM2.glob
    have l1 := hM2.lts.2
    have HB := Lib.hid (fun o => hb.alloc hb.size o)
    clear hb hM2
    unfold encS3 out3
    simp only
    go_wp2
    go_ret
    exact ⟨bool_ret HW.out.symm, Turn.ofBelow (HB.out _), by rw [HD.out]; exact ⟨HAt.out.1, M, HM.out.keep (HB.out _), HGd.out⟩⟩
  obtain ⟨a, z, f, c, hs, hF, hLF, hvS, ha, hz, ⟨hc0, hc1⟩, hgd⟩ := good_drop hg hm
  have hi := good_inn hg
  have hi0 := hi.1
  have hi1 : M.inn ≤ 4096 := by omega
  have hc2 : c ≤ 4096 := by omega
  clear hi hc1
  have HW : Hid (wasD D (u : Int) = true) := Lib.hid (decide_eq_true (by omega))
  have HA : Hid (atS M (u : Int) = ((L : Int), a, z)) := Lib.hid (atS_of hs)
  have HG := Lib.hid hgd
  have HN := Lib.hid hN
  have HF := Lib.hid hF
  have HS := Lib.hid hs
  have i0 : (0 : Int) ≤ (L : Int) := by omega
  have i1 : (L : Int) < (M.F.length : Int) := by omega
  have j0 : (0 : Int) ≤ (u : Int) := by omega
  have j1 : (u : Int) < (M.S.length : Int) := by omega
  have HvS := Lib.hid hvS
  have HLF := Lib.hid hLF
  clear hgd hs hg hM hl hm hN hF hLF hvS HAt
  go_enter Tryd.func10, Tryd.ntmps10
  go_wp2_with fail
  refine (at_run _ _ HM.out).mono ?_
  rintro e w2 ⟨rfl, hb⟩
  rw [HA.out]
  have H3 : Hid (DrSt B W M w2.heap.size (L : Int) a z (w2.alloc (.cells #[.int .i64 (L : Int), .int .i64 a, .int .i64 z] 49))) := Lib.hid ⟨((BkSt.start HM.out).keep hb).alloc _, ThreeAt.new _ _ _ _ _, hb.size⟩
  have hM2 := HM.out.keep hb
  obtain ⟨-, o0, o1, o2⟩ := hM2.glob
  have l1 := hM2.lts.2
  clear hb hM2
  unfold encS3
  simp only
  go_wp2_with fail
  clear o0 o1 o2 l1
  generalize w2.alloc (.cells #[.int .i64 (L : Int), .int .i64 a, .int .i64 z] 49) = W3 at *
  generalize w2.heap.size = K at *
  have HP : Hid (∀ n, DrSt B W ⟨M.F.set L (f, c - 1), M.S, M.inn, M.high⟩ K (L : Int) a z ((W3.drewN n).setCell ⟨B.gL, L * 2 + 1, none⟩ (.int .i64 (c - 1)))) := Lib.hid fun n => (H3.out.drawn n).cell (Or.inr (Or.inl rfl)) ((H3.out.drawn n).1.layF1 HF.out (c - 1))
  obtain ⟨⟨c0, c1, c2, g2⟩, ⟨k0, k1, k2⟩, ⟨b1, b2, b3, b4, b5⟩, ⟨⟨n1, n2, n3, n4, n5, n6⟩, n7, n8, n9, n10, n11, n12⟩, o0, o1, o2⟩ := H3.out.facts
  obtain ⟨⟨e0, e1⟩, q0, q1⟩ := H3.out.1.2.1.getF HF.out
  rcases ha with rfl | ⟨x, rfl, hx⟩ <;> rcases hz with rfl | ⟨y, rfl, hy⟩
  ·
    go_quiet (fail)
    go_wp2_with fail
    have HP2 : Hid (DrSt B W ⟨M.F.set L (-1, c - 1), M.S, M.inn, M.high⟩ K (L : Int) (-1) (-1) (((W3.drewN nq).setCell ⟨B.gL, L * 2 + 1, none⟩ (.int .i64 (c - 1))).setCell ⟨B.gL, L * 2, none⟩ (.int .i64 (-1)))) := Lib.hid (by
      have := (HP.out nq).cell (Or.inr (Or.inl rfl)) ((HP.out nq).1.layF0 (i := L) (c := (f, c - 1)) (set_set_at (y := (f, c)) HLF.out) (-1))
      simpa only [List.set_set] using this)
    clear HP H3
    clear c0 c1 c2 g2 k0 k1 k2 b1 b2 b3 b4 b5 n1 n2 n3 n4 n5 n6 n7 n8 n9 n10 n11 n12 o0 o1 o2
    have H6 := Lib.hid (HP2.out.drawn 1)
    try clear e0 e1 q0 q1
    refine wp_region_still_tail 7 (by kernel_rfl) (by kernel_rfl) ?_
    change wpStill _ _ (World.drewN (((W3.drewN nq).setCell ⟨B.gL, L * 2 + 1, none⟩ (.int .i64 (c - 1))).setCell ⟨B.gL, L * 2, none⟩ (.int .i64 (-1))) 1) _ _ _
    change wpStill _ _ _ (fun a' => wpList _ _ _ _ _ (World.drewN (((W3.drewN nq).setCell ⟨B.gL, L * 2 + 1, none⟩ (.int .i64 (c - 1))).setCell ⟨B.gL, L * 2, none⟩ (.int .i64 (-1))) 1)) _ _
    generalize World.drewN (((W3.drewN nq).setCell ⟨B.gL, L * 2 + 1, none⟩ (.int .i64 (c - 1))).setCell ⟨B.gL, L * 2, none⟩ (.int .i64 (-1))) 1 = V3 at *
    obtain ⟨⟨c0, c1, c2, g2⟩, ⟨k0, k1, k2⟩, ⟨b1, b2, b3, b4, b5⟩, ⟨⟨n1, n2, n3, n4, n5, n6⟩, n7, n8, n9, n10, n11, n12⟩, o0, o1, o2⟩ := H6.out.facts
    obtain ⟨s, hs⟩ : ∃ s, (M.S)[u]? = some s := ⟨_, List.getElem?_eq_getElem (by first | exact HvS.out | (rw [layBehind_len]; exact HvS.out) | (rw [layAhead_len]; exact HvS.out) | (rw [layAhead_len, layBehind_len]; exact HvS.out))⟩
    obtain ⟨⟨e0, e1, e2⟩, q0, q1, q2⟩ := H6.out.1.2.1.getS hs
    clear hs
    simp only [List.length_set, layBehind_len, layAhead_len] at c0 c1
    clear HP2
    simp only [List.take_succ_cons, List.take_zero, List.drop_succ_cons, List.drop_zero]
    repeat still_step
    refine wpStill_nil ?_
    have HE : Hid (DropOut B N (dropD D (u : Int)) W ((((V3.setCell ⟨B.gS, u * 3, none⟩ (.int .i64 (-1))).setCell ⟨B.gS, u * 3 + 1, none⟩ (.int .i64 (-1))).setCell ⟨B.gS, u * 3 + 2, none⟩ (.int .i64 (-1))).setCell ⟨B.b, 2, none⟩ (.int .i64 (M.inn - 1)))) := Lib.hid (by
      have hg := HG.out
      rw [dropM_no] at hg
      rw [layAhead_none] at hg
      exact drop_end HN.out hg ((H6.out.1.layS (v := u) (by first | exact HvS.out | (rw [layBehind_len]; exact HvS.out) | (rw [layAhead_len]; exact HvS.out) | (rw [layAhead_len, layBehind_len]; exact HvS.out)) out3).layIn (M.inn - 1)))
    clear H6 HG
    go_wp2
    go_ret
    exact ⟨bool_ret HW.out.symm, HE.out⟩
  ·
    go_quiet (fail)
    go_wp2_with fail
    have HP2 : Hid (DrSt B W ⟨M.F.set L ((y : Int), c - 1), M.S, M.inn, M.high⟩ K (L : Int) (-1) (y : Int) (((W3.drewN nq).setCell ⟨B.gL, L * 2 + 1, none⟩ (.int .i64 (c - 1))).setCell ⟨B.gL, L * 2, none⟩ (.int .i64 (y : Int)))) := Lib.hid (by
      have := (HP.out nq).cell (Or.inr (Or.inl rfl)) ((HP.out nq).1.layF0 (i := L) (c := (f, c - 1)) (set_set_at (y := (f, c)) HLF.out) (y : Int))
      simpa only [List.set_set] using this)
    clear HP H3
    clear c0 c1 c2 g2 k0 k1 k2 b1 b2 b3 b4 b5 n1 n2 n3 n4 n5 n6 n7 n8 n9 n10 n11 n12 o0 o1 o2
    have H5 := Lib.hid (HP2.out.drawn 1)
    try clear e0 e1 q0 q1
    refine wp_region_still_tail 10 (by kernel_rfl) (by kernel_rfl) ?_
    change wpStill _ _ (World.drewN (((W3.drewN nq).setCell ⟨B.gL, L * 2 + 1, none⟩ (.int .i64 (c - 1))).setCell ⟨B.gL, L * 2, none⟩ (.int .i64 (y : Int))) 1) _ _ _
    change wpStill _ _ _ (fun a' => wpList _ _ _ _ _ (World.drewN (((W3.drewN nq).setCell ⟨B.gL, L * 2 + 1, none⟩ (.int .i64 (c - 1))).setCell ⟨B.gL, L * 2, none⟩ (.int .i64 (y : Int))) 1)) _ _
    generalize World.drewN (((W3.drewN nq).setCell ⟨B.gL, L * 2 + 1, none⟩ (.int .i64 (c - 1))).setCell ⟨B.gL, L * 2, none⟩ (.int .i64 (y : Int))) 1 = V2 at *
    obtain ⟨⟨c0, c1, c2, g2⟩, ⟨k0, k1, k2⟩, ⟨b1, b2, b3, b4, b5⟩, ⟨⟨n1, n2, n3, n4, n5, n6⟩, n7, n8, n9, n10, n11, n12⟩, o0, o1, o2⟩ := H5.out.facts
    obtain ⟨s, hs⟩ : ∃ s, (M.S)[y]? = some s := ⟨_, List.getElem?_eq_getElem (by first | exact hy | (rw [layBehind_len]; exact hy))⟩
    obtain ⟨⟨e0, e1, e2⟩, q0, q1, q2⟩ := H5.out.1.2.1.getS hs
    clear hs
    simp only [List.length_set, layBehind_len, layAhead_len] at c0 c1
    have hy1 : (y : Int) < (M.S.length : Int) := by omega
    simp only [List.take_succ_cons, List.take_zero, List.drop_succ_cons, List.drop_zero]
    repeat still_step
    refine wpStill_nil ?_
    have hy0 : (0 : Int) ≤ (y : Int) := by omega
    go_wp2_with fail
    have HP4 : Hid (DrSt B W ⟨M.F.set L ((y : Int), c - 1), (layAhead M.S (y : Int) (-1)), M.inn, M.high⟩ K (L : Int) (-1) (y : Int) (V2.setCell ⟨B.gS, y * 3 + 1, none⟩ (.int .i64 (-1)))) := Lib.hid (H5.out.cell (Or.inr (Or.inr rfl)) (H5.out.1.layS1 (by first | exact hy | (rw [layBehind_len]; exact hy)) (-1)))
    clear H5 HP2 e2 q2
    clear c0 c1 c2 g2 k0 k1 k2 b1 b2 b3 b4 b5 n1 n2 n3 n4 n5 n6 n7 n8 n9 n10 n11 n12 o0 o1 o2
    have H6 := Lib.hid (HP4.out.drawn 1)
    try clear e0 e1 q0 q1
    refine wp_region_still_tail 7 (by kernel_rfl) (by kernel_rfl) ?_
    change wpStill _ _ (World.drewN (V2.setCell ⟨B.gS, y * 3 + 1, none⟩ (.int .i64 (-1))) 1) _ _ _
    change wpStill _ _ _ (fun a' => wpList _ _ _ _ _ (World.drewN (V2.setCell ⟨B.gS, y * 3 + 1, none⟩ (.int .i64 (-1))) 1)) _ _
    generalize World.drewN (V2.setCell ⟨B.gS, y * 3 + 1, none⟩ (.int .i64 (-1))) 1 = V3 at *
    obtain ⟨⟨c0, c1, c2, g2⟩, ⟨k0, k1, k2⟩, ⟨b1, b2, b3, b4, b5⟩, ⟨⟨n1, n2, n3, n4, n5, n6⟩, n7, n8, n9, n10, n11, n12⟩, o0, o1, o2⟩ := H6.out.facts
    obtain ⟨s, hs⟩ : ∃ s, ((layAhead M.S (y : Int) (-1)))[u]? = some s := ⟨_, List.getElem?_eq_getElem (by first | exact HvS.out | (rw [layBehind_len]; exact HvS.out) | (rw [layAhead_len]; exact HvS.out) | (rw [layAhead_len, layBehind_len]; exact HvS.out))⟩
    obtain ⟨⟨e0, e1, e2⟩, q0, q1, q2⟩ := H6.out.1.2.1.getS hs
    clear hs
    simp only [List.length_set, layBehind_len, layAhead_len] at c0 c1
    clear HP4
    simp only [List.take_succ_cons, List.take_zero, List.drop_succ_cons, List.drop_zero]
    repeat still_step
    refine wpStill_nil ?_
    have HE : Hid (DropOut B N (dropD D (u : Int)) W ((((V3.setCell ⟨B.gS, u * 3, none⟩ (.int .i64 (-1))).setCell ⟨B.gS, u * 3 + 1, none⟩ (.int .i64 (-1))).setCell ⟨B.gS, u * 3 + 2, none⟩ (.int .i64 (-1))).setCell ⟨B.b, 2, none⟩ (.int .i64 (M.inn - 1)))) := Lib.hid (by
      have hg := HG.out
      rw [dropM_no] at hg
      exact drop_end HN.out hg ((H6.out.1.layS (v := u) (by first | exact HvS.out | (rw [layBehind_len]; exact HvS.out) | (rw [layAhead_len]; exact HvS.out) | (rw [layAhead_len, layBehind_len]; exact HvS.out)) out3).layIn (M.inn - 1)))
    clear H6 HG
    go_wp2
    go_ret
    exact ⟨bool_ret HW.out.symm, HE.out⟩
  ·
    go_quiet (fail)
    go_wp2_with fail
    have HP2 : Hid (DrSt B W ⟨M.F.set L (f, c - 1), M.S, M.inn, M.high⟩ K (L : Int) (x : Int) (-1) ((W3.drewN nq).setCell ⟨B.gL, L * 2 + 1, none⟩ (.int .i64 (c - 1)))) := Lib.hid (HP.out nq)
    clear HP H3
    clear c0 c1 c2 g2 k0 k1 k2 b1 b2 b3 b4 b5 n1 n2 n3 n4 n5 n6 n7 n8 n9 n10 n11 n12 o0 o1 o2
    have H4 := Lib.hid (HP2.out.drawn 1)
    try clear e0 e1 q0 q1
    refine wp_region_still_tail 10 (by kernel_rfl) (by kernel_rfl) ?_
    change wpStill _ _ (World.drewN ((W3.drewN nq).setCell ⟨B.gL, L * 2 + 1, none⟩ (.int .i64 (c - 1))) 1) _ _ _
    change wpStill _ _ _ (fun a' => wpList _ _ _ _ _ (World.drewN ((W3.drewN nq).setCell ⟨B.gL, L * 2 + 1, none⟩ (.int .i64 (c - 1))) 1)) _ _
    generalize World.drewN ((W3.drewN nq).setCell ⟨B.gL, L * 2 + 1, none⟩ (.int .i64 (c - 1))) 1 = V1 at *
    obtain ⟨⟨c0, c1, c2, g2⟩, ⟨k0, k1, k2⟩, ⟨b1, b2, b3, b4, b5⟩, ⟨⟨n1, n2, n3, n4, n5, n6⟩, n7, n8, n9, n10, n11, n12⟩, o0, o1, o2⟩ := H4.out.facts
    obtain ⟨s, hs⟩ : ∃ s, (M.S)[x]? = some s := ⟨_, List.getElem?_eq_getElem hx⟩
    obtain ⟨⟨e0, e1, e2⟩, q0, q1, q2⟩ := H4.out.1.2.1.getS hs
    clear hs
    simp only [List.length_set, layBehind_len, layAhead_len] at c0 c1
    have hx1 : (x : Int) < (M.S.length : Int) := by omega
    simp only [List.take_succ_cons, List.take_zero, List.drop_succ_cons, List.drop_zero]
    repeat still_step
    refine wpStill_nil ?_
    have hx0 : (0 : Int) ≤ (x : Int) := by omega
    go_wp2_with fail
    have HP3 : Hid (DrSt B W ⟨M.F.set L (f, c - 1), (layBehind M.S (x : Int) (-1)), M.inn, M.high⟩ K (L : Int) (x : Int) (-1) (V1.setCell ⟨B.gS, x * 3 + 2, none⟩ (.int .i64 (-1)))) := Lib.hid (H4.out.cell (Or.inr (Or.inr rfl)) (H4.out.1.layS2 hx (-1)))
    clear H4 HP2 e2 q2
    clear c0 c1 c2 g2 k0 k1 k2 b1 b2 b3 b4 b5 n1 n2 n3 n4 n5 n6 n7 n8 n9 n10 n11 n12 o0 o1 o2
    have H6 := Lib.hid (HP3.out.drawn 1)
    try clear e0 e1 q0 q1
    refine wp_region_still_tail 7 (by kernel_rfl) (by kernel_rfl) ?_
    change wpStill _ _ (World.drewN (V1.setCell ⟨B.gS, x * 3 + 2, none⟩ (.int .i64 (-1))) 1) _ _ _
    change wpStill _ _ _ (fun a' => wpList _ _ _ _ _ (World.drewN (V1.setCell ⟨B.gS, x * 3 + 2, none⟩ (.int .i64 (-1))) 1)) _ _
    generalize World.drewN (V1.setCell ⟨B.gS, x * 3 + 2, none⟩ (.int .i64 (-1))) 1 = V3 at *
    obtain ⟨⟨c0, c1, c2, g2⟩, ⟨k0, k1, k2⟩, ⟨b1, b2, b3, b4, b5⟩, ⟨⟨n1, n2, n3, n4, n5, n6⟩, n7, n8, n9, n10, n11, n12⟩, o0, o1, o2⟩ := H6.out.facts
    obtain ⟨s, hs⟩ : ∃ s, ((layBehind M.S (x : Int) (-1)))[u]? = some s := ⟨_, List.getElem?_eq_getElem (by first | exact HvS.out | (rw [layBehind_len]; exact HvS.out) | (rw [layAhead_len]; exact HvS.out) | (rw [layAhead_len, layBehind_len]; exact HvS.out))⟩
    obtain ⟨⟨e0, e1, e2⟩, q0, q1, q2⟩ := H6.out.1.2.1.getS hs
    clear hs
    simp only [List.length_set, layBehind_len, layAhead_len] at c0 c1
    clear HP3
    simp only [List.take_succ_cons, List.take_zero, List.drop_succ_cons, List.drop_zero]
    repeat still_step
    refine wpStill_nil ?_
    have HE : Hid (DropOut B N (dropD D (u : Int)) W ((((V3.setCell ⟨B.gS, u * 3, none⟩ (.int .i64 (-1))).setCell ⟨B.gS, u * 3 + 1, none⟩ (.int .i64 (-1))).setCell ⟨B.gS, u * 3 + 2, none⟩ (.int .i64 (-1))).setCell ⟨B.b, 2, none⟩ (.int .i64 (M.inn - 1)))) := Lib.hid (by
      have hg := HG.out
      rw [dropM_x] at hg
      rw [layAhead_none] at hg
      exact drop_end HN.out hg ((H6.out.1.layS (v := u) (by first | exact HvS.out | (rw [layBehind_len]; exact HvS.out) | (rw [layAhead_len]; exact HvS.out) | (rw [layAhead_len, layBehind_len]; exact HvS.out)) out3).layIn (M.inn - 1)))
    clear H6 HG
    go_wp2
    go_ret
    exact ⟨bool_ret HW.out.symm, HE.out⟩
  ·
    go_quiet (fail)
    go_wp2_with fail
    have HP2 : Hid (DrSt B W ⟨M.F.set L (f, c - 1), M.S, M.inn, M.high⟩ K (L : Int) (x : Int) (y : Int) ((W3.drewN nq).setCell ⟨B.gL, L * 2 + 1, none⟩ (.int .i64 (c - 1)))) := Lib.hid (HP.out nq)
    clear HP H3
    clear c0 c1 c2 g2 k0 k1 k2 b1 b2 b3 b4 b5 n1 n2 n3 n4 n5 n6 n7 n8 n9 n10 n11 n12 o0 o1 o2
    have H4 := Lib.hid (HP2.out.drawn 1)
    try clear e0 e1 q0 q1
    refine wp_region_still_tail 10 (by kernel_rfl) (by kernel_rfl) ?_
    change wpStill _ _ (World.drewN ((W3.drewN nq).setCell ⟨B.gL, L * 2 + 1, none⟩ (.int .i64 (c - 1))) 1) _ _ _
    change wpStill _ _ _ (fun a' => wpList _ _ _ _ _ (World.drewN ((W3.drewN nq).setCell ⟨B.gL, L * 2 + 1, none⟩ (.int .i64 (c - 1))) 1)) _ _
    generalize World.drewN ((W3.drewN nq).setCell ⟨B.gL, L * 2 + 1, none⟩ (.int .i64 (c - 1))) 1 = V1 at *
    obtain ⟨⟨c0, c1, c2, g2⟩, ⟨k0, k1, k2⟩, ⟨b1, b2, b3, b4, b5⟩, ⟨⟨n1, n2, n3, n4, n5, n6⟩, n7, n8, n9, n10, n11, n12⟩, o0, o1, o2⟩ := H4.out.facts
    obtain ⟨s, hs⟩ : ∃ s, (M.S)[x]? = some s := ⟨_, List.getElem?_eq_getElem hx⟩
    obtain ⟨⟨e0, e1, e2⟩, q0, q1, q2⟩ := H4.out.1.2.1.getS hs
    clear hs
    simp only [List.length_set, layBehind_len, layAhead_len] at c0 c1
    have hx1 : (x : Int) < (M.S.length : Int) := by omega
    simp only [List.take_succ_cons, List.take_zero, List.drop_succ_cons, List.drop_zero]
    repeat still_step
    refine wpStill_nil ?_
    have hx0 : (0 : Int) ≤ (x : Int) := by omega
    go_wp2_with fail
    have HP3 : Hid (DrSt B W ⟨M.F.set L (f, c - 1), (layBehind M.S (x : Int) (y : Int)), M.inn, M.high⟩ K (L : Int) (x : Int) (y : Int) (V1.setCell ⟨B.gS, x * 3 + 2, none⟩ (.int .i64 (y : Int)))) := Lib.hid (H4.out.cell (Or.inr (Or.inr rfl)) (H4.out.1.layS2 hx (y : Int)))
    clear H4 HP2 e2 q2
    clear c0 c1 c2 g2 k0 k1 k2 b1 b2 b3 b4 b5 n1 n2 n3 n4 n5 n6 n7 n8 n9 n10 n11 n12 o0 o1 o2
    have H5 := Lib.hid (HP3.out.drawn 1)
    try clear e0 e1 q0 q1
    refine wp_region_still_tail 10 (by kernel_rfl) (by kernel_rfl) ?_
    change wpStill _ _ (World.drewN (V1.setCell ⟨B.gS, x * 3 + 2, none⟩ (.int .i64 (y : Int))) 1) _ _ _
    change wpStill _ _ _ (fun a' => wpList _ _ _ _ _ (World.drewN (V1.setCell ⟨B.gS, x * 3 + 2, none⟩ (.int .i64 (y : Int))) 1)) _ _
    generalize World.drewN (V1.setCell ⟨B.gS, x * 3 + 2, none⟩ (.int .i64 (y : Int))) 1 = V2 at *
    obtain ⟨⟨c0, c1, c2, g2⟩, ⟨k0, k1, k2⟩, ⟨b1, b2, b3, b4, b5⟩, ⟨⟨n1, n2, n3, n4, n5, n6⟩, n7, n8, n9, n10, n11, n12⟩, o0, o1, o2⟩ := H5.out.facts
    obtain ⟨s, hs⟩ : ∃ s, ((layBehind M.S (x : Int) (y : Int)))[y]? = some s := ⟨_, List.getElem?_eq_getElem (by first | exact hy | (rw [layBehind_len]; exact hy))⟩
    obtain ⟨⟨e0, e1, e2⟩, q0, q1, q2⟩ := H5.out.1.2.1.getS hs
    clear hs
    simp only [List.length_set, layBehind_len, layAhead_len] at c0 c1
    have hy1 : (y : Int) < (M.S.length : Int) := by omega
    simp only [List.take_succ_cons, List.take_zero, List.drop_succ_cons, List.drop_zero]
    repeat still_step
    refine wpStill_nil ?_
    have hy0 : (0 : Int) ≤ (y : Int) := by omega
    go_wp2_with fail
    have HP4 : Hid (DrSt B W ⟨M.F.set L (f, c - 1), (layAhead (layBehind M.S (x : Int) (y : Int)) (y : Int) (x : Int)), M.inn, M.high⟩ K (L : Int) (x : Int) (y : Int) (V2.setCell ⟨B.gS, y * 3 + 1, none⟩ (.int .i64 (x : Int)))) := Lib.hid (H5.out.cell (Or.inr (Or.inr rfl)) (H5.out.1.layS1 (by first | exact hy | (rw [layBehind_len]; exact hy)) (x : Int)))
    clear H5 HP3 e2 q2
    clear c0 c1 c2 g2 k0 k1 k2 b1 b2 b3 b4 b5 n1 n2 n3 n4 n5 n6 n7 n8 n9 n10 n11 n12 o0 o1 o2
    have H6 := Lib.hid (HP4.out.drawn 1)
    try clear e0 e1 q0 q1
    refine wp_region_still_tail 7 (by kernel_rfl) (by kernel_rfl) ?_
    change wpStill _ _ (World.drewN (V2.setCell ⟨B.gS, y * 3 + 1, none⟩ (.int .i64 (x : Int))) 1) _ _ _
    change wpStill _ _ _ (fun a' => wpList _ _ _ _ _ (World.drewN (V2.setCell ⟨B.gS, y * 3 + 1, none⟩ (.int .i64 (x : Int))) 1)) _ _
    generalize World.drewN (V2.setCell ⟨B.gS, y * 3 + 1, none⟩ (.int .i64 (x : Int))) 1 = V3 at *
    obtain ⟨⟨c0, c1, c2, g2⟩, ⟨k0, k1, k2⟩, ⟨b1, b2, b3, b4, b5⟩, ⟨⟨n1, n2, n3, n4, n5, n6⟩, n7, n8, n9, n10, n11, n12⟩, o0, o1, o2⟩ := H6.out.facts
    obtain ⟨s, hs⟩ : ∃ s, ((layAhead (layBehind M.S (x : Int) (y : Int)) (y : Int) (x : Int)))[u]? = some s := ⟨_, List.getElem?_eq_getElem (by first | exact HvS.out | (rw [layBehind_len]; exact HvS.out) | (rw [layAhead_len]; exact HvS.out) | (rw [layAhead_len, layBehind_len]; exact HvS.out))⟩
    obtain ⟨⟨e0, e1, e2⟩, q0, q1, q2⟩ := H6.out.1.2.1.getS hs
    clear hs
    simp only [List.length_set, layBehind_len, layAhead_len] at c0 c1
    clear HP4
    simp only [List.take_succ_cons, List.take_zero, List.drop_succ_cons, List.drop_zero]
    repeat still_step
    refine wpStill_nil ?_
    have HE : Hid (DropOut B N (dropD D (u : Int)) W ((((V3.setCell ⟨B.gS, u * 3, none⟩ (.int .i64 (-1))).setCell ⟨B.gS, u * 3 + 1, none⟩ (.int .i64 (-1))).setCell ⟨B.gS, u * 3 + 2, none⟩ (.int .i64 (-1))).setCell ⟨B.b, 2, none⟩ (.int .i64 (M.inn - 1)))) := Lib.hid (by
      have hg := HG.out
      rw [dropM_x] at hg
      exact drop_end HN.out hg ((H6.out.1.layS (v := u) (by first | exact HvS.out | (rw [layBehind_len]; exact HvS.out) | (rw [layAhead_len]; exact HvS.out) | (rw [layAhead_len, layBehind_len]; exact HvS.out)) out3).layIn (M.inn - 1)))
    clear H6 HG
    go_wp2
    go_ret
    exact ⟨bool_ret HW.out.symm, HE.out⟩

end
end Go.Proofs.YthiabjmnbkhehaaDoor
