/- Contract of Give of an arena of nodes, at every argument. -/
import Derived.Test.YtndljbkjcgfdcaaNdTurn
import Derived.Deep.RegionHeld3
import Derived.Deep.AppendLies
import Derived.Deep.RegionLaw
namespace Go.Proofs.Ytndljbkjcgfdcaa
open Go.RowKit Go.ChangeShapes NdPure
theorem put_live_cons {N : Nat} {S : St} {x : Nd} {n : Nat} {r : List Nat} (h : GoodS N S) (hF : S.F = n :: r) : liveN (putS S x) = liveN S + 1 := by
  obtain ⟨-, hn, -⟩ := first_free h hF
  have := count_lay hn true
  unfold putS
  rw [hF]
  unfold liveN
  simp at this
  exact this
theorem put_live_nil {S : St} {x : Nd} (hF : S.F = []) : liveN (putS S x) = liveN S + 1 := by
  unfold putS
  rw [hF]
  unfold liveN
  simp [List.count_append]
def GiveOut (O : Nat → Prop) (b N : Nat) (S : St) (x : Nd) (w w' : World) : Prop := Turn O w w' ∧ ∃ O', (∀ k, O' k → O k ∨ w.heap.size ≤ k) ∧ ArAt O' b w' N (giveS N S x)
theorem info_cell : (Try.prog.info? 76).map (fun i => (i.zero, i.size, i.bytes)) = some (some (.agg #[.int .i64 0, .int .i64 0, .int .i64 0, .int .i64 0, .bool false, .int .i64 0]), 6, 48) := by kernel_rfl
set_option maxRecDepth 100000 in
set_option maxHeartbeats 4000000 in
theorem give_any (O : Nat → Prop) (b N : Nat) (S : St) (x : Nd) (w : World) (h : ArAt O b w N S) :
    Calls Try.prog 37 #[.pointer (some ⟨b, 0, none⟩), encNd x] w fun e w' => e = .returned (.tuple #[.int .i64 (giveN N S), .bool (giveB N S)]) ∧ GiveOut O b N S x w w' := by
  have HK : Hid (∀ o, ArAt O b (w.alloc o) N S) := Lib.hid fun o => h.keep ((Below.refl _ w).alloc (Nat.le_refl _) o)
  have HT0 : Hid (∀ o, Turn O w (w.alloc o)) := Lib.hid fun o => Turn.ofBelow ((Below.refl _ w).alloc (Nat.le_refl _) o)
  have hN := h.1
  have hle := live_le h.2.1
  by_cases hf : liveN S = N
  · have t : ((liveN S : Int) == (N : Int)) = true := by rw [hf]; exact beq_self_eq_true _
    have H1 : Hid (giveN N S = 0) := Lib.hid (if_pos hf)
    have H2 : Hid (giveB N S = false) := Lib.hid (by unfold giveB; rw [decide_eq_true hf]; rfl)
    have H3 : Hid (∀ o, GiveOut O b N S x w (w.alloc o)) := Lib.hid fun o => ⟨HT0.out o, O, fun k e => Or.inl e, by rw [show giveS N S x = S from if_pos hf]; exact HK.out o⟩
    clear h hf
    unfold encNd
    go_enter Try.func37, Try.ntmps37
    go_wp2_with (first | (go_at_call 28; refine (len_any O b N S _ (HK.out _)).mono ?_; rintro e w' ⟨rfl, rfl⟩) | (go_at_call 45; refine (room_any O b N S _ (HK.out _)).mono ?_; rintro e w' ⟨rfl, rfl⟩))
    go_ret2
    exact ⟨ret_ib H1.out.symm H2.out.symm, H3.out _⟩
  have t : ((liveN S : Int) == (N : Int)) = false := by
    have : ¬ (liveN S : Int) = (N : Int) := by omega
    simpa using this
  have H1 : Hid (giveN N S = (firstN S : Int)) := Lib.hid (if_neg hf)
  have H2 : Hid (giveB N S = true) := Lib.hid (by unfold giveB; rw [decide_eq_false hf]; rfl)
  have H3 : Hid (giveS N S x = putS S x) := Lib.hid (if_neg hf)
  cases hF : S.F with
  | cons n r =>
    have H4' : Hid (firstN S = n) := Lib.hid (by unfold firstN; rw [hF]; rfl)
    have hL := put_live_cons (x := x) h.2.1 hF
    have hlt := h.lt
    obtain ⟨x0, x1, x2, x3⟩ := x
    obtain ⟨g, K, cap, z, og, ⟨c1, c2, c3⟩, ⟨f2, f3⟩, hnK, hlK, hb, hg, hbg, ⟨u0, u1, u2, u3, u4, e0, e1, e2, e3, e4, e5⟩, ⟨k0, k1, k2, k3, k4, k5⟩, hlay⟩ := h.again hF hf ⟨x0, x1, x2, x3⟩
    have HO := Lib.hid (hlay (boxNd ⟨x0, x1, x2, x3⟩ 47))
    rw [hL] at HO
    have a3 : (n : Int) < (K : Int) := by omega
    have a4 : (0 : Int) ≤ (n : Int) := by omega
    have a5 : (liveN S : Int) < (K : Int) := by omega
    have b1 : b ≠ g := by omega
    have b2 : g ≠ b := by omega
    clear h hf hF hL hnK hlK hlay og hlt
    have HW : Hid (w.heap.size = (w.setCell ⟨b, 3, none⟩ (.int .i64 z)).heap.size) := Lib.hid (by simp)
    have HZ : Hid (NdAt w.heap.size (((w.setCell ⟨b, 3, none⟩ (.int .i64 z)).alloc (boxNd ⟨x0, x1, x2, x3⟩ 47)).drewN 1) ⟨x0, x1, x2, x3⟩) := Lib.hid (by rw [HW.out]; exact (NdAt.new (w.setCell ⟨b, 3, none⟩ (.int .i64 z)) ⟨x0, x1, x2, x3⟩ 47).same rfl)
    have HC : Hid (∀ i, (((w.setCell ⟨b, 3, none⟩ (.int .i64 z)).alloc (boxNd ⟨x0, x1, x2, x3⟩ 47)).drewN 1).cell? ⟨g, i, none⟩ = w.cell? ⟨g, i, none⟩ ∧ (((w.setCell ⟨b, 3, none⟩ (.int .i64 z)).alloc (boxNd ⟨x0, x1, x2, x3⟩ 47)).drewN 1).frozen? ⟨g, i, none⟩ = w.frozen? ⟨g, i, none⟩) := Lib.hid fun i => by
      have hk : (((w.setCell ⟨b, 3, none⟩ (.int .i64 z)).alloc (boxNd ⟨x0, x1, x2, x3⟩ 47)).drewN 1).heap[g]? = w.heap[g]? := (((Below.refl _ (w.setCell ⟨b, 3, none⟩ (.int .i64 z))).alloc (Nat.le_refl _) (boxNd ⟨x0, x1, x2, x3⟩ 47)).block g (by rw [← HW.out]; exact hg)).trans (cell_other b2)
      exact ⟨World.cell?_of_block (a := ⟨g, i, none⟩) hk, World.frozen?_of_block (a := ⟨g, i, none⟩) hk⟩
    have HC1 : Hid ((((w.setCell ⟨b, 3, none⟩ (.int .i64 z)).alloc (boxNd ⟨x0, x1, x2, x3⟩ 47)).drewN 1).cell? ⟨b, 1, none⟩ = w.cell? ⟨b, 1, none⟩) := Lib.hid (by
      have hk := ((Below.refl _ (w.setCell ⟨b, 3, none⟩ (.int .i64 z))).alloc (Nat.le_refl _) (boxNd ⟨x0, x1, x2, x3⟩ 47)).cell (p := ⟨b, 1, none⟩) (by show b < _; rw [← HW.out]; exact hb)
      exact hk.trans (World.cell?_setCell_other w ⟨b, 3, none⟩ ⟨b, 1, none⟩ _ (by simp)))
    have HS1 : Hid (w.heap.size < (((w.setCell ⟨b, 3, none⟩ (.int .i64 z)).alloc (boxNd ⟨x0, x1, x2, x3⟩ 47)).drewN 1).heap.size) := Lib.hid HZ.out.lt
    unfold encNd
    simp only
    go_enter Try.func37, Try.ntmps37
    go_wp2_with (first | (go_at_call 28; refine (len_any O b N S _ (HK.out _)).mono ?_; rintro e w' ⟨rfl, rfl⟩) | (go_at_call 45; refine (room_any O b N S _ (HK.out _)).mono ?_; rintro e w' ⟨rfl, rfl⟩))
    refine wp_region_still_tail 8 (by kernel_rfl) (by kernel_rfl) ?_
    change wpStill _ _ (((w.setCell ⟨b, 3, none⟩ (.int .i64 z)).alloc (boxNd ⟨x0, x1, x2, x3⟩ 47)).drewN 1) _ _ _
    change wpStill _ _ _ (fun a' => wpList _ _ _ _ _ (((w.setCell ⟨b, 3, none⟩ (.int .i64 z)).alloc (boxNd ⟨x0, x1, x2, x3⟩ 47)).drewN 1)) _ _
    generalize ((w.setCell ⟨b, 3, none⟩ (.int .i64 z)).alloc (boxNd ⟨x0, x1, x2, x3⟩ 47)).drewN 1 = W1 at *
    obtain ⟨a0, ⟨aa, h4⟩, ht, ha⟩ := HO.out
    have HT := Lib.hid (And.intro ht ha)
    have H4 := Lib.hid h4
    have hb1 := HS1.out
    obtain ⟨⟨y0, y1, y2, y3⟩, -⟩ := HZ.out.cells
    rw [← (HC.out _).1] at e0 e1 e2 e3 e4 e5
    rw [← (HC.out _).2] at k0 k1 k2 k3 k4 k5
    rw [← HC1.out] at c1
    have hgW : g < W1.heap.size := by omega
    have hbW : b < W1.heap.size := by omega
    clear ht ha h4 HO HZ HC HC1 c2 c3 f2 f3 HS1
    simp only at y0 y1 y2 y3
    simp only [List.take_succ_cons, List.take_zero, List.drop_succ_cons, List.drop_zero]
    repeat still_step
    refine wpStill_nil ?_
    go_upto_region 9 with fail
    simp only [lay6, lay4] at HT H4
    clear e0 e1 e2 e3 e4 e5 k0 k1 k2 k3 k4 k5 c1 y0 y1 y2 y3
    generalize (((((W1.setCell ⟨g, n * 6, none⟩ (.int .i64 x0)).setCell ⟨g, n * 6 + 1, none⟩ (.int .i64 x1)).setCell ⟨g, n * 6 + 2, none⟩ (.int .i64 x2)).setCell ⟨g, n * 6 + 3, none⟩ (.int .i64 x3)).setCell ⟨g, n * 6 + 4, none⟩ (.bool true)).setCell ⟨g, n * 6 + 5, none⟩ (.int .i64 0) = W2 at *
    obtain ⟨⟨-, -, c2, -⟩, -, -, f2, -⟩ := H4.out.cells
    have hb2 := H4.out.lt
    clear hbW hgW hb1
    generalize liveN S = L at *
    go_wp2
    go_ret2
    exact ⟨ret_ib (by rw [H1.out, H4'.out]) H2.out.symm, HT.out.1, O, fun k e => Or.inl e, by rw [H3.out]; exact HT.out.2⟩
  | nil =>
    have hA := (HK.out (boxNd x 47)).drawn 1
    have hbw := h.lt
    obtain ⟨-, hgd, v, f, cs, hfit, h4, hown, hO⟩ := h
    obtain ⟨i, hi1, hi2, hi3, hi4⟩ := info_parts info_cell
    have hl := hfit.1
    have hK : liveN S = cs.length := by rw [none_free hgd hF, hl]
    have hcs : cs.length ≤ 1048576 := by omega
    have hb := h4.lt
    have hbv : ∀ k, v.ownBlock = some k → b < k := fun k e => (hown.lt k e).1
    obtain ⟨q, cap, rfl⟩ := owns_any hown
    have H4 : Hid (firstN S = cs.length) := Lib.hid (by unfold firstN; rw [hF, hl]; rfl)
    obtain ⟨x0, x1, x2, x3⟩ := x
    have hbel := below_drewN ((Below.refl w.heap.size w).alloc (Nat.le_refl _) (boxNd ⟨x0, x1, x2, x3⟩ 47)) 1
    have h4' := RowIs.on h4 hbel hb
    have hsz : ((w.alloc (boxNd ⟨x0, x1, x2, x3⟩ 47)).drewN 1).heap.size = w.heap.size + 1 := by
      show (w.alloc _).heap.size = _
      simp
    have HM : Hid (∀ (o : Obj) (w' : World) (g' c' : Nat), w'.ownsRow (b + 1) 76 6 (.slice (some ⟨g', 0, none⟩) (cs.length + 1) c') (cs.length + 1) (flat cs ++ [.int .i64 x0, .int .i64 x1, .int .i64 x2, .int .i64 x3, .bool true, .int .i64 0]) → (((w.alloc (boxNd ⟨x0, x1, x2, x3⟩ 47)).drewN 1).alloc o).grownBy w' (Value.slice q cs.length cap).ownBlock →
        ((Value.slice q cs.length cap).ownBlock = some g' ∨ g' = w.heap.size + 2) → _) := Lib.hid fun o w' g' c' h1 h2 h3 =>
      ArAt.more (v' := .slice (some ⟨g', 0, none⟩) (cs.length + 1) c') hN hgd hF hf ⟨x0, x1, x2, x3⟩ hfit rfl h4' hO h1 h2 hbv (fun k e => by
        simp [Value.ownBlock] at e
        subst e
        rcases h3 with h3 | h3
        · exact Or.inl h3
        · right
          rw [hsz]
          omega)
    have hL := put_live_nil (x := (⟨x0, x1, x2, x3⟩ : Nd)) hF
    rw [hL] at HM
    have HN : Hid (∀ o, ((w.alloc (boxNd ⟨x0, x1, x2, x3⟩ 47)).alloc o).heap[w.heap.size + 1]? = some o) := Lib.hid fun o => by
      have := heap_alloc_new (w.alloc (boxNd ⟨x0, x1, x2, x3⟩ 47)) o
      rw [show (w.alloc (boxNd ⟨x0, x1, x2, x3⟩ 47)).heap.size = w.heap.size + 1 by simp] at this
      exact this
    have HTO : Hid (Turn O w ((w.alloc (boxNd ⟨x0, x1, x2, x3⟩ 47)).drewN 1)) := Lib.hid ((HT0.out _).drawn 1)
    obtain ⟨⟨c0, c1, c2, c3⟩, -⟩ := h4.cells
    have t2 : ¬ (liveN S : Int) < (cs.length : Int) := by omega
    have HW := Lib.hid hown
    clear hgd hF hf hO hfit hl hbv h4 hown hL hK hA hbw hbel h4' hsz
    unfold encNd
    simp only
    go_enter Try.func37, Try.ntmps37
    go_wp2_with (first | (go_at_call 28; refine (len_any O b N S _ (HK.out _)).mono ?_; rintro e w' ⟨rfl, rfl⟩) | (go_at_call 45; refine (room_any O b N S _ (HK.out _)).mono ?_; rintro e w' ⟨rfl, rfl⟩))
    go_region_law (refine step_append_lies _ (by rfl) (.tmp 50) (.tmp 53) 61 (by rfl) (b + 1) 76 i (.agg #[.int .i64 0, .int .i64 0, .int .i64 0, .int .i64 0, .bool false, .int .i64 0]) 6 48 Try.underlying61 hi1 hi2 hi3 hi4 rfl (by decide) (.slice q cs.length cap) cs.length (flat cs) (by rfl) (by repeat (first | exact HW.out | apply World.ownsRow.drew | apply World.ownsRow.alloc)) ⟨w.heap.size + 1, 0, none⟩ 1 1 [.int .i64 x0, .int .i64 x1, .int .i64 x2, .int .i64 x3, .bool true, .int .i64 0] (by rfl) (by rfl) (World.news_of_block (cs := #[.int .i64 x0, .int .i64 x1, .int .i64 x2, .int .i64 x3, .bool true, .int .i64 0]) (t := 76) (fr := (0, 0)) (HN.out _)) (by simp [Value.oneCell']) (by decide) (by unfold maxLen; omega) (by omega) (by simp; omega) (w.heap.size + 2) (by simp) ?_; intro g' c' w6 hown6 hg6 hat6 hlt6; have HX := Lib.hid (HM.out _ _ _ _ hown6 hg6 hat6); obtain ⟨⟨z0, z1, z2, z3⟩, y0, y1, y2, y3⟩ := HX.out.1.cells; have hb6 := HX.out.1.lt; clear hown6 hg6 hat6 HM)
    all_goals go_wp2
    all_goals go_ret2
    all_goals exact ⟨ret_ib (by rw [H1.out, H4.out]) H2.out.symm, HTO.out.trans HX.out.2.1 (fun _ e => Or.inl e), by rw [H3.out]; obtain ⟨O1, ho, ha⟩ := HX.out.2.2; exact ⟨O1, fun k e => (ho k e).imp id (fun e2 => Nat.le_trans HTO.out.size e2), ha⟩⟩
end Go.Proofs.Ytndljbkjcgfdcaa
