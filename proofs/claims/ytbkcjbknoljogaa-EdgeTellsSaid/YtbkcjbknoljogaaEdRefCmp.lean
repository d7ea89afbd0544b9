/- The document's Cmp. -/
import Derived.Test.YtbkcjbknoljogaaEdRef2
import Derived.BigRegion
import Derived.Deep.RegionHeld3
namespace Go.Proofs.Ytbkcjbknoljogaa
open Go.RowKit Go.ChangeShapes EdPure NumPure
/-- The two rows that the document's Cmp lays, and how far they are alike. -/
def CmpRel (w : World) (a b : Ed) (k : Nat) (wr : World) : Prop :=
  k ≤ 3 ∧ Below w.heap.size w wr ∧ (1 ≤ k → a.1 = b.1) ∧ (2 ≤ k → a.2.1 = b.2.1) ∧ (3 ≤ k → a.2.2 = b.2.2)
theorem ThreeAt.other {N M : Nat} {w : World} {u v x : Value} (h : ThreeAt N w u v x) (hN : M ≠ N) (i : Nat) (y : Value) : ThreeAt N (w.setCell ⟨M, i, none⟩ y) u v x := by
  obtain ⟨h0, h1, h2, f0, f1, f2⟩ := h
  have ne : ∀ j : Nat, (⟨M, i, none⟩ : Addr) ≠ ⟨N, j, none⟩ := fun j e => hN (congrArg Addr.block e)
  refine ⟨(World.cell?_setCell_other w ⟨M, i, none⟩ ⟨N, 0, none⟩ _ (ne 0)).trans h0, (World.cell?_setCell_other w ⟨M, i, none⟩ ⟨N, 1, none⟩ _ (ne 1)).trans h1, (World.cell?_setCell_other w ⟨M, i, none⟩ ⟨N, 2, none⟩ _ (ne 2)).trans h2, ?_, ?_, ?_⟩
  · simpa using f0
  · simpa using f1
  · simpa using f2
set_option maxRecDepth 100000 in
set_option maxHeartbeats 4000000 in
theorem refCmp_any (a b : Ed) (w : World) :
    Calls Try.prog 14 #[encE a, encE b] w fun e w' => e = .returned (.int .i64 (cmpE a b)) ∧ Below w.heap.size w w' := by
  obtain ⟨u, v, x⟩ := a
  obtain ⟨u', v', x'⟩ := b
  unfold encE
  simp only
  go_enter Try.func14, Try.ntmps14
  go_wp2
  obtain ⟨W0, hW0⟩ : ∃ W0, (w.alloc (.cells #[.int .i64 u, .int .i64 v, .int .i64 x] 24)).alloc (.cells #[.int .i64 u', .int .i64 v', .int .i64 x'] 24) = W0 := ⟨_, rfl⟩
  have b0 : W0.drew.cell? ⟨w.heap.size, 0, none⟩ = some (.int .i64 u) := by rw [← hW0]; simp
  have b1 : W0.drew.cell? ⟨w.heap.size, 1, none⟩ = some (.int .i64 v) := by rw [← hW0]; simp
  have b2 : W0.drew.cell? ⟨w.heap.size, 2, none⟩ = some (.int .i64 x) := by rw [← hW0]; simp
  have d0 : W0.drew.cell? ⟨w.heap.size + 1, 0, none⟩ = some (.int .i64 u') := by rw [← hW0]; simp
  have d1 : W0.drew.cell? ⟨w.heap.size + 1, 1, none⟩ = some (.int .i64 v') := by rw [← hW0]; simp
  have d2 : W0.drew.cell? ⟨w.heap.size + 1, 2, none⟩ = some (.int .i64 x') := by rw [← hW0]; simp
  have HB : Hid (Below w.heap.size w W0.drew) := Lib.hid (by rw [← hW0]; exact below_two.drew)
  rw [hW0]
  clear hW0
  generalize hN : w.heap.size = N at *
  refine wp_region_held_drew (S := (fun W => W.cell? ⟨N, 0, none⟩ = some (.int .i64 u) ∧ W.cell? ⟨N, 1, none⟩ = some (.int .i64 v) ∧ W.cell? ⟨N, 2, none⟩ = some (.int .i64 x) ∧ W.cell? ⟨N + 1, 0, none⟩ = some (.int .i64 u') ∧ W.cell? ⟨N + 1, 1, none⟩ = some (.int .i64 v') ∧ W.cell? ⟨N + 1, 2, none⟩ = some (.int .i64 x') ∧ Hid (Below N w W))) (by kernel_rfl) ⟨b0, b1, b2, d0, d1, d2, HB⟩ (fun hHeld => ?_)
  generalize W0.drew = W1 at *
  refine wpAnyH_take (i := 0) (v := ?va0) rfl (by kernel_rfl) (by kernel_rfl) (by kernel_rfl) (fun _ _ _ h => h) (Or.inl ⟨by kernel_rfl, fun w' hSw => ?hya0⟩) (by assumption) ?resta0
  case hya0 => ((try dsimp only at hSw); go_simp; (try with_reducible rfl))
  simp only [Act.put]
  refine wpAnyH_take (i := 1) (v := ?va1) rfl (by kernel_rfl) (by kernel_rfl) (by kernel_rfl) (fun _ _ _ h => h) (Or.inl ⟨by kernel_rfl, fun w' hSw => ?hya1⟩) (by assumption) ?resta1
  case hya1 => ((try dsimp only at hSw); go_simp; (try with_reducible rfl))
  simp only [Act.put]
  refine wpAnyH_take (i := 2) (v := ?va2) rfl (by kernel_rfl) (by kernel_rfl) (by kernel_rfl) (fun _ _ _ h => h) (Or.inl ⟨by kernel_rfl, fun w' hSw => ?hya2⟩) (by assumption) ?resta2
  case hya2 => ((try dsimp only at hSw); go_simp; (try with_reducible rfl))
  simp only [Act.put]
  refine wpAnyH_take (i := 3) (v := ?va3) rfl (by kernel_rfl) (by kernel_rfl) (by kernel_rfl) (fun _ _ _ h => h) (Or.inl ⟨by kernel_rfl, fun w' hSw => ?hya3⟩) (by assumption) ?resta3
  case hya3 => ((try dsimp only at hSw); go_simp; (try with_reducible rfl))
  simp only [Act.put]
  refine wpAnyH_take (i := 4) (v := ?va4) rfl (by kernel_rfl) (by kernel_rfl) (by kernel_rfl) (fun _ _ _ h => h) (Or.inl ⟨by kernel_rfl, fun w' hSw => ?hya4⟩) (by assumption) ?resta4
  case hya4 => ((try dsimp only at hSw); go_simp; (try with_reducible rfl))
  simp only [Act.put]
  refine wpAnyH_take (i := 5) (v := ?va5) rfl (by kernel_rfl) (by kernel_rfl) (by kernel_rfl) (fun _ _ _ h => h) (Or.inl ⟨by kernel_rfl, fun w' hSw => ?hya5⟩) (by assumption) ?resta5
  case hya5 => ((try dsimp only at hSw); go_simp; (try with_reducible rfl))
  simp only [Act.put]
  refine wpAnyH_take (i := 6) (v := ?va6) rfl (by kernel_rfl) (by kernel_rfl) (by kernel_rfl) (fun _ _ _ h => h) (Or.inl ⟨by kernel_rfl, fun w' hSw => ?hya6⟩) (by assumption) ?resta6
  case hya6 => ((try dsimp only at hSw); go_simp; (try with_reducible rfl))
  simp only [Act.put]
  refine wpAnyH_take (i := 7) (v := ?va7) rfl (by kernel_rfl) (by kernel_rfl) (by kernel_rfl) (fun _ _ _ h => h) (Or.inl ⟨by kernel_rfl, fun w' hSw => ?hya7⟩) (by assumption) ?resta7
  case hya7 => ((try dsimp only at hSw); go_simp; (try with_reducible rfl))
  simp only [Act.put]
  refine wpAnyH_take (i := 8) (v := ?va8) rfl (by kernel_rfl) (by kernel_rfl) (by kernel_rfl) (fun _ _ _ h => h) (Or.inl ⟨by kernel_rfl, fun w' hSw => ?hya8⟩) (by assumption) ?resta8
  case hya8 => ((try dsimp only at hSw); go_simp; (try with_reducible rfl))
  simp only [Act.put]
  refine wpAnyH_take (i := 9) (v := ?va9) rfl (by kernel_rfl) (by kernel_rfl) (by kernel_rfl) (fun _ _ _ h => h) (Or.inl ⟨by kernel_rfl, fun w' hSw => ?hya9⟩) (by assumption) ?resta9
  case hya9 => ((try dsimp only at hSw); go_simp; (try with_reducible rfl))
  simp only [Act.put]
  refine wpAnyH_take (i := 10) (v := ?va10) rfl (by kernel_rfl) (by kernel_rfl) (by kernel_rfl) (fun _ _ _ h => h) (Or.inl ⟨by kernel_rfl, fun w' hSw => ?hya10⟩) (by assumption) ?resta10
  case hya10 => ((try dsimp only at hSw); go_simp; (try with_reducible rfl))
  simp only [Act.put]
  refine wpAnyH_take (i := 11) (v := ?va11) rfl (by kernel_rfl) (by kernel_rfl) (by kernel_rfl) (fun _ _ _ h => h) (Or.inl ⟨by kernel_rfl, fun w' hSw => ?hya11⟩) (by assumption) ?resta11
  case hya11 => ((try dsimp only at hSw); go_simp; (try with_reducible rfl))
  simp only [Act.put]
  refine wpAnyH_take (i := 12) (v := ?va12) rfl (by kernel_rfl) (by kernel_rfl) (by kernel_rfl) (fun _ _ _ h => h) (Or.inl ⟨by kernel_rfl, fun w' hSw => ?hya12⟩) (by assumption) ?resta12
  case hya12 => ((try dsimp only at hSw); go_simp; (try with_reducible rfl))
  simp only [Act.put]
  refine wpAnyH_take (i := 13) (v := ?va13) rfl (by kernel_rfl) (by kernel_rfl) (by kernel_rfl) (fun _ _ _ h => h) (Or.inl ⟨by kernel_rfl, fun w' hSw => ?hya13⟩) (by assumption) ?resta13
  case hya13 => ((try dsimp only at hSw); go_simp; (try with_reducible rfl))
  simp only [Act.put]
  have hkeep : Hid (∀ W', Below W1.heap.size W1 W' → W'.cell? ⟨N, 0, none⟩ = some (.int .i64 u) ∧ W'.cell? ⟨N, 1, none⟩ = some (.int .i64 v) ∧ W'.cell? ⟨N, 2, none⟩ = some (.int .i64 x) ∧ W'.cell? ⟨N + 1, 0, none⟩ = some (.int .i64 u') ∧ W'.cell? ⟨N + 1, 1, none⟩ = some (.int .i64 v') ∧ W'.cell? ⟨N + 1, 2, none⟩ = some (.int .i64 x') ∧ Hid (Below N w W')) := Lib.hid fun W' h =>
    ⟨(h.cell (World.block_lt_of_cell? W1 _ b0)).trans b0, (h.cell (World.block_lt_of_cell? W1 _ b1)).trans b1, (h.cell (World.block_lt_of_cell? W1 _ b2)).trans b2, (h.cell (World.block_lt_of_cell? W1 _ d0)).trans d0, (h.cell (World.block_lt_of_cell? W1 _ d1)).trans d1, (h.cell (World.block_lt_of_cell? W1 _ d2)).trans d2, Lib.hid (HB.out.trans (h.mono (by have := HB.out.size; omega)))⟩
  clear b0 b1 b2 d0 d1 d2 hHeld
  refine wpAnyH_ready (rs := [14, 15]) (by kernel_rfl) (by simp) ?_
  refine AllReadyH.cons rfl (fun K hK => ?_) (AllReadyH.cons rfl (fun K hK => ?_) AllReadyH.nil)
  · go_simp
    refine hK.out _ _ (hkeep.out _ ((Below.refl _ _).alloc (Nat.le_refl _) _)) (fun hHeld => ?_)
    clear hK K hHeld
    refine wpAnyH_ready (rs := [15]) (by kernel_rfl) (by simp) ?_
    refine AllReadyH.cons rfl (fun K hK => ?_) AllReadyH.nil
    go_simp
    refine hK.out _ _ (hkeep.out _ below_two) (fun hHeld => ?_)
    clear hK K hHeld
    have hX0 : ThreeAt W1.heap.size ((W1.alloc (.cells #[.int .i64 0, .int .i64 0, .int .i64 0] 53)).alloc (.cells #[.int .i64 0, .int .i64 0, .int .i64 0] 53)) (.int .i64 0) (.int .i64 0) (.int .i64 0) := (ThreeAt.new W1 _ _ _ _).on ((Below.refl _ _).alloc (Nat.le_refl _) _) (ThreeAt.new W1 (.int .i64 0) (.int .i64 0) (.int .i64 0) 53).lt
    have hY0 : ThreeAt (W1.heap.size + 1) ((W1.alloc (.cells #[.int .i64 0, .int .i64 0, .int .i64 0] 53)).alloc (.cells #[.int .i64 0, .int .i64 0, .int .i64 0] 53)) (.int .i64 0) (.int .i64 0) (.int .i64 0) := by
      have h := ThreeAt.new (W1.alloc (.cells #[.int .i64 0, .int .i64 0, .int .i64 0] 53)) (.int .i64 0) (.int .i64 0) (.int .i64 0) 53
      simpa using h
    have HW0 : Hid (Below W1.heap.size W1 ((W1.alloc (.cells #[.int .i64 0, .int .i64 0, .int .i64 0] 53)).alloc (.cells #[.int .i64 0, .int .i64 0, .int .i64 0] 53))) := Lib.hid below_two
    generalize (W1.alloc (.cells #[.int .i64 0, .int .i64 0, .int .i64 0] 53)).alloc (.cells #[.int .i64 0, .int .i64 0, .int .i64 0] 53) = W2 at *
    generalize hM : W1.heap.size = M at *
    have HX0 := Lib.hid hX0
    have HY0 := Lib.hid hY0
    obtain ⟨z0, z1, z2, f0, f1, f2⟩ := hX0
    obtain ⟨y0, y1, y2, g0, g1, g2⟩ := hY0
    refine wpAnyH_ready (rs := [16]) (by kernel_rfl) (by simp) ?_
    refine AllReadyH.cons rfl (fun K hK => ?_) AllReadyH.nil
    go_simp
    refine hK.out _ _ (hkeep.out _ (((HW0.out.setCell (by simp) _).setCell (by simp) _).setCell (by simp) _)) (fun hHeld => ?_)
    clear hK K hHeld
    refine wpAnyH_ready (rs := [17]) (by kernel_rfl) (by simp) ?_
    refine AllReadyH.cons rfl (fun K hK => ?_) AllReadyH.nil
    go_simp
    refine hK.out _ _ (hkeep.out _ ((((((HW0.out.setCell (by simp) _).setCell (by simp) _).setCell (by simp) _).setCell (by simp) _).setCell (by simp) _).setCell (by simp) _)) (fun hHeld => ?_)
    clear hK K hHeld
    refine wpAnyH_done (by kernel_rfl) ?_ _
    have HX : Hid (ThreeAt (M) ((((((W2.setCell ⟨M, 0, none⟩ (.int .i64 u)).setCell ⟨M, 1, none⟩ (.int .i64 v)).setCell ⟨M, 2, none⟩ (.int .i64 x)).setCell ⟨M + 1, 0, none⟩ (.int .i64 u')).setCell ⟨M + 1, 1, none⟩ (.int .i64 v')).setCell ⟨M + 1, 2, none⟩ (.int .i64 x')) (.int .i64 u) (.int .i64 v) (.int .i64 x)) := Lib.hid ((((HX0.out.set _ _ _).other (by simp) 0 _).other (by simp) 1 _).other (by simp) 2 _)
    have HY : Hid (ThreeAt (M + 1) ((((((W2.setCell ⟨M, 0, none⟩ (.int .i64 u)).setCell ⟨M, 1, none⟩ (.int .i64 v)).setCell ⟨M, 2, none⟩ (.int .i64 x)).setCell ⟨M + 1, 0, none⟩ (.int .i64 u')).setCell ⟨M + 1, 1, none⟩ (.int .i64 v')).setCell ⟨M + 1, 2, none⟩ (.int .i64 x')) (.int .i64 u') (.int .i64 v') (.int .i64 x')) := Lib.hid ((((HY0.out.other (by simp) 0 _).other (by simp) 1 _).other (by simp) 2 _).set _ _ _)
    have HW : Hid (Below w.heap.size w ((((((W2.setCell ⟨M, 0, none⟩ (.int .i64 u)).setCell ⟨M, 1, none⟩ (.int .i64 v)).setCell ⟨M, 2, none⟩ (.int .i64 x)).setCell ⟨M + 1, 0, none⟩ (.int .i64 u')).setCell ⟨M + 1, 1, none⟩ (.int .i64 v')).setCell ⟨M + 1, 2, none⟩ (.int .i64 x'))) := Lib.hid (by rw [hN]; exact (hkeep.out _ (((((((HW0.out.setCell (by simp) _).setCell (by simp) _).setCell (by simp) _).setCell (by simp) _).setCell (by simp) _).setCell (by simp) _))).2.2.2.2.2.2.out)
    generalize ((((((W2.setCell ⟨M, 0, none⟩ (.int .i64 u)).setCell ⟨M, 1, none⟩ (.int .i64 v)).setCell ⟨M, 2, none⟩ (.int .i64 x)).setCell ⟨M + 1, 0, none⟩ (.int .i64 u')).setCell ⟨M + 1, 1, none⟩ (.int .i64 v')).setCell ⟨M + 1, 2, none⟩ (.int .i64 x')) = W5 at *
    clear z0 z1 z2 f0 f1 f2 y0 y1 y2 g0 g1 g2 HW0 hkeep
    clear HX0 HY0
    go_wp2
    go_loopw [7] (fun i wr => ∃ k : Nat, i = .int .i64 k ∧ Hid (CmpRel w (u, v, x) (u', v', x') k wr ∧ ThreeAt (M) wr (.int .i64 u) (.int .i64 v) (.int .i64 x) ∧ ThreeAt (M + 1) wr (.int .i64 u') (.int .i64 v') (.int .i64 x'))) (fun i _ => 3 - (intOf i).toNat)
    case atStart => exact ⟨0, rfl, Lib.hid ⟨⟨by omega, HW.out, fun h => by omega, fun h => by omega, fun h => by omega⟩, HX.out, HY.out⟩⟩
    case round =>
      obtain ⟨k, rfl, HK⟩ := hrel
      clear HW HX HY
      obtain ⟨e0, e1, e2, -⟩ := HK.out.2.1
      obtain ⟨q0, q1, q2, -⟩ := HK.out.2.2
      obtain rfl | rfl | rfl | rfl : k = 0 ∨ k = 1 ∨ k = 2 ∨ k = 3 := by have := HK.out.1.1; omega
      · by_cases h1 : u < u'
        · have HE : Hid (cmpE (u, v, x) (u', v', x') = -1) := Lib.hid (by exact cmp_of_lt (Or.inl h1))
          go_wp2
          go_quiet (fail)
          go_wp2
          go_ret
          exact ⟨ret_i HE.out.symm, below_drewN HK.out.1.2.1 _⟩
        by_cases h2 : u' < u
        · have HE : Hid (cmpE (u, v, x) (u', v', x') = 1) := Lib.hid (by exact cmp_of_gt (Or.inl h2))
          go_wp2
          go_quiet (fail)
          go_wp2
          go_quiet (fail)
          go_wp2
          go_ret
          exact ⟨ret_i HE.out.symm, below_drewN (below_drewN HK.out.1.2.1 _) _⟩
        have HE : Hid (u = u') := Lib.hid (by omega)
        go_wp2
        go_quiet (fail)
        go_wp2
        go_quiet (fail)
        go_wp2
        go_roundw
        case rel => exact ⟨1, by go_num, Lib.hid ⟨⟨by omega, below_drewN HK.out.1.2.1 _, fun _ => HE.out, fun h => by omega, fun h => by omega⟩, HK.out.2.1.on (below_drewN (Below.refl _ _) _) HK.out.2.1.lt, HK.out.2.2.on (below_drewN (Below.refl _ _) _) HK.out.2.2.lt⟩⟩
        case measure => (simp [intOf])
      · by_cases h1 : v < v'
        · have HE : Hid (cmpE (u, v, x) (u', v', x') = -1) := Lib.hid (by have E0 := HK.out.1.2.2.1 (by omega); exact cmp_of_lt (Or.inr ⟨E0, Or.inl h1⟩))
          go_wp2
          go_quiet (fail)
          go_wp2
          go_ret
          exact ⟨ret_i HE.out.symm, below_drewN HK.out.1.2.1 _⟩
        by_cases h2 : v' < v
        · have HE : Hid (cmpE (u, v, x) (u', v', x') = 1) := Lib.hid (by have E0 := HK.out.1.2.2.1 (by omega); exact cmp_of_gt (Or.inr ⟨E0.symm, Or.inl h2⟩))
          go_wp2
          go_quiet (fail)
          go_wp2
          go_quiet (fail)
          go_wp2
          go_ret
          exact ⟨ret_i HE.out.symm, below_drewN (below_drewN HK.out.1.2.1 _) _⟩
        have HE : Hid (v = v') := Lib.hid (by omega)
        go_wp2
        go_quiet (fail)
        go_wp2
        go_quiet (fail)
        go_wp2
        go_roundw
        case rel => exact ⟨2, by go_num, Lib.hid ⟨⟨by omega, below_drewN HK.out.1.2.1 _, fun _ => HK.out.1.2.2.1 (by omega), fun _ => HE.out, fun h => by omega⟩, HK.out.2.1.on (below_drewN (Below.refl _ _) _) HK.out.2.1.lt, HK.out.2.2.on (below_drewN (Below.refl _ _) _) HK.out.2.2.lt⟩⟩
        case measure => (simp [intOf])
      · by_cases h1 : x < x'
        · have HE : Hid (cmpE (u, v, x) (u', v', x') = -1) := Lib.hid (by have E0 := HK.out.1.2.2.1 (by omega); have E1 := HK.out.1.2.2.2.1 (by omega); exact cmp_of_lt (Or.inr ⟨E0, Or.inr ⟨E1, h1⟩⟩))
          go_wp2
          go_quiet (fail)
          go_wp2
          go_ret
          exact ⟨ret_i HE.out.symm, below_drewN HK.out.1.2.1 _⟩
        by_cases h2 : x' < x
        · have HE : Hid (cmpE (u, v, x) (u', v', x') = 1) := Lib.hid (by have E0 := HK.out.1.2.2.1 (by omega); have E1 := HK.out.1.2.2.2.1 (by omega); exact cmp_of_gt (Or.inr ⟨E0.symm, Or.inr ⟨E1.symm, h2⟩⟩))
          go_wp2
          go_quiet (fail)
          go_wp2
          go_quiet (fail)
          go_wp2
          go_ret
          exact ⟨ret_i HE.out.symm, below_drewN (below_drewN HK.out.1.2.1 _) _⟩
        have HE : Hid (x = x') := Lib.hid (by omega)
        go_wp2
        go_quiet (fail)
        go_wp2
        go_quiet (fail)
        go_wp2
        go_roundw
        case rel => exact ⟨3, by go_num, Lib.hid ⟨⟨by omega, below_drewN HK.out.1.2.1 _, fun _ => HK.out.1.2.2.1 (by omega), fun _ => HK.out.1.2.2.2.1 (by omega), fun _ => HE.out⟩, HK.out.2.1.on (below_drewN (Below.refl _ _) _) HK.out.2.1.lt, HK.out.2.2.on (below_drewN (Below.refl _ _) _) HK.out.2.2.lt⟩⟩
        case measure => (simp [intOf])
      · have HE : Hid (cmpE (u, v, x) (u', v', x') = 0) := Lib.hid (cmp_of_eq (by have E0 := HK.out.1.2.2.1 (by omega); have E1 := HK.out.1.2.2.2.1 (by omega); have E2 := HK.out.1.2.2.2.2 (by omega); simp only at E0 E1 E2; rw [E0, E1, E2]))
        go_wp2
        go_ret
        exact ⟨ret_i HE.out.symm, HK.out.1.2.1⟩
  · go_simp
    refine hK.out _ _ (hkeep.out _ ((Below.refl _ _).alloc (Nat.le_refl _) _)) (fun hHeld => ?_)
    clear hK K hHeld
    refine wpAnyH_ready (rs := [14]) (by kernel_rfl) (by simp) ?_
    refine AllReadyH.cons rfl (fun K hK => ?_) AllReadyH.nil
    go_simp
    refine hK.out _ _ (hkeep.out _ below_two) (fun hHeld => ?_)
    clear hK K hHeld
    have hX0 : ThreeAt W1.heap.size ((W1.alloc (.cells #[.int .i64 0, .int .i64 0, .int .i64 0] 53)).alloc (.cells #[.int .i64 0, .int .i64 0, .int .i64 0] 53)) (.int .i64 0) (.int .i64 0) (.int .i64 0) := (ThreeAt.new W1 _ _ _ _).on ((Below.refl _ _).alloc (Nat.le_refl _) _) (ThreeAt.new W1 (.int .i64 0) (.int .i64 0) (.int .i64 0) 53).lt
    have hY0 : ThreeAt (W1.heap.size + 1) ((W1.alloc (.cells #[.int .i64 0, .int .i64 0, .int .i64 0] 53)).alloc (.cells #[.int .i64 0, .int .i64 0, .int .i64 0] 53)) (.int .i64 0) (.int .i64 0) (.int .i64 0) := by
      have h := ThreeAt.new (W1.alloc (.cells #[.int .i64 0, .int .i64 0, .int .i64 0] 53)) (.int .i64 0) (.int .i64 0) (.int .i64 0) 53
      simpa using h
    have HW0 : Hid (Below W1.heap.size W1 ((W1.alloc (.cells #[.int .i64 0, .int .i64 0, .int .i64 0] 53)).alloc (.cells #[.int .i64 0, .int .i64 0, .int .i64 0] 53))) := Lib.hid below_two
    generalize (W1.alloc (.cells #[.int .i64 0, .int .i64 0, .int .i64 0] 53)).alloc (.cells #[.int .i64 0, .int .i64 0, .int .i64 0] 53) = W2 at *
    generalize hM : W1.heap.size = M at *
    have HX0 := Lib.hid hX0
    have HY0 := Lib.hid hY0
    obtain ⟨z0, z1, z2, f0, f1, f2⟩ := hX0
    obtain ⟨y0, y1, y2, g0, g1, g2⟩ := hY0
    refine wpAnyH_ready (rs := [16]) (by kernel_rfl) (by simp) ?_
    refine AllReadyH.cons rfl (fun K hK => ?_) AllReadyH.nil
    go_simp
    refine hK.out _ _ (hkeep.out _ (((HW0.out.setCell (by simp) _).setCell (by simp) _).setCell (by simp) _)) (fun hHeld => ?_)
    clear hK K hHeld
    refine wpAnyH_ready (rs := [17]) (by kernel_rfl) (by simp) ?_
    refine AllReadyH.cons rfl (fun K hK => ?_) AllReadyH.nil
    go_simp
    refine hK.out _ _ (hkeep.out _ ((((((HW0.out.setCell (by simp) _).setCell (by simp) _).setCell (by simp) _).setCell (by simp) _).setCell (by simp) _).setCell (by simp) _)) (fun hHeld => ?_)
    clear hK K hHeld
    refine wpAnyH_done (by kernel_rfl) ?_ _
    have HX : Hid (ThreeAt (M + 1) ((((((W2.setCell ⟨M + 1, 0, none⟩ (.int .i64 u)).setCell ⟨M + 1, 1, none⟩ (.int .i64 v)).setCell ⟨M + 1, 2, none⟩ (.int .i64 x)).setCell ⟨M, 0, none⟩ (.int .i64 u')).setCell ⟨M, 1, none⟩ (.int .i64 v')).setCell ⟨M, 2, none⟩ (.int .i64 x')) (.int .i64 u) (.int .i64 v) (.int .i64 x)) := Lib.hid ((((HY0.out.set _ _ _).other (by simp) 0 _).other (by simp) 1 _).other (by simp) 2 _)
    have HY : Hid (ThreeAt (M) ((((((W2.setCell ⟨M + 1, 0, none⟩ (.int .i64 u)).setCell ⟨M + 1, 1, none⟩ (.int .i64 v)).setCell ⟨M + 1, 2, none⟩ (.int .i64 x)).setCell ⟨M, 0, none⟩ (.int .i64 u')).setCell ⟨M, 1, none⟩ (.int .i64 v')).setCell ⟨M, 2, none⟩ (.int .i64 x')) (.int .i64 u') (.int .i64 v') (.int .i64 x')) := Lib.hid ((((HX0.out.other (by simp) 0 _).other (by simp) 1 _).other (by simp) 2 _).set _ _ _)
    have HW : Hid (Below w.heap.size w ((((((W2.setCell ⟨M + 1, 0, none⟩ (.int .i64 u)).setCell ⟨M + 1, 1, none⟩ (.int .i64 v)).setCell ⟨M + 1, 2, none⟩ (.int .i64 x)).setCell ⟨M, 0, none⟩ (.int .i64 u')).setCell ⟨M, 1, none⟩ (.int .i64 v')).setCell ⟨M, 2, none⟩ (.int .i64 x'))) := Lib.hid (by rw [hN]; exact (hkeep.out _ (((((((HW0.out.setCell (by simp) _).setCell (by simp) _).setCell (by simp) _).setCell (by simp) _).setCell (by simp) _).setCell (by simp) _))).2.2.2.2.2.2.out)
    generalize ((((((W2.setCell ⟨M + 1, 0, none⟩ (.int .i64 u)).setCell ⟨M + 1, 1, none⟩ (.int .i64 v)).setCell ⟨M + 1, 2, none⟩ (.int .i64 x)).setCell ⟨M, 0, none⟩ (.int .i64 u')).setCell ⟨M, 1, none⟩ (.int .i64 v')).setCell ⟨M, 2, none⟩ (.int .i64 x')) = W5 at *
    clear z0 z1 z2 f0 f1 f2 y0 y1 y2 g0 g1 g2 HW0 hkeep
    clear HX0 HY0
    go_wp2
    go_loopw [7] (fun i wr => ∃ k : Nat, i = .int .i64 k ∧ Hid (CmpRel w (u, v, x) (u', v', x') k wr ∧ ThreeAt (M + 1) wr (.int .i64 u) (.int .i64 v) (.int .i64 x) ∧ ThreeAt (M) wr (.int .i64 u') (.int .i64 v') (.int .i64 x'))) (fun i _ => 3 - (intOf i).toNat)
    case atStart => exact ⟨0, rfl, Lib.hid ⟨⟨by omega, HW.out, fun h => by omega, fun h => by omega, fun h => by omega⟩, HX.out, HY.out⟩⟩
    case round =>
      obtain ⟨k, rfl, HK⟩ := hrel
      clear HW HX HY
      obtain ⟨e0, e1, e2, -⟩ := HK.out.2.1
      obtain ⟨q0, q1, q2, -⟩ := HK.out.2.2
      obtain rfl | rfl | rfl | rfl : k = 0 ∨ k = 1 ∨ k = 2 ∨ k = 3 := by have := HK.out.1.1; omega
      · by_cases h1 : u < u'
        · have HE : Hid (cmpE (u, v, x) (u', v', x') = -1) := Lib.hid (by exact cmp_of_lt (Or.inl h1))
          go_wp2
          go_quiet (fail)
          go_wp2
          go_ret
          exact ⟨ret_i HE.out.symm, below_drewN HK.out.1.2.1 _⟩
        by_cases h2 : u' < u
        · have HE : Hid (cmpE (u, v, x) (u', v', x') = 1) := Lib.hid (by exact cmp_of_gt (Or.inl h2))
          go_wp2
          go_quiet (fail)
          go_wp2
          go_quiet (fail)
          go_wp2
          go_ret
          exact ⟨ret_i HE.out.symm, below_drewN (below_drewN HK.out.1.2.1 _) _⟩
        have HE : Hid (u = u') := Lib.hid (by omega)
        go_wp2
        go_quiet (fail)
        go_wp2
        go_quiet (fail)
        go_wp2
        go_roundw
        case rel => exact ⟨1, by go_num, Lib.hid ⟨⟨by omega, below_drewN HK.out.1.2.1 _, fun _ => HE.out, fun h => by omega, fun h => by omega⟩, HK.out.2.1.on (below_drewN (Below.refl _ _) _) HK.out.2.1.lt, HK.out.2.2.on (below_drewN (Below.refl _ _) _) HK.out.2.2.lt⟩⟩
        case measure => (simp [intOf])
      · by_cases h1 : v < v'
        · have HE : Hid (cmpE (u, v, x) (u', v', x') = -1) := Lib.hid (by have E0 := HK.out.1.2.2.1 (by omega); exact cmp_of_lt (Or.inr ⟨E0, Or.inl h1⟩))
          go_wp2
          go_quiet (fail)
          go_wp2
          go_ret
          exact ⟨ret_i HE.out.symm, below_drewN HK.out.1.2.1 _⟩
        by_cases h2 : v' < v
        · have HE : Hid (cmpE (u, v, x) (u', v', x') = 1) := Lib.hid (by have E0 := HK.out.1.2.2.1 (by omega); exact cmp_of_gt (Or.inr ⟨E0.symm, Or.inl h2⟩))
          go_wp2
          go_quiet (fail)
          go_wp2
          go_quiet (fail)
          go_wp2
          go_ret
          exact ⟨ret_i HE.out.symm, below_drewN (below_drewN HK.out.1.2.1 _) _⟩
        have HE : Hid (v = v') := Lib.hid (by omega)
        go_wp2
        go_quiet (fail)
        go_wp2
        go_quiet (fail)
        go_wp2
        go_roundw
        case rel => exact ⟨2, by go_num, Lib.hid ⟨⟨by omega, below_drewN HK.out.1.2.1 _, fun _ => HK.out.1.2.2.1 (by omega), fun _ => HE.out, fun h => by omega⟩, HK.out.2.1.on (below_drewN (Below.refl _ _) _) HK.out.2.1.lt, HK.out.2.2.on (below_drewN (Below.refl _ _) _) HK.out.2.2.lt⟩⟩
        case measure => (simp [intOf])
      · by_cases h1 : x < x'
        · have HE : Hid (cmpE (u, v, x) (u', v', x') = -1) := Lib.hid (by have E0 := HK.out.1.2.2.1 (by omega); have E1 := HK.out.1.2.2.2.1 (by omega); exact cmp_of_lt (Or.inr ⟨E0, Or.inr ⟨E1, h1⟩⟩))
          go_wp2
          go_quiet (fail)
          go_wp2
          go_ret
          exact ⟨ret_i HE.out.symm, below_drewN HK.out.1.2.1 _⟩
        by_cases h2 : x' < x
        · have HE : Hid (cmpE (u, v, x) (u', v', x') = 1) := Lib.hid (by have E0 := HK.out.1.2.2.1 (by omega); have E1 := HK.out.1.2.2.2.1 (by omega); exact cmp_of_gt (Or.inr ⟨E0.symm, Or.inr ⟨E1.symm, h2⟩⟩))
          go_wp2
          go_quiet (fail)
          go_wp2
          go_quiet (fail)
          go_wp2
          go_ret
          exact ⟨ret_i HE.out.symm, below_drewN (below_drewN HK.out.1.2.1 _) _⟩
        have HE : Hid (x = x') := Lib.hid (by omega)
        go_wp2
        go_quiet (fail)
        go_wp2
        go_quiet (fail)
        go_wp2
        go_roundw
        case rel => exact ⟨3, by go_num, Lib.hid ⟨⟨by omega, below_drewN HK.out.1.2.1 _, fun _ => HK.out.1.2.2.1 (by omega), fun _ => HK.out.1.2.2.2.1 (by omega), fun _ => HE.out⟩, HK.out.2.1.on (below_drewN (Below.refl _ _) _) HK.out.2.1.lt, HK.out.2.2.on (below_drewN (Below.refl _ _) _) HK.out.2.2.lt⟩⟩
        case measure => (simp [intOf])
      · have HE : Hid (cmpE (u, v, x) (u', v', x') = 0) := Lib.hid (cmp_of_eq (by have E0 := HK.out.1.2.2.1 (by omega); have E1 := HK.out.1.2.2.2.1 (by omega); have E2 := HK.out.1.2.2.2.2 (by omega); simp only at E0 E1 E2; rw [E0, E1, E2]))
        go_wp2
        go_ret
        exact ⟨ret_i HE.out.symm, HK.out.1.2.1⟩
end Go.Proofs.Ytbkcjbknoljogaa
