/- Contracts of edge's small functions: isVertex, Check, Normal, ends, Cmp. -/
import Derived.Test.YtbankocbncpepaaEdMap
import Derived.Test.YtbankocbncpepaaEdShelf
import Derived.Shelf.SlSortCmp.QuietGrown
import Derived.Deep.RegionWith
import Derived.BigQuiet
import Derived.StillTailTactics
namespace Go.Proofs.Ytbankocbncpepaa
open Go.RowKit Go.ChangeShapes EdPure
theorem isVertex_any (n v : Int) (w : World) :
    Calls Try.prog 51 #[.int .i64 n, .int .i64 v] w fun e w' => e = .returned (.bool (decide (0 ≤ v) && decide (v < n))) ∧ w = w' := by
  by_cases h1 : 0 ≤ v
  · have HE : Hid ((decide (0 ≤ v) && decide (v < n)) = decide (v < n)) := Lib.hid (by simp [h1])
    go_enter Try.func51, Try.ntmps51
    go_wp2
    go_ret
    exact ⟨bool_ret HE.out.symm, rfl⟩
  · have HE : Hid ((decide (0 ≤ v) && decide (v < n)) = false) := Lib.hid (by simp [h1])
    go_enter Try.func51, Try.ntmps51
    go_wp2
    go_ret
    exact ⟨bool_ret HE.out.symm, rfl⟩
theorem vertex_yes {n v : Int} (h : 0 ≤ v ∧ v < n) (w : World) :
    Calls Try.prog 51 #[.int .i64 n, .int .i64 v] w fun e w' => e = .returned (.bool true) ∧ w = w' := by
  have := isVertex_any n v w
  rwa [show (decide (0 ≤ v) && decide (v < n)) = true by simp [h.1, h.2]] at this
theorem vertex_no {n v : Int} (h : ¬ (0 ≤ v ∧ v < n)) (w : World) :
    Calls Try.prog 51 #[.int .i64 n, .int .i64 v] w fun e w' => e = .returned (.bool false) ∧ w = w' := by
  have := isVertex_any n v w
  rwa [show (decide (0 ≤ v) && decide (v < n)) = false by rw [Bool.and_eq_false_iff, decide_eq_false_iff_not, decide_eq_false_iff_not]; omega] at this
theorem check_any (n : Int) (e : Ed) (w : World) :
    Calls Try.prog 36 #[.int .i64 n, encE e] w fun r w' => r = .returned (.int .i64 (chkE n e)) ∧ Below w.heap.size w w' := by
  obtain ⟨u, v, x⟩ := e
  unfold encE
  by_cases h1 : 0 ≤ u ∧ u < n
  · have H1 := Lib.hid (fun W => vertex_yes h1 W)
    by_cases h2 : 0 ≤ v ∧ v < n
    · have H2 := Lib.hid (fun W => vertex_yes h2 W)
      by_cases h3 : 0 ≤ x
      · by_cases h4 : x ≤ 2147483648
        · have HE : Hid (chkE n (u, v, x) = 0) := Lib.hid (by unfold chkE; rw [if_pos ⟨h1, h2⟩, if_pos ⟨h3, h4⟩])
          clear h1 h2
          go_enter Try.func36, Try.ntmps36
          go_wp2_with (first | (go_at_call 51; first | (go_fit (H1.out _); rintro r w' ⟨rfl, rfl⟩) | (go_fit (H2.out _); rintro r w' ⟨rfl, rfl⟩)))
          go_ret
          exact ⟨ret_i HE.out.symm, (Below.refl _ _).alloc (Nat.le_refl _) _⟩
        · have HE : Hid (chkE n (u, v, x) = 5) := Lib.hid (by unfold chkE; rw [if_pos ⟨h1, h2⟩, if_neg (by simp only; omega)])
          clear h1 h2
          go_enter Try.func36, Try.ntmps36
          go_wp2_with (first | (go_at_call 51; first | (go_fit (H1.out _); rintro r w' ⟨rfl, rfl⟩) | (go_fit (H2.out _); rintro r w' ⟨rfl, rfl⟩)))
          go_ret
          exact ⟨ret_i HE.out.symm, (Below.refl _ _).alloc (Nat.le_refl _) _⟩
      · have HE : Hid (chkE n (u, v, x) = 5) := Lib.hid (by unfold chkE; rw [if_pos ⟨h1, h2⟩, if_neg (by simp only; omega)])
        clear h1 h2
        go_enter Try.func36, Try.ntmps36
        go_wp2_with (first | (go_at_call 51; first | (go_fit (H1.out _); rintro r w' ⟨rfl, rfl⟩) | (go_fit (H2.out _); rintro r w' ⟨rfl, rfl⟩)))
        go_ret
        exact ⟨ret_i HE.out.symm, (Below.refl _ _).alloc (Nat.le_refl _) _⟩
    · have H2 := Lib.hid (fun W => vertex_no h2 W)
      have HE : Hid (chkE n (u, v, x) = 4) := Lib.hid (by unfold chkE; rw [if_neg (fun h => h2 h.2)])
      clear h1 h2
      go_enter Try.func36, Try.ntmps36
      go_wp2_with (first | (go_at_call 51; first | (go_fit (H1.out _); rintro r w' ⟨rfl, rfl⟩) | (go_fit (H2.out _); rintro r w' ⟨rfl, rfl⟩)))
      go_ret
      exact ⟨ret_i HE.out.symm, (Below.refl _ _).alloc (Nat.le_refl _) _⟩
  · have H1 := Lib.hid (fun W => vertex_no h1 W)
    have HE : Hid (chkE n (u, v, x) = 4) := Lib.hid (by unfold chkE; rw [if_neg (fun h => h1 h.1)])
    clear h1
    go_enter Try.func36, Try.ntmps36
    go_wp2_with (first | (go_at_call 51; refine (H1.out _).mono ?_; rintro r w' ⟨rfl, rfl⟩))
    go_ret
    exact ⟨ret_i HE.out.symm, (Below.refl _ _).alloc (Nat.le_refl _) _⟩
theorem agg_e {e e' : Ed} (h : e = e') : Ending.returned (.agg #[.int .i64 e.1, .int .i64 e.2.1, .int .i64 e.2.2]) = .returned (encE e') := by rw [h]; rfl
theorem below_two {w : World} {o o' : Obj} : Below w.heap.size w ((w.alloc o).alloc o') := ((Below.refl _ _).alloc (Nat.le_refl _) _).alloc (by simp) _
theorem normal_any (e : Ed) (w : World) :
    Calls Try.prog 67 #[encE e] w fun r w' => r = .returned (encE (normE e)) ∧ Below w.heap.size w w' := by
  obtain ⟨u, v, x⟩ := e
  unfold encE
  by_cases h : v < u
  · have HE : Hid ((v, u, x) = normE (u, v, x)) := Lib.hid (by unfold normE; rw [if_pos h])
    go_enter Try.func67, Try.ntmps67
    go_wp2
    refine bodyPost_ret (v := .agg #[.int .i64 v, .int .i64 u, .int .i64 x]) (by simp [results, Try.results67, go_sem]) rfl ⟨agg_e HE.out, ?_⟩
    first | exact below_two | (refine Below.setCell (Below.setCell (Below.setCell ?_ ?_ _) ?_ _) ?_ _ <;> first | exact below_two | simp)
  · have HE : Hid ((u, v, x) = normE (u, v, x)) := Lib.hid (by unfold normE; rw [if_neg h])
    go_enter Try.func67, Try.ntmps67
    go_wp2
    refine bodyPost_ret (v := .agg #[.int .i64 u, .int .i64 v, .int .i64 x]) (by simp [results, Try.results67, go_sem]) rfl ⟨agg_e HE.out, ?_⟩
    exact below_two


theorem ends_any (e : Ed) (w : World) :
    Calls Try.prog 52 #[encE e] w fun r w' => r = .returned (encP (endsE e)) ∧ Below w.heap.size w w' := by
  have HE : Hid (encP (endsE e) = .agg #[.int .i64 (normE e).1, .int .i64 (normE e).2.1]) := Lib.hid rfl
  have HN := Lib.hid (fun W => normal_any e W)
  obtain ⟨u, v, x⟩ := e
  unfold encE at HN ⊢
  generalize normE (u, v, x) = q at *
  obtain ⟨a, b, c⟩ := q
  go_enter Try.func52, Try.ntmps52
  go_wp2_with fail
  have H3 : Hid (ThreeAt w.heap.size ((w.alloc (.cells #[.int .i64 u, .int .i64 v, .int .i64 x] 58)).alloc (.cells #[.int .i64 0, .int .i64 0] 51)) (.int .i64 u) (.int .i64 v) (.int .i64 x)) := Lib.hid (by
    have h := ThreeAt.new w (.int .i64 u) (.int .i64 v) (.int .i64 x) 58
    exact h.on ((Below.refl _ _).alloc (Nat.le_refl _) _) h.lt)
  have H2 : Hid (TwoAt (w.heap.size + 1) ((w.alloc (.cells #[.int .i64 u, .int .i64 v, .int .i64 x] 58)).alloc (.cells #[.int .i64 0, .int .i64 0] 51)) (.int .i64 0) (.int .i64 0)) := Lib.hid (by
    have h := TwoAt.new (w.alloc (.cells #[.int .i64 u, .int .i64 v, .int .i64 x] 58)) (.int .i64 0) (.int .i64 0) 51
    simpa using h)
  have HB : Hid (Below w.heap.size w ((w.alloc (.cells #[.int .i64 u, .int .i64 v, .int .i64 x] 58)).alloc (.cells #[.int .i64 0, .int .i64 0] 51))) := Lib.hid below_two
  generalize (w.alloc (.cells #[.int .i64 u, .int .i64 v, .int .i64 x] 58)).alloc (.cells #[.int .i64 0, .int .i64 0] 51) = W0 at *
  refine (HN.out _).mono ?_
  rintro r w1 ⟨rfl, hb⟩
  replace HB := Lib.hid (HB.out.trans (hb.mono HB.out.size))
  obtain ⟨c0, c1, c2, f0, f1, f2⟩ := H3.out.on hb H3.out.lt
  obtain ⟨d0, d1, g0, g1⟩ := H2.out.on hb H2.out.lt
  clear hb HN H2 H3
  generalize hN : w.heap.size = N at *
  go_wp2
  refine bodyPost_ret (v := .agg #[.int .i64 a, .int .i64 b]) (by simp [results, Try.results52, go_sem, d0, d1]) rfl ⟨by rw [HE.out], ?_⟩
  rw [hN]
  exact ((((HB.out.setCell (Nat.le_refl _) _).setCell (Nat.le_refl _) _).setCell (Nat.le_refl _) _).setCell (by simp) _).setCell (by simp) _
/-- The first of three numbers that is not 0. -/
theorem or3_any (g : Nat) (x y z : Int) (w : World) (h0 : w.cell? ⟨g, 0, none⟩ = some (.int .i64 x)) (h1 : w.cell? ⟨g, 1, none⟩ = some (.int .i64 y)) (h2 : w.cell? ⟨g, 2, none⟩ = some (.int .i64 z)) :
    Calls Try.prog 56 #[.slice (some ⟨g, 0, none⟩) 3 3] w fun e w' => e = .returned (.int .i64 (orI x (orI y z))) ∧ w' = w := by
  go_enter Try.func56, Try.ntmps56
  go_wp2
  go_loopw [8] (fun i wr => ∃ k : Nat, i = .int .i64 k ∧ wr = w ∧ Hid (k ≤ 3 ∧ (1 ≤ k → x = 0) ∧ (2 ≤ k → y = 0) ∧ (3 ≤ k → z = 0))) (fun i _ => 3 - (intOf i).toNat)
  case atStart => exact ⟨0, rfl, rfl, Lib.hid ⟨by omega, fun h => by omega, fun h => by omega, fun h => by omega⟩⟩
  case round =>
    obtain ⟨k, rfl, rfl, HK⟩ := hrel
    obtain rfl | rfl | rfl | rfl : k = 0 ∨ k = 1 ∨ k = 2 ∨ k = 3 := by have := HK.out.1; omega
    · by_cases hx : x = 0
      · have t : (x != 0) = false := by simp [hx]
        have HN := Lib.hid hx
        clear hx
        go_wp2
        go_roundw
        case rel => exact ⟨1, by go_num, trivial, Lib.hid ⟨by omega, fun _ => HN.out, fun h => by omega, fun h => by omega⟩⟩
        case measure => (simp [intOf])
      · have t : (x != 0) = true := by simp [hx]
        have HN : Hid (orI x (orI y z) = x) := Lib.hid (if_neg hx)
        clear hx
        go_wp2
        go_ret
        exact ⟨by rw [HN.out]; rfl, rfl⟩
    · have h0x := Lib.hid (HK.out.2.1 (by omega))
      by_cases hx : y = 0
      · have t : (y != 0) = false := by simp [hx]
        have HN := Lib.hid hx
        clear hx
        go_wp2
        go_roundw
        case rel => exact ⟨2, by go_num, trivial, Lib.hid ⟨by omega, fun _ => h0x.out, fun h => HN.out, fun h => by omega⟩⟩
        case measure => (simp [intOf])
      · have t : (y != 0) = true := by simp [hx]
        have HN : Hid (orI x (orI y z) = y) := Lib.hid (by rw [orI, if_pos h0x.out, orI, if_neg hx])
        clear hx
        go_wp2
        go_ret
        exact ⟨by rw [HN.out]; rfl, rfl⟩
    · have h0x := Lib.hid (HK.out.2.1 (by omega))
      have h0y := Lib.hid (HK.out.2.2.1 (by omega))
      by_cases hx : z = 0
      · have t : (z != 0) = false := by simp [hx]
        have HN := Lib.hid hx
        clear hx
        go_wp2
        go_roundw
        case rel => exact ⟨3, by go_num, trivial, Lib.hid ⟨by omega, fun _ => h0x.out, fun h => h0y.out, fun h => HN.out⟩⟩
        case measure => (simp [intOf])
      · have t : (z != 0) = true := by simp [hx]
        have HN : Hid (orI x (orI y z) = z) := Lib.hid (by rw [orI, if_pos h0x.out, orI, if_pos h0y.out])
        clear hx
        go_wp2
        go_ret
        exact ⟨by rw [HN.out]; rfl, rfl⟩
    · have HN : Hid (orI x (orI y z) = 0) := Lib.hid (by rw [orI, if_pos (HK.out.2.1 (by omega)), orI, if_pos (HK.out.2.2.1 (by omega)), HK.out.2.2.2 (by omega)])
      go_wp2
      go_ret
      exact ⟨by rw [HN.out]; rfl, rfl⟩
theorem cmp64_any (x y : Int) (w : World) : Calls Try.prog 58 #[.int .i64 x, .int .i64 y] w fun e w' => e = .returned (.int .i64 (Lib.compareInt x y)) ∧ w' = w := AnyG.cmp_Compare_int Try.laysCmp64 x y w
theorem cmpI_any (x y : Int) (w : World) : Calls Try.prog 57 #[.int .i64 x, .int .i64 y] w fun e w' => e = .returned (.int .i64 (Lib.compareInt x y)) ∧ w' = w := AnyG.cmp_Compare_int Try.laysCmp x y w
set_option maxRecDepth 100000 in
set_option maxHeartbeats 400000 in
theorem cmp_any (a b : Ed) (w : World) :
    Calls Try.prog 39 #[encE a, encE b] w fun e w' => e = .returned (.int .i64 (cmpE a b)) ∧ ∃ q os, w' = Go.Sort.grow (w.drewN q) os := by
  obtain ⟨u, v, x⟩ := a
  obtain ⟨u', v', x'⟩ := b
  unfold encE cmpE
  simp only
  have HX := Lib.hid (fun W => cmpI_any u u' W)
  have HY := Lib.hid (fun W => cmpI_any v v' W)
  have HZ := Lib.hid (fun W => cmp64_any x x' W)
  generalize Lib.compareInt u u' = r at *
  generalize Lib.compareInt v v' = s at *
  generalize Lib.compareInt x x' = t at *
  go_enter Try.func39, Try.ntmps39
  go_wp2
  obtain ⟨W0, hW0⟩ : ∃ W0, (w.alloc (.cells #[.int .i64 u, .int .i64 v, .int .i64 x] 58)).alloc (.cells #[.int .i64 u', .int .i64 v', .int .i64 x'] 58) = W0 := ⟨_, rfl⟩
  have b0 : (W0.drewN 1).cell? ⟨w.heap.size, 0, none⟩ = some (.int .i64 u) := by rw [← hW0]; simp
  have b1 : (W0.drewN 1).cell? ⟨w.heap.size, 1, none⟩ = some (.int .i64 v) := by rw [← hW0]; simp
  have b2 : (W0.drewN 1).cell? ⟨w.heap.size, 2, none⟩ = some (.int .i64 x) := by rw [← hW0]; simp
  have d0 : (W0.drewN 1).cell? ⟨w.heap.size + 1, 0, none⟩ = some (.int .i64 u') := by rw [← hW0]; simp
  have d1 : (W0.drewN 1).cell? ⟨w.heap.size + 1, 1, none⟩ = some (.int .i64 v') := by rw [← hW0]; simp
  have d2 : (W0.drewN 1).cell? ⟨w.heap.size + 1, 2, none⟩ = some (.int .i64 x') := by rw [← hW0]; simp
  have HG : Hid (∀ o, ∃ os, (W0.drewN 1).alloc o = Go.Sort.grow (w.drewN 1) os) := Lib.hid (by
    intro o
    rw [← hW0, Go.Sort.alloc_eq_grow w, Go.Sort.alloc_eq_grow (Go.Sort.grow w _), Go.Sort.grow_grow]
    exact ⟨_, (Go.Sort.alloc_eq_grow _ _).trans (Go.Sort.grow_grow (w.drewN 1) _ _)⟩)
  rw [hW0]
  clear hW0
  generalize w.heap.size = N at *
  refine wp_region_still_tail 15 (by kernel_rfl) (by kernel_rfl) ?_
  change wpStill _ _ (W0.drewN 1) _ _ _
  change wpStill _ _ _ (fun a' => wpList _ _ _ _ _ (W0.drewN 1)) _ _
  generalize W0.drewN 1 = W1 at *
  simp only [List.take_succ_cons, List.take_zero, List.drop_succ_cons, List.drop_zero]
  iterate 4 still_step
  still_call (HX.out _)
  iterate 4 still_step
  still_call (HY.out _)
  iterate 4 still_step
  still_call (HZ.out _)
  refine wpStill_nil ?_
  obtain ⟨os, hos⟩ := HG.out (.cells #[.int .i64 r, .int .i64 s, .int .i64 t] 3)
  have HO := Lib.hid hos
  clear hos
  go_wp2_with fail
  refine (or3_any _ r s t _ (by simp) (by simp) (by simp)).mono ?_
  rintro e w1 ⟨rfl, rfl⟩
  go_wp2
  go_ret
  exact ⟨rfl, 1, os, HO.out⟩
end Go.Proofs.Ytbankocbncpepaa
