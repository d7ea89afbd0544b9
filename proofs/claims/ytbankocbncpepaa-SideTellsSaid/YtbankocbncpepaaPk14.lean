/- Texts that the laws of this seat stand on, part 14. -/
import Derived.Ground.SlgcProg
import Derived.Shelf.SlicesG.Cmp
import Derived.Ground.SlsfProg
import Derived.Shelf.SlLaysF0
import Derived.Test.YtbankocbncpepaaProg
import Derived.Test.YtbankocbncpepaaPk13
import Derived.Shelf.SlSortCmp.QuietGrown
import Derived.Deep.RegionWith
import Derived.BigQuiet
import Derived.StillTailTactics
/- The library's contracts that edges lean on, laid at this program: cmp.Compare at both kinds and slices.SortFunc at api.Edge. -/
namespace Go.Proofs
open Go.Shelf
def Try.laysCmp64_ren : Go.Shelf.Ren := ⟨fun | 5 => 58 | 7 => 79 | n => n, fun | 22 => 2 | 3 => 3 | 4 => 4 | n => n, fun | n => n⟩
theorem Try.laysCmp64 : Go.Proofs.SlLaysC2.n5 Try.prog Try.laysCmp64_ren := {
  mixed := by kernel_rfl
  f5 := ⟨Try.f58.name, by decide, Try.func58.trans (congrArg some (by kernel_rfl))⟩
  f7 := ⟨Try.f79.name, by decide, Try.func79.trans (congrArg some (by kernel_rfl))⟩
  t3 := Try.underlying3
  a3 := Try.isAgg3
  z3 := Try.sizeOf3
  v3 := Try.zeroValue3
  t4 := Try.underlying4
  a4 := Try.isAgg4
  z4 := Try.sizeOf4
  v4 := Try.zeroValue4
  t22 := Try.underlying2
  a22 := Try.isAgg2
  z22 := Try.sizeOf2
  v22 := Try.zeroValue2 }
def Try.laysCmp_ren : Go.Shelf.Ren := ⟨fun | 5 => 57 | 7 => 78 | n => n, fun | 22 => 3 | 3 => 3 | 4 => 4 | n => n, fun | n => n⟩
theorem Try.laysCmp : Go.Proofs.SlLaysC2.n5 Try.prog Try.laysCmp_ren := {
  mixed := by kernel_rfl
  f5 := ⟨Try.f57.name, by decide, Try.func57.trans (congrArg some (by kernel_rfl))⟩
  f7 := ⟨Try.f78.name, by decide, Try.func78.trans (congrArg some (by kernel_rfl))⟩
  t3 := Try.underlying3
  a3 := Try.isAgg3
  z3 := Try.sizeOf3
  v3 := Try.zeroValue3
  t4 := Try.underlying4
  a4 := Try.isAgg4
  z4 := Try.sizeOf4
  v4 := Try.zeroValue4
  t22 := Try.underlying3
  a22 := Try.isAgg3
  z22 := Try.sizeOf3
  v22 := Try.zeroValue3 }
def Try.laysSortF_ren : Go.Shelf.Ren := ⟨fun | 6 => 38 | 15 => 55 | 14 => 54 | 28 => 76 | 29 => 77 | 20 => 68 | 21 => 69 | 22 => 70 | 23 => 71 | 24 => 72 | 25 => 73 | 26 => 74 | 27 => 75 | 46 => 82 | 47 => 83 | 48 => 84 | 49 => 85 | 50 => 86 | 57 => 87 | n => n, fun | 22 => 22 | 24 => 58 | 25 => 87 | 3 => 3 | 39 => 107 | 0 => 0 | 53 => 125 | 55 => 127 | 4 => 4 | 46 => 119 | 45 => 118 | 50 => 100 | 5 => 5 | 9 => 9 | 66 => 133 | 70 => 137 | 76 => 139 | 77 => 140 | n => n, fun | n => n⟩
theorem Try.laysSortF : Go.Proofs.SlLaysF0.n6 Try.prog Try.laysSortF_ren := {
  mixed := by kernel_rfl
  f6 := ⟨Try.f38.name, by decide, Try.func38.trans (congrArg some (by kernel_rfl))⟩
  f14 := ⟨Try.f54.name, by decide, Try.func54.trans (congrArg some (by kernel_rfl))⟩
  f15 := Try.func55.trans (congrArg some (by kernel_rfl))
  f20 := ⟨Try.f68.name, by decide, Try.func68.trans (congrArg some (by kernel_rfl))⟩
  f21 := ⟨Try.f69.name, by decide, Try.func69.trans (congrArg some (by kernel_rfl))⟩
  f22 := ⟨Try.f70.name, by decide, Try.func70.trans (congrArg some (by kernel_rfl))⟩
  f23 := ⟨Try.f71.name, by decide, Try.func71.trans (congrArg some (by kernel_rfl))⟩
  f24 := ⟨Try.f72.name, by decide, Try.func72.trans (congrArg some (by kernel_rfl))⟩
  f25 := ⟨Try.f73.name, by decide, Try.func73.trans (congrArg some (by kernel_rfl))⟩
  f26 := ⟨Try.f74.name, by decide, Try.func74.trans (congrArg some (by kernel_rfl))⟩
  f27 := ⟨Try.f75.name, by decide, Try.func75.trans (congrArg some (by kernel_rfl))⟩
  f28 := Try.func76.trans (congrArg some (by kernel_rfl))
  f29 := Try.func77.trans (congrArg some (by kernel_rfl))
  f46 := ⟨Try.f82.name, by decide, Try.func82.trans (congrArg some (by kernel_rfl))⟩
  f47 := Try.func83.trans (congrArg some (by kernel_rfl))
  f48 := Try.func84.trans (congrArg some (by kernel_rfl))
  f49 := ⟨Try.f85.name, by decide, Try.func85.trans (congrArg some (by kernel_rfl))⟩
  f50 := ⟨Try.f86.name, by decide, Try.func86.trans (congrArg some (by kernel_rfl))⟩
  f57 := ⟨Try.f87.name, by decide, Try.func87.trans (congrArg some (by kernel_rfl))⟩
  t0 := Try.underlying0
  a0 := Try.isAgg0
  z0 := Try.sizeOf0
  v0 := Try.zeroValue0
  t3 := Try.underlying3
  a3 := Try.isAgg3
  z3 := Try.sizeOf3
  v3 := Try.zeroValue3
  t4 := Try.underlying4
  a4 := Try.isAgg4
  z4 := Try.sizeOf4
  v4 := Try.zeroValue4
  t5 := Try.underlying5
  a5 := Try.isAgg5
  z5 := Try.sizeOf5
  v5 := Try.zeroValue5
  t9 := Try.underlying9
  a9 := Try.isAgg9
  z9 := Try.sizeOf9
  v9 := Try.zeroValue9
  t22 := Try.underlying22
  a22 := Try.isAgg22
  z22 := Try.sizeOf22
  v22 := Try.zeroValue22
  t25 := Try.underlying87
  a25 := Try.isAgg87
  z25 := Try.sizeOf87
  v25 := Try.zeroValue87
  t39 := Try.underlying107
  a39 := Try.isAgg107
  z39 := Try.sizeOf107
  v39 := Try.zeroValue107
  t45 := Try.underlying118
  a45 := Try.isAgg118
  z45 := Try.sizeOf118
  v45 := Try.zeroValue118
  t46 := Try.underlying119
  a46 := Try.isAgg119
  z46 := Try.sizeOf119
  v46 := Try.zeroValue119
  t50 := Try.underlying100
  a50 := Try.isAgg100
  z50 := Try.sizeOf100
  v50 := Try.zeroValue100
  t53 := Try.underlying125
  a53 := Try.isAgg125
  z53 := Try.sizeOf125
  v53 := Try.zeroValue125
  t55 := Try.underlying127
  a55 := Try.isAgg127
  z55 := Try.sizeOf127
  v55 := Try.zeroValue127
  t66 := Try.underlying133
  a66 := Try.isAgg133
  z66 := Try.sizeOf133
  v66 := Try.zeroValue133
  t70 := Try.underlying137
  a70 := Try.isAgg137
  z70 := Try.sizeOf137
  v70 := Try.zeroValue137
  t76 := Try.underlying139
  a76 := Try.isAgg139
  z76 := Try.sizeOf139
  v76 := Try.zeroValue139
  t77 := Try.underlying140
  a77 := Try.isAgg140
  z77 := Try.sizeOf140
  v77 := Try.zeroValue140 }
end Go.Proofs
/- Contracts of edge's small functions: isVertex, Check, Normal, ends, Cmp. -/
namespace Go.Proofs.Ytbankocbncpepaa
open Go.RowKit Go.ChangeShapes EdPure
theorem isVertex_any (n v : Int) (w : World) :
    Calls Try.prog 51 #[.int .i64 n, .int .i64 v] w fun e w' => e = .returned (.bool (decide (0 ≤ v) && decide (v < n))) ∧ w = w' := by
  by_cases h1 : 0 ≤ v
  · have HE : Hid ((decide (0 ≤ v) && decide (v < n)) = decide (v < n)) := Lib.hid (by simp [h1])
    go_enter Try.func51, Try.ntmps51
    go_wp2
    go_ret
    exact ⟨bool_ret HE.out.symm, rfl⟩
  · have HE : Hid ((decide (0 ≤ v) && decide (v < n)) = false) := Lib.hid (by simp [h1])
    go_enter Try.func51, Try.ntmps51
    go_wp2
    go_ret
    exact ⟨bool_ret HE.out.symm, rfl⟩
theorem vertex_yes {n v : Int} (h : 0 ≤ v ∧ v < n) (w : World) :
    Calls Try.prog 51 #[.int .i64 n, .int .i64 v] w fun e w' => e = .returned (.bool true) ∧ w = w' := by
  have := isVertex_any n v w
  rwa [show (decide (0 ≤ v) && decide (v < n)) = true by simp [h.1, h.2]] at this
theorem vertex_no {n v : Int} (h : ¬ (0 ≤ v ∧ v < n)) (w : World) :
    Calls Try.prog 51 #[.int .i64 n, .int .i64 v] w fun e w' => e = .returned (.bool false) ∧ w = w' := by
  have := isVertex_any n v w
  rwa [show (decide (0 ≤ v) && decide (v < n)) = false by rw [Bool.and_eq_false_iff, decide_eq_false_iff_not, decide_eq_false_iff_not]; omega] at this
theorem check_any (n : Int) (e : Ed) (w : World) :
    Calls Try.prog 36 #[.int .i64 n, encE e] w fun r w' => r = .returned (.int .i64 (chkE n e)) ∧ Below w.heap.size w w' := by
  obtain ⟨u, v, x⟩ := e
  unfold encE
  by_cases h1 : 0 ≤ u ∧ u < n
  · have H1 := Lib.hid (fun W => vertex_yes h1 W)
    by_cases h2 : 0 ≤ v ∧ v < n
    · have H2 := Lib.hid (fun W => vertex_yes h2 W)
      by_cases h3 : 0 ≤ x
      · by_cases h4 : x ≤ 2147483648
        · have HE : Hid (chkE n (u, v, x) = 0) := Lib.hid (by unfold chkE; rw [if_pos ⟨h1, h2⟩, if_pos ⟨h3, h4⟩])
          clear h1 h2
          go_enter Try.func36, Try.ntmps36
          go_wp2_with (first | (go_at_call 51; first | (go_fit (H1.out _); rintro r w' ⟨rfl, rfl⟩) | (go_fit (H2.out _); rintro r w' ⟨rfl, rfl⟩)))
          go_ret
          exact ⟨ret_i HE.out.symm, (Below.refl _ _).alloc (Nat.le_refl _) _⟩
        · have HE : Hid (chkE n (u, v, x) = 5) := Lib.hid (by unfold chkE; rw [if_pos ⟨h1, h2⟩, if_neg (by simp only; omega)])
          clear h1 h2
          go_enter Try.func36, Try.ntmps36
          go_wp2_with (first | (go_at_call 51; first | (go_fit (H1.out _); rintro r w' ⟨rfl, rfl⟩) | (go_fit (H2.out _); rintro r w' ⟨rfl, rfl⟩)))
          go_ret
          exact ⟨ret_i HE.out.symm, (Below.refl _ _).alloc (Nat.le_refl _) _⟩
      · have HE : Hid (chkE n (u, v, x) = 5) := Lib.hid (by unfold chkE; rw [if_pos ⟨h1, h2⟩, if_neg (by simp only; omega)])
        clear h1 h2
        go_enter Try.func36, Try.ntmps36
        go_wp2_with (first | (go_at_call 51; first | (go_fit (H1.out _); rintro r w' ⟨rfl, rfl⟩) | (go_fit (H2.out _); rintro r w' ⟨rfl, rfl⟩)))
        go_ret
        exact ⟨ret_i HE.out.symm, (Below.refl _ _).alloc (Nat.le_refl _) _⟩
    · have H2 := Lib.hid (fun W => vertex_no h2 W)
      have HE : Hid (chkE n (u, v, x) = 4) := Lib.hid (by unfold chkE; rw [if_neg (fun h => h2 h.2)])
      clear h1 h2
      go_enter Try.func36, Try.ntmps36
      go_wp2_with (first | (go_at_call 51; first | (go_fit (H1.out _); rintro r w' ⟨rfl, rfl⟩) | (go_fit (H2.out _); rintro r w' ⟨rfl, rfl⟩)))
      go_ret
      exact ⟨ret_i HE.out.symm, (Below.refl _ _).alloc (Nat.le_refl _) _⟩
  · have H1 := Lib.hid (fun W => vertex_no h1 W)
    have HE : Hid (chkE n (u, v, x) = 4) := Lib.hid (by unfold chkE; rw [if_neg (fun h => h1 h.1)])
    clear h1
    go_enter Try.func36, Try.ntmps36
    go_wp2_with (first | (go_at_call 51; refine (H1.out _).mono ?_; rintro r w' ⟨rfl, rfl⟩))
    go_ret
    exact ⟨ret_i HE.out.symm, (Below.refl _ _).alloc (Nat.le_refl _) _⟩
theorem agg_e {e e' : Ed} (h : e = e') : Ending.returned (.agg #[.int .i64 e.1, .int .i64 e.2.1, .int .i64 e.2.2]) = .returned (encE e') := by rw [h]; rfl
theorem below_two {w : World} {o o' : Obj} : Below w.heap.size w ((w.alloc o).alloc o') := ((Below.refl _ _).alloc (Nat.le_refl _) _).alloc (by simp) _
theorem normal_any (e : Ed) (w : World) :
    Calls Try.prog 67 #[encE e] w fun r w' => r = .returned (encE (normE e)) ∧ Below w.heap.size w w' := by
  obtain ⟨u, v, x⟩ := e
  unfold encE
  by_cases h : v < u
  · have HE : Hid ((v, u, x) = normE (u, v, x)) := Lib.hid (by unfold normE; rw [if_pos h])
    go_enter Try.func67, Try.ntmps67
    go_wp2
    refine bodyPost_ret (v := .agg #[.int .i64 v, .int .i64 u, .int .i64 x]) (by simp [results, Try.results67, go_sem]) rfl ⟨agg_e HE.out, ?_⟩
    first | exact below_two | (refine Below.setCell (Below.setCell (Below.setCell ?_ ?_ _) ?_ _) ?_ _ <;> first | exact below_two | simp)
  · have HE : Hid ((u, v, x) = normE (u, v, x)) := Lib.hid (by unfold normE; rw [if_neg h])
    go_enter Try.func67, Try.ntmps67
    go_wp2
    refine bodyPost_ret (v := .agg #[.int .i64 u, .int .i64 v, .int .i64 x]) (by simp [results, Try.results67, go_sem]) rfl ⟨agg_e HE.out, ?_⟩
    exact below_two


theorem ends_any (e : Ed) (w : World) :
    Calls Try.prog 52 #[encE e] w fun r w' => r = .returned (encP (endsE e)) ∧ Below w.heap.size w w' := by
  have HE : Hid (encP (endsE e) = .agg #[.int .i64 (normE e).1, .int .i64 (normE e).2.1]) := Lib.hid rfl
  have HN := Lib.hid (fun W => normal_any e W)
  obtain ⟨u, v, x⟩ := e
  unfold encE at HN ⊢
  generalize normE (u, v, x) = q at *
  obtain ⟨a, b, c⟩ := q
  go_enter Try.func52, Try.ntmps52
  go_wp2_with fail
  have H3 : Hid (ThreeAt w.heap.size ((w.alloc (.cells #[.int .i64 u, .int .i64 v, .int .i64 x] 58)).alloc (.cells #[.int .i64 0, .int .i64 0] 51)) (.int .i64 u) (.int .i64 v) (.int .i64 x)) := Lib.hid (by
    have h := ThreeAt.new w (.int .i64 u) (.int .i64 v) (.int .i64 x) 58
    exact h.on ((Below.refl _ _).alloc (Nat.le_refl _) _) h.lt)
  have H2 : Hid (TwoAt (w.heap.size + 1) ((w.alloc (.cells #[.int .i64 u, .int .i64 v, .int .i64 x] 58)).alloc (.cells #[.int .i64 0, .int .i64 0] 51)) (.int .i64 0) (.int .i64 0)) := Lib.hid (by
    have h := TwoAt.new (w.alloc (.cells #[.int .i64 u, .int .i64 v, .int .i64 x] 58)) (.int .i64 0) (.int .i64 0) 51
    simpa using h)
  have HB : Hid (Below w.heap.size w ((w.alloc (.cells #[.int .i64 u, .int .i64 v, .int .i64 x] 58)).alloc (.cells #[.int .i64 0, .int .i64 0] 51))) := Lib.hid below_two
  generalize (w.alloc (.cells #[.int .i64 u, .int .i64 v, .int .i64 x] 58)).alloc (.cells #[.int .i64 0, .int .i64 0] 51) = W0 at *
  refine (HN.out _).mono ?_
  rintro r w1 ⟨rfl, hb⟩
  replace HB := Lib.hid (HB.out.trans (hb.mono HB.out.size))
  obtain ⟨c0, c1, c2, f0, f1, f2⟩ := H3.out.on hb H3.out.lt
  obtain ⟨d0, d1, g0, g1⟩ := H2.out.on hb H2.out.lt
  clear hb HN H2 H3
  generalize hN : w.heap.size = N at *
  go_wp2
  refine bodyPost_ret (v := .agg #[.int .i64 a, .int .i64 b]) (by simp [results, Try.results52, go_sem, d0, d1]) rfl ⟨by rw [HE.out], ?_⟩
  rw [hN]
  exact ((((HB.out.setCell (Nat.le_refl _) _).setCell (Nat.le_refl _) _).setCell (Nat.le_refl _) _).setCell (by simp) _).setCell (by simp) _
/-- The first of three numbers that is not 0. -/
theorem or3_any (g : Nat) (x y z : Int) (w : World) (h0 : w.cell? ⟨g, 0, none⟩ = some (.int .i64 x)) (h1 : w.cell? ⟨g, 1, none⟩ = some (.int .i64 y)) (h2 : w.cell? ⟨g, 2, none⟩ = some (.int .i64 z)) :
    Calls Try.prog 56 #[.slice (some ⟨g, 0, none⟩) 3 3] w fun e w' => e = .returned (.int .i64 (orI x (orI y z))) ∧ w' = w := by
  go_enter Try.func56, Try.ntmps56
  go_wp2
  go_loopw [8] (fun i wr => ∃ k : Nat, i = .int .i64 k ∧ wr = w ∧ Hid (k ≤ 3 ∧ (1 ≤ k → x = 0) ∧ (2 ≤ k → y = 0) ∧ (3 ≤ k → z = 0))) (fun i _ => 3 - (intOf i).toNat)
  case atStart => exact ⟨0, rfl, rfl, Lib.hid ⟨by omega, fun h => by omega, fun h => by omega, fun h => by omega⟩⟩
  case round =>
    obtain ⟨k, rfl, rfl, HK⟩ := hrel
    obtain rfl | rfl | rfl | rfl : k = 0 ∨ k = 1 ∨ k = 2 ∨ k = 3 := by have := HK.out.1; omega
    · by_cases hx : x = 0
      · have t : (x != 0) = false := by simp [hx]
        have HN := Lib.hid hx
        clear hx
        go_wp2
        go_roundw
        case rel => exact ⟨1, by go_num, trivial, Lib.hid ⟨by omega, fun _ => HN.out, fun h => by omega, fun h => by omega⟩⟩
        case measure => (simp [intOf])
      · have t : (x != 0) = true := by simp [hx]
        have HN : Hid (orI x (orI y z) = x) := Lib.hid (if_neg hx)
        clear hx
        go_wp2
        go_ret
        exact ⟨by rw [HN.out]; rfl, rfl⟩
    · have h0x := Lib.hid (HK.out.2.1 (by omega))
      by_cases hx : y = 0
      · have t : (y != 0) = false := by simp [hx]
        have HN := Lib.hid hx
        clear hx
        go_wp2
        go_roundw
        case rel => exact ⟨2, by go_num, trivial, Lib.hid ⟨by omega, fun _ => h0x.out, fun h => HN.out, fun h => by omega⟩⟩
        case measure => (simp [intOf])
      · have t : (y != 0) = true := by simp [hx]
        have HN : Hid (orI x (orI y z) = y) := Lib.hid (by rw [orI, if_pos h0x.out, orI, if_neg hx])
        clear hx
        go_wp2
        go_ret
        exact ⟨by rw [HN.out]; rfl, rfl⟩
    · have h0x := Lib.hid (HK.out.2.1 (by omega))
      have h0y := Lib.hid (HK.out.2.2.1 (by omega))
      by_cases hx : z = 0
      · have t : (z != 0) = false := by simp [hx]
        have HN := Lib.hid hx
        clear hx
        go_wp2
        go_roundw
        case rel => exact ⟨3, by go_num, trivial, Lib.hid ⟨by omega, fun _ => h0x.out, fun h => h0y.out, fun h => HN.out⟩⟩
        case measure => (simp [intOf])
      · have t : (z != 0) = true := by simp [hx]
        have HN : Hid (orI x (orI y z) = z) := Lib.hid (by rw [orI, if_pos h0x.out, orI, if_pos h0y.out])
        clear hx
        go_wp2
        go_ret
        exact ⟨by rw [HN.out]; rfl, rfl⟩
    · have HN : Hid (orI x (orI y z) = 0) := Lib.hid (by rw [orI, if_pos (HK.out.2.1 (by omega)), orI, if_pos (HK.out.2.2.1 (by omega)), HK.out.2.2.2 (by omega)])
      go_wp2
      go_ret
      exact ⟨by rw [HN.out]; rfl, rfl⟩
theorem cmp64_any (x y : Int) (w : World) : Calls Try.prog 58 #[.int .i64 x, .int .i64 y] w fun e w' => e = .returned (.int .i64 (Lib.compareInt x y)) ∧ w' = w := AnyG.cmp_Compare_int Try.laysCmp64 x y w
theorem cmpI_any (x y : Int) (w : World) : Calls Try.prog 57 #[.int .i64 x, .int .i64 y] w fun e w' => e = .returned (.int .i64 (Lib.compareInt x y)) ∧ w' = w := AnyG.cmp_Compare_int Try.laysCmp x y w
set_option maxRecDepth 100000 in
set_option maxHeartbeats 400000 in
theorem cmp_any (a b : Ed) (w : World) :
    Calls Try.prog 39 #[encE a, encE b] w fun e w' => e = .returned (.int .i64 (cmpE a b)) ∧ ∃ q os, w' = Go.Sort.grow (w.drewN q) os := by
  obtain ⟨u, v, x⟩ := a
  obtain ⟨u', v', x'⟩ := b
  unfold encE cmpE
  simp only
  have HX := Lib.hid (fun W => cmpI_any u u' W)
  have HY := Lib.hid (fun W => cmpI_any v v' W)
  have HZ := Lib.hid (fun W => cmp64_any x x' W)
  generalize Lib.compareInt u u' = r at *
  generalize Lib.compareInt v v' = s at *
  generalize Lib.compareInt x x' = t at *
  go_enter Try.func39, Try.ntmps39
  go_wp2
  obtain ⟨W0, hW0⟩ : ∃ W0, (w.alloc (.cells #[.int .i64 u, .int .i64 v, .int .i64 x] 58)).alloc (.cells #[.int .i64 u', .int .i64 v', .int .i64 x'] 58) = W0 := ⟨_, rfl⟩
  have b0 : (W0.drewN 1).cell? ⟨w.heap.size, 0, none⟩ = some (.int .i64 u) := by rw [← hW0]; simp
  have b1 : (W0.drewN 1).cell? ⟨w.heap.size, 1, none⟩ = some (.int .i64 v) := by rw [← hW0]; simp
  have b2 : (W0.drewN 1).cell? ⟨w.heap.size, 2, none⟩ = some (.int .i64 x) := by rw [← hW0]; simp
  have d0 : (W0.drewN 1).cell? ⟨w.heap.size + 1, 0, none⟩ = some (.int .i64 u') := by rw [← hW0]; simp
  have d1 : (W0.drewN 1).cell? ⟨w.heap.size + 1, 1, none⟩ = some (.int .i64 v') := by rw [← hW0]; simp
  have d2 : (W0.drewN 1).cell? ⟨w.heap.size + 1, 2, none⟩ = some (.int .i64 x') := by rw [← hW0]; simp
  have HG : Hid (∀ o, ∃ os, (W0.drewN 1).alloc o = Go.Sort.grow (w.drewN 1) os) := Lib.hid (by
    intro o
    rw [← hW0, Go.Sort.alloc_eq_grow w, Go.Sort.alloc_eq_grow (Go.Sort.grow w _), Go.Sort.grow_grow]
    exact ⟨_, (Go.Sort.alloc_eq_grow _ _).trans (Go.Sort.grow_grow (w.drewN 1) _ _)⟩)
  rw [hW0]
  clear hW0
  generalize w.heap.size = N at *
  refine wp_region_still_tail 15 (by kernel_rfl) (by kernel_rfl) ?_
  change wpStill _ _ (W0.drewN 1) _ _ _
  change wpStill _ _ _ (fun a' => wpList _ _ _ _ _ (W0.drewN 1)) _ _
  generalize W0.drewN 1 = W1 at *
  simp only [List.take_succ_cons, List.take_zero, List.drop_succ_cons, List.drop_zero]
  iterate 4 still_step
  still_call (HX.out _)
  iterate 4 still_step
  still_call (HY.out _)
  iterate 4 still_step
  still_call (HZ.out _)
  refine wpStill_nil ?_
  obtain ⟨os, hos⟩ := HG.out (.cells #[.int .i64 r, .int .i64 s, .int .i64 t] 3)
  have HO := Lib.hid hos
  clear hos
  go_wp2_with fail
  refine (or3_any _ r s t _ (by simp) (by simp) (by simp)).mono ?_
  rintro e w1 ⟨rfl, rfl⟩
  go_wp2
  go_ret
  exact ⟨rfl, 1, os, HO.out⟩
end Go.Proofs.Ytbankocbncpepaa
