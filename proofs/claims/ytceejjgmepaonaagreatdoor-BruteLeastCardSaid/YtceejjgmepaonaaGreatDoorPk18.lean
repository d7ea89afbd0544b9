/- Texts that the laws of this seat stand on, part 18. -/
import Derived.Ground.SlgcProg
import Derived.Shelf.SlicesG.Cmp
import Derived.Ground.SlsfProg
import Derived.Shelf.SlLaysF0
import Derived.Test.YtceejjgmepaonaaGreatDoorProg
import Derived.Test.YtceejjgmepaonaaGreatDoorPk17
import Derived.Shelf.SlSortCmp.QuietGrown
import Derived.Deep.RegionWith
import Derived.BigQuiet
import Derived.StillTailTactics
import Derived.Test.YtceejjgmepaonaaGreatDoorPk6
import Derived.Test.YtceejjgmepaonaaGreatDoorPk0
/- The library's contracts that edges lean on, laid at this program: cmp.Compare at both kinds and slices.SortFunc at api.Edge. -/
namespace Go.Proofs
open Go.Shelf
def Tryz.laysCmp64_ren : Go.Shelf.Ren := ⟨fun | 5 => 62 | 7 => 87 | n => n, fun | 22 => 2 | 3 => 3 | 4 => 4 | n => n, fun | n => n⟩
theorem Tryz.laysCmp64 : Go.Proofs.SlLaysC2.n5 Tryz.prog Tryz.laysCmp64_ren := {
  mixed := by kernel_rfl
  f5 := ⟨Tryz.f62.name, by decide, Tryz.func62.trans (congrArg some (by kernel_rfl))⟩
  f7 := ⟨Tryz.f87.name, by decide, Tryz.func87.trans (congrArg some (by kernel_rfl))⟩
  t3 := Tryz.underlying3
  a3 := Tryz.isAgg3
  z3 := Tryz.sizeOf3
  v3 := Tryz.zeroValue3
  t4 := Tryz.underlying4
  a4 := Tryz.isAgg4
  z4 := Tryz.sizeOf4
  v4 := Tryz.zeroValue4
  t22 := Tryz.underlying2
  a22 := Tryz.isAgg2
  z22 := Tryz.sizeOf2
  v22 := Tryz.zeroValue2 }
def Tryz.laysCmp_ren : Go.Shelf.Ren := ⟨fun | 5 => 61 | 7 => 86 | n => n, fun | 22 => 3 | 3 => 3 | 4 => 4 | n => n, fun | n => n⟩
theorem Tryz.laysCmp : Go.Proofs.SlLaysC2.n5 Tryz.prog Tryz.laysCmp_ren := {
  mixed := by kernel_rfl
  f5 := ⟨Tryz.f61.name, by decide, Tryz.func61.trans (congrArg some (by kernel_rfl))⟩
  f7 := ⟨Tryz.f86.name, by decide, Tryz.func86.trans (congrArg some (by kernel_rfl))⟩
  t3 := Tryz.underlying3
  a3 := Tryz.isAgg3
  z3 := Tryz.sizeOf3
  v3 := Tryz.zeroValue3
  t4 := Tryz.underlying4
  a4 := Tryz.isAgg4
  z4 := Tryz.sizeOf4
  v4 := Tryz.zeroValue4
  t22 := Tryz.underlying3
  a22 := Tryz.isAgg3
  z22 := Tryz.sizeOf3
  v22 := Tryz.zeroValue3 }
def Tryz.laysSortF_ren : Go.Shelf.Ren := ⟨fun | 6 => 40 | 15 => 55 | 14 => 59 | 28 => 75 | 29 => 76 | 20 => 78 | 21 => 79 | 22 => 80 | 23 => 81 | 24 => 82 | 25 => 83 | 26 => 84 | 27 => 85 | 46 => 95 | 47 => 90 | 48 => 91 | 49 => 96 | 50 => 97 | 57 => 101 | n => n, fun | 22 => 22 | 24 => 51 | 25 => 94 | 3 => 3 | 39 => 103 | 0 => 0 | 53 => 70 | 55 => 135 | 4 => 4 | 46 => 127 | 45 => 126 | 50 => 132 | 5 => 5 | 9 => 9 | 66 => 143 | 70 => 147 | 76 => 154 | 77 => 155 | n => n, fun | n => n⟩
theorem Tryz.laysSortF : Go.Proofs.SlLaysF0.n6 Tryz.prog Tryz.laysSortF_ren := {
  mixed := by kernel_rfl
  f6 := ⟨Tryz.f40.name, by decide, Tryz.func40.trans (congrArg some (by kernel_rfl))⟩
  f14 := ⟨Tryz.f59.name, by decide, Tryz.func59.trans (congrArg some (by kernel_rfl))⟩
  f15 := Tryz.func55.trans (congrArg some (by kernel_rfl))
  f20 := ⟨Tryz.f78.name, by decide, Tryz.func78.trans (congrArg some (by kernel_rfl))⟩
  f21 := ⟨Tryz.f79.name, by decide, Tryz.func79.trans (congrArg some (by kernel_rfl))⟩
  f22 := ⟨Tryz.f80.name, by decide, Tryz.func80.trans (congrArg some (by kernel_rfl))⟩
  f23 := ⟨Tryz.f81.name, by decide, Tryz.func81.trans (congrArg some (by kernel_rfl))⟩
  f24 := ⟨Tryz.f82.name, by decide, Tryz.func82.trans (congrArg some (by kernel_rfl))⟩
  f25 := ⟨Tryz.f83.name, by decide, Tryz.func83.trans (congrArg some (by kernel_rfl))⟩
  f26 := ⟨Tryz.f84.name, by decide, Tryz.func84.trans (congrArg some (by kernel_rfl))⟩
  f27 := ⟨Tryz.f85.name, by decide, Tryz.func85.trans (congrArg some (by kernel_rfl))⟩
  f28 := Tryz.func75.trans (congrArg some (by kernel_rfl))
  f29 := Tryz.func76.trans (congrArg some (by kernel_rfl))
  f46 := ⟨Tryz.f95.name, by decide, Tryz.func95.trans (congrArg some (by kernel_rfl))⟩
  f47 := Tryz.func90.trans (congrArg some (by kernel_rfl))
  f48 := Tryz.func91.trans (congrArg some (by kernel_rfl))
  f49 := ⟨Tryz.f96.name, by decide, Tryz.func96.trans (congrArg some (by kernel_rfl))⟩
  f50 := ⟨Tryz.f97.name, by decide, Tryz.func97.trans (congrArg some (by kernel_rfl))⟩
  f57 := ⟨Tryz.f101.name, by decide, Tryz.func101.trans (congrArg some (by kernel_rfl))⟩
  t0 := Tryz.underlying0
  a0 := Tryz.isAgg0
  z0 := Tryz.sizeOf0
  v0 := Tryz.zeroValue0
  t3 := Tryz.underlying3
  a3 := Tryz.isAgg3
  z3 := Tryz.sizeOf3
  v3 := Tryz.zeroValue3
  t4 := Tryz.underlying4
  a4 := Tryz.isAgg4
  z4 := Tryz.sizeOf4
  v4 := Tryz.zeroValue4
  t5 := Tryz.underlying5
  a5 := Tryz.isAgg5
  z5 := Tryz.sizeOf5
  v5 := Tryz.zeroValue5
  t9 := Tryz.underlying9
  a9 := Tryz.isAgg9
  z9 := Tryz.sizeOf9
  v9 := Tryz.zeroValue9
  t22 := Tryz.underlying22
  a22 := Tryz.isAgg22
  z22 := Tryz.sizeOf22
  v22 := Tryz.zeroValue22
  t25 := Tryz.underlying94
  a25 := Tryz.isAgg94
  z25 := Tryz.sizeOf94
  v25 := Tryz.zeroValue94
  t39 := Tryz.underlying103
  a39 := Tryz.isAgg103
  z39 := Tryz.sizeOf103
  v39 := Tryz.zeroValue103
  t45 := Tryz.underlying126
  a45 := Tryz.isAgg126
  z45 := Tryz.sizeOf126
  v45 := Tryz.zeroValue126
  t46 := Tryz.underlying127
  a46 := Tryz.isAgg127
  z46 := Tryz.sizeOf127
  v46 := Tryz.zeroValue127
  t50 := Tryz.underlying132
  a50 := Tryz.isAgg132
  z50 := Tryz.sizeOf132
  v50 := Tryz.zeroValue132
  t53 := Tryz.underlying70
  a53 := Tryz.isAgg70
  z53 := Tryz.sizeOf70
  v53 := Tryz.zeroValue70
  t55 := Tryz.underlying135
  a55 := Tryz.isAgg135
  z55 := Tryz.sizeOf135
  v55 := Tryz.zeroValue135
  t66 := Tryz.underlying143
  a66 := Tryz.isAgg143
  z66 := Tryz.sizeOf143
  v66 := Tryz.zeroValue143
  t70 := Tryz.underlying147
  a70 := Tryz.isAgg147
  z70 := Tryz.sizeOf147
  v70 := Tryz.zeroValue147
  t76 := Tryz.underlying154
  a76 := Tryz.isAgg154
  z76 := Tryz.sizeOf154
  v76 := Tryz.zeroValue154
  t77 := Tryz.underlying155
  a77 := Tryz.isAgg155
  z77 := Tryz.sizeOf155
  v77 := Tryz.zeroValue155 }
end Go.Proofs
/- Contracts of edge's small functions: isVertex, Check, Normal, ends, Cmp. -/
namespace Go.Proofs.YtceejjgmepaonaaGreatDoor
open Go.RowKit Go.ChangeShapes EdPure
theorem isVertex_any (n v : Int) (w : World) :
    Calls Tryz.prog 56 #[.int .i64 n, .int .i64 v] w fun e w' => e = .returned (.bool (decide (0 ≤ v) && decide (v < n))) ∧ w = w' := by
  by_cases h1 : 0 ≤ v
  · have HE : Hid ((decide (0 ≤ v) && decide (v < n)) = decide (v < n)) := Lib.hid (by simp [h1])
    go_enter Tryz.func56, Tryz.ntmps56
    go_wp2
    go_ret
    exact ⟨bool_ret HE.out.symm, rfl⟩
  · have HE : Hid ((decide (0 ≤ v) && decide (v < n)) = false) := Lib.hid (by simp [h1])
    go_enter Tryz.func56, Tryz.ntmps56
    go_wp2
    go_ret
    exact ⟨bool_ret HE.out.symm, rfl⟩
theorem vertex_yes {n v : Int} (h : 0 ≤ v ∧ v < n) (w : World) :
    Calls Tryz.prog 56 #[.int .i64 n, .int .i64 v] w fun e w' => e = .returned (.bool true) ∧ w = w' := by
  have := isVertex_any n v w
  rwa [show (decide (0 ≤ v) && decide (v < n)) = true by simp [h.1, h.2]] at this
theorem vertex_no {n v : Int} (h : ¬ (0 ≤ v ∧ v < n)) (w : World) :
    Calls Tryz.prog 56 #[.int .i64 n, .int .i64 v] w fun e w' => e = .returned (.bool false) ∧ w = w' := by
  have := isVertex_any n v w
  rwa [show (decide (0 ≤ v) && decide (v < n)) = false by rw [Bool.and_eq_false_iff, decide_eq_false_iff_not, decide_eq_false_iff_not]; omega] at this
theorem check_any (n : Int) (e : Ed) (w : World) :
    Calls Tryz.prog 38 #[.int .i64 n, encE e] w fun r w' => r = .returned (.int .i64 (chkE n e)) ∧ Below w.heap.size w w' := by
  obtain ⟨u, v, x⟩ := e
  unfold encE
  by_cases h1 : 0 ≤ u ∧ u < n
  · have H1 := Lib.hid (fun W => vertex_yes h1 W)
    by_cases h2 : 0 ≤ v ∧ v < n
    · have H2 := Lib.hid (fun W => vertex_yes h2 W)
      by_cases h3 : 0 ≤ x
      · by_cases h4 : x ≤ 2147483648
        · have HE : Hid (chkE n (u, v, x) = 0) := Lib.hid (by unfold chkE; rw [if_pos ⟨h1, h2⟩, if_pos ⟨h3, h4⟩])
          clear h1 h2
          go_enter Tryz.func38, Tryz.ntmps38
          go_wp2_with (first | (go_at_call 56; first | (go_fit (H1.out _); rintro r w' ⟨rfl, rfl⟩) | (go_fit (H2.out _); rintro r w' ⟨rfl, rfl⟩)))
          go_ret
          exact ⟨ret_i HE.out.symm, (Below.refl _ _).alloc (Nat.le_refl _) _⟩
        · have HE : Hid (chkE n (u, v, x) = 5) := Lib.hid (by unfold chkE; rw [if_pos ⟨h1, h2⟩, if_neg (by simp only; omega)])
          clear h1 h2
          go_enter Tryz.func38, Tryz.ntmps38
          go_wp2_with (first | (go_at_call 56; first | (go_fit (H1.out _); rintro r w' ⟨rfl, rfl⟩) | (go_fit (H2.out _); rintro r w' ⟨rfl, rfl⟩)))
          go_ret
          exact ⟨ret_i HE.out.symm, (Below.refl _ _).alloc (Nat.le_refl _) _⟩
      · have HE : Hid (chkE n (u, v, x) = 5) := Lib.hid (by unfold chkE; rw [if_pos ⟨h1, h2⟩, if_neg (by simp only; omega)])
        clear h1 h2
        go_enter Tryz.func38, Tryz.ntmps38
        go_wp2_with (first | (go_at_call 56; first | (go_fit (H1.out _); rintro r w' ⟨rfl, rfl⟩) | (go_fit (H2.out _); rintro r w' ⟨rfl, rfl⟩)))
        go_ret
        exact ⟨ret_i HE.out.symm, (Below.refl _ _).alloc (Nat.le_refl _) _⟩
    · have H2 := Lib.hid (fun W => vertex_no h2 W)
      have HE : Hid (chkE n (u, v, x) = 4) := Lib.hid (by unfold chkE; rw [if_neg (fun h => h2 h.2)])
      clear h1 h2
      go_enter Tryz.func38, Tryz.ntmps38
      go_wp2_with (first | (go_at_call 56; first | (go_fit (H1.out _); rintro r w' ⟨rfl, rfl⟩) | (go_fit (H2.out _); rintro r w' ⟨rfl, rfl⟩)))
      go_ret
      exact ⟨ret_i HE.out.symm, (Below.refl _ _).alloc (Nat.le_refl _) _⟩
  · have H1 := Lib.hid (fun W => vertex_no h1 W)
    have HE : Hid (chkE n (u, v, x) = 4) := Lib.hid (by unfold chkE; rw [if_neg (fun h => h1 h.1)])
    clear h1
    go_enter Tryz.func38, Tryz.ntmps38
    go_wp2_with (first | (go_at_call 56; refine (H1.out _).mono ?_; rintro r w' ⟨rfl, rfl⟩))
    go_ret
    exact ⟨ret_i HE.out.symm, (Below.refl _ _).alloc (Nat.le_refl _) _⟩
theorem agg_e {e e' : Ed} (h : e = e') : Ending.returned (.agg #[.int .i64 e.1, .int .i64 e.2.1, .int .i64 e.2.2]) = .returned (encE e') := by rw [h]; rfl
theorem below_two {w : World} {o o' : Obj} : Below w.heap.size w ((w.alloc o).alloc o') := ((Below.refl _ _).alloc (Nat.le_refl _) _).alloc (by simp) _
theorem normal_any (e : Ed) (w : World) :
    Calls Tryz.prog 77 #[encE e] w fun r w' => r = .returned (encE (normE e)) ∧ Below w.heap.size w w' := by
  obtain ⟨u, v, x⟩ := e
  unfold encE
  by_cases h : v < u
  · have HE : Hid ((v, u, x) = normE (u, v, x)) := Lib.hid (by unfold normE; rw [if_pos h])
    go_enter Tryz.func77, Tryz.ntmps77
    go_wp2
    refine bodyPost_ret (v := .agg #[.int .i64 v, .int .i64 u, .int .i64 x]) (by simp [results, Tryz.results77, go_sem]) rfl ⟨agg_e HE.out, ?_⟩
    first | exact below_two | (refine Below.setCell (Below.setCell (Below.setCell ?_ ?_ _) ?_ _) ?_ _ <;> first | exact below_two | simp)
  · have HE : Hid ((u, v, x) = normE (u, v, x)) := Lib.hid (by unfold normE; rw [if_neg h])
    go_enter Tryz.func77, Tryz.ntmps77
    go_wp2
    refine bodyPost_ret (v := .agg #[.int .i64 u, .int .i64 v, .int .i64 x]) (by simp [results, Tryz.results77, go_sem]) rfl ⟨agg_e HE.out, ?_⟩
    exact below_two


theorem ends_any (e : Ed) (w : World) :
    Calls Tryz.prog 57 #[encE e] w fun r w' => r = .returned (encP (endsE e)) ∧ Below w.heap.size w w' := by
  have HE : Hid (encP (endsE e) = .agg #[.int .i64 (normE e).1, .int .i64 (normE e).2.1]) := Lib.hid rfl
  have HN := Lib.hid (fun W => normal_any e W)
  obtain ⟨u, v, x⟩ := e
  unfold encE at HN ⊢
  generalize normE (u, v, x) = q at *
  obtain ⟨a, b, c⟩ := q
  go_enter Tryz.func57, Tryz.ntmps57
  go_wp2_with fail
  have H3 : Hid (ThreeAt w.heap.size ((w.alloc (.cells #[.int .i64 u, .int .i64 v, .int .i64 x] 51)).alloc (.cells #[.int .i64 0, .int .i64 0] 92)) (.int .i64 u) (.int .i64 v) (.int .i64 x)) := Lib.hid (by
    have h := ThreeAt.new w (.int .i64 u) (.int .i64 v) (.int .i64 x) 51
    exact h.on ((Below.refl _ _).alloc (Nat.le_refl _) _) h.lt)
  have H2 : Hid (TwoAt (w.heap.size + 1) ((w.alloc (.cells #[.int .i64 u, .int .i64 v, .int .i64 x] 51)).alloc (.cells #[.int .i64 0, .int .i64 0] 92)) (.int .i64 0) (.int .i64 0)) := Lib.hid (by
    have h := TwoAt.new (w.alloc (.cells #[.int .i64 u, .int .i64 v, .int .i64 x] 51)) (.int .i64 0) (.int .i64 0) 92
    simpa using h)
  have HB : Hid (Below w.heap.size w ((w.alloc (.cells #[.int .i64 u, .int .i64 v, .int .i64 x] 51)).alloc (.cells #[.int .i64 0, .int .i64 0] 92))) := Lib.hid below_two
  generalize (w.alloc (.cells #[.int .i64 u, .int .i64 v, .int .i64 x] 51)).alloc (.cells #[.int .i64 0, .int .i64 0] 92) = W0 at *
  refine (HN.out _).mono ?_
  rintro r w1 ⟨rfl, hb⟩
  replace HB := Lib.hid (HB.out.trans (hb.mono HB.out.size))
  obtain ⟨c0, c1, c2, f0, f1, f2⟩ := H3.out.on hb H3.out.lt
  obtain ⟨d0, d1, g0, g1⟩ := H2.out.on hb H2.out.lt
  clear hb HN H2 H3
  generalize hN : w.heap.size = N at *
  go_wp2
  refine bodyPost_ret (v := .agg #[.int .i64 a, .int .i64 b]) (by simp [results, Tryz.results57, go_sem, d0, d1]) rfl ⟨by rw [HE.out], ?_⟩
  rw [hN]
  exact ((((HB.out.setCell (Nat.le_refl _) _).setCell (Nat.le_refl _) _).setCell (Nat.le_refl _) _).setCell (by simp) _).setCell (by simp) _
/-- The first of three numbers that is not 0. -/
theorem or3_any (g : Nat) (x y z : Int) (w : World) (h0 : w.cell? ⟨g, 0, none⟩ = some (.int .i64 x)) (h1 : w.cell? ⟨g, 1, none⟩ = some (.int .i64 y)) (h2 : w.cell? ⟨g, 2, none⟩ = some (.int .i64 z)) :
    Calls Tryz.prog 60 #[.slice (some ⟨g, 0, none⟩) 3 3] w fun e w' => e = .returned (.int .i64 (orI x (orI y z))) ∧ w' = w := by
  go_enter Tryz.func60, Tryz.ntmps60
  go_wp2
  go_loopw [8] (fun i wr => ∃ k : Nat, i = .int .i64 k ∧ wr = w ∧ Hid (k ≤ 3 ∧ (1 ≤ k → x = 0) ∧ (2 ≤ k → y = 0) ∧ (3 ≤ k → z = 0))) (fun i _ => 3 - (intOf i).toNat)
  case atStart => exact ⟨0, rfl, rfl, Lib.hid ⟨by omega, fun h => by omega, fun h => by omega, fun h => by omega⟩⟩
  case round =>
    obtain ⟨k, rfl, rfl, HK⟩ := hrel
    obtain rfl | rfl | rfl | rfl : k = 0 ∨ k = 1 ∨ k = 2 ∨ k = 3 := by have := HK.out.1; omega
    · by_cases hx : x = 0
      · have t : (x != 0) = false := by simp [hx]
        have HN := Lib.hid hx
        clear hx
        go_wp2
        go_roundw
        case rel => exact ⟨1, by go_num, trivial, Lib.hid ⟨by omega, fun _ => HN.out, fun h => by omega, fun h => by omega⟩⟩
        case measure => (simp [intOf])
      · have t : (x != 0) = true := by simp [hx]
        have HN : Hid (orI x (orI y z) = x) := Lib.hid (if_neg hx)
        clear hx
        go_wp2
        go_ret
        exact ⟨by rw [HN.out]; rfl, rfl⟩
    · have h0x := Lib.hid (HK.out.2.1 (by omega))
      by_cases hx : y = 0
      · have t : (y != 0) = false := by simp [hx]
        have HN := Lib.hid hx
        clear hx
        go_wp2
        go_roundw
        case rel => exact ⟨2, by go_num, trivial, Lib.hid ⟨by omega, fun _ => h0x.out, fun h => HN.out, fun h => by omega⟩⟩
        case measure => (simp [intOf])
      · have t : (y != 0) = true := by simp [hx]
        have HN : Hid (orI x (orI y z) = y) := Lib.hid (by rw [orI, if_pos h0x.out, orI, if_neg hx])
        clear hx
        go_wp2
        go_ret
        exact ⟨by rw [HN.out]; rfl, rfl⟩
    · have h0x := Lib.hid (HK.out.2.1 (by omega))
      have h0y := Lib.hid (HK.out.2.2.1 (by omega))
      by_cases hx : z = 0
      · have t : (z != 0) = false := by simp [hx]
        have HN := Lib.hid hx
        clear hx
        go_wp2
        go_roundw
        case rel => exact ⟨3, by go_num, trivial, Lib.hid ⟨by omega, fun _ => h0x.out, fun h => h0y.out, fun h => HN.out⟩⟩
        case measure => (simp [intOf])
      · have t : (z != 0) = true := by simp [hx]
        have HN : Hid (orI x (orI y z) = z) := Lib.hid (by rw [orI, if_pos h0x.out, orI, if_pos h0y.out])
        clear hx
        go_wp2
        go_ret
        exact ⟨by rw [HN.out]; rfl, rfl⟩
    · have HN : Hid (orI x (orI y z) = 0) := Lib.hid (by rw [orI, if_pos (HK.out.2.1 (by omega)), orI, if_pos (HK.out.2.2.1 (by omega)), HK.out.2.2.2 (by omega)])
      go_wp2
      go_ret
      exact ⟨by rw [HN.out]; rfl, rfl⟩
theorem cmp64_any (x y : Int) (w : World) : Calls Tryz.prog 62 #[.int .i64 x, .int .i64 y] w fun e w' => e = .returned (.int .i64 (Lib.compareInt x y)) ∧ w' = w := AnyG.cmp_Compare_int Tryz.laysCmp64 x y w
theorem cmpI_any (x y : Int) (w : World) : Calls Tryz.prog 61 #[.int .i64 x, .int .i64 y] w fun e w' => e = .returned (.int .i64 (Lib.compareInt x y)) ∧ w' = w := AnyG.cmp_Compare_int Tryz.laysCmp x y w
set_option maxRecDepth 100000 in
set_option maxHeartbeats 400000 in
theorem cmp_any (a b : Ed) (w : World) :
    Calls Tryz.prog 41 #[encE a, encE b] w fun e w' => e = .returned (.int .i64 (cmpE a b)) ∧ ∃ q os, w' = Go.Sort.grow (w.drewN q) os := by
  obtain ⟨u, v, x⟩ := a
  obtain ⟨u', v', x'⟩ := b
  unfold encE cmpE
  simp only
  have HX := Lib.hid (fun W => cmpI_any u u' W)
  have HY := Lib.hid (fun W => cmpI_any v v' W)
  have HZ := Lib.hid (fun W => cmp64_any x x' W)
  generalize Lib.compareInt u u' = r at *
  generalize Lib.compareInt v v' = s at *
  generalize Lib.compareInt x x' = t at *
  go_enter Tryz.func41, Tryz.ntmps41
  go_wp2
  obtain ⟨W0, hW0⟩ : ∃ W0, (w.alloc (.cells #[.int .i64 u, .int .i64 v, .int .i64 x] 51)).alloc (.cells #[.int .i64 u', .int .i64 v', .int .i64 x'] 51) = W0 := ⟨_, rfl⟩
  have b0 : (W0.drewN 1).cell? ⟨w.heap.size, 0, none⟩ = some (.int .i64 u) := by rw [← hW0]; simp
  have b1 : (W0.drewN 1).cell? ⟨w.heap.size, 1, none⟩ = some (.int .i64 v) := by rw [← hW0]; simp
  have b2 : (W0.drewN 1).cell? ⟨w.heap.size, 2, none⟩ = some (.int .i64 x) := by rw [← hW0]; simp
  have d0 : (W0.drewN 1).cell? ⟨w.heap.size + 1, 0, none⟩ = some (.int .i64 u') := by rw [← hW0]; simp
  have d1 : (W0.drewN 1).cell? ⟨w.heap.size + 1, 1, none⟩ = some (.int .i64 v') := by rw [← hW0]; simp
  have d2 : (W0.drewN 1).cell? ⟨w.heap.size + 1, 2, none⟩ = some (.int .i64 x') := by rw [← hW0]; simp
  have HG : Hid (∀ o, ∃ os, (W0.drewN 1).alloc o = Go.Sort.grow (w.drewN 1) os) := Lib.hid (by
    intro o
    rw [← hW0, Go.Sort.alloc_eq_grow w, Go.Sort.alloc_eq_grow (Go.Sort.grow w _), Go.Sort.grow_grow]
    exact ⟨_, (Go.Sort.alloc_eq_grow _ _).trans (Go.Sort.grow_grow (w.drewN 1) _ _)⟩)
  rw [hW0]
  clear hW0
  generalize w.heap.size = N at *
  refine wp_region_still_tail 15 (by kernel_rfl) (by kernel_rfl) ?_
  change wpStill _ _ (W0.drewN 1) _ _ _
  change wpStill _ _ _ (fun a' => wpList _ _ _ _ _ (W0.drewN 1)) _ _
  generalize W0.drewN 1 = W1 at *
  simp only [List.take_succ_cons, List.take_zero, List.drop_succ_cons, List.drop_zero]
  iterate 4 still_step
  still_call (HX.out _)
  iterate 4 still_step
  still_call (HY.out _)
  iterate 4 still_step
  still_call (HZ.out _)
  refine wpStill_nil ?_
  obtain ⟨os, hos⟩ := HG.out (.cells #[.int .i64 r, .int .i64 s, .int .i64 t] 3)
  have HO := Lib.hid hos
  clear hos
  go_wp2_with fail
  refine (or3_any _ r s t _ (by simp) (by simp) (by simp)).mono ?_
  rintro e w1 ⟨rfl, rfl⟩
  go_wp2
  go_ret
  exact ⟨rfl, 1, os, HO.out⟩
end Go.Proofs.YtceejjgmepaonaaGreatDoor
/- Contracts of package num's Add, Put, Value, at every argument (cut out of XNumCode: a later stage that neither subtracts nor multiplies takes this text). -/
namespace Go.Proofs.YtceejjgmepaonaaGreatDoor
open Go.RowKit Go.ChangeShapes NumPure
theorem add_any (a b : Int) (ha : -9223372036854775808 ≤ a ∧ a ≤ 9223372036854775807) (hb : -9223372036854775808 ≤ b ∧ b ≤ 9223372036854775807) (w : World) :
    Calls Tryz.prog 58 #[.int .i64 a, .int .i64 b] w fun e w' => e = .returned (.tuple #[.int .i64 (cut (a + b)), .bool (fitsB (a + b))]) ∧ w = w' := by
  obtain ⟨ha1, ha2⟩ := ha
  obtain ⟨hb1, hb2⟩ := hb
  by_cases h : -9223372036854775808 ≤ a + b ∧ a + b ≤ 9223372036854775807
  · have t := add_yes a b ⟨ha1, ha2⟩ ⟨hb1, hb2⟩ h
    have e1 := Lib.hid (cut_in h)
    have e2 := Lib.hid ((fits_iff _).2 h)
    obtain ⟨h1, h2⟩ := h
    go_enter Tryz.func58, Tryz.ntmps58
    go_wp2
    go_ret2
    exact ⟨ret_ib e1.out.symm e2.out.symm, rfl⟩
  · have t := add_no a b ⟨ha1, ha2⟩ ⟨hb1, hb2⟩ h
    have e1 := Lib.hid (cut_out h)
    have e2 := Lib.hid ((fits_not _).2 h)
    have hh := Lib.hid h
    clear h
    go_enter Tryz.func58, Tryz.ntmps58
    go_wp2
    go_ret2
    exact ⟨ret_ib e1.out.symm e2.out.symm, rfl⟩
/-- The gathering sum at block N. -/
def AccAt (N : Nat) (w : World) (p : Int × Bool) : Prop :=
  w.cell? ⟨N, 0, none⟩ = some (.int .i64 p.1) ∧ w.cell? ⟨N, 1, none⟩ = some (.bool (!p.2)) ∧ w.frozen? ⟨N, 0, none⟩ = false ∧ w.frozen? ⟨N, 1, none⟩ = false
theorem AccAt.set {N : Nat} {w : World} {p : Int × Bool} (h : AccAt N w p) (q : Int × Bool) : AccAt N ((w.setCell ⟨N, 0, none⟩ (.int .i64 q.1)).setCell ⟨N, 1, none⟩ (.bool (!q.2))) q := by
  obtain ⟨h0, h1, f0, f1⟩ := h
  have h1' : (w.setCell ⟨N, 0, none⟩ (.int .i64 q.1)).cell? ⟨N, 1, none⟩ = some (.bool (!p.2)) := by
    exact (World.cell?_setCell_other w ⟨N, 0, none⟩ ⟨N, 1, none⟩ _ (by simp)).trans h1
  refine ⟨?_, World.cell?_setCell_same _ _ _ h1', ?_, ?_⟩
  · exact (World.cell?_setCell_other _ ⟨N, 1, none⟩ ⟨N, 0, none⟩ _ (by simp)).trans (World.cell?_setCell_same _ _ _ h0)
  · simpa using f0
  · simpa using f1
theorem AccAt.on {M : Nat} {w w' : World} {p : Int × Bool} (h : AccAt M w p) (hb : Below (M + 1) w w') : AccAt M w' p := by
  obtain ⟨h0, h1, f0, f1⟩ := h
  exact ⟨(hb.cell (by simp)).trans h0, (hb.cell (by simp)).trans h1, (hb.frozen (by simp)).trans f0, (hb.frozen (by simp)).trans f1⟩
theorem AccAt.lt {M : Nat} {w : World} {p : Int × Bool} (h : AccAt M w p) : M < w.heap.size := World.block_lt_of_cell? w _ h.1
theorem accAt_new (w : World) (t : TypeId) : AccAt w.heap.size (w.alloc (.cells #[.int .i64 0, .bool false] t)) (0, true) := by
  refine ⟨?_, ?_, ?_, ?_⟩ <;> simp
end Go.Proofs.YtceejjgmepaonaaGreatDoor
/- Contracts of Checks and Total. -/
namespace Go.Proofs.YtceejjgmepaonaaGreatDoor
open Go.RowKit Go.ChangeShapes EdPure NumPure
/-- Why the first one that can't be is none, and its place. -/
def chkL (n : Int) : List Ed → Nat → Int × Int
  | [], _ => (0, 0)
  | e :: r, i => if chkE n e = 0 then chkL n r (i + 1) else (chkE n e, (i : Int))
theorem chk_hit (n : Int) : ∀ (l : List Ed) (i k : Nat) (hk : k < l.length), chkE n l[k] ≠ 0 → (∀ j (hj : j < l.length), j < k → chkE n l[j] = 0) → chkL n l i = (chkE n l[k], ((i + k : Nat) : Int))
  | [], i, k, hk, _, _ => by simp at hk
  | e :: r, i, 0, hk, h, _ => by
    have h' : chkE n e ≠ 0 := h
    unfold chkL
    rw [if_neg h']
    rfl
  | e :: r, i, k + 1, hk, h, hn => by
    unfold chkL
    have h0 : chkE n e = 0 := hn 0 (by simp) (by omega)
    rw [if_pos h0]
    rw [chk_hit n r (i + 1) k (by simpa using hk) h (fun j hj hlt => hn (j + 1) (by simpa using hj) (by omega))]
    simp only [List.getElem_cons_succ, Prod.mk.injEq, true_and]
    omega
theorem chk_miss (n : Int) : ∀ (l : List Ed) (i : Nat), (∀ j (hj : j < l.length), chkE n l[j] = 0) → chkL n l i = (0, 0)
  | [], _, _ => rfl
  | e :: r, i, h => by
    unfold chkL
    have h0 : chkE n e = 0 := h 0 (by simp)
    rw [if_pos h0]
    exact chk_miss n r (i + 1) fun j hj => h (j + 1) (by simpa using hj)
theorem ret_iiE {a b c d : Int} (h1 : a = b) (h2 : c = d) : Ending.returned (.tuple #[.int .i64 a, .int .i64 c]) = .returned (.tuple #[.int .i64 b, .int .i64 d]) := by rw [h1, h2]
def ChkRel (n : Int) (w : World) (l : List Ed) (k : Nat) (wr : World) : Prop := k ≤ l.length ∧ Below w.heap.size w wr ∧ ∀ j (hj : j < l.length), j < k → chkE n l[j] = 0
theorem ChkRel.next {n : Int} {w wr w' : World} {l : List Ed} {k : Nat} (h : ChkRel n w l k wr) (hk : k < l.length) (h0 : chkE n l[k] = 0) (hb : Below w.heap.size w w') : ChkRel n w l (k + 1) w' := by
  refine ⟨hk, hb, fun j hj hlt => ?_⟩
  by_cases e : j = k
  · subst e; exact h0
  · exact h.2.2 j hj (by omega)
theorem checks_any (n : Int) (a : Option Addr) (c : Nat) (l : List Ed) (hl : l.length ≤ 1048576) (w : World) (hR : ReadsE w.heap.size w a l) :
    Calls Tryz.prog 16 #[.int .i64 n, .slice a l.length c] w fun e w' => e = .returned (.tuple #[.int .i64 (chkL n l 0).1, .int .i64 (chkL n l 0).2]) ∧ Below w.heap.size w w' := by
  have HR := Lib.hid hR
  clear hR
  go_enter Tryz.func16, Tryz.ntmps16
  go_wp2
  go_loopw [11] (fun i wr => ∃ k : Nat, i = .int .i64 k ∧ Hid (ChkRel n w l k wr)) (fun i _ => l.length - (intOf i).toNat)
  case atStart => exact ⟨0, rfl, Lib.hid ⟨Nat.zero_le _, Below.refl _ _, fun j _ h => by omega⟩⟩
  case round =>
    obtain ⟨k, rfl, HK⟩ := hrel
    by_cases hlt : k < l.length
    · have i0 : (0 : Int) ≤ (k : Int) := by omega
      have i1 : (k : Int) < (l.length : Int) := by omega
      obtain ⟨u, v, x, he⟩ : ∃ u v x, l[k] = (u, v, x) := ⟨_, _, _, rfl⟩
      obtain ⟨b, off, rfl, hbw, hbr, c0, c1, c2⟩ := HR.out.cells hlt HK.out.2.1 he
      have HC := Lib.hid (fun W => check_any n (u, v, x) W)
      unfold encE at HC
      have HB : Hid (Below w.heap.size w (wr.alloc (.cells #[.int .i64 u, .int .i64 v, .int .i64 x] 51))) := Lib.hid (HK.out.2.1.alloc HK.out.2.1.size _)
      have HE := Lib.hid he
      clear he
      by_cases h0 : chkE n (u, v, x) = 0
      · have H0 := Lib.hid h0
        rw [h0] at HC
        clear h0
        go_wp2_with (first | (go_at_call 38; refine (HC.out _).mono ?_; rintro e w1 ⟨rfl, hb⟩; have H1 := Lib.hid hb; clear hb))
        go_roundw
        case rel => exact ⟨k + 1, by go_num, Lib.hid (HK.out.next hlt (by rw [HE.out]; exact H0.out) (HB.out.trans (H1.out.mono HB.out.size)))⟩
        case measure => (simp [intOf]; omega)
      · have HX : Hid (chkL n l 0 = (chkE n (u, v, x), (k : Int))) := Lib.hid (by
          rw [chk_hit n l 0 k hlt (by rw [HE.out]; exact h0) HK.out.2.2, HE.out, Nat.zero_add])
        have t : (chkE n (u, v, x) != 0) = true := by simpa using h0
        clear h0
        generalize chkE n (u, v, x) = r at *
        go_wp2_with (first | (go_at_call 38; refine (HC.out _).mono ?_; rintro e w1 ⟨rfl, hb⟩; have H1 := Lib.hid hb; clear hb))
        go_ret2
        exact ⟨ret_iiE (by rw [HX.out]) (by rw [HX.out]), HB.out.trans (H1.out.mono HB.out.size)⟩
    · have hk : k = l.length := by have := HK.out.1; omega
      subst hk
      have HX : Hid (chkL n l 0 = (0, 0)) := Lib.hid (chk_miss n l 0 fun j hj => HK.out.2.2 j hj hj)
      go_wp2
      go_ret2
      exact ⟨ret_iiE (by rw [HX.out]) (by rw [HX.out]), HK.out.2.1⟩
/-- All together, up to k. -/
def TotRel (w : World) (l : List Ed) (k : Nat) (wr : World) : Prop := k ≤ l.length ∧ Below w.heap.size w wr ∧ AccAt w.heap.size wr (sumS ((wts l).take k)) ∧ (sumS ((wts l).take k)).2 = true
theorem wts_at {l : List Ed} {k : Nat} (hk : k < l.length) : (wts l).getD k 0 = l[k].2.2 := by
  unfold wts
  rw [List.getD_eq_getElem?_getD, List.getElem?_eq_getElem (by simpa using hk), List.getElem_map]; rfl
end Go.Proofs.YtceejjgmepaonaaGreatDoor
