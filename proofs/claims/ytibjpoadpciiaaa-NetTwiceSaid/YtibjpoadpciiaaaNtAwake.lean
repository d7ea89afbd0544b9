/- The law's awake. -/
import Derived.Test.YtibjpoadpciiaaaNtNew
import Derived.Test.YtibjpoadpciiaaaNtSeek2
namespace Go.Proofs.Ytibjpoadpciiaaa
open Go.RowKit Go.ChangeShapes EdPure NtPure NumPure
theorem awN_merge : mergeE [(1, 0, 2), (0, 1, 3)] = some [(0, 1, 5)] := by decide
theorem awN_err : errN 3 [(1, 0, 2), (0, 1, 3)] = (0, 0) := by decide
theorem awN_in : InL [(1, 0, 2), (0, 1, 3)] := by
  intro e he
  simp only [List.mem_cons, List.not_mem_nil, or_false] at he
  rcases he with rfl | rfl <;> (unfold InE In; simp)
set_option maxRecDepth 100000 in
set_option maxHeartbeats 800000 in
theorem awake_any (w : World) : Calls Try.prog 6 #[] w fun e w' => e = .returned (.bool true) ∧ Below w.heap.size w w' := by
  have hb0 : Below w.heap.size w (w.alloc (.cells #[.int .i64 1, .int .i64 0, .int .i64 2, .int .i64 0, .int .i64 1, .int .i64 3] 35)) := (Below.refl _ _).alloc (Nat.le_refl _) _
  have hR : ReadsE (w.alloc (.cells #[.int .i64 1, .int .i64 0, .int .i64 2, .int .i64 0, .int .i64 1, .int .i64 3] 35)).heap.size (w.alloc (.cells #[.int .i64 1, .int .i64 0, .int .i64 2, .int .i64 0, .int .i64 1, .int .i64 3] 35)) (some ⟨w.heap.size, 0, none⟩) [(1, 0, 2), (0, 1, 3)] := by
    refine Or.inr ⟨w.heap.size, 0, rfl, by simp, fun i hi => ?_⟩
    match i, hi with
    | 0, _ => simp
    | 1, _ => simp
  have HM := Lib.hid (newNet_any 3 _ 2 _ awN_in _ hR)
  have HB := Lib.hid hb0
  clear hR hb0
  go_enter Try.func6, Try.ntmps6
  go_wp2_with fail
  refine HM.out.mono ?_
  rintro e w1 ⟨hb1, ⟨hn, -⟩ | ⟨-, N, M, g, hN, hN4, hg, -, -, hA, rfl, hn⟩⟩
  · rw [awN_err] at hn; exact absurd rfl hn
  obtain rfl := Option.some.inj (awN_merge.symm.trans hA)
  obtain rfl : N = 3 := by omega
  replace HB := Lib.hid (HB.out.trans (hb1.mono HB.out.size))
  have HG := Lib.hid hg
  have HN := Lib.hid hn
  have hw : weiE [(0, 1, 5)] 1 0 = 5 := by decide
  have hd : degV 3 [(0, 1, 5)] 1 = 5 := by decide
  have ha : allW [(0, 1, 5)] = 5 := by decide
  have HQ := Lib.hid (And.intro hw (And.intro hd ha))
  clear hb1 hA hg hn HM hw hd ha hN
  go_wp2_with fail
  refine (num_any _ 3 _ _ HN.out).mono ?_
  rintro e w2 ⟨rfl, hb2⟩
  replace HB := Lib.hid (HB.out.trans (hb2.mono HB.out.size))
  replace HN := Lib.hid (HN.out.over hb2)
  clear hb2
  go_wp2_with fail
  refine (cnt_any _ 3 _ _ HN.out).mono ?_
  rintro e w3 ⟨rfl, hb3⟩
  replace HB := Lib.hid (HB.out.trans (hb3.mono HB.out.size))
  replace HN := Lib.hid (HN.out.over hb3)
  clear hb3
  go_wp2_with fail
  refine (weight_any _ 3 _ HG.out (by simp) 1 0 _ HN.out).mono ?_
  rintro e w4 ⟨rfl, hb4⟩
  rw [HQ.out.1]
  replace HB := Lib.hid (HB.out.trans (hb4.mono HB.out.size))
  replace HN := Lib.hid (HN.out.over hb4)
  clear hb4
  go_wp2_with fail
  refine (degree_any _ 3 _ 1 _ HN.out).mono ?_
  rintro e w5 ⟨rfl, hb5⟩
  rw [HQ.out.2.1]
  replace HB := Lib.hid (HB.out.trans (hb5.mono HB.out.size))
  replace HN := Lib.hid (HN.out.over hb5)
  clear hb5
  go_wp2_with fail
  refine (totalN_any _ 3 (by omega) _ HG.out (by simp) _ HN.out).mono ?_
  rintro e w6 ⟨rfl, hb6⟩
  rw [HQ.out.2.2]
  replace HB := Lib.hid (HB.out.trans (hb6.mono HB.out.size))
  clear hb6
  go_wp2
  go_ret
  exact ⟨rfl, HB.out⟩
end Go.Proofs.Ytibjpoadpciiaaa
