/- The law's awake (layer 19). -/
import Derived.Test.YtaoocokcfppmaaaCsCode
namespace Go.Proofs.Ytaoocokcfppmaaa.Cs
open Go.RowKit Go.ChangeShapes EdPure NtPure CsPure
theorem aw_merge : mergeE [(0, 1, 5)] = some [(0, 1, 5)] := by decide
theorem aw_err : errN 2 [(0, 1, 5)] = (0, 0) := by decide
theorem aw_in : InL [(0, 1, 5)] := by
  intro e he
  rw [List.mem_singleton.1 he]
  unfold InE In
  simp
theorem aw_facts : headZ [(0, 1, 5)] 0 = 1 ∧ tailZ [(0, 1, 5)] 1 = 1 ∧ capZ [(0, 1, 5)] 1 = 5 ∧ backZ 0 = 1 ∧ outN [(0, 1, 5)] 0 2 = [0] := by decide
theorem one_int (w : World) (a : Int) (T : TypeId) : ReadsL encZ (w.alloc (.cells #[.int .i64 a] T)).heap.size (w.alloc (.cells #[.int .i64 a] T)) (some ⟨w.heap.size, 0, none⟩) [a] := by
  refine Or.inr ⟨w.heap.size, 0, rfl, by simp, fun i hi => ?_⟩
  match i, hi with
  | 0, _ => simp [encZ]
set_option maxRecDepth 100000 in
set_option maxHeartbeats 800000 in
theorem awake_any (w : World) : Calls Try.prog 5 #[] w fun e w' => e = .returned (.bool true) ∧ Below w.heap.size w w' := by
  have hb0 : Below w.heap.size w (w.alloc (.cells #[.int .i64 0, .int .i64 1, .int .i64 5] 48)) := (Below.refl _ _).alloc (Nat.le_refl _) _
  have hR : ReadsE (w.alloc (.cells #[.int .i64 0, .int .i64 1, .int .i64 5] 48)).heap.size (w.alloc (.cells #[.int .i64 0, .int .i64 1, .int .i64 5] 48)) (some ⟨w.heap.size, 0, none⟩) [(0, 1, 5)] := by
    refine Or.inr ⟨w.heap.size, 0, rfl, by simp, fun i hi => ?_⟩
    match i, hi with
    | 0, _ => simp
  have HM := Lib.hid (newNet_any 2 _ 1 _ aw_in _ hR)
  have HB := Lib.hid hb0
  have HF := Lib.hid aw_facts
  clear hR hb0
  go_enter Try.func5, Try.ntmps5
  go_wp2_with fail
  refine HM.out.mono ?_
  rintro e w1 ⟨hb1, ⟨hn, -⟩ | ⟨-, N, M, g0, hN, hN4, hg, -, -, hA, rfl, hn⟩⟩
  · rw [aw_err] at hn; exact absurd rfl hn
  obtain rfl := Option.some.inj (aw_merge.symm.trans hA)
  obtain rfl : N = 2 := by omega
  replace HB := Lib.hid (HB.out.trans (hb1.mono HB.out.size))
  have HG := Lib.hid hg
  have HN := Lib.hid hn
  clear hb1 hA hg hn HM hN
  go_wp2_with fail
  refine (newArcs_any _ 2 _ (by omega) HG.out (by simp) _ HN.out).mono ?_
  rintro e w2 ⟨hb2, r, rfl, hr, hne⟩
  obtain ⟨g, rfl⟩ := hne (by simp)
  replace HB := Lib.hid (HB.out.trans (hb2.mono HB.out.size))
  have HA := Lib.hid hr
  clear hb2 hr hne HN
  go_wp2_with fail
  refine (arcsLen_any _ 2 _ (by simp) _ HA.out).mono ?_
  rintro e w3 ⟨rfl, hb3⟩
  replace HB := Lib.hid (HB.out.trans (hb3.mono HB.out.size))
  replace HA := Lib.hid (HA.out.over hb3)
  clear hb3
  go_wp2_with fail
  refine (arcsN_any _ 2 _ _ HA.out).mono ?_
  rintro e w4 ⟨rfl, hb4⟩
  replace HB := Lib.hid (HB.out.trans (hb4.mono HB.out.size))
  replace HA := Lib.hid (HA.out.over hb4)
  clear hb4
  go_wp2_with fail
  refine (arcsHead_any _ 2 _ (by simp) 0 (by omega) (by omega) _ HA.out).mono ?_
  rw [HF.out.1]
  rintro e w5 ⟨rfl, hb5⟩
  replace HB := Lib.hid (HB.out.trans (hb5.mono HB.out.size))
  replace HA := Lib.hid (HA.out.over hb5)
  clear hb5
  go_wp2_with fail
  refine (arcsTail_any _ 2 _ (by simp) 1 (by omega) (by omega) _ HA.out).mono ?_
  rw [HF.out.2.1]
  rintro e w6 ⟨rfl, hb6⟩
  replace HB := Lib.hid (HB.out.trans (hb6.mono HB.out.size))
  replace HA := Lib.hid (HA.out.over hb6)
  clear hb6
  go_wp2_with fail
  refine (arcsCap_any _ 2 _ (by simp) 1 (by omega) (by omega) _ HA.out).mono ?_
  rw [HF.out.2.2.1]
  rintro e w7 ⟨rfl, hb7⟩
  replace HB := Lib.hid (HB.out.trans (hb7.mono HB.out.size))
  replace HA := Lib.hid (HA.out.over hb7)
  clear hb7
  go_wp2_with fail
  refine (arcsOut_any _ 2 _ (by omega) HG.out (by simp) 0 (by omega) (by omega) _ HA.out).mono ?_
  rw [HF.out.2.2.2.2]
  rintro e w8 ⟨hb8, q, c, rfl, hr8⟩
  replace HB := Lib.hid (HB.out.trans (hb8.mono HB.out.size))
  have hbA : Below w8.heap.size w8 (w8.alloc (.cells #[.int .i64 0] 3)) := (Below.refl _ _).alloc (Nat.le_refl _) _
  have HI := Lib.hid (ints_any q (some ⟨w8.heap.size, 0, none⟩) c 1 (zN [0]) [0] _ (hr8.over hbA (Nat.le_refl _)) (one_int w8 0 3) (by simp [zN]))
  rw [show decide (zN [0] = [0]) = true from rfl] at HI
  replace HB := Lib.hid (HB.out.trans (hbA.mono HB.out.size))
  clear hb8 hbA hr8
  go_wp2_with fail
  refine HI.out.mono ?_
  rintro e w9 ⟨rfl, md, rfl⟩
  replace HB := Lib.hid (HB.out.trans ((below_drewN (Below.refl _ _) md).mono HB.out.size))
  clear HI
  go_wp2_with fail
  refine (back_any 0 (by omega) (by omega) _).mono ?_
  rw [HF.out.2.2.2.1]
  rintro e w10 ⟨rfl, hb10⟩
  replace HB := Lib.hid (HB.out.trans (hb10.mono HB.out.size))
  clear hb10
  go_wp2
  go_ret
  exact ⟨rfl, HB.out⟩
end Go.Proofs.Ytaoocokcfppmaaa.Cs
