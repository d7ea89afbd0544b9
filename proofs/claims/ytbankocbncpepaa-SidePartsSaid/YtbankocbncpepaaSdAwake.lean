/- The law's awake (layer 21). -/
import Derived.Test.YtbankocbncpepaaSdCode
namespace Go.Proofs.Ytbankocbncpepaa.Sd
open Go.RowKit Go.ChangeShapes EdPure NtPure CutPure SdPure Cm
abbrev awL : List Ed := [(0, 1, 2), (1, 2, 3)]
theorem aw_merge : mergeE awL = some awL := by decide
theorem aw_err : errN 3 awL = (0, 0) := by decide
theorem aw_in : InL awL := by
  intro e he
  rcases List.mem_cons.1 he with rfl | h
  · unfold InE In; simp
  · rw [List.mem_singleton.1 h]; unfold InE In; simp
theorem aw_facts : chkS 3 [1] = 0 ∧ cutW awL (inS [1]) = 5 ∧ chkS 3 [0, 2] = 0 ∧ normL 3 [0, 2] = [1] ∧ chkS 3 [0] = 0 ∧ cutW awL (inS [0]) = 2 ∧ partsB 3 [1] 1 2 = true := by decide
theorem lit_one (w : World) (x : Int) (T : TypeId) : Below w.heap.size w (w.alloc (.cells #[.int .i64 x] T)) ∧ ReadsL encZ (w.alloc (.cells #[.int .i64 x] T)).heap.size (w.alloc (.cells #[.int .i64 x] T)) (some ⟨w.heap.size, 0, none⟩) [x] := by
  refine ⟨(Below.refl _ _).alloc (Nat.le_refl _) _, Or.inr ⟨w.heap.size, 0, rfl, by simp, fun i hi => ?_⟩⟩
  match i, hi with
  | 0, _ => simp [encZ]
theorem lit_two (w : World) (x y : Int) (T : TypeId) : Below w.heap.size w (w.alloc (.cells #[.int .i64 x, .int .i64 y] T)) ∧ ReadsL encZ (w.alloc (.cells #[.int .i64 x, .int .i64 y] T)).heap.size (w.alloc (.cells #[.int .i64 x, .int .i64 y] T)) (some ⟨w.heap.size, 0, none⟩) [x, y] := by
  refine ⟨(Below.refl _ _).alloc (Nat.le_refl _) _, Or.inr ⟨w.heap.size, 0, rfl, by simp, fun i hi => ?_⟩⟩
  match i, hi with
  | 0, _ => simp [encZ]
  | 1, _ => simp [encZ]
set_option maxRecDepth 100000 in
set_option maxHeartbeats 1600000 in
theorem awake_any (w : World) : Calls Try.prog 6 #[] w fun e w' => e = .returned (.bool true) ∧ Below w.heap.size w w' := by
  have hb0 : Below w.heap.size w (w.alloc (.cells #[.int .i64 0, .int .i64 1, .int .i64 2, .int .i64 1, .int .i64 2, .int .i64 3] 58)) := (Below.refl _ _).alloc (Nat.le_refl _) _
  have hR : ReadsE (w.alloc (.cells #[.int .i64 0, .int .i64 1, .int .i64 2, .int .i64 1, .int .i64 2, .int .i64 3] 58)).heap.size (w.alloc (.cells #[.int .i64 0, .int .i64 1, .int .i64 2, .int .i64 1, .int .i64 2, .int .i64 3] 58)) (some ⟨w.heap.size, 0, none⟩) awL := by
    refine Or.inr ⟨w.heap.size, 0, rfl, by simp, fun i hi => ?_⟩
    match i, hi with
    | 0, _ => simp
    | 1, _ => simp
  have HM := Lib.hid (newNet_any 3 _ 2 _ aw_in _ hR)
  have HB := Lib.hid hb0
  have HF := Lib.hid aw_facts
  clear hR hb0
  go_enter Try.func6, Try.ntmps6
  go_wp2_with fail
  refine HM.out.mono ?_
  rintro e w1 ⟨hb1, ⟨hn, -⟩ | ⟨-, N, M, g0, hN, hN4, hg, -, -, hA, rfl, hn⟩⟩
  · rw [aw_err] at hn; exact absurd rfl hn
  obtain rfl := Option.some.inj (aw_merge.symm.trans hA)
  obtain rfl : N = 3 := by omega
  replace HB := Lib.hid (HB.out.trans (hb1.mono HB.out.size))
  have HG := Lib.hid hg
  have HN := Lib.hid hn
  clear hb1 hA hg hn HM hN
  go_wp2_with fail
  obtain ⟨l1, l2⟩ := lit_one w1 1 3
  replace HB := Lib.hid (HB.out.trans (l1.mono HB.out.size))
  replace HN := Lib.hid (HN.out.over l1)
  refine (sideWeight_any _ 3 _ (by omega) HG.out (by simp) _ 1 [1] (by simp) _ HN.out l2).mono ?_
  rw [show chkS ((3 : Nat) : Int) [1] = 0 from HF.out.1, if_pos rfl, HF.out.2.1]
  rintro e w2 ⟨rfl, hb2⟩
  replace HB := Lib.hid (HB.out.trans (hb2.mono HB.out.size))
  replace HN := Lib.hid (HN.out.over hb2)
  clear hb2 l1 l2
  go_wp2_with fail
  obtain ⟨l1, l2⟩ := lit_two w2 0 2 3
  replace HB := Lib.hid (HB.out.trans (l1.mono HB.out.size))
  replace HN := Lib.hid (HN.out.over l1)
  refine (sideNormal_any 3 (by omega) _ 2 [0, 2] (by simp) (by simp) _ l2).mono ?_
  rw [show chkS ((3 : Nat) : Int) [0, 2] = 0 from HF.out.2.2.1, if_pos rfl, show normL ((3 : Nat) : Int) [0, 2] = [1] from HF.out.2.2.2.1]
  rintro e w3 ⟨hb3, q3, c3, rfl, hr3⟩
  replace HB := Lib.hid (HB.out.trans (hb3.mono HB.out.size))
  replace HN := Lib.hid (HN.out.over hb3)
  have HR3 := Lib.hid hr3
  clear hb3 hr3 l1 l2
  go_wp2_with fail
  obtain ⟨l1, l2⟩ := lit_one w3 1 3
  replace HB := Lib.hid (HB.out.trans (l1.mono HB.out.size))
  replace HN := Lib.hid (HN.out.over l1)
  have HI := Lib.hid (ints_any q3 _ c3 1 [1] [1] _ (HR3.out.over l1 (Nat.le_refl _)) l2 (by simp))
  rw [show decide (([1] : List Int) = [1]) = true from rfl] at HI
  refine HI.out.mono ?_
  rintro e w4 ⟨rfl, m4, rfl⟩
  have hb4 : Below (w3.alloc (.cells #[.int .i64 1] 3)).heap.size (w3.alloc (.cells #[.int .i64 1] 3)) ((w3.alloc (.cells #[.int .i64 1] 3)).drewN m4) := below_drewN (Below.refl _ _) m4
  replace HB := Lib.hid (HB.out.trans (hb4.mono HB.out.size))
  replace HN := Lib.hid (HN.out.over hb4)
  clear hb4 l1 l2 HI HR3
  generalize (w3.alloc (.cells #[.int .i64 1] 3)).drewN m4 = w4 at *
  go_wp2_with fail
  obtain ⟨l1, l2⟩ := lit_one w4 0 3
  replace HB := Lib.hid (HB.out.trans (l1.mono HB.out.size))
  replace HN := Lib.hid (HN.out.over l1)
  refine (sideRight_any _ 3 _ (by omega) HG.out (by simp) 2 _ 1 [0] (by simp) _ HN.out l2).mono ?_
  rw [show chkS ((3 : Nat) : Int) [0] = 0 from HF.out.2.2.2.2.1, HF.out.2.2.2.2.2.1]
  rintro e w5 ⟨rfl, hb5⟩
  rw [show (decide ((0 : Int) = 0) && decide ((2 : Int) = 2)) = true from rfl]
  replace HB := Lib.hid (HB.out.trans (hb5.mono HB.out.size))
  replace HN := Lib.hid (HN.out.over hb5)
  clear hb5 l1 l2
  go_wp2_with fail
  obtain ⟨l1, l2⟩ := lit_one w5 1 3
  replace HB := Lib.hid (HB.out.trans (l1.mono HB.out.size))
  refine (sideParts_any 3 _ 1 [1] (by simp) 1 2 _ l2).mono ?_
  rw [HF.out.2.2.2.2.2.2]
  rintro e w6 ⟨rfl, hb6⟩
  replace HB := Lib.hid (HB.out.trans (hb6.mono HB.out.size))
  clear hb6 l1 l2
  go_wp2
  go_ret
  exact ⟨rfl, HB.out⟩
end Go.Proofs.Ytbankocbncpepaa.Sd
