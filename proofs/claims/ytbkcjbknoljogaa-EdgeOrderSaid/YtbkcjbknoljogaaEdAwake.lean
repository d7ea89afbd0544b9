/- The law's awake. -/
import Derived.Test.YtbkcjbknoljogaaEdMerge
import Derived.Test.YtbkcjbknoljogaaEdFind
import Derived.Test.YtbkcjbknoljogaaEdRef2
namespace Go.Proofs.Ytbkcjbknoljogaa
open Go.RowKit Go.ChangeShapes EdPure NumPure
theorem aw_merge : mergeE [(2, 1, 3), (1, 2, 4), (1, 1, 9)] = some [(1, 2, 7)] := by decide
theorem aw_in : InL [(2, 1, 3), (1, 2, 4), (1, 1, 9)] := by
  intro e he
  simp only [List.mem_cons, List.not_mem_nil, or_false] at he
  rcases he with rfl | rfl | rfl <;> (unfold InE In; simp)
set_option maxRecDepth 100000 in
set_option maxHeartbeats 800000 in
theorem awake_any (w : World) : Calls Try.prog 6 #[] w fun e w' => e = .returned (.bool true) ∧ Below w.heap.size w w' := by
  have hb0 : Below w.heap.size w (w.alloc (.cells #[.int .i64 2, .int .i64 1, .int .i64 3, .int .i64 1, .int .i64 2, .int .i64 4, .int .i64 1, .int .i64 1, .int .i64 9] 24)) := (Below.refl _ _).alloc (Nat.le_refl _) _
  have hR : ReadsE (w.alloc (.cells #[.int .i64 2, .int .i64 1, .int .i64 3, .int .i64 1, .int .i64 2, .int .i64 4, .int .i64 1, .int .i64 1, .int .i64 9] 24)).heap.size (w.alloc (.cells #[.int .i64 2, .int .i64 1, .int .i64 3, .int .i64 1, .int .i64 2, .int .i64 4, .int .i64 1, .int .i64 1, .int .i64 9] 24)) (some ⟨w.heap.size, 0, none⟩) [(2, 1, 3), (1, 2, 4), (1, 1, 9)] := by
    refine Or.inr ⟨w.heap.size, 0, rfl, by simp, fun i hi => ?_⟩
    match i, hi with
    | 0, _ => simp
    | 1, _ => simp
    | 2, _ => simp
  have HM := Lib.hid (merge_any _ 3 _ (by simp) aw_in _ hR)
  rw [aw_merge] at HM
  have HB := Lib.hid hb0
  have c1 : chkE 3 (1, 2, 7) = 0 := by decide
  have c2 : chkE 2 (1, 2, 7) = 4 := by decide
  have c3 : findE [(1, 2, 7)] 2 1 = 0 := by decide
  clear hR hb0
  go_enter Try.func6, Try.ntmps6
  go_wp2_with fail
  refine HM.out.mono ?_
  rintro e w1 ⟨hb1, ⟨hn, -⟩ | ⟨A, q, cap, hA, rfl, hr⟩⟩
  · cases hn
  obtain rfl := Option.some.inj hA
  replace HB := Lib.hid (HB.out.trans (hb1.mono HB.out.size))
  have HR := Lib.hid hr
  obtain ⟨b, off, rfl, hb, e0, e1, e2⟩ := hr.at (k := 0) (by simp)
  simp only [List.getElem_cons_zero, Nat.zero_mul, Nat.add_zero] at e0 e1 e2
  have HC1 := Lib.hid (fun W => check_any 3 (1, 2, 7) W)
  have HC2 := Lib.hid (fun W => check_any 2 (1, 2, 7) W)
  rw [c1] at HC1
  rw [c2] at HC2
  unfold encE at HC1 HC2
  clear hb1 hA hr HM c1 c2
  go_wp2_with fail
  refine (HC1.out _).mono ?_
  rintro e w2 ⟨rfl, hb2⟩
  replace HR := Lib.hid (HR.out.over hb2 (Nat.le_refl _))
  replace e0 := (hb2.cell (p := ⟨b, off, none⟩) hb).trans e0
  replace e1 := (hb2.cell (p := ⟨b, off + 1, none⟩) hb).trans e1
  replace e2 := (hb2.cell (p := ⟨b, off + 2, none⟩) hb).trans e2
  replace HB := Lib.hid (HB.out.trans (hb2.mono HB.out.size))
  replace hb : b < w2.heap.size := Nat.lt_of_lt_of_le hb hb2.size
  clear hb2
  go_wp2_with fail
  refine (HC2.out _).mono ?_
  rintro e w3 ⟨rfl, hb3⟩
  replace HR := Lib.hid (HR.out.over hb3 (Nat.le_refl _))
  replace HB := Lib.hid (HB.out.trans (hb3.mono HB.out.size))
  have HF := Lib.hid (find_any _ cap [(1, 2, 7)] (by simp) 2 1 w3 HR.out)
  rw [c3] at HF
  clear hb3 c3 e0 e1 e2
  go_wp2_with fail
  refine HF.out.mono ?_
  rintro e w4 ⟨rfl, hb4⟩
  replace HB := Lib.hid (HB.out.trans (hb4.mono HB.out.size))
  clear hb4
  go_wp2
  go_ret
  exact ⟨rfl, HB.out⟩
end Go.Proofs.Ytbkcjbknoljogaa
