/- Contracts of the heap's Pop, and of all calls on nil. -/
import Derived.Test.YtndljbkjcgfdcaaHeapDrop
namespace Go.Proofs.Ytndljbkjcgfdcaa
open Go.RowKit Go.ChangeShapes NdPure HpPure HeapPure
section
variable {O : Nat → Prop} {B : Bl} {w0 : World} {A : List (Option Int)} {l : Int}
theorem Goes.keep {W W' : World} (h : Goes O B w0 A l W) (hb : Below W.heap.size W W') : Goes O B w0 A l W' := by
  obtain ⟨l', h1, h2, h3⟩ := h
  exact ⟨l', h1, h2, h3.keep hb⟩
set_option maxHeartbeats 2000000 in
theorem pop_run (W : World) (h : HpIs O B w0 A l W) (hl : l ≤ 1000000000000) :
    Calls Try.prog 18 #[.pointer (some ⟨B.b, 0, none⟩)] W fun e W' => e = .returned (.tuple #[.int .i64 (topV A), .int .i64 (topK A), .bool (topB A)]) ∧ Goes O B w0 (popA A) l W' := by
  have HI := Lib.hid h
  cases hf : firstA A with
  | none =>
    have H3 : Hid (topB A = false) := Lib.hid (by unfold topB; rw [hf]; rfl)
    have HA : Hid (popA A = A) := Lib.hid (by unfold popA; rw [hf])
    clear h hf
    generalize hv : topV A = v at *
    have HV := Lib.hid hv
    clear hv
    generalize hk : topK A = k at *
    have HK := Lib.hid hk
    clear hk
    go_enter Try.func18, Try.ntmps18
    go_wp2_with fail
    refine (top_run _ HI.out).mono ?_
    rintro e w1 ⟨rfl, hb1⟩
    rw [HV.out, HK.out, H3.out]
    have HG : Hid (Goes O B w0 A l w1) := Lib.hid (HI.out.keep hb1).goes
    clear hb1 HI
    go_wp2
    exact bodyPost_ret (v := .tuple #[.int .i64 v, .int .i64 k, .bool false]) (by simp [results, Try.results18, go_sem]) rfl ⟨ret_iib rfl rfl H3.out.symm, by rw [HA.out]; exact HG.out⟩
  | some r =>
    obtain ⟨m, y⟩ := r
    have H3 : Hid (topB A = true) := Lib.hid (by unfold topB; rw [hf]; rfl)
    have hin : inA A (m : Int) = true := by
      rcases first_spec A with ⟨h1, -⟩ | ⟨m', y', h1, h2, h3⟩
      · rw [h1] at hf; cases hf
      · rw [h1] at hf; cases hf
        exact in_of h2
    have HA : Hid (popA A = dropA A (m : Int)) := Lib.hid (by unfold popA dropA; rw [hf, if_pos hin, Int.toNat_natCast])
    have HV : Hid (topV A = (m : Int)) := Lib.hid (by unfold topV; rw [hf])
    have HK : Hid (topK A = y) := Lib.hid (by unfold topK; rw [hf])
    have HN := Lib.hid hin
    clear h hf hin
    go_enter Try.func18, Try.ntmps18
    go_wp2_with fail
    refine (top_run _ HI.out).mono ?_
    rintro e w1 ⟨rfl, hb1⟩
    rw [HV.out, HK.out, H3.out]
    have HI1 := Lib.hid (HI.out.keep hb1)
    clear hb1 HI
    go_wp2_with fail
    refine (drop_run _ (m : Int) HI1.out hl).mono ?_
    rintro e w2 ⟨rfl, h2⟩
    rw [HN.out]
    have HG := Lib.hid h2
    clear h2 HI1
    go_wp2
    exact bodyPost_ret (v := .tuple #[.int .i64 m, .int .i64 y, .bool true]) (by simp [results, Try.results18, go_sem]) rfl ⟨ret_iib HV.out.symm HK.out.symm H3.out.symm, by rw [HA.out]; exact HG.out⟩
end
theorem roomN_run (W : World) : Calls Try.prog 9 #[.pointer none] W fun e W' => e = .returned (.int .i64 0) ∧ W = W' := by
  go_enter Try.func9, Try.ntmps9
  go_wp2
  go_ret
  exact ⟨rfl, rfl⟩
theorem lenN_run (W : World) : Calls Try.prog 11 #[.pointer none] W fun e W' => e = .returned (.int .i64 0) ∧ W = W' := by
  go_enter Try.func11, Try.ntmps11
  go_wp2
  go_ret
  exact ⟨rfl, rfl⟩
theorem linksN_run (W : World) : Calls Try.prog 13 #[.pointer none] W fun e W' => e = .returned (.int .i64 0) ∧ W = W' := by
  go_enter Try.func13, Try.ntmps13
  go_wp2
  go_ret
  exact ⟨rfl, rfl⟩
theorem hasN_run (W : World) (v : Int) : Calls Try.prog 29 #[.pointer none, .int .i64 v] W fun e W' => e = .returned (.bool false) ∧ W = W' := by
  by_cases h : v < 0
  · have a1 : ¬ v ≥ 0 := by omega
    clear h
    go_enter Try.func29, Try.ntmps29
    go_wp2
    go_ret
    exact ⟨rfl, rfl⟩
  · have a1 : v ≥ 0 := by omega
    have a2 : ¬ v < 0 := h
    clear h
    go_enter Try.func29, Try.ntmps29
    go_wp2_with (first | (go_at_call 9; refine (roomN_run _).mono ?_; rintro e w' ⟨rfl, rfl⟩))
    go_ret
    exact ⟨rfl, rfl⟩
theorem pushN_run (W : World) (v k : Int) : Calls Try.prog 16 #[.pointer none, .int .i64 v, .int .i64 k] W fun e W' => e = .returned (.bool false) ∧ W = W' := by
  by_cases h : v < 0
  · go_enter Try.func16, Try.ntmps16
    go_wp2
    go_ret
    exact ⟨rfl, rfl⟩
  · have a1 : v ≥ 0 := by omega
    go_enter Try.func16, Try.ntmps16
    go_wp2_with (first | (go_at_call 9; refine (roomN_run _).mono ?_; rintro e w' ⟨rfl, rfl⟩))
    go_ret
    exact ⟨rfl, rfl⟩
theorem raiseN_run (W : World) (v k : Int) : Calls Try.prog 17 #[.pointer none, .int .i64 v, .int .i64 k] W fun e W' => e = .returned (.bool false) ∧ W = W' := by
  go_enter Try.func17, Try.ntmps17
  go_wp2_with (first | (go_at_call 29; refine (hasN_run _ _).mono ?_; rintro e w' ⟨rfl, rfl⟩))
  go_ret
  exact ⟨rfl, rfl⟩
theorem dropN_run (W : World) (v : Int) : Calls Try.prog 20 #[.pointer none, .int .i64 v] W fun e W' => e = .returned (.bool false) ∧ W = W' := by
  go_enter Try.func20, Try.ntmps20
  go_wp2_with (first | (go_at_call 29; refine (hasN_run _ _).mono ?_; rintro e w' ⟨rfl, rfl⟩))
  go_ret
  exact ⟨rfl, rfl⟩
theorem keyN_run (W : World) (v : Int) : Calls Try.prog 14 #[.pointer none, .int .i64 v] W fun e W' => e = .returned (.tuple #[.int .i64 0, .bool false]) ∧ W = W' := by
  go_enter Try.func14, Try.ntmps14
  go_wp2_with (first | (go_at_call 29; refine (hasN_run _ _).mono ?_; rintro e w' ⟨rfl, rfl⟩))
  go_ret2
  exact ⟨rfl, rfl⟩
theorem topN_run (W : World) : Calls Try.prog 19 #[.pointer none] W fun e W' => e = .returned (.tuple #[.int .i64 0, .int .i64 0, .bool false]) ∧ W = W' := by
  go_enter Try.func19, Try.ntmps19
  go_wp2_with (first | (go_at_call 11; refine (lenN_run _).mono ?_; rintro e w' ⟨rfl, rfl⟩))
  exact bodyPost_ret (v := .tuple #[.int .i64 0, .int .i64 0, .bool false]) (by simp [results, Try.results19, go_sem]) rfl ⟨rfl, rfl⟩
theorem popN_run (W : World) : Calls Try.prog 18 #[.pointer none] W fun e W' => e = .returned (.tuple #[.int .i64 0, .int .i64 0, .bool false]) ∧ W = W' := by
  go_enter Try.func18, Try.ntmps18
  go_wp2_with (first | (go_at_call 19; refine (topN_run _).mono ?_; rintro e w' ⟨rfl, rfl⟩))
  exact bodyPost_ret (v := .tuple #[.int .i64 0, .int .i64 0, .bool false]) (by simp [results, Try.results18, go_sem]) rfl ⟨rfl, rfl⟩
end Go.Proofs.Ytndljbkjcgfdcaa
