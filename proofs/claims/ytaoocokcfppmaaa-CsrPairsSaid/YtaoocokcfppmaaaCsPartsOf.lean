/- Contract of partsOf: one list, cut into a part for each vertex. -/
import Derived.Test.YtaoocokcfppmaaaCsCut
import Derived.Deep.RegionLaw
namespace Go.Proofs.Ytaoocokcfppmaaa.Cs
open Go.RowKit Go.ChangeShapes EdPure NtPure CsPure
theorem slice_room (R q ln rm : Nat) (h : rm ≤ ln) (wx : World) :
    (Instr.sliceAt 32 (.slice (some ⟨R, q, none⟩) ln ln) none (some (.int .i64 0)) (some (.int .i64 (rm : Int)))).run Try.prog wx = .ok (.slice (some ⟨R, q, none⟩) 0 rm) wx := by
  have he : Try.prog.elem 32 = 3 := by kernel_rfl
  have hu : Try.prog.underlying 32 = some (.slice (Try.prog.elem 32)) := by rw [he]; exact Try.underlying32
  obtain ⟨i, h1, -, h3, -⟩ := info_of (P := Try.prog) (T := 3) (z := .int .i64 0) (a := 1) (b := 8) (by kernel_rfl)
  rw [run_sliceAt_slice _ _ _ _ _ _ hu, run_slice_any _ _ _ _ _ hu]
  have hr : (rm : Int) ≤ (ln : Int) := by omega
  simp [Instr.sliceBounds, run_sliceBound, Result.andThen, sliced, sizeOf, typeInfo, h1, h3, Addr.add, he, hr]
theorem slice_rest (R q ln rm : Nat) (h : rm ≤ ln) (wx : World) :
    (Instr.sliceAt 32 (.slice (some ⟨R, q, none⟩) ln ln) (some (.int .i64 (rm : Int))) none none).run Try.prog wx = .ok (.slice (some ⟨R, if ln = rm then q else q + rm, none⟩) (ln - rm) (ln - rm)) wx := by
  have he : Try.prog.elem 32 = 3 := by kernel_rfl
  have hu : Try.prog.underlying 32 = some (.slice (Try.prog.elem 32)) := by rw [he]; exact Try.underlying32
  obtain ⟨i, h1, -, h3, -⟩ := info_of (P := Try.prog) (T := 3) (z := .int .i64 0) (a := 1) (b := 8) (by kernel_rfl)
  rw [run_sliceAt_slice _ _ _ _ _ _ hu, run_slice_any _ _ _ _ _ hu]
  have hr : (rm : Int) ≤ (ln : Int) := by omega
  simp [Instr.sliceBounds, run_sliceBound, Result.andThen, sliced, sizeOf, typeInfo, h1, h3, Addr.add, he, hr]
  split
  · rfl
  · by_cases e : rm = 0
    · subst e; rfl
    · simp [e]
set_option maxRecDepth 100000 in
set_option maxHeartbeats 2000000 in
theorem partsOf_any (p : Option Addr) (n : Nat) (M : List Ed) (hn : n ≤ 4096) (hG : GoodN n M) (hM : M.length ≤ 10000) (w : World) (h : NetAt p n M w) :
    Calls Try.prog 29 #[.pointer p] w fun e w' => Below w.heap.size w w' ∧ ∃ b R, e = .returned (.slice (some ⟨b, 0, none⟩) n n) ∧ CutSt w.heap.size b R n M (fun _ => []) w' := by
  have HN := Lib.hid h
  have HG := Lib.hid hG
  have hmk1 : ∀ w : World, (Instr.makeSlice 32 (.int .i64 (2 * (M.length : Int))) (.int .i64 (2 * (M.length : Int)))).run Try.prog w = .ok (.slice (some ⟨w.heap.size, 0, none⟩) (2 * M.length) (2 * M.length)) (w.alloc (.cells (madeCells #[.int .i64 0] (2 * M.length)) 3)) := fun w => by
    rw [show (2 * (M.length : Int)) = ((2 * M.length : Nat) : Int) by omega]
    exact makeRow (P := Try.prog) (T := 32) (E := 3) (z := .int .i64 0) (c := 8) Try.underlying32 (by kernel_rfl) (by decide) rfl _ (by omega) w
  have hmk2 := fun w : World => makeRow (P := Try.prog) (T := 60) (E := 32) (z := .slice none 0 0) (c := 24) Try.underlying60 (by kernel_rfl) (by decide) rfl n (by omega) w
  clear h hG
  go_enter Try.func29, Try.ntmps29
  go_wp2_with fail
  refine (cnt_any p n M w HN.out).mono ?_
  rintro e w1 ⟨rfl, hb1⟩
  have hbA := (Below.refl w1.heap.size w1).alloc (Nat.le_refl _) (.cells (madeCells #[.int .i64 0] (2 * M.length)) 3)
  have HN1 := Lib.hid ((HN.out.over hb1).over hbA)
  have HB1 := Lib.hid (hb1.trans (hbA.mono hb1.size))
  have HS1 := Lib.hid hb1.size
  have HC := Lib.hid (fun (w2 : World) hb => RowSt.start (B := w.heap.size) (n := n) (M := M) (T1 := 3) (T2 := 32) (x := .slice none 0 0) hb1.size w2 hb)
  clear hb1 hbA HN
  go_wp2_with fail
  have HSZ : Hid ((w1.alloc (.cells (madeCells #[.int .i64 0] (2 * M.length)) 3)).heap.size = w1.heap.size + 1) := Lib.hid (by simp)
  generalize w1.alloc (.cells (madeCells #[.int .i64 0] (2 * M.length)) 3) = W1 at *
  refine (num_any p n M W1 HN1.out).mono ?_
  rintro e w2 ⟨rfl, hb2⟩
  have hbB := (Below.refl w2.heap.size w2).alloc (Nat.le_refl _) (.cells (madeCells #[.slice none 0 0] n) 32)
  have HN2 := Lib.hid (fun (wr : World) (h : Below w2.heap.size w2 wr) => (HN1.out.over hb2).over h)
  have HB3 := Lib.hid hbB
  have HB2 : Hid (Below w.heap.size w (w2.alloc (.cells (madeCells #[.slice none 0 0] n) 32))) := Lib.hid ((HB1.out.trans (hb2.mono HB1.out.size)).trans (hbB.mono (Nat.le_trans HB1.out.size hb2.size)))
  have HS : Hid (RowSt w.heap.size w2.heap.size w1.heap.size n M 0 0 (w2.alloc (.cells (madeCells #[.slice none 0 0] n) 32))) := Lib.hid (HC.out w2 (by rw [← HSZ.out]; exact hb2))
  clear hb2 hbB HN1 HB1 HC HSZ HS1
  go_wp2_with fail
  generalize w2.alloc (.cells (madeCells #[.slice none 0 0] n) 32) = W2 at *
  generalize w2.heap.size = b at *
  generalize w1.heap.size = R at *
  clear hmk1 hmk2
  go_loopw [3, 16] (fun r i wr => ∃ v q : Nat, i = .int .i64 v ∧ v ≤ n ∧ r = .slice (some ⟨R, q, none⟩) (2 * M.length - fromN M v) (2 * M.length - fromN M v) ∧ Hid (Below w.heap.size w wr ∧ Below b w2 wr ∧ RowSt w.heap.size b R n M v q wr)) (fun _ i _ => n - (intOf i).toNat)
  case atStart => exact ⟨0, 0, rfl, Nat.zero_le _, rfl, Lib.hid ⟨HB2.out, HB3.out, HS.out⟩⟩
  case round =>
    obtain ⟨v, q, rfl, hv, rfl, HI⟩ := hrel
    clear HB2 HB3 HS
    have i0 : (0 : Int) ≤ (v : Int) := by omega
    by_cases hlt : v < n
    · have i1 : (v : Int) < (n : Int) := by omega
      have HNear := Lib.hid (fun w h => near_any p n M (by omega) (v : Int) w h)
      obtain ⟨rm, hrm⟩ : ∃ rm, roomN M v = rm := ⟨_, rfl⟩
      have hnl : (nearV n M (v : Int)).length = rm := by rw [nearV_eq HG.out]; exact hrm
      unfold IntsOut at HNear
      simp only [hnl] at HNear
      have hfs : fromN M (v + 1) = fromN M v + rm := by rw [← hrm]; rfl
      have hfl := from_le HG.out (v + 1)
      obtain ⟨ln, hln⟩ : ∃ ln, 2 * M.length - fromN M v = ln := ⟨_, rfl⟩
      have hlm : rm ≤ ln := by omega
      have hl2 : 2 * M.length - fromN M (v + 1) = ln - rm := by omega
      have HX := Lib.hid (And.intro hrm (And.intro hfl (And.intro hln hl2)))
      rw [hln]
      clear hnl hfs hfl hrm hln hl2
      go_wp2_with fail
      refine (HNear.out _ (HN2.out _ HI.out.2.1)).mono ?_
      rintro e w3 ⟨hb3, qn, cn, rfl, -⟩
      have HI3 : Hid (Below w.heap.size w w3 ∧ Below b w2 w3 ∧ RowSt w.heap.size b R n M v q w3) := Lib.hid ⟨HI.out.1.trans (hb3.mono HI.out.1.size), HI.out.2.1.trans (hb3.mono (Nat.le_of_lt HI.out.2.2.1.1.2)), HI.out.2.2.keep hb3⟩
      clear hb3 HI HNear
      obtain ⟨q2, hq2⟩ : ∃ q2, (if ln = rm then q else q + rm) = q2 := ⟨_, rfl⟩
      have hs1 := fun wx => slice_room R q ln rm hlm wx
      have hs2 := fun wx => slice_rest R q ln rm hlm wx
      rw [hq2] at hs2
      have HQ : Hid (ln - rm = 0 ∨ q2 = q + rm) := Lib.hid (by rw [← hq2]; split <;> omega)
      clear hq2
      obtain ⟨⟨⟨-, hbl⟩, -, -⟩, -, hcell, -, -⟩ := HI3.out.2.2
      obtain ⟨hc, hf⟩ := hcell v hlt
      obtain ⟨u, hu⟩ := Option.isSome_iff_exists.1 hc
      clear hcell hc
      go_upto_region 7 with fail
      go_region
      all_goals go_wp2_with fail
      all_goals go_roundw
      case rel =>
        obtain ⟨x1, x2, x3, x4⟩ := HX.out
        have hr := HI3.out.2.2.cut hlt x2 (q := q2) (by rw [x3, x1]; exact HQ.out)
        rw [x1] at hr
        have hd : ∀ W : World, Below W.heap.size W W.drew := fun W => (Below.refl _ _).drew
        refine ⟨v + 1, q2, by go_num, hlt, by rw [x4], Lib.hid ⟨((HI3.out.1.setCell (p := ⟨b, v, none⟩) HI3.out.2.2.1.1.1 _)).drew, (HI3.out.2.1.setCell (p := ⟨b, v, none⟩) (Nat.le_refl _) _).drew, hr.keep (hd _)⟩⟩
      case measure => (simp [intOf]; omega)
    · have hvn : v = n := by omega
      subst hvn
      go_wp2
      go_ret
      exact ⟨HI.out.1, b, R, rfl, HI.out.2.2.done (from_le HG.out _)⟩
end Go.Proofs.Ytaoocokcfppmaaa.Cs
