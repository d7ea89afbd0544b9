/- Contracts of a row of buckets' room, at, Label, Count, Len, at every argument. -/
import Derived.Test.YthiabjmnbkhehaaDoorBkMem
namespace Go.Proofs.YthiabjmnbkhehaaDoor
open Go.RowKit Go.ChangeShapes BkPure
def atS (M : Mb) (v : Int) : Int × Int × Int := if 0 ≤ v ∧ v < (M.S.length : Int) then M.S.getD v.toNat out3 else out3
theorem atS_no {M : Mb} {v : Int} (h : ¬ (0 ≤ v ∧ v < (M.S.length : Int))) : atS M v = out3 := if_neg h
theorem atS_of {M : Mb} {u : Nat} {s : Int × Int × Int} (h : M.S[u]? = some s) : atS M (u : Int) = s := by
  have hl := (List.getElem?_eq_some_iff.1 h).1
  unfold atS
  rw [if_pos ⟨by omega, by omega⟩, Int.toNat_natCast, List.getD_eq_getElem?_getD, h]; rfl
def encS3 (s : Int × Int × Int) : Value := .agg #[.int .i64 s.1, .int .i64 s.2.1, .int .i64 s.2.2]
theorem room_nil (w : World) :
    Calls Tryd.prog 19 #[.pointer none] w fun e w' => e = .returned (.int .i64 0) ∧ w = w' := by
  go_enter Tryd.func19, Tryd.ntmps19
  go_wp2
  go_ret
  exact ⟨rfl, rfl⟩
theorem len_nil (w : World) :
    Calls Tryd.prog 17 #[.pointer none] w fun e w' => e = .returned (.int .i64 0) ∧ w = w' := by
  go_enter Tryd.func17, Tryd.ntmps17
  go_wp2
  go_ret
  exact ⟨rfl, rfl⟩
theorem count_nil (l : Int) (w : World) :
    Calls Tryd.prog 15 #[.pointer none, .int .i64 l] w fun e w' => e = .returned (.int .i64 0) ∧ w = w' := by
  go_enter Tryd.func15, Tryd.ntmps15
  go_wp2
  go_ret
  exact ⟨rfl, rfl⟩
section
variable {B : Bl} {M : Mb}
theorem room_run (W : World) (h : BkM B M W) :
    Calls Tryd.prog 19 #[.pointer (some ⟨B.b, 0, none⟩)] W fun e W' => e = .returned (.int .i64 (M.S.length : Int)) ∧ W = W' := by
  obtain ⟨⟨-, c1, -⟩, -, ⟨hb, -⟩, -⟩ := h.cells
  clear h
  go_enter Tryd.func19, Tryd.ntmps19
  go_wp2
  go_ret
  exact ⟨rfl, rfl⟩
theorem lenM_run (W : World) (h : BkM B M W) :
    Calls Tryd.prog 17 #[.pointer (some ⟨B.b, 0, none⟩)] W fun e W' => e = .returned (.int .i64 M.inn) ∧ W = W' := by
  obtain ⟨⟨-, -, c2, -⟩, -, ⟨hb, -⟩, -⟩ := h.cells
  clear h
  go_enter Tryd.func17, Tryd.ntmps17
  go_wp2
  go_ret
  exact ⟨rfl, rfl⟩
/-- A result's place of three parts: what a call that lays it leaves. -/
theorem below_three {w : World} {T : TypeId} (a b c : Int) : Below w.heap.size w (w.alloc (.cells #[.int .i64 a, .int .i64 b, .int .i64 c] T)) := (Below.refl _ w).alloc (Nat.le_refl _) _
theorem at_nil (v : Int) (w : World) (h : GlobAt w) :
    Calls Tryd.prog 20 #[.pointer none, .int .i64 v] w fun e w' => e = .returned (encS3 out3) ∧ Below w.heap.size w w' := by
  obtain ⟨-, o0, o1, o2⟩ := h
  have l1 : 1 < w.heap.size := World.block_lt_of_cell? w _ o0
  have HB := Lib.hid (fun T => below_three (w := w) (T := T) (-1) (-1) (-1))
  have n1 : 1 ≠ w.heap.size := by omega
  by_cases a : v < 0
  · go_enter Tryd.func20, Tryd.ntmps20
    go_wp2_with (first | (go_at_call 19; refine (room_nil _).mono ?_; rintro e w' ⟨rfl, rfl⟩))
    exact bodyPost_ret (v := encS3 out3) (by simp [results, Tryd.results20, go_sem, encS3, out3]) rfl ⟨rfl, HB.out _⟩
  · have a1 : v ≥ 0 := by omega
    go_enter Tryd.func20, Tryd.ntmps20
    go_wp2_with (first | (go_at_call 19; refine (room_nil _).mono ?_; rintro e w' ⟨rfl, rfl⟩))
    exact bodyPost_ret (v := encS3 out3) (by simp [results, Tryd.results20, go_sem, encS3, out3]) rfl ⟨rfl, HB.out _⟩
set_option maxHeartbeats 1000000 in
theorem at_run (v : Int) (W : World) (h : BkM B M W) :
    Calls Tryd.prog 20 #[.pointer (some ⟨B.b, 0, none⟩), .int .i64 v] W fun e W' => e = .returned (encS3 (atS M v)) ∧ Below W.heap.size W W' := by
  have H := Lib.hid (fun o => h.keep ((Below.refl _ W).alloc (Nat.le_refl _) o))
  obtain ⟨⟨-, c1, -⟩, -, ⟨hb, -, hS⟩, -⟩ := h.cells
  obtain ⟨-, o0, o1, o2⟩ := h.glob
  have l1 := h.lts.2
  have n1 : 1 ≠ W.heap.size := by omega
  have n2 : B.b ≠ W.heap.size := by omega
  have n3 : B.gS ≠ W.heap.size := by omega
  by_cases a : v < 0
  · have HE : Hid (atS M v = out3) := Lib.hid (atS_no (by omega))
    have HB := Lib.hid (fun T => below_three (w := W) (T := T) (-1) (-1) (-1))
    clear h
    go_enter Tryd.func20, Tryd.ntmps20
    go_wp2_with (first | (go_at_call 19; refine (room_run _ (H.out _)).mono ?_; rintro e w' ⟨rfl, rfl⟩))
    exact bodyPost_ret (v := encS3 out3) (by simp [results, Tryd.results20, go_sem, encS3, out3]) rfl ⟨by rw [HE.out], HB.out _⟩
  have a1 : v ≥ 0 := by omega
  obtain ⟨u, rfl⟩ := Int.eq_ofNat_of_zero_le a1
  by_cases d : u < M.S.length
  · obtain ⟨s, hs⟩ : ∃ s, M.S[u]? = some s := ⟨_, List.getElem?_eq_getElem d⟩
    have HE : Hid (atS M (u : Int) = s) := Lib.hid (atS_of hs)
    obtain ⟨⟨s0, s1, s2⟩, -⟩ := h.getS hs
    have d1 : ¬ (u : Int) ≥ (M.S.length : Int) := by omega
    have d2 : (u : Int) < (M.S.length : Int) := by omega
    have HB := Lib.hid (fun T => below_three (w := W) (T := T) s.1 s.2.1 s.2.2)
    clear h hs d
    obtain ⟨x0, x1, x2⟩ := s
    simp only at s0 s1 s2 HB
    go_enter Tryd.func20, Tryd.ntmps20
    go_wp2_with (first | (go_at_call 19; refine (room_run _ (H.out _)).mono ?_; rintro e w' ⟨rfl, rfl⟩))
    exact bodyPost_ret (v := .agg #[.int .i64 x0, .int .i64 x1, .int .i64 x2]) (by simp [results, Tryd.results20, go_sem]) rfl ⟨by rw [HE.out]; rfl, HB.out _⟩
  · have HE : Hid (atS M (u : Int) = out3) := Lib.hid (atS_no (by omega))
    have d1 : (u : Int) ≥ (M.S.length : Int) := by omega
    have HB := Lib.hid (fun T => below_three (w := W) (T := T) (-1) (-1) (-1))
    clear h d
    go_enter Tryd.func20, Tryd.ntmps20
    go_wp2_with (first | (go_at_call 19; refine (room_run _ (H.out _)).mono ?_; rintro e w' ⟨rfl, rfl⟩))
    exact bodyPost_ret (v := encS3 out3) (by simp [results, Tryd.results20, go_sem, encS3, out3]) rfl ⟨by rw [HE.out], HB.out _⟩
theorem label_nil (v : Int) (w : World) (h : GlobAt w) :
    Calls Tryd.prog 14 #[.pointer none, .int .i64 v] w fun e w' => e = .returned (.int .i64 (-1)) ∧ Below w.heap.size w w' := by
  have H := Lib.hid h
  have hfd : ∀ (s : Int × Int × Int) (w : World), (Instr.field 49 (encS3 s) 0).run Tryd.prog w = .ok (.int .i64 s.1) w := fun _ _ => rfl
  clear h
  go_enter Tryd.func14, Tryd.ntmps14
  go_wp2_with (first | (go_at_call 20; refine (at_nil _ _ H.out).mono ?_; rintro e w' ⟨rfl, hb⟩; have HB := Lib.hid hb; clear hb))
  go_ret
  exact ⟨rfl, HB.out⟩
theorem labelM_run (v : Int) (W : World) (h : BkM B M W) :
    Calls Tryd.prog 14 #[.pointer (some ⟨B.b, 0, none⟩), .int .i64 v] W fun e W' => e = .returned (.int .i64 (atS M v).1) ∧ Below W.heap.size W W' := by
  have H := Lib.hid h
  have hfd : ∀ (s : Int × Int × Int) (w : World), (Instr.field 49 (encS3 s) 0).run Tryd.prog w = .ok (.int .i64 s.1) w := fun _ _ => rfl
  clear h
  go_enter Tryd.func14, Tryd.ntmps14
  go_wp2_with (first | (go_at_call 20; refine (at_run _ _ H.out).mono ?_; rintro e w' ⟨rfl, hb⟩; have HB := Lib.hid hb; clear hb))
  go_ret
  exact ⟨rfl, HB.out⟩
theorem countM_run (l : Int) (W : World) (h : BkM B M W) :
    Calls Tryd.prog 15 #[.pointer (some ⟨B.b, 0, none⟩), .int .i64 l] W fun e W' => e = .returned (.int .i64 (if 0 ≤ l ∧ l < (M.F.length : Int) then (M.F.getD l.toNat (-1, 0)).2 else 0)) ∧ W = W' := by
  obtain ⟨⟨c0, -⟩, -, ⟨hb, hL, -⟩, -⟩ := h.cells
  by_cases a : l < 0
  · have HE := Lib.hid (if_neg (by omega) : (if 0 ≤ l ∧ l < (M.F.length : Int) then (M.F.getD l.toNat (-1, 0)).2 else 0) = 0)
    clear h
    generalize (if 0 ≤ l ∧ l < (M.F.length : Int) then (M.F.getD l.toNat (-1, 0)).2 else 0) = r at *
    go_enter Tryd.func15, Tryd.ntmps15
    go_wp2
    go_ret
    exact ⟨ret_i HE.out.symm, rfl⟩
  have a1 : 0 ≤ l := by omega
  obtain ⟨u, rfl⟩ := Int.eq_ofNat_of_zero_le a1
  by_cases d : u < M.F.length
  · obtain ⟨s, hs⟩ : ∃ s, M.F[u]? = some s := ⟨_, List.getElem?_eq_getElem d⟩
    have HE : Hid ((if 0 ≤ (u : Int) ∧ (u : Int) < (M.F.length : Int) then (M.F.getD (u : Int).toNat (-1, 0)).2 else 0) = s.2) := Lib.hid (by
      rw [if_pos ⟨by omega, by omega⟩, Int.toNat_natCast, List.getD_eq_getElem?_getD, hs]; rfl)
    generalize (if 0 ≤ (u : Int) ∧ (u : Int) < (M.F.length : Int) then (M.F.getD (u : Int).toNat (-1, 0)).2 else 0) = r at *
    obtain ⟨⟨s0, s1⟩, -⟩ := h.getF hs
    have d1 : ¬ (u : Int) ≥ (M.F.length : Int) := by omega
    have d2 : (u : Int) < (M.F.length : Int) := by omega
    clear h hs d
    go_enter Tryd.func15, Tryd.ntmps15
    go_wp2
    go_ret
    exact ⟨ret_i HE.out.symm, rfl⟩
  · have HE := Lib.hid (if_neg (by omega) : (if 0 ≤ (u : Int) ∧ (u : Int) < (M.F.length : Int) then (M.F.getD (u : Int).toNat (-1, 0)).2 else 0) = 0)
    generalize (if 0 ≤ (u : Int) ∧ (u : Int) < (M.F.length : Int) then (M.F.getD (u : Int).toNat (-1, 0)).2 else 0) = r at *
    have d1 : (u : Int) ≥ (M.F.length : Int) := by omega
    clear h d
    go_enter Tryd.func15, Tryd.ntmps15
    go_wp2
    go_ret
    exact ⟨ret_i HE.out.symm, rfl⟩
end
section
variable {B : Bl} {N : Nat} {D : List (Nat × Nat)}
theorem at_lab {M : Mb} (h : GoodB N D M) (v : Int) : (atS M v).1 = labD D v ∧ (labD D v = -1 → atS M v = out3) := by
  have hl := h.2.2.1
  by_cases a : 0 ≤ v ∧ v < (N : Int)
  · obtain ⟨u, rfl⟩ := Int.eq_ofNat_of_zero_le a.1
    obtain ⟨x, z, hs, hz⟩ := good_seat h (v := u) (by omega)
    rw [atS_of hs]
    exact ⟨rfl, fun e => by obtain ⟨rfl, rfl⟩ := hz e; rw [e]; rfl⟩
  · have hn : labD D v = -1 := by
      rcases lab_cases D v with ⟨e, -⟩ | ⟨u, L, e, -, hm⟩
      · exact e
      · have := (h.1.2 _ hm).1
        exact absurd ⟨by omega, by simp at this; omega⟩ a
    rw [atS_no (by omega), hn]
    exact ⟨rfl, fun _ => rfl⟩
theorem label_run (v : Int) (W : World) (h : BkAt B N D W) :
    Calls Tryd.prog 14 #[.pointer (some ⟨B.b, 0, none⟩), .int .i64 v] W fun e W' => e = .returned (.int .i64 (labD D v)) ∧ Below W.heap.size W W' := by
  obtain ⟨-, M, h1, h2⟩ := h
  rw [← (at_lab h2 v).1]
  exact labelM_run v W h1
theorem len_run (W : World) (h : BkAt B N D W) :
    Calls Tryd.prog 17 #[.pointer (some ⟨B.b, 0, none⟩)] W fun e W' => e = .returned (.int .i64 (D.length : Int)) ∧ W = W' := by
  obtain ⟨-, M, h1, h2⟩ := h
  rw [← h2.2.2.2.1]
  exact lenM_run W h1
theorem count_run (l : Int) (W : World) (h : BkAt B N D W) :
    Calls Tryd.prog 15 #[.pointer (some ⟨B.b, 0, none⟩), .int .i64 l] W fun e W' => e = .returned (.int .i64 (cntD D l : Int)) ∧ W = W' := by
  obtain ⟨-, M, h1, h2⟩ := h
  have e : (if 0 ≤ l ∧ l < (M.F.length : Int) then (M.F.getD l.toNat (-1, 0)).2 else 0) = (cntD D l : Int) := by
    have hl := h2.2.1
    by_cases a : 0 ≤ l ∧ l < (M.F.length : Int)
    · obtain ⟨u, rfl⟩ := Int.eq_ofNat_of_zero_le a.1
      rw [if_pos a, Int.toNat_natCast, List.getD_eq_getElem?_getD, good_list h2 (L := u) (by omega)]; rfl
    · rw [if_neg a]
      have : cntD D l = 0 := by
        unfold cntD
        rw [List.countP_eq_zero]
        intro p hp
        have := (h2.1.2 p hp).2
        simp
        omega
      rw [this]; rfl
  rw [← e]
  exact countM_run l W h1
end
end Go.Proofs.YthiabjmnbkhehaaDoor
