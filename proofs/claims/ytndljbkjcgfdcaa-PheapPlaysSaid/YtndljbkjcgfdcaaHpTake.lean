/- Contracts of the trees' take, plant, fell, and of the heap's ahead, at every argument that they may have. -/
import Derived.Test.YtndljbkjcgfdcaaHpHang
namespace Go.Proofs.Ytndljbkjcgfdcaa
open Go.RowKit Go.ChangeShapes NdPure HpPure
def restN (S : St) (l : Int) : Int := if l = -1 then -1 else (atV S l).next
theorem field_nd2 (x0 x1 x2 x3 : Int) (w : World) : (Instr.field 47 (.agg #[.int .i64 x0, .int .i64 x1, .int .i64 x2, .int .i64 x3]) 2).run Try.prog w = .ok (.int .i64 x2) w := by
  first | rfl | kernel_rfl
theorem field_nd0 (x0 x1 x2 x3 : Int) (w : World) : (Instr.field 47 (.agg #[.int .i64 x0, .int .i64 x1, .int .i64 x2, .int .i64 x3]) 0).run Try.prog w = .ok (.int .i64 x0) w := by
  first | rfl | kernel_rfl
section
variable {O : Nat → Prop} {B : Bl} {w0 : World} {M : Hp}
set_option maxHeartbeats 1000000 in
theorem take_run (W : World) (l : Int) (h : Hs O B w0 M W) :
    Calls Try.prog 42 #[.pointer (some ⟨B.b, 0, none⟩), .int .i64 l] W fun e W' => e = .returned (.tuple #[.int .i64 l, .int .i64 (restN M.S l)]) ∧ Below W.heap.size W W' := by
  by_cases hl : l = -1
  · subst hl
    go_enter Try.func42, Try.ntmps42
    go_wp2
    go_ret2
    exact ⟨rfl, Below.refl _ _⟩
  · have H := Lib.hid h
    have HR : Hid (restN M.S l = (atV M.S l).next) := Lib.hid (if_neg hl)
    have e1 : (l == -1) = false := by simpa using hl
    clear h hl
    generalize hX : atV M.S l = X at *
    have HX := Lib.hid hX
    clear hX
    obtain ⟨x0, x1, x2, x3⟩ := X
    go_enter Try.func42, Try.ntmps42
    go_wp2_with fail
    refine (atT_run _ l H.out).mono ?_
    rintro e w2 ⟨rfl, hb2⟩
    rw [HX.out]
    have H2 := Lib.hid hb2
    clear hb2 H
    unfold encNd
    simp only
    have hfd := field_nd2
    go_wp2
    go_ret2
    exact ⟨by rw [HR.out]; rfl, H2.out⟩
set_option maxHeartbeats 1000000 in
theorem plant_run (W : World) (v : Int) (h : Hs O B w0 M W) :
    Calls Try.prog 30 #[.pointer (some ⟨B.b, 0, none⟩), .int .i64 v] W fun e W' => e = .returned (.int .i64 (giveN M.C.length M.S)) ∧ Hs O B w0 (M.withS (plantS M.C.length M.S v)) W' := by
  have H := Lib.hid h
  obtain ⟨⟨c0, -⟩, -, ⟨hb, -⟩, -⟩ := h.cells
  clear h
  go_enter Try.func30, Try.ntmps30
  go_wp2_with fail
  refine (giveA_run _ ⟨v, -1, 0, 0⟩ H.out).mono ?_
  rintro e w2 ⟨rfl, h2⟩
  have H2 := Lib.hid h2
  clear h2 H
  go_wp2
  go_ret
  exact ⟨rfl, H2.out⟩
set_option maxHeartbeats 1000000 in
theorem fell_run (W : World) (t : Int) (h : Hs O B w0 M W) :
    Calls Try.prog 35 #[.pointer (some ⟨B.b, 0, none⟩), .int .i64 t] W fun e W' => e = .returned (.int .i64 (atV M.S t).below) ∧ Hs O B w0 (M.withS (freeS M.S t)) W' := by
  have H := Lib.hid h
  obtain ⟨⟨c0, -⟩, -, ⟨hb, -⟩, -⟩ := h.cells
  clear h
  generalize hX : atV M.S t = X at *
  have HX := Lib.hid hX
  clear hX
  obtain ⟨x0, x1, x2, x3⟩ := X
  go_enter Try.func35, Try.ntmps35
  go_wp2_with fail
  refine (freeA_run _ t H.out).mono ?_
  rintro e w2 ⟨rfl, h2⟩
  rw [HX.out]
  have H2 := Lib.hid (h2.alloc (boxNd ⟨x0, x1, x2, x3⟩ 47))
  clear h2 H
  unfold encNd
  simp only
  go_wp2
  go_ret
  exact ⟨rfl, H2.out⟩
/-- The value that a method value of the heap's is. -/
def aheadV (B : Bl) : Value := .func (.func 36) #[.pointer (some ⟨B.b, 0, none⟩)] #[]
set_option maxHeartbeats 2000000 in
theorem ahead_run (W : World) (u v : Int) (h : Hs O B w0 M W) (hu : 0 ≤ u) (hu1 : u < (M.C.length : Int)) (hv : 0 ≤ v) (hv1 : v < (M.C.length : Int)) :
    Calls Try.prog 36 #[.pointer (some ⟨B.b, 0, none⟩), .int .i64 u, .int .i64 v] W fun e W' => e = .returned (.bool (aheadB M.Y u v)) ∧ ∃ m, W' = W.drewN m := by
  obtain ⟨x, rfl⟩ := Int.eq_ofNat_of_zero_le hu
  obtain ⟨y, rfl⟩ := Int.eq_ofNat_of_zero_le hv
  have hy := h.good.2.2
  obtain ⟨⟨-, -, -, c3, -⟩, -, ⟨hb, -, hk⟩, -⟩ := h.cells
  obtain ⟨e0, -⟩ := h.getY (i := x) (by omega)
  obtain ⟨e1, -⟩ := h.getY (i := y) (by omega)
  have k0 : keyAt M.Y (x : Int) = M.Y[x]'(by omega) := by unfold keyAt; rw [Int.toNat_natCast, List.getD_eq_getElem?_getD, List.getElem?_eq_getElem]; rfl
  have k1 : keyAt M.Y (y : Int) = M.Y[y]'(by omega) := by unfold keyAt; rw [Int.toNat_natCast, List.getD_eq_getElem?_getD, List.getElem?_eq_getElem]; rfl
  have HF : Hid (aheadB M.Y (x : Int) (y : Int) = (decide (M.Y[y]'(by omega) < M.Y[x]'(by omega)) || (decide (M.Y[x]'(by omega) = M.Y[y]'(by omega)) && decide ((x : Int) < (y : Int))))) := Lib.hid (by unfold aheadB; rw [k0, k1])
  clear k0 k1 h
  have a0 : (0 : Int) ≤ (x : Int) := by omega
  have a1 : (0 : Int) ≤ (y : Int) := by omega
  generalize M.Y[x]'(by omega) = p at *
  generalize M.Y[y]'(by omega) = q at *
  clear hy
  by_cases hc : p = q
  · subst hc
    have t : (p != p) = false := bne_self_eq_false _
    go_enter Try.func36, Try.ntmps36
    go_wp2
    go_quiet (fail)
    go_wp2
    go_ret
    exact ⟨bool_ret (by rw [HF.out]; simp), _, rfl⟩
  · have t : (p != q) = true := by simpa using hc
    go_enter Try.func36, Try.ntmps36
    go_wp2
    go_quiet (fail)
    go_wp2
    go_quiet (fail)
    go_wp2
    go_ret
    exact ⟨bool_ret (by rw [HF.out]; simp [hc]), _, by first | rfl | exact World.drewN_drewN _ _ _⟩
end
end Go.Proofs.Ytndljbkjcgfdcaa
