/- Is at a fault within parts: just if it is that error. -/
import Derived.Test.YtlcmdabacoinpaaDoorFaultFind2
import Derived.Lib.IfaceEq
namespace Go.Proofs.YtlcmdabacoinpaaDoor
open Go.RowKit Go.ChangeShapes Go.Extern.Stop Go.Stop Go.Extern
namespace Ft
open Classical in
/-- How many links are left: the measure of the loop of errors.is. -/
noncomputable def isLen (N : Nat) (w : World) (e k : Int) (v : Value) : Nat := if v = .iface 27 (.int .i64 e) then 0 else errLen N w e k v + 1
theorem isLen_end (N : Nat) (w : World) (e k : Int) : isLen N w e k (.iface 27 (.int .i64 e)) = 0 := if_pos rfl
theorem isLen_eq {N : Nat} {w : World} {e k : Int} {ps : List (List UInt8)} {v : Value} (h : ErrAt N w e k ps v) : isLen N w e k v = ps.length + 1 := by
  unfold isLen
  rw [if_neg, errLen_eq h]
  intro hv
  cases ps with
  | nil => obtain ⟨F, _, hv', _⟩ := h; rw [hv] at hv'; cases hv'
  | cons p ps => obtain ⟨F, u, _, hv', _⟩ := h; rw [hv] at hv'; cases hv'
def eqB (a b : Int) : Bool := a == b
theorem eqErrno (a b : Int) (w : World) : (binOp .eql 25 (.iface 27 (.int .i64 a)) (.iface 27 (.int .i64 b))).run Tryd.prog w = .ok (.bool (eqB a b)) w :=
  Lib.run_eql_iface_int (P := Tryd.prog) w a b Tryd.underlying25 (by kernel_rfl) Tryd.underlying27
/-- What is left of the error at the head of a round. -/
def IsRel (N : Nat) (w : World) (e k : Int) (v : Value) : Prop := v = .iface 27 (.int .i64 e) ∨ ∃ qs, ErrAt N w e k qs v
set_option maxRecDepth 1000000 in
set_option maxHeartbeats 1000000 in
theorem isLoop_any {N : Nat} {w : World} {e k : Int} {ps : List (List UInt8)} {v : Value} (h : ErrAt N w e k ps v) (e' : Int) :
    Calls Tryd.prog 31 #[v, .iface 27 (.int .i64 e'), .bool true] w fun x w' => x = .returned (.bool (eqB e e')) ∧ w = w' := by
  have nF := noIsF
  have nP := noIsP
  have nE := noIsE
  have uF := hasUnwrapF
  have uP := hasUnwrapP
  have uE := noUnwrapE
  have uE2 := noUnwrapsE
  have mF := unwrapF
  have mP := unwrapP
  have qF := fun (vx vy : Value) (w : World) => run_eql_iface_types (P := Tryd.prog) 43 27 vx vy Tryd.underlying25 (by decide) w
  have qP := fun (vx vy : Value) (w : World) => run_eql_iface_types (P := Tryd.prog) 46 27 vx vy Tryd.underlying25 (by decide) w
  have qE := eqErrno
  have H0 : Hid (IsRel N w e k v) := Lib.hid (Or.inr ⟨ps, h⟩)
  clear h
  go_enter Tryd.func31, Tryd.ntmps31
  go_wp2
  go_loopw [0] (fun v' wl => w = wl ∧ Hid (IsRel N w e k v')) (fun v' _ => isLen N w e k v')
  case atStart => exact ⟨rfl, H0⟩
  case round =>
    obtain ⟨rfl, HQ⟩ := hrel
    rcases HQ.out with rfl | ⟨qs, hq⟩
    · clear HQ H0
      cases hb : eqB e e' with
      | true =>
        go_wp2
        go_ret
        exact ⟨bool_ret hb.symm, rfl⟩
      | false =>
        go_wp2
        go_ret
        exact ⟨bool_ret hb.symm, rfl⟩
    · have hel := isLen_eq hq
      cases qs with
      | nil =>
        obtain ⟨F, hF, rfl, h0, h1⟩ := hq
        have hl0 := isLen_end N w e k
        have HL : Hid (isLen N w e k (.iface 27 (.int .i64 e)) < isLen N w e k (.iface 43 (.pointer (some ⟨F, 0, none⟩)))) := Lib.hid (by rw [hel, hl0]; simp)
        clear h1 hel hl0 HQ H0
        go_wp2
        go_roundw
        case rel => exact ⟨trivial, Lib.hid (Or.inl rfl)⟩
        case measure => exact HL.out
      | cons p qs =>
        obtain ⟨F, u, hF, rfl, h0, h1, h2⟩ := hq
        obtain ⟨ut, uv, rfl⟩ := h2.iface
        have hel2 := isLen_eq h2
        have HL : Hid (isLen N w e k (.iface ut uv) < isLen N w e k (.iface 46 (.pointer (some ⟨F, 0, none⟩)))) := Lib.hid (by rw [hel, hel2]; simp)
        have H2 : Hid (IsRel N w e k (.iface ut uv)) := Lib.hid (Or.inr ⟨qs, h2⟩)
        clear h2 hel hel2 HQ H0 h0
        go_wp2
        go_roundw
        case rel => exact ⟨trivial, H2⟩
        case measure => exact HL.out
theorem isComparable (w : World) : ((ReflectliteType.method fun t => do Rtype.noPackHeld "Comparable" t; pure (.bool (← typeInfo t).comparable)) #[.agg #[han 27]]).run Tryd.prog w = .ok (.bool true) w := by kernel_rfl
theorem callComparable (w : World) : (callFunc 84 #[.agg #[han 27]]).run Tryd.prog w = .ok (Next.value (.bool true)) w :=
  (@run_callFunc_extern Tryd.prog 84 _ (ReflectliteType.method fun t => do Rtype.noPackHeld "Comparable" t; pure (.bool (← typeInfo t).comparable)) Tryd.func84 (by kernel_rfl) (by kernel_rfl) (by kernel_rfl) (by kernel_rfl) _ w).trans (by rw [isComparable]; rfl)
set_option maxRecDepth 1000000 in
set_option maxHeartbeats 1000000 in
theorem isErr_any {N : Nat} {w : World} {e k : Int} {ps : List (List UInt8)} {v : Value} (h : ErrAt N w e k ps v) (e' : Int) :
    Calls Tryd.prog 21 #[v, .iface 27 (.int .i64 e')] w fun x w' => x = .returned (.bool (eqB e e')) ∧ w = w' := by
  have h30 := @run_callFunc_extern Tryd.prog 30 _ ReflectliteType.typeOf Tryd.func30 (by kernel_rfl) (by kernel_rfl) (by kernel_rfl) (by kernel_rfl)
  have tE := typeOfE
  have cE := callComparable
  have mC := methodComparable
  have HA := Lib.hid (isLoop_any h e')
  obtain ⟨vt, vu, rfl⟩ := h.iface
  clear h
  go_enter Tryd.func21, Tryd.ntmps21
  go_wp2_with fail
  refine HA.out.mono ?_
  rintro x w' ⟨rfl, rfl⟩
  go_wp2
  go_ret
  exact ⟨rfl, rfl⟩
set_option maxHeartbeats 1000000 in
/-- Is: just if it is that error, e' not OK. -/
theorem is_any {N : Nat} {w : World} {e k : Int} {ps : List (List UInt8)} {v : Value} (h : ErrAt N w e k ps v) (e' : Int) (he : e' ≠ 0) :
    Calls Tryd.prog 11 #[v, .int .i64 e'] w fun x w' => x = .returned (.bool (eqB e e')) ∧ w = w' := by
  have HA := Lib.hid (isErr_any h e')
  have t : (e' != 0) = true := by simpa using he
  clear h he
  go_enter_defers Tryd.func11, Tryd.ntmps11
  go_wp2_with fail
  refine HA.out.mono ?_
  rintro x w' ⟨rfl, rfl⟩
  go_wp2
  refine leaves_cons (f := 20) (args := #[]) (by simp) (by simp [go_sem]) ?_
  refine (idleI _).mono ?_
  rintro e u' w3 ⟨rfl, rfl, rfl⟩
  exact ⟨.bool (eqB _ e'), by simp [results, Tryd.results11, go_sem], rfl, rfl⟩
end Ft
end Go.Proofs.YtlcmdabacoinpaaDoor
