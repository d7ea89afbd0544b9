/- What find answers of a fault within parts: the fault itself; the outermost part, or none. Its deferred function finds nothing to take back. -/
import Derived.Test.YtlcmdabacoinpaaDoorFaultAsP
import Derived.Defers
import Derived.Recover
import Derived.BigRegion
namespace Go.Proofs.YtlcmdabacoinpaaDoor
open Go.RowKit Go.ChangeShapes Go.Extern.Stop Go.Stop Go.Extern
namespace Ft
set_option maxRecDepth 1000000 in
set_option maxHeartbeats 1000000 in
/-- errors.As, the target an *inPart, as errors.as answers. -/
theorem asTop_part {w : World} (vt : TypeId) (vu : Value) (t : Addr) (old : Value) (b : Bool) (Q : World → Prop)
    (hg : w.cell? ⟨0, 0, none⟩ = some (.iface 85 (.agg #[.pointer (some ⟨5, 25, none⟩)]))) (ht : w.cell? t = some old) (hf : w.frozen? t = false)
    (HA : ∀ W, Below w.heap.size w W → W.cell? ⟨w.heap.size, 0, none⟩ = some (.pointer (some t)) → Calls Tryd.prog 37 #[.iface vt vu, .iface 59 (.pointer (some t)), val 59 ⟨w.heap.size, 0, none⟩ 150, .iface 85 (.agg #[han 46])] W fun x w' => x = .returned (.bool b) ∧ Q w') :
    Calls Tryd.prog 25 #[.iface vt vu, .iface 59 (.pointer (some t))] w fun x w' => x = .returned (.bool b) ∧ Q w' := by
  have h34 := @run_callFunc_extern Tryd.prog 34 _ (fun args => ReflectliteValue.unpack (args.getD 0 (.tuple #[]))) Tryd.func34 (by kernel_rfl) (by kernel_rfl) (by kernel_rfl) (by kernel_rfl)
  have h35 := @run_callFunc_extern Tryd.prog 35 _ (ReflectliteValue.methodAny (ReflectliteValue.valueError "reflectlite.Value.Type" 0) (fun t _ _ _ => ReflectliteType.toType t)) Tryd.func35 (by kernel_rfl) (by kernel_rfl) (by kernel_rfl) (by kernel_rfl)
  have h36 := @run_callFunc_extern Tryd.prog 36 _ (ReflectliteValue.method (ReflectliteValue.valueError "reflectlite.Value.IsNil" 0) ReflectliteValue.isNil) Tryd.func36 (by kernel_rfl) (by kernel_rfl) (by kernel_rfl) (by kernel_rfl)
  have h70 := @run_callFunc_extern Tryd.prog 70 _ (ReflectliteType.abiMethod fun t => do pure (.int .u8 (← Rtype.kind t))) Tryd.func70 (by kernel_rfl) (by kernel_rfl) (by kernel_rfl) (by kernel_rfl)
  have h85 := @run_callFunc_extern Tryd.prog 85 _ (ReflectliteType.method ReflectliteType.elem) Tryd.func85 (by kernel_rfl) (by kernel_rfl) (by kernel_rfl) (by kernel_rfl)
  have h86 := @run_callFunc_extern Tryd.prog 86 _ (ReflectliteType.relation "Implements" ReflectliteType.implements_) Tryd.func86 (by kernel_rfl) (by kernel_rfl) (by kernel_rfl) (by kernel_rfl)
  have vF := valueOfPP
  have tF := typePP
  have mK := methodKind
  have mE := methodElem
  have mI := methodImplements
  have k1 := kindPP
  have k2 := kindP
  have eF := elemPP
  have iF := implP
  have b2 : Below w.heap.size w ((w.alloc (.cells #[.pointer (some t)] 59)).alloc (.cells #[.pointer (some ⟨5, 59, none⟩), .pointer (some ⟨w.heap.size, 0, none⟩), .int .u64 150] 76)) := ((Below.refl _ _).alloc (Nat.le_refl _) _).alloc (by simp) _
  have hlg := World.block_lt_of_cell? w _ hg
  have hc : ((w.alloc (.cells #[.pointer (some t)] 59)).alloc (.cells #[.pointer (some ⟨5, 59, none⟩), .pointer (some ⟨w.heap.size, 0, none⟩), .int .u64 150] 76)).cell? ⟨w.heap.size, 0, none⟩ = some (.pointer (some t)) := by
    rw [World.cell?_alloc_lt _ _ ⟨w.heap.size, 0, none⟩ (by simp)]; simp
  have n8 := isNilPP ⟨w.heap.size, 0, none⟩ t _ hc
  have hg2 := (b2.cell (p := ⟨0, 0, none⟩) (by exact hlg)).trans hg
  have HC := Lib.hid (HA _ b2 hc)
  clear hc hg ht hf b2 HA
  go_enter Tryd.func25, Tryd.ntmps25
  go_wp2_with fail
  refine HC.out.mono ?_
  rintro x w' ⟨rfl, hx⟩
  have HX := Lib.hid hx
  clear hx HC
  go_wp2
  go_ret
  exact ⟨rfl, HX.out⟩
theorem idleF (w : World) : CallsD Tryd.prog 24 #[] .returning w fun e u' w' => e = .returned (.tuple #[]) ∧ u' = .returning ∧ w' = w := by
  refine callsD_of_wpS Tryd.func24 rfl fun c₀ cs hu => ?_
  apply wpS_region
  cases c₀
  simp_all [wpOpsS, go_sem, recoverD, Tryd.ntmps24, Exit.thenS, bodyPostS, results, Tryd.results24]
theorem idleP (w : World) : CallsD Tryd.prog 26 #[] .returning w fun e u' w' => e = .returned (.tuple #[]) ∧ u' = .returning ∧ w' = w := by
  refine callsD_of_wpS Tryd.func26 rfl fun c₀ cs hu => ?_
  apply wpS_region
  cases c₀
  simp_all [wpOpsS, go_sem, recoverD, Tryd.ntmps26, Exit.thenS, bodyPostS, results, Tryd.results26]
theorem idleI (w : World) : CallsD Tryd.prog 20 #[] .returning w fun e u' w' => e = .returned (.tuple #[]) ∧ u' = .returning ∧ w' = w := by
  refine callsD_of_wpS Tryd.func20 rfl fun c₀ cs hu => ?_
  apply wpS_region
  cases c₀
  simp_all [wpOpsS, go_sem, recoverD, Tryd.ntmps20, Exit.thenS, bodyPostS, results, Tryd.results20]
end Ft
end Go.Proofs.YtlcmdabacoinpaaDoor
