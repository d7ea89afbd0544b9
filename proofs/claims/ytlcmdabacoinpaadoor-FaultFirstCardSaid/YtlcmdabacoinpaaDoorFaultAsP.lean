/- errors.As at a fault within parts, the target an *inPart: the outermost part is found at once; of a fault within none there is none. -/
import Derived.Test.YtlcmdabacoinpaaDoorFaultAsF
import Derived.Test.YtlcmdabacoinpaaDoorFaultAs2
namespace Go.Proofs.YtlcmdabacoinpaaDoor
open Go.RowKit Go.ChangeShapes Go.Extern.Stop Go.Stop Go.Extern
namespace Ft
set_option maxRecDepth 1000000 in
set_option maxHeartbeats 1000000 in
theorem as_part (F : Nat) (w : World) (a t : Addr) (old : Value) (ha : w.cell? a = some (.pointer (some t))) (ht : w.cell? t = some old) (hf : w.frozen? t = false) :
    Calls Tryd.prog 37 #[.iface 46 (.pointer (some ⟨F, 0, none⟩)), .iface 59 (.pointer (some t)), val 59 a 150, .iface 85 (.agg #[han 46])] w fun x w' => x = .returned (.bool true) ∧ ∃ W, Below w.heap.size w W ∧ w' = W.setCell t (.pointer (some ⟨F, 0, none⟩)) := by
  have h30 := @run_callFunc_extern Tryd.prog 30 _ ReflectliteType.typeOf Tryd.func30 (by kernel_rfl) (by kernel_rfl) (by kernel_rfl) (by kernel_rfl)
  have h83 := @run_callFunc_extern Tryd.prog 83 _ (ReflectliteType.relation "AssignableTo" ReflectliteType.assignableTo) Tryd.func83 (by kernel_rfl) (by kernel_rfl) (by kernel_rfl) (by kernel_rfl)
  have h41 := @run_callFunc_extern Tryd.prog 41 _ (ReflectliteValue.method (ReflectliteValue.valueError "reflectlite.Value.Elem" 0) ReflectliteValue.elem) Tryd.func41 (by kernel_rfl) (by kernel_rfl) (by kernel_rfl) (by kernel_rfl)
  have h34 := @run_callFunc_extern Tryd.prog 34 _ (fun args => ReflectliteValue.unpack (args.getD 0 (.tuple #[]))) Tryd.func34 (by kernel_rfl) (by kernel_rfl) (by kernel_rfl) (by kernel_rfl)
  have h42 := @run_callFunc_extern Tryd.prog 42 _ ReflectliteValue.set Tryd.func42 (by kernel_rfl) (by kernel_rfl) (by kernel_rfl) (by kernel_rfl)
  have mA := methodAssignableTo
  have tP := typeOfP
  have aP := asPP
  have vP := valueOfP
  have hla := World.block_lt_of_cell? w _ ha
  have hlt := World.block_lt_of_cell? w _ ht
  have ha1 : ∀ o : Obj, (w.alloc o).cell? a = some (.pointer (some t)) := fun o => by rw [World.cell?_alloc_lt _ _ a hla]; exact ha
  have el := elemVPP a t (w.alloc (.cells #[.pointer (some ⟨5, 59, none⟩), .pointer (some a), .int .u64 150] 76)) (ha1 _)
  have st := setP t ⟨w.heap.size + 1, 0, none⟩ ⟨F, 0, none⟩ old ((w.alloc (.cells #[.pointer (some ⟨5, 59, none⟩), .pointer (some a), .int .u64 150] 76)).alloc (.cells #[.pointer (some ⟨F, 0, none⟩)] 46))
    (by rw [World.cell?_alloc_at _ _ _ _ (by simp)]; rfl)
    (by rw [World.cell?_alloc_lt _ _ t (by simp; omega), World.cell?_alloc_lt _ _ t hlt]; exact ht)
    (by rw [World.frozen?_alloc_old _ _ t (by simp; omega), World.frozen?_alloc_old _ _ t (Nat.ne_of_lt hlt)]; exact hf)
  clear ha ht hf ha1
  go_enter Tryd.func37, Tryd.ntmps37
  go_wp2
  refine wp_loop_rounds 1 ?_
  rw [rounds_succ]
  go_wp2
  go_ret
  exact ⟨rfl, _, ((Below.refl _ _).alloc (Nat.le_refl _) _).alloc (by simp) _, rfl⟩
set_option maxRecDepth 1000000 in
set_option maxHeartbeats 1000000 in
theorem as_none (F : Nat) (e : Int) (w : World) (a t : Addr) (h0 : w.cell? ⟨F, 0, none⟩ = some (.int .i64 e)) :
    Calls Tryd.prog 37 #[.iface 43 (.pointer (some ⟨F, 0, none⟩)), .iface 59 (.pointer (some t)), val 59 a 150, .iface 85 (.agg #[han 46])] w fun x w' => x = .returned (.bool false) ∧ Below w.heap.size w w' := by
  have h30 := @run_callFunc_extern Tryd.prog 30 _ ReflectliteType.typeOf Tryd.func30 (by kernel_rfl) (by kernel_rfl) (by kernel_rfl) (by kernel_rfl)
  have h83 := @run_callFunc_extern Tryd.prog 83 _ (ReflectliteType.relation "AssignableTo" ReflectliteType.assignableTo) Tryd.func83 (by kernel_rfl) (by kernel_rfl) (by kernel_rfl) (by kernel_rfl)
  have mA := methodAssignableTo
  have tF := typeOfF
  have tE := typeOfE
  have aF := asFP
  have aE := asEP
  have nF := noAsF
  have nE := noAsE
  have uF := hasUnwrapF
  have uE := noUnwrapE
  have uE2 := noUnwrapsE
  have mF := unwrapF
  have hlF := World.block_lt_of_cell? w _ h0
  have h1 : (w.alloc (.cells #[.pointer (some ⟨5, 59, none⟩), .pointer (some a), .int .u64 150] 76)).cell? ⟨F, 0, none⟩ = some (.int .i64 e) := by rw [World.cell?_alloc_lt _ _ ⟨F, 0, none⟩ hlF]; exact h0
  clear h0
  go_enter Tryd.func37, Tryd.ntmps37
  go_wp2
  refine wp_loop_rounds 2 ?_
  rw [rounds_succ]
  go_wp2
  rw [rounds_succ]
  go_wp2
  go_ret
  exact ⟨rfl, (Below.refl _ _).alloc (Nat.le_refl _) _⟩
end Ft
end Go.Proofs.YtlcmdabacoinpaaDoor
