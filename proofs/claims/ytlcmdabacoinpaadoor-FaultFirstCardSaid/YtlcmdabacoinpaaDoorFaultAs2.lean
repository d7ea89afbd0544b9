/- The facts on the model's entries for internal/reflectlite at the target *inPart. -/
import Derived.Test.YtlcmdabacoinpaaDoorFaultAs
namespace Go.Proofs.YtlcmdabacoinpaaDoor
open Go.RowKit Go.ChangeShapes Go.Extern.Stop Go.Stop Go.Extern
namespace Ft
/-! The entries that read or write memory, at **inPart and *inPart. -/
theorem valueOfP (e : Addr) (w : World) : (ReflectliteValue.unpack (.iface 46 (.pointer (some e)))).run Tryd.prog w
    = .ok (val 46 ⟨w.heap.size, 0, none⟩ 150) (w.alloc (.cells #[.pointer (some e)] 46)) := by kernel_rfl
theorem valueOfPP (t : Addr) (w : World) : (ReflectliteValue.unpack (.iface 59 (.pointer (some t)))).run Tryd.prog w
    = .ok (val 59 ⟨w.heap.size, 0, none⟩ 150) (w.alloc (.cells #[.pointer (some t)] 59)) := by kernel_rfl
theorem typePP (a : Addr) (w : World) : (ReflectliteValue.methodAny (ReflectliteValue.valueError "reflectlite.Value.Type" 0) (fun t _ _ _ => ReflectliteType.toType t) #[val 59 a 150]).run Tryd.prog w
    = .ok (.iface 85 (.agg #[han 59])) w := by kernel_rfl
theorem kindPP (w : World) : ((ReflectliteType.abiMethod fun t => (fun a : Nat => Value.int IntKind.u8 (a : Int)) <$> Rtype.kind t) #[han 59]).run Tryd.prog w = .ok (.int .u8 22) w := by kernel_rfl
theorem kindP (w : World) : ((ReflectliteType.abiMethod fun t => (fun a : Nat => Value.int IntKind.u8 (a : Int)) <$> Rtype.kind t) #[han 46]).run Tryd.prog w = .ok (.int .u8 22) w := by kernel_rfl
theorem elemPP (w : World) : (ReflectliteType.method ReflectliteType.elem #[.agg #[han 59]]).run Tryd.prog w = .ok (.iface 85 (.agg #[han 46])) w := by kernel_rfl
theorem implP (w : World) : (ReflectliteType.relation "Implements" ReflectliteType.implements_ #[.agg #[han 46], .iface 85 (.agg #[han 25])]).run Tryd.prog w = .ok (.bool true) w := by kernel_rfl
theorem partsPP (a : Addr) (w : World) : (ReflectliteValue.parts (val 59 a 150)).run Tryd.prog w = .ok (some (59, a, 150)) w := by kernel_rfl
theorem partsPa (a : Addr) (w : World) : (ReflectliteValue.parts (val 46 a 406)).run Tryd.prog w = .ok (some (46, a, 406)) w := by kernel_rfl
theorem partsP (a : Addr) (w : World) : (ReflectliteValue.parts (val 46 a 150)).run Tryd.prog w = .ok (some (46, a, 150)) w := by kernel_rfl
theorem elemOfPP (w : World) : (Rtype.elem? 59).run Tryd.prog w = .ok (some 46) w := by kernel_rfl
theorem mkP (p : Addr) (w : World) : (ReflectliteValue.mk 46 p ReflectliteValue.flagAddr).run Tryd.prog w = .ok (val 46 p 406) w := by kernel_rfl
theorem directP (w : World) : (Rtype.directlyAssignable 46 46).run Tryd.prog w = .ok true w := by kernel_rfl
theorem isNilPP (a p : Addr) (W : World) (ha : W.cell? a = some (.pointer (some p))) :
    (ReflectliteValue.method (ReflectliteValue.valueError "reflectlite.Value.IsNil" 0) ReflectliteValue.isNil #[val 59 a 150]).run Tryd.prog W = .ok (.bool false) W := by
  obtain ⟨K, hK, hK'⟩ := rlm _ _ _
  rw [hK]
  simp only [Sem.run_bind, partsPP, Result.andThen, hK']
  simp [ReflectliteValue.isNil, loadVar, isAgg, underlying, Tryd.underlying59, ha, Result.andThen]
theorem elemVPP (a p : Addr) (W : World) (ha : W.cell? a = some (.pointer (some p))) :
    (ReflectliteValue.method (ReflectliteValue.valueError "reflectlite.Value.Elem" 0) ReflectliteValue.elem #[val 59 a 150]).run Tryd.prog W = .ok (val 46 p 406) W := by
  obtain ⟨K, hK, hK'⟩ := rlm _ _ _
  rw [hK]
  simp only [Sem.run_bind, partsPP, Result.andThen, hK']
  simp [ReflectliteValue.elem, loadVar, isAgg, underlying, Tryd.underlying59, ha, Result.andThen, elemOfPP, mkP]
theorem setP (ta b e : Addr) (old : Value) (W : World) (hb : W.cell? b = some (.pointer (some e))) (ht : W.cell? ta = some old) (hf : W.frozen? ta = false) :
    (ReflectliteValue.set #[val 46 ta 406, val 46 b 150]).run Tryd.prog W = .ok (.tuple #[]) (W.setCell ta (.pointer (some e))) := by
  have hu : ReflectliteValue.set #[val 46 ta 406, val 46 b 150] = (ReflectliteValue.parts (val 46 ta 406) >>= fun p => ReflectliteValue.parts (val 46 b 150) >>= fun q => _) := rfl
  rw [hu]
  simp only [Sem.run_bind, partsPa, partsP, Result.andThen]
  simp [ReflectliteValue.flagAddr, loadVar, isAgg, underlying, Tryd.underlying46, hb, Result.andThen, directP, storeVar, Value.cells, storeCells, Addr.add]
  rw [run_store Tryd.prog W ta _ _ (by rfl)]
  simp [ht, hf]
end Ft
end Go.Proofs.YtlcmdabacoinpaaDoor
