/- errors.As at a fault within parts, the target a *Fault: the fault is found, however often it is wrapped. -/
import Derived.Test.YtlcmdabacoinpaaDoorFaultAs
namespace Go.Proofs.YtlcmdabacoinpaaDoor
open Go.RowKit Go.ChangeShapes Go.Extern.Stop Go.Stop Go.Extern
namespace Ft
/-- A fault lies in block F. -/
def IsFault (N : Nat) (w : World) (e k : Int) (F : Nat) : Prop := F < N ∧ w.cell? ⟨F, 0, none⟩ = some (.int .i64 e) ∧ w.cell? ⟨F, 1, none⟩ = some (.int .i64 k)
/-- The target is set to the fault. -/
def FoundF (N : Nat) (w : World) (e k : Int) (t : Addr) (w' : World) : Prop := ∃ F W, IsFault N w e k F ∧ Below w.heap.size w W ∧ w' = W.setCell t (.pointer (some ⟨F, 0, none⟩))
theorem IsFault.back {N : Nat} {w : World} {e k : Int} {F : Nat} {o : Obj} (hN : N ≤ w.heap.size) (h : IsFault N (w.alloc o) e k F) : IsFault N w e k F := by
  obtain ⟨h1, h2, h3⟩ := h
  rw [World.cell?_alloc_lt _ _ ⟨F, 0, none⟩ (Nat.lt_of_lt_of_le h1 hN)] at h2
  rw [World.cell?_alloc_lt _ _ ⟨F, 1, none⟩ (Nat.lt_of_lt_of_le h1 hN)] at h3
  exact ⟨h1, h2, h3⟩
set_option maxRecDepth 1000000 in
set_option maxHeartbeats 1000000 in
theorem as_fault {N : Nat} {w : World} {e k : Int} {ps : List (List UInt8)} {v : Value} (h : ErrAt N w e k ps v) (hN : N ≤ w.heap.size) (a t : Addr) (old : Value)
    (ha : w.cell? a = some (.pointer (some t))) (ht : w.cell? t = some old) (hf : w.frozen? t = false) :
    Calls Tryd.prog 37 #[v, .iface 58 (.pointer (some t)), val 58 a 150, .iface 85 (.agg #[han 43])] w fun x w' => x = .returned (.bool true) ∧ FoundF N w e k t w' := by
  have h30 := @run_callFunc_extern Tryd.prog 30 _ ReflectliteType.typeOf Tryd.func30 (by kernel_rfl) (by kernel_rfl) (by kernel_rfl) (by kernel_rfl)
  have h83 := @run_callFunc_extern Tryd.prog 83 _ (ReflectliteType.relation "AssignableTo" ReflectliteType.assignableTo) Tryd.func83 (by kernel_rfl) (by kernel_rfl) (by kernel_rfl) (by kernel_rfl)
  have h41 := @run_callFunc_extern Tryd.prog 41 _ (ReflectliteValue.method (ReflectliteValue.valueError "reflectlite.Value.Elem" 0) ReflectliteValue.elem) Tryd.func41 (by kernel_rfl) (by kernel_rfl) (by kernel_rfl) (by kernel_rfl)
  have h34 := @run_callFunc_extern Tryd.prog 34 _ (fun args => ReflectliteValue.unpack (args.getD 0 (.tuple #[]))) Tryd.func34 (by kernel_rfl) (by kernel_rfl) (by kernel_rfl) (by kernel_rfl)
  have h42 := @run_callFunc_extern Tryd.prog 42 _ ReflectliteValue.set Tryd.func42 (by kernel_rfl) (by kernel_rfl) (by kernel_rfl) (by kernel_rfl)
  have mA := methodAssignableTo
  have tF := typeOfF
  have tP := typeOfP
  have aF := asFF
  have aP := asPF
  have nP := noAsP
  have uP := hasUnwrapP
  have mP := unwrapP
  have vF := valueOfF
  have hla := World.block_lt_of_cell? w _ ha
  have hlt := World.block_lt_of_cell? w _ ht
  have ha1 : ∀ o : Obj, (w.alloc o).cell? a = some (.pointer (some t)) := fun o => by rw [World.cell?_alloc_lt _ _ a hla]; exact ha
  have el := elemVFF a t (w.alloc (.cells #[.pointer (some ⟨5, 58, none⟩), .pointer (some a), .int .u64 150] 76)) (ha1 _)
  have st : ∀ F : Nat, _ := fun F => setF t ⟨w.heap.size + 1, 0, none⟩ ⟨F, 0, none⟩ old ((w.alloc (.cells #[.pointer (some ⟨5, 58, none⟩), .pointer (some a), .int .u64 150] 76)).alloc (.cells #[.pointer (some ⟨F, 0, none⟩)] 43))
    (by rw [World.cell?_alloc_at _ _ _ _ (by simp)]; rfl)
    (by rw [World.cell?_alloc_lt _ _ t (by simp; omega), World.cell?_alloc_lt _ _ t hlt]; exact ht)
    (by rw [World.frozen?_alloc_old _ _ t (by simp; omega), World.frozen?_alloc_old _ _ t (Nat.ne_of_lt hlt)]; exact hf)
  have HE : Hid (ErrAt N (w.alloc (.cells #[.pointer (some ⟨5, 58, none⟩), .pointer (some a), .int .u64 150] 76)) e k ps v) := Lib.hid (h.on ((Below.refl N w).alloc hN _))
  have HS := Lib.hid st
  clear ha ht hf ha1 h st
  go_enter Tryd.func37, Tryd.ntmps37
  go_wp2
  go_loopw [0] (fun v' wl => wl = w.alloc (.cells #[.pointer (some ⟨5, 58, none⟩), .pointer (some a), .int .u64 150] 76) ∧ Hid (∃ qs, ErrAt N wl e k qs v')) (fun v' wl => errLen N wl e k v')
  case atStart => exact ⟨rfl, Lib.hid ⟨ps, HE.out⟩⟩
  case round =>
    obtain ⟨rfl, HQ⟩ := hrel
    obtain ⟨qs, hq⟩ := HQ.out
    have hel := errLen_eq hq
    cases qs with
    | nil =>
      obtain ⟨F, hF, rfl, h0, h1⟩ := hq
      have HX : Hid (IsFault N w e k F) := Lib.hid (IsFault.back hN ⟨hF, h0, h1⟩)
      have st := HS.out F
      clear h0 h1 hel HQ HS HE
      go_wp2
      go_ret
      exact ⟨rfl, F, _, HX.out, ((Below.refl _ _).alloc (Nat.le_refl _) _).alloc (by simp) _, rfl⟩
    | cons p qs =>
      obtain ⟨F, u, hF, rfl, h0, h1, h2⟩ := hq
      obtain ⟨ut, uv, rfl⟩ := h2.iface
      have hel2 := errLen_eq h2
      have HL : Hid (errLen N (w.alloc (.cells #[.pointer (some ⟨5, 58, none⟩), .pointer (some a), .int .u64 150] 76)) e k (.iface ut uv) < errLen N (w.alloc (.cells #[.pointer (some ⟨5, 58, none⟩), .pointer (some a), .int .u64 150] 76)) e k (.iface 46 (.pointer (some ⟨F, 0, none⟩)))) := Lib.hid (by rw [hel, hel2]; simp)
      have H2 := Lib.hid h2
      clear h2 hel hel2 HQ HS HE h0
      go_wp2
      go_roundw
      case rel => exact ⟨trivial, Lib.hid ⟨qs, H2.out⟩⟩
      case measure => exact HL.out
theorem IsFault.under {N : Nat} {w W : World} {e k : Int} {F : Nat} (hb : Below N w W) (h : IsFault N W e k F) : IsFault N w e k F :=
  ⟨h.1, (hb.cell (p := ⟨F, 0, none⟩) (by exact h.1)).symm.trans h.2.1, (hb.cell (p := ⟨F, 1, none⟩) (by exact h.1)).symm.trans h.2.2⟩
theorem FoundF.under {N : Nat} {w W w' : World} {e k : Int} {t : Addr} (hb : Below w.heap.size w W) (hN : N ≤ w.heap.size) (h : FoundF N W e k t w') : FoundF N w e k t w' := by
  obtain ⟨F, V, h1, h2, h3⟩ := h
  exact ⟨F, V, h1.under (hb.mono hN), hb.trans (h2.mono hb.size), h3⟩
set_option maxRecDepth 1000000 in
set_option maxHeartbeats 1000000 in
/-- errors.As, the target a *Fault. -/
theorem asTop_fault {N : Nat} {w : World} {e k : Int} {ps : List (List UInt8)} {v : Value} (h : ErrAt N w e k ps v) (hN : N ≤ w.heap.size) (t : Addr) (old : Value)
    (hg : w.cell? ⟨0, 0, none⟩ = some (.iface 85 (.agg #[.pointer (some ⟨5, 25, none⟩)]))) (ht : w.cell? t = some old) (hf : w.frozen? t = false) :
    Calls Tryd.prog 25 #[v, .iface 58 (.pointer (some t))] w fun x w' => x = .returned (.bool true) ∧ FoundF N w e k t w' := by
  have h34 := @run_callFunc_extern Tryd.prog 34 _ (fun args => ReflectliteValue.unpack (args.getD 0 (.tuple #[]))) Tryd.func34 (by kernel_rfl) (by kernel_rfl) (by kernel_rfl) (by kernel_rfl)
  have h35 := @run_callFunc_extern Tryd.prog 35 _ (ReflectliteValue.methodAny (ReflectliteValue.valueError "reflectlite.Value.Type" 0) (fun t _ _ _ => ReflectliteType.toType t)) Tryd.func35 (by kernel_rfl) (by kernel_rfl) (by kernel_rfl) (by kernel_rfl)
  have h36 := @run_callFunc_extern Tryd.prog 36 _ (ReflectliteValue.method (ReflectliteValue.valueError "reflectlite.Value.IsNil" 0) ReflectliteValue.isNil) Tryd.func36 (by kernel_rfl) (by kernel_rfl) (by kernel_rfl) (by kernel_rfl)
  have h70 := @run_callFunc_extern Tryd.prog 70 _ (ReflectliteType.abiMethod fun t => do pure (.int .u8 (← Rtype.kind t))) Tryd.func70 (by kernel_rfl) (by kernel_rfl) (by kernel_rfl) (by kernel_rfl)
  have h85 := @run_callFunc_extern Tryd.prog 85 _ (ReflectliteType.method ReflectliteType.elem) Tryd.func85 (by kernel_rfl) (by kernel_rfl) (by kernel_rfl) (by kernel_rfl)
  have h86 := @run_callFunc_extern Tryd.prog 86 _ (ReflectliteType.relation "Implements" ReflectliteType.implements_) Tryd.func86 (by kernel_rfl) (by kernel_rfl) (by kernel_rfl) (by kernel_rfl)
  have vF := valueOfFF
  have tF := typeFF
  have mK := methodKind
  have mE := methodElem
  have mI := methodImplements
  have k1 := kindFF
  have k2 := kindF
  have eF := elemFF
  have iF := implF
  have b2 : Below w.heap.size w ((w.alloc (.cells #[.pointer (some t)] 58)).alloc (.cells #[.pointer (some ⟨5, 58, none⟩), .pointer (some ⟨w.heap.size, 0, none⟩), .int .u64 150] 76)) := ((Below.refl _ _).alloc (Nat.le_refl _) _).alloc (by simp) _
  have hlt := World.block_lt_of_cell? w _ ht
  have hlg := World.block_lt_of_cell? w _ hg
  have hc : ((w.alloc (.cells #[.pointer (some t)] 58)).alloc (.cells #[.pointer (some ⟨5, 58, none⟩), .pointer (some ⟨w.heap.size, 0, none⟩), .int .u64 150] 76)).cell? ⟨w.heap.size, 0, none⟩ = some (.pointer (some t)) := by
    rw [World.cell?_alloc_lt _ _ ⟨w.heap.size, 0, none⟩ (by simp)]; simp
  have n8 := isNilFF ⟨w.heap.size, 0, none⟩ t _ hc
  have hg2 := (b2.cell (p := ⟨0, 0, none⟩) (by exact hlg)).trans hg
  have HA := Lib.hid (as_fault (h.on (b2.mono hN)) (Nat.le_trans hN b2.size) ⟨w.heap.size, 0, none⟩ t old hc ((b2.cell (by exact hlt)).trans ht) ((b2.frozen (by exact hlt)).trans hf))
  obtain ⟨vt, vu, rfl⟩ := h.iface
  have HH := Lib.hid h
  have HB := Lib.hid b2
  clear hc hg ht hf h b2
  go_enter Tryd.func25, Tryd.ntmps25
  go_wp2_with fail
  refine HA.out.mono ?_
  rintro x w' ⟨rfl, hx⟩
  have HX := Lib.hid hx
  clear hx HA
  go_wp2
  go_ret
  exact ⟨rfl, HX.out.under HB.out hN⟩
end Ft
end Go.Proofs.YtlcmdabacoinpaaDoor
