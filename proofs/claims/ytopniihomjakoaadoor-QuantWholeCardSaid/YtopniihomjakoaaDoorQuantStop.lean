/- The deferred function that takes a stop back, entered where the frame returns and where it panics with a stop. -/
import Derived.Test.YtopniihomjakoaaDoorQuantOver
import Derived.Defers
import Derived.Recover
import Derived.BigRegion
namespace Go.Proofs.YtopniihomjakoaaDoor
open Go.RowKit Go.ChangeShapes FbitPure QuantPure
theorem assert_stop (v : Value) (w : World) : (Instr.typeAssert (.iface 73 v) 20 73 true).run Tryd.prog w = .ok (.tuple #[v, .bool true]) w := by
  simp [Instr.typeAssert, run_underlying Tryd.underlying73, go_sem]
theorem assert_nil (w : World) : (Instr.typeAssert .nilIface 20 73 true).run Tryd.prog w = .ok (.tuple #[.agg #[.int .i64 0, .int .i64 0], .bool false]) w := by
  simp [Instr.typeAssert, run_underlying Tryd.underlying73, go_sem]
theorem catch_idle (p q : Addr) (w : World) :
    CallsD Tryd.prog 32 #[.pointer (some p), .pointer (some q)] .returning w fun e u' w' => e = .returned (.tuple #[]) ∧ u' = .returning ∧ Below w.heap.size w w' := by
  have hB := Lib.hid ((Below.refl w.heap.size w).alloc (Nat.le_refl _) (.cells #[.int .i64 0, .int .i64 0] 73))
  have ha := assert_nil
  refine callsD_of_wpS Tryd.func32 rfl fun c₀ cs hu => ?_
  apply wpS_seq
  apply wpS_region
  simp [wpOpsS, go_sem, recoverD, hu, ha, Tryd.ntmps32, Exit.thenS]
  change Code.wpS _ _ _ { tmps := #[.pointer (some p), .pointer (some q), .pointer (some ⟨w.heap.size, 0, none⟩), .bool false, .tuple #[.agg #[.int .i64 0, .int .i64 0], .bool false], .nilIface, .tuple #[.agg #[.int .i64 0, .int .i64 0], .bool false], .agg #[.int .i64 0, .int .i64 0], .bool false, undef, undef, undef, undef, undef], defers := [] } _ _
  refine wpS_of_wp ?_
  go_wp2
  cases c₀
  simp_all [bodyPostS, results, Tryd.results32, Exit.thenS]
  exact hB.out
theorem slots_eq (p q t u v x y z : Value) : #[p, q] ++ (((((((Array.replicate 12 undef).setIfInBounds 3 t).setIfInBounds 4 u).setIfInBounds 2 v).setIfInBounds 5 x).setIfInBounds 6 y).setIfInBounds 0 z).setIfInBounds 1 y = #[p, q, z, y, v, t, u, x, y, undef, undef, undef, undef, undef] := by simp [Array.replicate]
set_option maxHeartbeats 1000000 in
theorem catch_stop (N L : Nat) (E K : Int) (w : World) (hN : N < L) (h0 : CellAt N w (.int .i64 0)) (h1 : CellAt L w (.int .i64 0)) :
    CallsD Tryd.prog 32 #[.pointer (some ⟨N, 0, none⟩), .pointer (some ⟨L, 0, none⟩)] (.panicking ({ v := .iface 73 (.agg #[.int .i64 E, .int .i64 K]), recovered := false } :: [])) w fun e u' w' =>
      e = .returned (.tuple #[]) ∧ u' = .panicking ({ v := .iface 73 (.agg #[.int .i64 E, .int .i64 K]), recovered := true } :: []) ∧ Below N w w' ∧ CellAt N w' (.int .i64 E) ∧ CellAt L w' (.int .i64 K) := by
  have ha := assert_stop
  have l0 := h0.lt
  have l1 := h1.lt
  refine callsD_of_wpS Tryd.func32 rfl fun c₀ cs hu => ?_
  apply wpS_seq
  apply wpS_region
  simp [wpOpsS, go_sem, recoverD, hu, ha, Tryd.ntmps32, Exit.thenS]
  rw [slots_eq]
  refine wpS_of_wp ?_
  have HC0 := Lib.hid h0
  have HC1 := Lib.hid h1
  have hne : N ≠ L := by omega
  have hne' : L ≠ N := by omega
  obtain ⟨c0, f0⟩ := h0
  obtain ⟨c1, f1⟩ := h1
  go_wp2
  go_region
  refine ⟨rfl, _, rfl, _, results_none rfl _ _ _, rfl, rfl, ?_, ?_, ?_⟩
  · exact ((((Below.refl N w).setCell (p := ⟨N, 0, none⟩) (Nat.le_refl _) _).setCell (p := ⟨L, 0, none⟩) (Nat.le_of_lt hN) _).alloc (by simp; omega) _).drew
  · exact ((HC0.out.set _).past (M := L) (by omega) _).on (((Below.refl w.heap.size _).alloc (by simp) _).drew) l0
  · exact ((HC1.out.past (M := N) (by omega) _).set _).on (((Below.refl w.heap.size _).alloc (by simp) _).drew) l1
end Go.Proofs.YtopniihomjakoaaDoor
