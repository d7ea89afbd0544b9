/- find, Of at a fault within parts. -/
import Derived.Test.YtlcmdabacoinpaaDoorFaultFind
namespace Go.Proofs.YtlcmdabacoinpaaDoor
open Go.RowKit Go.ChangeShapes Go.Extern.Stop Go.Stop Go.Extern
namespace Ft
/-- The cell of the handle of 'error', which errors.As reads. -/
def EtAt (w : World) : Prop := w.cell? ⟨0, 0, none⟩ = some (.iface 85 (.agg #[.pointer (some ⟨5, 25, none⟩)]))
theorem EtAt.on {w w' : World} (h : EtAt w) (hb : Below w.heap.size w w') : EtAt w' := by
  have hlt := World.block_lt_of_cell? w _ h
  exact (hb.cell (p := ⟨0, 0, none⟩) (by exact hlt)).trans h
def FindF (N : Nat) (w : World) (e k : Int) (x : Ending) (w' : World) : Prop := ∃ F, IsFault N w e k F ∧ x = .returned (.tuple #[.pointer (some ⟨F, 0, none⟩), .bool true]) ∧ Below w.heap.size w w'
theorem FindF.mk' {N : Nat} {w : World} {e k : Int} {F : Nat} {x : Ending} {w' : World} (h : IsFault N w e k F) (hx : x = .returned (.tuple #[.pointer (some ⟨F, 0, none⟩), .bool true])) (hb : Below w.heap.size w w') : FindF N w e k x w' := ⟨F, h, hx, hb⟩
set_option maxHeartbeats 1000000 in
theorem find_fault {N : Nat} {w : World} {e k : Int} {ps : List (List UInt8)} {v : Value} (h : ErrAt N w e k ps v) (hN : N ≤ w.heap.size) (hg : EtAt w) :
    Calls Tryd.prog 17 #[v] w (FindF N w e k) := by
  have b1 := (Below.refl w.heap.size w).alloc (Nat.le_refl _) (.cells #[.pointer none] 43)
  have HC := Lib.hid (CellAt.new w (.pointer none) 43)
  have HA := Lib.hid (asTop_fault (h.on (b1.mono hN)) (Nat.le_trans hN b1.size) ⟨w.heap.size, 0, none⟩ (.pointer none) (hg.on b1) HC.out.1 HC.out.2)
  have HB := Lib.hid b1
  clear h hg b1
  go_enter_defers Tryd.func17, Tryd.ntmps17
  go_wp2_with fail
  refine HA.out.mono ?_
  rintro x w1 ⟨rfl, F, W, h1, h2, rfl⟩
  have HF := Lib.hid (h1.under (HB.out.mono hN))
  have hc := HC.out.keep h2
  have HB2 := Lib.hid ((HB.out.trans (h2.mono HB.out.size)).setCell (p := ⟨w.heap.size, 0, none⟩) (Nat.le_refl _) (.pointer (some ⟨F, 0, none⟩)))
  obtain ⟨hcc, hcf⟩ := hc.set (.pointer (some ⟨F, 0, none⟩))
  clear h1 h2 hc HA HB HC
  generalize W.setCell ⟨w.heap.size, 0, none⟩ (.pointer (some ⟨F, 0, none⟩)) = w2 at *
  have hlt := World.block_lt_of_cell? w2 _ hcc
  go_wp2
  refine leaves_cons (f := 24) (args := #[]) (by simp) (by simp [go_sem]) ?_
  refine (idleF _).mono ?_
  rintro e u' w3 ⟨rfl, rfl, rfl⟩
  refine ⟨.tuple #[.pointer (some ⟨F, 0, none⟩), .bool true], by simp [results, Tryd.results17, go_sem], ?_⟩
  exact FindF.mk' HF.out rfl HB2.out
set_option maxHeartbeats 1000000 in
theorem find_part (F : Nat) (w : World) (hg : EtAt w) :
    Calls Tryd.prog 18 #[.iface 46 (.pointer (some ⟨F, 0, none⟩))] w fun x w' => x = .returned (.tuple #[.pointer (some ⟨F, 0, none⟩), .bool true]) ∧ Below w.heap.size w w' := by
  have b1 := (Below.refl w.heap.size w).alloc (Nat.le_refl _) (.cells #[.pointer none] 46)
  have HC := Lib.hid (CellAt.new w (.pointer none) 46)
  have HA := Lib.hid (asTop_part 46 (.pointer (some ⟨F, 0, none⟩)) ⟨w.heap.size, 0, none⟩ (.pointer none) true (fun w' => ∃ W, Below (w.alloc (.cells #[.pointer none] 46)).heap.size (w.alloc (.cells #[.pointer none] 46)) W ∧ w' = W.setCell ⟨w.heap.size, 0, none⟩ (.pointer (some ⟨F, 0, none⟩))) (hg.on b1) HC.out.1 HC.out.2
    (fun W hb hc => (as_part F W _ ⟨w.heap.size, 0, none⟩ (.pointer none) hc (HC.out.keep hb).1 (HC.out.keep hb).2).mono fun x w' ⟨hx, V, h1, h2⟩ => ⟨hx, V, hb.trans (h1.mono hb.size), h2⟩))
  have HB := Lib.hid b1
  clear hg b1
  go_enter_defers Tryd.func18, Tryd.ntmps18
  go_wp2_with fail
  refine HA.out.mono ?_
  rintro x w1 ⟨rfl, W, h2, rfl⟩
  have hc := HC.out.keep h2
  have HB2 := Lib.hid ((HB.out.trans (h2.mono HB.out.size)).setCell (p := ⟨w.heap.size, 0, none⟩) (Nat.le_refl _) (.pointer (some ⟨F, 0, none⟩)))
  obtain ⟨hcc, hcf⟩ := hc.set (.pointer (some ⟨F, 0, none⟩))
  clear h2 hc HA HB HC
  generalize W.setCell ⟨w.heap.size, 0, none⟩ (.pointer (some ⟨F, 0, none⟩)) = w2 at *
  have hlt := World.block_lt_of_cell? w2 _ hcc
  go_wp2
  refine leaves_cons (f := 26) (args := #[]) (by simp) (by simp [go_sem]) ?_
  refine (idleP _).mono ?_
  rintro e u' w3 ⟨rfl, rfl, rfl⟩
  exact ⟨.tuple #[.pointer (some ⟨F, 0, none⟩), .bool true], by simp [results, Tryd.results18, go_sem], rfl, HB2.out⟩
set_option maxHeartbeats 1000000 in
theorem find_none (F : Nat) (e : Int) (w : World) (h0 : w.cell? ⟨F, 0, none⟩ = some (.int .i64 e)) (hg : EtAt w) :
    Calls Tryd.prog 18 #[.iface 43 (.pointer (some ⟨F, 0, none⟩))] w fun x w' => x = .returned (.tuple #[.pointer none, .bool false]) ∧ Below w.heap.size w w' := by
  have b1 := (Below.refl w.heap.size w).alloc (Nat.le_refl _) (.cells #[.pointer none] 46)
  have hlF := World.block_lt_of_cell? w _ h0
  have h1 := (b1.cell (p := ⟨F, 0, none⟩) (by exact hlF)).trans h0
  have hlF1 := World.block_lt_of_cell? _ _ h1
  have HC := Lib.hid (CellAt.new w (.pointer none) 46)
  have HA := Lib.hid (asTop_part 43 (.pointer (some ⟨F, 0, none⟩)) ⟨w.heap.size, 0, none⟩ (.pointer none) false (fun w' => Below (w.alloc (.cells #[.pointer none] 46)).heap.size (w.alloc (.cells #[.pointer none] 46)) w') (hg.on b1) HC.out.1 HC.out.2
    (fun W hb hc => (as_none F e W _ ⟨w.heap.size, 0, none⟩ ((hb.cell (p := ⟨F, 0, none⟩) (by exact hlF1)).trans h1)).mono fun x w' ⟨hx, h1⟩ => ⟨hx, hb.trans (h1.mono hb.size)⟩))
  have HB := Lib.hid b1
  clear hg b1 h0 h1
  go_enter_defers Tryd.func18, Tryd.ntmps18
  go_wp2_with fail
  refine HA.out.mono ?_
  rintro x w1 ⟨rfl, h2⟩
  obtain ⟨hcc, hcf⟩ := HC.out.keep h2
  have HB2 := Lib.hid (HB.out.trans (h2.mono HB.out.size))
  clear h2 HA HB HC
  have hlt := World.block_lt_of_cell? w1 _ hcc
  go_wp2
  refine leaves_cons (f := 26) (args := #[]) (by simp) (by simp [go_sem]) ?_
  refine (idleP _).mono ?_
  rintro e u' w3 ⟨rfl, rfl, rfl⟩
  exact ⟨.tuple #[.pointer none, .bool false], by simp [results, Tryd.results18, go_sem], rfl, HB2.out⟩
set_option maxHeartbeats 1000000 in
/-- Of: number and place of a fault, however often it is wrapped. -/
theorem of_any {N : Nat} {w : World} {e k : Int} {ps : List (List UInt8)} {v : Value} (h : ErrAt N w e k ps v) (hN : N ≤ w.heap.size) (hg : EtAt w) :
    Calls Tryd.prog 9 #[v] w fun x w' => x = .returned (.tuple #[.int .i64 e, .int .i64 k, .bool true]) ∧ Below w.heap.size w w' := by
  have HA := Lib.hid (find_fault h hN hg)
  clear h hg
  go_enter Tryd.func9, Tryd.ntmps9
  go_wp2_with fail
  refine HA.out.mono ?_
  rintro x w1 ⟨F, ⟨h1, h2, h3⟩, rfl, hb⟩
  have c0 := (hb.cell (p := ⟨F, 0, none⟩) (by exact Nat.lt_of_lt_of_le h1 hN)).trans h2
  have c1 := (hb.cell (p := ⟨F, 1, none⟩) (by exact Nat.lt_of_lt_of_le h1 hN)).trans h3
  have hlt := World.block_lt_of_cell? w1 _ c0
  have HB := Lib.hid hb
  clear h1 h2 h3 hb HA
  go_wp2
  go_region
  all_goals
    go_wp2
    refine bodyPost_ret (v := .tuple #[.int .i64 e, .int .i64 k, .bool true]) (by simp [results, Tryd.results9, go_sem]) rfl ⟨rfl, ?_⟩
    first
      | exact HB.out
      | exact HB.out.drew
end Ft
end Go.Proofs.YtlcmdabacoinpaaDoor
