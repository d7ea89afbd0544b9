/- Contracts of what a graph tells without any search: parts, N, M, Edges, Edge, Degree, Near, Total; of nil too. -/
import Derived.Test.YtaoocokcfppmaaaNtMem
import Derived.Deep.RegionWith
import Derived.BigQuiet
namespace Go.Proofs.Ytaoocokcfppmaaa
open Go.RowKit Go.ChangeShapes EdPure NtPure NumPure
@[go_sem] theorem net_vs (x y : Value) (w : World) : (Instr.field 58 (.agg #[x, y]) 0).run Try.prog w = .ok x w := by kernel_rfl
@[go_sem] theorem net_es (x y : Value) (w : World) : (Instr.field 58 (.agg #[x, y]) 1).run Try.prog w = .ok y w := by kernel_rfl
@[go_sem] theorem star_dg (x y : Value) (w : World) : (Instr.field 80 (.agg #[x, y]) 0).run Try.prog w = .ok x w := by kernel_rfl
@[go_sem] theorem star_nr (x y : Value) (w : World) : (Instr.field 80 (.agg #[x, y]) 1).run Try.prog w = .ok y w := by kernel_rfl
@[go_sem] theorem edge_wt (x y z : Value) (w : World) : (Instr.field 48 (.agg #[x, y, z]) 2).run Try.prog w = .ok z w := by kernel_rfl
/-- What a graph is made of. -/
def PartsOut (n : Nat) (M : List Ed) (w : World) (e : Ending) (w' : World) : Prop :=
  Below w.heap.size w w' ∧ ∃ pv cv pe ce, e = .returned (.agg #[.slice pv n cv, .slice pe M.length ce]) ∧ ReadsE w'.heap.size w' pe M ∧ StarsR w'.heap.size w' pv n M
theorem nparts_any (p : Option Addr) (n : Nat) (M : List Ed) (w : World) (h : NetAt p n M w) :
    Calls Try.prog 34 #[.pointer p] w fun e w' => PartsOut n M w e w' := by
  have HB : Hid (Below w.heap.size w (w.alloc (.cells #[.slice none 0 0, .slice none 0 0] 58))) := Lib.hid ((Below.refl _ _).alloc (Nat.le_refl _) _)
  rcases h with ⟨rfl, rfl, rfl⟩ | ⟨g, pv, cv, pe, ce, rfl, h2, h3, h4, h5, h6⟩
  · go_enter Try.func34, Try.ntmps34
    go_wp2
    refine bodyPost_ret (v := .agg #[.slice none 0 0, .slice none 0 0]) (by simp [results, Try.results34, go_sem]) rfl ?_
    have hb : Below w.heap.size w (((w.alloc (.cells #[.slice none 0 0, .slice none 0 0] 58)).setCell ⟨w.heap.size, 0, none⟩ (.slice none 0 0)).setCell ⟨w.heap.size, 1, none⟩ (.slice none 0 0)) :=
      (HB.out.setCell (p := ⟨w.heap.size, 0, none⟩) (Nat.le_refl _) _).setCell (p := ⟨w.heap.size, 1, none⟩) (Nat.le_refl _) _
    refine ⟨?_, none, 0, none, 0, rfl, Or.inl rfl, Or.inl rfl⟩
    first | exact hb | exact HB.out
  · have HE := Lib.hid h5
    have HS := Lib.hid h6
    clear h5 h6
    go_enter Try.func34, Try.ntmps34
    go_wp2
    refine bodyPost_ret (v := .agg #[.slice pv n cv, .slice pe M.length ce]) (by simp [results, Try.results34, go_sem]) rfl ?_
    have hb : ∀ x y, Below w.heap.size w (((w.alloc (.cells #[.slice none 0 0, .slice none 0 0] 58)).setCell ⟨w.heap.size, 0, none⟩ x).setCell ⟨w.heap.size, 1, none⟩ y) := fun x y =>
      (HB.out.setCell (p := ⟨w.heap.size, 0, none⟩) (Nat.le_refl _) _).setCell (p := ⟨w.heap.size, 1, none⟩) (Nat.le_refl _) _
    have hb2 : ∀ x, Below w.heap.size w (w.alloc x) := fun x => (Below.refl _ _).alloc (Nat.le_refl _) _
    first
      | exact ⟨hb2 _, pv, cv, pe, ce, rfl, HE.out.over (hb2 _) (Nat.le_refl _), HS.out.over (hb2 _) (Nat.le_refl _)⟩
      | exact ⟨hb _ _, pv, cv, pe, ce, rfl, HE.out.over (hb _ _) (Nat.le_refl _), HS.out.over (hb _ _) (Nat.le_refl _)⟩
set_option maxRecDepth 100000 in
theorem num_any (p : Option Addr) (n : Nat) (M : List Ed) (w : World) (h : NetAt p n M w) :
    Calls Try.prog 41 #[.pointer p] w fun e w' => e = .returned (.int .i64 (n : Int)) ∧ Below w.heap.size w w' := by
  have HN := Lib.hid h
  clear h
  go_enter Try.func41, Try.ntmps41
  go_wp2_with fail
  refine (nparts_any p n M w HN.out).mono ?_
  rintro e w1 ⟨hb, pv, cv, pe, ce, rfl, -, -⟩
  have HB := Lib.hid hb
  clear hb
  go_wp2
  go_ret
  exact ⟨rfl, HB.out⟩
set_option maxRecDepth 100000 in
theorem cnt_any (p : Option Addr) (n : Nat) (M : List Ed) (w : World) (h : NetAt p n M w) :
    Calls Try.prog 24 #[.pointer p] w fun e w' => e = .returned (.int .i64 (M.length : Int)) ∧ Below w.heap.size w w' := by
  have HN := Lib.hid h
  clear h
  go_enter Try.func24, Try.ntmps24
  go_wp2_with fail
  refine (nparts_any p n M w HN.out).mono ?_
  rintro e w1 ⟨hb, pv, cv, pe, ce, rfl, -, -⟩
  have HB := Lib.hid hb
  clear hb
  go_wp2
  go_ret
  exact ⟨rfl, HB.out⟩
/-- The edge of number i, or none. -/
def atE (l : List Ed) (i : Int) : Ed := if h : 0 ≤ i ∧ i < l.length then l[i.toNat]'(by omega) else (0, 0, 0)
def inE (l : List Ed) (i : Int) : Bool := decide (0 ≤ i ∧ i < l.length)
theorem ret_eb {e e' : Ed} {b b' : Bool} (h1 : e = e') (h2 : b = b') : Ending.returned (.tuple #[encE e, .bool b]) = .returned (.tuple #[encE e', .bool b']) := by rw [h1, h2]
end Go.Proofs.Ytaoocokcfppmaaa
