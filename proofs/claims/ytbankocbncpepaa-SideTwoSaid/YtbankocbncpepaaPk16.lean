/- Contracts of what a graph tells without any search: parts, N, M, Edges, Edge, Degree, Near, Total; of nil too. -/
import Derived.Test.YtbankocbncpepaaPk15
import Derived.Deep.RegionWith
import Derived.BigQuiet
namespace Go.Proofs.Ytbankocbncpepaa
open Go.RowKit Go.ChangeShapes EdPure NtPure NumPure
@[go_sem] theorem net_vs (x y : Value) (w : World) : (Instr.field 68 (.agg #[x, y]) 0).run Try.prog w = .ok x w := by kernel_rfl
@[go_sem] theorem net_es (x y : Value) (w : World) : (Instr.field 68 (.agg #[x, y]) 1).run Try.prog w = .ok y w := by kernel_rfl
@[go_sem] theorem star_dg (x y : Value) (w : World) : (Instr.field 89 (.agg #[x, y]) 0).run Try.prog w = .ok x w := by kernel_rfl
@[go_sem] theorem star_nr (x y : Value) (w : World) : (Instr.field 89 (.agg #[x, y]) 1).run Try.prog w = .ok y w := by kernel_rfl
@[go_sem] theorem edge_wt (x y z : Value) (w : World) : (Instr.field 58 (.agg #[x, y, z]) 2).run Try.prog w = .ok z w := by kernel_rfl
/-- What a graph is made of. -/
def PartsOut (n : Nat) (M : List Ed) (w : World) (e : Ending) (w' : World) : Prop :=
  Below w.heap.size w w' ∧ ∃ pv cv pe ce, e = .returned (.agg #[.slice pv n cv, .slice pe M.length ce]) ∧ ReadsE w'.heap.size w' pe M ∧ StarsR w'.heap.size w' pv n M
theorem nparts_any (p : Option Addr) (n : Nat) (M : List Ed) (w : World) (h : NetAt p n M w) :
    Calls Try.prog 41 #[.pointer p] w fun e w' => PartsOut n M w e w' := by
  have HB : Hid (Below w.heap.size w (w.alloc (.cells #[.slice none 0 0, .slice none 0 0] 68))) := Lib.hid ((Below.refl _ _).alloc (Nat.le_refl _) _)
  rcases h with ⟨rfl, rfl, rfl⟩ | ⟨g, pv, cv, pe, ce, rfl, h2, h3, h4, h5, h6⟩
  · go_enter Try.func41, Try.ntmps41
    go_wp2
    refine bodyPost_ret (v := .agg #[.slice none 0 0, .slice none 0 0]) (by simp [results, Try.results41, go_sem]) rfl ?_
    have hb : Below w.heap.size w (((w.alloc (.cells #[.slice none 0 0, .slice none 0 0] 68)).setCell ⟨w.heap.size, 0, none⟩ (.slice none 0 0)).setCell ⟨w.heap.size, 1, none⟩ (.slice none 0 0)) :=
      (HB.out.setCell (p := ⟨w.heap.size, 0, none⟩) (Nat.le_refl _) _).setCell (p := ⟨w.heap.size, 1, none⟩) (Nat.le_refl _) _
    refine ⟨?_, none, 0, none, 0, rfl, Or.inl rfl, Or.inl rfl⟩
    first | exact hb | exact HB.out
  · have HE := Lib.hid h5
    have HS := Lib.hid h6
    clear h5 h6
    go_enter Try.func41, Try.ntmps41
    go_wp2
    refine bodyPost_ret (v := .agg #[.slice pv n cv, .slice pe M.length ce]) (by simp [results, Try.results41, go_sem]) rfl ?_
    have hb : ∀ x y, Below w.heap.size w (((w.alloc (.cells #[.slice none 0 0, .slice none 0 0] 68)).setCell ⟨w.heap.size, 0, none⟩ x).setCell ⟨w.heap.size, 1, none⟩ y) := fun x y =>
      (HB.out.setCell (p := ⟨w.heap.size, 0, none⟩) (Nat.le_refl _) _).setCell (p := ⟨w.heap.size, 1, none⟩) (Nat.le_refl _) _
    have hb2 : ∀ x, Below w.heap.size w (w.alloc x) := fun x => (Below.refl _ _).alloc (Nat.le_refl _) _
    first
      | exact ⟨hb2 _, pv, cv, pe, ce, rfl, HE.out.over (hb2 _) (Nat.le_refl _), HS.out.over (hb2 _) (Nat.le_refl _)⟩
      | exact ⟨hb _ _, pv, cv, pe, ce, rfl, HE.out.over (hb _ _) (Nat.le_refl _), HS.out.over (hb _ _) (Nat.le_refl _)⟩
set_option maxRecDepth 100000 in
theorem num_any (p : Option Addr) (n : Nat) (M : List Ed) (w : World) (h : NetAt p n M w) :
    Calls Try.prog 27 #[.pointer p] w fun e w' => e = .returned (.int .i64 (n : Int)) ∧ Below w.heap.size w w' := by
  have HN := Lib.hid h
  clear h
  go_enter Try.func27, Try.ntmps27
  go_wp2_with fail
  refine (nparts_any p n M w HN.out).mono ?_
  rintro e w1 ⟨hb, pv, cv, pe, ce, rfl, -, -⟩
  have HB := Lib.hid hb
  clear hb
  go_wp2
  go_ret
  exact ⟨rfl, HB.out⟩
set_option maxRecDepth 100000 in
theorem cnt_any (p : Option Addr) (n : Nat) (M : List Ed) (w : World) (h : NetAt p n M w) :
    Calls Try.prog 44 #[.pointer p] w fun e w' => e = .returned (.int .i64 (M.length : Int)) ∧ Below w.heap.size w w' := by
  have HN := Lib.hid h
  clear h
  go_enter Try.func44, Try.ntmps44
  go_wp2_with fail
  refine (nparts_any p n M w HN.out).mono ?_
  rintro e w1 ⟨hb, pv, cv, pe, ce, rfl, -, -⟩
  have HB := Lib.hid hb
  clear hb
  go_wp2
  go_ret
  exact ⟨rfl, HB.out⟩
/-- The edge of number i, or none. -/
def atE (l : List Ed) (i : Int) : Ed := if h : 0 ≤ i ∧ i < l.length then l[i.toNat]'(by omega) else (0, 0, 0)
def inE (l : List Ed) (i : Int) : Bool := decide (0 ≤ i ∧ i < l.length)
theorem ret_eb {e e' : Ed} {b b' : Bool} (h1 : e = e') (h2 : b = b') : Ending.returned (.tuple #[encE e, .bool b]) = .returned (.tuple #[encE e', .bool b']) := by rw [h1, h2]
theorem numbered_any (a : Option Addr) (c : Nat) (l : List Ed) (i : Int) (w : World) (hR : ReadsE w.heap.size w a l) :
    Calls Try.prog 61 #[.slice a l.length c, .int .i64 i] w fun e w' => e = .returned (.tuple #[encE (atE l i), .bool (inE l i)]) ∧ Below w.heap.size w w' := by
  have HB : Hid (Below w.heap.size w (w.alloc (.cells #[.int .i64 0, .int .i64 0, .int .i64 0] 58))) := Lib.hid ((Below.refl _ _).alloc (Nat.le_refl _) _)
  have hb : ∀ x y z, Below w.heap.size w ((((w.alloc (.cells #[.int .i64 0, .int .i64 0, .int .i64 0] 58)).setCell ⟨w.heap.size, 0, none⟩ x).setCell ⟨w.heap.size, 1, none⟩ y).setCell ⟨w.heap.size, 2, none⟩ z) := fun x y z =>
    ((HB.out.setCell (p := ⟨w.heap.size, 0, none⟩) (Nat.le_refl _) _).setCell (p := ⟨w.heap.size, 1, none⟩) (Nat.le_refl _) _).setCell (p := ⟨w.heap.size, 2, none⟩) (Nat.le_refl _) _
  have hb2 : ∀ x, Below w.heap.size w (w.alloc x) := fun x => (Below.refl _ _).alloc (Nat.le_refl _) _
  have HB2 := Lib.hid hb
  have HB3 := Lib.hid hb2
  clear hb hb2
  have no : ¬ (0 ≤ i ∧ i < l.length) → Hid (atE l i = (0, 0, 0) ∧ inE l i = false) := fun h => Lib.hid ⟨dif_neg h, decide_eq_false h⟩
  by_cases h1 : i < 0
  · have HX := no (by omega)
    clear no hR
    go_enter Try.func61, Try.ntmps61
    go_wp2
    refine bodyPost_ret (v := .tuple #[encE (0, 0, 0), .bool false]) (by simp [results, Try.results61, go_sem, encE]) rfl ⟨ret_eb HX.out.1.symm HX.out.2.symm, ?_⟩
    first | exact HB3.out _ | exact HB2.out _ _ _
  · by_cases h2 : i ≥ (l.length : Int)
    · have HX := no (by omega)
      clear no hR
      go_enter Try.func61, Try.ntmps61
      go_wp2
      refine bodyPost_ret (v := .tuple #[encE (0, 0, 0), .bool false]) (by simp [results, Try.results61, go_sem, encE]) rfl ⟨ret_eb HX.out.1.symm HX.out.2.symm, ?_⟩
      first | exact HB3.out _ | exact HB2.out _ _ _
    · obtain ⟨k, rfl⟩ : ∃ k : Nat, i = k := ⟨i.toNat, by omega⟩
      have hk : k < l.length := by omega
      obtain ⟨u, v, x, he⟩ : ∃ u v x, l[k] = (u, v, x) := ⟨_, _, _, rfl⟩
      have HX : Hid (atE l (k : Int) = (u, v, x) ∧ inE l (k : Int) = true) := Lib.hid ⟨by
        unfold atE
        rw [dif_pos (by omega), ← he]
        rfl, decide_eq_true (by omega)⟩
      have i0 : (0 : Int) ≤ (k : Int) := by omega
      have i1 : (k : Int) < (l.length : Int) := by omega
      obtain ⟨b, off, rfl, hbw, hbr, c0, c1, c2⟩ := hR.cells hk (Below.refl _ _) he
      clear no hR he hbr
      go_enter Try.func61, Try.ntmps61
      go_wp2
      refine bodyPost_ret (v := .tuple #[encE (u, v, x), .bool true]) (by simp [results, Try.results61, go_sem, encE]) rfl ⟨ret_eb HX.out.1.symm HX.out.2.symm, ?_⟩
      first | exact HB3.out _ | exact HB2.out _ _ _
set_option maxRecDepth 100000 in
theorem edge_any (p : Option Addr) (n : Nat) (M : List Ed) (i : Int) (w : World) (h : NetAt p n M w) :
    Calls Try.prog 45 #[.pointer p, .int .i64 i] w fun e w' => e = .returned (.tuple #[encE (atE M i), .bool (inE M i)]) ∧ Below w.heap.size w w' := by
  have HN := Lib.hid h
  clear h
  obtain ⟨u, v, x, he⟩ : ∃ u v x, atE M i = (u, v, x) := ⟨_, _, _, rfl⟩
  have HC := Lib.hid (fun a c w h => numbered_any a c M i w h)
  rw [he] at HC
  rw [he]
  unfold encE at HC ⊢
  simp only at HC ⊢
  clear he
  go_enter Try.func45, Try.ntmps45
  go_wp2_with fail
  have hb0 : Below w.heap.size w (w.alloc (.cells #[.int .i64 0, .int .i64 0, .int .i64 0] 58)) := (Below.refl _ _).alloc (Nat.le_refl _) _
  have HB0 := Lib.hid hb0
  have H3 := Lib.hid (ThreeAt.new w (.int .i64 0) (.int .i64 0) (.int .i64 0) 58)
  have HN0 := Lib.hid (HN.out.over hb0)
  clear hb0 HN
  generalize w.alloc (.cells #[.int .i64 0, .int .i64 0, .int .i64 0] 58) = W0 at *
  have HNw : Hid (w.heap.size ≤ w.heap.size) := Lib.hid (Nat.le_refl _)
  refine (nparts_any p n M W0 HN0.out).mono ?_
  rintro e w1 ⟨hb1, pv, cv, pe, ce, rfl, hr1, -⟩
  have HB1 := Lib.hid (HB0.out.trans (hb1.mono HB0.out.size))
  have HR1 := Lib.hid hr1
  have H31 := Lib.hid (H3.out.on hb1 H3.out.lt)
  clear hb1 hr1 HB0 HN0 H3
  go_wp2_with fail
  refine (HC.out pe ce w1 HR1.out).mono ?_
  rintro e w2 ⟨rfl, hb2⟩
  have HB2 := Lib.hid (HB1.out.trans (hb2.mono HB1.out.size))
  obtain ⟨c0, c1, c2, f0, f1, f2⟩ := H31.out.on hb2 H31.out.lt
  have hlt := (H31.out.on hb2 H31.out.lt).lt
  clear hb2 HB1 H31 HC HR1
  have HZ : Hid (Below w.heap.size w (((w2.setCell ⟨w.heap.size, 0, none⟩ (.int .i64 u)).setCell ⟨w.heap.size, 1, none⟩ (.int .i64 v)).setCell ⟨w.heap.size, 2, none⟩ (.int .i64 x))) :=
    Lib.hid (((HB2.out.setCell (p := ⟨w.heap.size, 0, none⟩) (Nat.le_refl _) _).setCell (p := ⟨w.heap.size, 1, none⟩) (Nat.le_refl _) _).setCell (p := ⟨w.heap.size, 2, none⟩) (Nat.le_refl _) _)
  have H32 : Hid (ThreeAt w.heap.size (((w2.setCell ⟨w.heap.size, 0, none⟩ (.int .i64 u)).setCell ⟨w.heap.size, 1, none⟩ (.int .i64 v)).setCell ⟨w.heap.size, 2, none⟩ (.int .i64 x)) (.int .i64 u) (.int .i64 v) (.int .i64 x)) :=
    Lib.hid (ThreeAt.set ⟨c0, c1, c2, f0, f1, f2⟩ _ _ _)
  go_wp2
  obtain ⟨d0, d1, d2, -, -, -⟩ := H32.out
  exact bodyPost_ret (v := .tuple #[.agg #[.int .i64 u, .int .i64 v, .int .i64 x], .bool (inE M i)]) (by simp [results, Try.results45, go_sem, d0, d1, d2]) rfl ⟨rfl, HZ.out⟩
end Go.Proofs.Ytbankocbncpepaa
