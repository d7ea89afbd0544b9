/- brute's matrix in memory: rows of its own, in which any two places may be turned; what a side comes to in it. -/
import Derived.Test.YtceejjgmepaonaaDoorPk28
import Derived.Test.YtceejjgmepaonaaDoorPk37
namespace Go.Proofs.YtceejjgmepaonaaDoor.Bg
open Go.RowKit Go.ChangeShapes BgPure BgRes EdPure NtPure
theorem rowIs_own {r : Nat} {W W' : World} {vs : List Value} {row : Option Nat} (h : RowIs r W vs) (hg : W.grownBy W' row) (hr : ∀ k, row = some k → ∃ o : Obj, W.heap[k]? = some o ∧ o.isCells = false) : RowIs r W' vs :=
  fun i hi => ⟨cell_kept (h i hi).1 hg hr, (frozen_kept (h i hi).1 hg hr).trans (h i hi).2⟩
/-- One row's values; the rows. -/
def mtV (N : Nat) (F : Nat → Nat → Int) (u : Nat) : List Value := (List.range N).map fun v : Nat => .int .i64 (F u v)
theorem mtV_len (N : Nat) (F : Nat → Nat → Int) (u : Nat) : (mtV N F u).length = N := by unfold mtV; simp
theorem mtV_at {N u v : Nat} {F : Nat → Nat → Int} (h : v < (mtV N F u).length) : (mtV N F u)[v] = .int .i64 (F u v) := by simp only [mtV, List.getElem_map, List.getElem_range]
theorem mtV_congr {N u : Nat} {F G : Nat → Nat → Int} (h : ∀ v, v < N → F u v = G u v) : mtV N F u = mtV N G u := by
  unfold mtV
  exact List.map_congr_left fun v hv => by rw [h v (List.mem_range.1 hv)]
def MtAt (N R : Nat) (rs : Nat → Nat) (F : Nat → Nat → Int) (W : World) : Prop :=
  RowIs R W (rowsV N N rs) ∧ R < W.heap.size ∧ ∀ u, u < N → RowIs (rs u) W (mtV N F u) ∧ (rs u < W.heap.size ∧ rs u ≠ R) ∧ ∀ x, x < N → x ≠ u → rs x ≠ rs u
theorem MtAt.congr {N R : Nat} {rs : Nat → Nat} {F G : Nat → Nat → Int} {W : World} (h : MtAt N R rs F W) (e : ∀ u v, u < N → v < N → F u v = G u v) : MtAt N R rs G W :=
  ⟨h.1, h.2.1, fun u hu => ⟨by rw [← mtV_congr (e u · hu)]; exact (h.2.2 u hu).1, (h.2.2 u hu).2⟩⟩
theorem MtAt.keep {N R : Nat} {rs : Nat → Nat} {F : Nat → Nat → Int} {W W' : World} (h : MtAt N R rs F W) (hb : Below W.heap.size W W') : MtAt N R rs F W' := by
  have hs := hb.size
  exact ⟨h.1.on hb h.2.1, by have := h.2.1; omega, fun u hu => by
    obtain ⟨h1, ⟨h2, h3⟩, h4⟩ := h.2.2 u hu
    exact ⟨h1.on hb h2, ⟨by omega, h3⟩, h4⟩⟩
theorem MtAt.own {N R : Nat} {rs : Nat → Nat} {F : Nat → Nat → Int} {W W' : World} {row : Option Nat} (h : MtAt N R rs F W) (hg : W.grownBy W' row) (hr : ∀ k, row = some k → ∃ o : Obj, W.heap[k]? = some o ∧ o.isCells = false) : MtAt N R rs F W' := by
  have hs := hg.size
  exact ⟨rowIs_own h.1 hg hr, by have := h.2.1; omega, fun u hu => by
    obtain ⟨h1, ⟨h2, h3⟩, h4⟩ := h.2.2 u hu
    exact ⟨rowIs_own h1 hg hr, ⟨by omega, h3⟩, h4⟩⟩
theorem MtAt.drew {N R : Nat} {rs : Nat → Nat} {F : Nat → Nat → Int} {W : World} (h : MtAt N R rs F W) : MtAt N R rs F W.drew := h
theorem MtAt.row {N R u : Nat} {rs : Nat → Nat} {F : Nat → Nat → Int} {W : World} (h : MtAt N R rs F W) (hu : u < N) : W.cell? ⟨R, u, none⟩ = some (.slice (some ⟨rs u, 0, none⟩) N N) := by
  have := (h.1 u (by rw [rowsV_len]; exact hu)).1
  rw [rowsV_at, if_pos hu] at this
  exact this
theorem MtAt.cell {N R u v : Nat} {rs : Nat → Nat} {F : Nat → Nat → Int} {W : World} (h : MtAt N R rs F W) (hu : u < N) (hv : v < N) : W.cell? ⟨rs u, v, none⟩ = some (.int .i64 (F u v)) ∧ W.frozen? ⟨rs u, v, none⟩ = false := by
  have := (h.2.2 u hu).1 v (by rw [mtV_len]; exact hv)
  rw [mtV_at] at this
  exact this
/-- One place is turned. -/
def updM (F : Nat → Nat → Int) (u v : Nat) (z : Int) (x y : Nat) : Int := if x = u ∧ y = v then z else F x y
theorem MtAt.put {N R u v : Nat} {rs : Nat → Nat} {F : Nat → Nat → Int} {W : World} (h : MtAt N R rs F W) (hu : u < N) (hv : v < N) (z : Int) : MtAt N R rs (updM F u v z) (W.setCell ⟨rs u, v, none⟩ (.int .i64 z)) := by
  obtain ⟨-, ⟨g2, g3⟩, g4⟩ := h.2.2 u hu
  refine ⟨row_other h.1 (Ne.symm g3) _, by simpa using h.2.1, fun x hx => ?_⟩
  obtain ⟨h1, ⟨h2, h3⟩, h4⟩ := h.2.2 x hx
  refine ⟨?_, ⟨by simpa using h2, h3⟩, h4⟩
  by_cases e : x = u
  · subst e
    have := h1.set (k := v) (by rw [mtV_len]; exact hv) (.int .i64 z)
    have e2 : (mtV N F x).set v (.int .i64 z) = mtV N (updM F x v z) x := by
      refine List.ext_getElem (by rw [List.length_set, mtV_len, mtV_len]) fun i i1 i2 => ?_
      rw [List.getElem_set, mtV_at i2]
      unfold updM
      by_cases e3 : v = i
      · subst e3; rw [if_pos rfl, if_pos ⟨rfl, rfl⟩]
      · rw [if_neg e3, if_neg (fun h : x = x ∧ i = v => e3 h.2.symm), mtV_at (by rw [List.length_set] at i1; exact i1)]
    rw [e2] at this
    exact this
  · have e2 : mtV N (updM F u v z) x = mtV N F x := mtV_congr fun y _ => if_neg (fun h : x = u ∧ y = v => e h.1)
    rw [e2]
    exact row_other h1 (g4 x hx e) _
/-- The blocks that may be turned. -/
def MtO (N : Nat) (rs : Nat → Nat) (k : Nat) : Prop := ∃ u, u < N ∧ k = rs u
theorem turn_own {β : Type} {O : Nat → Prop} (W0 : World) {B : Nat} (hB : W0.heap.size ≤ B) : OwnFrom B (fun (_ : β) W => Turn O W0 W) :=
  fun _ W W' row h hg hr => ⟨hg.os.trans h.1, hg.tape.trans h.2.1, hg.output.trans h.2.2.1, Nat.le_trans h.2.2.2.1 hg.size, fun k hk hn => (hg.block k (Nat.lt_of_lt_of_le hk h.2.2.2.1) (fun e => by have := (hr k e.symm).1; omega)).trans (h.2.2.2.2 k hk hn)⟩
theorem mt_own {β : Type} (N R : Nat) (rs : Nat → Nat) (F : β → Nat → Nat → Int) (B : Nat) : OwnFrom B (fun s W => MtAt N R rs (F s) W) := fun _ _ _ _ h hg hr => h.own hg fun k e => (hr k e).2
theorem keeps_turn {O : Nat → Prop} {B : Nat} {W W' : World} (h : Turn O W W') (hO : ∀ k, O k → k < B) : KeepsFrom B W W' :=
  ⟨h.2.2.2.1, fun k o hk ho _ => (h.2.2.2.2 k (Array.getElem?_eq_some_iff.1 ho).1 (fun hn => by have := hO k hn; omega)).trans ho⟩
theorem turn_cell {O : Nat → Prop} {W W' : World} {p : Addr} {v : Value} (h : Turn O W W') (hc : W.cell? p = some v) (hn : ¬ O p.block) : W'.cell? p = some v :=
  (World.cell?_of_block (h.2.2.2.2 _ (World.block_lt_of_cell? W _ hc) hn)).trans hc
/-- What a side comes to: those whom it parts, as far as it has come. -/
def minF (F : Nat → Nat → Int) (wt : Int) (D : Nat → Nat → Bool) (x y : Nat) : Int := if D x y = true then min (F x y) wt else F x y
theorem minF_congr (F : Nat → Nat → Int) (wt : Int) {D D' : Nat → Nat → Bool} {x y : Nat} (h : D x y = D' x y) : minF F wt D x y = minF F wt D' x y := by unfold minF; rw [h]
def pairD (A B : List Nat) (x y : Nat) : Bool := (decide (x ∈ A) && decide (y ∈ B)) || (decide (y ∈ A) && decide (x ∈ B))
/-- One pair more, both ways. -/
theorem min_step {F : Nat → Nat → Int} (hF : ∀ x y, F x y = F y x) (wt : Int) (D : Nat → Nat → Bool) (u v : Nat) (z : Int) (hz : z = min (minF F wt D u v) wt) :
    ∀ x y, updM (updM (minF F wt D) u v z) v u z x y = minF F wt (fun x y => D x y || ((decide (x = u) && decide (y = v)) || (decide (y = u) && decide (x = v)))) x y := by
  have hz2 : z = min (F u v) wt := by
    rw [hz]; unfold minF
    split <;> omega
  intro x y
  unfold updM minF
  by_cases h1 : x = v ∧ y = u
  · obtain ⟨rfl, rfl⟩ := h1
    rw [if_pos ⟨rfl, rfl⟩]
    simp
    rw [hz2, hF]
  · rw [if_neg h1]
    by_cases h2 : x = u ∧ y = v
    · obtain ⟨rfl, rfl⟩ := h2
      rw [if_pos ⟨rfl, rfl⟩]
      simp
      exact hz2
    · rw [if_neg h2]
      have e : ((decide (x = u) && decide (y = v)) || (decide (y = u) && decide (x = v))) = false := by
        rw [Bool.or_eq_false_iff]
        constructor
        · cases h3 : decide (x = u) with
          | false => rfl
          | true => cases h4 : decide (y = v) with
            | false => rfl
            | true => exact absurd ⟨of_decide_eq_true h3, of_decide_eq_true h4⟩ h2
        · cases h3 : decide (y = u) with
          | false => rfl
          | true => cases h4 : decide (x = v) with
            | false => rfl
            | true => exact absurd ⟨of_decide_eq_true h4, of_decide_eq_true h3⟩ h1
      show (if D x y = true then min (F x y) wt else F x y) = if (D x y || ((decide (x = u) && decide (y = v)) || (decide (y = u) && decide (x = v)))) = true then min (F x y) wt else F x y
      rw [e, Bool.or_false]
theorem pairD_symm (A B : List Nat) (x y : Nat) : pairD A B x y = pairD A B y x := by unfold pairD; rw [Bool.or_comm]
theorem pair_snoc (u v : Nat) (pre2 : List Nat) (x y : Nat) : pairD [u] (pre2 ++ [v]) x y = (pairD [u] pre2 x y || ((decide (x = u) && decide (y = v)) || (decide (y = u) && decide (x = v)))) := by
  unfold pairD
  have e : ∀ z : Nat, decide (z ∈ pre2 ++ [v]) = (decide (z ∈ pre2) || decide (z = v)) := fun z => by simp
  have e1 : ∀ z : Nat, decide (z ∈ [u]) = decide (z = u) := fun z => by simp
  rw [e, e, e1, e1]
  cases decide (x = u) <;> cases decide (y = u) <;> cases decide (x ∈ pre2) <;> cases decide (y ∈ pre2) <;> cases decide (x = v) <;> cases decide (y = v) <;> rfl
theorem pair_left (u : Nat) (pre B : List Nat) (x y : Nat) : (pairD pre B x y || pairD [u] B x y) = pairD (pre ++ [u]) B x y := by
  unfold pairD
  have e : ∀ z : Nat, decide (z ∈ pre ++ [u]) = (decide (z ∈ pre) || decide (z ∈ [u])) := fun z => by simp
  rw [e, e]
  cases decide (x ∈ pre) <;> cases decide (y ∈ pre) <;> cases decide (x ∈ [u]) <;> cases decide (y ∈ [u]) <;> cases decide (x ∈ B) <;> cases decide (y ∈ B) <;> rfl
/-- All pairs of a group and its others: just those whom the side parts. -/
theorem pair_all {N g : Nat} (hN : N ≤ 31) (hg : g < 2 ^ N) {x y : Nat} (hx : x < N) (hy : y < N) : pairD (grpN g) (grpN (othG N g)) x y = prA x y g := by
  have key : ∀ {v : Nat} {g : Nat}, v < 32 → decide (v ∈ grpN g) = g.testBit v := fun {v g} hv => by
    have : v ∈ grpN g ↔ g.testBit v = true := ⟨fun h => (VsetPure.listP_mem.1 h).2, fun h => VsetPure.listP_mem.2 ⟨hv, h⟩⟩
    cases h : g.testBit v with
    | true => exact decide_eq_true (this.2 h)
    | false => exact decide_eq_false (fun h2 => by rw [this.1 h2] at h; cases h)
  unfold pairD prA
  rw [key (by omega), key (by omega), key (by omega), key (by omega), oth_bit hg, oth_bit hg, decide_eq_true hx, decide_eq_true hy]
  cases g.testBit x <;> cases g.testBit y <;> rfl
end Go.Proofs.YtceejjgmepaonaaDoor.Bg
