/- Small facts on memory and on endings that the walks of this seat share: no function of the program is named. -/
import Derived.Test.YtbankocbncpepaaProg
import Derived.WalkKit
import Derived.WalkSpells
import Derived.WalkLawsBesides
import Derived.OpenShut
import Derived.Lib.Hide
namespace Go.Proofs.Ytbankocbncpepaa
open Go.RowKit Go.ChangeShapes
theorem ret_ib {k : IntKind} {a b : Int} {c d : Bool} (h1 : a = b) (h2 : c = d) : Ending.returned (.tuple #[.int k a, .bool c]) = .returned (.tuple #[.int k b, .bool d]) := by rw [h1, h2]
theorem ret_i {k : IntKind} {a b : Int} (h1 : a = b) : Ending.returned (.int k a) = .returned (.int k b) := by rw [h1]
theorem agg_ib {k : IntKind} {a b : Int} {c d : Bool} (h1 : a = b) (h2 : c = d) : Ending.returned (.agg #[.int k a, .bool c]) = .returned (.agg #[.int k b, .bool d]) := by rw [h1, h2]
theorem bool_ret {a b : Bool} (h : a = b) : Ending.returned (.bool a) = .returned (.bool b) := by rw [h]
/-- What is told of a list of numbers that lies in memory. -/
def Reads (N : Nat) (w : World) (a : Option Addr) (l : List Int) : Prop :=
  l = [] ∨ ∃ b off, a = some ⟨b, off, none⟩ ∧ b < N ∧ ∀ i, i < l.length → w.cell? ⟨b, off + i, none⟩ = some (.int .i64 (l.getD i 0))
theorem Reads.on {N : Nat} {w w' : World} {a : Option Addr} {l : List Int} (h : Reads N w a l) (hb : Below N w w') : Reads N w' a l := by
  rcases h with h | ⟨b, off, ha, hN, hc⟩
  · exact Or.inl h
  · exact Or.inr ⟨b, off, ha, hN, fun i hi => (hb.cell (by exact hN)).trans (hc i hi)⟩
theorem Reads.at {N : Nat} {w : World} {a : Option Addr} {l : List Int} (h : Reads N w a l) {k : Nat} (hk : k < l.length) : ∃ b off, a = some ⟨b, off, none⟩ ∧ b < N ∧ w.cell? ⟨b, off + k, none⟩ = some (.int .i64 (l.getD k 0)) := by
  rcases h with h | ⟨b, off, ha, hN, hc⟩
  · rw [h] at hk; simp at hk
  · exact ⟨b, off, ha, hN, hc k hk⟩
theorem Reads.mono {N N' : Nat} {w : World} {a : Option Addr} {l : List Int} (h : Reads N w a l) (hN : N ≤ N') : Reads N' w a l := by
  rcases h with h | ⟨b, off, ha, hb, hc⟩
  · exact Or.inl h
  · exact Or.inr ⟨b, off, ha, Nat.lt_of_lt_of_le hb hN, hc⟩
theorem Reads.take {N : Nat} {w : World} {a : Option Addr} {l : List Int} (h : Reads N w a l) (k : Nat) : Reads N w a (l.take k) := by
  rcases h with h | ⟨b, off, ha, hb, hc⟩
  · exact Or.inl (by rw [h]; simp)
  · refine Or.inr ⟨b, off, ha, hb, fun i hi => ?_⟩
    rw [List.length_take] at hi
    rw [hc i (by omega)]
    simp [List.getD_eq_getElem?_getD, show i < k by omega]
def Rng (l : List Int) : Prop := ∀ i, i < l.length → -9223372036854775808 ≤ l.getD i 0 ∧ l.getD i 0 ≤ 9223372036854775807
theorem Rng.take {l : List Int} (h : Rng l) (k : Nat) : Rng (l.take k) := by
  intro i hi
  rw [List.length_take] at hi
  have := h i (by omega)
  simpa [List.getD_eq_getElem?_getD, List.getElem?_take, show i < k by omega] using this
/-- In w' only block N may be otherwise. -/
def OnlyAt (N : Nat) (w w' : World) : Prop := (∀ b i, b ≠ N → w'.cell? ⟨b, i, none⟩ = w.cell? ⟨b, i, none⟩) ∧ (∀ b i, b ≠ N → w'.frozen? ⟨b, i, none⟩ = w.frozen? ⟨b, i, none⟩) ∧ w.heap.size ≤ w'.heap.size
theorem OnlyAt.refl (N : Nat) (w : World) : OnlyAt N w w := ⟨fun _ _ _ => rfl, fun _ _ _ => rfl, Nat.le_refl _⟩
theorem OnlyAt.two (N : Nat) (w : World) (u v : Value) : OnlyAt N w ((w.setCell ⟨N, 0, none⟩ u).setCell ⟨N, 1, none⟩ v) := by
  refine ⟨fun b i h => ?_, fun b i h => ?_, by simp⟩
  · rw [World.cell?_setCell_other _ ⟨N, 1, none⟩ ⟨b, i, none⟩ _ (fun e => h (congrArg Addr.block e).symm), World.cell?_setCell_other _ ⟨N, 0, none⟩ ⟨b, i, none⟩ _ (fun e => h (congrArg Addr.block e).symm)]
  · simp
theorem addr_add (b off i : Nat) : (⟨b, off, none⟩ : Addr).add i = ⟨b, off + i, none⟩ := by
  unfold Addr.add
  by_cases h : i = 0 <;> simp [h]
/-- A row of numbers as the statements' frame tells of it, as 'Reads' and 'Rng' tell of its elements. -/
theorem rows_reads {w : World} {x : Addr} {len cap : Nat} {zs : List Int} (hl : len ≤ cap) (hz : zs.length = cap) (hcell : ∀ i, i < zs.length → w.cell? (x.add i) = some (.int .i64 (zs.getD i 0)))
    (hwz : ∀ n ∈ zs, (Lit.int .i64 n).wf = true) : (zs.take len).length = len ∧ Rng (zs.take len) ∧ Reads w.heap.size w (some x) (zs.take len) := by
  have hlen : (zs.take len).length = len := by rw [List.length_take]; omega
  have hget : ∀ i, i < len → (zs.take len).getD i 0 = zs.getD i 0 := by
    intro i hi
    simp [List.getD_eq_getElem?_getD, hi]
  refine ⟨hlen, ?_, ?_⟩
  · intro i hi
    rw [hlen] at hi
    rw [hget i hi]
    have hi' : i < zs.length := by omega
    rw [List.getD_eq_getElem?_getD, List.getElem?_eq_getElem hi']
    exact bounds_i64 (hwz _ (List.getElem_mem hi'))
  · by_cases h0 : len = 0
    · left; rw [h0]; simp
    · right
      have hc0 := hcell 0 (by omega)
      obtain ⟨b, off, spot⟩ := x
      have hspot : spot = none := by simpa [Addr.add] using World.cell?_spot hc0
      subst hspot
      refine ⟨b, off, rfl, World.block_lt_of_cell? w _ hc0, fun i hi => ?_⟩
      rw [hlen] at hi
      rw [hget i hi]
      have := hcell i (by omega)
      rw [addr_add] at this
      exact this
theorem below_drewN {N : Nat} {w w' : World} (h : Below N w w') (n : Nat) : Below N w (w'.drewN n) :=
  h.trans ⟨rfl, rfl, rfl, Nat.le_refl _, fun _ _ => rfl⟩
theorem bcell {W w1 : World} (hb : Below W.heap.size W w1) : (∀ b o, b < W.heap.size → w1.cell? ⟨b, o, none⟩ = W.cell? ⟨b, o, none⟩) ∧ (∀ b o, b < W.heap.size → w1.frozen? ⟨b, o, none⟩ = W.frozen? ⟨b, o, none⟩) :=
  ⟨fun b o h => hb.cell (p := ⟨b, o, none⟩) h, fun b o h => hb.frozen (p := ⟨b, o, none⟩) h⟩
end Go.Proofs.Ytbankocbncpepaa
