/- The fault of the least place: plain facts, a list of faults in memory, and First. -/
import Derived.Test.YtlcmdabacoinpaaDoorKit
import Derived.Test.YtlcmdabacoinpaaDoorCells
namespace Go.Proofs.YtlcmdabacoinpaaDoor
open Go.RowKit Go.ChangeShapes
namespace Ft
def stepF (c f : Int × Int) : Int × Int := if f.1 ≠ 0 ∧ (c.1 = 0 ∨ f.2 < c.2) then f else c
/-- The first one of the least place, of those that have an error. -/
def foldF (l : List (Int × Int)) : Int × Int := l.foldl stepF (0, 0)
theorem fold_snoc (l : List (Int × Int)) (f : Int × Int) : foldF (l ++ [f]) = stepF (foldF l) f := by unfold foldF; rw [List.foldl_append]; rfl
theorem takeF_next (l : List (Int × Int)) (k : Nat) (h : k < l.length) : foldF (l.take (k + 1)) = stepF (foldF (l.take k)) l[k] := by
  rw [List.take_succ_eq_append_getElem h, fold_snoc]
theorem step_take {c f : Int × Int} (h1 : f.1 ≠ 0) (h2 : c.1 = 0 ∨ f.2 < c.2) : stepF c f = f := if_pos ⟨h1, h2⟩
theorem step_skip {c f : Int × Int} (h : f.1 = 0 ∨ (c.1 ≠ 0 ∧ ¬ f.2 < c.2)) : stepF c f = c := by
  apply if_neg
  rintro ⟨h1, h2⟩
  rcases h with h | ⟨h3, h4⟩
  · exact h1 h
  · rcases h2 with h2 | h2
    · exact h3 h2
    · exact h4 h2
/-- A list of faults in memory. -/
def ReadsP (N : Nat) (w : World) (a : Option Addr) (l : List (Int × Int)) : Prop :=
  l = [] ∨ ∃ b off, a = some ⟨b, off, none⟩ ∧ b < N ∧ ∀ i (h : i < l.length), w.cell? ⟨b, off + i * 2, none⟩ = some (.int .i64 l[i].1) ∧ w.cell? ⟨b, off + i * 2 + 1, none⟩ = some (.int .i64 l[i].2)
theorem ReadsP.on {N : Nat} {w w' : World} {a : Option Addr} {l : List (Int × Int)} (h : ReadsP N w a l) (hb : Below N w w') : ReadsP N w' a l := by
  rcases h with h | ⟨b, off, ha, hN, hc⟩
  · exact Or.inl h
  · exact Or.inr ⟨b, off, ha, hN, fun i hi => ⟨(hb.cell (by exact hN)).trans (hc i hi).1, (hb.cell (by exact hN)).trans (hc i hi).2⟩⟩
theorem ReadsP.mono {N N' : Nat} {w : World} {a : Option Addr} {l : List (Int × Int)} (h : ReadsP N w a l) (hN : N ≤ N') : ReadsP N' w a l := by
  rcases h with h | ⟨b, off, ha, hb, hc⟩
  · exact Or.inl h
  · exact Or.inr ⟨b, off, ha, Nat.lt_of_lt_of_le hb hN, hc⟩
theorem ReadsP.over {N : Nat} {w w' : World} {a : Option Addr} {l : List (Int × Int)} (h : ReadsP N w a l) (hb : Below w.heap.size w w') (hN : N ≤ w.heap.size) : ReadsP w'.heap.size w' a l :=
  ((h.mono hN).on hb).mono hb.size
theorem ReadsP.at {N : Nat} {w : World} {a : Option Addr} {l : List (Int × Int)} (h : ReadsP N w a l) {k : Nat} (hk : k < l.length) :
    ∃ b off, a = some ⟨b, off, none⟩ ∧ b < N ∧ w.cell? ⟨b, off + k * 2, none⟩ = some (.int .i64 l[k].1) ∧ w.cell? ⟨b, off + k * 2 + 1, none⟩ = some (.int .i64 l[k].2) := by
  rcases h with h | ⟨b, off, ha, hN, hc⟩
  · subst h; simp at hk
  · exact ⟨b, off, ha, hN, hc k hk⟩
theorem _root_.Go.Proofs.YtlcmdabacoinpaaDoor.TwoAt.two_past {N M : Nat} {w : World} {u v : Value} (h : TwoAt N w u v) (hM : M ≠ N) (a b : Value) : TwoAt N ((w.setCell ⟨M, 0, none⟩ a).setCell ⟨M, 1, none⟩ b) u v := by
  obtain ⟨h0, h1, f0, f1⟩ := h
  refine ⟨?_, ?_, by simpa using f0, by simpa using f1⟩
  · rw [World.cell?_setCell_other _ ⟨M, 1, none⟩ ⟨N, 0, none⟩ _ (fun e => hM (congrArg Addr.block e)), World.cell?_setCell_other _ ⟨M, 0, none⟩ ⟨N, 0, none⟩ _ (fun e => hM (congrArg Addr.block e))]; exact h0
  · rw [World.cell?_setCell_other _ ⟨M, 1, none⟩ ⟨N, 1, none⟩ _ (fun e => hM (congrArg Addr.block e)), World.cell?_setCell_other _ ⟨M, 0, none⟩ ⟨N, 1, none⟩ _ (fun e => hM (congrArg Addr.block e))]; exact h1
/-- At the head of a round of First. -/
def FirstRel (w0 : World) (l : List (Int × Int)) (k : Nat) (w : World) : Prop :=
  k ≤ l.length ∧ Below w0.heap.size w0 w ∧ TwoAt w0.heap.size w (.int .i64 0) (.int .i64 0) ∧ TwoAt (w0.heap.size + 1) w (.int .i64 (foldF (l.take k)).1) (.int .i64 (foldF (l.take k)).2)
theorem firstRel_start (w : World) (l : List (Int × Int)) : FirstRel w l 0 ((w.alloc (.cells #[.int .i64 0, .int .i64 0] 39)).alloc (.cells #[.int .i64 0, .int .i64 0] 39)) := by
  have h1 := TwoAt.new w (.int .i64 0) (.int .i64 0) 39
  have h2 := TwoAt.new (w.alloc (.cells #[.int .i64 0, .int .i64 0] 39)) (.int .i64 0) (.int .i64 0) 39
  refine ⟨Nat.zero_le _, ((Below.refl _ _).alloc (Nat.le_refl _) _).alloc (by simp) _, h1.on ((Below.refl _ _).alloc (Nat.le_refl _) _) h1.lt, ?_⟩
  rw [List.take_zero]
  simpa [foldF] using h2
end Ft
end Go.Proofs.YtlcmdabacoinpaaDoor
