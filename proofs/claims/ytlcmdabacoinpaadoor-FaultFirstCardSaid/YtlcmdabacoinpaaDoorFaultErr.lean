/- Faults within parts, as they lie in memory; At and Within make them. -/
import Derived.Test.YtlcmdabacoinpaaDoorStr
import Derived.Test.YtlcmdabacoinpaaDoorCells
namespace Go.Proofs.YtlcmdabacoinpaaDoor
open Go.RowKit Go.ChangeShapes
namespace Ft
/-- A fault within parts (the outermost first), as it lies in memory below N. -/
def ErrAt (N : Nat) (w : World) (e k : Int) : List (List UInt8) → Value → Prop
  | [], v => ∃ F, F < N ∧ v = .iface 43 (.pointer (some ⟨F, 0, none⟩)) ∧ w.cell? ⟨F, 0, none⟩ = some (.int .i64 e) ∧ w.cell? ⟨F, 1, none⟩ = some (.int .i64 k)
  | p :: ps, v => ∃ F u, F < N ∧ v = .iface 46 (.pointer (some ⟨F, 0, none⟩)) ∧ w.cell? ⟨F, 0, none⟩ = some (encS p) ∧ w.cell? ⟨F, 1, none⟩ = some u ∧ ErrAt N w e k ps u
theorem ErrAt.on {N : Nat} {w w' : World} {e k : Int} (hb : Below N w w') : ∀ {ps : List (List UInt8)} {v : Value}, ErrAt N w e k ps v → ErrAt N w' e k ps v
  | [], _, ⟨F, hF, hv, h0, h1⟩ => ⟨F, hF, hv, (hb.cell (by exact hF)).trans h0, (hb.cell (by exact hF)).trans h1⟩
  | _ :: _, _, ⟨F, u, hF, hv, h0, h1, h2⟩ => ⟨F, u, hF, hv, (hb.cell (by exact hF)).trans h0, (hb.cell (by exact hF)).trans h1, ErrAt.on hb h2⟩
theorem ErrAt.mono {N N' : Nat} {w : World} {e k : Int} (hN : N ≤ N') : ∀ {ps : List (List UInt8)} {v : Value}, ErrAt N w e k ps v → ErrAt N' w e k ps v
  | [], _, ⟨F, hF, hv, h0, h1⟩ => ⟨F, Nat.lt_of_lt_of_le hF hN, hv, h0, h1⟩
  | _ :: _, _, ⟨F, u, hF, hv, h0, h1, h2⟩ => ⟨F, u, Nat.lt_of_lt_of_le hF hN, hv, h0, h1, ErrAt.mono hN h2⟩
theorem ErrAt.over {N : Nat} {w w' : World} {e k : Int} {ps : List (List UInt8)} {v : Value} (h : ErrAt N w e k ps v) (hb : Below w.heap.size w w') (hN : N ≤ w.heap.size) : ErrAt w'.heap.size w' e k ps v :=
  ((h.mono hN).on hb).mono hb.size
/-- Over what leaves all below the block M, which lies behind the error, as it is. -/
theorem ErrAt.iface {N : Nat} {w : World} {e k : Int} : ∀ {ps : List (List UInt8)} {v : Value}, ErrAt N w e k ps v → ∃ t u, v = .iface t u
  | [], _, ⟨_, _, hv, _, _⟩ => ⟨_, _, hv⟩
  | _ :: _, _, ⟨_, _, _, hv, _, _, _⟩ => ⟨_, _, hv⟩
theorem ErrAt.len {N : Nat} {w : World} {e k e' k' : Int} : ∀ {ps ps' : List (List UInt8)} {v : Value}, ErrAt N w e k ps v → ErrAt N w e' k' ps' v → ps.length = ps'.length
  | [], [], _, _, _ => rfl
  | [], _ :: _, _, ⟨_, _, hv, _, _⟩, ⟨_, _, _, hv', _, _, _⟩ => by rw [hv] at hv'; cases hv'
  | _ :: _, [], _, ⟨_, _, _, hv', _, _, _⟩, ⟨_, _, hv, _, _⟩ => by rw [hv] at hv'; cases hv'
  | _ :: _, _ :: _, _, ⟨F, u, _, hv, _, h1, h2⟩, ⟨F', u', _, hv', _, h1', h2'⟩ => by
    rw [hv] at hv'
    cases hv'
    rw [h1] at h1'
    cases h1'
    rw [List.length_cons, List.length_cons, ErrAt.len h2 h2']
open Classical in
/-- How many parts are told of it: the measure of loops along it. -/
noncomputable def errLen (N : Nat) (w : World) (e k : Int) (v : Value) : Nat := if h : ∃ ps, ErrAt N w e k ps v then h.choose.length else 0
theorem errLen_eq {N : Nat} {w : World} {e k : Int} {ps : List (List UInt8)} {v : Value} (h : ErrAt N w e k ps v) : errLen N w e k v = ps.length := by
  unfold errLen
  rw [dif_pos ⟨ps, h⟩]
  exact ErrAt.len (Exists.choose_spec (⟨ps, h⟩ : ∃ qs, ErrAt N w e k qs v)) h
/-- At: an error that is e, e not OK. -/
theorem at_any (e k : Int) (he : e ≠ 0) (w : World) :
    Calls Tryd.prog 7 #[.int .i64 e, .int .i64 k] w fun x w' => x = .returned (.iface 43 (.pointer (some ⟨w.heap.size, 0, none⟩))) ∧ w.alloc (.cells #[.int .i64 e, .int .i64 k] 39) = w' := by
  have t : (e == 0) = false := by simpa using he
  clear he
  go_enter Tryd.func7, Tryd.ntmps7
  go_wp2
  go_ret
  exact ⟨rfl, rfl⟩
theorem errAt_made (e k : Int) (w : World) : ErrAt (w.alloc (.cells #[.int .i64 e, .int .i64 k] 39)).heap.size (w.alloc (.cells #[.int .i64 e, .int .i64 k] 39)) e k [] (.iface 43 (.pointer (some ⟨w.heap.size, 0, none⟩))) :=
  ⟨w.heap.size, by simp, rfl, by simp, by simp⟩
/-- Within: an error, within a part more. -/
theorem within_any (t : TypeId) (u : Value) (s : ByteArray) (w : World) :
    Calls Tryd.prog 8 #[.iface t u, .string s] w fun x w' => x = .returned (.iface 46 (.pointer (some ⟨w.heap.size, 0, none⟩))) ∧ w.alloc (.cells #[.string s, .iface t u] 48) = w' := by
  go_enter Tryd.func8, Tryd.ntmps8
  go_wp2
  go_ret
  exact ⟨rfl, rfl⟩
theorem errAt_within {e k : Int} {ps : List (List UInt8)} {v : Value} {w : World} (h : ErrAt w.heap.size w e k ps v) (p : List UInt8) :
    ErrAt (w.alloc (.cells #[encS p, v] 48)).heap.size (w.alloc (.cells #[encS p, v] 48)) e k (p :: ps) (.iface 46 (.pointer (some ⟨w.heap.size, 0, none⟩))) :=
  ⟨w.heap.size, v, by simp, rfl, by simp, by simp, h.over ((Below.refl _ _).alloc (Nat.le_refl _) _) (Nat.le_refl _)⟩
end Ft
end Go.Proofs.YtlcmdabacoinpaaDoor
