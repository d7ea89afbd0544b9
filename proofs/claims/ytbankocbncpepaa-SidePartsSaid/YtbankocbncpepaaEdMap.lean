/- A map keyed by pairs that the call makes: what it tells, beside the list of merged edges that it stands for. -/
import Derived.Test.YtbankocbncpepaaEdMem
import Derived.Maps.OwnSet
import Derived.Maps.RangeWalk
import Derived.WideKeyPair
import Derived.WalkMore
namespace Go.Proofs.Ytbankocbncpepaa
open Go.RowKit Go.ChangeShapes Go.Maps Go.WideMaps EdPure NumPure
/-- A pair, as an array. -/
def encP (p : Int × Int) : Value := .agg #[.int .i64 p.1, .int .i64 p.2]
theorem arrP : ArrKey Try.prog 51 3 2 := ⟨Try.underlying51, by kernel_rfl, by kernel_rfl, by kernel_rfl⟩
theorem lawP : Keyed Try.prog 51 := Keyed.of_law arrP.law
theorem typesP : ∃ m, Try.prog.types.size = m + 1 := ⟨Try.prog.types.size - 1, by kernel_rfl⟩
/-- What a pair reads as. -/
def kP (u v : Int) : Lit := .string (keyBytes [.int .i64 u, .int .i64 v])
theorem keyP {u v : Int} (hu : In u) (hv : In v) : keyOf Try.prog 51 (encP (u, v)) = some (kP u v) :=
  keyOf_pair arrP Try.underlying3 typesP (WalkArith.wf_i64 (by unfold In at hu; omega)) (WalkArith.wf_i64 (by unfold In at hv; omega))
theorem kP_key {u v : Int} (hu : In u) (hv : In v) : WideAt.IsKeyLit (kP u v) := lawP.key (keyP hu hv)
theorem kP_inj {u v u' v' : Int} (hu : In u) (hv : In v) (hu' : In u') (hv' : In v') (h : kP u v = kP u' v') : u = u' ∧ v = v' := by
  have := lawP.inj (keyP hu hv) (by rw [h]; exact keyP hu' hv')
  unfold encP at this
  simp only [Value.agg.injEq, Array.mk.injEq, List.cons.injEq, Value.int.injEq, true_and, and_true] at this
  exact this
theorem kP_ne {u v u' v' : Int} (hu : In u) (hv : In v) (hu' : In u') (hv' : In v') (h : ¬ (u = u' ∧ v = v')) : kP u v ≠ kP u' v' := fun e => h (kP_inj hu hv hu' hv' e)
set_option maxRecDepth 20000 in
theorem keyP_inv {v : Value} {kl : Lit} (h : keyOf Try.prog 51 v = some kl) : ∃ a b : Int, v = encP (a, b) ∧ In a ∧ In b ∧ kl = kP a b := by
  have h0 := h
  obtain ⟨m, hm⟩ := typesP
  unfold keyOf at h
  simp only [Try.underlying51] at h
  split at h
  · rename_i hc
    rw [Bool.and_eq_true] at hc
    have hf := hc.2
    cases v with
    | agg cs =>
      have hs : cs.size = 2 := by simpa [Value.formed, Try.underlying51, arrP.size] using hf
      obtain ⟨l⟩ := cs
      match l, hs with
      | [c0, c1], _ =>
        rw [Option.map_eq_some_iff] at h
        obtain ⟨ls, h1, -⟩ := h
        rw [hm] at h1
        unfold Program.keyLits at h1
        simp only [Try.underlying51, Value.cells] at h1
        rw [if_pos (by rw [arrP.size]; rfl), show List.range 2 = [0, 1] from rfl, List.mapM_cons, List.mapM_cons, List.mapM_nil] at h1
        simp only [bind, Option.bind_eq_some_iff, pure, Option.some.injEq, arrP.one, Option.map_eq_some_iff] at h1
        obtain ⟨xs, ⟨y0, g0, _, ⟨y1, g1, _, rfl, rfl⟩, rfl⟩, -⟩ := h1
        have one : ∀ {c : Value} {y : List Lit}, Try.prog.keyLits (m + 1) 3 [c] = some y → ∃ n, c = .int .i64 n ∧ (Lit.int .i64 n).wf = true := by
          intro c y hy
          unfold Program.keyLits at hy
          simp only [Try.underlying3] at hy
          cases c <;> simp at hy
          obtain ⟨⟨rfl, hw⟩, -⟩ := hy
          exact ⟨_, rfl, hw⟩
        have o0 : ∃ n, c0 = .int .i64 n ∧ (Lit.int .i64 n).wf = true := one (y := y0) (by simpa using g0)
        have o1 : ∃ n, c1 = .int .i64 n ∧ (Lit.int .i64 n).wf = true := one (y := y1) (by simpa using g1)
        obtain ⟨a, rfl, wa⟩ := o0
        obtain ⟨b, rfl, wb⟩ := o1
        have ia : In a := bounds_i64 wa
        have ib : In b := bounds_i64 wb
        exact ⟨a, b, rfl, ia, ib, Option.some.inj (h0.symm.trans (keyP ia ib))⟩
    | _ => simp [Value.formed, Try.underlying51] at hf
  · cases h
def dI (z : Int) : DataW Unit := .lit (.int .i64 z)
/-- What the map tells: of each pair whether it is there, and what it weighs. -/
def MapIs (M : List Ed) (D : DataW Unit) : Prop :=
  Tidy D ∧ (∀ u v, In u → In v → has D (kP u v) = hasM M u v) ∧ (∀ u v, In u → In v → D.atKey (kP u v) (dI 0) = dI (wOf M u v)) ∧ size D = M.length
theorem MapIs.empty : MapIs [] (.map []) := ⟨tidy_empty, fun _ _ _ _ => rfl, fun _ _ _ _ => rfl, rfl⟩
theorem MapIs.add {M M' : List Ed} {D : DataW Unit} (h : MapIs M D) (hM : M.Pairwise lt2) {e : Ed} (hu : In e.1) (hv : In e.2.1) (ha : addL M e = some M') : MapIs M' (D.put (kP e.1 e.2.1) (dI (wOf M e.1 e.2.1 + e.2.2))) := by
  obtain ⟨h1, h2, h3, h4⟩ := h
  obtain ⟨a1, a2, -, -, a5⟩ := add_some hM ha
  have hk := kP_key hu hv
  refine ⟨h1.put hk _, fun u v iu iv => ?_, fun u v iu iv => ?_, ?_⟩
  · rw [a1]
    by_cases hx : isAt u v e
    · obtain ⟨x1, x2⟩ := hx
      subst x1 x2
      rw [has_put_same h1.isMap hk, decide_eq_true (p := isAt e.1 e.2.1 e) ⟨rfl, rfl⟩, Bool.or_true]
    · rw [has_put_other (kP_ne iu iv hu hv (fun e2 => hx ⟨e2.1.symm, e2.2.symm⟩)), h2 u v iu iv, decide_eq_false hx, Bool.or_false]
  · rw [a2]
    by_cases hx : isAt u v e
    · rw [if_pos hx]
      obtain ⟨x1, x2⟩ := hx
      subst x1 x2
      rw [atKey_put_same h1.isMap hk]
    · rw [atKey_put_other (kP_ne iu iv hu hv (fun e2 => hx ⟨e2.1.symm, e2.2.symm⟩)), if_neg hx, h3 u v iu iv]
  · rw [size_put h1, h2 _ _ hu hv, h4, a5]
theorem map_addP {M M' : List Ed} {D : DataW Unit} (h : MapIs M D) (hM : M.Pairwise lt2) {p q y : Int} (hu : In p) (hv : In q) (ha : addL M (p, q, y) = some M') {z : Int} (hz : wOf M p q = z) : MapIs M' (D.put (kP p q) (dI (z + y))) := by
  have := MapIs.add (e := (p, q, y)) h hM hu hv ha
  rw [← hz]
  exact this
def OwnsD (w : World) (m k : Nat) (D : DataW Unit) : Prop := w.ownsMap Try.prog 51 (plainElem (H := Unit) Try.prog 2) m k D
theorem map_tight {w : World} {m k : Nat} {D : DataW Unit} (h : OwnsD w m k D) : OwnsD w m (size D) D := by
  obtain ⟨es, clock, hb, F, _, rfl⟩ := h
  exact ⟨es, clock, hb, F, by simp [Maps.size, length_sorted], rfl⟩
theorem map_over {w w' : World} {m k : Nat} {D : DataW Unit} (h : OwnsD w m k D) (e : w'.heap[m]? = w.heap[m]?) : OwnsD w' m k D := by
  obtain ⟨es, clock, hb, r⟩ := h
  exact ⟨es, clock, e.trans hb, r⟩
theorem map_on {w w' : World} {m k : Nat} {D : DataW Unit} (h : OwnsD w m k D) (hb : Below w.heap.size w w') : OwnsD w' m k D := map_over h (hb.block m h.lt)
theorem zero64 (w : World) : (zeroValue 2).run Try.prog w = .ok (.int .i64 0) w := by kernel_rfl
set_option maxRecDepth 20000 in
/-- What a look-up tells. -/
theorem look_any {w : World} {m k : Nat} {M : List Ed} {D : DataW Unit} (h : OwnsD w m k D) (hD : MapIs M D) {u v : Int} (hu : In u) (hv : In v) :
    (Instr.lookup 83 (.map (some m)) (.agg #[.int .i64 u, .int .i64 v]) false).run Try.prog w = .ok (.int .i64 (wOf M u v)) w := by
  obtain ⟨c, hrun, hat, -⟩ := h.lookup_int lawP Try.underlying83 Try.underlying2 (zero64 w) (keyP hu hv)
  have := hat.symm.trans (hD.2.2.1 u v hu hv)
  unfold dI at this
  injection this with e
  injection e with _ e
  unfold encP at hrun
  rw [hrun, e]
end Go.Proofs.Ytbankocbncpepaa
