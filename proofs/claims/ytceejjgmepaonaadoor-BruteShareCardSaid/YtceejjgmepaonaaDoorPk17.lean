/- Texts that the laws of this seat stand on, part 17. -/
import Derived.Test.YtceejjgmepaonaaDoorPk12
import Derived.Maps.OwnSet
import Derived.Maps.RangeWalk
import Derived.WideKeyPair
import Derived.WalkMore
import Derived.Ground.SlgcProg
import Derived.Shelf.SlicesG.Cmp
import Derived.Ground.SlsfProg
import Derived.Shelf.SlLaysF0
import Derived.Test.YtceejjgmepaonaaDoorProg
import Derived.Shelf.SlSortCmp.QuietGrown
import Derived.Deep.RegionWith
import Derived.BigQuiet
import Derived.StillTailTactics
/- A map keyed by pairs that the call makes: what it tells, beside the list of merged edges that it stands for. -/
namespace Go.Proofs.YtceejjgmepaonaaDoor
open Go.RowKit Go.ChangeShapes Go.Maps Go.WideMaps EdPure NumPure
/-- A pair, as an array. -/
def encP (p : Int × Int) : Value := .agg #[.int .i64 p.1, .int .i64 p.2]
theorem arrP : ArrKey Tryd.prog 23 3 2 := ⟨Tryd.underlying23, by kernel_rfl, by kernel_rfl, by kernel_rfl⟩
theorem lawP : Keyed Tryd.prog 23 := Keyed.of_law arrP.law
theorem typesP : ∃ m, Tryd.prog.types.size = m + 1 := ⟨Tryd.prog.types.size - 1, by kernel_rfl⟩
/-- What a pair reads as. -/
def kP (u v : Int) : Lit := .string (keyBytes [.int .i64 u, .int .i64 v])
theorem keyP {u v : Int} (hu : In u) (hv : In v) : keyOf Tryd.prog 23 (encP (u, v)) = some (kP u v) :=
  keyOf_pair arrP Tryd.underlying3 typesP (WalkArith.wf_i64 (by unfold In at hu; omega)) (WalkArith.wf_i64 (by unfold In at hv; omega))
theorem kP_key {u v : Int} (hu : In u) (hv : In v) : WideAt.IsKeyLit (kP u v) := lawP.key (keyP hu hv)
theorem kP_inj {u v u' v' : Int} (hu : In u) (hv : In v) (hu' : In u') (hv' : In v') (h : kP u v = kP u' v') : u = u' ∧ v = v' := by
  have := lawP.inj (keyP hu hv) (by rw [h]; exact keyP hu' hv')
  unfold encP at this
  simp only [Value.agg.injEq, Array.mk.injEq, List.cons.injEq, Value.int.injEq, true_and, and_true] at this
  exact this
theorem kP_ne {u v u' v' : Int} (hu : In u) (hv : In v) (hu' : In u') (hv' : In v') (h : ¬ (u = u' ∧ v = v')) : kP u v ≠ kP u' v' := fun e => h (kP_inj hu hv hu' hv' e)
set_option maxRecDepth 20000 in
theorem keyP_inv {v : Value} {kl : Lit} (h : keyOf Tryd.prog 23 v = some kl) : ∃ a b : Int, v = encP (a, b) ∧ In a ∧ In b ∧ kl = kP a b := by
  have h0 := h
  obtain ⟨m, hm⟩ := typesP
  unfold keyOf at h
  simp only [Tryd.underlying23] at h
  split at h
  · rename_i hc
    rw [Bool.and_eq_true] at hc
    have hf := hc.2
    cases v with
    | agg cs =>
      have hs : cs.size = 2 := by simpa [Value.formed, Tryd.underlying23, arrP.size] using hf
      obtain ⟨l⟩ := cs
      match l, hs with
      | [c0, c1], _ =>
        rw [Option.map_eq_some_iff] at h
        obtain ⟨ls, h1, -⟩ := h
        rw [hm] at h1
        unfold Program.keyLits at h1
        simp only [Tryd.underlying23, Value.cells] at h1
        rw [if_pos (by rw [arrP.size]; rfl), show List.range 2 = [0, 1] from rfl, List.mapM_cons, List.mapM_cons, List.mapM_nil] at h1
        simp only [bind, Option.bind_eq_some_iff, pure, Option.some.injEq, arrP.one, Option.map_eq_some_iff] at h1
        obtain ⟨xs, ⟨y0, g0, _, ⟨y1, g1, _, rfl, rfl⟩, rfl⟩, -⟩ := h1
        have one : ∀ {c : Value} {y : List Lit}, Tryd.prog.keyLits (m + 1) 3 [c] = some y → ∃ n, c = .int .i64 n ∧ (Lit.int .i64 n).wf = true := by
          intro c y hy
          unfold Program.keyLits at hy
          simp only [Tryd.underlying3] at hy
          cases c <;> simp at hy
          obtain ⟨⟨rfl, hw⟩, -⟩ := hy
          exact ⟨_, rfl, hw⟩
        have o0 : ∃ n, c0 = .int .i64 n ∧ (Lit.int .i64 n).wf = true := one (y := y0) (by simpa using g0)
        have o1 : ∃ n, c1 = .int .i64 n ∧ (Lit.int .i64 n).wf = true := one (y := y1) (by simpa using g1)
        obtain ⟨a, rfl, wa⟩ := o0
        obtain ⟨b, rfl, wb⟩ := o1
        have ia : In a := bounds_i64 wa
        have ib : In b := bounds_i64 wb
        exact ⟨a, b, rfl, ia, ib, Option.some.inj (h0.symm.trans (keyP ia ib))⟩
    | _ => simp [Value.formed, Tryd.underlying23] at hf
  · cases h
def dI (z : Int) : DataW Unit := .lit (.int .i64 z)
/-- What the map tells: of each pair whether it is there, and what it weighs. -/
def MapIs (M : List Ed) (D : DataW Unit) : Prop :=
  Tidy D ∧ (∀ u v, In u → In v → has D (kP u v) = hasM M u v) ∧ (∀ u v, In u → In v → D.atKey (kP u v) (dI 0) = dI (wOf M u v)) ∧ size D = M.length
theorem MapIs.empty : MapIs [] (.map []) := ⟨tidy_empty, fun _ _ _ _ => rfl, fun _ _ _ _ => rfl, rfl⟩
theorem MapIs.add {M M' : List Ed} {D : DataW Unit} (h : MapIs M D) (hM : M.Pairwise lt2) {e : Ed} (hu : In e.1) (hv : In e.2.1) (ha : addL M e = some M') : MapIs M' (D.put (kP e.1 e.2.1) (dI (wOf M e.1 e.2.1 + e.2.2))) := by
  obtain ⟨h1, h2, h3, h4⟩ := h
  obtain ⟨a1, a2, -, -, a5⟩ := add_some hM ha
  have hk := kP_key hu hv
  refine ⟨h1.put hk _, fun u v iu iv => ?_, fun u v iu iv => ?_, ?_⟩
  · rw [a1]
    by_cases hx : isAt u v e
    · obtain ⟨x1, x2⟩ := hx
      subst x1 x2
      rw [has_put_same h1.isMap hk, decide_eq_true (p := isAt e.1 e.2.1 e) ⟨rfl, rfl⟩, Bool.or_true]
    · rw [has_put_other (kP_ne iu iv hu hv (fun e2 => hx ⟨e2.1.symm, e2.2.symm⟩)), h2 u v iu iv, decide_eq_false hx, Bool.or_false]
  · rw [a2]
    by_cases hx : isAt u v e
    · rw [if_pos hx]
      obtain ⟨x1, x2⟩ := hx
      subst x1 x2
      rw [atKey_put_same h1.isMap hk]
    · rw [atKey_put_other (kP_ne iu iv hu hv (fun e2 => hx ⟨e2.1.symm, e2.2.symm⟩)), if_neg hx, h3 u v iu iv]
  · rw [size_put h1, h2 _ _ hu hv, h4, a5]
theorem map_addP {M M' : List Ed} {D : DataW Unit} (h : MapIs M D) (hM : M.Pairwise lt2) {p q y : Int} (hu : In p) (hv : In q) (ha : addL M (p, q, y) = some M') {z : Int} (hz : wOf M p q = z) : MapIs M' (D.put (kP p q) (dI (z + y))) := by
  have := MapIs.add (e := (p, q, y)) h hM hu hv ha
  rw [← hz]
  exact this
def OwnsD (w : World) (m k : Nat) (D : DataW Unit) : Prop := w.ownsMap Tryd.prog 23 (plainElem (H := Unit) Tryd.prog 2) m k D
theorem map_tight {w : World} {m k : Nat} {D : DataW Unit} (h : OwnsD w m k D) : OwnsD w m (size D) D := by
  obtain ⟨es, clock, hb, F, _, rfl⟩ := h
  exact ⟨es, clock, hb, F, by simp [Maps.size, length_sorted], rfl⟩
theorem map_over {w w' : World} {m k : Nat} {D : DataW Unit} (h : OwnsD w m k D) (e : w'.heap[m]? = w.heap[m]?) : OwnsD w' m k D := by
  obtain ⟨es, clock, hb, r⟩ := h
  exact ⟨es, clock, e.trans hb, r⟩
theorem map_on {w w' : World} {m k : Nat} {D : DataW Unit} (h : OwnsD w m k D) (hb : Below w.heap.size w w') : OwnsD w' m k D := map_over h (hb.block m h.lt)
theorem zero64 (w : World) : (zeroValue 2).run Tryd.prog w = .ok (.int .i64 0) w := by kernel_rfl
set_option maxRecDepth 20000 in
/-- What a look-up tells. -/
theorem look_any {w : World} {m k : Nat} {M : List Ed} {D : DataW Unit} (h : OwnsD w m k D) (hD : MapIs M D) {u v : Int} (hu : In u) (hv : In v) :
    (Instr.lookup 101 (.map (some m)) (.agg #[.int .i64 u, .int .i64 v]) false).run Tryd.prog w = .ok (.int .i64 (wOf M u v)) w := by
  obtain ⟨c, hrun, hat, -⟩ := h.lookup_int lawP Tryd.underlying101 Tryd.underlying2 (zero64 w) (keyP hu hv)
  have := hat.symm.trans (hD.2.2.1 u v hu hv)
  unfold dI at this
  injection this with e
  injection e with _ e
  unfold encP at hrun
  rw [hrun, e]
end Go.Proofs.YtceejjgmepaonaaDoor
/- The library's contracts that edges lean on, laid at this program: cmp.Compare at both kinds and slices.SortFunc at api.Edge. -/
namespace Go.Proofs
open Go.Shelf
def Tryd.laysCmp64_ren : Go.Shelf.Ren := ⟨fun | 5 => 70 | 7 => 92 | n => n, fun | 22 => 2 | 3 => 3 | 4 => 4 | n => n, fun | n => n⟩
theorem Tryd.laysCmp64 : Go.Proofs.SlLaysC2.n5 Tryd.prog Tryd.laysCmp64_ren := {
  mixed := by kernel_rfl
  f5 := ⟨Tryd.f70.name, by decide, Tryd.func70.trans (congrArg some (by kernel_rfl))⟩
  f7 := ⟨Tryd.f92.name, by decide, Tryd.func92.trans (congrArg some (by kernel_rfl))⟩
  t3 := Tryd.underlying3
  a3 := Tryd.isAgg3
  z3 := Tryd.sizeOf3
  v3 := Tryd.zeroValue3
  t4 := Tryd.underlying4
  a4 := Tryd.isAgg4
  z4 := Tryd.sizeOf4
  v4 := Tryd.zeroValue4
  t22 := Tryd.underlying2
  a22 := Tryd.isAgg2
  z22 := Tryd.sizeOf2
  v22 := Tryd.zeroValue2 }
def Tryd.laysCmp_ren : Go.Shelf.Ren := ⟨fun | 5 => 69 | 7 => 91 | n => n, fun | 22 => 3 | 3 => 3 | 4 => 4 | n => n, fun | n => n⟩
theorem Tryd.laysCmp : Go.Proofs.SlLaysC2.n5 Tryd.prog Tryd.laysCmp_ren := {
  mixed := by kernel_rfl
  f5 := ⟨Tryd.f69.name, by decide, Tryd.func69.trans (congrArg some (by kernel_rfl))⟩
  f7 := ⟨Tryd.f91.name, by decide, Tryd.func91.trans (congrArg some (by kernel_rfl))⟩
  t3 := Tryd.underlying3
  a3 := Tryd.isAgg3
  z3 := Tryd.sizeOf3
  v3 := Tryd.zeroValue3
  t4 := Tryd.underlying4
  a4 := Tryd.isAgg4
  z4 := Tryd.sizeOf4
  v4 := Tryd.zeroValue4
  t22 := Tryd.underlying3
  a22 := Tryd.isAgg3
  z22 := Tryd.sizeOf3
  v22 := Tryd.zeroValue3 }
def Tryd.laysSortF_ren : Go.Shelf.Ren := ⟨fun | 6 => 47 | 15 => 67 | 14 => 66 | 28 => 89 | 29 => 90 | 20 => 81 | 21 => 82 | 22 => 83 | 23 => 84 | 24 => 85 | 25 => 86 | 26 => 87 | 27 => 88 | 46 => 99 | 47 => 100 | 48 => 101 | 49 => 102 | 50 => 103 | 57 => 107 | n => n, fun | 22 => 22 | 24 => 54 | 25 => 105 | 3 => 3 | 39 => 113 | 0 => 0 | 53 => 73 | 55 => 137 | 4 => 4 | 46 => 150 | 45 => 149 | 50 => 154 | 5 => 5 | 9 => 9 | 66 => 160 | 70 => 164 | 76 => 171 | 77 => 172 | n => n, fun | n => n⟩
theorem Tryd.laysSortF : Go.Proofs.SlLaysF0.n6 Tryd.prog Tryd.laysSortF_ren := {
  mixed := by kernel_rfl
  f6 := ⟨Tryd.f47.name, by decide, Tryd.func47.trans (congrArg some (by kernel_rfl))⟩
  f14 := ⟨Tryd.f66.name, by decide, Tryd.func66.trans (congrArg some (by kernel_rfl))⟩
  f15 := Tryd.func67.trans (congrArg some (by kernel_rfl))
  f20 := ⟨Tryd.f81.name, by decide, Tryd.func81.trans (congrArg some (by kernel_rfl))⟩
  f21 := ⟨Tryd.f82.name, by decide, Tryd.func82.trans (congrArg some (by kernel_rfl))⟩
  f22 := ⟨Tryd.f83.name, by decide, Tryd.func83.trans (congrArg some (by kernel_rfl))⟩
  f23 := ⟨Tryd.f84.name, by decide, Tryd.func84.trans (congrArg some (by kernel_rfl))⟩
  f24 := ⟨Tryd.f85.name, by decide, Tryd.func85.trans (congrArg some (by kernel_rfl))⟩
  f25 := ⟨Tryd.f86.name, by decide, Tryd.func86.trans (congrArg some (by kernel_rfl))⟩
  f26 := ⟨Tryd.f87.name, by decide, Tryd.func87.trans (congrArg some (by kernel_rfl))⟩
  f27 := ⟨Tryd.f88.name, by decide, Tryd.func88.trans (congrArg some (by kernel_rfl))⟩
  f28 := Tryd.func89.trans (congrArg some (by kernel_rfl))
  f29 := Tryd.func90.trans (congrArg some (by kernel_rfl))
  f46 := ⟨Tryd.f99.name, by decide, Tryd.func99.trans (congrArg some (by kernel_rfl))⟩
  f47 := Tryd.func100.trans (congrArg some (by kernel_rfl))
  f48 := Tryd.func101.trans (congrArg some (by kernel_rfl))
  f49 := ⟨Tryd.f102.name, by decide, Tryd.func102.trans (congrArg some (by kernel_rfl))⟩
  f50 := ⟨Tryd.f103.name, by decide, Tryd.func103.trans (congrArg some (by kernel_rfl))⟩
  f57 := ⟨Tryd.f107.name, by decide, Tryd.func107.trans (congrArg some (by kernel_rfl))⟩
  t0 := Tryd.underlying0
  a0 := Tryd.isAgg0
  z0 := Tryd.sizeOf0
  v0 := Tryd.zeroValue0
  t3 := Tryd.underlying3
  a3 := Tryd.isAgg3
  z3 := Tryd.sizeOf3
  v3 := Tryd.zeroValue3
  t4 := Tryd.underlying4
  a4 := Tryd.isAgg4
  z4 := Tryd.sizeOf4
  v4 := Tryd.zeroValue4
  t5 := Tryd.underlying5
  a5 := Tryd.isAgg5
  z5 := Tryd.sizeOf5
  v5 := Tryd.zeroValue5
  t9 := Tryd.underlying9
  a9 := Tryd.isAgg9
  z9 := Tryd.sizeOf9
  v9 := Tryd.zeroValue9
  t22 := Tryd.underlying22
  a22 := Tryd.isAgg22
  z22 := Tryd.sizeOf22
  v22 := Tryd.zeroValue22
  t25 := Tryd.underlying105
  a25 := Tryd.isAgg105
  z25 := Tryd.sizeOf105
  v25 := Tryd.zeroValue105
  t39 := Tryd.underlying113
  a39 := Tryd.isAgg113
  z39 := Tryd.sizeOf113
  v39 := Tryd.zeroValue113
  t45 := Tryd.underlying149
  a45 := Tryd.isAgg149
  z45 := Tryd.sizeOf149
  v45 := Tryd.zeroValue149
  t46 := Tryd.underlying150
  a46 := Tryd.isAgg150
  z46 := Tryd.sizeOf150
  v46 := Tryd.zeroValue150
  t50 := Tryd.underlying154
  a50 := Tryd.isAgg154
  z50 := Tryd.sizeOf154
  v50 := Tryd.zeroValue154
  t53 := Tryd.underlying73
  a53 := Tryd.isAgg73
  z53 := Tryd.sizeOf73
  v53 := Tryd.zeroValue73
  t55 := Tryd.underlying137
  a55 := Tryd.isAgg137
  z55 := Tryd.sizeOf137
  v55 := Tryd.zeroValue137
  t66 := Tryd.underlying160
  a66 := Tryd.isAgg160
  z66 := Tryd.sizeOf160
  v66 := Tryd.zeroValue160
  t70 := Tryd.underlying164
  a70 := Tryd.isAgg164
  z70 := Tryd.sizeOf164
  v70 := Tryd.zeroValue164
  t76 := Tryd.underlying171
  a76 := Tryd.isAgg171
  z76 := Tryd.sizeOf171
  v76 := Tryd.zeroValue171
  t77 := Tryd.underlying172
  a77 := Tryd.isAgg172
  z77 := Tryd.sizeOf172
  v77 := Tryd.zeroValue172 }
end Go.Proofs
/- Contracts of edge's small functions: isVertex, Check, Normal, ends, Cmp. -/
namespace Go.Proofs.YtceejjgmepaonaaDoor
open Go.RowKit Go.ChangeShapes EdPure
theorem isVertex_any (n v : Int) (w : World) :
    Calls Tryd.prog 63 #[.int .i64 n, .int .i64 v] w fun e w' => e = .returned (.bool (decide (0 ≤ v) && decide (v < n))) ∧ w = w' := by
  by_cases h1 : 0 ≤ v
  · have HE : Hid ((decide (0 ≤ v) && decide (v < n)) = decide (v < n)) := Lib.hid (by simp [h1])
    go_enter Tryd.func63, Tryd.ntmps63
    go_wp2
    go_ret
    exact ⟨bool_ret HE.out.symm, rfl⟩
  · have HE : Hid ((decide (0 ≤ v) && decide (v < n)) = false) := Lib.hid (by simp [h1])
    go_enter Tryd.func63, Tryd.ntmps63
    go_wp2
    go_ret
    exact ⟨bool_ret HE.out.symm, rfl⟩
theorem vertex_yes {n v : Int} (h : 0 ≤ v ∧ v < n) (w : World) :
    Calls Tryd.prog 63 #[.int .i64 n, .int .i64 v] w fun e w' => e = .returned (.bool true) ∧ w = w' := by
  have := isVertex_any n v w
  rwa [show (decide (0 ≤ v) && decide (v < n)) = true by simp [h.1, h.2]] at this
theorem vertex_no {n v : Int} (h : ¬ (0 ≤ v ∧ v < n)) (w : World) :
    Calls Tryd.prog 63 #[.int .i64 n, .int .i64 v] w fun e w' => e = .returned (.bool false) ∧ w = w' := by
  have := isVertex_any n v w
  rwa [show (decide (0 ≤ v) && decide (v < n)) = false by rw [Bool.and_eq_false_iff, decide_eq_false_iff_not, decide_eq_false_iff_not]; omega] at this
theorem check_any (n : Int) (e : Ed) (w : World) :
    Calls Tryd.prog 45 #[.int .i64 n, encE e] w fun r w' => r = .returned (.int .i64 (chkE n e)) ∧ Below w.heap.size w w' := by
  obtain ⟨u, v, x⟩ := e
  unfold encE
  by_cases h1 : 0 ≤ u ∧ u < n
  · have H1 := Lib.hid (fun W => vertex_yes h1 W)
    by_cases h2 : 0 ≤ v ∧ v < n
    · have H2 := Lib.hid (fun W => vertex_yes h2 W)
      by_cases h3 : 0 ≤ x
      · by_cases h4 : x ≤ 2147483648
        · have HE : Hid (chkE n (u, v, x) = 0) := Lib.hid (by unfold chkE; rw [if_pos ⟨h1, h2⟩, if_pos ⟨h3, h4⟩])
          clear h1 h2
          go_enter Tryd.func45, Tryd.ntmps45
          go_wp2_with (first | (go_at_call 63; first | (go_fit (H1.out _); rintro r w' ⟨rfl, rfl⟩) | (go_fit (H2.out _); rintro r w' ⟨rfl, rfl⟩)))
          go_ret
          exact ⟨ret_i HE.out.symm, (Below.refl _ _).alloc (Nat.le_refl _) _⟩
        · have HE : Hid (chkE n (u, v, x) = 5) := Lib.hid (by unfold chkE; rw [if_pos ⟨h1, h2⟩, if_neg (by simp only; omega)])
          clear h1 h2
          go_enter Tryd.func45, Tryd.ntmps45
          go_wp2_with (first | (go_at_call 63; first | (go_fit (H1.out _); rintro r w' ⟨rfl, rfl⟩) | (go_fit (H2.out _); rintro r w' ⟨rfl, rfl⟩)))
          go_ret
          exact ⟨ret_i HE.out.symm, (Below.refl _ _).alloc (Nat.le_refl _) _⟩
      · have HE : Hid (chkE n (u, v, x) = 5) := Lib.hid (by unfold chkE; rw [if_pos ⟨h1, h2⟩, if_neg (by simp only; omega)])
        clear h1 h2
        go_enter Tryd.func45, Tryd.ntmps45
        go_wp2_with (first | (go_at_call 63; first | (go_fit (H1.out _); rintro r w' ⟨rfl, rfl⟩) | (go_fit (H2.out _); rintro r w' ⟨rfl, rfl⟩)))
        go_ret
        exact ⟨ret_i HE.out.symm, (Below.refl _ _).alloc (Nat.le_refl _) _⟩
    · have H2 := Lib.hid (fun W => vertex_no h2 W)
      have HE : Hid (chkE n (u, v, x) = 4) := Lib.hid (by unfold chkE; rw [if_neg (fun h => h2 h.2)])
      clear h1 h2
      go_enter Tryd.func45, Tryd.ntmps45
      go_wp2_with (first | (go_at_call 63; first | (go_fit (H1.out _); rintro r w' ⟨rfl, rfl⟩) | (go_fit (H2.out _); rintro r w' ⟨rfl, rfl⟩)))
      go_ret
      exact ⟨ret_i HE.out.symm, (Below.refl _ _).alloc (Nat.le_refl _) _⟩
  · have H1 := Lib.hid (fun W => vertex_no h1 W)
    have HE : Hid (chkE n (u, v, x) = 4) := Lib.hid (by unfold chkE; rw [if_neg (fun h => h1 h.1)])
    clear h1
    go_enter Tryd.func45, Tryd.ntmps45
    go_wp2_with (first | (go_at_call 63; refine (H1.out _).mono ?_; rintro r w' ⟨rfl, rfl⟩))
    go_ret
    exact ⟨ret_i HE.out.symm, (Below.refl _ _).alloc (Nat.le_refl _) _⟩
theorem agg_e {e e' : Ed} (h : e = e') : Ending.returned (.agg #[.int .i64 e.1, .int .i64 e.2.1, .int .i64 e.2.2]) = .returned (encE e') := by rw [h]; rfl
theorem below_two {w : World} {o o' : Obj} : Below w.heap.size w ((w.alloc o).alloc o') := ((Below.refl _ _).alloc (Nat.le_refl _) _).alloc (by simp) _
theorem normal_any (e : Ed) (w : World) :
    Calls Tryd.prog 80 #[encE e] w fun r w' => r = .returned (encE (normE e)) ∧ Below w.heap.size w w' := by
  obtain ⟨u, v, x⟩ := e
  unfold encE
  by_cases h : v < u
  · have HE : Hid ((v, u, x) = normE (u, v, x)) := Lib.hid (by unfold normE; rw [if_pos h])
    go_enter Tryd.func80, Tryd.ntmps80
    go_wp2
    refine bodyPost_ret (v := .agg #[.int .i64 v, .int .i64 u, .int .i64 x]) (by simp [results, Tryd.results80, go_sem]) rfl ⟨agg_e HE.out, ?_⟩
    first | exact below_two | (refine Below.setCell (Below.setCell (Below.setCell ?_ ?_ _) ?_ _) ?_ _ <;> first | exact below_two | simp)
  · have HE : Hid ((u, v, x) = normE (u, v, x)) := Lib.hid (by unfold normE; rw [if_neg h])
    go_enter Tryd.func80, Tryd.ntmps80
    go_wp2
    refine bodyPost_ret (v := .agg #[.int .i64 u, .int .i64 v, .int .i64 x]) (by simp [results, Tryd.results80, go_sem]) rfl ⟨agg_e HE.out, ?_⟩
    exact below_two


theorem ends_any (e : Ed) (w : World) :
    Calls Tryd.prog 64 #[encE e] w fun r w' => r = .returned (encP (endsE e)) ∧ Below w.heap.size w w' := by
  have HE : Hid (encP (endsE e) = .agg #[.int .i64 (normE e).1, .int .i64 (normE e).2.1]) := Lib.hid rfl
  have HN := Lib.hid (fun W => normal_any e W)
  obtain ⟨u, v, x⟩ := e
  unfold encE at HN ⊢
  generalize normE (u, v, x) = q at *
  obtain ⟨a, b, c⟩ := q
  go_enter Tryd.func64, Tryd.ntmps64
  go_wp2_with fail
  have H3 : Hid (ThreeAt w.heap.size ((w.alloc (.cells #[.int .i64 u, .int .i64 v, .int .i64 x] 54)).alloc (.cells #[.int .i64 0, .int .i64 0] 23)) (.int .i64 u) (.int .i64 v) (.int .i64 x)) := Lib.hid (by
    have h := ThreeAt.new w (.int .i64 u) (.int .i64 v) (.int .i64 x) 54
    exact h.on ((Below.refl _ _).alloc (Nat.le_refl _) _) h.lt)
  have H2 : Hid (TwoAt (w.heap.size + 1) ((w.alloc (.cells #[.int .i64 u, .int .i64 v, .int .i64 x] 54)).alloc (.cells #[.int .i64 0, .int .i64 0] 23)) (.int .i64 0) (.int .i64 0)) := Lib.hid (by
    have h := TwoAt.new (w.alloc (.cells #[.int .i64 u, .int .i64 v, .int .i64 x] 54)) (.int .i64 0) (.int .i64 0) 23
    simpa using h)
  have HB : Hid (Below w.heap.size w ((w.alloc (.cells #[.int .i64 u, .int .i64 v, .int .i64 x] 54)).alloc (.cells #[.int .i64 0, .int .i64 0] 23))) := Lib.hid below_two
  generalize (w.alloc (.cells #[.int .i64 u, .int .i64 v, .int .i64 x] 54)).alloc (.cells #[.int .i64 0, .int .i64 0] 23) = W0 at *
  refine (HN.out _).mono ?_
  rintro r w1 ⟨rfl, hb⟩
  replace HB := Lib.hid (HB.out.trans (hb.mono HB.out.size))
  obtain ⟨c0, c1, c2, f0, f1, f2⟩ := H3.out.on hb H3.out.lt
  obtain ⟨d0, d1, g0, g1⟩ := H2.out.on hb H2.out.lt
  clear hb HN H2 H3
  generalize hN : w.heap.size = N at *
  go_wp2
  refine bodyPost_ret (v := .agg #[.int .i64 a, .int .i64 b]) (by simp [results, Tryd.results64, go_sem, d0, d1]) rfl ⟨by rw [HE.out], ?_⟩
  rw [hN]
  exact ((((HB.out.setCell (Nat.le_refl _) _).setCell (Nat.le_refl _) _).setCell (Nat.le_refl _) _).setCell (by simp) _).setCell (by simp) _
/-- The first of three numbers that is not 0. -/
theorem or3_any (g : Nat) (x y z : Int) (w : World) (h0 : w.cell? ⟨g, 0, none⟩ = some (.int .i64 x)) (h1 : w.cell? ⟨g, 1, none⟩ = some (.int .i64 y)) (h2 : w.cell? ⟨g, 2, none⟩ = some (.int .i64 z)) :
    Calls Tryd.prog 68 #[.slice (some ⟨g, 0, none⟩) 3 3] w fun e w' => e = .returned (.int .i64 (orI x (orI y z))) ∧ w' = w := by
  go_enter Tryd.func68, Tryd.ntmps68
  go_wp2
  go_loopw [8] (fun i wr => ∃ k : Nat, i = .int .i64 k ∧ wr = w ∧ Hid (k ≤ 3 ∧ (1 ≤ k → x = 0) ∧ (2 ≤ k → y = 0) ∧ (3 ≤ k → z = 0))) (fun i _ => 3 - (intOf i).toNat)
  case atStart => exact ⟨0, rfl, rfl, Lib.hid ⟨by omega, fun h => by omega, fun h => by omega, fun h => by omega⟩⟩
  case round =>
    obtain ⟨k, rfl, rfl, HK⟩ := hrel
    obtain rfl | rfl | rfl | rfl : k = 0 ∨ k = 1 ∨ k = 2 ∨ k = 3 := by have := HK.out.1; omega
    · by_cases hx : x = 0
      · have t : (x != 0) = false := by simp [hx]
        have HN := Lib.hid hx
        clear hx
        go_wp2
        go_roundw
        case rel => exact ⟨1, by go_num, trivial, Lib.hid ⟨by omega, fun _ => HN.out, fun h => by omega, fun h => by omega⟩⟩
        case measure => (simp [intOf])
      · have t : (x != 0) = true := by simp [hx]
        have HN : Hid (orI x (orI y z) = x) := Lib.hid (if_neg hx)
        clear hx
        go_wp2
        go_ret
        exact ⟨by rw [HN.out]; rfl, rfl⟩
    · have h0x := Lib.hid (HK.out.2.1 (by omega))
      by_cases hx : y = 0
      · have t : (y != 0) = false := by simp [hx]
        have HN := Lib.hid hx
        clear hx
        go_wp2
        go_roundw
        case rel => exact ⟨2, by go_num, trivial, Lib.hid ⟨by omega, fun _ => h0x.out, fun h => HN.out, fun h => by omega⟩⟩
        case measure => (simp [intOf])
      · have t : (y != 0) = true := by simp [hx]
        have HN : Hid (orI x (orI y z) = y) := Lib.hid (by rw [orI, if_pos h0x.out, orI, if_neg hx])
        clear hx
        go_wp2
        go_ret
        exact ⟨by rw [HN.out]; rfl, rfl⟩
    · have h0x := Lib.hid (HK.out.2.1 (by omega))
      have h0y := Lib.hid (HK.out.2.2.1 (by omega))
      by_cases hx : z = 0
      · have t : (z != 0) = false := by simp [hx]
        have HN := Lib.hid hx
        clear hx
        go_wp2
        go_roundw
        case rel => exact ⟨3, by go_num, trivial, Lib.hid ⟨by omega, fun _ => h0x.out, fun h => h0y.out, fun h => HN.out⟩⟩
        case measure => (simp [intOf])
      · have t : (z != 0) = true := by simp [hx]
        have HN : Hid (orI x (orI y z) = z) := Lib.hid (by rw [orI, if_pos h0x.out, orI, if_pos h0y.out])
        clear hx
        go_wp2
        go_ret
        exact ⟨by rw [HN.out]; rfl, rfl⟩
    · have HN : Hid (orI x (orI y z) = 0) := Lib.hid (by rw [orI, if_pos (HK.out.2.1 (by omega)), orI, if_pos (HK.out.2.2.1 (by omega)), HK.out.2.2.2 (by omega)])
      go_wp2
      go_ret
      exact ⟨by rw [HN.out]; rfl, rfl⟩
theorem cmp64_any (x y : Int) (w : World) : Calls Tryd.prog 70 #[.int .i64 x, .int .i64 y] w fun e w' => e = .returned (.int .i64 (Lib.compareInt x y)) ∧ w' = w := AnyG.cmp_Compare_int Tryd.laysCmp64 x y w
theorem cmpI_any (x y : Int) (w : World) : Calls Tryd.prog 69 #[.int .i64 x, .int .i64 y] w fun e w' => e = .returned (.int .i64 (Lib.compareInt x y)) ∧ w' = w := AnyG.cmp_Compare_int Tryd.laysCmp x y w
set_option maxRecDepth 100000 in
set_option maxHeartbeats 400000 in
theorem cmp_any (a b : Ed) (w : World) :
    Calls Tryd.prog 48 #[encE a, encE b] w fun e w' => e = .returned (.int .i64 (cmpE a b)) ∧ ∃ q os, w' = Go.Sort.grow (w.drewN q) os := by
  obtain ⟨u, v, x⟩ := a
  obtain ⟨u', v', x'⟩ := b
  unfold encE cmpE
  simp only
  have HX := Lib.hid (fun W => cmpI_any u u' W)
  have HY := Lib.hid (fun W => cmpI_any v v' W)
  have HZ := Lib.hid (fun W => cmp64_any x x' W)
  generalize Lib.compareInt u u' = r at *
  generalize Lib.compareInt v v' = s at *
  generalize Lib.compareInt x x' = t at *
  go_enter Tryd.func48, Tryd.ntmps48
  go_wp2
  obtain ⟨W0, hW0⟩ : ∃ W0, (w.alloc (.cells #[.int .i64 u, .int .i64 v, .int .i64 x] 54)).alloc (.cells #[.int .i64 u', .int .i64 v', .int .i64 x'] 54) = W0 := ⟨_, rfl⟩
  have b0 : (W0.drewN 1).cell? ⟨w.heap.size, 0, none⟩ = some (.int .i64 u) := by rw [← hW0]; simp
  have b1 : (W0.drewN 1).cell? ⟨w.heap.size, 1, none⟩ = some (.int .i64 v) := by rw [← hW0]; simp
  have b2 : (W0.drewN 1).cell? ⟨w.heap.size, 2, none⟩ = some (.int .i64 x) := by rw [← hW0]; simp
  have d0 : (W0.drewN 1).cell? ⟨w.heap.size + 1, 0, none⟩ = some (.int .i64 u') := by rw [← hW0]; simp
  have d1 : (W0.drewN 1).cell? ⟨w.heap.size + 1, 1, none⟩ = some (.int .i64 v') := by rw [← hW0]; simp
  have d2 : (W0.drewN 1).cell? ⟨w.heap.size + 1, 2, none⟩ = some (.int .i64 x') := by rw [← hW0]; simp
  have HG : Hid (∀ o, ∃ os, (W0.drewN 1).alloc o = Go.Sort.grow (w.drewN 1) os) := Lib.hid (by
    intro o
    rw [← hW0, Go.Sort.alloc_eq_grow w, Go.Sort.alloc_eq_grow (Go.Sort.grow w _), Go.Sort.grow_grow]
    exact ⟨_, (Go.Sort.alloc_eq_grow _ _).trans (Go.Sort.grow_grow (w.drewN 1) _ _)⟩)
  rw [hW0]
  clear hW0
  generalize w.heap.size = N at *
  refine wp_region_still_tail 15 (by kernel_rfl) (by kernel_rfl) ?_
  change wpStill _ _ (W0.drewN 1) _ _ _
  change wpStill _ _ _ (fun a' => wpList _ _ _ _ _ (W0.drewN 1)) _ _
  generalize W0.drewN 1 = W1 at *
  simp only [List.take_succ_cons, List.take_zero, List.drop_succ_cons, List.drop_zero]
  iterate 4 still_step
  still_call (HX.out _)
  iterate 4 still_step
  still_call (HY.out _)
  iterate 4 still_step
  still_call (HZ.out _)
  refine wpStill_nil ?_
  obtain ⟨os, hos⟩ := HG.out (.cells #[.int .i64 r, .int .i64 s, .int .i64 t] 3)
  have HO := Lib.hid hos
  clear hos
  go_wp2_with fail
  refine (or3_any _ r s t _ (by simp) (by simp) (by simp)).mono ?_
  rintro e w1 ⟨rfl, rfl⟩
  go_wp2
  go_ret
  exact ⟨rfl, 1, os, HO.out⟩
end Go.Proofs.YtceejjgmepaonaaDoor
