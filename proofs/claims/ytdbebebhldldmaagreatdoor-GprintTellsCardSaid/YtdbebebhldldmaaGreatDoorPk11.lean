/- Texts that the laws of this seat stand on, part 11. -/
import Derived.Test.YtdbebebhldldmaaGreatDoorPk10
import Derived.Maps.OwnSet
import Derived.Maps.RangeWalk
import Derived.WideKeyPair
import Derived.WalkMore
import Derived.Ground.SlgcProg
import Derived.Shelf.SlicesG.Cmp
import Derived.Ground.SlsfProg
import Derived.Shelf.SlLaysF0
import Derived.Test.YtdbebebhldldmaaGreatDoorProg
import Derived.Shelf.SlSortCmp.QuietGrown
import Derived.Deep.RegionWith
import Derived.BigQuiet
import Derived.StillTailTactics
import Derived.Test.YtdbebebhldldmaaGreatDoorPk0
import Derived.Test.YtdbebebhldldmaaGreatDoorPk4
/- A map keyed by pairs that the call makes: what it tells, beside the list of merged edges that it stands for. -/
namespace Go.Proofs.YtdbebebhldldmaaGreatDoor
open Go.RowKit Go.ChangeShapes Go.Maps Go.WideMaps EdPure NumPure
/-- A pair, as an array. -/
def encP (p : Int × Int) : Value := .agg #[.int .i64 p.1, .int .i64 p.2]
theorem arrP : ArrKey Tryz.prog 99 3 2 := ⟨Tryz.underlying99, by kernel_rfl, by kernel_rfl, by kernel_rfl⟩
theorem lawP : Keyed Tryz.prog 99 := Keyed.of_law arrP.law
theorem typesP : ∃ m, Tryz.prog.types.size = m + 1 := ⟨Tryz.prog.types.size - 1, by kernel_rfl⟩
/-- What a pair reads as. -/
def kP (u v : Int) : Lit := .string (keyBytes [.int .i64 u, .int .i64 v])
theorem keyP {u v : Int} (hu : In u) (hv : In v) : keyOf Tryz.prog 99 (encP (u, v)) = some (kP u v) :=
  keyOf_pair arrP Tryz.underlying3 typesP (WalkArith.wf_i64 (by unfold In at hu; omega)) (WalkArith.wf_i64 (by unfold In at hv; omega))
theorem kP_key {u v : Int} (hu : In u) (hv : In v) : WideAt.IsKeyLit (kP u v) := lawP.key (keyP hu hv)
theorem kP_inj {u v u' v' : Int} (hu : In u) (hv : In v) (hu' : In u') (hv' : In v') (h : kP u v = kP u' v') : u = u' ∧ v = v' := by
  have := lawP.inj (keyP hu hv) (by rw [h]; exact keyP hu' hv')
  unfold encP at this
  simp only [Value.agg.injEq, Array.mk.injEq, List.cons.injEq, Value.int.injEq, true_and, and_true] at this
  exact this
theorem kP_ne {u v u' v' : Int} (hu : In u) (hv : In v) (hu' : In u') (hv' : In v') (h : ¬ (u = u' ∧ v = v')) : kP u v ≠ kP u' v' := fun e => h (kP_inj hu hv hu' hv' e)
set_option maxRecDepth 20000 in
theorem keyP_inv {v : Value} {kl : Lit} (h : keyOf Tryz.prog 99 v = some kl) : ∃ a b : Int, v = encP (a, b) ∧ In a ∧ In b ∧ kl = kP a b := by
  have h0 := h
  obtain ⟨m, hm⟩ := typesP
  unfold keyOf at h
  simp only [Tryz.underlying99] at h
  split at h
  · rename_i hc
    rw [Bool.and_eq_true] at hc
    have hf := hc.2
    cases v with
    | agg cs =>
      have hs : cs.size = 2 := by simpa [Value.formed, Tryz.underlying99, arrP.size] using hf
      obtain ⟨l⟩ := cs
      match l, hs with
      | [c0, c1], _ =>
        rw [Option.map_eq_some_iff] at h
        obtain ⟨ls, h1, -⟩ := h
        rw [hm] at h1
        unfold Program.keyLits at h1
        simp only [Tryz.underlying99, Value.cells] at h1
        rw [if_pos (by rw [arrP.size]; rfl), show List.range 2 = [0, 1] from rfl, List.mapM_cons, List.mapM_cons, List.mapM_nil] at h1
        simp only [bind, Option.bind_eq_some_iff, pure, Option.some.injEq, arrP.one, Option.map_eq_some_iff] at h1
        obtain ⟨xs, ⟨y0, g0, _, ⟨y1, g1, _, rfl, rfl⟩, rfl⟩, -⟩ := h1
        have one : ∀ {c : Value} {y : List Lit}, Tryz.prog.keyLits (m + 1) 3 [c] = some y → ∃ n, c = .int .i64 n ∧ (Lit.int .i64 n).wf = true := by
          intro c y hy
          unfold Program.keyLits at hy
          simp only [Tryz.underlying3] at hy
          cases c <;> simp at hy
          obtain ⟨⟨rfl, hw⟩, -⟩ := hy
          exact ⟨_, rfl, hw⟩
        have o0 : ∃ n, c0 = .int .i64 n ∧ (Lit.int .i64 n).wf = true := one (y := y0) (by simpa using g0)
        have o1 : ∃ n, c1 = .int .i64 n ∧ (Lit.int .i64 n).wf = true := one (y := y1) (by simpa using g1)
        obtain ⟨a, rfl, wa⟩ := o0
        obtain ⟨b, rfl, wb⟩ := o1
        have ia : In a := bounds_i64 wa
        have ib : In b := bounds_i64 wb
        exact ⟨a, b, rfl, ia, ib, Option.some.inj (h0.symm.trans (keyP ia ib))⟩
    | _ => simp [Value.formed, Tryz.underlying99] at hf
  · cases h
def dI (z : Int) : DataW Unit := .lit (.int .i64 z)
/-- What the map tells: of each pair whether it is there, and what it weighs. -/
def MapIs (M : List Ed) (D : DataW Unit) : Prop :=
  Tidy D ∧ (∀ u v, In u → In v → has D (kP u v) = hasM M u v) ∧ (∀ u v, In u → In v → D.atKey (kP u v) (dI 0) = dI (wOf M u v)) ∧ size D = M.length
theorem MapIs.empty : MapIs [] (.map []) := ⟨tidy_empty, fun _ _ _ _ => rfl, fun _ _ _ _ => rfl, rfl⟩
theorem MapIs.add {M M' : List Ed} {D : DataW Unit} (h : MapIs M D) (hM : M.Pairwise lt2) {e : Ed} (hu : In e.1) (hv : In e.2.1) (ha : addL M e = some M') : MapIs M' (D.put (kP e.1 e.2.1) (dI (wOf M e.1 e.2.1 + e.2.2))) := by
  obtain ⟨h1, h2, h3, h4⟩ := h
  obtain ⟨a1, a2, -, -, a5⟩ := add_some hM ha
  have hk := kP_key hu hv
  refine ⟨h1.put hk _, fun u v iu iv => ?_, fun u v iu iv => ?_, ?_⟩
  · rw [a1]
    by_cases hx : isAt u v e
    · obtain ⟨x1, x2⟩ := hx
      subst x1 x2
      rw [has_put_same h1.isMap hk, decide_eq_true (p := isAt e.1 e.2.1 e) ⟨rfl, rfl⟩, Bool.or_true]
    · rw [has_put_other (kP_ne iu iv hu hv (fun e2 => hx ⟨e2.1.symm, e2.2.symm⟩)), h2 u v iu iv, decide_eq_false hx, Bool.or_false]
  · rw [a2]
    by_cases hx : isAt u v e
    · rw [if_pos hx]
      obtain ⟨x1, x2⟩ := hx
      subst x1 x2
      rw [atKey_put_same h1.isMap hk]
    · rw [atKey_put_other (kP_ne iu iv hu hv (fun e2 => hx ⟨e2.1.symm, e2.2.symm⟩)), if_neg hx, h3 u v iu iv]
  · rw [size_put h1, h2 _ _ hu hv, h4, a5]
theorem map_addP {M M' : List Ed} {D : DataW Unit} (h : MapIs M D) (hM : M.Pairwise lt2) {p q y : Int} (hu : In p) (hv : In q) (ha : addL M (p, q, y) = some M') {z : Int} (hz : wOf M p q = z) : MapIs M' (D.put (kP p q) (dI (z + y))) := by
  have := MapIs.add (e := (p, q, y)) h hM hu hv ha
  rw [← hz]
  exact this
def OwnsD (w : World) (m k : Nat) (D : DataW Unit) : Prop := w.ownsMap Tryz.prog 99 (plainElem (H := Unit) Tryz.prog 2) m k D
theorem map_tight {w : World} {m k : Nat} {D : DataW Unit} (h : OwnsD w m k D) : OwnsD w m (size D) D := by
  obtain ⟨es, clock, hb, F, _, rfl⟩ := h
  exact ⟨es, clock, hb, F, by simp [Maps.size, length_sorted], rfl⟩
theorem map_over {w w' : World} {m k : Nat} {D : DataW Unit} (h : OwnsD w m k D) (e : w'.heap[m]? = w.heap[m]?) : OwnsD w' m k D := by
  obtain ⟨es, clock, hb, r⟩ := h
  exact ⟨es, clock, e.trans hb, r⟩
theorem map_on {w w' : World} {m k : Nat} {D : DataW Unit} (h : OwnsD w m k D) (hb : Below w.heap.size w w') : OwnsD w' m k D := map_over h (hb.block m h.lt)
theorem zero64 (w : World) : (zeroValue 2).run Tryz.prog w = .ok (.int .i64 0) w := by kernel_rfl
set_option maxRecDepth 20000 in
/-- What a look-up tells. -/
theorem look_any {w : World} {m k : Nat} {M : List Ed} {D : DataW Unit} (h : OwnsD w m k D) (hD : MapIs M D) {u v : Int} (hu : In u) (hv : In v) :
    (Instr.lookup 96 (.map (some m)) (.agg #[.int .i64 u, .int .i64 v]) false).run Tryz.prog w = .ok (.int .i64 (wOf M u v)) w := by
  obtain ⟨c, hrun, hat, -⟩ := h.lookup_int lawP Tryz.underlying96 Tryz.underlying2 (zero64 w) (keyP hu hv)
  have := hat.symm.trans (hD.2.2.1 u v hu hv)
  unfold dI at this
  injection this with e
  injection e with _ e
  unfold encP at hrun
  rw [hrun, e]
end Go.Proofs.YtdbebebhldldmaaGreatDoor
/- The library's contracts that edges lean on, laid at this program: cmp.Compare at both kinds and slices.SortFunc at api.Edge. -/
namespace Go.Proofs
open Go.Shelf
def Tryz.laysCmp64_ren : Go.Shelf.Ren := ⟨fun | 5 => 84 | 7 => 109 | n => n, fun | 22 => 2 | 3 => 3 | 4 => 4 | n => n, fun | n => n⟩
theorem Tryz.laysCmp64 : Go.Proofs.SlLaysC2.n5 Tryz.prog Tryz.laysCmp64_ren := {
  mixed := by kernel_rfl
  f5 := ⟨Tryz.f84.name, by decide, Tryz.func84.trans (congrArg some (by kernel_rfl))⟩
  f7 := ⟨Tryz.f109.name, by decide, Tryz.func109.trans (congrArg some (by kernel_rfl))⟩
  t3 := Tryz.underlying3
  a3 := Tryz.isAgg3
  z3 := Tryz.sizeOf3
  v3 := Tryz.zeroValue3
  t4 := Tryz.underlying4
  a4 := Tryz.isAgg4
  z4 := Tryz.sizeOf4
  v4 := Tryz.zeroValue4
  t22 := Tryz.underlying2
  a22 := Tryz.isAgg2
  z22 := Tryz.sizeOf2
  v22 := Tryz.zeroValue2 }
def Tryz.laysCmp_ren : Go.Shelf.Ren := ⟨fun | 5 => 83 | 7 => 108 | n => n, fun | 22 => 3 | 3 => 3 | 4 => 4 | n => n, fun | n => n⟩
theorem Tryz.laysCmp : Go.Proofs.SlLaysC2.n5 Tryz.prog Tryz.laysCmp_ren := {
  mixed := by kernel_rfl
  f5 := ⟨Tryz.f83.name, by decide, Tryz.func83.trans (congrArg some (by kernel_rfl))⟩
  f7 := ⟨Tryz.f108.name, by decide, Tryz.func108.trans (congrArg some (by kernel_rfl))⟩
  t3 := Tryz.underlying3
  a3 := Tryz.isAgg3
  z3 := Tryz.sizeOf3
  v3 := Tryz.zeroValue3
  t4 := Tryz.underlying4
  a4 := Tryz.isAgg4
  z4 := Tryz.sizeOf4
  v4 := Tryz.zeroValue4
  t22 := Tryz.underlying3
  a22 := Tryz.isAgg3
  z22 := Tryz.sizeOf3
  v22 := Tryz.zeroValue3 }
def Tryz.laysSortF_ren : Go.Shelf.Ren := ⟨fun | 6 => 51 | 15 => 81 | 14 => 80 | 28 => 106 | 29 => 107 | 20 => 98 | 21 => 99 | 22 => 100 | 23 => 101 | 24 => 102 | 25 => 103 | 26 => 104 | 27 => 105 | 46 => 126 | 47 => 127 | 48 => 128 | 49 => 129 | 50 => 130 | 57 => 144 | n => n, fun | 22 => 22 | 24 => 51 | 25 => 101 | 3 => 3 | 39 => 124 | 0 => 0 | 53 => 174 | 55 => 40 | 4 => 4 | 46 => 168 | 45 => 167 | 50 => 105 | 5 => 5 | 9 => 9 | 66 => 195 | 70 => 199 | 76 => 212 | 77 => 213 | n => n, fun | n => n⟩
theorem Tryz.laysSortF : Go.Proofs.SlLaysF0.n6 Tryz.prog Tryz.laysSortF_ren := {
  mixed := by kernel_rfl
  f6 := ⟨Tryz.f51.name, by decide, Tryz.func51.trans (congrArg some (by kernel_rfl))⟩
  f14 := ⟨Tryz.f80.name, by decide, Tryz.func80.trans (congrArg some (by kernel_rfl))⟩
  f15 := Tryz.func81.trans (congrArg some (by kernel_rfl))
  f20 := ⟨Tryz.f98.name, by decide, Tryz.func98.trans (congrArg some (by kernel_rfl))⟩
  f21 := ⟨Tryz.f99.name, by decide, Tryz.func99.trans (congrArg some (by kernel_rfl))⟩
  f22 := ⟨Tryz.f100.name, by decide, Tryz.func100.trans (congrArg some (by kernel_rfl))⟩
  f23 := ⟨Tryz.f101.name, by decide, Tryz.func101.trans (congrArg some (by kernel_rfl))⟩
  f24 := ⟨Tryz.f102.name, by decide, Tryz.func102.trans (congrArg some (by kernel_rfl))⟩
  f25 := ⟨Tryz.f103.name, by decide, Tryz.func103.trans (congrArg some (by kernel_rfl))⟩
  f26 := ⟨Tryz.f104.name, by decide, Tryz.func104.trans (congrArg some (by kernel_rfl))⟩
  f27 := ⟨Tryz.f105.name, by decide, Tryz.func105.trans (congrArg some (by kernel_rfl))⟩
  f28 := Tryz.func106.trans (congrArg some (by kernel_rfl))
  f29 := Tryz.func107.trans (congrArg some (by kernel_rfl))
  f46 := ⟨Tryz.f126.name, by decide, Tryz.func126.trans (congrArg some (by kernel_rfl))⟩
  f47 := Tryz.func127.trans (congrArg some (by kernel_rfl))
  f48 := Tryz.func128.trans (congrArg some (by kernel_rfl))
  f49 := ⟨Tryz.f129.name, by decide, Tryz.func129.trans (congrArg some (by kernel_rfl))⟩
  f50 := ⟨Tryz.f130.name, by decide, Tryz.func130.trans (congrArg some (by kernel_rfl))⟩
  f57 := ⟨Tryz.f144.name, by decide, Tryz.func144.trans (congrArg some (by kernel_rfl))⟩
  t0 := Tryz.underlying0
  a0 := Tryz.isAgg0
  z0 := Tryz.sizeOf0
  v0 := Tryz.zeroValue0
  t3 := Tryz.underlying3
  a3 := Tryz.isAgg3
  z3 := Tryz.sizeOf3
  v3 := Tryz.zeroValue3
  t4 := Tryz.underlying4
  a4 := Tryz.isAgg4
  z4 := Tryz.sizeOf4
  v4 := Tryz.zeroValue4
  t5 := Tryz.underlying5
  a5 := Tryz.isAgg5
  z5 := Tryz.sizeOf5
  v5 := Tryz.zeroValue5
  t9 := Tryz.underlying9
  a9 := Tryz.isAgg9
  z9 := Tryz.sizeOf9
  v9 := Tryz.zeroValue9
  t22 := Tryz.underlying22
  a22 := Tryz.isAgg22
  z22 := Tryz.sizeOf22
  v22 := Tryz.zeroValue22
  t25 := Tryz.underlying101
  a25 := Tryz.isAgg101
  z25 := Tryz.sizeOf101
  v25 := Tryz.zeroValue101
  t39 := Tryz.underlying124
  a39 := Tryz.isAgg124
  z39 := Tryz.sizeOf124
  v39 := Tryz.zeroValue124
  t45 := Tryz.underlying167
  a45 := Tryz.isAgg167
  z45 := Tryz.sizeOf167
  v45 := Tryz.zeroValue167
  t46 := Tryz.underlying168
  a46 := Tryz.isAgg168
  z46 := Tryz.sizeOf168
  v46 := Tryz.zeroValue168
  t50 := Tryz.underlying105
  a50 := Tryz.isAgg105
  z50 := Tryz.sizeOf105
  v50 := Tryz.zeroValue105
  t53 := Tryz.underlying174
  a53 := Tryz.isAgg174
  z53 := Tryz.sizeOf174
  v53 := Tryz.zeroValue174
  t55 := Tryz.underlying40
  a55 := Tryz.isAgg40
  z55 := Tryz.sizeOf40
  v55 := Tryz.zeroValue40
  t66 := Tryz.underlying195
  a66 := Tryz.isAgg195
  z66 := Tryz.sizeOf195
  v66 := Tryz.zeroValue195
  t70 := Tryz.underlying199
  a70 := Tryz.isAgg199
  z70 := Tryz.sizeOf199
  v70 := Tryz.zeroValue199
  t76 := Tryz.underlying212
  a76 := Tryz.isAgg212
  z76 := Tryz.sizeOf212
  v76 := Tryz.zeroValue212
  t77 := Tryz.underlying213
  a77 := Tryz.isAgg213
  z77 := Tryz.sizeOf213
  v77 := Tryz.zeroValue213 }
end Go.Proofs
/- Contracts of edge's small functions: isVertex, Check, Normal, ends, Cmp. -/
namespace Go.Proofs.YtdbebebhldldmaaGreatDoor
open Go.RowKit Go.ChangeShapes EdPure
theorem isVertex_any (n v : Int) (w : World) :
    Calls Tryz.prog 77 #[.int .i64 n, .int .i64 v] w fun e w' => e = .returned (.bool (decide (0 ≤ v) && decide (v < n))) ∧ w = w' := by
  by_cases h1 : 0 ≤ v
  · have HE : Hid ((decide (0 ≤ v) && decide (v < n)) = decide (v < n)) := Lib.hid (by simp [h1])
    go_enter Tryz.func77, Tryz.ntmps77
    go_wp2
    go_ret
    exact ⟨bool_ret HE.out.symm, rfl⟩
  · have HE : Hid ((decide (0 ≤ v) && decide (v < n)) = false) := Lib.hid (by simp [h1])
    go_enter Tryz.func77, Tryz.ntmps77
    go_wp2
    go_ret
    exact ⟨bool_ret HE.out.symm, rfl⟩
theorem vertex_yes {n v : Int} (h : 0 ≤ v ∧ v < n) (w : World) :
    Calls Tryz.prog 77 #[.int .i64 n, .int .i64 v] w fun e w' => e = .returned (.bool true) ∧ w = w' := by
  have := isVertex_any n v w
  rwa [show (decide (0 ≤ v) && decide (v < n)) = true by simp [h.1, h.2]] at this
theorem vertex_no {n v : Int} (h : ¬ (0 ≤ v ∧ v < n)) (w : World) :
    Calls Tryz.prog 77 #[.int .i64 n, .int .i64 v] w fun e w' => e = .returned (.bool false) ∧ w = w' := by
  have := isVertex_any n v w
  rwa [show (decide (0 ≤ v) && decide (v < n)) = false by rw [Bool.and_eq_false_iff, decide_eq_false_iff_not, decide_eq_false_iff_not]; omega] at this
theorem check_any (n : Int) (e : Ed) (w : World) :
    Calls Tryz.prog 49 #[.int .i64 n, encE e] w fun r w' => r = .returned (.int .i64 (chkE n e)) ∧ Below w.heap.size w w' := by
  obtain ⟨u, v, x⟩ := e
  unfold encE
  by_cases h1 : 0 ≤ u ∧ u < n
  · have H1 := Lib.hid (fun W => vertex_yes h1 W)
    by_cases h2 : 0 ≤ v ∧ v < n
    · have H2 := Lib.hid (fun W => vertex_yes h2 W)
      by_cases h3 : 0 ≤ x
      · by_cases h4 : x ≤ 2147483648
        · have HE : Hid (chkE n (u, v, x) = 0) := Lib.hid (by unfold chkE; rw [if_pos ⟨h1, h2⟩, if_pos ⟨h3, h4⟩])
          clear h1 h2
          go_enter Tryz.func49, Tryz.ntmps49
          go_wp2_with (first | (go_at_call 77; first | (go_fit (H1.out _); rintro r w' ⟨rfl, rfl⟩) | (go_fit (H2.out _); rintro r w' ⟨rfl, rfl⟩)))
          go_ret
          exact ⟨ret_i HE.out.symm, (Below.refl _ _).alloc (Nat.le_refl _) _⟩
        · have HE : Hid (chkE n (u, v, x) = 5) := Lib.hid (by unfold chkE; rw [if_pos ⟨h1, h2⟩, if_neg (by simp only; omega)])
          clear h1 h2
          go_enter Tryz.func49, Tryz.ntmps49
          go_wp2_with (first | (go_at_call 77; first | (go_fit (H1.out _); rintro r w' ⟨rfl, rfl⟩) | (go_fit (H2.out _); rintro r w' ⟨rfl, rfl⟩)))
          go_ret
          exact ⟨ret_i HE.out.symm, (Below.refl _ _).alloc (Nat.le_refl _) _⟩
      · have HE : Hid (chkE n (u, v, x) = 5) := Lib.hid (by unfold chkE; rw [if_pos ⟨h1, h2⟩, if_neg (by simp only; omega)])
        clear h1 h2
        go_enter Tryz.func49, Tryz.ntmps49
        go_wp2_with (first | (go_at_call 77; first | (go_fit (H1.out _); rintro r w' ⟨rfl, rfl⟩) | (go_fit (H2.out _); rintro r w' ⟨rfl, rfl⟩)))
        go_ret
        exact ⟨ret_i HE.out.symm, (Below.refl _ _).alloc (Nat.le_refl _) _⟩
    · have H2 := Lib.hid (fun W => vertex_no h2 W)
      have HE : Hid (chkE n (u, v, x) = 4) := Lib.hid (by unfold chkE; rw [if_neg (fun h => h2 h.2)])
      clear h1 h2
      go_enter Tryz.func49, Tryz.ntmps49
      go_wp2_with (first | (go_at_call 77; first | (go_fit (H1.out _); rintro r w' ⟨rfl, rfl⟩) | (go_fit (H2.out _); rintro r w' ⟨rfl, rfl⟩)))
      go_ret
      exact ⟨ret_i HE.out.symm, (Below.refl _ _).alloc (Nat.le_refl _) _⟩
  · have H1 := Lib.hid (fun W => vertex_no h1 W)
    have HE : Hid (chkE n (u, v, x) = 4) := Lib.hid (by unfold chkE; rw [if_neg (fun h => h1 h.1)])
    clear h1
    go_enter Tryz.func49, Tryz.ntmps49
    go_wp2_with (first | (go_at_call 77; refine (H1.out _).mono ?_; rintro r w' ⟨rfl, rfl⟩))
    go_ret
    exact ⟨ret_i HE.out.symm, (Below.refl _ _).alloc (Nat.le_refl _) _⟩
theorem agg_e {e e' : Ed} (h : e = e') : Ending.returned (.agg #[.int .i64 e.1, .int .i64 e.2.1, .int .i64 e.2.2]) = .returned (encE e') := by rw [h]; rfl
theorem below_two {w : World} {o o' : Obj} : Below w.heap.size w ((w.alloc o).alloc o') := ((Below.refl _ _).alloc (Nat.le_refl _) _).alloc (by simp) _
theorem normal_any (e : Ed) (w : World) :
    Calls Tryz.prog 97 #[encE e] w fun r w' => r = .returned (encE (normE e)) ∧ Below w.heap.size w w' := by
  obtain ⟨u, v, x⟩ := e
  unfold encE
  by_cases h : v < u
  · have HE : Hid ((v, u, x) = normE (u, v, x)) := Lib.hid (by unfold normE; rw [if_pos h])
    go_enter Tryz.func97, Tryz.ntmps97
    go_wp2
    refine bodyPost_ret (v := .agg #[.int .i64 v, .int .i64 u, .int .i64 x]) (by simp [results, Tryz.results97, go_sem]) rfl ⟨agg_e HE.out, ?_⟩
    first | exact below_two | (refine Below.setCell (Below.setCell (Below.setCell ?_ ?_ _) ?_ _) ?_ _ <;> first | exact below_two | simp)
  · have HE : Hid ((u, v, x) = normE (u, v, x)) := Lib.hid (by unfold normE; rw [if_neg h])
    go_enter Tryz.func97, Tryz.ntmps97
    go_wp2
    refine bodyPost_ret (v := .agg #[.int .i64 u, .int .i64 v, .int .i64 x]) (by simp [results, Tryz.results97, go_sem]) rfl ⟨agg_e HE.out, ?_⟩
    exact below_two


theorem ends_any (e : Ed) (w : World) :
    Calls Tryz.prog 78 #[encE e] w fun r w' => r = .returned (encP (endsE e)) ∧ Below w.heap.size w w' := by
  have HE : Hid (encP (endsE e) = .agg #[.int .i64 (normE e).1, .int .i64 (normE e).2.1]) := Lib.hid rfl
  have HN := Lib.hid (fun W => normal_any e W)
  obtain ⟨u, v, x⟩ := e
  unfold encE at HN ⊢
  generalize normE (u, v, x) = q at *
  obtain ⟨a, b, c⟩ := q
  go_enter Tryz.func78, Tryz.ntmps78
  go_wp2_with fail
  have H3 : Hid (ThreeAt w.heap.size ((w.alloc (.cells #[.int .i64 u, .int .i64 v, .int .i64 x] 51)).alloc (.cells #[.int .i64 0, .int .i64 0] 99)) (.int .i64 u) (.int .i64 v) (.int .i64 x)) := Lib.hid (by
    have h := ThreeAt.new w (.int .i64 u) (.int .i64 v) (.int .i64 x) 51
    exact h.on ((Below.refl _ _).alloc (Nat.le_refl _) _) h.lt)
  have H2 : Hid (TwoAt (w.heap.size + 1) ((w.alloc (.cells #[.int .i64 u, .int .i64 v, .int .i64 x] 51)).alloc (.cells #[.int .i64 0, .int .i64 0] 99)) (.int .i64 0) (.int .i64 0)) := Lib.hid (by
    have h := TwoAt.new (w.alloc (.cells #[.int .i64 u, .int .i64 v, .int .i64 x] 51)) (.int .i64 0) (.int .i64 0) 99
    simpa using h)
  have HB : Hid (Below w.heap.size w ((w.alloc (.cells #[.int .i64 u, .int .i64 v, .int .i64 x] 51)).alloc (.cells #[.int .i64 0, .int .i64 0] 99))) := Lib.hid below_two
  generalize (w.alloc (.cells #[.int .i64 u, .int .i64 v, .int .i64 x] 51)).alloc (.cells #[.int .i64 0, .int .i64 0] 99) = W0 at *
  refine (HN.out _).mono ?_
  rintro r w1 ⟨rfl, hb⟩
  replace HB := Lib.hid (HB.out.trans (hb.mono HB.out.size))
  obtain ⟨c0, c1, c2, f0, f1, f2⟩ := H3.out.on hb H3.out.lt
  obtain ⟨d0, d1, g0, g1⟩ := H2.out.on hb H2.out.lt
  clear hb HN H2 H3
  generalize hN : w.heap.size = N at *
  go_wp2
  refine bodyPost_ret (v := .agg #[.int .i64 a, .int .i64 b]) (by simp [results, Tryz.results78, go_sem, d0, d1]) rfl ⟨by rw [HE.out], ?_⟩
  rw [hN]
  exact ((((HB.out.setCell (Nat.le_refl _) _).setCell (Nat.le_refl _) _).setCell (Nat.le_refl _) _).setCell (by simp) _).setCell (by simp) _
/-- The first of three numbers that is not 0. -/
theorem or3_any (g : Nat) (x y z : Int) (w : World) (h0 : w.cell? ⟨g, 0, none⟩ = some (.int .i64 x)) (h1 : w.cell? ⟨g, 1, none⟩ = some (.int .i64 y)) (h2 : w.cell? ⟨g, 2, none⟩ = some (.int .i64 z)) :
    Calls Tryz.prog 82 #[.slice (some ⟨g, 0, none⟩) 3 3] w fun e w' => e = .returned (.int .i64 (orI x (orI y z))) ∧ w' = w := by
  go_enter Tryz.func82, Tryz.ntmps82
  go_wp2
  go_loopw [8] (fun i wr => ∃ k : Nat, i = .int .i64 k ∧ wr = w ∧ Hid (k ≤ 3 ∧ (1 ≤ k → x = 0) ∧ (2 ≤ k → y = 0) ∧ (3 ≤ k → z = 0))) (fun i _ => 3 - (intOf i).toNat)
  case atStart => exact ⟨0, rfl, rfl, Lib.hid ⟨by omega, fun h => by omega, fun h => by omega, fun h => by omega⟩⟩
  case round =>
    obtain ⟨k, rfl, rfl, HK⟩ := hrel
    obtain rfl | rfl | rfl | rfl : k = 0 ∨ k = 1 ∨ k = 2 ∨ k = 3 := by have := HK.out.1; omega
    · by_cases hx : x = 0
      · have t : (x != 0) = false := by simp [hx]
        have HN := Lib.hid hx
        clear hx
        go_wp2
        go_roundw
        case rel => exact ⟨1, by go_num, trivial, Lib.hid ⟨by omega, fun _ => HN.out, fun h => by omega, fun h => by omega⟩⟩
        case measure => (simp [intOf])
      · have t : (x != 0) = true := by simp [hx]
        have HN : Hid (orI x (orI y z) = x) := Lib.hid (if_neg hx)
        clear hx
        go_wp2
        go_ret
        exact ⟨by rw [HN.out]; rfl, rfl⟩
    · have h0x := Lib.hid (HK.out.2.1 (by omega))
      by_cases hx : y = 0
      · have t : (y != 0) = false := by simp [hx]
        have HN := Lib.hid hx
        clear hx
        go_wp2
        go_roundw
        case rel => exact ⟨2, by go_num, trivial, Lib.hid ⟨by omega, fun _ => h0x.out, fun h => HN.out, fun h => by omega⟩⟩
        case measure => (simp [intOf])
      · have t : (y != 0) = true := by simp [hx]
        have HN : Hid (orI x (orI y z) = y) := Lib.hid (by rw [orI, if_pos h0x.out, orI, if_neg hx])
        clear hx
        go_wp2
        go_ret
        exact ⟨by rw [HN.out]; rfl, rfl⟩
    · have h0x := Lib.hid (HK.out.2.1 (by omega))
      have h0y := Lib.hid (HK.out.2.2.1 (by omega))
      by_cases hx : z = 0
      · have t : (z != 0) = false := by simp [hx]
        have HN := Lib.hid hx
        clear hx
        go_wp2
        go_roundw
        case rel => exact ⟨3, by go_num, trivial, Lib.hid ⟨by omega, fun _ => h0x.out, fun h => h0y.out, fun h => HN.out⟩⟩
        case measure => (simp [intOf])
      · have t : (z != 0) = true := by simp [hx]
        have HN : Hid (orI x (orI y z) = z) := Lib.hid (by rw [orI, if_pos h0x.out, orI, if_pos h0y.out])
        clear hx
        go_wp2
        go_ret
        exact ⟨by rw [HN.out]; rfl, rfl⟩
    · have HN : Hid (orI x (orI y z) = 0) := Lib.hid (by rw [orI, if_pos (HK.out.2.1 (by omega)), orI, if_pos (HK.out.2.2.1 (by omega)), HK.out.2.2.2 (by omega)])
      go_wp2
      go_ret
      exact ⟨by rw [HN.out]; rfl, rfl⟩
theorem cmp64_any (x y : Int) (w : World) : Calls Tryz.prog 84 #[.int .i64 x, .int .i64 y] w fun e w' => e = .returned (.int .i64 (Lib.compareInt x y)) ∧ w' = w := AnyG.cmp_Compare_int Tryz.laysCmp64 x y w
theorem cmpI_any (x y : Int) (w : World) : Calls Tryz.prog 83 #[.int .i64 x, .int .i64 y] w fun e w' => e = .returned (.int .i64 (Lib.compareInt x y)) ∧ w' = w := AnyG.cmp_Compare_int Tryz.laysCmp x y w
set_option maxRecDepth 100000 in
set_option maxHeartbeats 400000 in
theorem cmp_any (a b : Ed) (w : World) :
    Calls Tryz.prog 52 #[encE a, encE b] w fun e w' => e = .returned (.int .i64 (cmpE a b)) ∧ ∃ q os, w' = Go.Sort.grow (w.drewN q) os := by
  obtain ⟨u, v, x⟩ := a
  obtain ⟨u', v', x'⟩ := b
  unfold encE cmpE
  simp only
  have HX := Lib.hid (fun W => cmpI_any u u' W)
  have HY := Lib.hid (fun W => cmpI_any v v' W)
  have HZ := Lib.hid (fun W => cmp64_any x x' W)
  generalize Lib.compareInt u u' = r at *
  generalize Lib.compareInt v v' = s at *
  generalize Lib.compareInt x x' = t at *
  go_enter Tryz.func52, Tryz.ntmps52
  go_wp2
  obtain ⟨W0, hW0⟩ : ∃ W0, (w.alloc (.cells #[.int .i64 u, .int .i64 v, .int .i64 x] 51)).alloc (.cells #[.int .i64 u', .int .i64 v', .int .i64 x'] 51) = W0 := ⟨_, rfl⟩
  have b0 : (W0.drewN 1).cell? ⟨w.heap.size, 0, none⟩ = some (.int .i64 u) := by rw [← hW0]; simp
  have b1 : (W0.drewN 1).cell? ⟨w.heap.size, 1, none⟩ = some (.int .i64 v) := by rw [← hW0]; simp
  have b2 : (W0.drewN 1).cell? ⟨w.heap.size, 2, none⟩ = some (.int .i64 x) := by rw [← hW0]; simp
  have d0 : (W0.drewN 1).cell? ⟨w.heap.size + 1, 0, none⟩ = some (.int .i64 u') := by rw [← hW0]; simp
  have d1 : (W0.drewN 1).cell? ⟨w.heap.size + 1, 1, none⟩ = some (.int .i64 v') := by rw [← hW0]; simp
  have d2 : (W0.drewN 1).cell? ⟨w.heap.size + 1, 2, none⟩ = some (.int .i64 x') := by rw [← hW0]; simp
  have HG : Hid (∀ o, ∃ os, (W0.drewN 1).alloc o = Go.Sort.grow (w.drewN 1) os) := Lib.hid (by
    intro o
    rw [← hW0, Go.Sort.alloc_eq_grow w, Go.Sort.alloc_eq_grow (Go.Sort.grow w _), Go.Sort.grow_grow]
    exact ⟨_, (Go.Sort.alloc_eq_grow _ _).trans (Go.Sort.grow_grow (w.drewN 1) _ _)⟩)
  rw [hW0]
  clear hW0
  generalize w.heap.size = N at *
  refine wp_region_still_tail 15 (by kernel_rfl) (by kernel_rfl) ?_
  change wpStill _ _ (W0.drewN 1) _ _ _
  change wpStill _ _ _ (fun a' => wpList _ _ _ _ _ (W0.drewN 1)) _ _
  generalize W0.drewN 1 = W1 at *
  simp only [List.take_succ_cons, List.take_zero, List.drop_succ_cons, List.drop_zero]
  iterate 4 still_step
  still_call (HX.out _)
  iterate 4 still_step
  still_call (HY.out _)
  iterate 4 still_step
  still_call (HZ.out _)
  refine wpStill_nil ?_
  obtain ⟨os, hos⟩ := HG.out (.cells #[.int .i64 r, .int .i64 s, .int .i64 t] 3)
  have HO := Lib.hid hos
  clear hos
  go_wp2_with fail
  refine (or3_any _ r s t _ (by simp) (by simp) (by simp)).mono ?_
  rintro e w1 ⟨rfl, rfl⟩
  go_wp2
  go_ret
  exact ⟨rfl, 1, os, HO.out⟩
end Go.Proofs.YtdbebebhldldmaaGreatDoor
/- Contracts of package num's Add, Put, Value, at every argument (cut out of XNumCode: a later stage that neither subtracts nor multiplies takes this text). -/
namespace Go.Proofs.YtdbebebhldldmaaGreatDoor
open Go.RowKit Go.ChangeShapes NumPure
theorem add_any (a b : Int) (ha : -9223372036854775808 ≤ a ∧ a ≤ 9223372036854775807) (hb : -9223372036854775808 ≤ b ∧ b ≤ 9223372036854775807) (w : World) :
    Calls Tryz.prog 79 #[.int .i64 a, .int .i64 b] w fun e w' => e = .returned (.tuple #[.int .i64 (cut (a + b)), .bool (fitsB (a + b))]) ∧ w = w' := by
  obtain ⟨ha1, ha2⟩ := ha
  obtain ⟨hb1, hb2⟩ := hb
  by_cases h : -9223372036854775808 ≤ a + b ∧ a + b ≤ 9223372036854775807
  · have t := add_yes a b ⟨ha1, ha2⟩ ⟨hb1, hb2⟩ h
    have e1 := Lib.hid (cut_in h)
    have e2 := Lib.hid ((fits_iff _).2 h)
    obtain ⟨h1, h2⟩ := h
    go_enter Tryz.func79, Tryz.ntmps79
    go_wp2
    go_ret2
    exact ⟨ret_ib e1.out.symm e2.out.symm, rfl⟩
  · have t := add_no a b ⟨ha1, ha2⟩ ⟨hb1, hb2⟩ h
    have e1 := Lib.hid (cut_out h)
    have e2 := Lib.hid ((fits_not _).2 h)
    have hh := Lib.hid h
    clear h
    go_enter Tryz.func79, Tryz.ntmps79
    go_wp2
    go_ret2
    exact ⟨ret_ib e1.out.symm e2.out.symm, rfl⟩
/-- The gathering sum at block N. -/
def AccAt (N : Nat) (w : World) (p : Int × Bool) : Prop :=
  w.cell? ⟨N, 0, none⟩ = some (.int .i64 p.1) ∧ w.cell? ⟨N, 1, none⟩ = some (.bool (!p.2)) ∧ w.frozen? ⟨N, 0, none⟩ = false ∧ w.frozen? ⟨N, 1, none⟩ = false
theorem AccAt.set {N : Nat} {w : World} {p : Int × Bool} (h : AccAt N w p) (q : Int × Bool) : AccAt N ((w.setCell ⟨N, 0, none⟩ (.int .i64 q.1)).setCell ⟨N, 1, none⟩ (.bool (!q.2))) q := by
  obtain ⟨h0, h1, f0, f1⟩ := h
  have h1' : (w.setCell ⟨N, 0, none⟩ (.int .i64 q.1)).cell? ⟨N, 1, none⟩ = some (.bool (!p.2)) := by
    exact (World.cell?_setCell_other w ⟨N, 0, none⟩ ⟨N, 1, none⟩ _ (by simp)).trans h1
  refine ⟨?_, World.cell?_setCell_same _ _ _ h1', ?_, ?_⟩
  · exact (World.cell?_setCell_other _ ⟨N, 1, none⟩ ⟨N, 0, none⟩ _ (by simp)).trans (World.cell?_setCell_same _ _ _ h0)
  · simpa using f0
  · simpa using f1
theorem AccAt.on {M : Nat} {w w' : World} {p : Int × Bool} (h : AccAt M w p) (hb : Below (M + 1) w w') : AccAt M w' p := by
  obtain ⟨h0, h1, f0, f1⟩ := h
  exact ⟨(hb.cell (by simp)).trans h0, (hb.cell (by simp)).trans h1, (hb.frozen (by simp)).trans f0, (hb.frozen (by simp)).trans f1⟩
theorem AccAt.lt {M : Nat} {w : World} {p : Int × Bool} (h : AccAt M w p) : M < w.heap.size := World.block_lt_of_cell? w _ h.1
theorem accAt_new (w : World) (t : TypeId) : AccAt w.heap.size (w.alloc (.cells #[.int .i64 0, .bool false] t)) (0, true) := by
  refine ⟨?_, ?_, ?_, ?_⟩ <;> simp
end Go.Proofs.YtdbebebhldldmaaGreatDoor
