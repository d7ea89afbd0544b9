/- Classes in memory: a list that leads up to the names, and a map from each name to how many vertices bear it; over calls that turn other blocks. -/
import Derived.Test.YtnnicfjlakpghaaDsuPure
import Derived.Test.YtnnicfjlakpghaaList
import Derived.Test.YtnnicfjlakpghaaCells
import Derived.Maps.OwnSet
import Derived.WalkMore
import Derived.ScopeJumps
import Derived.StillTailTactics
import Derived.Deep.RegionWith
import Derived.Deep.QuietTactic
import Derived.BigQuiet
import Derived.BigRegion
namespace Go.Proofs.Ytnnicfjlakpghaa
open Go.RowKit Go.ChangeShapes Go.Maps DsuPure
def encI (x : Nat) : Value := .int .i64 (x : Int)
def kI (z : Int) : Lit := .int .i64 z
def dI (z : Int) : DataW Unit := .lit (.int .i64 z)
theorem kI_ne {a b : Int} (h : a ≠ b) : kI a ≠ kI b := fun e => h (by unfold kI at e; injection e)
theorem kI_key (z : Int) : WideAt.IsKeyLit (kI z) := trivial
/-- What the map of the classes tells. -/
def MapIs (n : Nat) (p : Nat → Nat) (D : DataW Unit) : Prop :=
  Tidy D ∧ (∀ z : Int, has D (kI z) = (fitB n z && decide (p z.toNat = z.toNat))) ∧ (∀ z : Int, D.atKey (kI z) (dI 0) = dI (cntZ n p z)) ∧ size D = rootsN n p
theorem map_zero : MapIs 0 (fun x => x) (.map []) := by
  refine ⟨tidy_empty, fun z => ?_, fun z => rfl, rfl⟩
  have : fitB 0 z = false := fit_past (by omega)
  rw [this]; rfl
theorem map_next {k : Nat} {D : DataW Unit} (h : MapIs k (fun x => x) D) : MapIs (k + 1) (fun x => x) (D.put (kI (k : Int)) (dI 1)) := by
  obtain ⟨h1, h2, h3, h4⟩ := h
  refine ⟨h1.put (kI_key _) _, fun z => ?_, fun z => ?_, ?_⟩
  · by_cases e : z = (k : Int)
    · subst e
      rw [has_put_same h1.isMap (kI_key _), fit_of (by omega)]
      simp
    · rw [has_put_other (kI_ne e), h2 z]
      congr 1
      unfold fitB
      congr 1
      exact decide_eq_decide.2 ⟨fun _ => by omega, fun _ => by omega⟩
  · unfold cntZ
    rw [List.range_succ, List.countP_append, List.countP_singleton]
    by_cases e : z = (k : Int)
    · subst e
      rw [atKey_put_same h1.isMap (kI_key _)]
      have : (List.range k).countP (fun x : Nat => decide ((x : Int) = (k : Int))) = 0 := by
        rw [List.countP_eq_zero]
        intro x hx
        have := List.mem_range.1 hx
        simp
        omega
      rw [this]
      simp
    · rw [atKey_put_other (kI_ne e), h3 z, decide_eq_false (fun e2 => e e2.symm)]
      unfold cntZ
      simp
  · rw [size_put h1, h2, h4, rootsN_succ]
    have : fitB k (k : Int) = false := fit_past (by omega)
    rw [this]
    simp
/-- Two classes become one. -/
theorem map_join {n : Nat} {p : Nat → Nat} {D : DataW Unit} (h : MapIs n p D) {a b : Nat} (ha : p a = a) (hb : p b = b) (hab : a < b) (hbn : b < n) :
    MapIs n (moveP p a b) ((D.put (kI (a : Int)) (dI ((cntZ n p (a : Int) : Int) + (cntZ n p (b : Int) : Int)))).del (kI (b : Int))) := by
  obtain ⟨h1, h2, h3, h4⟩ := h
  have ht := h1.put (kI_key (a : Int)) (dI ((cntZ n p (a : Int) : Int) + (cntZ n p (b : Int) : Int)))
  have hne : (a : Int) ≠ (b : Int) := by omega
  have hasA : has D (kI (a : Int)) = true := by rw [h2, fit_of (by omega)]; simp [ha]
  have hasB : has D (kI (b : Int)) = true := by rw [h2, fit_of hbn]; simp [hb]
  refine ⟨ht.del _, fun z => ?_, fun z => ?_, ?_⟩
  · by_cases e : z = (b : Int)
    · subst e
      rw [has_del_same, Int.toNat_natCast]
      have : ¬ moveP p a b b = b := by unfold moveP; rw [if_pos hb]; omega
      rw [decide_eq_false this, Bool.and_false]
    · rw [has_del_other (kI_ne e)]
      cases hf : fitB n z
      · rw [Bool.false_and, has_put_other (kI_ne (fun e2 => by rw [e2, fit_of (by omega)] at hf; cases hf)), h2, hf, Bool.false_and]
      · obtain ⟨u, rfl, hu⟩ := fit_yes hf
        rw [Int.toNat_natCast, Bool.true_and]
        by_cases e2 : (u : Int) = (a : Int)
        · have : u = a := by omega
          subst this
          rw [has_put_same h1.isMap (kI_key _)]
          have : moveP p u b u = u := by unfold moveP; rw [if_neg (by omega), ha]
          rw [decide_eq_true this]
        · rw [has_put_other (kI_ne e2), h2, fit_of hu, Int.toNat_natCast, Bool.true_and]
          refine decide_eq_decide.2 ?_
          unfold moveP
          by_cases e3 : p u = b
          · rw [if_pos e3]; exact ⟨fun _ => by omega, fun _ => by omega⟩
          · rw [if_neg e3]
  · rw [move_cnt n p hab]
    by_cases e : z = (b : Int)
    · subst e
      rw [atKey_del_same, if_neg (fun e2 => hne e2.symm), if_pos rfl]
      rfl
    · rw [atKey_del_other (kI_ne e)]
      by_cases e2 : z = (a : Int)
      · subst e2
        rw [atKey_put_same h1.isMap (kI_key _), if_pos rfl]
        simp
      · rw [atKey_put_other (kI_ne e2), if_neg e2, if_neg e, h3]
  · have s1 := size_del (k := kI (b : Int)) ht
    rw [has_put_other (kI_ne (fun e => hne e.symm)), hasB, size_put h1, hasA, if_pos rfl, if_pos rfl, h4] at s1
    have := move_roots ha hb hab hbn
    omega
/-- Nothing but blocks g and m is otherwise; new ones may lie behind. -/
def Turns (g m : Nat) (w w' : World) : Prop :=
  w'.os = w.os ∧ w'.tape = w.tape ∧ w'.output = w.output ∧ w.heap.size ≤ w'.heap.size ∧ ∀ k, k < w.heap.size → k ≠ g → k ≠ m → w'.heap[k]? = w.heap[k]?
theorem Turns.refl (g m : Nat) (w : World) : Turns g m w w := ⟨rfl, rfl, rfl, Nat.le_refl _, fun _ _ _ _ => rfl⟩
theorem Turns.trans {g m : Nat} {a b c : World} (h : Turns g m a b) (k : Turns g m b c) : Turns g m a c := by
  obtain ⟨h1, h2, h3, h4, h5⟩ := h
  obtain ⟨k1, k2, k3, k4, k5⟩ := k
  exact ⟨k1.trans h1, k2.trans h2, k3.trans h3, Nat.le_trans h4 k4, fun i hi e1 e2 => (k5 i (Nat.lt_of_lt_of_le hi h4) e1 e2).trans (h5 i hi e1 e2)⟩
theorem Turns.grownG {g m : Nat} {w w' : World} (h : w.grownBy w' (some g)) : Turns g m w w' := ⟨h.os, h.tape, h.output, h.size, fun k hk e _ => h.block k hk (fun e2 => e (Option.some.inj e2))⟩
theorem Turns.grownM {g m : Nat} {w w' : World} (h : w.grownBy w' (some m)) : Turns g m w w' := ⟨h.os, h.tape, h.output, h.size, fun k hk _ e => h.block k hk (fun e2 => e (Option.some.inj e2))⟩
theorem Turns.ofBelow {g m : Nat} {w w' : World} (h : Below w.heap.size w w') : Turns g m w w' := ⟨h.os, h.tape, h.output, h.size, fun k hk _ _ => h.block k hk⟩
theorem Turns.drawn {g m : Nat} {w w' : World} (h : Turns g m w w') (k : Nat) : Turns g m w (w'.drewN k) := h
theorem Turns.below {g m M : Nat} {w w' : World} (h : Turns g m w w') (hs : M ≤ w.heap.size) (hg : M ≤ g) (hm : M ≤ m) : Below M w w' := by
  obtain ⟨h1, h2, h3, h4, h5⟩ := h
  exact ⟨h1, h2, h3, h4, fun k hk => h5 k (by omega) (by omega) (by omega)⟩
theorem Turns.two {g m b : Nat} {w w' : World} {u v : Value} (h : TwoAt b w u v) (hg : Turns g m w w') (e1 : b ≠ g) (e2 : b ≠ m) : TwoAt b w' u v := by
  have hk := hg.2.2.2.2 b h.lt e1 e2
  obtain ⟨h0, h1, f0, f1⟩ := h
  exact ⟨(World.cell?_of_block hk).trans h0, (World.cell?_of_block hk).trans h1, (World.frozen?_of_block hk).trans f0, (World.frozen?_of_block hk).trans f1⟩
theorem Turns.row {g m b : Nat} {w w' : World} {vs : List Value} (h : RowIs b w vs) (hl : b < w.heap.size) (hg : Turns g m w w') (e1 : b ≠ g) (e2 : b ≠ m) : RowIs b w' vs := by
  have hk := hg.2.2.2.2 b hl e1 e2
  exact fun i hi => ⟨(World.cell?_of_block hk).trans (h i hi).1, (World.frozen?_of_block hk).trans (h i hi).2⟩
def OwnsD (w : World) (m k : Nat) (D : DataW Unit) : Prop := w.ownsMap Try.prog 3 (plainElem (H := Unit) Try.prog 3) m k D
theorem map_tight {w : World} {m k : Nat} {D : DataW Unit} (h : OwnsD w m k D) : OwnsD w m (size D) D := by
  obtain ⟨es, clock, hb, F, _, rfl⟩ := h
  exact ⟨es, clock, hb, F, by simp [Maps.size, length_sorted], rfl⟩
theorem map_over {w w' : World} {m k : Nat} {D : DataW Unit} (h : OwnsD w m k D) (e : w'.heap[m]? = w.heap[m]?) : OwnsD w' m k D := by
  obtain ⟨es, clock, hb, r⟩ := h
  exact ⟨es, clock, e.trans hb, r⟩
/-- At block b the two parts, at g the list, at m the map; p tells the names of n vertices. -/
def ClsAt (b g m : Nat) (w : World) (n : Nat) (p : Nat → Nat) : Prop :=
  n ≤ 4096 ∧ Names n p ∧ b ≠ g ∧ b ≠ m ∧ g ≠ m ∧ g < w.heap.size ∧ TwoAt b w (.slice (some ⟨g, 0, none⟩) n n) (.map (some m)) ∧
  (∃ us, Up us n p ∧ RowIs g w (us.map encI)) ∧ ∃ D, OwnsD w m (rootsN n p) D ∧ MapIs n p D
theorem ClsAt.lt {b g m : Nat} {w : World} {n : Nat} {p : Nat → Nat} (h : ClsAt b g m w n p) : b < w.heap.size ∧ g < w.heap.size ∧ m < w.heap.size := by
  obtain ⟨-, -, -, -, -, h1, h2, -, D, h3, -⟩ := h
  exact ⟨h2.lt, h1, h3.lt⟩
theorem ClsAt.past {b g m g' m' : Nat} {w w' : World} {n : Nat} {p : Nat → Nat} (h : ClsAt b g m w n p) (ht : Turns g' m' w w') (e1 : b ≠ g' ∧ b ≠ m') (e2 : g ≠ g' ∧ g ≠ m') (e3 : m ≠ g' ∧ m ≠ m') : ClsAt b g m w' n p := by
  have hl := h.lt
  obtain ⟨a1, a2, a3, a4, a5, a6, a7, ⟨us, a8, a9⟩, D, b1, b2⟩ := h
  exact ⟨a1, a2, a3, a4, a5, Nat.lt_of_lt_of_le a6 ht.2.2.2.1, ht.two a7 e1.1 e1.2, ⟨us, a8, ht.row a9 a6 e2.1 e2.2⟩, D, map_over b1 (ht.2.2.2.2 m hl.2.2 e3.1 e3.2), b2⟩
theorem ClsAt.on {b g m M : Nat} {w w' : World} {n : Nat} {p : Nat → Nat} (h : ClsAt b g m w n p) (hb : Below M w w') (e1 : b < M) (e2 : g < M) (e3 : m < M) : ClsAt b g m w' n p := by
  obtain ⟨a1, a2, a3, a4, a5, a6, a7, ⟨us, a8, a9⟩, D, b1, b2⟩ := h
  exact ⟨a1, a2, a3, a4, a5, Nat.lt_of_lt_of_le a6 hb.size, a7.on hb e1, ⟨us, a8, a9.on hb e2⟩, D, map_over b1 (hb.block m e3), b2⟩
theorem ClsAt.keep {b g m : Nat} {w w' : World} {n : Nat} {p : Nat → Nat} (h : ClsAt b g m w n p) (hb : Below w.heap.size w w') : ClsAt b g m w' n p := h.on hb h.lt.1 h.lt.2.1 h.lt.2.2
theorem ClsAt.drawn {b g m : Nat} {w : World} {n : Nat} {p : Nat → Nat} (h : ClsAt b g m w n p) (k : Nat) : ClsAt b g m (w.drewN k) n p := h.keep (below_drewN (Below.refl _ _) k)
theorem law : Keyed Try.prog 3 := int_keyed Try.underlying3
theorem zeroI (w : World) : (zeroValue 3).run Try.prog w = .ok (.int .i64 0) w := by kernel_rfl
theorem keyI {z : Int} (h0 : -9223372036854775808 ≤ z) (h1 : z ≤ 9223372036854775807) : keyOf Try.prog 3 (.int .i64 z) = some (kI z) := keyOf_int_mk Try.underlying3 (WalkArith.wf_i64 (by omega))
/-- What a look-up tells. -/
theorem look_any {w : World} {m k n : Nat} {p : Nat → Nat} {D : DataW Unit} (h : OwnsD w m k D) (hD : MapIs n p D) {z : Int} (h0 : -9223372036854775808 ≤ z) (h1 : z ≤ 9223372036854775807) :
    (Instr.lookup 41 (.map (some m)) (.int .i64 z) false).run Try.prog w = .ok (.int .i64 (cntZ n p z)) w := by
  obtain ⟨c, hrun, hat, -⟩ := h.lookup_int law Try.underlying41 Try.underlying3 (zeroI w) (keyI h0 h1)
  have := hat.symm.trans (hD.2.2.1 z)
  unfold dI at this
  injection this with e
  injection e with _ e
  rw [hrun, e]
theorem look_ok {w : World} {m k n : Nat} {p : Nat → Nat} {D : DataW Unit} (h : OwnsD w m k D) (hD : MapIs n p D) {z : Int} (h0 : -9223372036854775808 ≤ z) (h1 : z ≤ 9223372036854775807) :
    (Instr.lookup 41 (.map (some m)) (.int .i64 z) true).run Try.prog w = .ok (.tuple #[.int .i64 (cntZ n p z), .bool (fitB n z && decide (p z.toNat = z.toNat))]) w := by
  obtain ⟨v, ps, hrun, hv⟩ := h.look_ok law Try.underlying41 (zeroI w) (plainElem_int (H := Unit) Try.underlying3 (by decide)) (keyI h0 h1)
  obtain ⟨c, rfl, hc, -⟩ := plainElem_int_inv Try.underlying3 hv
  have := (congrArg Prod.fst hc).symm.trans (hD.2.2.1 z)
  simp only at this
  unfold dI at this
  injection this with e
  injection e with _ e
  rw [hrun, e, hD.2.1]
theorem len_map {w : World} {m k n : Nat} {p : Nat → Nat} {D : DataW Unit} (h : OwnsD w m k D) (hD : MapIs n p D) (ty : TypeId) : (Builtin.len_ #[41] ty #[.map (some m)]).run Try.prog w = .ok (.int .i64 (rootsN n p)) w := by
  rw [h.len Try.underlying41, hD.2.2.2]
end Go.Proofs.Ytnnicfjlakpghaa
