/- Texts that the laws of this seat stand on, part 2. -/
import Derived.Test.YtmohfmhkhldhnaaGreatPk0
import Derived.Test.YtmohfmhkhldhnaaGreatPk1
import Derived.Maps.OwnSet
import Derived.WalkMore
import Derived.ScopeJumps
import Derived.StillTailTactics
import Derived.Deep.RegionWith
import Derived.Deep.QuietTactic
import Derived.BigQuiet
import Derived.BigRegion
/- Classes in memory: a list that leads up to the names, and a map from each name to how many vertices bear it; over calls that turn other blocks. -/
namespace Go.Proofs.YtmohfmhkhldhnaaGreat.Ds
open Go.RowKit Go.ChangeShapes Go.Maps DsuPure
def encI (x : Nat) : Value := .int .i64 (x : Int)
def kI (z : Int) : Lit := .int .i64 z
def dI (z : Int) : DataW Unit := .lit (.int .i64 z)
theorem kI_ne {a b : Int} (h : a ≠ b) : kI a ≠ kI b := fun e => h (by unfold kI at e; injection e)
theorem kI_key (z : Int) : WideAt.IsKeyLit (kI z) := trivial
/-- What the map of the classes tells. -/
def MapIs (n : Nat) (p : Nat → Nat) (D : DataW Unit) : Prop :=
  Tidy D ∧ (∀ z : Int, has D (kI z) = (fitB n z && decide (p z.toNat = z.toNat))) ∧ (∀ z : Int, D.atKey (kI z) (dI 0) = dI (cntZ n p z)) ∧ size D = rootsN n p
theorem map_zero : MapIs 0 (fun x => x) (.map []) := by
  refine ⟨tidy_empty, fun z => ?_, fun z => rfl, rfl⟩
  have : fitB 0 z = false := fit_past (by omega)
  rw [this]; rfl
theorem map_next {k : Nat} {D : DataW Unit} (h : MapIs k (fun x => x) D) : MapIs (k + 1) (fun x => x) (D.put (kI (k : Int)) (dI 1)) := by
  obtain ⟨h1, h2, h3, h4⟩ := h
  refine ⟨h1.put (kI_key _) _, fun z => ?_, fun z => ?_, ?_⟩
  · by_cases e : z = (k : Int)
    · subst e
      rw [has_put_same h1.isMap (kI_key _), fit_of (by omega)]
      simp
    · rw [has_put_other (kI_ne e), h2 z]
      congr 1
      unfold fitB
      congr 1
      exact decide_eq_decide.2 ⟨fun _ => by omega, fun _ => by omega⟩
  · unfold cntZ
    rw [List.range_succ, List.countP_append, List.countP_singleton]
    by_cases e : z = (k : Int)
    · subst e
      rw [atKey_put_same h1.isMap (kI_key _)]
      have : (List.range k).countP (fun x : Nat => decide ((x : Int) = (k : Int))) = 0 := by
        rw [List.countP_eq_zero]
        intro x hx
        have := List.mem_range.1 hx
        simp
        omega
      rw [this]
      simp
    · rw [atKey_put_other (kI_ne e), h3 z, decide_eq_false (fun e2 => e e2.symm)]
      unfold cntZ
      simp
  · rw [size_put h1, h2, h4, rootsN_succ]
    have : fitB k (k : Int) = false := fit_past (by omega)
    rw [this]
    simp
/-- Two classes become one. -/
theorem map_join {n : Nat} {p : Nat → Nat} {D : DataW Unit} (h : MapIs n p D) {a b : Nat} (ha : p a = a) (hb : p b = b) (hab : a < b) (hbn : b < n) :
    MapIs n (moveP p a b) ((D.put (kI (a : Int)) (dI ((cntZ n p (a : Int) : Int) + (cntZ n p (b : Int) : Int)))).del (kI (b : Int))) := by
  obtain ⟨h1, h2, h3, h4⟩ := h
  have ht := h1.put (kI_key (a : Int)) (dI ((cntZ n p (a : Int) : Int) + (cntZ n p (b : Int) : Int)))
  have hne : (a : Int) ≠ (b : Int) := by omega
  have hasA : has D (kI (a : Int)) = true := by rw [h2, fit_of (by omega)]; simp [ha]
  have hasB : has D (kI (b : Int)) = true := by rw [h2, fit_of hbn]; simp [hb]
  refine ⟨ht.del _, fun z => ?_, fun z => ?_, ?_⟩
  · by_cases e : z = (b : Int)
    · subst e
      rw [has_del_same, Int.toNat_natCast]
      have : ¬ moveP p a b b = b := by unfold moveP; rw [if_pos hb]; omega
      rw [decide_eq_false this, Bool.and_false]
    · rw [has_del_other (kI_ne e)]
      cases hf : fitB n z
      · rw [Bool.false_and, has_put_other (kI_ne (fun e2 => by rw [e2, fit_of (by omega)] at hf; cases hf)), h2, hf, Bool.false_and]
      · obtain ⟨u, rfl, hu⟩ := fit_yes hf
        rw [Int.toNat_natCast, Bool.true_and]
        by_cases e2 : (u : Int) = (a : Int)
        · have : u = a := by omega
          subst this
          rw [has_put_same h1.isMap (kI_key _)]
          have : moveP p u b u = u := by unfold moveP; rw [if_neg (by omega), ha]
          rw [decide_eq_true this]
        · rw [has_put_other (kI_ne e2), h2, fit_of hu, Int.toNat_natCast, Bool.true_and]
          refine decide_eq_decide.2 ?_
          unfold moveP
          by_cases e3 : p u = b
          · rw [if_pos e3]; exact ⟨fun _ => by omega, fun _ => by omega⟩
          · rw [if_neg e3]
  · rw [move_cnt n p hab]
    by_cases e : z = (b : Int)
    · subst e
      rw [atKey_del_same, if_neg (fun e2 => hne e2.symm), if_pos rfl]
      rfl
    · rw [atKey_del_other (kI_ne e)]
      by_cases e2 : z = (a : Int)
      · subst e2
        rw [atKey_put_same h1.isMap (kI_key _), if_pos rfl]
        simp
      · rw [atKey_put_other (kI_ne e2), if_neg e2, if_neg e, h3]
  · have s1 := size_del (k := kI (b : Int)) ht
    rw [has_put_other (kI_ne (fun e => hne e.symm)), hasB, size_put h1, hasA, if_pos rfl, if_pos rfl, h4] at s1
    have := move_roots ha hb hab hbn
    omega
/-- Nothing but blocks g and m is otherwise; new ones may lie behind. -/
def Turns (g m : Nat) (w w' : World) : Prop :=
  w'.os = w.os ∧ w'.tape = w.tape ∧ w'.output = w.output ∧ w.heap.size ≤ w'.heap.size ∧ ∀ k, k < w.heap.size → k ≠ g → k ≠ m → w'.heap[k]? = w.heap[k]?
theorem Turns.refl (g m : Nat) (w : World) : Turns g m w w := ⟨rfl, rfl, rfl, Nat.le_refl _, fun _ _ _ _ => rfl⟩
theorem Turns.trans {g m : Nat} {a b c : World} (h : Turns g m a b) (k : Turns g m b c) : Turns g m a c := by
  obtain ⟨h1, h2, h3, h4, h5⟩ := h
  obtain ⟨k1, k2, k3, k4, k5⟩ := k
  exact ⟨k1.trans h1, k2.trans h2, k3.trans h3, Nat.le_trans h4 k4, fun i hi e1 e2 => (k5 i (Nat.lt_of_lt_of_le hi h4) e1 e2).trans (h5 i hi e1 e2)⟩
theorem Turns.grownG {g m : Nat} {w w' : World} (h : w.grownBy w' (some g)) : Turns g m w w' := ⟨h.os, h.tape, h.output, h.size, fun k hk e _ => h.block k hk (fun e2 => e (Option.some.inj e2))⟩
theorem Turns.grownM {g m : Nat} {w w' : World} (h : w.grownBy w' (some m)) : Turns g m w w' := ⟨h.os, h.tape, h.output, h.size, fun k hk _ e => h.block k hk (fun e2 => e (Option.some.inj e2))⟩
theorem Turns.ofBelow {g m : Nat} {w w' : World} (h : Below w.heap.size w w') : Turns g m w w' := ⟨h.os, h.tape, h.output, h.size, fun k hk _ _ => h.block k hk⟩
theorem Turns.drawn {g m : Nat} {w w' : World} (h : Turns g m w w') (k : Nat) : Turns g m w (w'.drewN k) := h
theorem Turns.below {g m M : Nat} {w w' : World} (h : Turns g m w w') (hs : M ≤ w.heap.size) (hg : M ≤ g) (hm : M ≤ m) : Below M w w' := by
  obtain ⟨h1, h2, h3, h4, h5⟩ := h
  exact ⟨h1, h2, h3, h4, fun k hk => h5 k (by omega) (by omega) (by omega)⟩
theorem Turns.two {g m b : Nat} {w w' : World} {u v : Value} (h : TwoAt b w u v) (hg : Turns g m w w') (e1 : b ≠ g) (e2 : b ≠ m) : TwoAt b w' u v := by
  have hk := hg.2.2.2.2 b h.lt e1 e2
  obtain ⟨h0, h1, f0, f1⟩ := h
  exact ⟨(World.cell?_of_block hk).trans h0, (World.cell?_of_block hk).trans h1, (World.frozen?_of_block hk).trans f0, (World.frozen?_of_block hk).trans f1⟩
theorem Turns.row {g m b : Nat} {w w' : World} {vs : List Value} (h : RowIs b w vs) (hl : b < w.heap.size) (hg : Turns g m w w') (e1 : b ≠ g) (e2 : b ≠ m) : RowIs b w' vs := by
  have hk := hg.2.2.2.2 b hl e1 e2
  exact fun i hi => ⟨(World.cell?_of_block hk).trans (h i hi).1, (World.frozen?_of_block hk).trans (h i hi).2⟩
def OwnsD (w : World) (m k : Nat) (D : DataW Unit) : Prop := w.ownsMap Tryz.prog 3 (plainElem (H := Unit) Tryz.prog 3) m k D
theorem map_tight {w : World} {m k : Nat} {D : DataW Unit} (h : OwnsD w m k D) : OwnsD w m (size D) D := by
  obtain ⟨es, clock, hb, F, _, rfl⟩ := h
  exact ⟨es, clock, hb, F, by simp [Maps.size, length_sorted], rfl⟩
theorem map_over {w w' : World} {m k : Nat} {D : DataW Unit} (h : OwnsD w m k D) (e : w'.heap[m]? = w.heap[m]?) : OwnsD w' m k D := by
  obtain ⟨es, clock, hb, r⟩ := h
  exact ⟨es, clock, e.trans hb, r⟩
/-- At block b the two parts, at g the list, at m the map; p tells the names of n vertices. -/
def ClsAt (b g m : Nat) (w : World) (n : Nat) (p : Nat → Nat) : Prop :=
  n ≤ 4096 ∧ Names n p ∧ b ≠ g ∧ b ≠ m ∧ g ≠ m ∧ g < w.heap.size ∧ TwoAt b w (.slice (some ⟨g, 0, none⟩) n n) (.map (some m)) ∧
  (∃ us, Up us n p ∧ RowIs g w (us.map encI)) ∧ ∃ D, OwnsD w m (rootsN n p) D ∧ MapIs n p D
theorem ClsAt.lt {b g m : Nat} {w : World} {n : Nat} {p : Nat → Nat} (h : ClsAt b g m w n p) : b < w.heap.size ∧ g < w.heap.size ∧ m < w.heap.size := by
  obtain ⟨-, -, -, -, -, h1, h2, -, D, h3, -⟩ := h
  exact ⟨h2.lt, h1, h3.lt⟩
theorem ClsAt.past {b g m g' m' : Nat} {w w' : World} {n : Nat} {p : Nat → Nat} (h : ClsAt b g m w n p) (ht : Turns g' m' w w') (e1 : b ≠ g' ∧ b ≠ m') (e2 : g ≠ g' ∧ g ≠ m') (e3 : m ≠ g' ∧ m ≠ m') : ClsAt b g m w' n p := by
  have hl := h.lt
  obtain ⟨a1, a2, a3, a4, a5, a6, a7, ⟨us, a8, a9⟩, D, b1, b2⟩ := h
  exact ⟨a1, a2, a3, a4, a5, Nat.lt_of_lt_of_le a6 ht.2.2.2.1, ht.two a7 e1.1 e1.2, ⟨us, a8, ht.row a9 a6 e2.1 e2.2⟩, D, map_over b1 (ht.2.2.2.2 m hl.2.2 e3.1 e3.2), b2⟩
theorem ClsAt.on {b g m M : Nat} {w w' : World} {n : Nat} {p : Nat → Nat} (h : ClsAt b g m w n p) (hb : Below M w w') (e1 : b < M) (e2 : g < M) (e3 : m < M) : ClsAt b g m w' n p := by
  obtain ⟨a1, a2, a3, a4, a5, a6, a7, ⟨us, a8, a9⟩, D, b1, b2⟩ := h
  exact ⟨a1, a2, a3, a4, a5, Nat.lt_of_lt_of_le a6 hb.size, a7.on hb e1, ⟨us, a8, a9.on hb e2⟩, D, map_over b1 (hb.block m e3), b2⟩
theorem ClsAt.keep {b g m : Nat} {w w' : World} {n : Nat} {p : Nat → Nat} (h : ClsAt b g m w n p) (hb : Below w.heap.size w w') : ClsAt b g m w' n p := h.on hb h.lt.1 h.lt.2.1 h.lt.2.2
theorem ClsAt.drawn {b g m : Nat} {w : World} {n : Nat} {p : Nat → Nat} (h : ClsAt b g m w n p) (k : Nat) : ClsAt b g m (w.drewN k) n p := h.keep (below_drewN (Below.refl _ _) k)
theorem law : Keyed Tryz.prog 3 := int_keyed Tryz.underlying3
theorem zeroI (w : World) : (zeroValue 3).run Tryz.prog w = .ok (.int .i64 0) w := by kernel_rfl
theorem keyI {z : Int} (h0 : -9223372036854775808 ≤ z) (h1 : z ≤ 9223372036854775807) : keyOf Tryz.prog 3 (.int .i64 z) = some (kI z) := keyOf_int_mk Tryz.underlying3 (WalkArith.wf_i64 (by omega))
set_option maxRecDepth 100000 in
/-- What a look-up tells. -/
theorem look_any {w : World} {m k n : Nat} {p : Nat → Nat} {D : DataW Unit} (h : OwnsD w m k D) (hD : MapIs n p D) {z : Int} (h0 : -9223372036854775808 ≤ z) (h1 : z ≤ 9223372036854775807) :
    (Instr.lookup 98 (.map (some m)) (.int .i64 z) false).run Tryz.prog w = .ok (.int .i64 (cntZ n p z)) w := by
  obtain ⟨c, hrun, hat, -⟩ := h.lookup_int law Tryz.underlying98 Tryz.underlying3 (zeroI w) (keyI h0 h1)
  have := hat.symm.trans (hD.2.2.1 z)
  unfold dI at this
  injection this with e
  injection e with _ e
  rw [hrun, e]
set_option maxRecDepth 100000 in
theorem look_ok {w : World} {m k n : Nat} {p : Nat → Nat} {D : DataW Unit} (h : OwnsD w m k D) (hD : MapIs n p D) {z : Int} (h0 : -9223372036854775808 ≤ z) (h1 : z ≤ 9223372036854775807) :
    (Instr.lookup 98 (.map (some m)) (.int .i64 z) true).run Tryz.prog w = .ok (.tuple #[.int .i64 (cntZ n p z), .bool (fitB n z && decide (p z.toNat = z.toNat))]) w := by
  obtain ⟨v, ps, hrun, hv⟩ := h.look_ok law Tryz.underlying98 (zeroI w) (plainElem_int (H := Unit) Tryz.underlying3 (by decide)) (keyI h0 h1)
  obtain ⟨c, rfl, hc, -⟩ := plainElem_int_inv Tryz.underlying3 hv
  have := (congrArg Prod.fst hc).symm.trans (hD.2.2.1 z)
  simp only at this
  unfold dI at this
  injection this with e
  injection e with _ e
  rw [hrun, e, hD.2.1]
theorem len_map {w : World} {m k n : Nat} {p : Nat → Nat} {D : DataW Unit} (h : OwnsD w m k D) (hD : MapIs n p D) (ty : TypeId) : (Builtin.len_ #[98] ty #[.map (some m)]).run Tryz.prog w = .ok (.int .i64 (rootsN n p)) w := by
  rw [h.len Tryz.underlying98, hD.2.2.2]
end Go.Proofs.YtmohfmhkhldhnaaGreat.Ds
/- Contracts of Room, Count and Of of classes, at every argument. -/
namespace Go.Proofs.YtmohfmhkhldhnaaGreat.Ds
open Go.RowKit Go.ChangeShapes Go.Maps DsuPure
theorem room_nil (w : World) :
    Calls Tryz.prog 50 #[.pointer none] w fun e w' => e = .returned (.int .i64 0) ∧ w = w' := by
  go_enter Tryz.func50, Tryz.ntmps50
  go_wp2
  go_ret
  exact ⟨rfl, rfl⟩
theorem room_any (b g m n : Nat) (p : Nat → Nat) (w : World) (h : ClsAt b g m w n p) :
    Calls Tryz.prog 50 #[.pointer (some ⟨b, 0, none⟩)] w fun e w' => e = .returned (.int .i64 (n : Int)) ∧ w = w' := by
  have c0 := h.2.2.2.2.2.2.1.1
  clear h
  go_enter Tryz.func50, Tryz.ntmps50
  go_wp2
  go_ret
  exact ⟨rfl, rfl⟩
theorem count_nil (w : World) :
    Calls Tryz.prog 33 #[.pointer none] w fun e w' => e = .returned (.int .i64 0) ∧ w = w' := by
  go_enter Tryz.func33, Tryz.ntmps33
  go_wp2
  go_ret
  exact ⟨rfl, rfl⟩
theorem count_any (b g m n : Nat) (p : Nat → Nat) (w : World) (h : ClsAt b g m w n p) :
    Calls Tryz.prog 33 #[.pointer (some ⟨b, 0, none⟩)] w fun e w' => e = .returned (.int .i64 (rootsN n p : Int)) ∧ w = w' := by
  have c1 := h.2.2.2.2.2.2.1.2.1
  obtain ⟨D, hD, hM⟩ := h.2.2.2.2.2.2.2.2
  have hlen := len_map hD hM
  clear h hD hM
  go_enter Tryz.func33, Tryz.ntmps33
  go_wp2
  go_ret
  exact ⟨rfl, rfl⟩
theorem of_nil (v : Int) (w : World) :
    Calls Tryz.prog 39 #[.pointer none, .int .i64 v] w fun e w' => e = .returned (.int .i64 (-1)) ∧ w = w' := by
  by_cases a : v < 0
  · go_enter Tryz.func39, Tryz.ntmps39
    go_wp2
    go_step3
    go_wp2_with (first | (go_at_call 50; refine (room_nil _).mono ?_; rintro e w' ⟨rfl, rfl⟩))
    rw [Exit.noGoto_ret]
    go_ret
    exact ⟨rfl, rfl⟩
  · have a2 : v ≥ 0 := by omega
    go_enter Tryz.func39, Tryz.ntmps39
    go_wp2
    go_step3
    go_wp2_with (first | (go_at_call 50; refine (room_nil _).mono ?_; rintro e w' ⟨rfl, rfl⟩))
    rw [Exit.noGoto_ret]
    go_ret
    exact ⟨rfl, rfl⟩
theorem of_none (b g m n : Nat) (p : Nat → Nat) (v : Int) (w : World) (h : ClsAt b g m w n p) (hf : fitB n v = false) :
    Calls Tryz.prog 39 #[.pointer (some ⟨b, 0, none⟩), .int .i64 v] w fun e w' => e = .returned (.int .i64 (-1)) ∧ w = w' := by
  have HC := Lib.hid h
  have hno := fit_no hf
  clear h hf
  by_cases a : v < 0
  · clear hno
    go_enter Tryz.func39, Tryz.ntmps39
    go_wp2
    go_step3
    go_wp2_with (first | (go_at_call 50; refine (room_any b g m n p _ HC.out).mono ?_; rintro e w' ⟨rfl, rfl⟩))
    rw [Exit.noGoto_ret]
    go_ret
    exact ⟨rfl, rfl⟩
  · have a2 : v ≥ (n : Int) := by omega
    clear hno
    go_enter Tryz.func39, Tryz.ntmps39
    go_wp2
    go_step3
    go_wp2_with (first | (go_at_call 50; refine (room_any b g m n p _ HC.out).mono ?_; rintro e w' ⟨rfl, rfl⟩))
    rw [Exit.noGoto_ret]
    go_ret
    exact ⟨rfl, rfl⟩
end Go.Proofs.YtmohfmhkhldhnaaGreat.Ds
/- Of: the way up to a class's name, halved as it is gone. -/
namespace Go.Proofs.YtmohfmhkhldhnaaGreat.Ds
open Go.RowKit Go.ChangeShapes Go.Maps DsuPure
/-- On the way up: the vertex, and what stands of the classes. -/
def Climb (b g m n : Nat) (p : Nat → Nat) (w : World) (r x : Nat) (W : World) : Prop := x < n ∧ p x = r ∧ Turns g m w W ∧ ClsAt b g m W n p
theorem climb_ok {b g m n : Nat} {p : Nat → Nat} {w W : World} {r x : Nat} (h : Climb b g m n p w r x W) :
    W.cell? ⟨b, 1, none⟩ = some (.map (some m)) ∧ (Instr.lookup 98 (.map (some m)) (.int .i64 (x : Int)) true).run Tryz.prog W = .ok (.tuple #[.int .i64 (cntZ n p (x : Int)), .bool (decide (p x = x))]) W := by
  obtain ⟨h1, -, -, h4⟩ := h
  obtain ⟨D, hD, hM⟩ := h4.2.2.2.2.2.2.2.2
  have hn := h4.1
  have := look_ok hD hM (z := (x : Int)) (by omega) (by omega)
  rw [fit_of h1, Bool.true_and, Int.toNat_natCast] at this
  exact ⟨h4.2.2.2.2.2.2.1.2.1, this⟩
/-- The step that skips the vertex above. -/
theorem climb_step {b g m n : Nat} {p : Nat → Nat} {w W : World} {r x : Nat} (h : Climb b g m n p w r x W) (hx : decide (p x = x) = false) :
    ∃ y z : Nat, y < n ∧ z < x ∧ W.cell? ⟨b, 0, none⟩ = some (.slice (some ⟨g, 0, none⟩) n n) ∧ W.cell? ⟨g, x, none⟩ = some (.int .i64 (y : Int)) ∧ W.cell? ⟨g, y, none⟩ = some (.int .i64 (z : Int)) ∧ W.frozen? ⟨g, x, none⟩ = false ∧
      Climb b g m n p w r z (W.setCell ⟨g, x, none⟩ (.int .i64 (z : Int))) := by
  have hx := of_decide_eq_false hx
  obtain ⟨h1, h2, h3, h4⟩ := h
  obtain ⟨a1, a2, a3, a4, a5, a6, a7, ⟨us, a8, a9⟩, D, b1, b2⟩ := h4
  obtain ⟨l, hu⟩ := a8
  obtain ⟨e1, e2, e3⟩ := hu x h1
  have hy : us.getD x 0 < x := by
    rcases Nat.lt_or_ge (us.getD x 0) x with k | k
    · exact k
    · exact absurd (e3 (by omega)) hx
  obtain ⟨f1, f2, f3⟩ := hu (us.getD x 0) (by omega)
  have row : ∀ i, i < n → W.cell? ⟨g, i, none⟩ = some (.int .i64 ((us.getD i 0 : Nat) : Int)) ∧ W.frozen? ⟨g, i, none⟩ = false := fun i hi => by
    have := a9 i (by rw [List.length_map]; omega)
    rw [List.getElem_map] at this
    have e : us[i]'(by omega) = us.getD i 0 := by rw [List.getD_eq_getElem?_getD, List.getElem?_eq_getElem (by omega)]; rfl
    rw [e] at this
    exact this
  have hr := a9.set (k := x) (by rw [List.length_map]; omega) (encI (us.getD (us.getD x 0) 0))
  rw [← List.map_set] at hr
  have hup : Up (us.set x (us.getD (us.getD x 0) 0)) n p := up_halve ⟨l, hu⟩ h1 (by omega) (f2.trans e2)
  have hg : W.grownBy (W.setCell ⟨g, x, none⟩ (.int .i64 ((us.getD (us.getD x 0) 0 : Nat) : Int))) (some g) := ⟨rfl, rfl, rfl, by simp, fun k _ hk => Below.heap_setCell _ _ _ k (fun e => hk (by rw [e]))⟩
  have ht : Turns g m W (W.setCell ⟨g, x, none⟩ (.int .i64 ((us.getD (us.getD x 0) 0 : Nat) : Int))) := Turns.grownG hg
  exact ⟨us.getD x 0, us.getD (us.getD x 0) 0, by omega, by omega, a7.1, (row x h1).1, (row _ (by omega)).1, (row x h1).2, by omega, by rw [f2, e2]; exact h2, h3.trans ht, a1, a2, a3, a4, a5, by simpa using a6, Turns.two a7 ht a3 a4, ⟨_, hup, hr⟩, D,
    map_over b1 (hg.block m b1.lt (fun e => a5 (Option.some.inj e).symm)), b2⟩
theorem Climb.drawn {b g m n : Nat} {p : Nat → Nat} {w W : World} {r x : Nat} (h : Climb b g m n p w r x W) (k : Nat) : Climb b g m n p w r x (W.drewN k) := ⟨h.1, h.2.1, h.2.2.1, h.2.2.2.drawn k⟩
theorem Climb.end {b g m n : Nat} {p : Nat → Nat} {w W : World} {r x : Nat} (h : Climb b g m n p w r x W) (hx : decide (p x = x) = true) : x = r := (of_decide_eq_true hx).symm.trans h.2.1
def natOf : Value → Nat
  | .int _ n => n.toNat
  | _ => 0
set_option maxRecDepth 1000000 in
set_option maxRecDepth 100000 in
set_option maxHeartbeats 4000000 in
theorem of_fit (b g m n : Nat) (p : Nat → Nat) (x : Nat) (w : World) (h : ClsAt b g m w n p) (hx : x < n) :
    Calls Tryz.prog 39 #[.pointer (some ⟨b, 0, none⟩), .int .i64 (x : Int)] w fun e w' => e = .returned (.int .i64 (p x : Int)) ∧ Turns g m w w' ∧ ClsAt b g m w' n p := by
  have HC := Lib.hid h
  have h4 := h.1
  have HJ : Hid (Climb b g m n p w (p x) x w) := Lib.hid ⟨hx, rfl, Turns.refl _ _ _, h⟩
  obtain ⟨r, hr⟩ : ∃ r, r = p x := ⟨_, rfl⟩
  rw [← hr] at HJ ⊢
  clear h hr
  have i0 : ¬ (x : Int) < 0 := by omega
  have i1 : ¬ (x : Int) ≥ (n : Int) := by omega
  go_enter Tryz.func39, Tryz.ntmps39
  go_wp2
  refine wp_scope_jumps 0 (fun a' w' => ∃ y : Nat, Hid (Climb b g m n p w r y w') ∧ ∃ (u5 u6 u7 u8 u9 u10 u11 u12 u13 u14 u15 u16 u17 u18 u19 u20 u21 u22 u23 u24 u25 u26 u27 u28 u29 u30 u31 u32 u33 u34 u35 u36 u37 u38 u39 u40 u41 u42 u43 u44 u45 u46 u47 u48 u49 u50 u51 : Value), a' = { tmps := #[.pointer (some ⟨b, 0, none⟩), .int .i64 (y : Int), undef, undef, .int .i64 0, u5, u6, u7, u8, u9, u10, u11, u12, u13, u14, u15, u16, u17, u18, u19, u20, u21, u22, u23, u24, u25, u26, u27, u28, u29, u30, u31, u32, u33, u34, u35, u36, u37, u38, u39, u40, u41, u42, u43, u44, u45, u46, u47, u48, u49, u50, u51], defers := [] }) (fun a' _ => natOf (a'.tmps.getD 1 undef)) rfl ?_ ?_
  · cases hx2 : decide (p x = x)
    · obtain ⟨c1, hl⟩ := climb_ok HJ.out
      rw [hx2] at hl
      have HX := Lib.hid hx2
      clear hx2
      go_wp2_with (first | (go_at_call 50; refine (room_any b g m n p _ HC.out).mono ?_; rintro e w' ⟨rfl, rfl⟩))
      go_step3
      go_wp2_with fail
      clear c1 hl
      have HY1 : Hid (Climb b g m n p w r x (w.drewN 1)) := Lib.hid (HJ.out.drawn 1)
      have hyn : x < n := HJ.out.1
      clear HJ HC
      refine wp_region_still_tail 19 (by kernel_rfl) (by kernel_rfl) ?_
      change wpStill _ _ (w.drewN 1) _ _ _
      change wpStill _ _ _ (fun a' => wpList _ _ _ _ _ (w.drewN 1)) _ _
      generalize w.drewN 1 = W1 at *
      obtain ⟨t, z, k1, k2, c0, c1, c2, f1, HZ0⟩ := climb_step HY1.out HX.out
      have HZ := Lib.hid HZ0
      clear HZ0 HY1 HX
      have j0 : (0 : Int) ≤ (x : Int) := by omega
      have j1 : (x : Int) < (n : Int) := by omega
      have j2 : (0 : Int) ≤ (t : Int) := by omega
      have j3 : (t : Int) < (n : Int) := by omega
      simp only [List.take_succ_cons, List.take_zero, List.drop_succ_cons, List.drop_zero]
      repeat still_step
      refine wpStill_nil ?_
      go_wp2
      go_step3
      exact ⟨rfl, z, HZ, _, _, _, _, _, _, _, _, _, _, _, _, _, _, _, _, _, _, _, _, _, _, _, _, _, _, _, _, _, _, _, _, _, _, _, _, _, _, _, _, _, _, _, _, _, _, _, rfl⟩
    · obtain ⟨c1, hl⟩ := climb_ok HJ.out
      rw [hx2] at hl
      have HE := Lib.hid (HJ.out.end hx2)
      clear hx2
      go_wp2_with (first | (go_at_call 50; refine (room_any b g m n p _ HC.out).mono ?_; rintro e w' ⟨rfl, rfl⟩))
      go_step3
      go_wp2_with fail
      simp only [Exit.jump]
      go_ret
      exact ⟨ret_i (by rw [HE.out]), HJ.out.2.2.1, HJ.out.2.2.2⟩
  · rintro a' W ⟨y, HY, u5, u6, u7, u8, u9, u10, u11, u12, u13, u14, u15, u16, u17, u18, u19, u20, u21, u22, u23, u24, u25, u26, u27, u28, u29, u30, u31, u32, u33, u34, u35, u36, u37, u38, u39, u40, u41, u42, u43, u44, u45, u46, u47, u48, u49, u50, u51, rfl⟩
    cases hx2 : decide (p y = y)
    · obtain ⟨c1, hl⟩ := climb_ok HY.out
      rw [hx2] at hl
      have HX := Lib.hid hx2
      clear hx2
      go_wp2_with fail
      clear c1 hl
      have HY1 : Hid (Climb b g m n p w r y (W.drewN 1)) := Lib.hid (HY.out.drawn 1)
      have hyn : y < n := HY.out.1
      clear HY
      refine wp_region_still_tail 19 (by kernel_rfl) (by kernel_rfl) ?_
      change wpStill _ _ (W.drewN 1) _ _ _
      change wpStill _ _ _ (fun a' => wpList _ _ _ _ _ (W.drewN 1)) _ _
      generalize W.drewN 1 = W1 at *
      obtain ⟨t, z, k1, k2, c0, c1, c2, f1, HZ0⟩ := climb_step HY1.out HX.out
      have HZ := Lib.hid HZ0
      clear HZ0 HY1 HX
      have j0 : (0 : Int) ≤ (y : Int) := by omega
      have j1 : (y : Int) < (n : Int) := by omega
      have j2 : (0 : Int) ≤ (t : Int) := by omega
      have j3 : (t : Int) < (n : Int) := by omega
      simp only [List.take_succ_cons, List.take_zero, List.drop_succ_cons, List.drop_zero]
      repeat still_step
      refine wpStill_nil ?_
      go_wp2
      go_step3
      exact ⟨rfl, ⟨z, HZ, _, _, _, _, _, _, _, _, _, _, _, _, _, _, _, _, _, _, _, _, _, _, _, _, _, _, _, _, _, _, _, _, _, _, _, _, _, _, _, _, _, _, _, _, _, _, _, rfl⟩, by simp [natOf]; omega⟩
    · obtain ⟨c1, hl⟩ := climb_ok HY.out
      rw [hx2] at hl
      have HE := Lib.hid (HY.out.end hx2)
      clear hx2
      go_wp2_with fail
      simp only [Exit.jump]
      go_ret
      exact ⟨ret_i (by rw [HE.out]), HY.out.2.2.1, HY.out.2.2.2⟩
end Go.Proofs.YtmohfmhkhldhnaaGreat.Ds
