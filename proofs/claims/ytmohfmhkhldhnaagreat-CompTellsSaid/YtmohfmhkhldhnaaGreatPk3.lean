/- Texts that the laws of this seat stand on, part 3. -/
import Derived.Test.YtmohfmhkhldhnaaGreatPk2
import Derived.Deep.Cut
import Derived.Deep.CutRange
import Derived.Carry
/- Same, Size and Join of classes, at every argument. -/
namespace Go.Proofs.YtmohfmhkhldhnaaGreat.Ds
open Go.RowKit Go.ChangeShapes Go.Maps DsuPure
theorem of_any (b g m n : Nat) (p : Nat → Nat) (v : Int) (w : World) (h : ClsAt b g m w n p) :
    Calls Tryz.prog 39 #[.pointer (some ⟨b, 0, none⟩), .int .i64 v] w fun e w' => e = .returned (.int .i64 (ofZ n p v)) ∧ Turns g m w w' ∧ ClsAt b g m w' n p := by
  unfold ofZ
  cases hf : fitB n v
  · refine (of_none b g m n p v w h hf).mono ?_
    rintro e w' ⟨rfl, rfl⟩
    exact ⟨rfl, Turns.refl _ _ _, h⟩
  · obtain ⟨x, rfl, hx⟩ := fit_yes hf
    refine (of_fit b g m n p x w h hx).mono ?_
    rintro e w' ⟨rfl, k1, k2⟩
    exact ⟨rfl, k1, k2⟩
theorem ofZ_same (n : Nat) (p : Nat → Nat) (u v : Int) : (decide (0 ≤ ofZ n p u) && decide (ofZ n p u = ofZ n p v)) = sameZ n p u v := by
  unfold ofZ sameZ
  cases hu : fitB n u <;> cases hv : fitB n v <;> simp <;> omega
theorem ofZ_range {n : Nat} {p : Nat → Nat} (h : Names n p) (hn : n ≤ 4096) (v : Int) : -1 ≤ ofZ n p v ∧ ofZ n p v < 4096 := by
  unfold ofZ
  cases hf : fitB n v
  · simp
  · obtain ⟨x, rfl, hx⟩ := fit_yes hf
    have := h.1 x
    rw [Int.toNat_natCast]
    simp only [if_true]
    omega
theorem same_nil (u v : Int) (w : World) :
    Calls Tryz.prog 37 #[.pointer none, .int .i64 u, .int .i64 v] w fun e w' => e = .returned (.bool false) ∧ w = w' := by
  go_enter Tryz.func37, Tryz.ntmps37
  go_wp2_with (first | (go_at_call 39; refine (of_nil _ _).mono ?_; rintro e w' ⟨rfl, rfl⟩))
  go_ret
  exact ⟨rfl, rfl⟩
theorem same_any (b g m n : Nat) (p : Nat → Nat) (u v : Int) (w : World) (h : ClsAt b g m w n p) :
    Calls Tryz.prog 37 #[.pointer (some ⟨b, 0, none⟩), .int .i64 u, .int .i64 v] w fun e w' => e = .returned (.bool (sameZ n p u v)) ∧ Turns g m w w' ∧ ClsAt b g m w' n p := by
  have HC := Lib.hid h
  clear h
  have HZ := Lib.hid (ofZ_same n p u v)
  go_enter Tryz.func37, Tryz.ntmps37
  go_wp2_with fail
  refine (of_any b g m n p u w HC.out).mono ?_
  rintro e w1 ⟨rfl, t1, k1⟩
  have HC1 := Lib.hid (And.intro t1 k1)
  clear t1 k1 HC
  go_wp2_with fail
  refine (of_any b g m n p v w1 HC1.out.2).mono ?_
  rintro e w2 ⟨rfl, t2, k2⟩
  have HC2 := Lib.hid (And.intro (HC1.out.1.trans t2) k2)
  clear t2 k2 HC1
  generalize ofZ n p u = a at *
  generalize ofZ n p v = c at *
  by_cases ha : 0 ≤ a
  · have ha' : a ≥ 0 := ha
    go_wp2
    go_ret
    refine ⟨bool_ret ?_, HC2.out.1, HC2.out.2⟩
    rw [← HZ.out, decide_eq_true ha, Bool.true_and]
    rfl
  · have ha' : ¬ a ≥ 0 := ha
    go_wp2
    go_ret
    refine ⟨bool_ret ?_, HC2.out.1, HC2.out.2⟩
    rw [← HZ.out, decide_eq_false (show ¬ 0 ≤ a by omega), Bool.false_and]
theorem cls_size {b g m n : Nat} {p : Nat → Nat} {w : World} (h : ClsAt b g m w n p) (v : Int) :
    (Instr.lookup 98 (.map (some m)) (.int .i64 (ofZ n p v)) false).run Tryz.prog w = .ok (.int .i64 (sizeZ n p v)) w := by
  obtain ⟨D, hD, hM⟩ := h.2.2.2.2.2.2.2.2
  have := ofZ_range h.2.1 h.1 v
  exact look_any hD hM (by omega) (by omega)
theorem cls_cells {b g m n : Nat} {p : Nat → Nat} {w : World} (h : ClsAt b g m w n p) : w.cell? ⟨b, 0, none⟩ = some (.slice (some ⟨g, 0, none⟩) n n) ∧ w.cell? ⟨b, 1, none⟩ = some (.map (some m)) := ⟨h.2.2.2.2.2.2.1.1, h.2.2.2.2.2.2.1.2.1⟩
theorem twoZ_no {n : Nat} {p : Nat → Nat} {u v : Int} (h : twoZ n p u v = false) : joinZ n p u v = p ∧ (min (ofZ n p u) (ofZ n p v) < 0 ∨ 0 ≤ min (ofZ n p u) (ofZ n p v) ∧ min (ofZ n p u) (ofZ n p v) = max (ofZ n p u) (ofZ n p v)) := by
  unfold twoZ at h
  unfold joinZ ofZ
  cases hu : fitB n u <;> cases hv : fitB n v <;> simp [hu, hv] at h ⊢
  · omega
  · omega
  · rw [joinN_same h, h]
    exact ⟨rfl, by omega⟩
theorem twoZ_yes {n : Nat} {p : Nat → Nat} {u v : Int} (hN : Names n p) (h : twoZ n p u v = true) :
    ∃ a c : Nat, (ofZ n p u = (a : Int) ∧ ofZ n p v = (c : Int) ∨ ofZ n p u = (c : Int) ∧ ofZ n p v = (a : Int)) ∧ p a = a ∧ p c = c ∧ a < c ∧ c < n ∧ joinZ n p u v = moveP p a c := by
  unfold twoZ at h
  simp only [Bool.and_eq_true, Bool.not_eq_true', decide_eq_false_iff_not] at h
  obtain ⟨⟨hu, hv⟩, hne⟩ := h
  unfold joinZ ofZ
  rw [hu, hv]
  obtain ⟨x, rfl, hx⟩ := fit_yes hu
  obtain ⟨y, rfl, hy⟩ := fit_yes hv
  simp only [Int.toNat_natCast, Bool.and_self, if_true] at hne ⊢
  have hx1 := hN.1 x
  have hy1 := hN.1 y
  have hx2 := hN.2.1 x
  have hy2 := hN.2.1 y
  refine ⟨min (p x) (p y), max (p x) (p y), by omega, ?_, ?_, by omega, by omega, joinN_move p x y⟩
  · rcases Nat.le_total (p x) (p y) with l | l
    · rw [Nat.min_eq_left l]; exact hx2
    · rw [Nat.min_eq_right l]; exact hy2
  · rcases Nat.le_total (p x) (p y) with l | l
    · rw [Nat.max_eq_right l]; exact hy2
    · rw [Nat.max_eq_left l]; exact hx2
theorem join_nil (u v : Int) (w : World) :
    Calls Tryz.prog 52 #[.pointer none, .int .i64 u, .int .i64 v] w fun e w' => e = .returned (.bool false) ∧ w = w' := by
  go_enter Tryz.func52, Tryz.ntmps52
  go_wp2_with (first | (go_at_call 39; refine (of_nil _ _).mono ?_; rintro e w' ⟨rfl, rfl⟩))
  go_ret
  exact ⟨rfl, rfl⟩
/-- The list is turned at the name that goes. -/
theorem ClsAt.link {b g m n : Nat} {p : Nat → Nat} {w : World} (h : ClsAt b g m w n p) {c : Nat} (hc : c < n) :
    ∃ us, Up us n p ∧ RowIs g w (us.map encI) ∧ (∃ v, w.cell? ⟨g, c, none⟩ = some v) ∧ w.frozen? ⟨g, c, none⟩ = false := by
  obtain ⟨a1, a2, a3, a4, a5, a6, a7, ⟨us, a8, a9⟩, D, b1, b2⟩ := h
  have := a9 c (by rw [List.length_map, a8.1]; exact hc)
  exact ⟨us, a8, a9, ⟨_, this.1⟩, this.2⟩
end Go.Proofs.YtmohfmhkhldhnaaGreat.Ds
/- Join of classes, at every argument. -/
namespace Go.Proofs.YtmohfmhkhldhnaaGreat.Ds
open Go.RowKit Go.ChangeShapes Go.Maps DsuPure
/-- In the midst of a join: the list tells of the new names q already, the map is D. -/
def Mid (b g m : Nat) (w : World) (n : Nat) (q : Nat → Nat) (k : Nat) (D : DataW Unit) (W : World) : Prop :=
  n ≤ 4096 ∧ Names n q ∧ b ≠ g ∧ b ≠ m ∧ g ≠ m ∧ g < W.heap.size ∧ TwoAt b W (.slice (some ⟨g, 0, none⟩) n n) (.map (some m)) ∧
  (∃ us, Up us n q ∧ RowIs g W (us.map encI)) ∧ OwnsD W m k D ∧ Turns g m w W
theorem Mid.drawn {b g m n k : Nat} {q : Nat → Nat} {w W : World} {D : DataW Unit} (h : Mid b g m w n q k D W) (j : Nat) : Mid b g m w n q k D (W.drewN j) := h
theorem Mid.turn {b g m n k k' : Nat} {q : Nat → Nat} {w W W' : World} {D D' : DataW Unit} (h : Mid b g m w n q k D W) (hg : W.grownBy W' (some m)) (hD : OwnsD W' m k' D') : Mid b g m w n q k' D' W' := by
  obtain ⟨a1, a2, a3, a4, a5, a6, a7, ⟨us, a8, a9⟩, a10, a11⟩ := h
  have ht : Turns m m W W' := Turns.grownM hg
  exact ⟨a1, a2, a3, a4, a5, Nat.lt_of_lt_of_le a6 hg.size, Turns.two a7 ht a4 a4, ⟨us, a8, Turns.row a9 a6 ht a5 a5⟩, hD, a11.trans (Turns.grownM hg)⟩
theorem Mid.start {b g m n : Nat} {p : Nat → Nat} {w W : World} (h : ClsAt b g m W n p) (ht : Turns g m w W) {a c : Nat} (ha : p a = a) (hc : p c = c) (hac : a < c) (hcn : c < n) :
    ∃ D, MapIs n p D ∧ Mid b g m w n (moveP p a c) (rootsN n p) D (W.setCell ⟨g, c, none⟩ (.int .i64 (a : Int))) := by
  obtain ⟨a1, a2, a3, a4, a5, a6, a7, ⟨us, a8, a9⟩, D, b1, b2⟩ := h
  have hg : W.grownBy (W.setCell ⟨g, c, none⟩ (.int .i64 (a : Int))) (some g) := ⟨rfl, rfl, rfl, by simp, fun k _ hk => Below.heap_setCell _ _ _ k (fun e => hk (by rw [e]))⟩
  have hr := a9.set (k := c) (by rw [List.length_map, a8.1]; exact hcn) (encI a)
  rw [← List.map_set] at hr
  exact ⟨D, b2, a1, move_names a2 ha hac hcn, a3, a4, a5, by simpa using a6, Turns.two a7 (Turns.grownG (m := g) hg) a3 a3, ⟨_, up_move a8 ha hc hac hcn, hr⟩, map_over b1 (hg.block m b1.lt (fun e => a5 (Option.some.inj e).symm)), ht.trans (Turns.grownG hg)⟩
theorem Mid.end {b g m n k : Nat} {q : Nat → Nat} {w W : World} {D : DataW Unit} (h : Mid b g m w n q k D W) (hM : MapIs n q D) : Turns g m w W ∧ ClsAt b g m W n q := by
  obtain ⟨a1, a2, a3, a4, a5, a6, a7, a8, a9, a10⟩ := h
  have := map_tight a9
  rw [hM.2.2.2] at this
  exact ⟨a10, a1, a2, a3, a4, a5, a6, a7, a8, D, this, hM⟩
set_option maxRecDepth 100000 in
set_option maxHeartbeats 2000000 in
theorem join_any (b g m n : Nat) (p : Nat → Nat) (u v : Int) (w : World) (h : ClsAt b g m w n p) :
    Calls Tryz.prog 52 #[.pointer (some ⟨b, 0, none⟩), .int .i64 u, .int .i64 v] w fun e w' => e = .returned (.bool (twoZ n p u v)) ∧ Turns g m w w' ∧ ClsAt b g m w' n (joinZ n p u v) := by
  have HC := Lib.hid h
  clear h
  cases ht : twoZ n p u v
  · obtain ⟨hj, hno⟩ := twoZ_no ht
    rw [hj]
    clear ht hj
    go_enter Tryz.func52, Tryz.ntmps52
    go_wp2_with fail
    refine (of_any b g m n p u w HC.out).mono ?_
    rintro e w1 ⟨rfl, t1, k1⟩
    have HC1 := Lib.hid (And.intro t1 k1)
    clear t1 k1 HC
    go_wp2_with fail
    refine (of_any b g m n p v w1 HC1.out.2).mono ?_
    rintro e w2 ⟨rfl, t2, k2⟩
    have HC2 := Lib.hid (And.intro (HC1.out.1.trans t2) k2)
    clear t2 k2 HC1
    generalize ofZ n p u = a at *
    generalize ofZ n p v = c at *
    obtain ⟨lo, hlo⟩ : ∃ lo, min a c = lo := ⟨_, rfl⟩
    obtain ⟨hi, hhi⟩ : ∃ hi, max a c = hi := ⟨_, rfl⟩
    rw [hlo, hhi] at hno
    rcases hno with hno | ⟨hno, he⟩
    · go_wp2
      all_goals (go_ret; exact ⟨rfl, HC2.out.1, HC2.out.2⟩)
    · subst he
      have hno' : ¬ lo < 0 := by omega
      go_wp2
      go_ret
      exact ⟨rfl, HC2.out.1, HC2.out.2⟩
  · obtain ⟨a, c, hlo, ha, hc, hac, hcn, hj⟩ := twoZ_yes HC.out.2.1 ht
    rw [hj]
    have hn := HC.out.1
    clear ht hj
    have q1 : (a : Int) < (c : Int) := by omega
    have q2 : ¬ (c : Int) < (a : Int) := by omega
    have q3 : (a : Int) ≤ (c : Int) := by omega
    have q4 : ¬ (c : Int) ≤ (a : Int) := by omega
    have j0 : ¬ (a : Int) < 0 := by omega
    have j1 : ((a : Int) == (c : Int)) = false := by simp; omega
    have j2 : (0 : Int) ≤ (c : Int) := by omega
    have j3 : (c : Int) < (n : Int) := by omega
    have hA := cntZ_le n p (a : Int)
    have hB := cntZ_le n p (c : Int)
    rcases hlo with ⟨e1, e2⟩ | ⟨e1, e2⟩
    · have HE1 := Lib.hid e1
      have HE2 := Lib.hid e2
      clear e1 e2
      go_enter Tryz.func52, Tryz.ntmps52
      go_wp2_with fail
      refine (of_any b g m n p u w HC.out).mono ?_
      rintro e w1 ⟨rfl, t1, k1⟩
      rw [HE1.out]
      have HC1 := Lib.hid (And.intro t1 k1)
      clear t1 k1 HC
      go_wp2_with fail
      refine (of_any b g m n p v w1 HC1.out.2).mono ?_
      rintro e w2 ⟨rfl, t2, k2⟩
      rw [HE2.out]
      obtain ⟨c0, c1⟩ := cls_cells k2
      obtain ⟨us, -, -, ⟨x, c2⟩, f2⟩ := k2.link hcn
      obtain ⟨D, hD, hM0⟩ := Mid.start k2 (HC1.out.1.trans t2) ha hc hac hcn
      have HM := Lib.hid hM0
      have HD := Lib.hid hD
      have HE := Lib.hid (map_join hD ha hc hac hcn)
      clear t2 k2 HC1 hM0 hD HE1 HE2
      go_upto_region 6 with fail
      clear c0 c1 c2 f2
      generalize w2.setCell ⟨g, c, none⟩ (.int .i64 (a : Int)) = W0 at *
      have HM1 := Lib.hid (HM.out.drawn 1)
      clear HM
      refine wp_region_still_tail 13 (by kernel_rfl) (by kernel_rfl) ?_
      change wpStill _ _ (W0.drewN 1) _ _ _
      change wpStill _ _ _ (fun a' => wpList _ _ _ _ _ (W0.drewN 1)) _ _
      generalize W0.drewN 1 = W at *
      have c1 := HM1.out.2.2.2.2.2.2.1.2.1
      have hown := HM1.out.2.2.2.2.2.2.2.2.1
      have l1 := look_any hown HD.out (z := (a : Int)) (by omega) (by omega)
      have l2 := look_any hown HD.out (z := (c : Int)) (by omega) (by omega)
      have HO := Lib.hid hown
      have HK := Lib.hid (rootsN_le n p)
      generalize rootsN n p = K at *
      generalize cntZ n p (a : Int) = A at *
      generalize cntZ n p (c : Int) = B at *
      have hw : IntKind.i64.wrap ((A : Int) + (B : Int)) = (A : Int) + (B : Int) := by rw [IntKind.wrap_i64]; omega
      have HW : Hid ((Lit.int .i64 ((A : Int) + (B : Int))).wf = true) := Lib.hid (WalkArith.wf_i64 (by omega))
      clear hown
      simp only [List.take_succ_cons, List.take_zero, List.drop_succ_cons, List.drop_zero]
      repeat still_step
      refine wpStill_nil ?_
      clear l1 l2
      go_wp2_with (first
        | (at_mapUpdate; refine wpList_mapUpdate_own _ rfl _ _ _ 98 rfl 3 3 law Tryz.underlying98 _ m K D rfl HO.out (by have := HK.out; unfold maxLen; omega) _ _ (kI (a : Int)) rfl rfl (keyI (by omega) (by omega)) (dI ((A : Int) + (B : Int))) [] (plainElem_int Tryz.underlying3 HW.out) ?_; intro w4 hown4 hg4; have HM4 := Lib.hid (HM1.out.turn hg4 hown4); clear hg4 hown4 c1 HO; have c1 := HM4.out.2.2.2.2.2.2.1.2.1)
        | (at_delete; refine wpList_delete_own _ rfl _ _ 98 3 rfl 3 law Tryz.underlying98 _ m (K + 1) _ rfl HM4.out.2.2.2.2.2.2.2.2.1 _ (kI (c : Int)) rfl (keyI (by omega) (by omega)) ?_; intro w5 hown5 ht5; have HM5 := Lib.hid (HM4.out.turn ht5.grown hown5); clear ht5 hown5)
        | go_in)
      go_ret
      exact ⟨rfl, (HM5.out.end HE.out).1, (HM5.out.end HE.out).2⟩
    · have HE1 := Lib.hid e1
      have HE2 := Lib.hid e2
      clear e1 e2
      go_enter Tryz.func52, Tryz.ntmps52
      go_wp2_with fail
      refine (of_any b g m n p u w HC.out).mono ?_
      rintro e w1 ⟨rfl, t1, k1⟩
      rw [HE1.out]
      have HC1 := Lib.hid (And.intro t1 k1)
      clear t1 k1 HC
      go_wp2_with fail
      refine (of_any b g m n p v w1 HC1.out.2).mono ?_
      rintro e w2 ⟨rfl, t2, k2⟩
      rw [HE2.out]
      obtain ⟨c0, c1⟩ := cls_cells k2
      obtain ⟨us, -, -, ⟨x, c2⟩, f2⟩ := k2.link hcn
      obtain ⟨D, hD, hM0⟩ := Mid.start k2 (HC1.out.1.trans t2) ha hc hac hcn
      have HM := Lib.hid hM0
      have HD := Lib.hid hD
      have HE := Lib.hid (map_join hD ha hc hac hcn)
      clear t2 k2 HC1 hM0 hD HE1 HE2
      go_upto_region 6 with fail
      clear c0 c1 c2 f2
      generalize w2.setCell ⟨g, c, none⟩ (.int .i64 (a : Int)) = W0 at *
      have HM1 := Lib.hid (HM.out.drawn 1)
      clear HM
      refine wp_region_still_tail 13 (by kernel_rfl) (by kernel_rfl) ?_
      change wpStill _ _ (W0.drewN 1) _ _ _
      change wpStill _ _ _ (fun a' => wpList _ _ _ _ _ (W0.drewN 1)) _ _
      generalize W0.drewN 1 = W at *
      have c1 := HM1.out.2.2.2.2.2.2.1.2.1
      have hown := HM1.out.2.2.2.2.2.2.2.2.1
      have l1 := look_any hown HD.out (z := (a : Int)) (by omega) (by omega)
      have l2 := look_any hown HD.out (z := (c : Int)) (by omega) (by omega)
      have HO := Lib.hid hown
      have HK := Lib.hid (rootsN_le n p)
      generalize rootsN n p = K at *
      generalize cntZ n p (a : Int) = A at *
      generalize cntZ n p (c : Int) = B at *
      have hw : IntKind.i64.wrap ((A : Int) + (B : Int)) = (A : Int) + (B : Int) := by rw [IntKind.wrap_i64]; omega
      have HW : Hid ((Lit.int .i64 ((A : Int) + (B : Int))).wf = true) := Lib.hid (WalkArith.wf_i64 (by omega))
      clear hown
      simp only [List.take_succ_cons, List.take_zero, List.drop_succ_cons, List.drop_zero]
      repeat still_step
      refine wpStill_nil ?_
      clear l1 l2
      go_wp2_with (first
        | (at_mapUpdate; refine wpList_mapUpdate_own _ rfl _ _ _ 98 rfl 3 3 law Tryz.underlying98 _ m K D rfl HO.out (by have := HK.out; unfold maxLen; omega) _ _ (kI (a : Int)) rfl rfl (keyI (by omega) (by omega)) (dI ((A : Int) + (B : Int))) [] (plainElem_int Tryz.underlying3 HW.out) ?_; intro w4 hown4 hg4; have HM4 := Lib.hid (HM1.out.turn hg4 hown4); clear hg4 hown4 c1 HO; have c1 := HM4.out.2.2.2.2.2.2.1.2.1)
        | (at_delete; refine wpList_delete_own _ rfl _ _ 98 3 rfl 3 law Tryz.underlying98 _ m (K + 1) _ rfl HM4.out.2.2.2.2.2.2.2.2.1 _ (kI (c : Int)) rfl (keyI (by omega) (by omega)) ?_; intro w5 hown5 ht5; have HM5 := Lib.hid (HM4.out.turn ht5.grown hown5); clear ht5 hown5)
        | go_in)
      go_ret
      exact ⟨rfl, (HM5.out.end HE.out).1, (HM5.out.end HE.out).2⟩
end Go.Proofs.YtmohfmhkhldhnaaGreat.Ds
