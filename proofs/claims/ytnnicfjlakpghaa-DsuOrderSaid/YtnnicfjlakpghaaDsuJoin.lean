/- Same, Size and Join of classes, at every argument. -/
import Derived.Test.YtnnicfjlakpghaaDsuOf
namespace Go.Proofs.Ytnnicfjlakpghaa
open Go.RowKit Go.ChangeShapes Go.Maps DsuPure
theorem of_any (b g m n : Nat) (p : Nat → Nat) (v : Int) (w : World) (h : ClsAt b g m w n p) :
    Calls Try.prog 18 #[.pointer (some ⟨b, 0, none⟩), .int .i64 v] w fun e w' => e = .returned (.int .i64 (ofZ n p v)) ∧ Turns g m w w' ∧ ClsAt b g m w' n p := by
  unfold ofZ
  cases hf : fitB n v
  · refine (of_none b g m n p v w h hf).mono ?_
    rintro e w' ⟨rfl, rfl⟩
    exact ⟨rfl, Turns.refl _ _ _, h⟩
  · obtain ⟨x, rfl, hx⟩ := fit_yes hf
    refine (of_fit b g m n p x w h hx).mono ?_
    rintro e w' ⟨rfl, k1, k2⟩
    exact ⟨rfl, k1, k2⟩
theorem ofZ_same (n : Nat) (p : Nat → Nat) (u v : Int) : (decide (0 ≤ ofZ n p u) && decide (ofZ n p u = ofZ n p v)) = sameZ n p u v := by
  unfold ofZ sameZ
  cases hu : fitB n u <;> cases hv : fitB n v <;> simp <;> omega
theorem ofZ_range {n : Nat} {p : Nat → Nat} (h : Names n p) (hn : n ≤ 4096) (v : Int) : -1 ≤ ofZ n p v ∧ ofZ n p v < 4096 := by
  unfold ofZ
  cases hf : fitB n v
  · simp
  · obtain ⟨x, rfl, hx⟩ := fit_yes hf
    have := h.1 x
    rw [Int.toNat_natCast]
    simp only [if_true]
    omega
theorem same_nil (u v : Int) (w : World) :
    Calls Try.prog 8 #[.pointer none, .int .i64 u, .int .i64 v] w fun e w' => e = .returned (.bool false) ∧ w = w' := by
  go_enter Try.func8, Try.ntmps8
  go_wp2_with (first | (go_at_call 18; refine (of_nil _ _).mono ?_; rintro e w' ⟨rfl, rfl⟩))
  go_ret
  exact ⟨rfl, rfl⟩
theorem same_any (b g m n : Nat) (p : Nat → Nat) (u v : Int) (w : World) (h : ClsAt b g m w n p) :
    Calls Try.prog 8 #[.pointer (some ⟨b, 0, none⟩), .int .i64 u, .int .i64 v] w fun e w' => e = .returned (.bool (sameZ n p u v)) ∧ Turns g m w w' ∧ ClsAt b g m w' n p := by
  have HC := Lib.hid h
  clear h
  have HZ := Lib.hid (ofZ_same n p u v)
  go_enter Try.func8, Try.ntmps8
  go_wp2_with fail
  refine (of_any b g m n p u w HC.out).mono ?_
  rintro e w1 ⟨rfl, t1, k1⟩
  have HC1 := Lib.hid (And.intro t1 k1)
  clear t1 k1 HC
  go_wp2_with fail
  refine (of_any b g m n p v w1 HC1.out.2).mono ?_
  rintro e w2 ⟨rfl, t2, k2⟩
  have HC2 := Lib.hid (And.intro (HC1.out.1.trans t2) k2)
  clear t2 k2 HC1
  generalize ofZ n p u = a at *
  generalize ofZ n p v = c at *
  by_cases ha : 0 ≤ a
  · have ha' : a ≥ 0 := ha
    go_wp2
    go_ret
    refine ⟨bool_ret ?_, HC2.out.1, HC2.out.2⟩
    rw [← HZ.out, decide_eq_true ha, Bool.true_and]
    rfl
  · have ha' : ¬ a ≥ 0 := ha
    go_wp2
    go_ret
    refine ⟨bool_ret ?_, HC2.out.1, HC2.out.2⟩
    rw [← HZ.out, decide_eq_false (show ¬ 0 ≤ a by omega), Bool.false_and]
theorem size_nil (v : Int) (w : World) :
    Calls Try.prog 20 #[.pointer none, .int .i64 v] w fun e w' => e = .returned (.int .i64 0) ∧ w = w' := by
  go_enter Try.func20, Try.ntmps20
  go_wp2
  go_ret
  exact ⟨rfl, rfl⟩
theorem cls_size {b g m n : Nat} {p : Nat → Nat} {w : World} (h : ClsAt b g m w n p) (v : Int) :
    (Instr.lookup 41 (.map (some m)) (.int .i64 (ofZ n p v)) false).run Try.prog w = .ok (.int .i64 (sizeZ n p v)) w := by
  obtain ⟨D, hD, hM⟩ := h.2.2.2.2.2.2.2.2
  have := ofZ_range h.2.1 h.1 v
  exact look_any hD hM (by omega) (by omega)
theorem cls_cells {b g m n : Nat} {p : Nat → Nat} {w : World} (h : ClsAt b g m w n p) : w.cell? ⟨b, 0, none⟩ = some (.slice (some ⟨g, 0, none⟩) n n) ∧ w.cell? ⟨b, 1, none⟩ = some (.map (some m)) := ⟨h.2.2.2.2.2.2.1.1, h.2.2.2.2.2.2.1.2.1⟩
set_option maxHeartbeats 1000000 in
theorem size_any (b g m n : Nat) (p : Nat → Nat) (v : Int) (w : World) (h : ClsAt b g m w n p) :
    Calls Try.prog 20 #[.pointer (some ⟨b, 0, none⟩), .int .i64 v] w fun e w' => e = .returned (.int .i64 (sizeZ n p v : Int)) ∧ Turns g m w w' ∧ ClsAt b g m w' n p := by
  have HC : Hid (∀ k, ClsAt b g m (w.drewN k) n p) := Lib.hid fun k => h.drawn k
  obtain ⟨-, c1⟩ := cls_cells h
  clear h
  go_enter Try.func20, Try.ntmps20
  go_wp2_with fail
  go_region_with (go_at_call 18; refine (of_any b g m n p v _ (HC.out _)).mono ?_; rintro e w1 ⟨rfl, t1, k1⟩; have d1 := (cls_cells k1).2; have hl := cls_size k1 v; have HC1 := Lib.hid (And.intro t1 k1); clear t1 k1)
  all_goals go_wp2
  all_goals go_ret
  all_goals exact ⟨rfl, HC1.out.1, HC1.out.2⟩
theorem twoZ_no {n : Nat} {p : Nat → Nat} {u v : Int} (h : twoZ n p u v = false) : joinZ n p u v = p ∧ (min (ofZ n p u) (ofZ n p v) < 0 ∨ 0 ≤ min (ofZ n p u) (ofZ n p v) ∧ min (ofZ n p u) (ofZ n p v) = max (ofZ n p u) (ofZ n p v)) := by
  unfold twoZ at h
  unfold joinZ ofZ
  cases hu : fitB n u <;> cases hv : fitB n v <;> simp [hu, hv] at h ⊢
  · omega
  · omega
  · rw [joinN_same h, h]
    exact ⟨rfl, by omega⟩
theorem twoZ_yes {n : Nat} {p : Nat → Nat} {u v : Int} (hN : Names n p) (h : twoZ n p u v = true) :
    ∃ a c : Nat, (ofZ n p u = (a : Int) ∧ ofZ n p v = (c : Int) ∨ ofZ n p u = (c : Int) ∧ ofZ n p v = (a : Int)) ∧ p a = a ∧ p c = c ∧ a < c ∧ c < n ∧ joinZ n p u v = moveP p a c := by
  unfold twoZ at h
  simp only [Bool.and_eq_true, Bool.not_eq_true', decide_eq_false_iff_not] at h
  obtain ⟨⟨hu, hv⟩, hne⟩ := h
  unfold joinZ ofZ
  rw [hu, hv]
  obtain ⟨x, rfl, hx⟩ := fit_yes hu
  obtain ⟨y, rfl, hy⟩ := fit_yes hv
  simp only [Int.toNat_natCast, Bool.and_self, if_true] at hne ⊢
  have hx1 := hN.1 x
  have hy1 := hN.1 y
  have hx2 := hN.2.1 x
  have hy2 := hN.2.1 y
  refine ⟨min (p x) (p y), max (p x) (p y), by omega, ?_, ?_, by omega, by omega, joinN_move p x y⟩
  · rcases Nat.le_total (p x) (p y) with l | l
    · rw [Nat.min_eq_left l]; exact hx2
    · rw [Nat.min_eq_right l]; exact hy2
  · rcases Nat.le_total (p x) (p y) with l | l
    · rw [Nat.max_eq_right l]; exact hy2
    · rw [Nat.max_eq_left l]; exact hx2
theorem join_nil (u v : Int) (w : World) :
    Calls Try.prog 11 #[.pointer none, .int .i64 u, .int .i64 v] w fun e w' => e = .returned (.bool false) ∧ w = w' := by
  go_enter Try.func11, Try.ntmps11
  go_wp2_with (first | (go_at_call 18; refine (of_nil _ _).mono ?_; rintro e w' ⟨rfl, rfl⟩))
  go_ret
  exact ⟨rfl, rfl⟩
/-- The list is turned at the name that goes. -/
theorem ClsAt.link {b g m n : Nat} {p : Nat → Nat} {w : World} (h : ClsAt b g m w n p) {c : Nat} (hc : c < n) :
    ∃ us, Up us n p ∧ RowIs g w (us.map encI) ∧ (∃ v, w.cell? ⟨g, c, none⟩ = some v) ∧ w.frozen? ⟨g, c, none⟩ = false := by
  obtain ⟨a1, a2, a3, a4, a5, a6, a7, ⟨us, a8, a9⟩, D, b1, b2⟩ := h
  have := a9 c (by rw [List.length_map, a8.1]; exact hc)
  exact ⟨us, a8, a9, ⟨_, this.1⟩, this.2⟩
end Go.Proofs.Ytnnicfjlakpghaa
