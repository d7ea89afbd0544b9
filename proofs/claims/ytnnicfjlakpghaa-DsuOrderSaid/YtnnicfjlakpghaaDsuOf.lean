/- Of: the way up to a class's name, halved as it is gone. -/
import Derived.Test.YtnnicfjlakpghaaDsuCode
namespace Go.Proofs.Ytnnicfjlakpghaa
open Go.RowKit Go.ChangeShapes Go.Maps DsuPure
/-- On the way up: the vertex, and what stands of the classes. -/
def Climb (b g m n : Nat) (p : Nat → Nat) (w : World) (r x : Nat) (W : World) : Prop := x < n ∧ p x = r ∧ Turns g m w W ∧ ClsAt b g m W n p
theorem climb_ok {b g m n : Nat} {p : Nat → Nat} {w W : World} {r x : Nat} (h : Climb b g m n p w r x W) :
    W.cell? ⟨b, 1, none⟩ = some (.map (some m)) ∧ (Instr.lookup 41 (.map (some m)) (.int .i64 (x : Int)) true).run Try.prog W = .ok (.tuple #[.int .i64 (cntZ n p (x : Int)), .bool (decide (p x = x))]) W := by
  obtain ⟨h1, -, -, h4⟩ := h
  obtain ⟨D, hD, hM⟩ := h4.2.2.2.2.2.2.2.2
  have hn := h4.1
  have := look_ok hD hM (z := (x : Int)) (by omega) (by omega)
  rw [fit_of h1, Bool.true_and, Int.toNat_natCast] at this
  exact ⟨h4.2.2.2.2.2.2.1.2.1, this⟩
/-- The step that skips the vertex above. -/
theorem climb_step {b g m n : Nat} {p : Nat → Nat} {w W : World} {r x : Nat} (h : Climb b g m n p w r x W) (hx : decide (p x = x) = false) :
    ∃ y z : Nat, y < n ∧ z < x ∧ W.cell? ⟨b, 0, none⟩ = some (.slice (some ⟨g, 0, none⟩) n n) ∧ W.cell? ⟨g, x, none⟩ = some (.int .i64 (y : Int)) ∧ W.cell? ⟨g, y, none⟩ = some (.int .i64 (z : Int)) ∧ W.frozen? ⟨g, x, none⟩ = false ∧
      Climb b g m n p w r z (W.setCell ⟨g, x, none⟩ (.int .i64 (z : Int))) := by
  have hx := of_decide_eq_false hx
  obtain ⟨h1, h2, h3, h4⟩ := h
  obtain ⟨a1, a2, a3, a4, a5, a6, a7, ⟨us, a8, a9⟩, D, b1, b2⟩ := h4
  obtain ⟨l, hu⟩ := a8
  obtain ⟨e1, e2, e3⟩ := hu x h1
  have hy : us.getD x 0 < x := by
    rcases Nat.lt_or_ge (us.getD x 0) x with k | k
    · exact k
    · exact absurd (e3 (by omega)) hx
  obtain ⟨f1, f2, f3⟩ := hu (us.getD x 0) (by omega)
  have row : ∀ i, i < n → W.cell? ⟨g, i, none⟩ = some (.int .i64 ((us.getD i 0 : Nat) : Int)) ∧ W.frozen? ⟨g, i, none⟩ = false := fun i hi => by
    have := a9 i (by rw [List.length_map]; omega)
    rw [List.getElem_map] at this
    have e : us[i]'(by omega) = us.getD i 0 := by rw [List.getD_eq_getElem?_getD, List.getElem?_eq_getElem (by omega)]; rfl
    rw [e] at this
    exact this
  have hr := a9.set (k := x) (by rw [List.length_map]; omega) (encI (us.getD (us.getD x 0) 0))
  rw [← List.map_set] at hr
  have hup : Up (us.set x (us.getD (us.getD x 0) 0)) n p := up_halve ⟨l, hu⟩ h1 (by omega) (f2.trans e2)
  have hg : W.grownBy (W.setCell ⟨g, x, none⟩ (.int .i64 ((us.getD (us.getD x 0) 0 : Nat) : Int))) (some g) := ⟨rfl, rfl, rfl, by simp, fun k _ hk => Below.heap_setCell _ _ _ k (fun e => hk (by rw [e]))⟩
  have ht : Turns g m W (W.setCell ⟨g, x, none⟩ (.int .i64 ((us.getD (us.getD x 0) 0 : Nat) : Int))) := Turns.grownG hg
  exact ⟨us.getD x 0, us.getD (us.getD x 0) 0, by omega, by omega, a7.1, (row x h1).1, (row _ (by omega)).1, (row x h1).2, by omega, by rw [f2, e2]; exact h2, h3.trans ht, a1, a2, a3, a4, a5, by simpa using a6, Turns.two a7 ht a3 a4, ⟨_, hup, hr⟩, D,
    map_over b1 (hg.block m b1.lt (fun e => a5 (Option.some.inj e).symm)), b2⟩
theorem Climb.drawn {b g m n : Nat} {p : Nat → Nat} {w W : World} {r x : Nat} (h : Climb b g m n p w r x W) (k : Nat) : Climb b g m n p w r x (W.drewN k) := ⟨h.1, h.2.1, h.2.2.1, h.2.2.2.drawn k⟩
theorem Climb.end {b g m n : Nat} {p : Nat → Nat} {w W : World} {r x : Nat} (h : Climb b g m n p w r x W) (hx : decide (p x = x) = true) : x = r := (of_decide_eq_true hx).symm.trans h.2.1
def natOf : Value → Nat
  | .int _ n => n.toNat
  | _ => 0
set_option maxRecDepth 1000000 in
set_option maxHeartbeats 4000000 in
theorem of_fit (b g m n : Nat) (p : Nat → Nat) (x : Nat) (w : World) (h : ClsAt b g m w n p) (hx : x < n) :
    Calls Try.prog 18 #[.pointer (some ⟨b, 0, none⟩), .int .i64 (x : Int)] w fun e w' => e = .returned (.int .i64 (p x : Int)) ∧ Turns g m w w' ∧ ClsAt b g m w' n p := by
  have HC := Lib.hid h
  have h4 := h.1
  have HJ : Hid (Climb b g m n p w (p x) x w) := Lib.hid ⟨hx, rfl, Turns.refl _ _ _, h⟩
  obtain ⟨r, hr⟩ : ∃ r, r = p x := ⟨_, rfl⟩
  rw [← hr] at HJ ⊢
  clear h hr
  have i0 : ¬ (x : Int) < 0 := by omega
  have i1 : ¬ (x : Int) ≥ (n : Int) := by omega
  go_enter Try.func18, Try.ntmps18
  go_wp2
  refine wp_scope_jumps 0 (fun a' w' => ∃ y : Nat, Hid (Climb b g m n p w r y w') ∧ ∃ (u5 u6 u7 u8 u9 u10 u11 u12 u13 u14 u15 u16 u17 u18 u19 u20 u21 u22 u23 u24 u25 u26 u27 u28 u29 u30 u31 u32 u33 u34 u35 u36 u37 u38 u39 u40 u41 u42 u43 u44 u45 u46 u47 u48 u49 u50 u51 : Value), a' = { tmps := #[.pointer (some ⟨b, 0, none⟩), .int .i64 (y : Int), undef, undef, .int .i64 0, u5, u6, u7, u8, u9, u10, u11, u12, u13, u14, u15, u16, u17, u18, u19, u20, u21, u22, u23, u24, u25, u26, u27, u28, u29, u30, u31, u32, u33, u34, u35, u36, u37, u38, u39, u40, u41, u42, u43, u44, u45, u46, u47, u48, u49, u50, u51], defers := [] }) (fun a' _ => natOf (a'.tmps.getD 1 undef)) rfl ?_ ?_
  · cases hx2 : decide (p x = x)
    · obtain ⟨c1, hl⟩ := climb_ok HJ.out
      rw [hx2] at hl
      have HX := Lib.hid hx2
      clear hx2
      go_wp2_with (first | (go_at_call 17; refine (room_any b g m n p _ HC.out).mono ?_; rintro e w' ⟨rfl, rfl⟩))
      go_step3
      go_wp2_with fail
      clear c1 hl
      have HY1 : Hid (Climb b g m n p w r x (w.drewN 1)) := Lib.hid (HJ.out.drawn 1)
      have hyn : x < n := HJ.out.1
      clear HJ HC
      refine wp_region_still_tail 19 (by kernel_rfl) (by kernel_rfl) ?_
      change wpStill _ _ (w.drewN 1) _ _ _
      change wpStill _ _ _ (fun a' => wpList _ _ _ _ _ (w.drewN 1)) _ _
      generalize w.drewN 1 = W1 at *
      obtain ⟨t, z, k1, k2, c0, c1, c2, f1, HZ0⟩ := climb_step HY1.out HX.out
      have HZ := Lib.hid HZ0
      clear HZ0 HY1 HX
      have j0 : (0 : Int) ≤ (x : Int) := by omega
      have j1 : (x : Int) < (n : Int) := by omega
      have j2 : (0 : Int) ≤ (t : Int) := by omega
      have j3 : (t : Int) < (n : Int) := by omega
      simp only [List.take_succ_cons, List.take_zero, List.drop_succ_cons, List.drop_zero]
      repeat still_step
      refine wpStill_nil ?_
      go_wp2
      go_step3
      exact ⟨rfl, z, HZ, _, _, _, _, _, _, _, _, _, _, _, _, _, _, _, _, _, _, _, _, _, _, _, _, _, _, _, _, _, _, _, _, _, _, _, _, _, _, _, _, _, _, _, _, _, _, _, rfl⟩
    · obtain ⟨c1, hl⟩ := climb_ok HJ.out
      rw [hx2] at hl
      have HE := Lib.hid (HJ.out.end hx2)
      clear hx2
      go_wp2_with (first | (go_at_call 17; refine (room_any b g m n p _ HC.out).mono ?_; rintro e w' ⟨rfl, rfl⟩))
      go_step3
      go_wp2_with fail
      simp only [Exit.jump]
      go_ret
      exact ⟨ret_i (by rw [HE.out]), HJ.out.2.2.1, HJ.out.2.2.2⟩
  · rintro a' W ⟨y, HY, u5, u6, u7, u8, u9, u10, u11, u12, u13, u14, u15, u16, u17, u18, u19, u20, u21, u22, u23, u24, u25, u26, u27, u28, u29, u30, u31, u32, u33, u34, u35, u36, u37, u38, u39, u40, u41, u42, u43, u44, u45, u46, u47, u48, u49, u50, u51, rfl⟩
    cases hx2 : decide (p y = y)
    · obtain ⟨c1, hl⟩ := climb_ok HY.out
      rw [hx2] at hl
      have HX := Lib.hid hx2
      clear hx2
      go_wp2_with fail
      clear c1 hl
      have HY1 : Hid (Climb b g m n p w r y (W.drewN 1)) := Lib.hid (HY.out.drawn 1)
      have hyn : y < n := HY.out.1
      clear HY
      refine wp_region_still_tail 19 (by kernel_rfl) (by kernel_rfl) ?_
      change wpStill _ _ (W.drewN 1) _ _ _
      change wpStill _ _ _ (fun a' => wpList _ _ _ _ _ (W.drewN 1)) _ _
      generalize W.drewN 1 = W1 at *
      obtain ⟨t, z, k1, k2, c0, c1, c2, f1, HZ0⟩ := climb_step HY1.out HX.out
      have HZ := Lib.hid HZ0
      clear HZ0 HY1 HX
      have j0 : (0 : Int) ≤ (y : Int) := by omega
      have j1 : (y : Int) < (n : Int) := by omega
      have j2 : (0 : Int) ≤ (t : Int) := by omega
      have j3 : (t : Int) < (n : Int) := by omega
      simp only [List.take_succ_cons, List.take_zero, List.drop_succ_cons, List.drop_zero]
      repeat still_step
      refine wpStill_nil ?_
      go_wp2
      go_step3
      exact ⟨rfl, ⟨z, HZ, _, _, _, _, _, _, _, _, _, _, _, _, _, _, _, _, _, _, _, _, _, _, _, _, _, _, _, _, _, _, _, _, _, _, _, _, _, _, _, _, _, _, _, _, _, _, _, rfl⟩, by simp [natOf]; omega⟩
    · obtain ⟨c1, hl⟩ := climb_ok HY.out
      rw [hx2] at hl
      have HE := Lib.hid (HY.out.end hx2)
      clear hx2
      go_wp2_with fail
      simp only [Exit.jump]
      go_ret
      exact ⟨ret_i (by rw [HE.out]), HY.out.2.2.1, HY.out.2.2.2⟩
end Go.Proofs.Ytnnicfjlakpghaa
