/- What awake of layer 3 asks: it answers true. -/
import Derived.WalkKit
import Derived.Deep.RegionWith
import Derived.Test.YtbebnhadgbkepaaForderCount
namespace Go.Proofs.Ytbebnhadgbkepaa
open Go.RowKit Go.ChangeShapes FbitPure ForderPure
/-- What 'awake' asks. -/
def L3 : List Nat := [9223372036854775808, 0, 13830554455654793216]
theorem least_3 : bestL ltB L3 = 2 := by decide +kernel
theorem most_3 : bestL gtB L3 = 1 := by decide +kernel
theorem less_3 : ltB (pk 9223372036854775808) (pk 0) = true := by decide +kernel
theorem count_3 : countN L3 = 3 := by decide +kernel
theorem wide_3 : Wide L3 := wide_iff.2 (by decide)
theorem reads_3 (w : World) : ReadsE encF (w.alloc (.cells #[.float .f64 9223372036854775808, .float .f64 0, .float .f64 13830554455654793216] 23)).heap.size
    (w.alloc (.cells #[.float .f64 9223372036854775808, .float .f64 0, .float .f64 13830554455654793216] 23)) (some ⟨w.heap.size, 0, none⟩) L3 := by
  refine Or.inr ⟨w.heap.size, 0, rfl, by simp, fun i hi => ?_⟩
  rw [World.cell?_alloc_at _ _ _ _ rfl]
  have : i = 0 ∨ i = 1 ∨ i = 2 := by simp [L3] at hi; omega
  rcases this with rfl | rfl | rfl <;> rfl
set_option maxHeartbeats 1000000 in
theorem awake_any (w : World) :
    Calls Try.prog 10 #[] w fun e w' => e = .returned (.bool true) ∧ Below w.heap.size w w' := by
  have hB := (Below.refl w.heap.size w).alloc (Nat.le_refl _) (.cells #[.float .f64 9223372036854775808, .float .f64 0, .float .f64 13830554455654793216] 23)
  have hR := reads_3 w
  have hc0 : (w.alloc (.cells #[.float .f64 9223372036854775808, .float .f64 0, .float .f64 13830554455654793216] 23)).cell? ⟨w.heap.size, 0, none⟩ = some (.float .f64 9223372036854775808) := by simp
  have hc1 : (w.alloc (.cells #[.float .f64 9223372036854775808, .float .f64 0, .float .f64 13830554455654793216] 23)).cell? ⟨w.heap.size, 1, none⟩ = some (.float .f64 0) := by simp
  have hN : (w.alloc (.cells #[.float .f64 9223372036854775808, .float .f64 0, .float .f64 13830554455654793216] 23)).heap.size = w.heap.size + 1 := by simp
  go_enter Try.func10, Try.ntmps10
  go_wp2_with (first | (go_at_call 6; refine (of_any _ _).mono ?_; rintro e w' ⟨rfl, rfl⟩) | fail)
  generalize (w.alloc (.cells #[.float .f64 9223372036854775808, .float .f64 0, .float .f64 13830554455654793216] 23)) = W0 at *
  have HA : Hid (∀ W, Below W0.heap.size W0 W → Calls Try.prog 16 #[.slice (some ⟨w.heap.size, 0, none⟩) 3 3] W fun e w' => e = .returned (.int .i64 2) ∧ W = w') := by
    show ∀ W, _ → _
    intro W hW
    have := least_any (some ⟨w.heap.size, 0, none⟩) 3 L3 W wide_3 ((hR.on hW).mono hW.size) (by decide)
    rw [least_3] at this
    exact this
  have HM : Hid (∀ W, Below W0.heap.size W0 W → Calls Try.prog 18 #[.slice (some ⟨w.heap.size, 0, none⟩) 3 3] W fun e w' => e = .returned (.int .i64 1) ∧ W = w') := by
    show ∀ W, _ → _
    intro W hW
    have := most_any (some ⟨w.heap.size, 0, none⟩) 3 L3 W wide_3 ((hR.on hW).mono hW.size) (by decide)
    rw [most_3] at this
    exact this
  have HC : Hid (∀ W, Below W0.heap.size W0 W → Calls Try.prog 20 #[.slice (some ⟨w.heap.size, 0, none⟩) 3 3] W fun e w' => e = .returned (.int .i64 3) ∧ Below w.heap.size w w') := by
    show ∀ W, _ → _
    intro W hW
    have := count_any 12 sort_12 (by decide) (some ⟨w.heap.size, 0, none⟩) 3 L3 W wide_3 ((hR.on hW).mono hW.size) (by decide)
    rw [count_3] at this
    exact this.mono fun e w' ⟨h1, h2⟩ => ⟨h1, hB.trans ((hW.mono (by omega)).trans (h2.mono (Nat.le_trans (by omega) hW.size)))⟩
  have HL : Hid (∀ W, Calls Try.prog 9 #[.float .f64 9223372036854775808, .float .f64 0] W fun e w' => e = .returned (.bool true) ∧ W = w') := by
    show ∀ W, _
    intro W
    have := fless_any 9223372036854775808 0 (by decide) (by decide) W
    rw [less_3] at this
    exact this
  clear hR hB hN
  go_region_with (first
    | (go_at_call 16; refine (HA.out _ (by exact ⟨rfl, rfl, rfl, Nat.le_refl _, fun _ _ => rfl⟩)).mono ?_; rintro e w' ⟨rfl, rfl⟩)
    | (go_at_call 18; refine (HM.out _ (by exact ⟨rfl, rfl, rfl, Nat.le_refl _, fun _ _ => rfl⟩)).mono ?_; rintro e w' ⟨rfl, rfl⟩)
    | (go_at_call 9; refine (HL.out _).mono ?_; rintro e w' ⟨rfl, rfl⟩)
    | (go_at_call 20; refine (HC.out _ (by exact ⟨rfl, rfl, rfl, Nat.le_refl _, fun _ _ => rfl⟩)).mono ?_; rintro e w' ⟨rfl, hb⟩; have HB := Lib.hid hb; clear hb))
  all_goals
    go_wp2
    go_ret
    exact ⟨rfl, HB.out⟩
end Go.Proofs.Ytbebnhadgbkepaa
