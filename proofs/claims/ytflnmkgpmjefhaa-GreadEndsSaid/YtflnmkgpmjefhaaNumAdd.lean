/- Contracts of package num's Add, Put, Value, at every argument (cut out of XNumCode: a later stage that neither subtracts nor multiplies takes this text). -/
import Derived.Test.YtflnmkgpmjefhaaKit
import Derived.Test.YtflnmkgpmjefhaaNumPure
namespace Go.Proofs.Ytflnmkgpmjefhaa
open Go.RowKit Go.ChangeShapes NumPure
theorem add_any (a b : Int) (ha : -9223372036854775808 ≤ a ∧ a ≤ 9223372036854775807) (hb : -9223372036854775808 ≤ b ∧ b ≤ 9223372036854775807) (w : World) :
    Calls Try.prog 59 #[.int .i64 a, .int .i64 b] w fun e w' => e = .returned (.tuple #[.int .i64 (cut (a + b)), .bool (fitsB (a + b))]) ∧ w = w' := by
  obtain ⟨ha1, ha2⟩ := ha
  obtain ⟨hb1, hb2⟩ := hb
  by_cases h : -9223372036854775808 ≤ a + b ∧ a + b ≤ 9223372036854775807
  · have t := add_yes a b ⟨ha1, ha2⟩ ⟨hb1, hb2⟩ h
    have e1 := Lib.hid (cut_in h)
    have e2 := Lib.hid ((fits_iff _).2 h)
    obtain ⟨h1, h2⟩ := h
    go_enter Try.func59, Try.ntmps59
    go_wp2
    go_ret2
    exact ⟨ret_ib e1.out.symm e2.out.symm, rfl⟩
  · have t := add_no a b ⟨ha1, ha2⟩ ⟨hb1, hb2⟩ h
    have e1 := Lib.hid (cut_out h)
    have e2 := Lib.hid ((fits_not _).2 h)
    have hh := Lib.hid h
    clear h
    go_enter Try.func59, Try.ntmps59
    go_wp2
    go_ret2
    exact ⟨ret_ib e1.out.symm e2.out.symm, rfl⟩
theorem put_nil (n : Int) (w : World) :
    Calls Try.prog 42 #[.pointer none, .int .i64 n] w fun e w' => e = .returned (.bool false) ∧ w = w' := by
  go_enter Try.func42, Try.ntmps42
  go_wp2
  go_ret
  exact ⟨rfl, rfl⟩
theorem put_over (N : Nat) (n : Int) (w : World) (h1 : w.cell? ⟨N, 1, none⟩ = some (.bool true)) :
    Calls Try.prog 42 #[.pointer (some ⟨N, 0, none⟩), .int .i64 n] w fun e w' => e = .returned (.bool false) ∧ w = w' := by
  go_enter Try.func42, Try.ntmps42
  go_wp2
  go_ret
  exact ⟨rfl, rfl⟩
theorem put_any (N : Nat) (s n : Int) (w : World) (hs : -9223372036854775808 ≤ s ∧ s ≤ 9223372036854775807) (hn : -9223372036854775808 ≤ n ∧ n ≤ 9223372036854775807)
    (h0 : w.cell? ⟨N, 0, none⟩ = some (.int .i64 s)) (h1 : w.cell? ⟨N, 1, none⟩ = some (.bool false)) (f0 : w.frozen? ⟨N, 0, none⟩ = false) (f1 : w.frozen? ⟨N, 1, none⟩ = false) :
    Calls Try.prog 42 #[.pointer (some ⟨N, 0, none⟩), .int .i64 n] w fun e w' => e = .returned (.bool (fitsB (s + n))) ∧ (w.setCell ⟨N, 0, none⟩ (.int .i64 (cut (s + n)))).setCell ⟨N, 1, none⟩ (.bool (!fitsB (s + n))) = w' := by
  go_enter Try.func42, Try.ntmps42
  go_wp2_with (first | (go_at_call 59; refine (add_any _ _ hs hn _).mono ?_; rintro e w' ⟨rfl, rfl⟩))
  go_ret
  exact ⟨rfl, rfl⟩
theorem value_nil (w : World) :
    Calls Try.prog 43 #[.pointer none] w fun e w' => e = .returned (.tuple #[.int .i64 0, .bool false]) ∧ w = w' := by
  go_enter Try.func43, Try.ntmps43
  go_wp2
  go_ret2
  exact ⟨rfl, rfl⟩
theorem value_over (N : Nat) (w : World) (h1 : w.cell? ⟨N, 1, none⟩ = some (.bool true)) :
    Calls Try.prog 43 #[.pointer (some ⟨N, 0, none⟩)] w fun e w' => e = .returned (.tuple #[.int .i64 0, .bool false]) ∧ w = w' := by
  go_enter Try.func43, Try.ntmps43
  go_wp2
  go_ret2
  exact ⟨rfl, rfl⟩
theorem value_yes (N : Nat) (s : Int) (w : World) (h0 : w.cell? ⟨N, 0, none⟩ = some (.int .i64 s)) (h1 : w.cell? ⟨N, 1, none⟩ = some (.bool false)) :
    Calls Try.prog 43 #[.pointer (some ⟨N, 0, none⟩)] w fun e w' => e = .returned (.tuple #[.int .i64 s, .bool true]) ∧ w = w' := by
  go_enter Try.func43, Try.ntmps43
  go_wp2
  go_ret2
  exact ⟨rfl, rfl⟩
/-- The gathering sum at block N. -/
def AccAt (N : Nat) (w : World) (p : Int × Bool) : Prop :=
  w.cell? ⟨N, 0, none⟩ = some (.int .i64 p.1) ∧ w.cell? ⟨N, 1, none⟩ = some (.bool (!p.2)) ∧ w.frozen? ⟨N, 0, none⟩ = false ∧ w.frozen? ⟨N, 1, none⟩ = false
theorem AccAt.set {N : Nat} {w : World} {p : Int × Bool} (h : AccAt N w p) (q : Int × Bool) : AccAt N ((w.setCell ⟨N, 0, none⟩ (.int .i64 q.1)).setCell ⟨N, 1, none⟩ (.bool (!q.2))) q := by
  obtain ⟨h0, h1, f0, f1⟩ := h
  have h1' : (w.setCell ⟨N, 0, none⟩ (.int .i64 q.1)).cell? ⟨N, 1, none⟩ = some (.bool (!p.2)) := by
    exact (World.cell?_setCell_other w ⟨N, 0, none⟩ ⟨N, 1, none⟩ _ (by simp)).trans h1
  refine ⟨?_, World.cell?_setCell_same _ _ _ h1', ?_, ?_⟩
  · exact (World.cell?_setCell_other _ ⟨N, 1, none⟩ ⟨N, 0, none⟩ _ (by simp)).trans (World.cell?_setCell_same _ _ _ h0)
  · simpa using f0
  · simpa using f1
theorem AccAt.on {M : Nat} {w w' : World} {p : Int × Bool} (h : AccAt M w p) (hb : Below (M + 1) w w') : AccAt M w' p := by
  obtain ⟨h0, h1, f0, f1⟩ := h
  exact ⟨(hb.cell (by simp)).trans h0, (hb.cell (by simp)).trans h1, (hb.frozen (by simp)).trans f0, (hb.frozen (by simp)).trans f1⟩
theorem AccAt.lt {M : Nat} {w : World} {p : Int × Bool} (h : AccAt M w p) : M < w.heap.size := World.block_lt_of_cell? w _ h.1
theorem accAt_new (w : World) (t : TypeId) : AccAt w.heap.size (w.alloc (.cells #[.int .i64 0, .bool false] t)) (0, true) := by
  refine ⟨?_, ?_, ?_, ?_⟩ <;> simp
theorem put_gen (N : Nat) (p : Int × Bool) (n : Int) (w : World) (hs : -9223372036854775808 ≤ p.1 ∧ p.1 ≤ 9223372036854775807) (hn : -9223372036854775808 ≤ n ∧ n ≤ 9223372036854775807) (hz : p.2 = false → p.1 = 0) (h : AccAt N w p) :
    Calls Try.prog 42 #[.pointer (some ⟨N, 0, none⟩), .int .i64 n] w fun e w' => e = .returned (.bool (stepS p n).2) ∧ Below N w w' ∧ AccAt N w' (stepS p n) ∧ OnlyAt N w w' := by
  cases hp : p.2
  · have h1 := h.2.1
    rw [hp] at h1
    refine (put_over N n w h1).mono fun e w' ⟨he, hw⟩ => ?_
    subst hw
    rw [step_bad p n hp]
    have hpe : p = (0, false) := Prod.ext (hz hp) hp
    rw [hpe] at h
    exact ⟨he, Below.refl _ _, h, OnlyAt.refl _ _⟩
  · obtain ⟨h0, h1, f0, f1⟩ := h
    have h1' := h1
    rw [hp] at h1'
    refine (put_any N p.1 n w hs hn h0 h1' f0 f1).mono fun e w' ⟨he, hw⟩ => ?_
    subst hw
    rw [step_ok p n hp]
    exact ⟨he, ((Below.refl N w).setCell (p := ⟨N, 0, none⟩) (Nat.le_refl _) _).setCell (p := ⟨N, 1, none⟩) (Nat.le_refl _) _, AccAt.set ⟨h0, h1, f0, f1⟩ (cut (p.1 + n), fitsB (p.1 + n)), OnlyAt.two _ _ _ _⟩
theorem value_gen (N : Nat) (p : Int × Bool) (w : World) (hz : p.2 = false → p.1 = 0) (h : AccAt N w p) :
    Calls Try.prog 43 #[.pointer (some ⟨N, 0, none⟩)] w fun e w' => e = .returned (.tuple #[.int .i64 p.1, .bool p.2]) ∧ w = w' := by
  obtain ⟨h0, h1, _, _⟩ := h
  cases hp : p.2
  · rw [hp] at h1
    rw [hz hp]
    exact value_over N w h1
  · rw [hp] at h1
    exact value_yes N p.1 w h0 h1
end Go.Proofs.Ytflnmkgpmjefhaa
