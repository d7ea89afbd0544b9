/- Contracts of vset's small functions, at every argument (beside net). -/
import Derived.Test.YtbankocbncpepaaVsetPure
import Derived.Test.YtbankocbncpepaaList
import Derived.Test.YtbankocbncpepaaCells
import Derived.Laws.BitsAllLaws
import Derived.Deep.RegionWith
import Derived.Deep.QuietTactic
import Derived.BigQuiet
import Derived.BigRegion
namespace Go.Proofs.Ytbankocbncpepaa.Vs
open Go.RowKit Go.ChangeShapes VsetPure
theorem bit_any (v : Nat) (hv : v ≤ 4096) (w : World) :
    Calls Try.prog 80 #[.int .i64 v] w fun e w' => e = .returned (.int .u64 ((2 ^ (v % 64) : Nat) : Int)) ∧ w = w' := by
  go_enter Try.func80, Try.ntmps80
  go_wp2
  go_ret
  exact ⟨ret_i (by
    have hp : 2 ^ (v % 64) < 18446744073709551616 := Nat.lt_of_lt_of_le (Nat.pow_lt_pow_right (by decide) (show v % 64 < 64 by omega)) (by decide)
    rw [IntKind.wrap_u64]
    have e : (2 : Int) ^ (v % 64) = ((2 ^ (v % 64) : Nat) : Int) := by rw [Int.natCast_pow]; rfl
    rw [e]
    generalize 2 ^ (v % 64) = q at *
    omega), rfl⟩
theorem room_nil (w : World) :
    Calls Try.prog 81 #[.pointer none] w fun e w' => e = .returned (.int .i64 0) ∧ w = w' := by
  go_enter Try.func81, Try.ntmps81
  go_wp2
  go_ret
  exact ⟨rfl, rfl⟩
theorem room_any (b n : Nat) (w : World) (hc : w.cell? ⟨b, 0, none⟩ = some (.int .i64 n)) :
    Calls Try.prog 81 #[.pointer (some ⟨b, 0, none⟩)] w fun e w' => e = .returned (.int .i64 n) ∧ w = w' := by
  go_enter Try.func81, Try.ntmps81
  go_wp2
  go_ret
  exact ⟨rfl, rfl⟩
/-- Is there room for v? -/
def fitB (n : Nat) (v : Int) : Bool := decide (0 ≤ v) && decide (v < n)
theorem fit_yes {n : Nat} {v : Int} (h : fitB n v = true) : 0 ≤ v ∧ v < n := by simpa [fitB] using h
theorem fits_nil (v : Int) (w : World) :
    Calls Try.prog 62 #[.pointer none, .int .i64 v] w fun e w' => e = .returned (.bool false) ∧ w = w' := by
  by_cases h : 0 ≤ v
  · have h1 : decide (0 ≤ v) = true := decide_eq_true h
    have h2 : decide (v < 0) = false := decide_eq_false (by omega)
    go_enter Try.func62, Try.ntmps62
    go_wp2_with (first | (go_at_call 81; refine (room_nil _).mono ?_; rintro e w' ⟨rfl, rfl⟩))
    go_ret
    exact ⟨rfl, rfl⟩
  · have h1 : decide (0 ≤ v) = false := decide_eq_false h
    go_enter Try.func62, Try.ntmps62
    go_wp2
    go_ret
    exact ⟨rfl, rfl⟩
theorem fits_any (b n : Nat) (v : Int) (w : World) (hc : w.cell? ⟨b, 0, none⟩ = some (.int .i64 n)) :
    Calls Try.prog 62 #[.pointer (some ⟨b, 0, none⟩), .int .i64 v] w fun e w' => e = .returned (.bool (fitB n v)) ∧ w = w' := by
  have hF := Lib.hid (show fitB n v = (decide (0 ≤ v) && decide (v < n)) from rfl)
  by_cases h : 0 ≤ v
  · have h1 : decide (0 ≤ v) = true := decide_eq_true h
    have hF2 : Hid (fitB n v = decide (v < (n : Int))) := Lib.hid (by rw [hF.out, h1, Bool.true_and])
    go_enter Try.func62, Try.ntmps62
    go_wp2_with (first | (go_at_call 81; refine (room_any b n _ hc).mono ?_; rintro e w' ⟨rfl, rfl⟩))
    go_ret
    exact ⟨bool_ret hF2.out.symm, rfl⟩
  · have h1 : decide (0 ≤ v) = false := decide_eq_false h
    have hF2 : Hid (fitB n v = false) := Lib.hid (by rw [hF.out, h1, Bool.false_and])
    go_enter Try.func62, Try.ntmps62
    go_wp2
    go_ret
    exact ⟨bool_ret hF2.out.symm, rfl⟩
end Go.Proofs.Ytbankocbncpepaa.Vs
