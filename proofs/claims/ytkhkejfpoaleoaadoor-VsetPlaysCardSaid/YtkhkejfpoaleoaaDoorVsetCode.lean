/- Contracts of vset's small functions and of the library's counts of bits, at every argument. -/
import Derived.Test.YtkhkejfpoaleoaaDoorVsetPop
import Derived.Test.YtkhkejfpoaleoaaDoorShTz
import Derived.Test.YtkhkejfpoaleoaaDoorList
import Derived.Test.YtkhkejfpoaleoaaDoorCells
import Derived.Laws.BitsAllLaws
import Derived.Deep.RegionWith
import Derived.Deep.QuietTactic
import Derived.BigQuiet
import Derived.BigRegion
namespace Go.Proofs.YtkhkejfpoaleoaaDoor
open Go.RowKit Go.ChangeShapes VsetPure
theorem tz_any (x : Nat) (hx : x < 18446744073709551616) (w : World) (hT : TabAt 0 Lib.deBruijn64tab w) :
    Calls Tryd.prog 33 #[.int .u64 x] w fun e w' => e = .returned (.int .i64 (tz x : Int)) ∧ w = w' :=
  (Tryd.bits_Tz64 x hx w (fun _ => hT)).mono fun _ _ ⟨h1, h2⟩ => ⟨h1, h2.symm⟩
theorem and_lit (a : Nat) (ha : a < 18446744073709551616) (m : Nat) (hm : m < 18446744073709551616) : bits .and .u64 (a : Int) (m : Int) = ((a &&& m : Nat) : Int) := bits_and_u64_nat a m ha hm
theorem step_g (x : Nat) (hx : x < 18446744073709551616) : IntKind.u64.wrap (bits .and .u64 ((x : Int) / 2) 6148914691236517205 + bits .and .u64 (x : Int) 6148914691236517205) = ((gs 8 x : Nat) : Int) := by
  have e := and_lit (x / 2) (by omega) 6148914691236517205 (by decide)
  have e2 := and_lit x hx 6148914691236517205 (by decide)
  rw [Int.natCast_ediv] at e
  rw [show (6148914691236517205 : Int) = ((6148914691236517205 : Nat) : Int) from rfl, show (2 : Int) = ((2 : Nat) : Int) from rfl, e, e2, IntKind.wrap_u64]
  unfold gs
  rw [show mk 85 8 = 6148914691236517205 from rfl]
  have a1 : x / 2 &&& 6148914691236517205 ≤ 6148914691236517205 := Nat.and_le_right
  have a2 : x &&& 6148914691236517205 ≤ 6148914691236517205 := Nat.and_le_right
  omega
theorem gs_le (x : Nat) : gs 8 x < 18446744073709551616 := by
  unfold gs
  rw [show mk 85 8 = 6148914691236517205 from rfl]
  have a1 : x / 2 &&& 6148914691236517205 ≤ 6148914691236517205 := Nat.and_le_right
  have a2 : x &&& 6148914691236517205 ≤ 6148914691236517205 := Nat.and_le_right
  omega
theorem step_h (x : Nat) (hx : x < 18446744073709551616) : IntKind.u64.wrap (bits .and .u64 ((x : Int) / 4) 3689348814741910323 + bits .and .u64 (x : Int) 3689348814741910323) = ((hs 8 x : Nat) : Int) := by
  have e := and_lit (x / 4) (by omega) 3689348814741910323 (by decide)
  have e2 := and_lit x hx 3689348814741910323 (by decide)
  rw [Int.natCast_ediv] at e
  rw [show (3689348814741910323 : Int) = ((3689348814741910323 : Nat) : Int) from rfl, show (4 : Int) = ((4 : Nat) : Int) from rfl, e, e2, IntKind.wrap_u64]
  unfold hs
  rw [show mk 51 8 = 3689348814741910323 from rfl]
  have a1 : x / 4 &&& 3689348814741910323 ≤ 3689348814741910323 := Nat.and_le_right
  have a2 : x &&& 3689348814741910323 ≤ 3689348814741910323 := Nat.and_le_right
  omega
theorem hs_le (x : Nat) : hs 8 x ≤ 7378697629483820646 := by
  unfold hs
  rw [show mk 51 8 = 3689348814741910323 from rfl]
  have a1 : x / 4 &&& 3689348814741910323 ≤ 3689348814741910323 := Nat.and_le_right
  have a2 : x &&& 3689348814741910323 ≤ 3689348814741910323 := Nat.and_le_right
  omega
theorem step_t (x : Nat) (hx : x ≤ 7378697629483820646) : bits .and .u64 (IntKind.u64.wrap ((x : Int) / 16 + (x : Int))) 1085102592571150095 = ((ts 8 x : Nat) : Int) := by
  have e0 : IntKind.u64.wrap ((x : Int) / 16 + (x : Int)) = ((x / 16 + x : Nat) : Int) := by rw [IntKind.wrap_u64]; omega
  rw [e0, show (1085102592571150095 : Int) = ((1085102592571150095 : Nat) : Int) from rfl, and_lit _ (by omega) _ (by decide)]
  rfl
theorem step_e (y c : Nat) (hy : y < 1152921504606846976) (h : ((y + y / 256 + (y + y / 256) / 65536) + (y + y / 256 + (y + y / 256) / 65536) / 4294967296) % 128 = c) :
    bits .and .i64 (wrap64 (IntKind.u64.wrap (IntKind.u64.wrap (IntKind.u64.wrap ((y : Int) + (y : Int) / 256) + IntKind.u64.wrap ((y : Int) + (y : Int) / 256) / 65536) + IntKind.u64.wrap (IntKind.u64.wrap ((y : Int) + (y : Int) / 256) + IntKind.u64.wrap ((y : Int) + (y : Int) / 256) / 65536) / 4294967296))) 127 = (c : Int) := by
  obtain ⟨a, ha⟩ : ∃ a : Nat, a = y + y / 256 := ⟨_, rfl⟩
  have e1 : IntKind.u64.wrap ((y : Int) + (y : Int) / 256) = (a : Int) := by rw [IntKind.wrap_u64]; omega
  rw [e1]
  rw [← ha] at h
  have hal : a < 2305843009213693952 := by omega
  clear e1 ha hy
  obtain ⟨b, hb⟩ : ∃ b : Nat, b = a + a / 65536 := ⟨_, rfl⟩
  have e2 : IntKind.u64.wrap ((a : Int) + (a : Int) / 65536) = (b : Int) := by rw [IntKind.wrap_u64]; omega
  rw [e2]
  rw [← hb] at h
  have hbl : b < 4611686018427387904 := by omega
  clear e2 hb hal
  obtain ⟨d, hd⟩ : ∃ d : Nat, d = b + b / 4294967296 := ⟨_, rfl⟩
  have e3 : IntKind.u64.wrap ((b : Int) + (b : Int) / 4294967296) = (d : Int) := by rw [IntKind.wrap_u64]; omega
  rw [e3]
  rw [← hd] at h
  have hdl : d < 9223372036854775808 := by omega
  clear e3 hd hbl
  have e4 : wrap64 (d : Int) = (d : Int) := by unfold wrap64; omega
  rw [e4]
  have hk : ∀ n : Int, 0 ≤ n → n < 2 ^ 63 → IntKind.i64.wrap n = n := fun n h1 h2 => by rw [IntKind.wrap_i64]; omega
  have := bits_mask .i64 63 (by decide) hk 7 (by decide) (d : Int) (by omega) (by omega)
  have e5 : (2 : Int) ^ 7 - 1 = 127 := by decide
  rw [e5] at this
  rw [this]
  omega
theorem pop_any (x : Nat) (hx : x < 18446744073709551616) (w : World) :
    Calls Tryd.prog 31 #[.int .u64 x] w fun e w' => e = .returned (.int .i64 (cnt x : Int)) ∧ w = w' := by
  go_enter Tryd.func31, Tryd.ntmps31
  go_wp2
  go_ret
  exact ⟨ret_i (by rw [step_g x hx, step_h _ (gs_le x), step_t _ (hs_le _)]; exact step_e (pops 8 x) (cnt x) (pops_lt x) (pops_cnt x _ rfl)), rfl⟩
theorem bit_any (v : Nat) (hv : v ≤ 4096) (w : World) :
    Calls Tryd.prog 29 #[.int .i64 v] w fun e w' => e = .returned (.int .u64 ((2 ^ (v % 64) : Nat) : Int)) ∧ w = w' := by
  go_enter Tryd.func29, Tryd.ntmps29
  go_wp2
  go_ret
  exact ⟨ret_i (by
    have hp : 2 ^ (v % 64) < 18446744073709551616 := Nat.lt_of_lt_of_le (Nat.pow_lt_pow_right (by decide) (show v % 64 < 64 by omega)) (by decide)
    rw [IntKind.wrap_u64]
    have e : (2 : Int) ^ (v % 64) = ((2 ^ (v % 64) : Nat) : Int) := by rw [Int.natCast_pow]; rfl
    rw [e]
    generalize 2 ^ (v % 64) = q at *
    omega), rfl⟩
theorem room_nil (w : World) :
    Calls Tryd.prog 24 #[.pointer none] w fun e w' => e = .returned (.int .i64 0) ∧ w = w' := by
  go_enter Tryd.func24, Tryd.ntmps24
  go_wp2
  go_ret
  exact ⟨rfl, rfl⟩
theorem room_any (b n : Nat) (w : World) (hc : w.cell? ⟨b, 0, none⟩ = some (.int .i64 n)) :
    Calls Tryd.prog 24 #[.pointer (some ⟨b, 0, none⟩)] w fun e w' => e = .returned (.int .i64 n) ∧ w = w' := by
  go_enter Tryd.func24, Tryd.ntmps24
  go_wp2
  go_ret
  exact ⟨rfl, rfl⟩
/-- Is there room for v? -/
def fitB (n : Nat) (v : Int) : Bool := decide (0 ≤ v) && decide (v < n)
theorem fit_yes {n : Nat} {v : Int} (h : fitB n v = true) : 0 ≤ v ∧ v < n := by simpa [fitB] using h
theorem fits_nil (v : Int) (w : World) :
    Calls Tryd.prog 28 #[.pointer none, .int .i64 v] w fun e w' => e = .returned (.bool false) ∧ w = w' := by
  by_cases h : 0 ≤ v
  · have h1 : decide (0 ≤ v) = true := decide_eq_true h
    have h2 : decide (v < 0) = false := decide_eq_false (by omega)
    go_enter Tryd.func28, Tryd.ntmps28
    go_wp2_with (first | (go_at_call 24; refine (room_nil _).mono ?_; rintro e w' ⟨rfl, rfl⟩))
    go_ret
    exact ⟨rfl, rfl⟩
  · have h1 : decide (0 ≤ v) = false := decide_eq_false h
    go_enter Tryd.func28, Tryd.ntmps28
    go_wp2
    go_ret
    exact ⟨rfl, rfl⟩
theorem fits_any (b n : Nat) (v : Int) (w : World) (hc : w.cell? ⟨b, 0, none⟩ = some (.int .i64 n)) :
    Calls Tryd.prog 28 #[.pointer (some ⟨b, 0, none⟩), .int .i64 v] w fun e w' => e = .returned (.bool (fitB n v)) ∧ w = w' := by
  have hF := Lib.hid (show fitB n v = (decide (0 ≤ v) && decide (v < n)) from rfl)
  by_cases h : 0 ≤ v
  · have h1 : decide (0 ≤ v) = true := decide_eq_true h
    have hF2 : Hid (fitB n v = decide (v < (n : Int))) := Lib.hid (by rw [hF.out, h1, Bool.true_and])
    go_enter Tryd.func28, Tryd.ntmps28
    go_wp2_with (first | (go_at_call 24; refine (room_any b n _ hc).mono ?_; rintro e w' ⟨rfl, rfl⟩))
    go_ret
    exact ⟨bool_ret hF2.out.symm, rfl⟩
  · have h1 : decide (0 ≤ v) = false := decide_eq_false h
    have hF2 : Hid (fitB n v = false) := Lib.hid (by rw [hF.out, h1, Bool.false_and])
    go_enter Tryd.func28, Tryd.ntmps28
    go_wp2
    go_ret
    exact ⟨bool_ret hF2.out.symm, rfl⟩
end Go.Proofs.YtkhkejfpoaleoaaDoor
