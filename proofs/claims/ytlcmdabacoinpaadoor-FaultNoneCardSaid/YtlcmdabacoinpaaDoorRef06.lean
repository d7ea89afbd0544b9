/- Contracts for the document's own answers on one number's digits (straitref06), beside no function of dec. -/
import Derived.Test.YtlcmdabacoinpaaDoorDecPure
import Derived.Test.YtlcmdabacoinpaaDoorKit
import Derived.Deep.RegionWith
import Derived.IntWalk
namespace Go.Proofs.YtlcmdabacoinpaaDoor.R6
open Go.RowKit Go.ChangeShapes DecPure
/-- A slice of one byte as a text. -/
theorem conv_one (n : Int) (w : World) (g : Nat) (hc : w.cell? (⟨g, 0, none⟩ : Addr) = some (.int .u8 n)) :
    (convert 61 9 (.slice (some ⟨g, 0, none⟩) 1 1)).run Tryd.prog w = .ok (.string ⟨#[UInt8.ofNat n.toNat]⟩) w := by
  rw [run_convert_bytes_string w _ _ _ _ _ _ Tryd.underlying61 Tryd.underlying5 Tryd.underlying9]
  have h := run_bytesToString (P := Tryd.prog) w ⟨g, 0, none⟩ 1 1 [n] (run_loadCells_list w ⟨g, 0, none⟩ [.int .u8 n] (fun j v hj => by
    match j, hj with
    | 0, hj => simp at hj; subst hj; simpa [Addr.add] using hc))
  rw [h]
  rfl
set_option maxHeartbeats 1000000 in
theorem digits_any (n : Nat) : n < 18446744073709551616 → ∀ w : World,
    Calls Tryd.prog 32 #[.int .u64 (n : Int)] w fun e w' => e = .returned (.string ⟨(Lib.decDigits n).toArray⟩) ∧ Below w.heap.size w w' := by
  induction n using Nat.strongRecOn with
  | _ n ih =>
    intro hn w
    by_cases h : n < 10
    · have HE := Lib.hid (dec_small h)
      clear ih
      have kc := conv_one (48 + (n : Int))
      go_enter Tryd.func32, Tryd.ntmps32
      go_wp2
      go_ret
      refine ⟨?_, (Below.refl _ _).alloc (Nat.le_refl _) _⟩
      rw [HE.out]
      rfl
    · have HE := Lib.hid (dec_big h)
      have HI := Lib.hid (ih (n / 10) (by omega) (by omega))
      clear ih
      have hm : n % 10 < 10 := by omega
      have e1 : IntKind.u64.wrap ((n : Int) / 10) = ((n / 10 : Nat) : Int) := by rw [IntWalk.u64_in _ (by omega)]; omega
      have e2 : (n : Int).tmod 10 = ((n % 10 : Nat) : Int) := by rw [Int.tmod_eq_emod_of_nonneg (by omega)]; omega
      have hl : (Lib.decDigits (n / 10)).length ≤ 20 := by rw [Lib.decDigits_length]; exact Lib.nDigits_le20 _ (by omega)
      have hl2 : decide (9223372036854775807 < (Lib.decDigits (n / 10)).length + 1) = false := decide_eq_false (by omega)
      generalize n / 10 = q at *
      generalize Lib.decDigits q = D at *
      generalize n % 10 = m at *
      have e3 : IntKind.u64.wrap (48 + (m : Int)) = 48 + (m : Int) := IntWalk.u64_in _ (by omega)
      have e4 : IntKind.u8.wrap (48 + (m : Int)) = 48 + (m : Int) := IntWalk.u8_in _ (by omega)
      have kc : ∀ (w : World) (g : Nat), w.cell? (⟨g, 0, none⟩ : Addr) = some (.int .u8 (48 + (m : Int))) → (convert 61 9 (.slice (some ⟨g, 0, none⟩) 1 1)).run Tryd.prog w = .ok (.string ⟨#[UInt8.ofNat (48 + m)]⟩) w :=
        fun w g h => by rw [conv_one _ w g h]; rfl
      have HC := Lib.hid (ByteArray.mk_append_mk D [UInt8.ofNat (48 + m)])
      generalize UInt8.ofNat (48 + m) = c at *
      go_enter Tryd.func32, Tryd.ntmps32
      go_wp2
      go_region_with (first | (go_at_call 32; refine (HI.out _).mono ?_; rintro e w1 ⟨rfl, hb1⟩; have HB1 := Lib.hid hb1; obtain ⟨hc1, hf1⟩ := bcell hb1; have hz1 := hb1.size; clear hb1))
      all_goals go_wp2
      all_goals go_ret
      all_goals refine ⟨by rw [HE.out]; exact congrArg (fun b => Ending.returned (.string b)) HC.out, ?_⟩
      all_goals first
        | exact ((Below.drew (Below.refl _ w)).trans HB1.out).alloc HB1.out.size _
        | exact (Below.drew ((Below.refl _ w).alloc (Nat.le_refl _) _)).trans (HB1.out.mono (by simp))
        | exact (((Below.refl _ w).alloc (Nat.le_refl _) _)).trans (HB1.out.mono (by simp))
set_option maxHeartbeats 400000 in
theorem refPrint_any (n : Int) (h0 : -9223372036854775808 ≤ n) (h1 : n ≤ 9223372036854775807) (w : World) :
    Calls Tryd.prog 22 #[.int .i64 n] w fun e w' => e = .returned (.string ⟨(Lib.itoa n).toArray⟩) ∧ Below w.heap.size w w' := by
  by_cases hn : n < 0
  · obtain ⟨u, hu⟩ : ∃ u : Nat, n = -(u : Int) := ⟨n.natAbs, by omega⟩
    have HI := Lib.hid (digits_any u (by omega) w)
    have HE : Hid (Lib.itoa n = 45 :: Lib.decDigits u) := Lib.hid (by rw [hu]; exact Lib.itoa_neg u (by omega))
    have hl : (Lib.decDigits u).length ≤ 20 := by rw [Lib.decDigits_length]; exact Lib.nDigits_le20 _ (by omega)
    have hl2 : decide (9223372036854775807 < 1 + (Lib.decDigits u).length) = false := decide_eq_false (by omega)
    generalize Lib.decDigits u = D at *
    have e1 : -(n + 1) + 1 = (u : Int) := by omega
    have HC := Lib.hid (ByteArray.mk_append_mk [45] D)
    have HN := Lib.hid hu
    clear hu
    go_enter Tryd.func22, Tryd.ntmps22
    go_wp2_with fail
    refine HI.out.mono ?_
    rintro e w1 ⟨rfl, hb1⟩
    have HB := Lib.hid hb1
    clear hb1 HI
    go_wp2
    go_ret
    refine ⟨?_, HB.out⟩
    rw [HE.out]
    exact congrArg (fun b => Ending.returned (.string b)) HC.out
  · obtain ⟨u, rfl⟩ : ∃ u : Nat, n = (u : Int) := ⟨n.toNat, by omega⟩
    have HI := Lib.hid (digits_any u (by omega) w)
    have HE : Hid (Lib.itoa (u : Int) = Lib.decDigits u) := Lib.hid (Lib.itoa_nonneg u)
    go_enter Tryd.func22, Tryd.ntmps22
    go_wp2_with fail
    refine HI.out.mono ?_
    rintro e w1 ⟨rfl, hb1⟩
    have HB := Lib.hid hb1
    clear hb1 HI
    go_wp2
    go_ret
    refine ⟨?_, HB.out⟩
    rw [HE.out]
    rfl
end Go.Proofs.YtlcmdabacoinpaaDoor.R6
