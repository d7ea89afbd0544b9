/- Which vertices a set parts (beside net). -/
import Derived.Test.YtceejjgmepaonaaDoorPk2
namespace Go.Proofs.YtceejjgmepaonaaDoor.Vs
open Go.RowKit Go.ChangeShapes VsetPure
def partsP (n : Nat) (p : Nat → Bool) (u v : Int) : Bool := fitB n u && fitB n v && (p u.toNat != p v.toNat)
theorem parts_nil (u v : Int) (w : World) :
    Calls Tryd.prog 79 #[.pointer none, .int .i64 u, .int .i64 v] w fun e w' => e = .returned (.bool false) ∧ w = w' := by
  go_enter Tryd.func79, Tryd.ntmps79
  go_wp2_with (first | (go_at_call 97; refine (fits_nil _ _).mono ?_; rintro e w' ⟨rfl, rfl⟩))
  go_ret
  exact ⟨rfl, rfl⟩
theorem parts_any (b g n : Nat) (p : Nat → Bool) (u v : Int) (w : World) (h : SetAt b g w n p) :
    Calls Tryd.prog 79 #[.pointer (some ⟨b, 0, none⟩), .int .i64 u, .int .i64 v] w fun e w' => e = .returned (.bool (partsP n p u v)) ∧ ∃ k, w' = w.drewN k := by
  have hc : w.cell? ⟨b, 0, none⟩ = some (.int .i64 (n : Int)) := by obtain ⟨ws, -, -, -, t, -⟩ := h.2.2.2.2; exact t.1
  have HC := Lib.hid hc
  have HS := Lib.hid h
  have HP := Lib.hid (show partsP n p u v = (fitB n u && fitB n v && (p u.toNat != p v.toNat)) from rfl)
  clear hc h
  cases hu : fitB n u
  · have HU := Lib.hid hu
    have HR : Hid (partsP n p u v = false) := Lib.hid (by rw [HP.out, HU.out]; rfl)
    clear hu
    go_enter Tryd.func79, Tryd.ntmps79
    go_wp2_with (first | (go_at_call 97; refine (fits_any b n u _ HC.out).mono ?_; rintro e w' ⟨rfl, rfl⟩; rw [HU.out]))
    go_ret
    exact ⟨bool_ret HR.out.symm, 0, rfl⟩
  · have HU := Lib.hid hu
    clear hu
    cases hv : fitB n v
    · have HV := Lib.hid hv
      have HR : Hid (partsP n p u v = false) := Lib.hid (by rw [HP.out, HU.out, HV.out]; rfl)
      clear hv
      go_enter Tryd.func79, Tryd.ntmps79
      go_wp2_with fail
      refine (fits_any b n u _ HC.out).mono ?_
      rintro e w' ⟨rfl, rfl⟩
      rw [HU.out]
      go_wp2_with fail
      refine (fits_any b n v _ HC.out).mono ?_
      rintro e w' ⟨rfl, rfl⟩
      rw [HV.out]
      go_wp2
      go_ret
      exact ⟨bool_ret HR.out.symm, 0, rfl⟩
    · have HV := Lib.hid hv
      have HR : Hid (partsP n p u v = (p u.toNat != p v.toNat)) := Lib.hid (by rw [HP.out, HU.out, HV.out]; rfl)
      clear hv
      go_enter Tryd.func79, Tryd.ntmps79
      go_wp2_with fail
      refine (fits_any b n u _ HC.out).mono ?_
      rintro e w' ⟨rfl, rfl⟩
      rw [HU.out]
      go_wp2_with fail
      refine (fits_any b n v _ HC.out).mono ?_
      rintro e w' ⟨rfl, rfl⟩
      rw [HV.out]
      go_wp2_with fail
      refine (has_any b g n p u _ HS.out).mono ?_
      rintro e w' ⟨rfl, m, rfl⟩
      rw [HU.out, Bool.true_and]
      go_wp2_with fail
      refine (has_any b g n p v _ (HS.out.drawn m)).mono ?_
      rintro e w' ⟨rfl, m', rfl⟩
      rw [HV.out, Bool.true_and]
      go_wp2
      go_ret
      exact ⟨bool_ret HR.out.symm, _, rfl⟩
end Go.Proofs.YtceejjgmepaonaaDoor.Vs
