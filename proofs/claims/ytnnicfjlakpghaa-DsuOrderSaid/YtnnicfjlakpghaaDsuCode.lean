/- Contracts of Room, Count and Of of classes, at every argument. -/
import Derived.Test.YtnnicfjlakpghaaDsuMem
namespace Go.Proofs.Ytnnicfjlakpghaa
open Go.RowKit Go.ChangeShapes Go.Maps DsuPure
theorem room_nil (w : World) :
    Calls Try.prog 17 #[.pointer none] w fun e w' => e = .returned (.int .i64 0) ∧ w = w' := by
  go_enter Try.func17, Try.ntmps17
  go_wp2
  go_ret
  exact ⟨rfl, rfl⟩
theorem room_any (b g m n : Nat) (p : Nat → Nat) (w : World) (h : ClsAt b g m w n p) :
    Calls Try.prog 17 #[.pointer (some ⟨b, 0, none⟩)] w fun e w' => e = .returned (.int .i64 (n : Int)) ∧ w = w' := by
  have c0 := h.2.2.2.2.2.2.1.1
  clear h
  go_enter Try.func17, Try.ntmps17
  go_wp2
  go_ret
  exact ⟨rfl, rfl⟩
theorem count_nil (w : World) :
    Calls Try.prog 19 #[.pointer none] w fun e w' => e = .returned (.int .i64 0) ∧ w = w' := by
  go_enter Try.func19, Try.ntmps19
  go_wp2
  go_ret
  exact ⟨rfl, rfl⟩
theorem count_any (b g m n : Nat) (p : Nat → Nat) (w : World) (h : ClsAt b g m w n p) :
    Calls Try.prog 19 #[.pointer (some ⟨b, 0, none⟩)] w fun e w' => e = .returned (.int .i64 (rootsN n p : Int)) ∧ w = w' := by
  have c1 := h.2.2.2.2.2.2.1.2.1
  obtain ⟨D, hD, hM⟩ := h.2.2.2.2.2.2.2.2
  have hlen := len_map hD hM
  clear h hD hM
  go_enter Try.func19, Try.ntmps19
  go_wp2
  go_ret
  exact ⟨rfl, rfl⟩
theorem of_nil (v : Int) (w : World) :
    Calls Try.prog 18 #[.pointer none, .int .i64 v] w fun e w' => e = .returned (.int .i64 (-1)) ∧ w = w' := by
  by_cases a : v < 0
  · go_enter Try.func18, Try.ntmps18
    go_wp2
    go_step3
    go_wp2_with (first | (go_at_call 17; refine (room_nil _).mono ?_; rintro e w' ⟨rfl, rfl⟩))
    rw [Exit.noGoto_ret]
    go_ret
    exact ⟨rfl, rfl⟩
  · have a2 : v ≥ 0 := by omega
    go_enter Try.func18, Try.ntmps18
    go_wp2
    go_step3
    go_wp2_with (first | (go_at_call 17; refine (room_nil _).mono ?_; rintro e w' ⟨rfl, rfl⟩))
    rw [Exit.noGoto_ret]
    go_ret
    exact ⟨rfl, rfl⟩
theorem of_none (b g m n : Nat) (p : Nat → Nat) (v : Int) (w : World) (h : ClsAt b g m w n p) (hf : fitB n v = false) :
    Calls Try.prog 18 #[.pointer (some ⟨b, 0, none⟩), .int .i64 v] w fun e w' => e = .returned (.int .i64 (-1)) ∧ w = w' := by
  have HC := Lib.hid h
  have hno := fit_no hf
  clear h hf
  by_cases a : v < 0
  · clear hno
    go_enter Try.func18, Try.ntmps18
    go_wp2
    go_step3
    go_wp2_with (first | (go_at_call 17; refine (room_any b g m n p _ HC.out).mono ?_; rintro e w' ⟨rfl, rfl⟩))
    rw [Exit.noGoto_ret]
    go_ret
    exact ⟨rfl, rfl⟩
  · have a2 : v ≥ (n : Int) := by omega
    clear hno
    go_enter Try.func18, Try.ntmps18
    go_wp2
    go_step3
    go_wp2_with (first | (go_at_call 17; refine (room_any b g m n p _ HC.out).mono ?_; rintro e w' ⟨rfl, rfl⟩))
    rw [Exit.noGoto_ret]
    go_ret
    exact ⟨rfl, rfl⟩
end Go.Proofs.Ytnnicfjlakpghaa
