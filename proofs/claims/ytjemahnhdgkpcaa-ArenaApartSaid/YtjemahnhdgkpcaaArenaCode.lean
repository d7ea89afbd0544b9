/- Contracts of New, Len, Room, has, At of an arena, at every argument. -/
import Derived.Test.YtjemahnhdgkpcaaArenaMem
namespace Go.Proofs.Ytjemahnhdgkpcaa
open Go.RowKit Go.ChangeShapes ArenaPure
theorem len_nil (w : World) :
    Calls Try.prog 17 #[.pointer none] w fun e w' => e = .returned (.int .i64 0) ∧ w = w' := by
  go_enter Try.func17, Try.ntmps17
  go_wp2
  go_ret
  exact ⟨rfl, rfl⟩
theorem len_any (O : Nat → Prop) (b N : Nat) (S : St) (w : World) (h : ArAt O b w N S) :
    Calls Try.prog 17 #[.pointer (some ⟨b, 0, none⟩)] w fun e w' => e = .returned (.int .i64 (liveN S : Int)) ∧ w = w' := by
  obtain ⟨-, -, v, f, cs, -, h1, -⟩ := h
  have c2 := h1.cells.1.2.2.1
  clear h1
  generalize liveN S = L at *
  go_enter Try.func17, Try.ntmps17
  go_wp2
  go_ret
  exact ⟨rfl, rfl⟩
theorem room_nil (w : World) :
    Calls Try.prog 18 #[.pointer none] w fun e w' => e = .returned (.int .i64 0) ∧ w = w' := by
  go_enter Try.func18, Try.ntmps18
  go_wp2
  go_ret
  exact ⟨rfl, rfl⟩
theorem room_any (O : Nat → Prop) (b N : Nat) (S : St) (w : World) (h : ArAt O b w N S) :
    Calls Try.prog 18 #[.pointer (some ⟨b, 0, none⟩)] w fun e w' => e = .returned (.int .i64 (N : Int)) ∧ w = w' := by
  obtain ⟨-, -, v, f, cs, -, h1, -⟩ := h
  have c0 := h1.cells.1.1
  clear h1
  go_enter Try.func18, Try.ntmps18
  go_wp2
  go_ret
  exact ⟨rfl, rfl⟩
theorem has_nil (n : Int) (w : World) :
    Calls Try.prog 21 #[.pointer none, .int .i64 n] w fun e w' => e = .returned (.bool false) ∧ w = w' := by
  go_enter Try.func21, Try.ntmps21
  go_wp2
  go_ret
  exact ⟨rfl, rfl⟩
theorem has_any (O : Nat → Prop) (b N : Nat) (S : St) (n : Int) (w : World) (h : ArAt O b w N S) :
    Calls Try.prog 21 #[.pointer (some ⟨b, 0, none⟩), .int .i64 n] w fun e w' => e = .returned (.bool (hasB S n)) ∧ w = w' := by
  obtain ⟨hN, -, v, f, cs, ⟨hl, hc, -⟩, h1, h2, -⟩ := h
  have c1 := h1.cells.1.2.1
  clear h1
  by_cases a : n < 0
  · have HF := Lib.hid (has_low (S := S) a)
    have a1 : ¬ n ≥ 0 := by omega
    clear hc h2 a
    go_enter Try.func21, Try.ntmps21
    go_wp2
    go_ret
    exact ⟨bool_ret HF.out.symm, rfl⟩
  · have a1 : n ≥ 0 := by omega
    obtain ⟨k, rfl⟩ := Int.eq_ofNat_of_zero_le a1
    by_cases a2 : k < cs.length
    · obtain ⟨g, cap, rfl, -, hg⟩ := owns_slice h2 (by omega)
      obtain ⟨c, hk⟩ : ∃ c, cs[k]? = some c := ⟨_, List.getElem?_eq_getElem a2⟩
      have e1 := (cell_at h2 hk).1.2.1
      have HF : Hid (hasB S (k : Int) = c.2.1) := Lib.hid (by
        rw [has_of (by omega)]
        have := (hc k _ hk).1
        rw [List.getElem?_eq_getElem (by omega)] at this
        exact Option.some.inj this)
      have a3 : (k : Int) < (cs.length : Int) := by omega
      clear hc h2 a hl hk a2
      generalize c.2.1 = x at *
      generalize cs.length = K at *
      go_enter Try.func21, Try.ntmps21
      go_wp2
      go_ret
      exact ⟨bool_ret HF.out.symm, rfl⟩
    · obtain ⟨q, cap, rfl⟩ := owns_any h2
      have HF := Lib.hid (has_past (S := S) (n := (k : Int)) (by omega))
      have a3 : ¬ (k : Int) < (cs.length : Int) := by omega
      clear hc h2 a hl a2
      generalize cs.length = K at *
      go_enter Try.func21, Try.ntmps21
      go_wp2
      go_ret
      exact ⟨bool_ret HF.out.symm, rfl⟩
theorem at_nil (n : Int) (w : World) :
    Calls Try.prog 14 #[.pointer none, .int .i64 n] w fun e w' => e = .returned (.tuple #[.int .i64 0, .bool false]) ∧ w = w' := by
  go_enter Try.func14, Try.ntmps14
  go_wp2_with (first | (go_at_call 21; refine (has_nil n _).mono ?_; rintro e w' ⟨rfl, rfl⟩))
  go_ret2
  exact ⟨rfl, rfl⟩
theorem at_any (O : Nat → Prop) (b N : Nat) (S : St) (n : Int) (w : World) (h : ArAt O b w N S) :
    Calls Try.prog 14 #[.pointer (some ⟨b, 0, none⟩), .int .i64 n] w fun e w' => e = .returned (.tuple #[.int .i64 (atV S n), .bool (hasB S n)]) ∧ w = w' := by
  have HA := Lib.hid h
  obtain ⟨hN, -, v, f, cs, ⟨hl, hc, -⟩, h1, h2, -⟩ := h
  have c1 := h1.cells.1.2.1
  clear h1
  cases hh : hasB S n
  · have HF := Lib.hid hh
    have HV := Lib.hid (at_no hh)
    clear hc h2 hh
    go_enter Try.func14, Try.ntmps14
    go_wp2_with (first | (go_at_call 21; refine (has_any O b N S n _ HA.out).mono ?_; rintro e w' ⟨rfl, rfl⟩; rw [HF.out]))
    go_ret2
    exact ⟨ret_ib HV.out.symm rfl, rfl⟩
  · have HF := Lib.hid hh
    obtain ⟨k, rfl, hk, hy⟩ := has_yes hh
    have a2 : k < cs.length := by omega
    obtain ⟨g, cap, rfl, -, hg⟩ := owns_slice h2 (by omega)
    obtain ⟨c, hck⟩ : ∃ c, cs[k]? = some c := ⟨_, List.getElem?_eq_getElem a2⟩
    have e1 := (cell_at h2 hck).1.1
    have HV : Hid (atV S (k : Int) = c.1) := Lib.hid (by
      obtain ⟨g1, g2⟩ := hc k _ hck
      rw [hy] at g1
      rw [at_of hy, List.getD_eq_getElem?_getD, g2 (Option.some.inj g1).symm]
      rfl)
    have a3 : (k : Int) < (cs.length : Int) := by omega
    have a4 : (0 : Int) ≤ (k : Int) := by omega
    clear hc h2 hl hck a2 hh hy hk
    generalize c.1 = x at *
    generalize cs.length = K at *
    go_enter Try.func14, Try.ntmps14
    go_wp2_with (first | (go_at_call 21; refine (has_any O b N S _ _ HA.out).mono ?_; rintro e w' ⟨rfl, rfl⟩; rw [HF.out]))
    go_ret2
    exact ⟨ret_ib HV.out.symm rfl, rfl⟩
theorem new_any (n : Int) (w : World) :
    Calls Try.prog 6 #[.int .i64 n] w fun e w' => e = .returned (.pointer (some ⟨w.heap.size, 0, none⟩)) ∧ Below w.heap.size w w' ∧ w.heap.size < w'.heap.size ∧ ArAt (fun k => k = w.heap.size) w.heap.size w' (roomN n) emptyS := by
  have hlt : ∀ T, w.heap.size < (w.alloc (.cells #[.int .i64 ((roomN n : Nat) : Int), .slice none 0 0, .int .i64 0, .int .i64 0] T)).heap.size := fun T => by simp
  have HA : Hid (∀ T, Below w.heap.size w (w.alloc (.cells #[.int .i64 ((roomN n : Nat) : Int), .slice none 0 0, .int .i64 0, .int .i64 0] T)) ∧ w.heap.size < (w.alloc (.cells #[.int .i64 ((roomN n : Nat) : Int), .slice none 0 0, .int .i64 0, .int .i64 0] T)).heap.size ∧
      ArAt (fun k => k = w.heap.size) w.heap.size (w.alloc (.cells #[.int .i64 ((roomN n : Nat) : Int), .slice none 0 0, .int .i64 0, .int .i64 0] T)) (roomN n) emptyS) :=
    Lib.hid fun T => ⟨(Below.refl _ w).alloc (Nat.le_refl _) _, hlt T, arAt_new w _ (roomN_le n) T⟩
  clear hlt
  by_cases a : n < 0
  · have e : roomN n = 0 := by unfold roomN; omega
    rw [e] at HA ⊢
    have a1 : n ≤ 0 := by omega
    have a2 : ¬ n > 0 := by omega
    have a3 : ¬ 0 < n := by omega
    go_enter Try.func6, Try.ntmps6
    go_wp2
    go_ret
    exact ⟨rfl, HA.out _⟩
  · obtain ⟨k, rfl⟩ := Int.eq_ofNat_of_zero_le (by omega : 0 ≤ n)
    by_cases b : k < 1048576
    · have e : roomN (k : Int) = k := by unfold roomN; omega
      rw [e] at HA ⊢
      by_cases c : k = 0
      · subst c
        go_enter Try.func6, Try.ntmps6
        go_wp2
        go_ret
        exact ⟨rfl, HA.out _⟩
      have a1 : ¬ (k : Int) ≤ 0 := by omega
      have a3 : 0 < (k : Int) := by omega
      have b1 : (k : Int) < 1048576 := by omega
      have b2 : (k : Int) ≤ 1048576 := by omega
      have b3 : ¬ (1048576 : Int) < (k : Int) := by omega
      have b4 : ¬ (1048576 : Int) ≤ (k : Int) := by omega
      have a4 : (0 : Int) ≤ (k : Int) := by omega
      go_enter Try.func6, Try.ntmps6
      go_wp2
      go_ret
      exact ⟨rfl, HA.out _⟩
    · have e : roomN (k : Int) = 1048576 := by unfold roomN; omega
      rw [e] at HA ⊢
      by_cases c : k = 1048576
      · subst c
        go_enter Try.func6, Try.ntmps6
        go_wp2
        go_ret
        exact ⟨rfl, HA.out _⟩
      have a1 : ¬ (k : Int) ≤ 0 := by omega
      have a3 : 0 < (k : Int) := by omega
      have b1 : ¬ (k : Int) < 1048576 := by omega
      have b2 : ¬ (k : Int) ≤ 1048576 := by omega
      have b3 : (1048576 : Int) < (k : Int) := by omega
      have b4 : (1048576 : Int) ≤ (k : Int) := by omega
      have a4 : (0 : Int) ≤ (k : Int) := by omega
      go_enter Try.func6, Try.ntmps6
      go_wp2
      go_ret
      exact ⟨rfl, HA.out _⟩
end Go.Proofs.Ytjemahnhdgkpcaa
