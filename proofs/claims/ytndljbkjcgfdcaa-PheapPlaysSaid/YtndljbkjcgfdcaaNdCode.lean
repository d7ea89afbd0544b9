/- Contracts of New, Len, Room, has, At of an arena of nodes, at every argument. -/
import Derived.Test.YtndljbkjcgfdcaaNdMem
namespace Go.Proofs.Ytndljbkjcgfdcaa
open Go.RowKit Go.ChangeShapes NdPure
theorem len_any (O : Nat → Prop) (b N : Nat) (S : St) (w : World) (h : ArAt O b w N S) :
    Calls Try.prog 28 #[.pointer (some ⟨b, 0, none⟩)] w fun e w' => e = .returned (.int .i64 (liveN S : Int)) ∧ w = w' := by
  obtain ⟨-, -, v, f, cs, -, h1, -⟩ := h
  have c2 := h1.cells.1.2.2.1
  clear h1
  generalize liveN S = L at *
  go_enter Try.func28, Try.ntmps28
  go_wp2
  go_ret
  exact ⟨rfl, rfl⟩
theorem room_any (O : Nat → Prop) (b N : Nat) (S : St) (w : World) (h : ArAt O b w N S) :
    Calls Try.prog 45 #[.pointer (some ⟨b, 0, none⟩)] w fun e w' => e = .returned (.int .i64 (N : Int)) ∧ w = w' := by
  obtain ⟨-, -, v, f, cs, -, h1, -⟩ := h
  have c0 := h1.cells.1.1
  clear h1
  go_enter Try.func45, Try.ntmps45
  go_wp2
  go_ret
  exact ⟨rfl, rfl⟩
theorem has_any (O : Nat → Prop) (b N : Nat) (S : St) (n : Int) (w : World) (h : ArAt O b w N S) :
    Calls Try.prog 47 #[.pointer (some ⟨b, 0, none⟩), .int .i64 n] w fun e w' => e = .returned (.bool (hasB S n)) ∧ w = w' := by
  obtain ⟨hN, -, v, f, cs, ⟨hl, hc, -⟩, h1, h2, -⟩ := h
  have c1 := h1.cells.1.2.1
  clear h1
  by_cases a : n < 0
  · have HF := Lib.hid (has_low (S := S) a)
    have a1 : ¬ n ≥ 0 := by omega
    clear hc h2 a
    go_enter Try.func47, Try.ntmps47
    go_wp2
    go_ret
    exact ⟨bool_ret HF.out.symm, rfl⟩
  · have a1 : n ≥ 0 := by omega
    obtain ⟨k, rfl⟩ := Int.eq_ofNat_of_zero_le a1
    by_cases a2 : k < cs.length
    · obtain ⟨g, cap, rfl, -, hg⟩ := owns_slice h2 (by omega)
      obtain ⟨c, hk⟩ : ∃ c, cs[k]? = some c := ⟨_, List.getElem?_eq_getElem a2⟩
      have e1 := (cell_at h2 hk).1.2.2.2.2.1
      have HF : Hid (hasB S (k : Int) = c.2.1) := Lib.hid (by
        rw [has_of (by omega)]
        have := (hc k _ hk).1
        rw [List.getElem?_eq_getElem (by omega)] at this
        exact Option.some.inj this)
      have a3 : (k : Int) < (cs.length : Int) := by omega
      clear hc h2 a hl hk a2
      generalize c.2.1 = x at *
      generalize cs.length = K at *
      go_enter Try.func47, Try.ntmps47
      go_wp2
      go_ret
      exact ⟨bool_ret HF.out.symm, rfl⟩
    · obtain ⟨q, cap, rfl⟩ := owns_any h2
      have HF := Lib.hid (has_past (S := S) (n := (k : Int)) (by omega))
      have a3 : ¬ (k : Int) < (cs.length : Int) := by omega
      clear hc h2 a hl a2
      generalize cs.length = K at *
      go_enter Try.func47, Try.ntmps47
      go_wp2
      go_ret
      exact ⟨bool_ret HF.out.symm, rfl⟩
/-- What is in a cell, as a value. -/
def encNd (x : Nd) : Value := .agg #[.int .i64 x.v, .int .i64 x.below, .int .i64 x.next, .int .i64 x.back]
theorem at_any (O : Nat → Prop) (b N : Nat) (S : St) (n : Int) (w : World) (h : ArAt O b w N S) :
    Calls Try.prog 41 #[.pointer (some ⟨b, 0, none⟩), .int .i64 n] w fun e w' => e = .returned (.tuple #[encNd (atV S n), .bool (hasB S n)]) ∧ Below w.heap.size w w' := by
  have HA := Lib.hid h
  have HK : Hid (∀ o, ArAt O b (w.alloc o) N S) := Lib.hid fun o => h.keep ((Below.refl _ w).alloc (Nat.le_refl _) o)
  obtain ⟨hN, -, v, f, cs, ⟨hl, hc, -⟩, h1, h2, -⟩ := h
  have c1 := h1.cells.1.2.1
  have hb := h1.lt
  clear h1
  cases hh : hasB S n
  · have HF := Lib.hid hh
    have HV := Lib.hid (at_no hh)
    clear hc h2 hh
    go_enter Try.func41, Try.ntmps41
    go_wp2_with (first | (go_at_call 47; refine (has_any O b N S n _ (HK.out _)).mono ?_; rintro e w' ⟨rfl, rfl⟩; rw [HF.out]))
    rw [HV.out]
    exact bodyPost_ret (v := .tuple #[.agg #[.int .i64 0, .int .i64 0, .int .i64 0, .int .i64 0], .bool false]) (by simp [results, Try.results41, go_sem]) rfl ⟨rfl, ((Below.refl _ _).alloc (Nat.le_refl _) _).alloc (by simp) _⟩
  · have HF := Lib.hid hh
    obtain ⟨k, rfl, hk, hy⟩ := has_yes hh
    have a2 : k < cs.length := by omega
    obtain ⟨g, cap, rfl, -, hg⟩ := owns_slice h2 (by omega)
    obtain ⟨c, hck⟩ : ∃ c, cs[k]? = some c := ⟨_, List.getElem?_eq_getElem a2⟩
    obtain ⟨e0, e1, e2, e3, -, -⟩ := (cell_at h2 hck).1
    have HV : Hid (atV S (k : Int) = c.1) := Lib.hid (by
      obtain ⟨g1, g2⟩ := hc k _ hck
      rw [hy] at g1
      rw [at_of hy, List.getD_eq_getElem?_getD, g2 (Option.some.inj g1).symm]
      rfl)
    have a3 : (k : Int) < (cs.length : Int) := by omega
    have a4 : (0 : Int) ≤ (k : Int) := by omega
    clear hc h2 hl hck a2 hh hy hk
    obtain ⟨⟨x0, x1, x2, x3⟩, c2⟩ := c
    generalize cs.length = K at *
    simp only at e0 e1 e2 e3 HV
    go_enter Try.func41, Try.ntmps41
    go_wp2_with (first | (go_at_call 47; refine (has_any O b N S _ _ (HK.out _)).mono ?_; rintro e w' ⟨rfl, rfl⟩; rw [HF.out]))
    rw [HV.out]
    exact bodyPost_ret (v := .tuple #[.agg #[.int .i64 x0, .int .i64 x1, .int .i64 x2, .int .i64 x3], .bool true]) (by simp [results, Try.results41, go_sem]) rfl ⟨rfl, (Below.refl _ _).alloc (Nat.le_refl _) _⟩
theorem new_any (n : Int) (w : World) :
    Calls Try.prog 21 #[.int .i64 n] w fun e w' => e = .returned (.pointer (some ⟨w.heap.size, 0, none⟩)) ∧ Below w.heap.size w w' ∧ w.heap.size < w'.heap.size ∧ ArAt (fun k => k = w.heap.size) w.heap.size w' (roomN n) emptyS := by
  have hlt : ∀ T, w.heap.size < (w.alloc (.cells #[.int .i64 ((roomN n : Nat) : Int), .slice none 0 0, .int .i64 0, .int .i64 0] T)).heap.size := fun T => by simp
  have HA : Hid (∀ T, Below w.heap.size w (w.alloc (.cells #[.int .i64 ((roomN n : Nat) : Int), .slice none 0 0, .int .i64 0, .int .i64 0] T)) ∧ w.heap.size < (w.alloc (.cells #[.int .i64 ((roomN n : Nat) : Int), .slice none 0 0, .int .i64 0, .int .i64 0] T)).heap.size ∧
      ArAt (fun k => k = w.heap.size) w.heap.size (w.alloc (.cells #[.int .i64 ((roomN n : Nat) : Int), .slice none 0 0, .int .i64 0, .int .i64 0] T)) (roomN n) emptyS) :=
    Lib.hid fun T => ⟨(Below.refl _ w).alloc (Nat.le_refl _) _, hlt T, arAt_new w _ (roomN_le n) T⟩
  clear hlt
  by_cases a : n < 0
  · have e : roomN n = 0 := by unfold roomN; omega
    rw [e] at HA ⊢
    have a1 : n ≤ 0 := by omega
    have a2 : ¬ n > 0 := by omega
    have a3 : ¬ 0 < n := by omega
    go_enter Try.func21, Try.ntmps21
    go_wp2
    go_ret
    exact ⟨rfl, HA.out _⟩
  · obtain ⟨k, rfl⟩ := Int.eq_ofNat_of_zero_le (by omega : 0 ≤ n)
    by_cases b : k < 1048576
    · have e : roomN (k : Int) = k := by unfold roomN; omega
      rw [e] at HA ⊢
      by_cases c : k = 0
      · subst c
        go_enter Try.func21, Try.ntmps21
        go_wp2
        go_ret
        exact ⟨rfl, HA.out _⟩
      have a1 : ¬ (k : Int) ≤ 0 := by omega
      have a3 : 0 < (k : Int) := by omega
      have b1 : (k : Int) < 1048576 := by omega
      have b2 : (k : Int) ≤ 1048576 := by omega
      have b3 : ¬ (1048576 : Int) < (k : Int) := by omega
      have b4 : ¬ (1048576 : Int) ≤ (k : Int) := by omega
      have a4 : (0 : Int) ≤ (k : Int) := by omega
      go_enter Try.func21, Try.ntmps21
      go_wp2
      go_ret
      exact ⟨rfl, HA.out _⟩
    · have e : roomN (k : Int) = 1048576 := by unfold roomN; omega
      rw [e] at HA ⊢
      by_cases c : k = 1048576
      · subst c
        go_enter Try.func21, Try.ntmps21
        go_wp2
        go_ret
        exact ⟨rfl, HA.out _⟩
      have a1 : ¬ (k : Int) ≤ 0 := by omega
      have a3 : 0 < (k : Int) := by omega
      have b1 : ¬ (k : Int) < 1048576 := by omega
      have b2 : ¬ (k : Int) ≤ 1048576 := by omega
      have b3 : (1048576 : Int) < (k : Int) := by omega
      have b4 : (1048576 : Int) ≤ (k : Int) := by omega
      have a4 : (0 : Int) ≤ (k : Int) := by omega
      go_enter Try.func21, Try.ntmps21
      go_wp2
      go_ret
      exact ⟨rfl, HA.out _⟩
end Go.Proofs.Ytndljbkjcgfdcaa
