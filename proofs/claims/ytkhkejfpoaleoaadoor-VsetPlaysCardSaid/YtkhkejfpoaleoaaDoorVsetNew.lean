/- A new set is empty and has the room that was asked for, as far as there may be any; Len counts what is in a set. -/
import Derived.Test.YtkhkejfpoaleoaaDoorVsetMem
namespace Go.Proofs.YtkhkejfpoaleoaaDoor
open Go.RowKit Go.ChangeShapes VsetPure
/-- The room that is made where n is asked for. -/
def roomN (n : Int) : Nat := (min (max n 0) 4096).toNat
theorem roomN_le (n : Int) : roomN n ≤ 4096 := by unfold roomN; omega
theorem roomN_of (n : Nat) (h : n ≤ 4096) : roomN (n : Int) = n := by unfold roomN; omega
theorem make_words (k : Nat) (hk : k ≤ 1000000) (w : World) :
    (Instr.makeSlice 49 (.int .i64 (k : Int)) (.int .i64 (k : Int))).run Tryd.prog w = .ok (.slice (some ⟨w.heap.size, 0, none⟩) k k) (w.alloc (.cells (madeCells #[.int .u64 0] k) 53)) :=
  makeRow Tryd.underlying49 (z := .int .u64 0) (c := 8) (by kernel_rfl) (by omega) rfl k hk w
def noneP (_ : Nat) : Bool := false
theorem bit_noughts (k : Nat) : bitOf (List.replicate k 0) = noneP := by
  funext v
  unfold bitOf noneP
  rw [List.getD_eq_getElem?_getD, List.getElem?_replicate]
  split <;> simp
theorem set_new (w : World) (n : Nat) (hn : n ≤ 4096) (k : Nat) (hk : k = (n + 63) / 64) (T T' : TypeId) :
    SetAt (w.heap.size + 1) w.heap.size ((w.alloc (.cells (madeCells #[.int .u64 0] k) T)).alloc (.cells #[.int .i64 (n : Int), .slice (some ⟨w.heap.size, 0, none⟩) k k] T')) n noneP := by
  refine ⟨hn, by omega, by simp; omega, fun _ _ => rfl, List.replicate k 0, ?_, by simpa using hk, (bit_noughts k).symm, ?_, ?_⟩
  · intro x hx
    rw [List.eq_of_mem_replicate hx]; decide
  · rw [List.length_replicate]
    have := TwoAt.new (w.alloc (.cells (madeCells #[.int .u64 0] k) T)) (.int .i64 (n : Int)) (.slice (some ⟨w.heap.size, 0, none⟩) k k) T'
    rwa [World.size_alloc] at this
  · have h1 := rowIs_made w (.int .u64 0) k T
    have h2 := h1.on (M := w.heap.size + 1) ((Below.refl _ (w.alloc (.cells (madeCells #[.int .u64 0] k) T))).alloc (by simp) (.cells #[.int .i64 (n : Int), .slice (some ⟨w.heap.size, 0, none⟩) k k] T')) (by omega)
    rw [List.map_replicate]
    exact h2
theorem new_any (n : Int) (h0 : -9223372036854775808 ≤ n) (h1 : n ≤ 9223372036854775807) (w : World) :
    Calls Tryd.prog 7 #[.int .i64 n] w fun e w' => e = .returned (.pointer (some ⟨w.heap.size + 1, 0, none⟩)) ∧ Below w.heap.size w w' ∧ SetAt (w.heap.size + 1) w.heap.size w' (roomN n) noneP := by
  obtain ⟨m, hm⟩ : ∃ m, m = roomN n := ⟨_, rfl⟩
  have hm4 := roomN_le n
  rw [← hm] at hm4 ⊢
  have hk := make_words ((m + 63) / 64) (by omega) w
  have hB : ∀ T T', Below w.heap.size w ((w.alloc (.cells (madeCells #[.int .u64 0] ((m + 63) / 64)) T)).alloc (.cells #[.int .i64 (m : Int), .slice (some ⟨w.heap.size, 0, none⟩) ((m + 63) / 64) ((m + 63) / 64)] T')) := fun T T' => ((Below.refl _ w).alloc (Nat.le_refl _) _).alloc (by simp) _
  have HB := Lib.hid hB
  have HS := Lib.hid (fun T T' => set_new w m hm4 ((m + 63) / 64) rfl T T')
  clear hB
  by_cases a : n < 0
  · have hz : m = 0 := by rw [hm]; unfold roomN; omega
    clear hm hm4
    subst hz
    have hk' : (Instr.makeSlice 49 (.int .i64 0) (.int .i64 0)).run Tryd.prog w = .ok (.slice (some ⟨w.heap.size, 0, none⟩) 0 0) (w.alloc (.cells (madeCells #[.int .u64 0] 0) 53)) := hk
    clear hk
    have a1 : max n 0 = 0 := by omega
    go_enter Tryd.func7, Tryd.ntmps7
    go_wp2
    go_ret
    exact ⟨rfl, HB.out _ _, HS.out _ _⟩
  · by_cases b : 4096 < n
    · have hz : m = 4096 := by rw [hm]; unfold roomN; omega
      clear hm hm4
      subst hz
      have hk' : (Instr.makeSlice 49 (.int .i64 64) (.int .i64 64)).run Tryd.prog w = .ok (.slice (some ⟨w.heap.size, 0, none⟩) 64 64) (w.alloc (.cells (madeCells #[.int .u64 0] 64) 53)) := hk
      clear hk
      have a1 : ¬ max n 0 < 4096 := by omega
      go_enter Tryd.func7, Tryd.ntmps7
      go_wp2
      go_ret
      exact ⟨rfl, HB.out _ _, HS.out _ _⟩
    · have hz : n = (m : Int) := by rw [hm]; unfold roomN; omega
      clear hm hm4
      subst hz
      rw [show (((m + 63) / 64 : Nat) : Int) = ((m : Int) + 64 - 1) / 64 by omega] at hk
      go_enter Tryd.func7, Tryd.ntmps7
      go_wp2
      go_ret
      exact ⟨rfl, HB.out _ _, HS.out _ _⟩
theorem len_nil (w : World) :
    Calls Tryd.prog 25 #[.pointer none] w fun e w' => e = .returned (.int .i64 0) ∧ w = w' := by
  go_enter Tryd.func25, Tryd.ntmps25
  go_wp2
  go_ret
  exact ⟨rfl, rfl⟩
theorem cnt_next (ws : List Nat) (k : Nat) : (listP (bitOf ws) (64 * (k + 1))).length = (listP (bitOf ws) (64 * k)).length + cnt (ws.getD k 0) := by
  rw [words_next, List.length_append, List.length_map]; rfl
theorem len_any (b g n : Nat) (p : Nat → Bool) (w : World) (h : SetAt b g w n p) :
    Calls Tryd.prog 25 #[.pointer (some ⟨b, 0, none⟩)] w fun e w' => e = .returned (.int .i64 ((listP p n).length : Int)) ∧ w = w' := by
  obtain ⟨a1, a2, a3, a4, ws, hw, hlen, hp, ht, hr⟩ := h
  have hend : Hid (listP p n = listP (bitOf ws) (64 * ws.length)) := Lib.hid (by rw [← hp]; exact (listP_past (by omega) a4).symm)
  have c1 := ht.2.1
  have hl64 : ws.length ≤ 64 := by omega
  have HW := Lib.hid hw
  have HR := Lib.hid hr
  clear a2 a3 a4 hp ht hr hlen hw a1
  go_enter Tryd.func25, Tryd.ntmps25
  go_wp2
  go_loopw [3, 13] (fun c i wr => ∃ k : Nat, k ≤ ws.length ∧ i = .int .i64 k ∧ c = .int .i64 ((listP (bitOf ws) (64 * k)).length : Int) ∧ w = wr) (fun _ i _ => ws.length - (intOf i).toNat)
  case atStart => exact ⟨0, Nat.zero_le _, rfl, rfl, rfl⟩
  case round =>
    obtain ⟨k, hk, rfl, rfl, rfl⟩ := hrel
    have i0 : (0 : Int) ≤ (k : Int) := by omega
    by_cases hlt : k < ws.length
    · have i1 : (k : Int) < (ws.length : Int) := by omega
      have c2 := (HR.out k (by rw [List.length_map]; exact hlt)).1
      rw [List.getElem_map] at c2
      have e : ws[k] = ws.getD k 0 := by rw [List.getD_eq_getElem?_getD, List.getElem?_eq_getElem hlt]; rfl
      rw [e] at c2
      unfold encW at c2
      have hx := HW.out.at k
      have hb1 := listP_len (bitOf ws) (64 * k)
      have hb2 := cnt_le (ws.getD k 0)
      have hN := Lib.hid (cnt_next ws k)
      clear e
      generalize ws.getD k 0 = x at *
      generalize (listP (bitOf ws) (64 * k)).length = c at *
      go_wp2_with (first | (go_at_call 31; refine (pop_any x hx _).mono ?_; rintro e w' ⟨rfl, rfl⟩))
      go_roundw
      case rel => exact ⟨k + 1, by omega, by go_num, by rw [hN.out]; go_num, trivial⟩
      case measure => (simp [intOf] <;> omega)
    · have hke : k = ws.length := by omega
      subst hke
      go_wp2
      go_ret
      exact ⟨ret_i (by rw [hend.out]), rfl⟩
end Go.Proofs.YtkhkejfpoaleoaaDoor
