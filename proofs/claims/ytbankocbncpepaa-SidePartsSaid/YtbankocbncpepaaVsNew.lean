/- A new set is empty and has the room that was asked for (beside net). -/
import Derived.Test.YtbankocbncpepaaVsMem
namespace Go.Proofs.Ytbankocbncpepaa.Vs
open Go.RowKit Go.ChangeShapes VsetPure
/-- The room that is made where n is asked for. -/
def roomN (n : Int) : Nat := (min (max n 0) 4096).toNat
theorem roomN_le (n : Int) : roomN n ≤ 4096 := by unfold roomN; omega
theorem roomN_of (n : Nat) (h : n ≤ 4096) : roomN (n : Int) = n := by unfold roomN; omega
theorem make_words (k : Nat) (hk : k ≤ 1000000) (w : World) :
    (Instr.makeSlice 129 (.int .i64 (k : Int)) (.int .i64 (k : Int))).run Try.prog w = .ok (.slice (some ⟨w.heap.size, 0, none⟩) k k) (w.alloc (.cells (madeCells #[.int .u64 0] k) 127)) :=
  makeRow Try.underlying129 (z := .int .u64 0) (c := 8) (by kernel_rfl) (by omega) rfl k hk w
def noneP (_ : Nat) : Bool := false
theorem bit_noughts (k : Nat) : bitOf (List.replicate k 0) = noneP := by
  funext v
  unfold bitOf noneP
  rw [List.getD_eq_getElem?_getD, List.getElem?_replicate]
  split <;> simp
theorem set_new (w : World) (n : Nat) (hn : n ≤ 4096) (k : Nat) (hk : k = (n + 63) / 64) (T T' : TypeId) :
    SetAt (w.heap.size + 1) w.heap.size ((w.alloc (.cells (madeCells #[.int .u64 0] k) T)).alloc (.cells #[.int .i64 (n : Int), .slice (some ⟨w.heap.size, 0, none⟩) k k] T')) n noneP := by
  refine ⟨hn, by omega, by simp; omega, fun _ _ => rfl, List.replicate k 0, ?_, by simpa using hk, (bit_noughts k).symm, ?_, ?_⟩
  · intro x hx
    rw [List.eq_of_mem_replicate hx]; decide
  · rw [List.length_replicate]
    have := TwoAt.new (w.alloc (.cells (madeCells #[.int .u64 0] k) T)) (.int .i64 (n : Int)) (.slice (some ⟨w.heap.size, 0, none⟩) k k) T'
    rwa [World.size_alloc] at this
  · have h1 := rowIs_made w (.int .u64 0) k T
    have h2 := h1.on (M := w.heap.size + 1) ((Below.refl _ (w.alloc (.cells (madeCells #[.int .u64 0] k) T))).alloc (by simp) (.cells #[.int .i64 (n : Int), .slice (some ⟨w.heap.size, 0, none⟩) k k] T')) (by omega)
    rw [List.map_replicate]
    exact h2
theorem new_any (n : Int) (h0 : -9223372036854775808 ≤ n) (h1 : n ≤ 9223372036854775807) (w : World) :
    Calls Try.prog 59 #[.int .i64 n] w fun e w' => e = .returned (.pointer (some ⟨w.heap.size + 1, 0, none⟩)) ∧ Below w.heap.size w w' ∧ SetAt (w.heap.size + 1) w.heap.size w' (roomN n) noneP := by
  obtain ⟨m, hm⟩ : ∃ m, m = roomN n := ⟨_, rfl⟩
  have hm4 := roomN_le n
  rw [← hm] at hm4 ⊢
  have hk := make_words ((m + 63) / 64) (by omega) w
  have hB : ∀ T T', Below w.heap.size w ((w.alloc (.cells (madeCells #[.int .u64 0] ((m + 63) / 64)) T)).alloc (.cells #[.int .i64 (m : Int), .slice (some ⟨w.heap.size, 0, none⟩) ((m + 63) / 64) ((m + 63) / 64)] T')) := fun T T' => ((Below.refl _ w).alloc (Nat.le_refl _) _).alloc (by simp) _
  have HB := Lib.hid hB
  have HS := Lib.hid (fun T T' => set_new w m hm4 ((m + 63) / 64) rfl T T')
  clear hB
  by_cases a : n < 0
  · have hz : m = 0 := by rw [hm]; unfold roomN; omega
    clear hm hm4
    subst hz
    have hk' : (Instr.makeSlice 129 (.int .i64 0) (.int .i64 0)).run Try.prog w = .ok (.slice (some ⟨w.heap.size, 0, none⟩) 0 0) (w.alloc (.cells (madeCells #[.int .u64 0] 0) 127)) := hk
    clear hk
    have a1 : max n 0 = 0 := by omega
    go_enter Try.func59, Try.ntmps59
    go_wp2
    go_ret
    exact ⟨rfl, HB.out _ _, HS.out _ _⟩
  · by_cases b : 4096 < n
    · have hz : m = 4096 := by rw [hm]; unfold roomN; omega
      clear hm hm4
      subst hz
      have hk' : (Instr.makeSlice 129 (.int .i64 64) (.int .i64 64)).run Try.prog w = .ok (.slice (some ⟨w.heap.size, 0, none⟩) 64 64) (w.alloc (.cells (madeCells #[.int .u64 0] 64) 127)) := hk
      clear hk
      have a1 : ¬ max n 0 < 4096 := by omega
      go_enter Try.func59, Try.ntmps59
      go_wp2
      go_ret
      exact ⟨rfl, HB.out _ _, HS.out _ _⟩
    · have hz : n = (m : Int) := by rw [hm]; unfold roomN; omega
      clear hm hm4
      subst hz
      rw [show (((m + 63) / 64 : Nat) : Int) = ((m : Int) + 64 - 1) / 64 by omega] at hk
      go_enter Try.func59, Try.ntmps59
      go_wp2
      go_ret
      exact ⟨rfl, HB.out _ _, HS.out _ _⟩
end Go.Proofs.Ytbankocbncpepaa.Vs
