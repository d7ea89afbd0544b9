/- Texts that the laws of this seat stand on, part 4. -/
import Derived.Test.YtbankocbncpepaaPk3
/- A new set is empty and has the room that was asked for (beside net). -/
namespace Go.Proofs.Ytbankocbncpepaa.Vs
open Go.RowKit Go.ChangeShapes VsetPure
/-- The room that is made where n is asked for. -/
def roomN (n : Int) : Nat := (min (max n 0) 4096).toNat
theorem roomN_le (n : Int) : roomN n ≤ 4096 := by unfold roomN; omega
theorem roomN_of (n : Nat) (h : n ≤ 4096) : roomN (n : Int) = n := by unfold roomN; omega
theorem make_words (k : Nat) (hk : k ≤ 1000000) (w : World) :
    (Instr.makeSlice 129 (.int .i64 (k : Int)) (.int .i64 (k : Int))).run Try.prog w = .ok (.slice (some ⟨w.heap.size, 0, none⟩) k k) (w.alloc (.cells (madeCells #[.int .u64 0] k) 127)) :=
  makeRow Try.underlying129 (z := .int .u64 0) (c := 8) (by kernel_rfl) (by omega) rfl k hk w
def noneP (_ : Nat) : Bool := false
theorem bit_noughts (k : Nat) : bitOf (List.replicate k 0) = noneP := by
  funext v
  unfold bitOf noneP
  rw [List.getD_eq_getElem?_getD, List.getElem?_replicate]
  split <;> simp
theorem set_new (w : World) (n : Nat) (hn : n ≤ 4096) (k : Nat) (hk : k = (n + 63) / 64) (T T' : TypeId) :
    SetAt (w.heap.size + 1) w.heap.size ((w.alloc (.cells (madeCells #[.int .u64 0] k) T)).alloc (.cells #[.int .i64 (n : Int), .slice (some ⟨w.heap.size, 0, none⟩) k k] T')) n noneP := by
  refine ⟨hn, by omega, by simp; omega, fun _ _ => rfl, List.replicate k 0, ?_, by simpa using hk, (bit_noughts k).symm, ?_, ?_⟩
  · intro x hx
    rw [List.eq_of_mem_replicate hx]; decide
  · rw [List.length_replicate]
    have := TwoAt.new (w.alloc (.cells (madeCells #[.int .u64 0] k) T)) (.int .i64 (n : Int)) (.slice (some ⟨w.heap.size, 0, none⟩) k k) T'
    rwa [World.size_alloc] at this
  · have h1 := rowIs_made w (.int .u64 0) k T
    have h2 := h1.on (M := w.heap.size + 1) ((Below.refl _ (w.alloc (.cells (madeCells #[.int .u64 0] k) T))).alloc (by simp) (.cells #[.int .i64 (n : Int), .slice (some ⟨w.heap.size, 0, none⟩) k k] T')) (by omega)
    rw [List.map_replicate]
    exact h2
theorem new_any (n : Int) (h0 : -9223372036854775808 ≤ n) (h1 : n ≤ 9223372036854775807) (w : World) :
    Calls Try.prog 59 #[.int .i64 n] w fun e w' => e = .returned (.pointer (some ⟨w.heap.size + 1, 0, none⟩)) ∧ Below w.heap.size w w' ∧ SetAt (w.heap.size + 1) w.heap.size w' (roomN n) noneP := by
  obtain ⟨m, hm⟩ : ∃ m, m = roomN n := ⟨_, rfl⟩
  have hm4 := roomN_le n
  rw [← hm] at hm4 ⊢
  have hk := make_words ((m + 63) / 64) (by omega) w
  have hB : ∀ T T', Below w.heap.size w ((w.alloc (.cells (madeCells #[.int .u64 0] ((m + 63) / 64)) T)).alloc (.cells #[.int .i64 (m : Int), .slice (some ⟨w.heap.size, 0, none⟩) ((m + 63) / 64) ((m + 63) / 64)] T')) := fun T T' => ((Below.refl _ w).alloc (Nat.le_refl _) _).alloc (by simp) _
  have HB := Lib.hid hB
  have HS := Lib.hid (fun T T' => set_new w m hm4 ((m + 63) / 64) rfl T T')
  clear hB
  by_cases a : n < 0
  · have hz : m = 0 := by rw [hm]; unfold roomN; omega
    clear hm hm4
    subst hz
    have hk' : (Instr.makeSlice 129 (.int .i64 0) (.int .i64 0)).run Try.prog w = .ok (.slice (some ⟨w.heap.size, 0, none⟩) 0 0) (w.alloc (.cells (madeCells #[.int .u64 0] 0) 127)) := hk
    clear hk
    have a1 : max n 0 = 0 := by omega
    go_enter Try.func59, Try.ntmps59
    go_wp2
    go_ret
    exact ⟨rfl, HB.out _ _, HS.out _ _⟩
  · by_cases b : 4096 < n
    · have hz : m = 4096 := by rw [hm]; unfold roomN; omega
      clear hm hm4
      subst hz
      have hk' : (Instr.makeSlice 129 (.int .i64 64) (.int .i64 64)).run Try.prog w = .ok (.slice (some ⟨w.heap.size, 0, none⟩) 64 64) (w.alloc (.cells (madeCells #[.int .u64 0] 64) 127)) := hk
      clear hk
      have a1 : ¬ max n 0 < 4096 := by omega
      go_enter Try.func59, Try.ntmps59
      go_wp2
      go_ret
      exact ⟨rfl, HB.out _ _, HS.out _ _⟩
    · have hz : n = (m : Int) := by rw [hm]; unfold roomN; omega
      clear hm hm4
      subst hz
      rw [show (((m + 63) / 64 : Nat) : Int) = ((m : Int) + 64 - 1) / 64 by omega] at hk
      go_enter Try.func59, Try.ntmps59
      go_wp2
      go_ret
      exact ⟨rfl, HB.out _ _, HS.out _ _⟩
end Go.Proofs.Ytbankocbncpepaa.Vs
/- The set of a list: those of its numbers for which there is room (beside net). -/
namespace Go.Proofs.Ytbankocbncpepaa.Vs
open Go.RowKit Go.ChangeShapes VsetPure
/-- What is in the set of a list. -/
def ofP (m : Nat) (l : List Int) (u : Nat) : Bool := l.any fun v => fitB m v && decide ((u : Int) = v)
theorem ofP_nil (m : Nat) : ofP m [] = noneP := rfl
theorem ofP_next (m : Nat) (l : List Int) {k : Nat} (hk : k < l.length) : ofP m (l.take (k + 1)) = putP m (ofP m (l.take k)) l[k] := by
  funext u
  unfold ofP putP
  rw [take_snoc l k hk, List.any_append]
  simp
theorem ofP_none (m : Nat) (l : List Int) (v : Nat) (hv : m ≤ v) : ofP m l v = false := by
  unfold ofP
  rw [List.any_eq_false]
  intro x _ h
  simp [fitB] at h
  omega
def OfRel (bo go m : Nat) (l : List Int) (w0 : World) (k : Nat) (w : World) : Prop := k ≤ l.length ∧ Below w0.heap.size w0 w ∧ SetAt bo go w m (ofP m (l.take k))
theorem of_any (n : Int) (h0 : -9223372036854775808 ≤ n) (h1 : n ≤ 9223372036854775807) (a : Option Addr) (cap : Nat) (l : List Int) (w : World) (hl : ReadsL (encInt .i64) w.heap.size w a l) (hm : l.length ≤ 100000) :
    Calls Try.prog 42 #[.int .i64 n, .slice a l.length cap] w fun e w' => e = .returned (.pointer (some ⟨w.heap.size + 1, 0, none⟩)) ∧ Below w.heap.size w w' ∧ SetAt (w.heap.size + 1) w.heap.size w' (roomN n) (ofP (roomN n) l) := by
  have HL := Lib.hid hl
  clear hl
  go_enter Try.func42, Try.ntmps42
  go_wp2_with (first | (go_at_call 59; refine (new_any n h0 h1 w).mono ?_; rintro e w1 ⟨rfl, hb1, hs1⟩))
  have HS : Hid (OfRel (w.heap.size + 1) w.heap.size (roomN n) l w 0 w1) := Lib.hid ⟨Nat.zero_le _, hb1, by rw [List.take_zero, ofP_nil]; exact hs1⟩
  clear hb1 hs1
  have HN : Hid (w.heap.size ≤ w.heap.size) := Lib.hid (Nat.le_refl _)
  go_loopw [12] (fun i wr => ∃ k : Nat, i = .int .i64 k ∧ Hid (OfRel (w.heap.size + 1) w.heap.size (roomN n) l w k wr)) (fun i _ => l.length - (intOf i).toNat)
  case atStart => exact ⟨0, rfl, HS⟩
  case round =>
    obtain ⟨k, rfl, HK⟩ := hrel
    have hk := HK.out.1
    have i0 : (0 : Int) ≤ (k : Int) := by omega
    by_cases hlt : k < l.length
    · have i1 : (k : Int) < (l.length : Int) := by omega
      obtain ⟨b, off, rfl, hbN, c0⟩ := HL.out.at hlt
      have d1 := (HK.out.2.1.cell (p := ⟨b, off + k, none⟩) hbN).trans c0
      unfold encInt at d1
      have HX := Lib.hid (ofP_next (roomN n) l hlt)
      have HK2 := HK.out
      obtain ⟨-, hbel, hset⟩ := HK2
      have HB := Lib.hid hbel
      have HSet := Lib.hid hset
      clear hbel hset c0
      generalize l[k] = x at *
      go_wp2_with (first | (go_at_call 60; refine (put_any _ _ _ _ x _ HSet.out).mono ?_; rintro e w2 ⟨rfl, hg2, hs2⟩; have HG2 := Lib.hid hg2; have HS2 := Lib.hid hs2; clear hg2 hs2))
      go_roundw
      case rel => exact ⟨k + 1, by go_num, Lib.hid ⟨hlt, HB.out.trans (below_grown HG2.out (Nat.le_refl _) HB.out.size), by rw [HX.out]; exact HS2.out⟩⟩
      case measure => (simp [intOf] <;> omega)
    · have hke : k = l.length := by omega
      have hfin := HK.out.2
      rw [hke, List.take_length] at hfin
      have HF := Lib.hid hfin
      clear hfin
      go_wp2
      go_ret
      exact ⟨rfl, HF.out.1, HF.out.2⟩
end Go.Proofs.Ytbankocbncpepaa.Vs
/- Which vertices a set parts (beside net). -/
namespace Go.Proofs.Ytbankocbncpepaa.Vs
open Go.RowKit Go.ChangeShapes VsetPure
def partsP (n : Nat) (p : Nat → Bool) (u v : Int) : Bool := fitB n u && fitB n v && (p u.toNat != p v.toNat)
theorem parts_nil (u v : Int) (w : World) :
    Calls Try.prog 46 #[.pointer none, .int .i64 u, .int .i64 v] w fun e w' => e = .returned (.bool false) ∧ w = w' := by
  go_enter Try.func46, Try.ntmps46
  go_wp2_with (first | (go_at_call 62; refine (fits_nil _ _).mono ?_; rintro e w' ⟨rfl, rfl⟩))
  go_ret
  exact ⟨rfl, rfl⟩
theorem parts_any (b g n : Nat) (p : Nat → Bool) (u v : Int) (w : World) (h : SetAt b g w n p) :
    Calls Try.prog 46 #[.pointer (some ⟨b, 0, none⟩), .int .i64 u, .int .i64 v] w fun e w' => e = .returned (.bool (partsP n p u v)) ∧ ∃ k, w' = w.drewN k := by
  have hc : w.cell? ⟨b, 0, none⟩ = some (.int .i64 (n : Int)) := by obtain ⟨ws, -, -, -, t, -⟩ := h.2.2.2.2; exact t.1
  have HC := Lib.hid hc
  have HS := Lib.hid h
  have HP := Lib.hid (show partsP n p u v = (fitB n u && fitB n v && (p u.toNat != p v.toNat)) from rfl)
  clear hc h
  cases hu : fitB n u
  · have HU := Lib.hid hu
    have HR : Hid (partsP n p u v = false) := Lib.hid (by rw [HP.out, HU.out]; rfl)
    clear hu
    go_enter Try.func46, Try.ntmps46
    go_wp2_with (first | (go_at_call 62; refine (fits_any b n u _ HC.out).mono ?_; rintro e w' ⟨rfl, rfl⟩; rw [HU.out]))
    go_ret
    exact ⟨bool_ret HR.out.symm, 0, rfl⟩
  · have HU := Lib.hid hu
    clear hu
    cases hv : fitB n v
    · have HV := Lib.hid hv
      have HR : Hid (partsP n p u v = false) := Lib.hid (by rw [HP.out, HU.out, HV.out]; rfl)
      clear hv
      go_enter Try.func46, Try.ntmps46
      go_wp2_with fail
      refine (fits_any b n u _ HC.out).mono ?_
      rintro e w' ⟨rfl, rfl⟩
      rw [HU.out]
      go_wp2_with fail
      refine (fits_any b n v _ HC.out).mono ?_
      rintro e w' ⟨rfl, rfl⟩
      rw [HV.out]
      go_wp2
      go_ret
      exact ⟨bool_ret HR.out.symm, 0, rfl⟩
    · have HV := Lib.hid hv
      have HR : Hid (partsP n p u v = (p u.toNat != p v.toNat)) := Lib.hid (by rw [HP.out, HU.out, HV.out]; rfl)
      clear hv
      go_enter Try.func46, Try.ntmps46
      go_wp2_with fail
      refine (fits_any b n u _ HC.out).mono ?_
      rintro e w' ⟨rfl, rfl⟩
      rw [HU.out]
      go_wp2_with fail
      refine (fits_any b n v _ HC.out).mono ?_
      rintro e w' ⟨rfl, rfl⟩
      rw [HV.out]
      go_wp2_with fail
      refine (has_any b g n p u _ HS.out).mono ?_
      rintro e w' ⟨rfl, m, rfl⟩
      rw [HU.out, Bool.true_and]
      go_wp2_with fail
      refine (has_any b g n p v _ (HS.out.drawn m)).mono ?_
      rintro e w' ⟨rfl, m', rfl⟩
      rw [HV.out, Bool.true_and]
      go_wp2
      go_ret
      exact ⟨bool_ret HR.out.symm, _, rfl⟩
end Go.Proofs.Ytbankocbncpepaa.Vs
