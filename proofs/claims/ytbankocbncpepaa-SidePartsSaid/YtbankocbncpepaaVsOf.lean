/- The set of a list: those of its numbers for which there is room (beside net). -/
import Derived.Test.YtbankocbncpepaaVsNew
namespace Go.Proofs.Ytbankocbncpepaa.Vs
open Go.RowKit Go.ChangeShapes VsetPure
/-- What is in the set of a list. -/
def ofP (m : Nat) (l : List Int) (u : Nat) : Bool := l.any fun v => fitB m v && decide ((u : Int) = v)
theorem ofP_nil (m : Nat) : ofP m [] = noneP := rfl
theorem ofP_next (m : Nat) (l : List Int) {k : Nat} (hk : k < l.length) : ofP m (l.take (k + 1)) = putP m (ofP m (l.take k)) l[k] := by
  funext u
  unfold ofP putP
  rw [take_snoc l k hk, List.any_append]
  simp
theorem ofP_none (m : Nat) (l : List Int) (v : Nat) (hv : m ≤ v) : ofP m l v = false := by
  unfold ofP
  rw [List.any_eq_false]
  intro x _ h
  simp [fitB] at h
  omega
def OfRel (bo go m : Nat) (l : List Int) (w0 : World) (k : Nat) (w : World) : Prop := k ≤ l.length ∧ Below w0.heap.size w0 w ∧ SetAt bo go w m (ofP m (l.take k))
theorem of_any (n : Int) (h0 : -9223372036854775808 ≤ n) (h1 : n ≤ 9223372036854775807) (a : Option Addr) (cap : Nat) (l : List Int) (w : World) (hl : ReadsL (encInt .i64) w.heap.size w a l) (hm : l.length ≤ 100000) :
    Calls Try.prog 42 #[.int .i64 n, .slice a l.length cap] w fun e w' => e = .returned (.pointer (some ⟨w.heap.size + 1, 0, none⟩)) ∧ Below w.heap.size w w' ∧ SetAt (w.heap.size + 1) w.heap.size w' (roomN n) (ofP (roomN n) l) := by
  have HL := Lib.hid hl
  clear hl
  go_enter Try.func42, Try.ntmps42
  go_wp2_with (first | (go_at_call 59; refine (new_any n h0 h1 w).mono ?_; rintro e w1 ⟨rfl, hb1, hs1⟩))
  have HS : Hid (OfRel (w.heap.size + 1) w.heap.size (roomN n) l w 0 w1) := Lib.hid ⟨Nat.zero_le _, hb1, by rw [List.take_zero, ofP_nil]; exact hs1⟩
  clear hb1 hs1
  have HN : Hid (w.heap.size ≤ w.heap.size) := Lib.hid (Nat.le_refl _)
  go_loopw [12] (fun i wr => ∃ k : Nat, i = .int .i64 k ∧ Hid (OfRel (w.heap.size + 1) w.heap.size (roomN n) l w k wr)) (fun i _ => l.length - (intOf i).toNat)
  case atStart => exact ⟨0, rfl, HS⟩
  case round =>
    obtain ⟨k, rfl, HK⟩ := hrel
    have hk := HK.out.1
    have i0 : (0 : Int) ≤ (k : Int) := by omega
    by_cases hlt : k < l.length
    · have i1 : (k : Int) < (l.length : Int) := by omega
      obtain ⟨b, off, rfl, hbN, c0⟩ := HL.out.at hlt
      have d1 := (HK.out.2.1.cell (p := ⟨b, off + k, none⟩) hbN).trans c0
      unfold encInt at d1
      have HX := Lib.hid (ofP_next (roomN n) l hlt)
      have HK2 := HK.out
      obtain ⟨-, hbel, hset⟩ := HK2
      have HB := Lib.hid hbel
      have HSet := Lib.hid hset
      clear hbel hset c0
      generalize l[k] = x at *
      go_wp2_with (first | (go_at_call 60; refine (put_any _ _ _ _ x _ HSet.out).mono ?_; rintro e w2 ⟨rfl, hg2, hs2⟩; have HG2 := Lib.hid hg2; have HS2 := Lib.hid hs2; clear hg2 hs2))
      go_roundw
      case rel => exact ⟨k + 1, by go_num, Lib.hid ⟨hlt, HB.out.trans (below_grown HG2.out (Nat.le_refl _) HB.out.size), by rw [HX.out]; exact HS2.out⟩⟩
      case measure => (simp [intOf] <;> omega)
    · have hke : k = l.length := by omega
      have hfin := HK.out.2
      rw [hke, List.take_length] at hfin
      have HF := Lib.hid hfin
      clear hfin
      go_wp2
      go_ret
      exact ⟨rfl, HF.out.1, HF.out.2⟩
end Go.Proofs.Ytbankocbncpepaa.Vs
