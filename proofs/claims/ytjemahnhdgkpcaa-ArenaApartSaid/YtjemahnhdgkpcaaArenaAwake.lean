/- The law's awake of layer 11: two cells given, no third one, the first one freed. -/
import Derived.Test.YtjemahnhdgkpcaaArenaLive
namespace Go.Proofs.Ytjemahnhdgkpcaa
open Go.RowKit Go.ChangeShapes ArenaPure
/-- An arena that lies in memory that was made. -/
def HasAt (w : World) (b N : Nat) (S : St) (W : World) : Prop := Below w.heap.size w W ∧ w.heap.size ≤ b ∧ ∃ O, ArAt O b W N S
section
variable {w W W' : World} {b N : Nat} {S : St}
theorem HasAt.turn {O O' : Nat → Prop} {S' : St} (h : HasAt w b N S W) (ha : ArAt O b W N S) (ht : Turn O W W') (ha' : ArAt O' b W' N S') : HasAt w b N S' W' :=
  ⟨h.1.trans (ht.below h.1.size (fun k e => Nat.le_trans h.2.1 (ha.lt k e).1)), h.2.1, O', ha'⟩
theorem HasAt.keep (h : HasAt w b N S W) (hb : Below W.heap.size W W') : HasAt w b N S W' := by
  obtain ⟨O, ha⟩ := h.2.2
  exact ⟨h.1.trans (hb.mono h.1.size), h.2.1, O, ha.keep hb⟩
end
theorem give_has (w : World) (b N : Nat) (S : St) (x : Int) (W : World) (h : HasAt w b N S W) :
    Calls Try.prog 8 #[.pointer (some ⟨b, 0, none⟩), .int .i64 x] W fun e W' => e = .returned (.tuple #[.int .i64 (giveN N S), .bool (giveB N S)]) ∧ HasAt w b N (giveS N S x) W' := by
  obtain ⟨O, ha⟩ := h.2.2
  refine (give_any O b N S x W ha).mono ?_
  rintro e W' ⟨rfl, ht, O', -, ha'⟩
  exact ⟨rfl, h.turn ha ht ha'⟩
theorem free_has (w : World) (b N : Nat) (S : St) (n : Int) (W : World) (h : HasAt w b N S W) :
    Calls Try.prog 10 #[.pointer (some ⟨b, 0, none⟩), .int .i64 n] W fun e W' => e = .returned (.tuple #[.int .i64 (atV S n), .bool (hasB S n)]) ∧ HasAt w b N (freeS S n) W' := by
  obtain ⟨O, ha⟩ := h.2.2
  refine (free_any O b N S n W ha).mono ?_
  rintro e W' ⟨rfl, ht, ha'⟩
  exact ⟨rfl, h.turn ha ht ha'⟩
theorem len_has (w : World) (b N : Nat) (S : St) (W : World) (h : HasAt w b N S W) :
    Calls Try.prog 17 #[.pointer (some ⟨b, 0, none⟩)] W fun e W' => e = .returned (.int .i64 (liveN S : Int)) ∧ W = W' := by
  obtain ⟨O, ha⟩ := h.2.2
  exact len_any O b N S W ha
set_option maxHeartbeats 2000000 in
theorem awake_any (w : World) :
    Calls Try.prog 5 #[] w fun e w' => e = .returned (.bool true) ∧ Below w.heap.size w w' := by
  go_enter Try.func5, Try.ntmps5
  go_wp2_with fail
  refine (new_any 2 w).mono ?_
  rintro e w1 ⟨rfl, hb1, -, ha1⟩
  have HC1 : Hid (HasAt w w.heap.size 2 emptyS w1) := Lib.hid ⟨hb1, Nat.le_refl _, _, ha1⟩
  clear hb1 ha1
  generalize w.heap.size = b at *
  go_wp2_with fail
  refine (give_has w b 2 emptyS 7 w1 HC1.out).mono ?_
  rintro e w2 ⟨rfl, h2⟩
  have HC2 : Hid (HasAt w b 2 ⟨[7], [true], []⟩ w2) := Lib.hid h2
  rw [show giveN 2 emptyS = 0 from rfl, show giveB 2 emptyS = true from rfl]
  clear h2 HC1
  go_wp2_with fail
  refine (give_has w b 2 ⟨[7], [true], []⟩ 8 w2 HC2.out).mono ?_
  rintro e w3 ⟨rfl, h3⟩
  have HC3 : Hid (HasAt w b 2 ⟨[7, 8], [true, true], []⟩ w3) := Lib.hid h3
  rw [show giveN 2 ⟨[7], [true], []⟩ = 1 from rfl, show giveB 2 ⟨[7], [true], []⟩ = true from rfl]
  clear h3 HC2
  go_wp2_with fail
  refine (give_has w b 2 ⟨[7, 8], [true, true], []⟩ 9 w3 HC3.out).mono ?_
  rintro e w4 ⟨rfl, h4⟩
  have HC4 : Hid (HasAt w b 2 ⟨[7, 8], [true, true], []⟩ w4) := Lib.hid h4
  rw [show giveN 2 ⟨[7, 8], [true, true], []⟩ = 0 from rfl, show giveB 2 ⟨[7, 8], [true, true], []⟩ = false from rfl]
  clear h4 HC3
  go_wp2_with fail
  refine (free_has w b 2 ⟨[7, 8], [true, true], []⟩ 0 w4 HC4.out).mono ?_
  rintro e w5 ⟨rfl, h5⟩
  have HC5 : Hid (HasAt w b 2 ⟨[7, 8], [false, true], [0]⟩ w5) := Lib.hid h5
  rw [show atV ⟨[7, 8], [true, true], []⟩ 0 = 7 from rfl, show hasB ⟨[7, 8], [true, true], []⟩ 0 = true from rfl]
  clear h5 HC4
  go_wp2_with fail
  refine (len_has w b 2 ⟨[7, 8], [false, true], [0]⟩ w5 HC5.out).mono ?_
  rintro e w6 ⟨rfl, rfl⟩
  rw [show liveN ⟨[7, 8], [false, true], [0]⟩ = 1 from rfl]
  go_wp2
  go_ret
  exact ⟨rfl, HC5.out.1⟩
end Go.Proofs.Ytjemahnhdgkpcaa
