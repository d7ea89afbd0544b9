/- The document's answers of layer 10, at every argument: whether there is a vertex, what its class is called, how many it has, whether two are in one. -/
import Derived.Test.YtmohfmhkhldhnaaGreatPk6
import Derived.Deep.RegionHeld3
namespace Go.Proofs.YtmohfmhkhldhnaaGreat.Ds
open Go.RowKit Go.ChangeShapes Go.Maps DsuPure
/-- The names, as the document's classes list them. -/
def namesL (n : Nat) (p : Nat → Nat) : List Int := (List.range n).map fun v => (p v : Int)
theorem namesL_len (n : Nat) (p : Nat → Nat) : (namesL n p).length = n := by simp [namesL]
theorem namesL_at {n k : Nat} (p : Nat → Nat) (h : k < (namesL n p).length) : (namesL n p)[k] = (p k : Int) := by simp [namesL]
def RefAt (w : World) (a : Option Addr) (n : Nat) (p : Nat → Nat) : Prop := ReadsL encZ w.heap.size w a (namesL n p)
theorem RefAt.keep {w w' : World} {a : Option Addr} {n : Nat} {p : Nat → Nat} (h : RefAt w a n p) (hb : Below w.heap.size w w') : RefAt w' a n p := ReadsL.over h hb (Nat.le_refl _)
theorem RefAt.at {w : World} {a : Option Addr} {n : Nat} {p : Nat → Nat} (h : RefAt w a n p) {k : Nat} (hk : k < n) : ∃ b off, a = some ⟨b, off, none⟩ ∧ b < w.heap.size ∧ w.cell? ⟨b, off + k, none⟩ = some (.int .i64 (p k : Int)) := by
  obtain ⟨b, off, h1, h2, h3⟩ := ReadsL.at h (k := k) (by rw [namesL_len]; exact hk)
  rw [namesL_at] at h3
  exact ⟨b, off, h1, h2, h3⟩
/-- The document's classes in the variable of a call. -/
def BoxAt (w0 : World) (B : Nat) (a : Option Addr) (n c : Nat) (p : Nat → Nat) (W : World) : Prop :=
  Below w0.heap.size w0 W ∧ B < W.heap.size ∧ W.cell? ⟨B, 0, none⟩ = some (.slice a n c) ∧ RefAt W a n p
theorem BoxAt.keep {w0 W W' : World} {B n c : Nat} {a : Option Addr} {p : Nat → Nat} (h : BoxAt w0 B a n c p W) (hb : Below W.heap.size W W') : BoxAt w0 B a n c p W' := by
  obtain ⟨h1, h2, h3, h4⟩ := h
  exact ⟨h1.trans (hb.mono h1.size), Nat.lt_of_lt_of_le h2 hb.size, (hb.cell (p := ⟨B, 0, none⟩) h2).trans h3, h4.keep hb⟩
theorem BoxAt.start (w : World) (a : Option Addr) (n c : Nat) (p : Nat → Nat) (h : RefAt w a n p) (T : TypeId) : BoxAt w w.heap.size a n c p (w.alloc (.cells #[.slice a n c] T)) := by
  have hb := (Below.refl w.heap.size w).alloc (Nat.le_refl _) (.cells #[.slice a n c] T)
  exact ⟨hb, by simp, by simp, h.keep hb⟩
theorem inRef_any (n : Nat) (a : Option Addr) (c : Nat) (v : Int) (w : World) :
    Calls Tryz.prog 65 #[.agg #[.slice a n c], .int .i64 v] w fun e w' => e = .returned (.bool (fitB n v)) ∧ Below w.heap.size w w' := by
  have hF := Lib.hid (show fitB n v = (decide (0 ≤ v) && decide (v < (n : Int))) from rfl)
  have HB := Lib.hid (fun o => (Below.refl w.heap.size w).alloc (Nat.le_refl _) o)
  by_cases h0 : 0 ≤ v
  · have t1 : decide (v ≥ 0) = true := decide_eq_true h0
    by_cases h1 : v < n
    · have t2 : decide (v < (n : Int)) = true := decide_eq_true h1
      have hR : Hid (fitB n v = true) := Lib.hid (by rw [hF.out, decide_eq_true h0, t2]; rfl)
      go_enter Tryz.func65, Tryz.ntmps65
      go_wp2
      go_ret
      exact ⟨bool_ret hR.out.symm, HB.out _⟩
    · have t2 : decide (v < (n : Int)) = false := decide_eq_false h1
      have hR : Hid (fitB n v = false) := Lib.hid (by rw [hF.out, t2, Bool.and_false])
      go_enter Tryz.func65, Tryz.ntmps65
      go_wp2
      go_ret
      exact ⟨bool_ret hR.out.symm, HB.out _⟩
  · have t1 : decide (v ≥ 0) = false := decide_eq_false h0
    have hR : Hid (fitB n v = false) := Lib.hid (by rw [hF.out, decide_eq_false h0, Bool.false_and])
    go_enter Tryz.func65, Tryz.ntmps65
    go_wp2
    go_ret
    exact ⟨bool_ret hR.out.symm, HB.out _⟩
theorem BoxAt.both0 {w0 W : World} {B n c : Nat} {a : Option Addr} {p : Nat → Nat} (h : BoxAt w0 B a n c p W) : W.cell? ⟨B, 0, none⟩ = some (.slice a n c) ∧ Hid (BoxAt w0 B a n c p W) := ⟨h.2.2.1, Lib.hid h⟩
theorem BoxAt.both {w0 W W' : World} {B n c : Nat} {a : Option Addr} {p : Nat → Nat} (h : BoxAt w0 B a n c p W) (hb : Below W.heap.size W W') : W'.cell? ⟨B, 0, none⟩ = some (.slice a n c) ∧ Hid (BoxAt w0 B a n c p W') := (h.keep hb).both0
end Go.Proofs.YtmohfmhkhldhnaaGreat.Ds
