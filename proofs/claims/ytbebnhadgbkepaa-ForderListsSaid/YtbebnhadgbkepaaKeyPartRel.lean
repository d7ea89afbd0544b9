/- What holds of a range of keys while the library parts it in two. -/
import Derived.Test.YtbebnhadgbkepaaKeyRev
namespace Go.Proofs.Ytbebnhadgbkepaa
open Go.RowKit ForderPure
open Go.Sort hiding Below
def pLt (P x : Nat) : Bool := ltB x P
def pLe (P x : Nat) : Bool := !ltB P x
/-- Left of i all go with p, right of j none does; what parts them lies at a. -/
def PartRel (w0 : World) (blk off a b : Nat) (p : Nat → Bool) (d : Array Nat) (P i j : Nat) (dk : Array Nat) (w : World) : Prop :=
  RowAt w0 blk off dk w ∧ PermIn a b d dk ∧ dk[a]! = P ∧ (∀ t, a < t → t < i → p dk[t]! = true) ∧ (∀ t, j < t → t < b → p dk[t]! = false)
theorem PartRel.on {w0 w w' : World} {blk off a b : Nat} {p : Nat → Bool} {d dk : Array Nat} {P i j : Nat} (h : PartRel w0 blk off a b p d P i j dk w) (hr : RowAt w0 blk off dk w') : PartRel w0 blk off a b p d P i j dk w' := ⟨hr, h.2⟩
theorem PartRel.up {w0 w : World} {blk off a b : Nat} {p : Nat → Bool} {d dk : Array Nat} {P i j : Nat} (h : PartRel w0 blk off a b p d P i j dk w) (hp : p dk[i]! = true) : PartRel w0 blk off a b p d P (i + 1) j dk w := by
  obtain ⟨h1, h2, h3, h4, h5⟩ := h
  refine ⟨h1, h2, h3, fun t ht hti => ?_, h5⟩
  by_cases h : t = i
  · rw [h]; exact hp
  · exact h4 t ht (by omega)
theorem PartRel.down {w0 w : World} {blk off a b : Nat} {p : Nat → Bool} {d dk : Array Nat} {P i j : Nat} (h : PartRel w0 blk off a b p d P i j dk w) (hp : p dk[j]! = false) : PartRel w0 blk off a b p d P i (j - 1) dk w := by
  obtain ⟨h1, h2, h3, h4, h5⟩ := h
  refine ⟨h1, h2, h3, h4, fun t ht htb => ?_⟩
  by_cases h : t = j
  · rw [h]; exact hp
  · exact h5 t (by omega) htb
theorem PartRel.swap {w0 w : World} {blk off a b : Nat} {p : Nat → Bool} {d dk : Array Nat} {P i j : Nat} (h : PartRel w0 blk off a b p d P i j dk w) (hb : blk < w0.heap.size) (hbd : b ≤ d.size) (hai : a < i) (hij : i < j) (hjb : j < b)
    (hi : p dk[i]! = false) (hj : p dk[j]! = true) (q : Nat) :
    PartRel w0 blk off a b p d P (i + 1) (j - 1) (swp dk i j) (((w.drewN q).setCell ⟨blk, off + i, none⟩ (.int .u64 (dk[j]! : Int))).setCell ⟨blk, off + j, none⟩ (.int .u64 (dk[i]! : Int))) := by
  obtain ⟨h1, h2, h3, h4, h5⟩ := h
  have hs : dk.size = d.size := h2.1
  refine ⟨h1.swap hb (by omega) (by omega) q, permIn_trans _ _ _ _ _ h2 (swp_permIn dk a b i j (by omega) (by omega) (by omega) hjb (by omega)), ?_, fun t ht hti => ?_, fun t ht htb => ?_⟩
  · rw [swp_other dk i j a (by omega) (by omega)]; exact h3
  · by_cases h : t = i
    · rw [h, swp_left dk i j (by omega) (by omega)]; exact hj
    · rw [swp_other dk i j t h (by omega)]; exact h4 t ht (by omega)
  · by_cases h : t = j
    · rw [h, swp_right dk i j (by omega)]; exact hi
    · rw [swp_other dk i j t (by omega) h]; exact h5 t (by omega) htb
/-- The pivot goes to the head. -/
theorem PartRel.start {w0 w : World} {blk off a b : Nat} {p : Nat → Bool} {d : Array Nat} {v : Nat} (h : RowAt w0 blk off d w) (hb : blk < w0.heap.size) (hbd : b ≤ d.size) (hav : a ≤ v) (hvb : v < b) (q : Nat) :
    PartRel w0 blk off a b p d d[v]! (a + 1) (b - 1) (swp d a v) (((w.drewN q).setCell ⟨blk, off + a, none⟩ (.int .u64 (d[v]! : Int))).setCell ⟨blk, off + v, none⟩ (.int .u64 (d[a]! : Int))) := by
  refine ⟨h.swap hb (by omega) (by omega) q, swp_permIn d a b a v (Nat.le_refl _) (by omega) hav hvb hbd, ?_, fun t ht hti => by omega, fun t ht htb => by omega⟩
  by_cases hv : a = v
  · subst hv; rw [swp_right d a a (by omega)]
  · exact swp_left d a v (by omega) hv
/-- What partitionOrdered leaves. -/
def PartDone (w0 : World) (blk off a b : Nat) (d : Array Nat) (m : Nat) (w : World) : Prop := ∃ dk, RowAt w0 blk off dk w ∧ PermIn a b d dk ∧ (∀ t, a ≤ t → t < m → ltB dk[t]! dk[m]! = true) ∧ (∀ t, m < t → t < b → ltB dk[t]! dk[m]! = false)
theorem PartRel.done {w0 w : World} {blk off a b : Nat} {d dk : Array Nat} {P i j : Nat} (h : PartRel w0 blk off a b (pLt P) d P i j dk w) (hb : blk < w0.heap.size) (hbd : b ≤ d.size) (hai : a < i) (hij : i = j + 1) (hjb : j < b) (q : Nat) :
    PartDone w0 blk off a b d j (((w.drewN q).setCell ⟨blk, off + j, none⟩ (.int .u64 (dk[a]! : Int))).setCell ⟨blk, off + a, none⟩ (.int .u64 (dk[j]! : Int))) := by
  obtain ⟨h1, h2, h3, h4, h5⟩ := h
  have hs : dk.size = d.size := h2.1
  have hm : (swp dk j a)[j]! = P := by
    by_cases hja : j = a
    · subst hja; rw [swp_right dk j j (by omega)]; exact h3
    · rw [swp_left dk j a (by omega) hja]; exact h3
  refine ⟨swp dk j a, h1.swap hb (by omega) (by omega) q, permIn_trans _ _ _ _ _ h2 (swp_permIn dk a b j a (by omega) hjb (Nat.le_refl _) (by omega) (by omega)), fun t ht htj => ?_, fun t ht htb => ?_⟩
  · rw [hm]
    by_cases hta : t = a
    · rw [hta, swp_right dk j a (by omega)]; exact h4 j (by omega) (by omega)
    · rw [swp_other dk j a t (by omega) hta]; exact h4 t (by omega) (by omega)
  · rw [hm, swp_other dk j a t (by omega) (by omega)]
    exact h5 t ht htb
/-- What partitionEqualOrdered leaves: left of m all are like the pivot, from m on all are above it. -/
def EqDone (w0 : World) (blk off a b : Nat) (d : Array Nat) (P m : Nat) (w : World) : Prop := ∃ dk, RowAt w0 blk off dk w ∧ PermIn a b d dk ∧ (∀ t, a ≤ t → t < m → ltB P dk[t]! = false) ∧ (∀ t, m ≤ t → t < b → ltB P dk[t]! = true)
theorem PartRel.eqDone {w0 w : World} {blk off a b : Nat} {d dk : Array Nat} {P i j : Nat} (h : PartRel w0 blk off a b (pLe P) d P i j dk w) (hij : i = j + 1) : EqDone w0 blk off a b d P i w := by
  obtain ⟨h1, h2, h3, h4, h5⟩ := h
  refine ⟨dk, h1, h2, fun t ht hti => ?_, fun t ht htb => ?_⟩
  · by_cases hta : t = a
    · rw [hta, h3]; exact swo_lt.irrefl _
    · have := h4 t (by omega) hti
      unfold pLe at this
      simpa using this
  · have := h5 t (by omega) htb
    unfold pLe at this
    simpa using this
end Go.Proofs.Ytbebnhadgbkepaa
