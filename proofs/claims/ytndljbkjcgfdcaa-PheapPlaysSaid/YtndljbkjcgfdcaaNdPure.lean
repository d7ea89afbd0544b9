/- Cells with numbers, each with a vertex and three cells in it: what is in each that was ever given, which are given, and the free list; what giving, freeing and setting make of them. Plain facts: no function of the program is named. -/
import Derived.Test.YtndljbkjcgfdcaaProg
namespace Go.Proofs.Ytndljbkjcgfdcaa
namespace NdPure
/-- What is in a cell: a vertex, and three cells. -/
structure Nd where
  v : Int
  below : Int
  next : Int
  back : Int
def nd0 : Nd := ⟨0, 0, 0, 0⟩
structure St where
  X : List Nd
  I : List Bool
  F : List Nat
def emptyS : St := ⟨[], [], []⟩
def roomN (n : Int) : Nat := min n.toNat 1048576
theorem roomN_le (n : Int) : roomN n ≤ 1048576 := Nat.min_le_right _ _
/-- How many cells are given. -/
def liveN (S : St) : Nat := S.I.count true
def hasB (S : St) (n : Int) : Bool := decide (0 ≤ n) && decide (n < (S.I.length : Int)) && S.I.getD n.toNat false
def atV (S : St) (n : Int) : Nd := if hasB S n = true then S.X.getD n.toNat nd0 else nd0
def giveB (N : Nat) (S : St) : Bool := !decide (liveN S = N)
def firstN (S : St) : Nat := S.F.headD S.I.length
def giveN (N : Nat) (S : St) : Int := if liveN S = N then 0 else (firstN S : Int)
def putS (S : St) (x : Nd) : St :=
  match S.F with
  | [] => ⟨S.X ++ [x], S.I ++ [true], []⟩
  | f :: r => ⟨S.X.set f x, S.I.set f true, r⟩
def giveS (N : Nat) (S : St) (x : Nd) : St := if liveN S = N then S else putS S x
def dropS (S : St) (k : Nat) : St := ⟨S.X, S.I.set k false, k :: S.F⟩
def freeS (S : St) (n : Int) : St := if hasB S n = true then dropS S n.toNat else S
def layS (S : St) (k : Nat) (x : Nd) : St := ⟨S.X.set k x, S.I, S.F⟩
def setS (S : St) (n : Int) (x : Nd) : St := if hasB S n = true then layS S n.toNat x else S
def GoodS (N : Nat) (S : St) : Prop :=
  S.X.length = S.I.length ∧ S.I.length ≤ N ∧ S.F.Nodup ∧ (∀ n ∈ S.F, S.I[n]? = some false) ∧ liveN S + S.F.length = S.I.length
theorem good_empty (N : Nat) : GoodS N emptyS := ⟨rfl, Nat.zero_le _, List.nodup_nil, fun n h => by simp [emptyS] at h, rfl⟩
theorem has_yes {S : St} {n : Int} (h : hasB S n = true) : ∃ k : Nat, n = (k : Int) ∧ k < S.I.length ∧ S.I[k]? = some true := by
  unfold hasB at h
  simp only [Bool.and_eq_true, decide_eq_true_eq] at h
  obtain ⟨⟨h0, h1⟩, h2⟩ := h
  have hk : n.toNat < S.I.length := by omega
  refine ⟨n.toNat, by omega, hk, ?_⟩
  rw [List.getD_eq_getElem?_getD, List.getElem?_eq_getElem hk] at h2
  rw [List.getElem?_eq_getElem hk]
  simpa using h2
theorem has_of {S : St} {k : Nat} (hk : k < S.I.length) : hasB S (k : Int) = S.I[k] := by
  unfold hasB
  rw [decide_eq_true (by omega : (0 : Int) ≤ (k : Int)), decide_eq_true (by omega : (k : Int) < (S.I.length : Int)), Int.toNat_natCast, List.getD_eq_getElem?_getD, List.getElem?_eq_getElem hk]
  rfl
theorem has_low {S : St} {n : Int} (h : n < 0) : hasB S n = false := by
  unfold hasB
  rw [decide_eq_false (by omega)]
  rfl
theorem has_past {S : St} {n : Int} (h : ¬ n < (S.I.length : Int)) : hasB S n = false := by
  unfold hasB
  rw [decide_eq_false h, Bool.and_false, Bool.false_and]
theorem at_of {S : St} {k : Nat} (h : S.I[k]? = some true) : atV S (k : Int) = S.X.getD k nd0 := by
  obtain ⟨hk, e⟩ := List.getElem?_eq_some_iff.1 h
  unfold atV
  rw [if_pos (by rw [has_of hk, e]), Int.toNat_natCast]
theorem at_no {S : St} {n : Int} (h : hasB S n = false) : atV S n = nd0 := by
  unfold atV
  rw [if_neg (by rw [h]; decide)]
theorem full_free {N : Nat} {S : St} (h : GoodS N S) : (liveN S = N) ↔ (S.F = [] ∧ N ≤ S.I.length) := by
  obtain ⟨-, h2, -, -, h5⟩ := h
  constructor
  · intro e
    have : S.F.length = 0 := by omega
    exact ⟨List.length_eq_zero_iff.1 this, by omega⟩
  · rintro ⟨e1, e2⟩
    rw [e1, List.length_nil] at h5
    omega
theorem live_le {N : Nat} {S : St} (h : GoodS N S) : liveN S ≤ N := by
  obtain ⟨-, h2, -, -, h5⟩ := h
  omega
theorem count_lay {l : List Bool} {k : Nat} {v : Bool} (h : l[k]? = some v) (u : Bool) : (l.set k u).count true + (if v = true then 1 else 0) = l.count true + (if u = true then 1 else 0) := by
  induction l generalizing k with
  | nil => simp at h
  | cons a l ih =>
    cases k with
    | zero =>
      simp at h
      subst h
      cases a <;> cases u <;> simp
    | succ k =>
      have := ih (k := k) (by simpa using h)
      simp only [List.set_cons_succ, List.count_cons]
      omega
theorem get_lay {l : List Bool} {k n : Nat} {u : Bool} (h : n ≠ k) : (l.set k u)[n]? = l[n]? := by
  rw [List.getElem?_set]
  rw [if_neg (fun e => h e.symm)]
theorem good_put {N : Nat} {S : St} {x : Nd} (h : GoodS N S) (hl : liveN S ≠ N) : GoodS N (putS S x) := by
  have hff := full_free h
  obtain ⟨h1, h2, h3, h4, h5⟩ := h
  unfold putS
  cases hF : S.F with
  | nil =>
    have : ¬ N ≤ S.I.length := fun e => hl (hff.2 ⟨hF, e⟩)
    rw [hF, List.length_nil] at h5
    refine ⟨by simp [h1], by simp; omega, List.nodup_nil, fun n hn => by simp at hn, ?_⟩
    unfold liveN at *
    simp [List.count_append]
    omega
  | cons f r =>
    rw [hF] at h3 h4 h5
    have hf := h4 f (List.mem_cons_self)
    have hn := List.nodup_cons.1 h3
    have hc := count_lay hf true
    unfold liveN at *
    simp at hc h5
    refine ⟨by simp [h1], by simpa using h2, hn.2, fun n hnr => ?_, ?_⟩
    · show (S.I.set f true)[n]? = some false
      rw [get_lay (fun e => by subst e; exact hn.1 hnr)]
      exact h4 n (List.mem_cons_of_mem _ hnr)
    · show (S.I.set f true).count true + r.length = (S.I.set f true).length
      rw [List.length_set]
      omega
theorem good_give {N : Nat} {S : St} (h : GoodS N S) (x : Nd) : GoodS N (giveS N S x) := by
  unfold giveS
  split
  · exact h
  · next hl => exact good_put h hl
theorem good_drop {N : Nat} {S : St} {k : Nat} (h : GoodS N S) (hk : S.I[k]? = some true) : GoodS N (dropS S k) := by
  obtain ⟨h1, h2, h3, h4, h5⟩ := h
  have hc := count_lay hk false
  have hlt := (List.getElem?_eq_some_iff.1 hk).1
  unfold dropS
  unfold liveN at *
  simp at hc
  refine ⟨by simp [h1], by simpa using h2, List.nodup_cons.2 ⟨fun e => by rw [h4 k e] at hk; simp at hk, h3⟩, fun n hn => ?_, ?_⟩
  · show (S.I.set k false)[n]? = some false
    by_cases e : n = k
    · subst e; simp [hlt]
    · rw [get_lay e]
      rcases List.mem_cons.1 hn with e2 | e2
      · exact absurd e2 e
      · exact h4 n e2
  · show (S.I.set k false).count true + (k :: S.F).length = (S.I.set k false).length
    rw [List.length_set, List.length_cons]
    omega
theorem good_free {N : Nat} {S : St} (h : GoodS N S) (n : Int) : GoodS N (freeS S n) := by
  unfold freeS
  split
  · next hh =>
    obtain ⟨k, rfl, -, hk⟩ := has_yes hh
    rw [Int.toNat_natCast]
    exact good_drop h hk
  · exact h
theorem good_lay {N : Nat} {S : St} (h : GoodS N S) (k : Nat) (x : Nd) : GoodS N (layS S k x) := by
  obtain ⟨h1, h2, h3, h4, h5⟩ := h
  exact ⟨by simpa [layS] using h1, h2, h3, h4, h5⟩
theorem good_set {N : Nat} {S : St} (h : GoodS N S) (n : Int) (x : Nd) : GoodS N (setS S n x) := by
  unfold setS
  split
  · exact good_lay h _ _
  · exact h
/-- What the free list begins with is a cell that is there. -/
theorem first_free {N : Nat} {S : St} (h : GoodS N S) {f : Nat} {r : List Nat} (hF : S.F = f :: r) : f < S.I.length ∧ S.I[f]? = some false ∧ liveN S < S.I.length := by
  obtain ⟨-, -, -, h4, h5⟩ := h
  rw [hF] at h4 h5
  have := h4 f List.mem_cons_self
  simp at h5
  exact ⟨(List.getElem?_eq_some_iff.1 this).1, this, by omega⟩
theorem none_free {N : Nat} {S : St} (h : GoodS N S) (hF : S.F = []) : liveN S = S.I.length := by
  obtain ⟨-, -, -, -, h5⟩ := h
  rw [hF] at h5
  simpa using h5
end NdPure
end Go.Proofs.Ytndljbkjcgfdcaa
