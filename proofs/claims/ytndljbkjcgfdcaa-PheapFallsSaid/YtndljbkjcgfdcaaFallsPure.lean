/- What the law on falling keys holds all the time: vertices pushed one behind the other, keys raised, the first one popped again and again. Plain facts: no function of the program is named. -/
import Derived.Test.YtndljbkjcgfdcaaHeapPure
namespace Go.Proofs.Ytndljbkjcgfdcaa
namespace HeapPure
/-- The first k vertices are in. -/
def upTo (l : List Int) (k : Nat) : List (Option Int) := (l.take k).map some ++ List.replicate (l.length - k) none
theorem upTo_zero (l : List Int) : upTo l 0 = List.replicate l.length none := by unfold upTo; simp
theorem upTo_full (l : List Int) : upTo l l.length = l.map some := by unfold upTo; simp
theorem upTo_len {l : List Int} {k : Nat} (h : k ≤ l.length) : (upTo l k).length = l.length := by unfold upTo; simp; omega
theorem upTo_none {l : List Int} {k : Nat} (h : k < l.length) : (upTo l k)[k]? = some none := by
  unfold upTo
  rw [List.getElem?_append_right (by simp; omega), List.getElem?_replicate]
  simp
  omega
theorem upTo_push {l : List Int} {k : Nat} (h : k < l.length) : (upTo l k).set k (some l[k]) = upTo l (k + 1) := by
  unfold upTo
  have e : (l.take k).length = k := by simp; omega
  rw [List.set_append_right _ _ (by simp; omega), List.length_map, e, Nat.sub_self, show l.length - k = (l.length - (k + 1)) + 1 by omega, List.replicate_succ, List.set_cons_zero, ← List.take_append_getElem h, List.map_append, List.append_assoc]
  rfl
theorem upTo_some {l : List Int} {k : Nat} (h : k < l.length) : (upTo l (k + 1))[k]? = some (some l[k]) := by
  rw [← upTo_push h, List.getElem?_set, if_pos rfl, if_pos (by rw [upTo_len (by omega)]; exact h)]
theorem push_upTo {l : List Int} {k : Nat} (h : k < l.length) : pushB (upTo l k) (k : Int) = true ∧ pushA (upTo l k) (k : Int) l[k] = upTo l (k + 1) ∧ pushB (upTo l (k + 1)) (k : Int) = false ∧ pushA (upTo l (k + 1)) (k : Int) l[k] = upTo l (k + 1) := by
  have h1 := push_yes (upTo_none h)
  have h2 := push_in (in_of (upTo_some h))
  refine ⟨h1, ?_, h2, ?_⟩
  · unfold pushA
    rw [h1, if_pos rfl, Int.toNat_natCast, upTo_push h]
  · unfold pushA
    rw [h2, if_neg (by decide)]
theorem map_at {N : List Int} {v : Nat} (h : v < N.length) : (N.map some)[v]? = some (some N[v]) := by rw [List.getElem?_map, List.getElem?_eq_getElem h]; rfl
theorem raise_map {N : List Int} {v : Nat} (h : v < N.length) (x : Int) : raiseB (N.map some) (v : Int) x = decide (N[v] ≤ x) ∧ raiseA (N.map some) (v : Int) x = (N.set v (max N[v] x)).map some := by
  have h1 := map_at h
  have h2 : raiseB (N.map some) (v : Int) x = decide (N[v] ≤ x) := by unfold raiseB; rw [in_of h1, key_of h1, Bool.true_and]
  refine ⟨h2, ?_⟩
  unfold raiseA
  rw [h2]
  by_cases e : N[v] ≤ x
  · rw [decide_eq_true e, if_pos rfl, Int.toNat_natCast, List.map_set, Int.max_eq_right e]
  · rw [decide_eq_false e, if_neg (by decide), Int.max_eq_left (by omega), List.set_getElem_self]
/-- While all are popped: who is left, and the last one that came. -/
structure Falls (N : List Int) (A : List (Option Int)) (last : Int) (at' : Int) (c : Nat) : Prop where
  len : A.length = N.length
  now : ∀ (u : Nat) z, A[u]? = some (some z) → N[u]? = some z
  cnt : lenA A = c
  low : at' = -1 ∨ ∃ m : Nat, at' = (m : Int) ∧ ∀ (u : Nat) z, A[u]? = some (some z) → z < last ∨ (z = last ∧ m < u)
theorem falls_start (N : List Int) : Falls N (N.map some) 0 (-1) N.length := by
  refine ⟨by simp, fun u z h => ?_, ?_, Or.inl rfl⟩
  · rw [List.getElem?_map] at h
    cases e : N[u]? with
    | none => rw [e] at h; cases h
    | some y => rw [e] at h; simpa using h
  · unfold lenA
    rw [List.countP_eq_length.2 (fun x hx => by
      obtain ⟨y, -, rfl⟩ := List.mem_map.1 hx
      rfl), List.length_map]
theorem Falls.next {N : List Int} {A : List (Option Int)} {last at' : Int} {c : Nat} (h : Falls N A last at' (c + 1)) :
    ∃ (m : Nat) (y : Int), topB A = true ∧ topV A = (m : Int) ∧ topK A = y ∧ popA A = A.set m none ∧ m < N.length ∧ N[m]? = some y ∧ (0 ≤ at' → ¬ y > last ∧ (y = last → ¬ (m : Int) < at')) ∧ Falls N (A.set m none) y (m : Int) c := by
  rcases first_spec A with ⟨h1, -⟩ | ⟨m, y, h1, h2, h3⟩
  · have := (len_zero A).2 h1
    have := h.cnt
    omega
  have hm := (List.getElem?_eq_some_iff.1 h2).1
  have hn := h.now m y h2
  refine ⟨m, y, by unfold topB; rw [h1]; rfl, by unfold topV; rw [h1], by unfold topK; rw [h1], by unfold popA; rw [h1], by rw [← h.len]; exact hm, hn, fun h0 => ?_, ⟨by simpa using h.len, fun u z hz => ?_, ?_, Or.inr ⟨m, rfl, fun u z hz => ?_⟩⟩⟩
  · rcases h.low with e | ⟨m0, e, h4⟩
    · omega
    · have := h4 m y h2
      omega
  · by_cases e : u = m
    · subst e
      rw [List.getElem?_set, if_pos rfl, if_pos hm] at hz
      cases hz
    · rw [List.getElem?_set, if_neg (fun e2 => e e2.symm)] at hz
      exact h.now u z hz
  · have := len_drop h2
    have := h.cnt
    omega
  · by_cases e : u = m
    · subst e
      rw [List.getElem?_set, if_pos rfl, if_pos hm] at hz
      cases hz
    · rw [List.getElem?_set, if_neg (fun e2 => e e2.symm)] at hz
      exact h3 u z hz e
theorem Falls.end {N : List Int} {A : List (Option Int)} {last at' : Int} (h : Falls N A last at' 0) : topB A = false ∧ topV A = 0 ∧ topK A = 0 ∧ popA A = A ∧ lenA A = 0 := by
  have h1 := (len_zero A).1 h.cnt
  refine ⟨by unfold topB; rw [h1]; rfl, by unfold topV; rw [h1], by unfold topK; rw [h1], by unfold popA; rw [h1], h.cnt⟩
end HeapPure
end Go.Proofs.Ytndljbkjcgfdcaa
