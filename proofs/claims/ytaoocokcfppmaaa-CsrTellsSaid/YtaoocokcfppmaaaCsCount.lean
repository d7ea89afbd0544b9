/- How often each arc came, plainly: each one once. No program in sight. -/
import Derived.Test.YtaoocokcfppmaaaCsPure
namespace Go.Proofs.Ytaoocokcfppmaaa.CsPure
open EdPure NtPure
/-- What leads out of the first v vertices. -/
def allO (M : List Ed) (n : Nat) : Nat → List Nat
  | 0 => []
  | v + 1 => allO M n v ++ outN M (v : Int) n
/-- How often each of the first m numbers stands in a list. -/
def cntL (m : Nat) (D : List Nat) : List Int := (List.range m).map fun x => (D.count x : Int)
theorem cntL_len (m : Nat) (D : List Nat) : (cntL m D).length = m := by unfold cntL; simp
theorem cntL_nil (m : Nat) : cntL m [] = List.replicate m 0 := by
  refine List.ext_getElem (by rw [cntL_len]; simp) fun i h1 h2 => ?_
  unfold cntL; simp
theorem cntL_at {m : Nat} (D : List Nat) {x : Nat} (h : x < m) : (cntL m D)[x]'(by rw [cntL_len]; exact h) = (D.count x : Int) := by unfold cntL; simp
theorem cntL_set {m : Nat} (D : List Nat) {x : Nat} (_h : x < m) : (cntL m D).set x ((D.count x : Int) + 1) = cntL m (D ++ [x]) := by
  refine List.ext_getElem (by rw [List.length_set, cntL_len, cntL_len]) fun i h1 h2 => ?_
  rw [cntL_len] at h2
  rw [List.getElem_set, cntL_at _ h2]
  by_cases e : x = i
  · subst e
    rw [if_pos rfl, cntL_at _ h2, List.count_append, List.count_singleton_self]; omega
  · rw [if_neg e, cntL_at _ h2, List.count_append]
    have : [x].count i = 0 := List.count_eq_zero.2 (by simpa using fun h => e h.symm)
    rw [this]; omega
theorem nodup_count {l : List Nat} (h : l.Nodup) {x : Nat} (hx : x ∈ l) : l.count x = 1 := by
  induction l with
  | nil => simp at hx
  | cons y r ih =>
    obtain ⟨h1, h2⟩ := List.nodup_cons.1 h
    by_cases e : y = x
    · subst e
      rw [List.count_cons_self, List.count_eq_zero.2 h1]
    · rw [List.count_cons_of_ne (fun e2 => e (by simpa using e2))]
      exact ih h2 (by
        rcases List.mem_cons.1 hx with rfl | hx
        · exact absurd rfl e
        · exact hx)
theorem all_count {n : Nat} {M : List Ed} (h : GoodN n M) {x : Nat} (hx : x < 2 * M.length) (v : Nat) : (allO M n v).count x = if endV M x < v then 1 else 0 := by
  have hr := end_rng h hx
  induction v with
  | zero => rw [if_neg (by omega)]; rfl
  | succ v ih =>
    unfold allO
    rw [List.count_append, ih]
    by_cases e : endV M x = (v : Int)
    · have hm : x ∈ outN M (v : Int) n := (out_mem M _ x n).2 ⟨⟨hx, by omega, e⟩, by omega, by omega⟩
      rw [nodup_count (out_nodup h.1 _ _) hm, if_neg (by omega), if_pos (by omega)]
    · have hm : x ∉ outN M (v : Int) n := fun hm => e ((out_mem M _ x n).1 hm).1.2.2
      rw [List.count_eq_zero.2 hm]
      by_cases e2 : endV M x < (v : Int)
      · rw [if_pos e2, if_pos (by omega)]
      · rw [if_neg e2, if_neg (by omega)]
theorem all_one {n : Nat} {M : List Ed} (h : GoodN n M) {x : Nat} (hx : x < 2 * M.length) : (cntL (2 * M.length) (allO M n n))[x]'(by rw [cntL_len]; exact hx) = 1 := by
  rw [cntL_at _ hx, all_count h hx, if_pos (by have := (end_rng h hx).1; omega)]
  rfl
/-- What is known of an arc as it comes. -/
theorem arc_facts {n : Nat} {M : List Ed} (_h : GoodN n M) {v : Int} {x : Nat} (hx : x ∈ outN M v n) :
    x < 2 * M.length ∧ tailZ M (x : Int) = v ∧ backZ (x : Int) = (bkN x : Int) ∧ backZ (bkN x : Int) = (x : Int) ∧ headZ M (bkN x : Int) = v ∧ capZ M (bkN x : Int) = capZ M (x : Int) ∧ bkN x < 2 * M.length := by
  obtain ⟨⟨h1, h2, h3⟩, -⟩ := (out_mem M v x n).1 hx
  exact ⟨h1, by rw [tail_nat, h3], back_nat x, by rw [back_nat, bk_bk], by rw [head_nat, hd_bk, h3], by rw [cap_nat, cap_nat, wt_bk], bk_lt h1⟩
theorem arc_next {n : Nat} {M : List Ed} (h : GoodN n M) {v : Int} {k : Nat} (hk : k + 1 < (outN M v n).length) : headZ M ((outN M v n)[k] : Int) < headZ M ((outN M v n)[k + 1] : Int) := by
  have := List.pairwise_iff_getElem.1 (out_rises h.1 v n) k (k + 1) (by omega) hk (by omega)
  rw [head_nat, head_nat]
  exact this
end Go.Proofs.Ytaoocokcfppmaaa.CsPure
