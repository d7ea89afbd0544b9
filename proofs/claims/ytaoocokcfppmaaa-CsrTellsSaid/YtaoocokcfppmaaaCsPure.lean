/- Arcs in pairs, plainly: tails, heads, what leads out of a vertex. No program in sight. -/
import Derived.Test.YtaoocokcfppmaaaNtPure
namespace Go.Proofs.Ytaoocokcfppmaaa.CsPure
open EdPure NtPure
/-- From where the arc i leads. -/
def endV (M : List Ed) (i : Nat) : Int := match M[i / 2]? with | some e => if i % 2 = 0 then e.1 else e.2.1 | none => -1
def bkN (i : Nat) : Nat := if i % 2 = 0 then i + 1 else i - 1
def hdV (M : List Ed) (i : Nat) : Int := endV M (bkN i)
def wtV (M : List Ed) (i : Nat) : Int := match M[i / 2]? with | some e => e.2.2 | none => 0
def tailZ (M : List Ed) (i : Int) : Int := if i < 0 then -1 else endV M i.toNat
def backZ (i : Int) : Int := if i < 0 then -1 else if i % 2 = 0 then i + 1 else i - 1
def headZ (M : List Ed) (i : Int) : Int := tailZ M (backZ i)
def capZ (M : List Ed) (i : Int) : Int := if i < 0 then 0 else wtV M i.toNat
def edgeZ (i : Int) : Int := if i < 0 then -1 else i / 2
theorem bk_bk (i : Nat) : bkN (bkN i) = i := by unfold bkN; split <;> split <;> omega
theorem bk_half (i : Nat) : bkN i / 2 = i / 2 := by unfold bkN; split <;> omega
theorem bk_lt {M : List Ed} {i : Nat} (h : i < 2 * M.length) : bkN i < 2 * M.length := by unfold bkN; split <;> omega
theorem back_nat (i : Nat) : backZ (i : Int) = (bkN i : Int) := by unfold backZ bkN; rw [if_neg (by omega)]; split <;> split <;> omega
theorem tail_nat (M : List Ed) (i : Nat) : tailZ M (i : Int) = endV M i := by unfold tailZ; rw [if_neg (by omega)]; simp
theorem head_nat (M : List Ed) (i : Nat) : headZ M (i : Int) = hdV M i := by unfold headZ hdV; rw [back_nat, tail_nat]
theorem cap_nat (M : List Ed) (i : Nat) : capZ M (i : Int) = wtV M i := by unfold capZ; rw [if_neg (by omega)]; simp
theorem wt_bk (M : List Ed) (i : Nat) : wtV M (bkN i) = wtV M i := by unfold wtV; rw [bk_half]
theorem hd_bk (M : List Ed) (i : Nat) : hdV M (bkN i) = endV M i := by unfold hdV; rw [bk_bk]
theorem end_at {M : List Ed} {i : Nat} (h : i / 2 < M.length) : endV M i = if i % 2 = 0 then M[i / 2].1 else M[i / 2].2.1 := by
  unfold endV; rw [List.getElem?_eq_getElem h]
theorem hd_at {M : List Ed} {i : Nat} (h : i / 2 < M.length) : hdV M i = if i % 2 = 0 then M[i / 2].2.1 else M[i / 2].1 := by
  have hb := bk_half i
  unfold hdV
  rw [end_at (by rw [hb]; exact h)]
  simp only [hb]
  have : bkN i % 2 = 0 ↔ ¬ i % 2 = 0 := by unfold bkN; split <;> omega
  by_cases h0 : i % 2 = 0
  · rw [if_neg (by rw [this]; simpa using h0), if_pos h0]
  · rw [if_pos (this.2 h0), if_neg h0]
theorem end_none {M : List Ed} {i : Nat} (h : ¬ i / 2 < M.length) : endV M i = -1 := by
  unfold endV; rw [List.getElem?_eq_none (by omega)]
theorem end_rng {n : Int} {M : List Ed} (h : GoodN n M) {i : Nat} (hi : i < 2 * M.length) : (0 ≤ endV M i ∧ endV M i < n) ∧ (0 ≤ hdV M i ∧ hdV M i < n) ∧ endV M i ≠ hdV M i := by
  have hh : i / 2 < M.length := by omega
  have h1 := h.2.1 _ (List.getElem_mem hh)
  have h2 := (h.1.2 _ (List.getElem_mem hh)).1
  rw [end_at hh, hd_at hh]
  split <;> omega
/-- Edges of a graph differ by their ends. -/
theorem same_at {M : List Ed} (h : GoodM M) {a b : Nat} (ha : a < M.length) (hb : b < M.length) (h1 : M[a].1 = M[b].1) (h2 : M[a].2.1 = M[b].2.1) : a = b := by
  have hp := List.pairwise_iff_getElem.1 h.1
  rcases Nat.lt_trichotomy a b with hab | hab | hab
  · have := hp a b ha hb hab; unfold lt2 at this; omega
  · exact hab
  · have := hp b a hb ha hab; unfold lt2 at this; omega
theorem arc_one {M : List Ed} (h : GoodM M) {a b : Nat} (ha : a < 2 * M.length) (hb : b < 2 * M.length) (h1 : endV M a = endV M b) (h2 : hdV M a = hdV M b) : a = b := by
  have ha2 : a / 2 < M.length := by omega
  have hb2 : b / 2 < M.length := by omega
  have la := (h.2 _ (List.getElem_mem ha2)).1
  have lb := (h.2 _ (List.getElem_mem hb2)).1
  rw [end_at ha2, end_at hb2] at h1
  rw [hd_at ha2, hd_at hb2] at h2
  by_cases p : a % 2 = 0 <;> by_cases q : b % 2 = 0
  · rw [if_pos p, if_pos q] at h1 h2
    have := same_at h ha2 hb2 h1 h2; omega
  · rw [if_pos p, if_neg q] at h1 h2; omega
  · rw [if_neg p, if_pos q] at h1 h2; omega
  · rw [if_neg p, if_neg q] at h1 h2
    have := same_at h ha2 hb2 h2 h1; omega
/-! ### What leads out of a vertex -/
/-- Of the first j arcs those from v to u. -/
def inn (M : List Ed) (v u : Int) : Nat → List Nat
  | 0 => []
  | j + 1 => inn M v u j ++ (if 0 ≤ v ∧ endV M j = v ∧ hdV M j = u then [j] else [])
/-- The document's own: by heads. -/
def outN (M : List Ed) (v : Int) : Nat → List Nat
  | 0 => []
  | k + 1 => outN M v k ++ inn M v (k : Int) (2 * M.length)
/-- By edges. -/
def outE (M : List Ed) (v : Int) : Nat → List Nat
  | 0 => []
  | k + 1 => outE M v k ++ (match M[k]? with | some e => if e.1 = v then [2 * k] else if e.2.1 = v then [2 * k + 1] else [] | none => [])
theorem inn_mem (M : List Ed) (v u : Int) (i j : Nat) : i ∈ inn M v u j ↔ i < j ∧ 0 ≤ v ∧ endV M i = v ∧ hdV M i = u := by
  induction j with
  | zero => simp [inn]
  | succ j ih =>
    unfold inn
    rw [List.mem_append, ih]
    constructor
    · rintro (⟨h1, h2⟩ | h1)
      · exact ⟨by omega, h2⟩
      · split at h1
        · next h3 => rw [List.mem_singleton] at h1; subst h1; exact ⟨by omega, h3⟩
        · simp at h1
    · rintro ⟨h1, h2⟩
      by_cases h3 : i < j
      · exact Or.inl ⟨h3, h2⟩
      · obtain rfl : i = j := by omega
        rw [if_pos h2]; simp
theorem out_mem (M : List Ed) (v : Int) (i k : Nat) : i ∈ outN M v k ↔ (i < 2 * M.length ∧ 0 ≤ v ∧ endV M i = v) ∧ 0 ≤ hdV M i ∧ hdV M i < k := by
  induction k with
  | zero => simp [outN]
  | succ k ih =>
    unfold outN
    rw [List.mem_append, ih, inn_mem]
    constructor
    · rintro (⟨h1, h2⟩ | ⟨h1, h2, h3, h4⟩)
      · exact ⟨h1, by omega⟩
      · exact ⟨⟨h1, h2, h3⟩, by omega⟩
    · rintro ⟨⟨h1, h2, h3⟩, h4⟩
      by_cases h5 : hdV M i < k
      · exact Or.inl ⟨⟨h1, h2, h3⟩, by omega⟩
      · exact Or.inr ⟨h1, h2, h3, by omega⟩
theorem inn_rises {M : List Ed} (h : GoodM M) (v u : Int) {j : Nat} (hj : j ≤ 2 * M.length) : (inn M v u j).Pairwise (fun a b => hdV M a < hdV M b) := by
  induction j with
  | zero => exact List.Pairwise.nil
  | succ j ih =>
    unfold inn
    refine List.pairwise_append.2 ⟨ih (by omega), by split <;> simp, fun a ha b hb => ?_⟩
    obtain ⟨a1, a2, a3, a4⟩ := (inn_mem M v u a j).1 ha
    split at hb
    · next h3 =>
      rw [List.mem_singleton] at hb
      subst hb
      have := arc_one h (a := a) (b := b) (by omega) (by omega) (by rw [a3, h3.2.1]) (by rw [a4, h3.2.2])
      omega
    · simp at hb
theorem out_rises {M : List Ed} (h : GoodM M) (v : Int) (k : Nat) : (outN M v k).Pairwise (fun a b => hdV M a < hdV M b) := by
  induction k with
  | zero => exact List.Pairwise.nil
  | succ k ih =>
    unfold outN
    refine List.pairwise_append.2 ⟨ih, inn_rises h v _ (Nat.le_refl _), fun a ha b hb => ?_⟩
    have h1 := ((out_mem M v a k).1 ha).2.2
    have h2 := ((inn_mem M v _ b _).1 hb).2.2.2
    omega
theorem oute_mem {M : List Ed} (h : GoodM M) (v : Int) (i k : Nat) (hk : k ≤ M.length) : i ∈ outE M v k ↔ i < 2 * k ∧ endV M i = v := by
  induction k with
  | zero => simp [outE]
  | succ k ih =>
    have hk' : k < M.length := by omega
    have hl := (h.2 _ (List.getElem_mem hk')).1
    have e0 : endV M (2 * k) = M[k].1 := by rw [end_at (by omega)]; rw [if_pos (by omega)]; simp
    have e1 : endV M (2 * k + 1) = M[k].2.1 := by
      rw [end_at (by omega), if_neg (by omega)]
      have : (2 * k + 1) / 2 = k := by omega
      simp only [this]
    unfold outE
    rw [List.mem_append, ih (by omega), List.getElem?_eq_getElem hk']
    constructor
    · rintro (⟨h1, h2⟩ | h1)
      · exact ⟨by omega, h2⟩
      · simp only at h1
        split at h1
        · next h3 => rw [List.mem_singleton] at h1; subst h1; exact ⟨by omega, by rw [e0, h3]⟩
        · split at h1
          · next h4 => rw [List.mem_singleton] at h1; subst h1; exact ⟨by omega, by rw [e1, h4]⟩
          · simp at h1
    · rintro ⟨h1, h2⟩
      by_cases h3 : i < 2 * k
      · exact Or.inl ⟨h3, h2⟩
      · refine Or.inr ?_
        simp only
        by_cases h4 : i = 2 * k
        · subst h4; rw [e0] at h2; rw [if_pos h2]; simp
        · obtain rfl : i = 2 * k + 1 := by omega
          rw [e1] at h2
          rw [if_neg (by omega), if_pos h2]; simp
theorem oute_rises {M : List Ed} (h : GoodM M) (v : Int) (k : Nat) (hk : k ≤ M.length) : (outE M v k).Pairwise (fun a b => hdV M a < hdV M b) := by
  induction k with
  | zero => exact List.Pairwise.nil
  | succ k ih =>
    have hk' : k < M.length := by omega
    have hl := (h.2 _ (List.getElem_mem hk')).1
    have d0 : hdV M (2 * k) = M[k].2.1 := by rw [hd_at (by omega)]; rw [if_pos (by omega)]; simp
    have d1 : hdV M (2 * k + 1) = M[k].1 := by
      rw [hd_at (by omega), if_neg (by omega)]
      have : (2 * k + 1) / 2 = k := by omega
      simp only [this]
    have hp := List.pairwise_iff_getElem.1 h.1
    unfold outE
    rw [List.getElem?_eq_getElem hk']
    refine List.pairwise_append.2 ⟨ih (by omega), by simp only; split <;> (try split) <;> simp, fun a ha b hb => ?_⟩
    obtain ⟨a1, a2⟩ := (oute_mem h v a k (by omega)).1 ha
    have ah : a / 2 < M.length := by omega
    have la := (h.2 _ (List.getElem_mem ah)).1
    have hlt := hp (a / 2) k ah hk' (by omega)
    unfold lt2 at hlt
    rw [end_at ah] at a2
    rw [hd_at ah]
    simp only at hb
    split at hb
    · next h3 =>
      rw [List.mem_singleton] at hb
      subst hb
      rw [d0]
      by_cases p : a % 2 = 0
      · rw [if_pos p] at a2 ⊢; omega
      · rw [if_neg p] at a2 ⊢; omega
    · split at hb
      · next h3 h4 =>
        rw [List.mem_singleton] at hb
        subst hb
        rw [d1]
        by_cases p : a % 2 = 0
        · rw [if_pos p] at a2 ⊢; omega
        · rw [if_neg p] at a2 ⊢; omega
      · simp at hb
/-- Both are the same list. -/
theorem out_eq {n : Nat} {M : List Ed} (h : GoodN n M) {v : Int} (hv : 0 ≤ v) : outN M v n = outE M v M.length := by
  have nd : ∀ {l : List Nat}, l.Pairwise (fun a b => hdV M a < hdV M b) → l.Nodup := fun {l} hl => hl.imp (fun {a b} hab e => by rw [e] at hab; omega)
  have h1 := out_rises h.1 v n
  have h2 := oute_rises h.1 v M.length (Nat.le_refl _)
  refine List.Perm.eq_of_pairwise (le := fun a b => hdV M a < hdV M b) (fun a b _ _ h1 h2 => by omega) h1 h2 ?_
  refine (List.perm_ext_iff_of_nodup (nd h1) (nd h2)).2 fun x => ?_
  rw [out_mem, oute_mem h.1 v x _ (Nat.le_refl _)]
  constructor
  · rintro ⟨⟨a1, -, a3⟩, -⟩; exact ⟨a1, a3⟩
  · rintro ⟨a1, a2⟩
    have := (end_rng h a1).2.1
    exact ⟨⟨a1, hv, a2⟩, this⟩
theorem out_none {M : List Ed} {v : Int} (h : v < 0) (k : Nat) : outN M v k = [] := by
  refine List.eq_nil_iff_forall_not_mem.2 fun i hi => ?_
  have := ((out_mem M v i k).1 hi).1.2.1
  omega
theorem out_far {n : Nat} {M : List Ed} (h : GoodN n M) {v : Int} (hv : (n : Int) ≤ v) (k : Nat) : outN M v k = [] := by
  refine List.eq_nil_iff_forall_not_mem.2 fun i hi => ?_
  obtain ⟨⟨a1, a2, a3⟩, -⟩ := (out_mem M v i k).1 hi
  have := (end_rng h a1).1
  omega
theorem out_nodup {M : List Ed} (h : GoodM M) (v : Int) (k : Nat) : (outN M v k).Nodup := (out_rises h v k).imp (fun {a b} hab e => by rw [e] at hab; omega)
theorem inn_len {M : List Ed} (h : GoodM M) (v u : Int) {j : Nat} (hj : j ≤ 2 * M.length) : (inn M v u j).length ≤ 1 := by
  have hp := inn_rises h v u hj
  have hm := inn_mem M v u
  match hl : inn M v u j, hp with
  | [], _ => simp
  | [_], _ => simp
  | a :: b :: r, hp =>
    have h1 := (List.pairwise_cons.1 hp).1 b (by simp)
    have ha := ((hm a j).1 (by rw [hl]; simp)).2.2.2
    have hb := ((hm b j).1 (by rw [hl]; simp)).2.2.2
    omega
theorem out_len {M : List Ed} (h : GoodM M) (v : Int) (k : Nat) : (outN M v k).length ≤ k := by
  induction k with
  | zero => simp [outN]
  | succ k ih =>
    unfold outN
    rw [List.length_append]
    have := inn_len h v (k : Int) (Nat.le_refl (2 * M.length))
    omega
end Go.Proofs.Ytaoocokcfppmaaa.CsPure
