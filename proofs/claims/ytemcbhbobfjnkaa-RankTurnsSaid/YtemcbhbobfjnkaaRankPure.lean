/- Orders by keys, plainly: the order By, what is an order, its inverse, a list in an order. No function of the program is named. -/
import Derived.Test.YtemcbhbobfjnkaaKit
namespace Go.Proofs.Ytemcbhbobfjnkaa.RankPure
/-- Which of two places comes ahead. -/
def ltK (ks : List Int) (i j : Nat) : Prop := ks.getD i 0 < ks.getD j 0 ∨ (ks.getD i 0 = ks.getD j 0 ∧ i < j)
instance (ks : List Int) (i j : Nat) : Decidable (ltK ks i j) := by unfold ltK; infer_instance
theorem ltK_trans {ks : List Int} {i j k : Nat} (h1 : ltK ks i j) (h2 : ltK ks j k) : ltK ks i k := by unfold ltK at *; omega
theorem ltK_irrefl {ks : List Int} {i : Nat} : ¬ ltK ks i i := by unfold ltK; omega
theorem ltK_total {ks : List Int} {i j : Nat} (h : i ≠ j) : ltK ks i j ∨ ltK ks j i := by unfold ltK; omega
/-- The order in which keys rise. -/
def byL (ks : List Int) : List Nat := (List.range ks.length).mergeSort (fun i j => !decide (ltK ks j i))
theorem byL_perm (ks : List Int) : (byL ks).Perm (List.range ks.length) := List.mergeSort_perm _ _
theorem byL_len (ks : List Int) : (byL ks).length = ks.length := by rw [(byL_perm ks).length_eq, List.length_range]
theorem byL_nodup (ks : List Int) : (byL ks).Nodup := (byL_perm ks).nodup_iff.2 List.nodup_range
theorem byL_lt (ks : List Int) {i : Nat} (h : i ∈ byL ks) : i < ks.length := List.mem_range.1 ((byL_perm ks).mem_iff.1 h)
theorem byL_mem (ks : List Int) {i : Nat} (h : i < ks.length) : i ∈ byL ks := (byL_perm ks).mem_iff.2 (List.mem_range.2 h)
theorem byL_le (ks : List Int) : (byL ks).Pairwise (fun i j => ¬ ltK ks j i) := by
  have := List.pairwise_mergeSort (le := fun i j => !decide (ltK ks j i)) (fun a b c h1 h2 => by simp at *; unfold ltK at *; omega) (fun a b => by simp; unfold ltK; omega) (List.range ks.length)
  exact this.imp (fun h => by simpa using h)
/-- There is just one such order. -/
theorem by_unique {ks : List Int} {p : List Nat} (hp : p.Perm (List.range ks.length)) (hs : p.Pairwise (fun i j => ¬ ltK ks j i)) : p = byL ks := by
  refine List.Perm.eq_of_pairwise (le := fun i j => ¬ ltK ks j i) (fun a b _ _ h1 h2 => ?_) hs (byL_le ks) (hp.trans (byL_perm ks).symm)
  by_cases h : a = b
  · exact h
  · rcases ltK_total (ks := ks) h with h' | h'
    · exact absurd h' h2
    · exact absurd h' h1
/-- What has come while the least ones are taken again and again. -/
def Came (ks : List Int) (out : List Nat) : Prop := out.Nodup ∧ (∀ i ∈ out, i < ks.length) ∧ out.Pairwise (fun i j => ¬ ltK ks j i) ∧ ∀ i ∈ out, ∀ j, j < ks.length → j ∉ out → ltK ks i j
theorem Came.nil (ks : List Int) : Came ks [] := ⟨List.nodup_nil, by simp, List.Pairwise.nil, by simp⟩
/-- The least one of those below k that did not come. -/
def Least (ks : List Int) (out : List Nat) (k : Nat) (at' : Int) : Prop :=
  (at' = -1 ∧ ∀ j, j < k → j ∈ out) ∨ ∃ a : Nat, at' = a ∧ a < k ∧ a ∉ out ∧ ∀ j, j < k → j ∉ out → j ≠ a → ltK ks a j
theorem Least.start (ks : List Int) (out : List Nat) : Least ks out 0 (-1) := Or.inl ⟨rfl, by omega⟩
theorem Least.came {ks : List Int} {out : List Nat} {k : Nat} {a : Int} (h : Least ks out k a) (hk : k ∈ out) : Least ks out (k + 1) a := by
  rcases h with ⟨h1, h2⟩ | ⟨b, h1, h2, h3, h4⟩
  · refine Or.inl ⟨h1, fun j hj => ?_⟩
    by_cases e : j = k
    · subst e; exact hk
    · exact h2 j (by omega)
  · refine Or.inr ⟨b, h1, by omega, h3, fun j hj hn hne => ?_⟩
    by_cases e : j = k
    · subst e; exact absurd hk hn
    · exact h4 j (by omega) hn hne
theorem Least.first {ks : List Int} {out : List Nat} {k : Nat} {a : Int} (h : Least ks out k a) (ha : a < 0) (hk : k ∉ out) : Least ks out (k + 1) k := by
  rcases h with ⟨h1, h2⟩ | ⟨b, h1, h2, h3, h4⟩
  · refine Or.inr ⟨k, rfl, by omega, hk, fun j hj hn hne => absurd (h2 j (by omega)) hn⟩
  · omega
theorem Least.less {ks : List Int} {out : List Nat} {k b : Nat} (h : Least ks out k (b : Int)) (hk : k ∉ out) (hl : ks.getD k 0 < ks.getD b 0) : Least ks out (k + 1) k := by
  rcases h with ⟨h1, h2⟩ | ⟨b', h1, h2, h3, h4⟩
  · omega
  · obtain rfl : b = b' := by omega
    refine Or.inr ⟨k, rfl, by omega, hk, fun j hj hn hne => ?_⟩
    by_cases e : j = b
    · subst e; exact Or.inl hl
    · have := h4 j (by omega) hn e
      unfold ltK at *; omega
theorem Least.not {ks : List Int} {out : List Nat} {k b : Nat} (h : Least ks out k (b : Int)) (hl : ¬ ks.getD k 0 < ks.getD b 0) : Least ks out (k + 1) b := by
  rcases h with ⟨h1, h2⟩ | ⟨b', h1, h2, h3, h4⟩
  · omega
  · obtain rfl : b = b' := by omega
    refine Or.inr ⟨b, rfl, by omega, h3, fun j hj hn hne => ?_⟩
    by_cases e : j = k
    · subst e; unfold ltK; omega
    · exact h4 j (by omega) hn hne
/-- As long as not all came there is one. -/
theorem Least.there {ks : List Int} {out : List Nat} {a : Int} (h : Least ks out ks.length a) (hc : out.length < ks.length) : ∃ b : Nat, a = b ∧ b < ks.length ∧ b ∉ out := by
  rcases h with ⟨h1, h2⟩ | ⟨b', h1, h2, h3, h4⟩
  · exfalso
    have := List.Nodup.length_le_of_subset (List.nodup_range (n := ks.length)) (l₂ := out) (fun j hj => h2 j (List.mem_range.1 hj))
    rw [List.length_range] at this
    omega
  · exact ⟨b', h1, h2, h3⟩
theorem Came.step {ks : List Int} {out : List Nat} (hC : Came ks out) {b : Nat} (h : Least ks out ks.length (b : Int)) : Came ks (out ++ [b]) := by
  rcases h with ⟨h1, h2⟩ | ⟨b', h1, h2, h3, h4⟩
  · omega
  · have hbb : b' = b := by omega
    rw [hbb] at h2 h3 h4
    clear hbb h1
    obtain ⟨c1, c2, c3, c4⟩ := hC
    refine ⟨?_, ?_, ?_, ?_⟩
    · rw [List.nodup_append]
      exact ⟨c1, by simp, fun x hx y hy => by rw [List.mem_singleton] at hy; subst hy; exact fun e => h3 (e ▸ hx)⟩
    · intro i hi
      rcases List.mem_append.1 hi with hi | hi
      · exact c2 i hi
      · rw [List.mem_singleton] at hi; subst hi; exact h2
    · rw [List.pairwise_append]
      refine ⟨c3, List.pairwise_singleton _ _, fun x hx y hy => ?_⟩
      rw [List.mem_singleton] at hy
      rw [hy]
      have := c4 x hx b h2 h3
      unfold ltK at *; omega
    · intro i hi j hj hn
      have hn' : j ∉ out ∧ j ≠ b := by simpa using hn
      rcases List.mem_append.1 hi with hi | hi
      · exact c4 i hi j hj hn'.1
      · rw [List.mem_singleton] at hi; rw [hi]; exact h4 j hj hn'.1 hn'.2
theorem Came.whole {ks : List Int} {out : List Nat} (hC : Came ks out) (hl : out.length = ks.length) : out = byL ks := by
  refine by_unique ?_ hC.2.2.1
  refine (List.perm_ext_iff_of_nodup hC.1 List.nodup_range).2 (fun a => ⟨fun h => List.mem_range.2 (hC.2.1 a h), fun h => ?_⟩)
  refine Classical.byContradiction fun hn => ?_
  have h1 := List.Nodup.length_le_of_subset (l₁ := a :: out) (l₂ := List.range ks.length) (List.nodup_cons.2 ⟨hn, hC.1⟩) (fun x hx => by
    rcases List.mem_cons.1 hx with rfl | hx
    · exact h
    · exact List.mem_range.2 (hC.2.1 x hx))
  rw [List.length_range, List.length_cons] at h1
  omega
/-! ### An order, its inverse -/
/-- As numbers. -/
def zs (p : List Nat) : List Int := p.map (fun i : Nat => (i : Int))
theorem zs_len (p : List Nat) : (zs p).length = p.length := List.length_map _
/-- Is it an order? -/
def OrdP (p : List Int) : Prop := p.Nodup ∧ ∀ x ∈ p, 0 ≤ x ∧ x < (p.length : Int)
instance (p : List Int) : Decidable (OrdP p) := by unfold OrdP; infer_instance
def ordB (p : List Int) : Bool := decide (OrdP p)
/-- Where each place stands in p, up to the k'th. -/
def rowZ (z : Int) (p : List Int) (k : Nat) : List Int := (List.range p.length).map fun j : Nat => if (j : Int) ∈ p.take k then ((p.idxOf (j : Int) : Nat) : Int) else z
theorem rowZ_len (z : Int) (p : List Int) (k : Nat) : (rowZ z p k).length = p.length := by unfold rowZ; simp
theorem rowZ_zero (z : Int) (p : List Int) : rowZ z p 0 = List.replicate p.length z := by
  refine List.ext_getElem (by rw [rowZ_len]; simp) fun i h1 h2 => ?_
  unfold rowZ; simp
theorem mem_take_lt {p : List Int} {k : Nat} {x : Int} (h : x ∈ p.take k) : p.idxOf x < k := by
  obtain ⟨i, hi, he⟩ := List.mem_take_iff_getElem.1 h
  have h1 : p.idxOf x ≤ i := by
    have := List.getElem_idxOf (x := x) (xs := p) (by rw [List.idxOf_lt_length_iff]; exact List.mem_of_mem_take h)
    refine Nat.le_of_not_lt fun hlt => ?_
    have := List.not_of_lt_findIdx (p := (· == x)) (xs := p) (i := i) hlt
    simp [he] at this
  omega
theorem rowZ_get {z : Int} {p : List Int} {k j : Nat} (hj : j < p.length) : (rowZ z p k)[j]'(by rw [rowZ_len]; exact hj) = if (j : Int) ∈ p.take k then ((p.idxOf (j : Int) : Nat) : Int) else z := by
  unfold rowZ; simp
theorem idx_first {p : List Int} {k : Nat} (hk : k < p.length) (hn : p[k] ∉ p.take k) : p.idxOf p[k] = k := by
  have h1 : p.idxOf p[k] < p.length := List.idxOf_lt_length_iff.2 (List.getElem_mem _)
  have h2 : p[p.idxOf p[k]] = p[k] := List.getElem_idxOf h1
  rcases Nat.lt_trichotomy (p.idxOf p[k]) k with h | h | h
  · exact absurd (List.mem_take_iff_getElem.2 ⟨p.idxOf p[k], by omega, h2⟩) hn
  · exact h
  · have := List.not_of_lt_findIdx (p := (· == p[k])) (xs := p) (i := k) h
    simp at this
theorem rowZ_succ {z : Int} {p : List Int} {k j : Nat} (hk : k < p.length) (e : p[k] = (j : Int)) (hn : (j : Int) ∉ p.take k) : rowZ z p (k + 1) = (rowZ z p k).set j (k : Int) := by
  refine List.ext_getElem (by rw [List.length_set, rowZ_len, rowZ_len]) fun i h1 h2 => ?_
  rw [rowZ_len] at h1
  rw [List.getElem_set, rowZ_get h1, rowZ_get h1]
  have ht : p.take (k + 1) = p.take k ++ [p[k]] := by rw [List.take_add_one, List.getElem?_eq_getElem hk]; rfl
  by_cases hij : j = i
  · subst hij
    rw [if_pos rfl, if_pos (by rw [ht, e]; simp)]
    have := idx_first hk (by rw [e]; exact hn)
    rw [e] at this
    rw [this]
  · rw [if_neg hij]
    have : ((i : Int) ∈ p.take (k + 1)) ↔ (i : Int) ∈ p.take k := by
      rw [ht, e]
      have : ¬ (i : Int) = (j : Int) := by omega
      simp [this]
    simp only [this]
/-- The inverse of an order. -/
abbrev invL (p : List Int) : List Int := rowZ 0 p p.length
theorem invL_len (p : List Int) : (invL p).length = p.length := rowZ_len _ _ _
theorem ord_mem {p : List Int} (h : OrdP p) {j : Nat} (hj : j < p.length) : (j : Int) ∈ p := by
  refine Classical.byContradiction fun hn => ?_
  have h1 := List.Nodup.length_le_of_subset (l₁ := (j : Int) :: p) (l₂ := zs (List.range p.length)) (List.nodup_cons.2 ⟨hn, h.1⟩) (fun x hx => by
    unfold zs
    rw [List.mem_map]
    rcases List.mem_cons.1 hx with rfl | hx
    · exact ⟨j, List.mem_range.2 hj, rfl⟩
    · have := h.2 x hx
      exact ⟨x.toNat, List.mem_range.2 (by omega), by omega⟩)
  rw [zs_len, List.length_range, List.length_cons] at h1
  omega
theorem rowZ_whole {p : List Int} (h : OrdP p) (z : Int) : rowZ z p p.length = invL p := by
  refine List.ext_getElem (by rw [rowZ_len, invL_len]) fun i h1 h2 => ?_
  rw [rowZ_len] at h1
  unfold invL
  rw [rowZ_get h1, rowZ_get h1, List.take_length, if_pos (ord_mem h h1), if_pos (ord_mem h h1)]
theorem invL_get {p : List Int} (h : OrdP p) {j : Nat} (hj : j < p.length) : (invL p)[j]'(by rw [invL_len]; exact hj) = ((p.idxOf (j : Int) : Nat) : Int) := by
  unfold invL
  rw [rowZ_get hj, List.take_length, if_pos (ord_mem h hj)]
theorem idx_lt {p : List Int} (h : OrdP p) {j : Nat} (hj : j < p.length) : p.idxOf (j : Int) < p.length := List.idxOf_lt_length_iff.2 (ord_mem h hj)
theorem invL_ord {p : List Int} (h : OrdP p) : OrdP (invL p) := by
  refine ⟨?_, fun x hx => ?_⟩
  · rw [List.nodup_iff_pairwise_ne, List.pairwise_iff_getElem]
    intro i j hi hj hij e
    rw [invL_len] at hi hj
    rw [invL_get h hi, invL_get h hj] at e
    have e' : p.idxOf (i : Int) = p.idxOf (j : Int) := by omega
    have h1 := List.getElem_idxOf (idx_lt h (show i < p.length by omega))
    have h2 := List.getElem_idxOf (idx_lt h hj)
    simp only [e'] at h1
    rw [h1] at h2
    omega
  · obtain ⟨i, hi, rfl⟩ := List.getElem_of_mem hx
    rw [invL_len] at hi ⊢
    rw [invL_get h hi]
    have := idx_lt h hi
    omega
/-- The place of a place's number in its inverse. -/
theorem inv_at {p : List Int} (h : OrdP p) {i : Nat} (hi : i < p.length) : ∃ j : Nat, ∃ hj : j < p.length, p[i] = (j : Int) ∧ (invL p)[j]'(by rw [invL_len]; exact hj) = (i : Int) := by
  have h1 := h.2 p[i] (List.getElem_mem _)
  refine ⟨p[i].toNat, by omega, by omega, ?_⟩
  rw [invL_get h (by omega)]
  have : ((p[i].toNat : Nat) : Int) = p[i] := by omega
  rw [this]
  congr 1
  exact List.Nodup.idxOf_getElem h.1 i hi
theorem inv_of {p : List Int} (h : OrdP p) {j : Nat} (hj : j < p.length) : ∃ i : Nat, ∃ hi : i < p.length, (invL p)[j]'(by rw [invL_len]; exact hj) = (i : Int) ∧ p[i] = (j : Int) :=
  ⟨_, idx_lt h hj, invL_get h hj, List.getElem_idxOf (idx_lt h hj)⟩
theorem invL_invL {p : List Int} (h : OrdP p) : invL (invL p) = p := by
  have hq := invL_ord h
  refine List.ext_getElem (by rw [invL_len, invL_len]) fun i h1 h2 => ?_
  obtain ⟨j, hj, e1, e2⟩ := inv_at h h2
  obtain ⟨k, hk, e3, e4⟩ := inv_at hq (show j < (invL p).length by rw [invL_len]; exact hj)
  rw [e2] at e3
  obtain rfl : i = k := by omega
  rw [e4, e1]
/-- What stands in l, in the order p. -/
def applyL (p l : List Int) : List Int := p.map fun x => l.getD x.toNat 0
theorem applyL_len (p l : List Int) : (applyL p l).length = p.length := by unfold applyL; simp
theorem applyL_get {p l : List Int} {i : Nat} (hi : i < p.length) : (applyL p l)[i]'(by rw [applyL_len]; exact hi) = l.getD p[i].toNat 0 := by unfold applyL; simp
/-- An order in itself, and in its inverse, is itself. -/
theorem apply_back {p : List Int} (h : OrdP p) : applyL (invL p) (applyL p p) = p := by
  refine List.ext_getElem (by rw [applyL_len, invL_len]) fun j h1 hj => ?_
  obtain ⟨i, hi, e1, e2⟩ := inv_of h hj
  rw [applyL_get (by rw [invL_len]; exact hj), e1, List.getD_eq_getElem?_getD, Int.toNat_natCast, List.getElem?_eq_getElem (by rw [applyL_len]; exact hi)]
  show (applyL p p)[i]'(by rw [applyL_len]; exact hi) = _
  rw [applyL_get hi, e2, Int.toNat_natCast, List.getD_eq_getElem?_getD, List.getElem?_eq_getElem hj]
  rfl
theorem byZ_ord (ks : List Int) : OrdP (zs (byL ks)) := by
  refine ⟨?_, fun x hx => ?_⟩
  · unfold zs
    rw [List.nodup_iff_pairwise_ne, List.pairwise_map]
    exact (List.nodup_iff_pairwise_ne.1 (byL_nodup ks)).imp (fun h e => h (by omega))
  · unfold zs at hx ⊢
    rw [List.mem_map] at hx
    obtain ⟨i, hi, rfl⟩ := hx
    have := byL_lt ks hi
    rw [List.length_map, byL_len]
    omega
/-! ### Keys in order -/
def sortK (ks : List Int) : List Int := ks.mergeSort (fun x y => decide (x ≤ y))
theorem sortK_len (ks : List Int) : (sortK ks).length = ks.length := by unfold sortK; simp
theorem sortK_by (ks : List Int) : sortK ks = (byL ks).map fun i => ks.getD i 0 := by
  unfold sortK
  refine List.Perm.eq_of_pairwise (le := fun x y : Int => x ≤ y) (fun a b _ _ h1 h2 => by omega) ?_ ?_ ?_
  · have := List.pairwise_mergeSort (le := fun x y : Int => decide (x ≤ y)) (fun a b c h1 h2 => by simp at *; omega) (fun a b => by simp; omega) ks
    exact this.imp (fun h => by simpa using h)
  · rw [List.pairwise_map]
    exact (byL_le ks).imp (fun h => by unfold ltK at h; omega)
  · refine (List.mergeSort_perm _ _).trans ?_
    have h1 : ks = (List.range ks.length).map fun i => ks.getD i 0 := by
      refine List.ext_getElem (by simp) fun i h1 h2 => ?_
      simp [List.getD_eq_getElem?_getD, h1]
    have h2 := ((byL_perm ks).map fun i => ks.getD i 0).symm
    rw [← h1] at h2
    exact h2
theorem sortK_at (ks : List Int) {i : Nat} (hi : i < ks.length) : (sortK ks)[i]'(by rw [sortK_len]; exact hi) = ks.getD ((byL ks)[i]'(by rw [byL_len]; exact hi)) 0 := by
  simp only [sortK_by]
  simp
end Go.Proofs.Ytemcbhbobfjnkaa.RankPure
