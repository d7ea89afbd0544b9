/- Texts that the laws of this seat stand on, part 3. -/
import Derived.Test.YtceejjgmepaonaaGreatDoorPk2
/- Graphs, plainly: what the edges of a vertex weigh, its other ends, and that all of them together weigh twice what there is. No program in sight. -/
namespace Go.Proofs.YtceejjgmepaonaaGreatDoor.NtPure
open Go.RowKit NumPure EdPure
/-- What there is between two. -/
def weiE (M : List Ed) (u v : Int) : Int := wOf M (min u v) (max u v)
theorem wei_symm (M : List Ed) (u v : Int) : weiE M u v = weiE M v u := by unfold weiE; rw [Int.min_comm, Int.max_comm]
/-- Which edges a vertex has, what they weigh, and their other ends. -/
def atB (v : Int) (e : Ed) : Bool := decide (e.1 = v ∨ e.2.1 = v)
def othE (v : Int) (e : Ed) : Int := if e.1 = v then e.2.1 else e.1
def ofE (v : Int) (e : Ed) : Int := if atB v e = true then e.2.2 else 0
def degE (M : List Ed) (v : Int) : Int := (M.map (ofE v)).sum
def nearE (M : List Ed) (v : Int) : List Int := (M.filter (atB v)).map (othE v)
theorem deg_cons (e : Ed) (M : List Ed) (v : Int) : degE (e :: M) v = ofE v e + degE M v := by unfold degE; simp
theorem deg_append (L M : List Ed) (v : Int) : degE (L ++ M) v = degE L v + degE M v := by unfold degE; simp
/-- A graph's edges: in order, each in its normal form, each weighs something, all ends are there. -/
def GoodN (n : Int) (M : List Ed) : Prop := GoodM M ∧ (∀ e ∈ M, 0 ≤ e.1 ∧ e.2.1 < n ∧ 0 < e.2.2) ∧ allW M ≤ 2251799813685248
theorem GoodN.non {n : Int} {M : List Ed} (h : GoodN n M) : NonNeg M := fun e he => by have := (h.2.1 e he).2.2; omega
/-- What all edges between two weigh, one by one. -/
def betE (u v : Int) (e : Ed) : Int := if btwB u v e = true then e.2.2 else 0
def betS (M : List Ed) (u v : Int) : Int := (M.map (betE u v)).sum
theorem bet_cons (e : Ed) (M : List Ed) (u v : Int) : betS (e :: M) u v = betE u v e + betS M u v := by unfold betS; simp
theorem btw_is {u v : Int} {e : Ed} (h : e.1 < e.2.1) : btwB u v e = decide (isAt (min u v) (max u v) e) := by
  unfold btwB
  exact decide_eq_decide.2 (by unfold isAt; omega)
theorem wei_sum {M : List Ed} (h : GoodM M) (u v : Int) : weiE M u v = betS M u v := by
  obtain ⟨h1, h2⟩ := h
  unfold weiE
  induction M with
  | nil => rfl
  | cons e r ih =>
    obtain ⟨p1, p2⟩ := List.pairwise_cons.1 h1
    have hr := ih p2 (fun y hy => h2 y (by simp [hy]))
    have hx := btw_is (u := u) (v := v) (h2 e (by simp)).1
    rw [bet_cons]
    unfold betE
    rw [hx]
    by_cases hu : isAt (min u v) (max u v) e
    · simp only [wOf, if_pos hu]
      rw [if_pos (decide_eq_true hu), ← hr]
      have hz : wOf r (min u v) (max u v) = 0 := by
        refine hasM_no ?_
        have := no_above p1
        rw [hu.1, hu.2] at this
        exact this
      omega
    · simp only [wOf, if_neg hu]
      rw [if_neg (by simp [hu]), hr]
      omega
/-! ### Summed over all vertices -/
def sumN (f : Int → Int) : Nat → Int
  | 0 => 0
  | k + 1 => sumN f k + f k
theorem sumN_add (f g : Int → Int) (n : Nat) : sumN (fun u => f u + g u) n = sumN f n + sumN g n := by
  induction n with
  | zero => rfl
  | succ n ih => unfold sumN; omega
theorem sumN_congr {f g : Int → Int} {n : Nat} (h : ∀ k : Nat, k < n → f k = g k) : sumN f n = sumN g n := by
  induction n with
  | zero => rfl
  | succ n ih => unfold sumN; rw [ih (fun k hk => h k (by omega)), h n (by omega)]
theorem sumN_zero (n : Nat) : sumN (fun _ => 0) n = 0 := by
  induction n with
  | zero => rfl
  | succ n ih => unfold sumN; omega
theorem sumN_one (x w : Int) (n : Nat) : sumN (fun u => if u = x then w else 0) n = if 0 ≤ x ∧ x < n then w else 0 := by
  induction n with
  | zero => show (0 : Int) = _; rw [if_neg (by omega)]
  | succ n ih =>
    unfold sumN
    rw [ih]
    by_cases h1 : 0 ≤ x ∧ x < n
    · rw [if_pos h1, if_neg (by omega), if_pos (by omega)]; omega
    · rw [if_neg h1]
      by_cases h2 : (n : Int) = x
      · rw [if_pos h2, if_pos (by omega)]; omega
      · rw [if_neg h2, if_neg (by omega)]; omega
theorem sumN_pos {f : Int → Int} (h : ∀ u, 0 ≤ f u) (n : Nat) : 0 ≤ sumN f n := by
  induction n with
  | zero => exact Int.le_refl _
  | succ n ih => have := h n; unfold sumN; omega
theorem sumN_mono {f : Int → Int} (h : ∀ u, 0 ≤ f u) {k n : Nat} (hk : k ≤ n) : sumN f k ≤ sumN f n := by
  induction n with
  | zero => have : k = 0 := by omega
            subst this; exact Int.le_refl _
  | succ n ih =>
    have hn := h n
    have e : sumN f (n + 1) = sumN f n + f n := rfl
    by_cases hk' : k ≤ n
    · have := ih hk'; omega
    · have : k = n + 1 := by omega
      subst this; exact Int.le_refl _
/-- All that lies between v and each vertex is what v's edges weigh. -/
theorem deg_sum {n : Nat} {M : List Ed} (h : GoodN n M) (v : Int) : sumN (fun u => weiE M u v) n = degE M v := by
  obtain ⟨h1, h2, -⟩ := h
  have e1 : sumN (fun u => weiE M u v) n = sumN (fun u => betS M u v) n := sumN_congr fun k _ => wei_sum h1 k v
  rw [e1]
  have h3 := h1.2
  clear h1 e1
  induction M with
  | nil => exact sumN_zero n
  | cons e r ih =>
    have hr := ih (fun y hy => h2 y (by simp [hy])) (fun y hy => h3 y (by simp [hy]))
    have he := h2 e (by simp)
    have hl := (h3 e (by simp)).1
    have e2 : sumN (fun u => betS (e :: r) u v) n = sumN (fun u => betE u v e + betS r u v) n := sumN_congr fun k _ => bet_cons e r k v
    rw [e2, sumN_add, hr, deg_cons]
    have e3 : sumN (fun u => betE u v e) n = ofE v e := by
      unfold ofE
      by_cases hv : atB v e = true
      · rw [if_pos hv]
        have : sumN (fun u => betE u v e) n = sumN (fun u => if u = othE v e then e.2.2 else 0) n := sumN_congr fun k _ => by
          unfold betE btwB othE
          unfold atB at hv
          simp only [decide_eq_true_eq] at hv ⊢
          by_cases h5 : e.1 = v
          · rw [if_pos h5]
            by_cases h6 : (k : Int) = e.2.1
            · rw [if_pos (by omega), if_pos h6]
            · rw [if_neg (by omega), if_neg h6]
          · rw [if_neg h5]
            by_cases h6 : (k : Int) = e.1
            · rw [if_pos (by omega), if_pos h6]
            · rw [if_neg (by omega), if_neg h6]
        rw [this, sumN_one, if_pos]
        unfold othE
        split <;> omega
      · rw [if_neg hv]
        have : sumN (fun u => betE u v e) n = sumN (fun _ => 0) n := sumN_congr fun k _ => by
          unfold betE btwB
          unfold atB at hv
          simp only [decide_eq_true_eq] at hv ⊢
          rw [if_neg (by omega)]
        rw [this, sumN_zero]
    rw [e3]
/-- All together twice. -/
theorem deg_all {n : Nat} {M : List Ed} (h : GoodN n M) : sumN (degE M) n = 2 * allW M := by
  obtain ⟨h1, h2, -⟩ := h
  have h3 := h1.2
  clear h1
  induction M with
  | nil => exact sumN_zero n
  | cons e r ih =>
    have hr := ih (fun y hy => h2 y (by simp [hy])) (fun y hy => h3 y (by simp [hy]))
    have he := h2 e (by simp)
    have hl := (h3 e (by simp)).1
    have e2 : sumN (degE (e :: r)) n = sumN (fun v => ofE v e + degE r v) n := sumN_congr fun k _ => deg_cons e r k
    have e3 : sumN (fun v => ofE v e) n = sumN (fun v => (if v = e.1 then e.2.2 else 0) + (if v = e.2.1 then e.2.2 else 0)) n := sumN_congr fun k _ => by
      unfold ofE atB
      simp only [decide_eq_true_eq]
      by_cases h5 : (k : Int) = e.1
      · rw [if_pos (by omega), if_pos h5, if_neg (by omega)]; omega
      · by_cases h6 : (k : Int) = e.2.1
        · rw [if_pos (by omega), if_neg h5, if_pos h6]; omega
        · rw [if_neg (by omega), if_neg h5, if_neg h6]; omega
    rw [e2, sumN_add (fun v => ofE v e) (degE r), e3, sumN_add (fun v => if v = e.1 then e.2.2 else 0), sumN_one, sumN_one, if_pos (by omega), if_pos (by omega), hr, allW_cons]
    omega
theorem deg_rng {M : List Ed} (h : NonNeg M) (v : Int) : 0 ≤ degE M v ∧ degE M v ≤ allW M := by
  induction M with
  | nil => simp [degE, allW]
  | cons e r ih =>
    have := ih (fun x hx => h x (by simp [hx]))
    have := h e (by simp)
    rw [deg_cons, allW_cons]
    unfold ofE
    split <;> omega
theorem wei_rng {n : Int} {M : List Ed} (h : GoodN n M) (u v : Int) : 0 ≤ weiE M u v ∧ weiE M u v ≤ allW M := by
  unfold weiE
  rw [← good_sum h.1]
  exact sumW_rng h.non _ _
/-! ### The other ends -/
theorem wei_oth {n : Int} {M : List Ed} (h : GoodN n M) {v : Int} {e : Ed} (he : e ∈ M) (hv : atB v e = true) : weiE M v (othE v e) = e.2.2 := by
  have hl := (h.1.2 e he).1
  have hw := (mem_wOf h.1.1 he).1
  unfold atB at hv
  simp only [decide_eq_true_eq] at hv
  unfold weiE othE
  split
  · next h5 =>
    rw [show min v e.2.1 = e.1 by omega, show max v e.2.1 = e.2.1 by omega]; exact hw
  · next h5 =>
    rw [show min v e.1 = e.1 by omega, show max v e.1 = e.2.1 by omega]; exact hw
theorem near_sum {n : Int} {M : List Ed} (h : GoodN n M) (v : Int) : ((nearE M v).map (weiE M v)).sum = degE M v := by
  have key : ∀ L : List Ed, (∀ e ∈ L, e ∈ M) → ((nearE L v).map (weiE M v)).sum = degE L v := by
    intro L
    induction L with
    | nil => intro _; rfl
    | cons e r ih =>
      intro hs
      have hr := ih (fun x hx => hs x (by simp [hx]))
      rw [deg_cons]
      unfold nearE ofE at *
      by_cases hv : atB v e = true
      · rw [List.filter_cons_of_pos hv, List.map_cons, List.map_cons, List.sum_cons, hr, wei_oth h (hs e (by simp)) hv, if_pos hv]
      · rw [List.filter_cons_of_neg hv, hr, if_neg hv]; omega
  exact key M fun _ he => he
theorem near_mem {n : Int} {M : List Ed} (h : GoodN n M) (v u : Int) : u ∈ nearE M v ↔ 0 < weiE M u v := by
  unfold nearE
  rw [List.mem_map]
  constructor
  · rintro ⟨e, he, rfl⟩
    obtain ⟨h1, h2⟩ := List.mem_filter.1 he
    rw [wei_symm, wei_oth h h1 h2]
    exact (h.2.1 e h1).2.2
  · intro hp
    unfold weiE at hp
    cases hh : hasM M (min u v) (max u v)
    · rw [hasM_no hh] at hp; omega
    · obtain ⟨x, hx, x1, x2⟩ := hasM_iff.1 hh
      have hl := (h.1.2 x hx).1
      refine ⟨x, List.mem_filter.2 ⟨hx, ?_⟩, ?_⟩
      · unfold atB; simp only [decide_eq_true_eq]; omega
      · unfold othE; split <;> omega
theorem near_in {n : Int} {M : List Ed} (h : GoodN n M) {v u : Int} (hu : u ∈ nearE M v) : 0 ≤ u ∧ u < n := by
  unfold nearE at hu
  obtain ⟨e, he, rfl⟩ := List.mem_map.1 hu
  have h1 := (List.mem_filter.1 he).1
  have := h.2.1 e h1
  have := (h.1.2 e h1).1
  unfold othE
  split <;> omega
theorem near_rises {M : List Ed} (h : GoodM M) (v : Int) : (nearE M v).Pairwise (· < ·) := by
  unfold nearE
  rw [List.pairwise_map]
  refine List.Pairwise.imp_of_mem (R := lt2) ?_ (h.1.filter _)
  intro a b ha hb hab
  obtain ⟨a1, a2⟩ := List.mem_filter.1 ha
  obtain ⟨b1, b2⟩ := List.mem_filter.1 hb
  have a3 := (h.2 a a1).1
  have b3 := (h.2 b b1).1
  unfold atB at a2 b2
  simp only [decide_eq_true_eq] at a2 b2
  unfold lt2 at hab
  unfold othE
  split <;> split <;> omega
/-- The document's own: each vertex is asked. -/
def nearN (M : List Ed) (v : Int) : Nat → List Int
  | 0 => []
  | k + 1 => nearN M v k ++ (if 0 < weiE M k v then [(k : Int)] else [])
theorem nearN_mem (M : List Ed) (v u : Int) (n : Nat) : u ∈ nearN M v n ↔ (0 ≤ u ∧ u < n) ∧ 0 < weiE M u v := by
  induction n with
  | zero => unfold nearN; simp; omega
  | succ n ih =>
    unfold nearN
    rw [List.mem_append, ih]
    constructor
    · rintro (⟨h1, h2⟩ | h1)
      · exact ⟨by omega, h2⟩
      · split at h1
        · next h3 => rw [List.mem_singleton] at h1; subst h1; exact ⟨by omega, h3⟩
        · simp at h1
    · rintro ⟨h1, h2⟩
      by_cases h3 : u < n
      · exact Or.inl ⟨by omega, h2⟩
      · have : u = n := by omega
        subst this
        rw [if_pos h2]; simp
theorem nearN_rises (M : List Ed) (v : Int) (n : Nat) : (nearN M v n).Pairwise (· < ·) := by
  induction n with
  | zero => exact List.Pairwise.nil
  | succ n ih =>
    unfold nearN
    refine List.pairwise_append.2 ⟨ih, by split <;> simp, fun a ha b hb => ?_⟩
    have := ((nearN_mem M v a n).1 ha).1
    split at hb
    · rw [List.mem_singleton] at hb; omega
    · simp at hb
theorem nearN_len (M : List Ed) (v : Int) (n : Nat) : (nearN M v n).length ≤ n := by
  induction n with
  | zero => exact Nat.le_refl _
  | succ n ih =>
    unfold nearN
    rw [List.length_append]
    split <;> simp <;> omega
theorem near_eq {n : Nat} {M : List Ed} (h : GoodN n M) (v : Int) : nearN M v n = nearE M v := by
  have nd : ∀ {l : List Int}, l.Pairwise (· < ·) → l.Nodup := fun {l} hl => hl.imp (fun {a b} hab e => by omega)
  have h1 := nearN_rises M v n
  have h2 := near_rises h.1 v
  refine List.Perm.eq_of_pairwise (le := (· < ·)) (fun a b _ _ h1 h2 => by omega) h1 h2 ?_
  refine (List.perm_ext_iff_of_nodup (nd h1) (nd h2)).2 fun x => ?_
  rw [nearN_mem, near_mem h]
  exact ⟨fun hh => hh.2, fun hh => ⟨near_in h ((near_mem h v x).2 hh), hh⟩⟩
/-! ### What may be a graph is one -/
theorem add_all {M M' : List Ed} {e : Ed} (h : addL M e = some M') : allW M' = allW M + e.2.2 := by
  induction M generalizing M' with
  | nil =>
    simp only [addL, Option.some.injEq] at h
    subst h
    simp [allW]
  | cons x r ih =>
    unfold addL at h
    split at h
    · split at h
      · rw [Option.some.injEq] at h
        subst h
        rw [allW_cons, allW_cons]
        simp only
        omega
      · cases h
    · split at h
      · rw [Option.some.injEq] at h
        subst h
        rw [allW_cons]; omega
      · obtain ⟨r', h1, h2⟩ := Option.map_eq_some_iff.1 h
        subst h2
        rw [allW_cons, allW_cons, ih h1]; omega
theorem gath_le {l : List Ed} (hn : NonNeg l) (k : Nat) : k ≤ l.length → ∀ {M : List Ed}, gathM (l.take k) = some M → allW M ≤ allW (l.take k) := by
  induction k with
  | zero =>
    intro _ M h
    rw [List.take_zero] at h ⊢
    have : some [] = some M := h
    rw [Option.some.injEq] at this
    subst this; exact Int.le_refl _
  | succ k ih =>
    intro hk M h
    have hk' : k < l.length := by omega
    rw [gath_take hk'] at h
    rw [List.take_succ_eq_append_getElem hk', allW_append]
    have he := hn l[k] (List.getElem_mem hk')
    have h1 : allW [l[k]] = l[k].2.2 := by simp [allW]
    rw [h1]
    cases hg : gathM (l.take k) with
    | none => rw [hg] at h; cases h
    | some A =>
      have hi := ih (by omega) hg
      rw [hg] at h
      unfold stepM at h
      rw [Option.bind_some] at h
      split at h
      · rw [Option.some.injEq] at h
        subst h; omega
      · rw [add_all h, norm_w]; omega
theorem nonz_all (M : List Ed) : allW (nonz M) = allW M := by
  unfold nonz
  induction M with
  | nil => rfl
  | cons e r ih =>
    by_cases h : e.2.2 = 0
    · rw [List.filter_cons_of_neg (by simp [h]), ih, allW_cons]; omega
    · rw [List.filter_cons_of_pos (by simp [h]), allW_cons, allW_cons, ih]
theorem merged {n : Int} {l : List Ed} (hl : InL l) (hc : ∀ e ∈ l, chkE n e = 0) (hn : l.length ≤ 1048576) :
    ∃ M, mergeE l = some M ∧ GoodN n M ∧ M.length ≤ l.length := by
  have hk : ∀ e ∈ l, (0 ≤ e.1 ∧ e.1 < n) ∧ (0 ≤ e.2.1 ∧ e.2.1 < n) ∧ 0 ≤ e.2.2 ∧ e.2.2 ≤ 2147483648 := fun e he => by
    have := hc e he
    unfold chkE at this
    split at this
    · next h1 =>
      split at this
      · next h2 => exact ⟨h1.1, h1.2, h2.1, h2.2⟩
      · omega
    · omega
  have hnn : NonNeg l := fun e he => (hk e he).2.2.1
  have hall : allW l ≤ 2251799813685248 := by
    have := allW_le (fun e he => (hk e he).2.2.2) (by omega) hn
    omega
  obtain ⟨M, h1, h2, h3, h4⟩ := gath_all hl hnn (by omega)
  have hmem : ∀ x ∈ M, ∃ e ∈ l, isAt x.1 x.2.1 (normE e) := fun x hx => by
    have := (mem_wOf h2.1 hx).2
    rw [h3] at this
    unfold hasE at this
    obtain ⟨e, he, hp⟩ := List.any_eq_true.1 this
    unfold pairB at hp
    simp only [Bool.and_eq_true, decide_eq_true_eq] at hp
    exact ⟨e, he, hp.2⟩
  have hMn : ∀ x ∈ M, 0 ≤ x.2.2 := fun x hx => by
    have e1 := (mem_wOf h2.1 hx).1
    rw [h4] at e1
    have := (sumW_rng hnn x.1 x.2.1).1
    omega
  refine ⟨nonz M, by unfold mergeE; rw [h1]; rfl, ⟨nonz_good h2, fun x hx => ?_, ?_⟩, Nat.le_trans (List.length_filter_le _ _) (gath_good hl h1).2⟩
  · obtain ⟨x1, x2⟩ := List.mem_filter.1 hx
    have x3 : x.2.2 ≠ 0 := by simpa using x2
    obtain ⟨e, he, y1, y2⟩ := hmem x x1
    have := hk e he
    have := hMn x x1
    unfold normE at y1 y2
    by_cases hq : e.2.1 < e.1
    · rw [if_pos hq] at y1 y2
      simp only at y1 y2
      omega
    · rw [if_neg hq] at y1 y2
      omega
  · rw [nonz_all]
    have := gath_le hnn l.length (Nat.le_refl _) (M := M) (by rw [List.take_length]; exact h1)
    rw [List.take_length] at this
    omega
end Go.Proofs.YtceejjgmepaonaaGreatDoor.NtPure
/- Cuts, plainly: what crosses a side, what that weighs; a side and its other side weigh the same, what two share and what both have weigh together no more than both; the least cut between two, its least side. No program in sight. -/
namespace Go.Proofs.YtceejjgmepaonaaGreatDoor.CutPure
open EdPure NtPure
/-- Does an edge cross a side? -/
def crossB (S : Int → Bool) (e : Ed) : Bool := S e.1 != S e.2.1
def crE (S : Int → Bool) (e : Ed) : Int := if crossB S e = true then e.2.2 else 0
/-- What all edges that cross a side weigh. -/
def cutW (M : List Ed) (S : Int → Bool) : Int := (M.map (crE S)).sum
theorem cut_nil (S : Int → Bool) : cutW [] S = 0 := rfl
theorem cut_cons (e : Ed) (M : List Ed) (S : Int → Bool) : cutW (e :: M) S = crE S e + cutW M S := by unfold cutW; simp
theorem cut_append (L M : List Ed) (S : Int → Bool) : cutW (L ++ M) S = cutW L S + cutW M S := by unfold cutW; simp
theorem cut_snoc (M : List Ed) (e : Ed) (S : Int → Bool) : cutW (M ++ [e]) S = cutW M S + crE S e := by rw [cut_append, cut_cons, cut_nil]; omega
theorem cr_congr {S T : Int → Bool} {e : Ed} (h1 : S e.1 = T e.1) (h2 : S e.2.1 = T e.2.1) : crE S e = crE T e := by unfold crE crossB; rw [h1, h2]
theorem cut_congr {M : List Ed} {S T : Int → Bool} (h : ∀ e ∈ M, S e.1 = T e.1 ∧ S e.2.1 = T e.2.1) : cutW M S = cutW M T := by
  induction M with
  | nil => rfl
  | cons e r ih => rw [cut_cons, cut_cons, cr_congr (h e (by simp)).1 (h e (by simp)).2, ih (fun x hx => h x (by simp [hx]))]
theorem cut_same {n : Int} {M : List Ed} (hM : GoodN n M) {S T : Int → Bool} (h : ∀ v, 0 ≤ v → v < n → S v = T v) : cutW M S = cutW M T := by
  refine cut_congr fun e he => ?_
  have h1 := hM.2.1 e he
  have h2 := (hM.1.2 e he).1
  exact ⟨h _ (by omega) (by omega), h _ (by omega) (by omega)⟩
theorem cut_not (M : List Ed) (S : Int → Bool) : cutW M (fun v => !S v) = cutW M S := by
  induction M with
  | nil => rfl
  | cons e r ih =>
    have h : crossB (fun v => !S v) e = crossB S e := by
      show ((!S e.1) != (!S e.2.1)) = (S e.1 != S e.2.1)
      cases S e.1 <;> cases S e.2.1 <;> rfl
    rw [cut_cons, cut_cons, ih]
    unfold crE
    rw [h]
theorem cr_nonneg {e : Ed} (h : 0 ≤ e.2.2) (S : Int → Bool) : 0 ≤ crE S e := by unfold crE; split <;> omega
theorem cut_nonneg {M : List Ed} (h : NonNeg M) (S : Int → Bool) : 0 ≤ cutW M S := by
  induction M with
  | nil => exact Int.le_refl _
  | cons e r ih =>
    have h1 := cr_nonneg (h e (by simp)) S
    have h2 := ih (fun x hx => h x (by simp [hx]))
    rw [cut_cons]; omega
theorem cut_le_all {M : List Ed} (h : NonNeg M) (S : Int → Bool) : cutW M S ≤ allW M := by
  induction M with
  | nil => exact Int.le_refl _
  | cons e r ih =>
    have h1 := h e (by simp)
    have h2 := ih (fun x hx => h x (by simp [hx]))
    have h3 : crE S e ≤ e.2.2 := by unfold crE; split <;> omega
    have h4 : allW (e :: r) = e.2.2 + allW r := by unfold allW; simp
    rw [cut_cons, h4]; omega
theorem bool_two (x : Int) (h : 0 ≤ x) (a b c d : Bool) : (if ((a && c) != (b && d)) = true then x else 0) + (if ((a || c) != (b || d)) = true then x else 0) ≤ (if (a != b) = true then x else 0) + (if (c != d) = true then x else 0) := by
  cases a <;> cases b <;> cases c <;> cases d <;> simp <;> omega
theorem bool_xor (x : Int) (h : 0 ≤ x) (a b c d : Bool) : (if ((a != c) != (b != d)) = true then x else 0) ≤ (if (a != b) = true then x else 0) + (if (c != d) = true then x else 0) := by
  cases a <;> cases b <;> cases c <;> cases d <;> simp <;> omega
/-- What two sides share, and what both have, weigh together no more than both. -/
theorem cut_two {M : List Ed} (h : NonNeg M) (S T : Int → Bool) : cutW M (fun v => S v && T v) + cutW M (fun v => S v || T v) ≤ cutW M S + cutW M T := by
  induction M with
  | nil => exact Int.le_refl _
  | cons e r ih =>
    have h1 := h e (by simp)
    have h2 := ih (fun x hx => h x (by simp [hx]))
    simp only [cut_cons]
    have h3 : crE (fun v => S v && T v) e + crE (fun v => S v || T v) e ≤ crE S e + crE T e := bool_two _ h1 (S e.1) (S e.2.1) (T e.1) (T e.2.1)
    omega
/-- What one has and the other has not, either way. -/
theorem cut_apart {M : List Ed} (h : NonNeg M) (S T : Int → Bool) : cutW M (fun v => S v && !T v) + cutW M (fun v => T v && !S v) ≤ cutW M S + cutW M T := by
  have h1 := cut_two h S (fun v => !T v)
  rw [cut_not M T] at h1
  have h2 : cutW M (fun v => S v || !T v) = cutW M (fun v => T v && !S v) := by
    rw [← cut_not M (fun v => T v && !S v)]
    have hb : ∀ a b : Bool, (a || !b) = !(b && !a) := by decide
    exact cut_congr fun e _ => ⟨hb _ _, hb _ _⟩
  rw [h2] at h1
  exact h1
/-- What just one of two sides has. -/
theorem cut_xor {M : List Ed} (h : NonNeg M) (S T : Int → Bool) : cutW M (fun v => S v != T v) ≤ cutW M S + cutW M T := by
  induction M with
  | nil => exact Int.le_refl _
  | cons e r ih =>
    have h1 := h e (by simp)
    have h2 := ih (fun x hx => h x (by simp [hx]))
    simp only [cut_cons]
    have h3 : crE (fun v => S v != T v) e ≤ crE S e + crE T e := bool_xor _ h1 (S e.1) (S e.2.1) (T e.1) (T e.2.1)
    omega
theorem cut_none (M : List Ed) (b : Bool) : cutW M (fun _ => b) = 0 := by
  induction M with
  | nil => rfl
  | cons e r ih =>
    rw [cut_cons, ih]
    unfold crE crossB
    simp
/-! ### The least number with a property -/
theorem least_ex {P : Nat → Prop} (h : ∃ k, P k) : ∃ k, P k ∧ ∀ j, P j → k ≤ j := by
  obtain ⟨k, hk⟩ := h
  induction k using Nat.strongRecOn with
  | _ k ih =>
    by_cases h : ∃ j, j < k ∧ P j
    · obtain ⟨j, hj, hp⟩ := h
      exact ih j hj hp
    · exact ⟨k, hk, fun j hj => by
        by_cases hjk : k ≤ j
        · exact hjk
        · exact absurd ⟨j, by omega, hj⟩ h⟩
/-- A side that parts s from t, with s in it. -/
def Parts (S : Int → Bool) (s t : Int) : Prop := S s = true ∧ S t = false
/-- Of the sides that part s from t one weighs w, and none less. -/
def IsLam (M : List Ed) (s t : Int) (w : Int) : Prop := (∃ S, Parts S s t ∧ cutW M S = w) ∧ ∀ S, Parts S s t → w ≤ cutW M S
theorem lam_ex {M : List Ed} (h : NonNeg M) {s t : Int} (hst : s ≠ t) : ∃ w, IsLam M s t w := by
  have h0 : ∃ k : Nat, ∃ S, Parts S s t ∧ cutW M S = (k : Int) := by
    refine ⟨(cutW M (fun v => decide (v = s))).toNat, fun v => decide (v = s), ⟨by simp, by simp; omega⟩, ?_⟩
    have := cut_nonneg h (fun v => decide (v = s))
    omega
  obtain ⟨k, hk, hl⟩ := least_ex h0
  refine ⟨k, hk, fun S hS => ?_⟩
  have h1 := cut_nonneg h S
  have := hl (cutW M S).toNat ⟨S, hS, by omega⟩
  omega
theorem lam_one {M : List Ed} {s t w w' : Int} (h : IsLam M s t w) (h' : IsLam M s t w') : w = w' := by
  obtain ⟨⟨S, hS, e⟩, hl⟩ := h
  obtain ⟨⟨S', hS', e'⟩, hl'⟩ := h'
  have h1 := hl S' hS'
  have h2 := hl' S hS
  omega
theorem parts_not {S : Int → Bool} {s t : Int} (h : Parts S s t) : Parts (fun v => !S v) t s := by
  unfold Parts at *
  simp only [h.1, h.2]
  exact ⟨rfl, rfl⟩
theorem lam_symm {M : List Ed} {s t w : Int} (h : IsLam M s t w) : IsLam M t s w := by
  obtain ⟨⟨S, hS, e⟩, hl⟩ := h
  refine ⟨⟨fun v => !S v, parts_not hS, by rw [cut_not]; exact e⟩, fun T hT => ?_⟩
  rw [← cut_not]
  exact hl _ (parts_not hT)
/-- A least side between s and t. -/
def LeastS (M : List Ed) (s t : Int) (S : Int → Bool) : Prop := Parts S s t ∧ ∀ T, Parts T s t → cutW M S ≤ cutW M T
theorem LeastS.lam {M : List Ed} {s t : Int} {S : Int → Bool} (h : LeastS M s t S) : IsLam M s t (cutW M S) := ⟨⟨S, h.1, rfl⟩, h.2⟩
theorem leastS_of {M : List Ed} {s t w : Int} {S : Int → Bool} (h : IsLam M s t w) (hp : Parts S s t) (e : cutW M S = w) : LeastS M s t S := ⟨hp, fun T hT => by rw [e]; exact h.2 T hT⟩
/-- What two least sides share is one. -/
theorem least_and {M : List Ed} (h : NonNeg M) {s t : Int} {S T : Int → Bool} (hS : LeastS M s t S) (hT : LeastS M s t T) : LeastS M s t (fun v => S v && T v) ∧ LeastS M s t (fun v => S v || T v) := by
  have p1 : Parts (fun v => S v && T v) s t := ⟨by simp [hS.1.1, hT.1.1], by simp [hS.1.2]⟩
  have p2 : Parts (fun v => S v || T v) s t := ⟨by simp [hS.1.1], by simp [hS.1.2, hT.1.2]⟩
  have h1 := cut_two h S T
  have h2 := hS.2 _ p1
  have h3 := hS.2 _ p2
  have h4 := hT.2 _ hS.1
  have h5 := hS.2 _ hT.1
  exact ⟨⟨p1, fun U hU => by have := hS.2 U hU; omega⟩, ⟨p2, fun U hU => by have := hS.2 U hU; omega⟩⟩
/-- How many vertices below n a side has. -/
def cntS (S : Int → Bool) : Nat → Nat
  | 0 => 0
  | k + 1 => cntS S k + (if S (k : Int) = true then 1 else 0)
theorem cnt_le {S T : Int → Bool} {n : Nat} (h : ∀ k : Nat, k < n → S k = true → T k = true) : cntS S n ≤ cntS T n := by
  induction n with
  | zero => exact Nat.le_refl _
  | succ n ih =>
    have h1 := ih (fun k hk => h k (by omega))
    have h2 := h n (by omega)
    unfold cntS
    by_cases hs : S n = true
    · rw [if_pos hs, if_pos (h2 hs)]; omega
    · rw [if_neg hs]; omega
theorem cnt_eq {S T : Int → Bool} {n : Nat} (h : ∀ k : Nat, k < n → S k = true → T k = true) (e : cntS S n = cntS T n) : ∀ k : Nat, k < n → S k = T k := by
  induction n with
  | zero => intro k hk; omega
  | succ n ih =>
    have h1 := cnt_le (S := S) (T := T) (n := n) (fun k hk => h k (by omega))
    have h2 := h n (by omega)
    unfold cntS at e
    have h3 : S n = T n := by
      cases hs : S n with
      | true => exact (h2 hs).symm
      | false =>
        cases ht : T n with
        | false => rfl
        | true => rw [if_neg (by rw [hs]; decide), if_pos ht] at e; omega
    have h4 : cntS S n = cntS T n := by rw [h3] at e; omega
    intro k hk
    by_cases hkn : k = n
    · rw [hkn]; exact h3
    · exact ih (fun j hj => h j (by omega)) h4 k (by omega)
/-- The least of the least sides lies in all of them. -/
theorem core_ex {M : List Ed} (h : NonNeg M) {s t : Int} (hst : s ≠ t) (n : Nat) : ∃ S, LeastS M s t S ∧ ∀ T, LeastS M s t T → ∀ k : Nat, k < n → S k = true → T k = true := by
  obtain ⟨w, ⟨S0, hp, e⟩, hl⟩ := lam_ex h hst
  have h0 : ∃ k, ∃ S, LeastS M s t S ∧ cntS S n = k := ⟨_, S0, leastS_of ⟨⟨S0, hp, e⟩, hl⟩ hp e, rfl⟩
  obtain ⟨k, ⟨S, hS, hk⟩, hmin⟩ := least_ex h0
  refine ⟨S, hS, fun T hT j hj hs => ?_⟩
  have ha := (least_and h hS hT).1
  have h1 : cntS (fun v => S v && T v) n ≤ cntS S n := cnt_le fun k _ hk => by simp at hk; exact hk.1
  have h2 := hmin _ ⟨_, ha, rfl⟩
  have h3 := cnt_eq (S := fun v => S v && T v) (T := S) (n := n) (fun k _ hk => by simp at hk; exact hk.1) (by omega) j hj
  rw [hs] at h3
  simp only [Bool.true_and] at h3
  exact h3
/-- There is just one such side, as far as there are vertices. -/
theorem core_one {M : List Ed} {s t : Int} {n : Nat} {S S' : Int → Bool} (h : LeastS M s t S ∧ ∀ T, LeastS M s t T → ∀ k : Nat, k < n → S k = true → T k = true) (h' : LeastS M s t S' ∧ ∀ T, LeastS M s t T → ∀ k : Nat, k < n → S' k = true → T k = true) :
    ∀ k : Nat, k < n → S k = S' k := by
  intro k hk
  have h1 := h.2 S' h'.1 k hk
  have h2 := h'.2 S h.1 k hk
  cases hs : S k with
  | true => exact (h1 hs).symm
  | false =>
    cases hs' : S' k with
    | false => rfl
    | true => rw [h2 hs'] at hs; cases hs
/-- Of three vertices the two least cuts weigh the same: the least between two is no less than the less one of both others. -/
theorem lam_three {M : List Ed} {a b c x y z : Int} (h1 : IsLam M a b x) (h2 : IsLam M b c y) (h3 : IsLam M a c z) : min x y ≤ z := by
  obtain ⟨⟨S, hS, e⟩, -⟩ := h3
  cases hb : S b with
  | true => have := h2.2 S ⟨hb, hS.2⟩; omega
  | false => have := h1.2 S ⟨hS.1, hb⟩; omega
end Go.Proofs.YtceejjgmepaonaaGreatDoor.CutPure
