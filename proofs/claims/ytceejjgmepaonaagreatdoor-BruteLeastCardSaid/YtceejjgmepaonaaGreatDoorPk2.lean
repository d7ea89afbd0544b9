/- Edges that may be, plainly: in whatever order and whichever way round they are told, they are merged to the same; merged again, or split and merged, that is the same. -/
import Derived.Test.YtceejjgmepaonaaGreatDoorPk1
namespace Go.Proofs.YtceejjgmepaonaaGreatDoor.EdPure
open Go.RowKit NumPure
/-- What the edges between u and v weigh together; whether there is one. -/
def pairB (u v : Int) (e : Ed) : Bool := decide (e.1 ≠ e.2.1) && decide (isAt u v (normE e))
def sumW (l : List Ed) (u v : Int) : Int := (l.map fun e => if pairB u v e = true then e.2.2 else 0).sum
def allW (l : List Ed) : Int := (l.map fun e => e.2.2).sum
def hasE (l : List Ed) (u v : Int) : Bool := l.any (pairB u v)
def NonNeg (l : List Ed) : Prop := ∀ e ∈ l, 0 ≤ e.2.2
theorem sumW_cons (e : Ed) (l : List Ed) (u v : Int) : sumW (e :: l) u v = (if pairB u v e = true then e.2.2 else 0) + sumW l u v := by unfold sumW; simp
theorem sumW_append (l m : List Ed) (u v : Int) : sumW (l ++ m) u v = sumW l u v + sumW m u v := by unfold sumW; simp
theorem allW_cons (e : Ed) (l : List Ed) : allW (e :: l) = e.2.2 + allW l := by unfold allW; simp
theorem allW_append (l m : List Ed) : allW (l ++ m) = allW l + allW m := by unfold allW; simp
theorem hasE_append (l m : List Ed) (u v : Int) : hasE (l ++ m) u v = (hasE l u v || hasE m u v) := by unfold hasE; simp
theorem allW_pos {l : List Ed} (h : NonNeg l) : 0 ≤ allW l := by
  induction l with
  | nil => simp [allW]
  | cons e l ih =>
    rw [allW_cons]
    have := ih (fun x hx => h x (by simp [hx]))
    have := h e (by simp)
    omega
theorem sumW_rng {l : List Ed} (h : NonNeg l) (u v : Int) : 0 ≤ sumW l u v ∧ sumW l u v ≤ allW l := by
  induction l with
  | nil => simp [sumW, allW]
  | cons e l ih =>
    rw [allW_cons, sumW_cons]
    have := ih (fun x hx => h x (by simp [hx]))
    have := h e (by simp)
    split <;> omega
theorem mem_allW {l : List Ed} (h : NonNeg l) {e : Ed} (he : e ∈ l) : e.2.2 ≤ allW l := by
  induction l with
  | nil => simp at he
  | cons x l ih =>
    rw [allW_cons]
    have h0 := allW_pos (fun y hy => h y (List.mem_cons_of_mem x hy) : NonNeg l)
    rcases List.mem_cons.1 he with rfl | he
    · omega
    · have := ih (fun y hy => h y (by simp [hy])) he
      have := h x (by simp)
      omega
/-- What is gathered where nothing can be too much. -/
theorem gath_sum {l : List Ed} (hl : InL l) (hn : NonNeg l) (hb : allW l ≤ 9223372036854775807) (k : Nat) : k ≤ l.length →
    ∃ M, gathM (l.take k) = some M ∧ GoodM M ∧ (∀ u v, hasM M u v = hasE (l.take k) u v) ∧ ∀ u v, wOf M u v = sumW (l.take k) u v := by
  induction k with
  | zero => intro _; exact ⟨[], by rw [List.take_zero]; rfl, GoodM.nil, fun u v => by rw [List.take_zero]; rfl, fun u v => by rw [List.take_zero]; rfl⟩
  | succ k ih =>
    intro hk
    have hk' : k < l.length := by omega
    obtain ⟨M, h1, h2, h3, h4⟩ := ih (by omega)
    have ht := List.take_succ_eq_append_getElem hk'
    have hst : gathM (l.take (k + 1)) = stepM (some M) l[k] := by rw [gath_take hk', h1]
    have hs : ∀ u v, sumW (l.take (k + 1)) u v = sumW (l.take k) u v + (if pairB u v l[k] = true then l[k].2.2 else 0) := fun u v => by
      rw [ht, sumW_append, sumW_cons]
      have : sumW [] u v = 0 := rfl
      rw [this]; omega
    have hh : ∀ u v, hasE (l.take (k + 1)) u v = (hasE (l.take k) u v || pairB u v l[k]) := fun u v => by
      rw [ht, hasE_append]; unfold hasE; simp
    have hnn : ∀ j, NonNeg (l.take j) := fun j e he => hn e (List.mem_of_mem_take he)
    have htot : allW (l.take (k + 1)) ≤ allW l := by
      have : allW l = allW (l.take (k + 1)) + allW (l.drop (k + 1)) := by rw [← allW_append, List.take_append_drop]
      have := allW_pos (l := l.drop (k + 1)) (fun e he => hn e (List.mem_of_mem_drop he))
      omega
    by_cases hq : l[k].1 = l[k].2.1
    · have hp : ∀ u v, pairB u v l[k] = false := fun u v => by unfold pairB; rw [decide_eq_false (fun h => h hq), Bool.false_and]
      refine ⟨M, by rw [hst]; unfold stepM; simp [hq], h2, fun u v => ?_, fun u v => ?_⟩
      · rw [hh, hp, Bool.or_false]; exact h3 u v
      · rw [hs, hp, h4]; simp
    · have hstep : stepM (some M) l[k] = addL M (normE l[k]) := by unfold stepM; simp [hq]
      have hin := norm_in (hl.at hk')
      have hpp : pairB (normE l[k]).1 (normE l[k]).2.1 l[k] = true := by unfold pairB; simp [hq, isAt]
      have hfit : fitsB (wOf M (normE l[k]).1 (normE l[k]).2.1 + (normE l[k]).2.2) = true := by
        rw [fits_iff, norm_w, h4]
        have e1 := hs (normE l[k]).1 (normE l[k]).2.1
        rw [if_pos hpp] at e1
        have e2 := sumW_rng (hnn (k + 1)) (normE l[k]).1 (normE l[k]).2.1
        omega
      cases ha : addL M (normE l[k]) with
      | none => rw [(add_none h2.1 hin.2.2).1 ha] at hfit; cases hfit
      | some M' =>
        obtain ⟨a1, a2, -, -, -⟩ := add_some h2.1 ha
        have hpb : ∀ u v, pairB u v l[k] = decide (isAt u v (normE l[k])) := fun u v => by unfold pairB; simp [hq]
        refine ⟨M', by rw [hst, hstep, ha], h2.add hin (norm_lt hq) ha, fun u v => ?_, fun u v => ?_⟩
        · rw [a1, hh, h3, hpb]
        · rw [a2, hs, h4, hpb, norm_w]
          by_cases hx : isAt u v (normE l[k])
          · rw [if_pos hx, if_pos (decide_eq_true hx)]
          · rw [if_neg hx, if_neg (by simp [hx])]; omega
theorem gath_all {l : List Ed} (hl : InL l) (hn : NonNeg l) (hb : allW l ≤ 9223372036854775807) : ∃ M, gathM l = some M ∧ GoodM M ∧ (∀ u v, hasM M u v = hasE l u v) ∧ ∀ u v, wOf M u v = sumW l u v := by
  have := gath_sum hl hn hb l.length (Nat.le_refl _)
  rwa [List.take_length] at this
/-- Two lists that tell the same of each pair are merged to the same. -/
theorem merge_same {l m : List Ed} (hl : InL l) (hn : NonNeg l) (hb : allW l ≤ 9223372036854775807) (hl' : InL m) (hn' : NonNeg m) (hb' : allW m ≤ 9223372036854775807)
    (hh : ∀ u v, hasE l u v = hasE m u v) (hs : ∀ u v, sumW l u v = sumW m u v) : ∃ M, gathM l = some M ∧ gathM m = some M ∧ GoodM M ∧ (∀ u v, hasM M u v = hasE l u v) ∧ ∀ u v, wOf M u v = sumW l u v := by
  obtain ⟨M, h1, h2, h3, h4⟩ := gath_all hl hn hb
  obtain ⟨M', g1, g2, g3, g4⟩ := gath_all hl' hn' hb'
  have : M = M' := good_ext h2.1 g2.1 (fun u v => by rw [h3, g3, hh]) (fun u v => by rw [h4, g4, hs])
  subst this
  exact ⟨M, h1, g1, h2, h3, h4⟩
/-- The other way round, from the last to the first. -/
def turnE (e : Ed) : Ed := (e.2.1, e.1, e.2.2)
def turnL (l : List Ed) : List Ed := (l.map turnE).reverse
theorem norm_turn {e : Ed} (h : e.1 ≠ e.2.1) : normE (turnE e) = normE e := by
  unfold normE turnE
  simp only
  split <;> split <;> first | rfl | omega
theorem pair_turn (u v : Int) (e : Ed) : pairB u v (turnE e) = pairB u v e := by
  unfold pairB
  by_cases h : e.1 = e.2.1
  · rw [decide_eq_false (p := e.1 ≠ e.2.1) (fun h2 => h2 h), decide_eq_false (p := (turnE e).1 ≠ (turnE e).2.1) (fun h2 => h2 h.symm)]
    rfl
  · rw [norm_turn h]
    have : (turnE e).1 ≠ (turnE e).2.1 := fun e2 => h e2.symm
    rw [decide_eq_true h, decide_eq_true this]
theorem turn_has (l : List Ed) (u v : Int) : hasE (turnL l) u v = hasE l u v := by
  unfold hasE turnL
  rw [List.any_reverse, List.any_map]
  congr 1
  funext e
  exact pair_turn u v e
theorem turn_sum (l : List Ed) (u v : Int) : sumW (turnL l) u v = sumW l u v := by
  unfold sumW turnL
  rw [List.map_reverse, List.sum_reverse, List.map_map]
  congr 1
  refine List.map_congr_left fun e _ => ?_
  simp only [Function.comp, pair_turn]
  rfl
theorem turn_all (l : List Ed) : allW (turnL l) = allW l := by
  unfold allW turnL
  rw [List.map_reverse, List.sum_reverse, List.map_map]
  rfl
theorem turn_in {l : List Ed} (h : InL l) : InL (turnL l) := by
  intro e he
  unfold turnL at he
  rw [List.mem_reverse, List.mem_map] at he
  obtain ⟨x, hx, rfl⟩ := he
  have := h x hx
  exact ⟨this.2.1, this.1, this.2.2⟩
theorem turn_non {l : List Ed} (h : NonNeg l) : NonNeg (turnL l) := by
  intro e he
  unfold turnL at he
  rw [List.mem_reverse, List.mem_map] at he
  obtain ⟨x, hx, rfl⟩ := he
  exact h x hx
theorem turn_len (l : List Ed) : (turnL l).length = l.length := by simp [turnL]
/-- What a list in order tells of its pairs. -/
theorem good_has {A : List Ed} (h : GoodM A) (u v : Int) : hasE A u v = hasM A u v := by
  have key : ∀ x ∈ A, pairB u v x = decide (isAt u v x) := fun x hx => by
    have := (h.2 x hx).1
    unfold pairB normE
    rw [if_neg (by omega), decide_eq_true (by omega), Bool.true_and]
  clear h
  induction A with
  | nil => rfl
  | cons x r ih =>
    have h1 := key x (by simp)
    have h2 := ih (fun y hy => key y (by simp [hy]))
    unfold hasE at *
    rw [List.any_cons, h1, h2]; rfl
theorem sum_none {A : List Ed} {u v : Int} (h : hasE A u v = false) : sumW A u v = 0 := by
  induction A with
  | nil => rfl
  | cons x r ih =>
    unfold hasE at h
    rw [List.any_cons, Bool.or_eq_false_iff] at h
    rw [sumW_cons, h.1, ih h.2]; simp
theorem good_sum {A : List Ed} (h : GoodM A) (u v : Int) : sumW A u v = wOf A u v := by
  obtain ⟨h1, h2⟩ := h
  induction A with
  | nil => rfl
  | cons x r ih =>
    obtain ⟨p1, p2⟩ := List.pairwise_cons.1 h1
    have hr : GoodM r := ⟨p2, fun y hy => h2 y (by simp [hy])⟩
    have hx : pairB u v x = decide (isAt u v x) := by
      have := (h2 x (by simp)).1
      unfold pairB normE
      rw [if_neg (by omega), decide_eq_true (by omega), Bool.true_and]
    rw [sumW_cons, hx]
    by_cases hu : isAt u v x
    · rw [if_pos (decide_eq_true hu)]
      have : sumW r u v = 0 := by
        refine sum_none ?_
        rw [good_has hr]
        obtain ⟨x1, x2⟩ := hu
        subst x1 x2
        exact no_above p1
      simp only [wOf, if_pos hu]
      omega
    · rw [if_neg (by simp [hu]), ih p2 hr.2]
      simp only [wOf, if_neg hu]
      omega
/-! ### Split, and merged again -/
theorem pieces_pair (u v : Int) (e : Ed) : ∀ x ∈ piecesE e, pairB u v x = pairB u v e := by
  intro x hx
  have : x.1 = e.1 ∧ x.2.1 = e.2.1 := by
    unfold piecesE at hx
    rw [List.mem_append, List.mem_replicate, List.mem_singleton] at hx
    rcases hx with ⟨-, rfl⟩ | rfl <;> exact ⟨rfl, rfl⟩
  unfold pairB normE isAt
  rw [this.1, this.2]
  split <;> simp [this.1, this.2]
theorem pieces_all (e : Ed) : allW (piecesE e) = e.2.2 := by
  unfold piecesE allW
  rw [List.map_append, List.sum_append, List.map_replicate, List.sum_replicate_int]
  simp
  omega
theorem sum_const {p : List Ed} {u v : Int} {b : Bool} (h : ∀ x ∈ p, pairB u v x = b) : sumW p u v = if b = true then allW p else 0 := by
  induction p with
  | nil => cases b <;> rfl
  | cons x r ih =>
    rw [sumW_cons, h x (by simp), ih (fun y hy => h y (by simp [hy])), allW_cons]
    cases b <;> simp
theorem split_sum (l : List Ed) (u v : Int) : sumW (splitL l) u v = sumW l u v := by
  induction l with
  | nil => rfl
  | cons e l ih =>
    have : splitL (e :: l) = piecesE e ++ splitL l := by unfold splitL; simp
    rw [this, sumW_append, ih, sumW_cons, sum_const (pieces_pair u v e), pieces_all]
theorem split_has (l : List Ed) (u v : Int) : hasE (splitL l) u v = hasE l u v := by
  induction l with
  | nil => rfl
  | cons e l ih =>
    have h1 : splitL (e :: l) = piecesE e ++ splitL l := by unfold splitL; simp
    have h2 : hasE (piecesE e) u v = pairB u v e := by
      unfold hasE
      cases hb : pairB u v e
      · rw [List.any_eq_false]
        intro x hx
        rw [pieces_pair u v e x hx, hb]; simp
      · rw [List.any_eq_true]
        refine ⟨(e.1, e.2.1, e.2.2 - 2147483648 * (quoE e : Int)), by unfold piecesE; simp, ?_⟩
        rw [pieces_pair u v e _ (by unfold piecesE; simp), hb]
    rw [h1, hasE_append, ih, h2]; unfold hasE; rw [List.any_cons]
theorem split_all (l : List Ed) : allW (splitL l) = allW l := by
  induction l with
  | nil => rfl
  | cons e l ih =>
    have h1 : splitL (e :: l) = piecesE e ++ splitL l := by unfold splitL; simp
    rw [h1, allW_append, ih, pieces_all, allW_cons]
theorem split_non {l : List Ed} (h : NonNeg l) : NonNeg (splitL l) := by
  intro x hx
  unfold splitL at hx
  rw [List.mem_flatMap] at hx
  obtain ⟨e, he, hx⟩ := hx
  have := h e he
  unfold piecesE at hx
  rw [List.mem_append, List.mem_replicate, List.mem_singleton] at hx
  rcases hx with ⟨-, rfl⟩ | rfl
  · simp
  · unfold quoE; simp only; omega
theorem split_in {l : List Ed} (h : InL l) (hn : NonNeg l) : InL (splitL l) := by
  intro x hx
  have hnx := split_non hn x hx
  unfold splitL at hx
  rw [List.mem_flatMap] at hx
  obtain ⟨e, he, hx⟩ := hx
  obtain ⟨i1, i2, i3⟩ := h e he
  unfold piecesE at hx
  rw [List.mem_append, List.mem_replicate, List.mem_singleton] at hx
  rcases hx with ⟨-, rfl⟩ | rfl
  · exact ⟨i1, i2, by unfold In; simp⟩
  · refine ⟨i1, i2, ?_⟩
    unfold In at *
    simp only at *
    omega
theorem cnt_bound {l : List Ed} (hn : NonNeg l) : (cntL l : Int) * 2147483648 ≤ allW l + 2147483648 * l.length := by
  induction l with
  | nil => simp [cntL, allW]
  | cons e l ih =>
    have h1 := ih (fun x hx => hn x (by simp [hx]))
    have h2 := hn e (by simp)
    have h3 : cntL (e :: l) = quoE e + 1 + cntL l := by unfold cntL; simp
    have h4 : (quoE e : Int) * 2147483648 ≤ e.2.2 := by unfold quoE; omega
    rw [h3, allW_cons, List.length_cons]
    omega
theorem allW_le {l : List Ed} {b : Int} (h : ∀ e ∈ l, e.2.2 ≤ b) (hb : 0 ≤ b) {n : Nat} (hn : l.length ≤ n) : allW l ≤ n * b := by
  induction l generalizing n with
  | nil => have : 0 ≤ (n : Int) * b := Int.mul_nonneg (by omega) hb
           simpa [allW] using this
  | cons e l ih =>
    rw [allW_cons]
    cases n with
    | zero => simp at hn
    | succ n =>
      have h1 := ih (fun x hx => h x (by simp [hx])) (n := n) (by simpa using hn)
      have h2 := h e (by simp)
      rw [Int.natCast_succ, Int.add_mul]
      omega
/-- What may be an edge, but for how many vertices there are. -/
def okE (e : Ed) : Bool := decide (0 ≤ e.1) && (decide (0 ≤ e.2.1) && (decide (0 ≤ e.2.2) && decide (e.2.2 ≤ 2147483648)))
def okL (l : List Ed) : Bool := l.all okE
theorem ok_w {l : List Ed} (h : okL l = true) : ∀ e ∈ l, 0 ≤ e.2.2 ∧ e.2.2 ≤ 2147483648 := by
  intro e he
  unfold okL at h
  have := List.all_eq_true.1 h e he
  unfold okE at this
  simp only [Bool.and_eq_true, decide_eq_true_eq] at this
  exact ⟨this.2.2.1, this.2.2.2⟩
theorem nonz_id {A : List Ed} (h : ∀ x ∈ A, x.2.2 ≠ 0) : nonz A = A := by
  unfold nonz
  rw [List.filter_eq_self]
  intro x hx
  simpa using h x hx
theorem order_all {l : List Ed} (hl : InL l) (hk : okL l = true) (hn : l.length ≤ 100) :
    ∃ A, mergeE l = some A ∧ mergeE (turnL l) = some A ∧ mergeE A = some A ∧ splitB A = true ∧ mergeE (splitL A) = some A ∧ GoodM A ∧ (∀ x ∈ A, 0 < x.2.2) ∧ A.length ≤ 100 ∧ (splitL A).length ≤ 100000 ∧ InL (splitL A) := by
  have hw := ok_w hk
  have hnn : NonNeg l := fun e he => (hw e he).1
  have hall : allW l ≤ 214748364800 := by
    have := allW_le (fun e he => (hw e he).2) (by omega) hn
    omega
  obtain ⟨M, h1, h2, h3, h4, h5⟩ := merge_same hl hnn (by omega) (turn_in hl) (turn_non hnn) (by rw [turn_all]; omega) (fun u v => (turn_has l u v).symm) (fun u v => (turn_sum l u v).symm)
  have hMw : ∀ x ∈ M, 0 ≤ x.2.2 ∧ x.2.2 ≤ 214748364800 := fun x hx => by
    have e1 := (mem_wOf h3.1 hx).1
    have e2 := sumW_rng hnn x.1 x.2.1
    rw [← e1, h5]
    omega
  have hMlen := (gath_good hl h1).2
  have hA : GoodM (nonz M) := nonz_good h3
  have hAw : ∀ x ∈ nonz M, 0 < x.2.2 ∧ x.2.2 ≤ 214748364800 := fun x hx => by
    obtain ⟨x1, x2⟩ := List.mem_filter.1 hx
    have x3 : x.2.2 ≠ 0 := by simpa using x2
    have := hMw x x1
    omega
  have hAlen : (nonz M).length ≤ 100 := Nat.le_trans (List.length_filter_le _ _) (by omega)
  have hAn : NonNeg (nonz M) := fun x hx => by have := (hAw x hx).1; omega
  have hAin : InL (nonz M) := fun x hx => (hA.2 x hx).2
  have hAall : allW (nonz M) ≤ 21474836480000 := by
    have := allW_le (fun e he => (hAw e he).2) (by omega) hAlen
    omega
  have hid : nonz (nonz M) = nonz M := nonz_id fun x hx => by have := (hAw x hx).1; omega
  have again : ∀ {m : List Ed}, InL m → NonNeg m → allW m ≤ 9223372036854775807 → (∀ u v, hasE m u v = hasE (nonz M) u v) → (∀ u v, sumW m u v = sumW (nonz M) u v) → mergeE m = some (nonz M) := by
    intro m m1 m2 m3 m4 m5
    obtain ⟨M', g1, g2, g3, g4⟩ := gath_all m1 m2 m3
    have : M' = nonz M := good_ext g2.1 hA.1 (fun u v => by rw [g3, m4, good_has hA]) (fun u v => by rw [g4, m5, good_sum hA])
    unfold mergeE
    rw [g1, this]
    show some (nonz (nonz M)) = _
    rw [hid]
  have hc := cnt_bound hAn
  refine ⟨nonz M, by unfold mergeE; rw [h1]; rfl, by unfold mergeE; rw [h2]; rfl, again hAin hAn (by omega) (fun _ _ => rfl) (fun _ _ => rfl), splitB_yes hAn (by omega), ?_, hA, fun x hx => (hAw x hx).1, hAlen, by rw [split_len]; omega, split_in hAin hAn⟩
  exact again (split_in hAin hAn) (split_non hAn) (by rw [split_all]; omega) (split_has _) (split_sum _)
end Go.Proofs.YtceejjgmepaonaaGreatDoor.EdPure
