/- Edges, plainly: which may be, which comes first, where one is; edges merged one by one, and split. No program in sight. -/
import Derived.Test.YtceejjgmepaonaaGreatDoorPk0
import Derived.Lib.SlBy
import Derived.Lib.Small
namespace Go.Proofs.YtceejjgmepaonaaGreatDoor.EdPure
open Go.RowKit NumPure
/-- An edge: its two ends, and what it weighs. -/
abbrev Ed := Int × Int × Int
def In (n : Int) : Prop := -9223372036854775808 ≤ n ∧ n ≤ 9223372036854775807
def InE (e : Ed) : Prop := In e.1 ∧ In e.2.1 ∧ In e.2.2
def InL (l : List Ed) : Prop := ∀ e ∈ l, InE e
theorem InL.take {l : List Ed} (h : InL l) (k : Nat) : InL (l.take k) := fun e he => h e (List.mem_of_mem_take he)
theorem InL.at {l : List Ed} (h : InL l) {k : Nat} (hk : k < l.length) : InE l[k] := h _ (List.getElem_mem hk)
/-- Why it can't be. -/
def chkE (n : Int) (e : Ed) : Int := if (0 ≤ e.1 ∧ e.1 < n) ∧ (0 ≤ e.2.1 ∧ e.2.1 < n) then (if 0 ≤ e.2.2 ∧ e.2.2 ≤ 2147483648 then 0 else 5) else 4
theorem chk_bound (n : Int) (e : Ed) : 0 ≤ chkE n e ∧ chkE n e ≤ 5 := by
  unfold chkE
  split
  · split <;> omega
  · omega
def normE (e : Ed) : Ed := if e.2.1 < e.1 then (e.2.1, e.1, e.2.2) else e
theorem norm_in {e : Ed} (h : InE e) : InE (normE e) := by
  unfold normE
  split
  · exact ⟨h.2.1, h.1, h.2.2⟩
  · exact h
theorem norm_w (e : Ed) : (normE e).2.2 = e.2.2 := by
  unfold normE
  split <;> rfl
theorem norm_lt {e : Ed} (h : e.1 ≠ e.2.1) : (normE e).1 < (normE e).2.1 := by
  unfold normE
  split
  · assumption
  · omega
/-- The first of two numbers that is not 0. -/
def orI (x y : Int) : Int := if x = 0 then y else x
def cmpE (a b : Ed) : Int := orI (Lib.compareInt a.1 b.1) (orI (Lib.compareInt a.2.1 b.2.1) (Lib.compareInt a.2.2 b.2.2))
def ltE (a b : Ed) : Prop := a.1 < b.1 ∨ a.1 = b.1 ∧ (a.2.1 < b.2.1 ∨ a.2.1 = b.2.1 ∧ a.2.2 < b.2.2)
theorem cmpI (x y : Int) : (Lib.compareInt x y = -1 ∧ x < y) ∨ (Lib.compareInt x y = 1 ∧ y < x) ∨ (Lib.compareInt x y = 0 ∧ x = y) := by
  unfold Lib.compareInt
  by_cases h1 : x < y
  · exact Or.inl ⟨if_pos h1, h1⟩
  · by_cases h2 : x > y
    · exact Or.inr (Or.inl ⟨by rw [if_neg h1, if_pos h2], h2⟩)
    · exact Or.inr (Or.inr ⟨by rw [if_neg h1, if_neg h2], by omega⟩)
theorem cmp_cases (a b : Ed) : (cmpE a b = -1 ∧ ltE a b) ∨ (cmpE a b = 1 ∧ ltE b a) ∨ (cmpE a b = 0 ∧ a = b) := by
  obtain ⟨a1, a2, a3⟩ := a
  obtain ⟨b1, b2, b3⟩ := b
  unfold cmpE ltE orI
  simp only
  rcases cmpI a1 b1 with ⟨e1, h1⟩ | ⟨e1, h1⟩ | ⟨e1, h1⟩ <;> rw [e1]
  · exact Or.inl ⟨by simp, Or.inl h1⟩
  · exact Or.inr (Or.inl ⟨by simp, Or.inl h1⟩)
  rcases cmpI a2 b2 with ⟨e2, h2⟩ | ⟨e2, h2⟩ | ⟨e2, h2⟩ <;> rw [e2]
  · exact Or.inl ⟨by simp, Or.inr ⟨h1, Or.inl h2⟩⟩
  · exact Or.inr (Or.inl ⟨by simp, Or.inr ⟨h1.symm, Or.inl h2⟩⟩)
  rcases cmpI a3 b3 with ⟨e3, h3⟩ | ⟨e3, h3⟩ | ⟨e3, h3⟩ <;> rw [e3]
  · exact Or.inl ⟨by simp, Or.inr ⟨h1, Or.inr ⟨h2, h3⟩⟩⟩
  · exact Or.inr (Or.inl ⟨by simp, Or.inr ⟨h1.symm, Or.inr ⟨h2.symm, h3⟩⟩⟩)
  · exact Or.inr (Or.inr ⟨by simp, by rw [h1, h2, h3]⟩)
theorem ltE_irrefl {a : Ed} (h : ltE a a) : False := by unfold ltE at h; omega
theorem ltE_trans {a b c : Ed} (h1 : ltE a b) (h2 : ltE b c) : ltE a c := by unfold ltE at *; omega
theorem ltE_asymm {a b : Ed} (h1 : ltE a b) (h2 : ltE b a) : False := by unfold ltE at *; omega
theorem cmp_lt {a b : Ed} : cmpE a b < 0 ↔ ltE a b := by
  rcases cmp_cases a b with ⟨e, h⟩ | ⟨e, h⟩ | ⟨e, h⟩
  · exact ⟨fun _ => h, fun _ => by omega⟩
  · exact ⟨fun e2 => by omega, fun e2 => (ltE_asymm h e2).elim⟩
  · exact ⟨fun e2 => by omega, fun e2 => by subst h; exact (ltE_irrefl e2).elim⟩
theorem cmp_of_lt {a b : Ed} (h : ltE a b) : cmpE a b = -1 := by
  rcases cmp_cases a b with ⟨e, h'⟩ | ⟨e, h'⟩ | ⟨e, h'⟩
  · exact e
  · exact (ltE_asymm h h').elim
  · subst h'; exact (ltE_irrefl h).elim
theorem cmp_of_gt {a b : Ed} (h : ltE b a) : cmpE a b = 1 := by
  rcases cmp_cases a b with ⟨e, h'⟩ | ⟨e, h'⟩ | ⟨e, h'⟩
  · exact (ltE_asymm h h').elim
  · exact e
  · subst h'; exact (ltE_irrefl h).elim
theorem cmp_of_eq {a b : Ed} (h : a = b) : cmpE a b = 0 := by
  rcases cmp_cases a b with ⟨e, h'⟩ | ⟨e, h'⟩ | ⟨e, h'⟩
  · subst h; exact (ltE_irrefl h').elim
  · subst h; exact (ltE_irrefl h').elim
  · exact e
theorem cmp_bound (a b : Ed) : -1 ≤ cmpE a b ∧ cmpE a b ≤ 1 := by
  rcases cmp_cases a b with ⟨e, h⟩ | ⟨e, h⟩ | ⟨e, h⟩ <;> omega
/-! ### Where an edge is -/
def btwB (u v : Int) (e : Ed) : Bool := decide ((e.1 = u ∧ e.2.1 = v) ∨ (e.1 = v ∧ e.2.1 = u))
def endsE (e : Ed) : Int × Int := ((normE e).1, (normE e).2.1)
theorem ends_eq (u v x : Int) (e : Ed) : endsE e = endsE (u, v, x) ↔ btwB u v e = true := by
  unfold endsE normE btwB
  simp only [decide_eq_true_eq]
  split <;> split <;> simp only [Prod.mk.injEq] <;> omega
def findE (l : List Ed) (u v : Int) : Int := Lib.idxBy (fun _ y => btwB u v y) l default
theorem find_hit {l : List Ed} {u v : Int} {k : Nat} (hk : k < l.length) (h : btwB u v l[k] = true) (hn : ∀ j (hj : j < l.length), j < k → btwB u v l[j] = false) : findE l u v = k := by
  have e : l.take l.length = l := List.take_length
  unfold findE
  conv => lhs; rw [← e]
  refine Lib.idxBy_hit (fun _ y => btwB u v y) l l.length k default hk (Nat.le_refl _) ?_ fun j hj => ?_
  · rw [getElem!_pos l k hk]; exact h
  · rw [getElem!_pos l j (by omega)]; exact hn j (by omega) hj
theorem find_miss {l : List Ed} {u v : Int} (hn : ∀ j (hj : j < l.length), btwB u v l[j] = false) : findE l u v = -1 := by
  have e : l.take l.length = l := List.take_length
  unfold findE
  conv => lhs; rw [← e]
  refine Lib.idxBy_miss (fun _ y => btwB u v y) l l.length default fun j hj => ?_
  rw [getElem!_pos l j hj]; exact hn j hj
theorem idx_bound {α : Type} (p : α → α → Bool) (x : α) : ∀ (l : List α) (i : Nat), -1 ≤ Lib.idxByFrom p x l i ∧ Lib.idxByFrom p x l i ≤ (i + l.length : Nat)
  | [], i => by unfold Lib.idxByFrom; simp
  | y :: r, i => by
    unfold Lib.idxByFrom
    have := idx_bound p x r (i + 1)
    rw [List.length_cons]
    split <;> omega
/-! ### All together -/
def wts (l : List Ed) : List Int := l.map (fun e => e.2.2)
theorem wts_len (l : List Ed) : (wts l).length = l.length := List.length_map _
/-! ### Edges in order, with one more -/
def lt2 (a b : Ed) : Prop := a.1 < b.1 ∨ a.1 = b.1 ∧ a.2.1 < b.2.1
instance (a b : Ed) : Decidable (lt2 a b) := by unfold lt2; exact inferInstance
def isAt (u v : Int) (e : Ed) : Prop := e.1 = u ∧ e.2.1 = v
instance (u v : Int) (e : Ed) : Decidable (isAt u v e) := by unfold isAt; exact inferInstance
def addL : List Ed → Ed → Option (List Ed)
  | [], e => some [e]
  | x :: r, e => if isAt e.1 e.2.1 x then (if fitsB (x.2.2 + e.2.2) = true then some ((x.1, x.2.1, x.2.2 + e.2.2) :: r) else none)
      else if lt2 e x then some (e :: x :: r) else (addL r e).map fun r' => x :: r'
def hasM : List Ed → Int → Int → Bool
  | [], _, _ => false
  | x :: r, u, v => decide (isAt u v x) || hasM r u v
def wOf : List Ed → Int → Int → Int
  | [], _, _ => 0
  | x :: r, u, v => if isAt u v x then x.2.2 else wOf r u v
def stepM (M : Option (List Ed)) (e : Ed) : Option (List Ed) := M.bind fun M => if e.1 = e.2.1 then some M else addL M (normE e)
def gathM (l : List Ed) : Option (List Ed) := l.foldl stepM (some [])
theorem gath_snoc (l : List Ed) (e : Ed) : gathM (l ++ [e]) = stepM (gathM l) e := by unfold gathM; rw [List.foldl_append]; rfl
theorem step_none (l : List Ed) : l.foldl stepM none = none := by
  induction l with
  | nil => rfl
  | cons e l ih => exact ih
theorem gath_take {l : List Ed} {k : Nat} (hk : k < l.length) : gathM (l.take (k + 1)) = stepM (gathM (l.take k)) l[k] := by
  rw [List.take_succ_eq_append_getElem hk, gath_snoc]
theorem gath_stays {l : List Ed} (k : Nat) (h : gathM (l.take k) = none) : gathM l = none := by
  have : gathM l = (l.drop k).foldl stepM (gathM (l.take k)) := by
    unfold gathM
    rw [← List.foldl_append, List.take_append_drop]
  rw [this, h]; exact step_none _
def nonz (M : List Ed) : List Ed := M.filter fun x => decide (x.2.2 ≠ 0)
def mergeE (l : List Ed) : Option (List Ed) := (gathM l).map nonz
/-- In order, each in its normal form, and no pair twice. -/
def GoodM (M : List Ed) : Prop := M.Pairwise lt2 ∧ ∀ x ∈ M, x.1 < x.2.1 ∧ InE x
theorem GoodM.nil : GoodM [] := ⟨List.Pairwise.nil, by simp⟩
theorem hasM_iff {M : List Ed} {u v : Int} : hasM M u v = true ↔ ∃ x ∈ M, isAt u v x := by
  induction M with
  | nil => simp [hasM]
  | cons x r ih => simp only [hasM, Bool.or_eq_true, decide_eq_true_eq, ih, List.mem_cons]; constructor
                   · rintro (h | ⟨y, h1, h2⟩)
                     · exact ⟨x, Or.inl rfl, h⟩
                     · exact ⟨y, Or.inr h1, h2⟩
                   · rintro ⟨y, rfl | h1, h2⟩
                     · exact Or.inl h2
                     · exact Or.inr ⟨y, h1, h2⟩
theorem hasM_no {M : List Ed} {u v : Int} (h : hasM M u v = false) : wOf M u v = 0 := by
  induction M with
  | nil => rfl
  | cons x r ih =>
    simp only [hasM, Bool.or_eq_false_iff, decide_eq_false_iff_not] at h
    simp only [wOf, if_neg h.1]
    exact ih h.2
theorem wOf_mem {M : List Ed} {u v : Int} (h : hasM M u v = true) : (u, v, wOf M u v) ∈ M := by
  induction M with
  | nil => simp [hasM] at h
  | cons x r ih =>
    simp only [hasM, Bool.or_eq_true, decide_eq_true_eq] at h
    by_cases h1 : isAt u v x
    · simp only [wOf, if_pos h1]
      obtain ⟨h2, h3⟩ := h1
      subst h2 h3
      exact List.mem_cons_self
    · simp only [wOf, if_neg h1]
      exact List.mem_cons_of_mem _ (ih (h.resolve_left h1))
theorem mem_wOf {M : List Ed} (h : M.Pairwise lt2) {x : Ed} (hx : x ∈ M) : wOf M x.1 x.2.1 = x.2.2 ∧ hasM M x.1 x.2.1 = true := by
  refine ⟨?_, hasM_iff.2 ⟨x, hx, rfl, rfl⟩⟩
  induction M with
  | nil => simp at hx
  | cons y r ih =>
    rcases List.mem_cons.1 hx with rfl | hx'
    · simp [wOf, isAt]
    · have := (List.pairwise_cons.1 h).1 x hx'
      have hn : ¬ isAt x.1 x.2.1 y := by unfold isAt lt2 at *; omega
      simp only [wOf, if_neg hn]
      exact ih (List.pairwise_cons.1 h).2 hx'
theorem wOf_in {M : List Ed} (h : ∀ x ∈ M, InE x) (u v : Int) : In (wOf M u v) := by
  cases hh : hasM M u v
  · rw [hasM_no hh]; unfold In; omega
  · exact (h _ (wOf_mem hh)).2.2
/-- Two such lists that tell the same are one. -/
theorem good_ext {M M' : List Ed} (h : M.Pairwise lt2) (h' : M'.Pairwise lt2) (hh : ∀ u v, hasM M u v = hasM M' u v) (hw : ∀ u v, wOf M u v = wOf M' u v) : M = M' := by
  have sub : ∀ {A B : List Ed}, A.Pairwise lt2 → (∀ u v, hasM A u v = hasM B u v) → (∀ u v, wOf A u v = wOf B u v) → ∀ x ∈ A, x ∈ B := by
    intro A B hA e1 e2 x hx
    obtain ⟨w1, w2⟩ := mem_wOf hA hx
    have := wOf_mem ((e1 x.1 x.2.1).symm.trans w2)
    rw [← e2, w1] at this
    exact this
  have nd : ∀ {A : List Ed}, A.Pairwise lt2 → A.Nodup := fun {A} hA => hA.imp (fun {a b} hab e => by subst e; unfold lt2 at hab; omega)
  refine List.Perm.eq_of_pairwise (le := lt2) (fun a b _ _ h1 h2 => by unfold lt2 at *; omega) h h' ?_
  exact (List.perm_ext_iff_of_nodup (nd h) (nd h')).2 fun x => ⟨sub h hh hw x, sub h' (fun u v => (hh u v).symm) (fun u v => (hw u v).symm) x⟩
theorem no_above {M : List Ed} {e : Ed} (h : ∀ y ∈ M, lt2 e y) : hasM M e.1 e.2.1 = false := by
  rw [Bool.eq_false_iff]
  intro hh
  obtain ⟨y, hy, h1⟩ := hasM_iff.1 hh
  have := h y hy
  unfold lt2 isAt at *; omega
/-- When none. -/
theorem add_none {M : List Ed} (h : M.Pairwise lt2) {e : Ed} (he : In e.2.2) : addL M e = none ↔ fitsB (wOf M e.1 e.2.1 + e.2.2) = false := by
  have h0 : fitsB (0 + e.2.2) = true := by rw [fits_iff]; unfold In at he; omega
  induction M with
  | nil => simp [addL, wOf]; simpa using h0
  | cons x r ih =>
    obtain ⟨p1, p2⟩ := List.pairwise_cons.1 h
    by_cases h1 : isAt e.1 e.2.1 x
    · simp only [addL, wOf, if_pos h1]
      cases fitsB (x.2.2 + e.2.2) <;> simp
    · by_cases h2 : lt2 e x
      · have : wOf r e.1 e.2.1 = 0 := hasM_no (no_above fun y hy => by have := p1 y hy; unfold lt2 at *; omega)
        simp only [addL, wOf, if_neg h1, if_pos h2, this, h0]; simp
      · simp only [addL, wOf, if_neg h1, if_neg h2, Option.map_eq_none_iff]
        exact ih p2
theorem add_some {M M' : List Ed} (h : M.Pairwise lt2) {e : Ed} (ha : addL M e = some M') :
    (∀ u v, hasM M' u v = (hasM M u v || decide (isAt u v e))) ∧ (∀ u v, wOf M' u v = if isAt u v e then wOf M u v + e.2.2 else wOf M u v) ∧ M'.Pairwise lt2 ∧
      (∀ y ∈ M', y ∈ M ∨ (isAt e.1 e.2.1 y ∧ (y.2.2 = e.2.2 ∨ fitsB y.2.2 = true))) ∧ M'.length = (if hasM M e.1 e.2.1 then M.length else M.length + 1) := by
  induction M generalizing M' with
  | nil =>
    simp only [addL, Option.some.injEq] at ha
    subst ha
    refine ⟨fun u v => by simp [hasM], fun u v => by simp [wOf], List.pairwise_singleton _ _, fun y hy => ?_, by simp [hasM]⟩
    rw [List.mem_singleton] at hy
    subst hy
    exact Or.inr ⟨⟨rfl, rfl⟩, Or.inl rfl⟩
  | cons x r ih =>
    obtain ⟨p1, p2⟩ := List.pairwise_cons.1 h
    by_cases h1 : isAt e.1 e.2.1 x
    · simp only [addL, if_pos h1] at ha
      have hx := h1
      obtain ⟨x1, x2⟩ := h1
      by_cases hf : fitsB (x.2.2 + e.2.2) = true
      · rw [if_pos hf, Option.some.injEq] at ha
        subst ha
        refine ⟨fun u v => ?_, fun u v => ?_, List.pairwise_cons.2 ⟨fun y hy => p1 y hy, p2⟩, fun y hy => ?_, ?_⟩
        · simp only [hasM, isAt, x1, x2]
          cases decide (e.1 = u ∧ e.2.1 = v) <;> simp
        · by_cases hu : e.1 = u ∧ e.2.1 = v
          · obtain ⟨u1, u2⟩ := hu
            subst u1 u2
            simp [wOf, isAt, x1, x2]
          · simp [wOf, isAt, x1, x2, hu]
        · rcases List.mem_cons.1 hy with rfl | hy
          · exact Or.inr ⟨hx, Or.inr hf⟩
          · exact Or.inl (List.mem_cons_of_mem _ hy)
        · have : hasM (x :: r) e.1 e.2.1 = true := hasM_iff.2 ⟨x, List.mem_cons_self, hx⟩
          rw [this]; rfl
      · rw [if_neg hf] at ha; cases ha
    · by_cases h2 : lt2 e x
      · simp only [addL, if_neg h1, if_pos h2, Option.some.injEq] at ha
        subst ha
        have ab : ∀ y ∈ x :: r, lt2 e y := fun y hy => by
          rcases List.mem_cons.1 hy with rfl | hy
          · exact h2
          · have := p1 y hy; unfold lt2 at *; omega
        have nh := no_above ab
        refine ⟨fun u v => ?_, fun u v => ?_, List.pairwise_cons.2 ⟨ab, h⟩, fun y hy => ?_, ?_⟩
        · show (decide (isAt u v e) || hasM (x :: r) u v) = _
          rw [Bool.or_comm]
        · show (if isAt u v e then e.2.2 else wOf (x :: r) u v) = _
          by_cases hu : isAt u v e
          · rw [if_pos hu, if_pos hu]
            obtain ⟨u1, u2⟩ := hu
            subst u1 u2
            rw [hasM_no nh]; omega
          · rw [if_neg hu, if_neg hu]
        · rcases List.mem_cons.1 hy with rfl | hy
          · exact Or.inr ⟨⟨rfl, rfl⟩, Or.inl rfl⟩
          · exact Or.inl hy
        · rw [nh]; rfl
      · simp only [addL, if_neg h1, if_neg h2, Option.map_eq_some_iff] at ha
        obtain ⟨R, hR, rfl⟩ := ha
        obtain ⟨i1, i2, i3, i4, i5⟩ := ih p2 hR
        refine ⟨fun u v => ?_, fun u v => ?_, List.pairwise_cons.2 ⟨fun y hy => ?_, i3⟩, fun y hy => ?_, ?_⟩
        · simp only [hasM, i1, Bool.or_assoc]
        · simp only [wOf, i2]
          by_cases hx : isAt u v x
          · have : ¬ isAt u v e := by unfold isAt at *; omega
            rw [if_pos hx, if_neg this, if_pos hx]
          · rw [if_neg hx, if_neg hx]
        · rcases i4 y hy with hy | ⟨hy, -⟩
          · exact p1 y hy
          · unfold isAt lt2 at *; omega
        · rcases List.mem_cons.1 hy with rfl | hy
          · exact Or.inl List.mem_cons_self
          · rcases i4 y hy with hy | hy
            · exact Or.inl (List.mem_cons_of_mem _ hy)
            · exact Or.inr hy
        · have : hasM (x :: r) e.1 e.2.1 = hasM r e.1 e.2.1 := by simp [hasM, h1]
          rw [List.length_cons, i5, this]
          split <;> simp
theorem GoodM.add {M M' : List Ed} (h : GoodM M) {e : Ed} (he : InE e) (hl : e.1 < e.2.1) (ha : addL M e = some M') : GoodM M' := by
  obtain ⟨-, -, h3, h4, -⟩ := add_some h.1 ha
  refine ⟨h3, fun y hy => ?_⟩
  rcases h4 y hy with hy | ⟨⟨y1, y2⟩, hy⟩
  · exact h.2 y hy
  · refine ⟨by omega, by rw [y1]; exact he.1, by rw [y2]; exact he.2.1, ?_⟩
    rcases hy with hy | hy
    · rw [hy]; exact he.2.2
    · exact (fits_iff _).1 hy
theorem GoodM.step {M M' : List Ed} (h : GoodM M) {e : Ed} (he : InE e) (ha : stepM (some M) e = some M') : GoodM M' := by
  unfold stepM at ha
  simp only [Option.bind_some] at ha
  split at ha
  · cases ha; exact h
  · rename_i hne
    exact h.add (norm_in he) (norm_lt hne) ha
theorem gath_upto {l : List Ed} (hl : InL l) (k : Nat) : k ≤ l.length → ∀ {M : List Ed}, gathM (l.take k) = some M → GoodM M ∧ M.length ≤ k := by
  induction k with
  | zero => intro _ M h; rw [List.take_zero] at h; cases h; exact ⟨GoodM.nil, Nat.le_refl _⟩
  | succ k ih =>
    intro hk M' h
    rw [gath_take (show k < l.length by omega)] at h
    cases hg : gathM (l.take k) with
    | none => rw [hg] at h; cases h
    | some M =>
      obtain ⟨g1, g2⟩ := ih (by omega) hg
      rw [hg] at h
      refine ⟨g1.step (hl.at (by omega)) h, ?_⟩
      unfold stepM at h
      simp only [Option.bind_some] at h
      split at h
      · cases h; omega
      · have := (add_some g1.1 h).2.2.2.2
        rw [this]
        split <;> omega
theorem gath_good {l : List Ed} (hl : InL l) {M : List Ed} (h : gathM l = some M) : GoodM M ∧ M.length ≤ l.length :=
  gath_upto hl l.length (Nat.le_refl _) (by rw [List.take_length]; exact h)
theorem nonz_good {M : List Ed} (h : GoodM M) : GoodM (nonz M) := ⟨h.1.filter _, fun x hx => h.2 x (List.mem_filter.1 hx).1⟩
theorem merge_good {l A : List Ed} (hl : InL l) (h : mergeE l = some A) : GoodM A ∧ A.length ≤ l.length ∧ ∀ x ∈ A, x.2.2 ≠ 0 := by
  unfold mergeE at h
  rw [Option.map_eq_some_iff] at h
  obtain ⟨M, h1, rfl⟩ := h
  obtain ⟨g1, g2⟩ := gath_good hl h1
  exact ⟨nonz_good g1, Nat.le_trans (List.length_filter_le _ _) g2, fun x hx => by simpa using (List.mem_filter.1 hx).2⟩
/-! ### Split -/
def quoE (e : Ed) : Nat := ((max (e.2.2 - 1) 0) / 2147483648).toNat
def piecesE (e : Ed) : List Ed := List.replicate (quoE e) (e.1, e.2.1, 2147483648) ++ [(e.1, e.2.1, e.2.2 - 2147483648 * (quoE e : Int))]
def splitL (l : List Ed) : List Ed := l.flatMap piecesE
def cntL (l : List Ed) : Nat := (l.map fun e => quoE e + 1).sum
theorem pieces_len (e : Ed) : (piecesE e).length = quoE e + 1 := by simp [piecesE]
theorem split_len (l : List Ed) : (splitL l).length = cntL l := by
  unfold splitL cntL
  rw [List.length_flatMap]
  congr 1
  exact List.map_congr_left fun e _ => pieces_len e
theorem cnt_snoc (l : List Ed) (e : Ed) : cntL (l ++ [e]) = cntL l + (quoE e + 1) := by unfold cntL; simp
theorem cnt_take {l : List Ed} {k : Nat} (hk : k < l.length) : cntL (l.take (k + 1)) = cntL (l.take k) + (quoE l[k] + 1) := by
  rw [List.take_succ_eq_append_getElem hk, cnt_snoc]
theorem split_take {l : List Ed} {k : Nat} (hk : k < l.length) : splitL (l.take (k + 1)) = splitL (l.take k) ++ piecesE l[k] := by
  unfold splitL
  rw [List.take_succ_eq_append_getElem hk, List.flatMap_append]
  simp
theorem cnt_le {l : List Ed} (k : Nat) : cntL (l.take k) ≤ cntL l := by
  conv => rhs; rw [← List.take_append_drop k l]
  unfold cntL
  rw [List.map_append, List.sum_append]
  omega
def splitB (l : List Ed) : Bool := decide (∀ e ∈ l, 0 ≤ e.2.2) && decide (cntL l ≤ 1048576)
def splitR (l : List Ed) : List Ed := if splitB l = true then splitL l else []
theorem splitB_yes {l : List Ed} (h1 : ∀ e ∈ l, 0 ≤ e.2.2) (h2 : cntL l ≤ 1048576) : splitB l = true := by unfold splitB; rw [decide_eq_true h1, decide_eq_true h2]; rfl
theorem splitB_low {l : List Ed} {k : Nat} (hk : k < l.length) (h : l[k].2.2 < 0) : splitB l = false := by
  unfold splitB
  rw [decide_eq_false (fun h1 => by have := h1 _ (List.getElem_mem hk); omega)]; rfl
theorem splitB_many {l : List Ed} (k : Nat) (h : ¬ cntL (l.take k) ≤ 1048576) : splitB l = false := by
  unfold splitB
  have := cnt_le (l := l) k
  rw [decide_eq_false (p := cntL l ≤ 1048576) (by omega), Bool.and_false]
theorem quo_low {e : Ed} (h : e.2.2 ≤ 2147483648) : quoE e = 0 := by unfold quoE; omega
/-- A piece more. -/
theorem quo_next {u v w : Int} (h : 2147483648 < w) : quoE (u, v, w) = quoE (u, v, w - 2147483648) + 1 := by unfold quoE; simp only; omega
theorem pieces_next {u v w : Int} (h : 2147483648 < w) : piecesE (u, v, w) = (u, v, 2147483648) :: piecesE (u, v, w - 2147483648) := by
  unfold piecesE
  rw [quo_next h, List.replicate_succ]
  simp only [List.cons_append]
  congr 5
  omega
theorem pieces_low {u v w : Int} (h : w ≤ 2147483648) : piecesE (u, v, w) = [(u, v, w)] := by
  unfold piecesE
  rw [quo_low (e := (u, v, w)) h]
  simp
end Go.Proofs.YtceejjgmepaonaaGreatDoor.EdPure
