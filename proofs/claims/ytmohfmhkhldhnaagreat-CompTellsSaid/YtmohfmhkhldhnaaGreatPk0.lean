/- Classes of vertices by their names: p tells what the class of each vertex is called. What joining two of them makes of the names, of how many each has, of how many classes there are; the lists of the classes, as they grow vertex by vertex; classes hang on the pairs that were joined alone. No function of the program is named. -/
import Derived.Test.YtmohfmhkhldhnaaGreatProg
namespace Go.Proofs.YtmohfmhkhldhnaaGreat
namespace DsuPure
def fitB (n : Nat) (v : Int) : Bool := decide (0 ≤ v) && decide (v < (n : Int))
theorem fit_yes {n : Nat} {v : Int} (h : fitB n v = true) : ∃ u : Nat, v = (u : Int) ∧ u < n := by
  unfold fitB at h
  simp at h
  exact ⟨v.toNat, by omega, by omega⟩
theorem fit_no {n : Nat} {v : Int} (h : fitB n v = false) : v < 0 ∨ (n : Int) ≤ v := by
  unfold fitB at h
  by_cases a : v < 0
  · exact Or.inl a
  · refine Or.inr ?_
    have a' : decide (0 ≤ v) = true := decide_eq_true (by omega)
    rw [a', Bool.true_and] at h
    have := of_decide_eq_false h
    omega
theorem fit_of {n u : Nat} (h : u < n) : fitB n (u : Int) = true := by
  unfold fitB
  simp [h]
theorem fit_past {n : Nat} {v : Int} (h : v < 0 ∨ (n : Int) ≤ v) : fitB n v = false := by
  unfold fitB
  rcases h with h | h
  · rw [decide_eq_false (by omega)]; rfl
  · rw [decide_eq_false (show ¬ v < (n : Int) by omega), Bool.and_false]
/-- p names classes of n vertices: by a vertex of the class, none of which is lower. -/
def Names (n : Nat) (p : Nat → Nat) : Prop := (∀ x, p x ≤ x) ∧ (∀ x, p (p x) = p x) ∧ ∀ x, n ≤ x → p x = x
theorem names_id (n : Nat) : Names n fun x => x := ⟨fun _ => Nat.le_refl _, fun _ => rfl, fun _ _ => rfl⟩
/-- The class called b is called a from now on. -/
def moveP (p : Nat → Nat) (a b x : Nat) : Nat := if p x = b then a else p x
def joinN (p : Nat → Nat) (u v x : Nat) : Nat := if p x = p u ∨ p x = p v then min (p u) (p v) else p x
def joinZ (n : Nat) (p : Nat → Nat) (u v : Int) : Nat → Nat := if fitB n u && fitB n v then joinN p u.toNat v.toNat else p
def ofZ (n : Nat) (p : Nat → Nat) (v : Int) : Int := if fitB n v then (p v.toNat : Int) else -1
def sameZ (n : Nat) (p : Nat → Nat) (u v : Int) : Bool := fitB n u && fitB n v && decide (p u.toNat = p v.toNat)
def twoZ (n : Nat) (p : Nat → Nat) (u v : Int) : Bool := fitB n u && fitB n v && !decide (p u.toNat = p v.toNat)
/-- How many vertices have the name z; how many names there are. -/
def cntZ (n : Nat) (p : Nat → Nat) (z : Int) : Nat := (List.range n).countP fun x => decide ((p x : Int) = z)
def rootsN (n : Nat) (p : Nat → Nat) : Nat := (List.range n).countP fun x => decide (p x = x)
def sizeZ (n : Nat) (p : Nat → Nat) (v : Int) : Nat := cntZ n p (ofZ n p v)
theorem rootsN_le (n : Nat) (p : Nat → Nat) : rootsN n p ≤ n := by
  have := List.countP_le_length (p := fun x => decide (p x = x)) (l := List.range n)
  rwa [List.length_range] at this
theorem cntZ_le (n : Nat) (p : Nat → Nat) (z : Int) : cntZ n p z ≤ n := by
  have := List.countP_le_length (p := fun x => decide ((p x : Int) = z)) (l := List.range n)
  rwa [List.length_range] at this
theorem cntZ_neg (n : Nat) (p : Nat → Nat) {z : Int} (h : z < 0) : cntZ n p z = 0 := by
  unfold cntZ
  rw [List.countP_eq_zero]
  intro x _
  simp
  omega
theorem joinN_move (p : Nat → Nat) (u v : Nat) : joinN p u v = moveP p (min (p u) (p v)) (max (p u) (p v)) := by
  funext x
  unfold joinN moveP
  split <;> split <;> omega
theorem joinN_same {p : Nat → Nat} {u v : Nat} (h : p u = p v) : joinN p u v = p := by
  funext x
  unfold joinN
  split <;> omega
theorem move_names {n : Nat} {p : Nat → Nat} (h : Names n p) {a b : Nat} (ha : p a = a) (hab : a < b) (hb : b < n) : Names n (moveP p a b) := by
  obtain ⟨h1, h2, h3⟩ := h
  refine ⟨fun x => ?_, fun x => ?_, fun x hx => ?_⟩
  · unfold moveP
    have := h1 x
    split <;> omega
  · unfold moveP
    by_cases e : p x = b
    · rw [if_pos e, ha, if_neg (by omega)]
    · rw [if_neg e, h2, if_neg e]
  · unfold moveP
    have := h3 x hx
    rw [if_neg (by omega), this]
theorem join_names {n : Nat} {p : Nat → Nat} (h : Names n p) (u v : Int) : Names n (joinZ n p u v) := by
  unfold joinZ
  split
  · rename_i hf
    rw [Bool.and_eq_true] at hf
    obtain ⟨a, rfl, ha⟩ := fit_yes hf.1
    obtain ⟨b, rfl, hb⟩ := fit_yes hf.2
    rw [Int.toNat_natCast, Int.toNat_natCast]
    by_cases e : p a = p b
    · rw [joinN_same e]; exact h
    · rw [joinN_move]
      have := h.1 a
      have := h.1 b
      have i1 := h.2.1 a
      have i2 := h.2.1 b
      refine move_names h ?_ (by omega) (by omega)
      rcases Nat.lt_or_ge (p a) (p b) with l | l
      · rw [Nat.min_eq_left (by omega)]; exact i1
      · rw [Nat.min_eq_right (by omega)]; exact i2
  · exact h
/-- How many vertices have which name, behind a move. -/
theorem count_or {q r s : Nat → Bool} (l : List Nat) (h : ∀ x, q x = (r x || s x)) (hd : ∀ x, r x = true → s x = false) : l.countP q = l.countP r + l.countP s := by
  induction l with
  | nil => rfl
  | cons x l ih =>
    rw [List.countP_cons, List.countP_cons, List.countP_cons, ih, h x]
    cases hr : r x
    · cases s x <;> simp <;> omega
    · have hs := hd x hr
      rw [hs]
      simp
      omega
theorem move_cnt (n : Nat) (p : Nat → Nat) {a b : Nat} (hab : a < b) (z : Int) : cntZ n (moveP p a b) z = if z = a then cntZ n p a + cntZ n p b else if z = b then 0 else cntZ n p z := by
  unfold cntZ
  by_cases e : z = (a : Int)
  · subst e
    rw [if_pos rfl]
    refine count_or _ (fun x => ?_) (fun x hx => ?_)
    · unfold moveP
      by_cases e : p x = b
      · rw [if_pos e, e]; simp
      · rw [if_neg e, decide_eq_false (show ¬ (p x : Int) = (b : Int) by omega), Bool.or_false]
    · have h1 := of_decide_eq_true hx
      exact decide_eq_false (by omega)
  · rw [if_neg e]
    by_cases e2 : z = (b : Int)
    · subst e2
      rw [if_pos rfl, List.countP_eq_zero]
      intro x _
      unfold moveP
      split <;> simp <;> omega
    · rw [if_neg e2]
      refine List.countP_congr fun x _ => ?_
      unfold moveP
      split <;> simp <;> omega
theorem count_but (q : Nat → Bool) (b : Nat) : ∀ n, (List.range n).countP (fun x => q x && !decide (x = b)) + (if b < n ∧ q b = true then 1 else 0) = (List.range n).countP q
  | 0 => by simp
  | n + 1 => by
    have ih := count_but q b n
    rw [List.range_succ, List.countP_append, List.countP_append, List.countP_singleton, List.countP_singleton]
    by_cases e : n = b
    · subst e
      rw [if_neg (show ¬ (n < n ∧ q n = true) by omega)] at ih
      cases hq : q n <;> simp at ih ⊢ <;> omega
    · have e1 : decide (n = b) = false := decide_eq_false e
      have e2 : (b < n + 1 ∧ q b = true) ↔ (b < n ∧ q b = true) := ⟨fun h => ⟨by omega, h.2⟩, fun h => ⟨by omega, h.2⟩⟩
      rw [e1]
      simp only [e2, Bool.not_false, Bool.and_true]
      omega
theorem move_roots {n : Nat} {p : Nat → Nat} {a b : Nat} (ha : p a = a) (hb : p b = b) (hab : a < b) (hbn : b < n) : rootsN n (moveP p a b) + 1 = rootsN n p := by
  have h := count_but (fun x => decide (p x = x)) b n
  rw [if_pos ⟨hbn, decide_eq_true hb⟩] at h
  unfold rootsN
  rw [← h]
  congr 1
  refine List.countP_congr fun x _ => ?_
  unfold moveP
  by_cases e : p x = b
  · rw [if_pos e]
    by_cases e2 : x = b
    · subst e2; simp; omega
    · have : ¬ a = x := fun e3 => by subst e3; omega
      simp [this, e]
      omega
  · rw [if_neg e]
    have : ¬ (p x = x ∧ x = b) := fun ⟨h1, h2⟩ => e (by omega)
    simp only [Bool.and_eq_true, decide_eq_true_eq, Bool.not_eq_true', decide_eq_false_iff_not]
    omega
/-- What leads up to the names, and where it lies in a list. -/
def Up (us : List Nat) (n : Nat) (p : Nat → Nat) : Prop := us.length = n ∧ ∀ x, x < n → us.getD x 0 ≤ x ∧ p (us.getD x 0) = p x ∧ (us.getD x 0 = x → p x = x)
theorem up_halve {us : List Nat} {n : Nat} {p : Nat → Nat} (h : Up us n p) {x y : Nat} (hx : x < n) (hy : y < x) (hp : p y = p x) : Up (us.set x y) n p := by
  obtain ⟨h1, h2⟩ := h
  refine ⟨by rw [List.length_set]; exact h1, fun z hz => ?_⟩
  by_cases e : z = x
  · subst e
    have : (us.set z y).getD z 0 = y := by simp [List.getD_eq_getElem?_getD, List.getElem?_set_self (show z < us.length by omega)]
    rw [this]
    exact ⟨by omega, hp, fun e => by omega⟩
  · have : (us.set x y).getD z 0 = us.getD z 0 := by rw [List.getD_eq_getElem?_getD, List.getD_eq_getElem?_getD, List.getElem?_set_ne (fun e2 => e e2.symm)]
    rw [this]
    exact h2 z hz
theorem up_move {us : List Nat} {n : Nat} {p : Nat → Nat} (h : Up us n p) {a b : Nat} (ha : p a = a) (hb : p b = b) (hab : a < b) (hbn : b < n) : Up (us.set b a) n (moveP p a b) := by
  obtain ⟨h1, h2⟩ := h
  refine ⟨by rw [List.length_set]; exact h1, fun z hz => ?_⟩
  by_cases e : z = b
  · subst e
    have : (us.set z a).getD z 0 = a := by simp [List.getD_eq_getElem?_getD, List.getElem?_set_self (show z < us.length by omega)]
    rw [this]
    refine ⟨by omega, ?_, fun e => by omega⟩
    unfold moveP
    rw [if_pos hb, if_neg (by omega), ha]
  · have : (us.set b a).getD z 0 = us.getD z 0 := by rw [List.getD_eq_getElem?_getD, List.getD_eq_getElem?_getD, List.getElem?_set_ne (fun e2 => e e2.symm)]
    rw [this]
    obtain ⟨k1, k2, k3⟩ := h2 z hz
    refine ⟨k1, ?_, fun e3 => ?_⟩
    · unfold moveP
      rw [k2]
    · have := k3 e3
      unfold moveP
      rw [if_neg (by omega), this]
theorem up_start (n : Nat) : Up (List.range n) n fun x => x :=
  ⟨List.length_range, fun x hx => by
    have : (List.range n).getD x 0 = x := by simp [List.getD_eq_getElem?_getD, List.getElem?_range hx]
    rw [this]
    exact ⟨Nat.le_refl _, rfl, fun _ => rfl⟩⟩
/-- The classes, and their lists, as far as the first k vertices go. -/
def rootsL (k : Nat) (p : Nat → Nat) : List Nat := (List.range k).filter fun x => decide (p x = x)
def rowL (k : Nat) (p : Nat → Nat) (r : Nat) : List Int := ((List.range k).filter fun x => decide (p x = r)).map fun x : Nat => (x : Int)
def listsP (k : Nat) (p : Nat → Nat) : List (List Int) := (rootsL k p).map (rowL k p)
theorem rootsL_len (k : Nat) (p : Nat → Nat) : (rootsL k p).length = rootsN k p := by
  unfold rootsL rootsN
  rw [List.countP_eq_length_filter]
theorem listsP_len (k : Nat) (p : Nat → Nat) : (listsP k p).length = rootsN k p := by
  unfold listsP
  rw [List.length_map, rootsL_len]
theorem rootsN_succ (k : Nat) (p : Nat → Nat) : rootsN (k + 1) p = rootsN k p + if p k = k then 1 else 0 := by
  unfold rootsN
  rw [List.range_succ, List.countP_append, List.countP_singleton]
  by_cases e : p k = k <;> simp [e]
theorem rootsN_mono {j k : Nat} (h : j ≤ k) (p : Nat → Nat) : rootsN j p ≤ rootsN k p := by
  induction h with
  | refl => exact Nat.le_refl _
  | step _ ih => rw [rootsN_succ]; omega
theorem rootsL_succ (k : Nat) (p : Nat → Nat) : rootsL (k + 1) p = rootsL k p ++ if p k = k then [k] else [] := by
  unfold rootsL
  rw [List.range_succ, List.filter_append]
  by_cases e : p k = k <;> simp [e]
theorem rowL_succ (k : Nat) (p : Nat → Nat) (r : Nat) : rowL (k + 1) p r = rowL k p r ++ if p k = r then [(k : Int)] else [] := by
  unfold rowL
  rw [List.range_succ, List.filter_append, List.map_append]
  by_cases e : p k = r <;> simp [e]
theorem rowL_len (k : Nat) (p : Nat → Nat) (r : Nat) : (rowL k p r).length = cntZ k p (r : Int) := by
  unfold rowL cntZ
  rw [List.length_map, ← List.countP_eq_length_filter]
  exact List.countP_congr fun x _ => by simp only [decide_eq_true_eq]; omega
theorem rowL_le (k : Nat) (p : Nat → Nat) (r : Nat) : (rowL k p r).length ≤ k := by rw [rowL_len]; exact cntZ_le _ _ _
/-- The name r stands at the place that its rank tells. -/
theorem root_at {p : Nat → Nat} {r : Nat} (hr : p r = r) : ∀ k, r < k → (rootsL k p)[rootsN r p]? = some r
  | 0, h => by omega
  | k + 1, h => by
    rw [rootsL_succ]
    by_cases e : r = k
    · subst e
      rw [← rootsL_len, List.getElem?_append_right (Nat.le_refl _), Nat.sub_self, if_pos hr]; rfl
    · have ih := root_at hr k (by omega)
      have hl : rootsN r p < (rootsL k p).length := (List.getElem?_eq_some_iff.1 ih).1
      rw [List.getElem?_append_left hl, ih]
theorem at_root {p : Nat → Nat} {r i : Nat} : ∀ k, (rootsL k p)[i]? = some r → i = rootsN r p ∧ p r = r ∧ r < k
  | 0, h => by simp [rootsL] at h
  | k + 1, h => by
    rw [rootsL_succ] at h
    by_cases hl : i < (rootsL k p).length
    · rw [List.getElem?_append_left hl] at h
      obtain ⟨h1, h2, h3⟩ := at_root k h
      exact ⟨h1, h2, by omega⟩
    · rw [List.getElem?_append_right (by omega)] at h
      by_cases e : p k = k
      · rw [if_pos e] at h
        have h0 : i - (rootsL k p).length = 0 := by
          have := (List.getElem?_eq_some_iff.1 h).1
          simpa using this
        rw [h0] at h
        simp at h
        subst h
        rw [rootsL_len] at h0 hl
        exact ⟨by omega, e, by omega⟩
      · rw [if_neg e] at h; simp at h
theorem rank_lt {p : Nat → Nat} {r k : Nat} (hr : p r = r) (h : r < k) : rootsN r p < rootsN k p := by
  have := (List.getElem?_eq_some_iff.1 (root_at hr k h)).1
  rwa [rootsL_len] at this
/-- The lists behind one vertex more: at the place of its class it is put behind. -/
def grownL (k : Nat) (p : Nat → Nat) : List (List Int) := (rootsL (k + 1) p).map (rowL k p)
theorem grownL_len (k : Nat) (p : Nat → Nat) : (grownL k p).length = rootsN (k + 1) p := by
  unfold grownL
  rw [List.length_map, rootsL_len]
theorem grown_root {n : Nat} {p : Nat → Nat} (h : Names n p) {k : Nat} (e : p k = k) : grownL k p = listsP k p ++ [[]] := by
  unfold grownL listsP
  rw [rootsL_succ, if_pos e, List.map_append]
  have : rowL k p k = [] := by
    rw [← List.length_eq_zero_iff, rowL_len]
    unfold cntZ
    rw [List.countP_eq_zero]
    intro x hx
    have := h.1 x
    have := List.mem_range.1 hx
    simp
    omega
  simp [this]
theorem grown_other {p : Nat → Nat} {k : Nat} (e : p k ≠ k) : grownL k p = listsP k p := by
  unfold grownL listsP
  rw [rootsL_succ, if_neg e, List.append_nil]
theorem grown_at {n : Nat} {p : Nat → Nat} (h : Names n p) (k : Nat) : (grownL k p)[rootsN (p k) p]? = some (rowL k p (p k)) := by
  unfold grownL
  rw [List.getElem?_map, root_at (h.2.1 k) (k + 1) (by have := h.1 k; omega)]
  rfl
theorem lists_succ {n : Nat} {p : Nat → Nat} (h : Names n p) (k : Nat) : listsP (k + 1) p = (grownL k p).set (rootsN (p k) p) (rowL k p (p k) ++ [(k : Int)]) := by
  have hlt : rootsN (p k) p < rootsN (k + 1) p := rank_lt (h.2.1 k) (by have := h.1 k; omega)
  refine List.ext_getElem? fun i => ?_
  by_cases e : i = rootsN (p k) p
  · subst e
    rw [List.getElem?_set_self (by rw [grownL_len]; exact hlt)]
    unfold listsP
    rw [List.getElem?_map, root_at (h.2.1 k) (k + 1) (by have := h.1 k; omega)]
    rw [Option.map_some, rowL_succ, if_pos rfl]
  · rw [List.getElem?_set_ne (fun e2 => e e2.symm)]
    unfold listsP grownL
    rw [List.getElem?_map, List.getElem?_map]
    cases hr : (rootsL (k + 1) p)[i]? with
    | none => rfl
    | some r =>
      obtain ⟨h1, h2, h3⟩ := at_root (k + 1) hr
      rw [Option.map_some, Option.map_some, rowL_succ, if_neg (fun e3 => e (by rw [e3]; exact h1)), List.append_nil]
theorem lists_zero (p : Nat → Nat) : listsP 0 p = [] := rfl
/-- What the pairs that were joined say of the names: alike along each pair, and no more alike than that. -/
def Stands (n : Nat) (E : List (Int × Int)) (p : Nat → Nat) : Prop :=
  Names n p ∧ ∀ f : Nat → Nat, (∀ e ∈ E, fitB n e.1 = true → fitB n e.2 = true → f e.1.toNat = f e.2.toNat) ↔ ∀ x, f (p x) = f x
theorem stands_start (n : Nat) : Stands n [] fun x => x := ⟨names_id n, fun f => ⟨fun _ _ => rfl, fun _ e he => by simp at he⟩⟩
theorem stands_join {n : Nat} {E : List (Int × Int)} {p : Nat → Nat} (h : Stands n E p) (u v : Int) : Stands n (E ++ [(u, v)]) (joinZ n p u v) := by
  refine ⟨join_names h.1 u v, fun f => ?_⟩
  have hE : (∀ e ∈ E ++ [(u, v)], fitB n e.1 = true → fitB n e.2 = true → f e.1.toNat = f e.2.toNat) ↔ (∀ x, f (p x) = f x) ∧ (fitB n u = true → fitB n v = true → f u.toNat = f v.toNat) := by
    rw [← h.2 f]
    constructor
    · exact fun k => ⟨fun e he => k e (List.mem_append_left _ he), k (u, v) (by simp)⟩
    · rintro ⟨k1, k2⟩ e he
      rcases List.mem_append.1 he with he | he
      · exact k1 e he
      · simp at he; subst he; exact k2
  rw [hE]
  unfold joinZ
  by_cases hf : (fitB n u && fitB n v) = true
  · rw [if_pos hf]
    rw [Bool.and_eq_true] at hf
    generalize u.toNat = a at *
    generalize v.toNat = b at *
    constructor
    · rintro ⟨k1, k2⟩ x
      have k3 := k2 hf.1 hf.2
      unfold joinN
      split
      · rename_i hx
        have j1 := k1 a
        have j2 := k1 b
        have j3 := k1 x
        rcases Nat.le_total (p a) (p b) with l | l
        · rw [Nat.min_eq_left l]
          rcases hx with hx | hx <;> rw [hx] at j3 <;> omega
        · rw [Nat.min_eq_right l]
          rcases hx with hx | hx <;> rw [hx] at j3 <;> omega
      · exact k1 x
    · intro k
      have key : ∀ x y, joinN p a b x = joinN p a b y → f x = f y := fun x y e => by rw [← k x, ← k y, e]
      have hpp := h.1.2.1
      refine ⟨fun x => key _ _ ?_, fun _ _ => key _ _ ?_⟩
      · unfold joinN; rw [hpp]
      · unfold joinN; rw [if_pos (Or.inl rfl), if_pos (Or.inr rfl)]
  · rw [if_neg hf]
    have hf' : ¬ (fitB n u = true ∧ fitB n v = true) := fun h => hf (by rw [h.1, h.2]; rfl)
    exact ⟨fun k => k.1, fun k => ⟨k, fun h1 h2 => absurd ⟨h1, h2⟩ hf'⟩⟩
theorem stands_one {n : Nat} {E E' : List (Int × Int)} {p q : Nat → Nat} (h : Stands n E p) (h' : Stands n E' q) (he : ∀ e, e ∈ E' → e ∈ E ∨ (e.2, e.1) ∈ E) (he' : ∀ e, e ∈ E → e ∈ E' ∨ (e.2, e.1) ∈ E') : p = q := by
  have a : ∀ x, q (p x) = q x := (h.2 q).1 fun e hm h1 h2 => by
    have hq := (h'.2 q).2 h'.1.2.1
    rcases he' e hm with k | k
    · exact hq e k h1 h2
    · exact (hq _ k h2 h1).symm
  have b : ∀ x, p (q x) = p x := (h'.2 p).1 fun e hm h1 h2 => by
    have hp := (h.2 p).2 h.1.2.1
    rcases he e hm with k | k
    · exact hp e k h1 h2
    · exact (hp _ k h2 h1).symm
  funext x
  have a1 := a x
  have a2 := h'.1.1 (p x)
  have b1 := b x
  have b2 := h.1.1 (q x)
  omega
end DsuPure
end Go.Proofs.YtmohfmhkhldhnaaGreat
