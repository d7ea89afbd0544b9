/- A walk over the vertices of a graph, plainly: what is reached, by which way, and where it stands; what hangs together has one beginning. No function of the program is named. -/
import Derived.Test.YtmohfmhkhldhnaaGreatPk22
namespace Go.Proofs.YtmohfmhkhldhnaaGreat.CmPure
open EdPure NtPure DsuPure
/-- There is an edge between both. -/
def adj (M : List Ed) (x y : Nat) : Prop := ∃ e ∈ M, (e.1 = (x : Int) ∧ e.2.1 = (y : Int)) ∨ (e.1 = (y : Int) ∧ e.2.1 = (x : Int))
theorem adj_symm {M : List Ed} {x y : Nat} (h : adj M x y) : adj M y x := by
  obtain ⟨e, he, h⟩ := h
  exact ⟨e, he, h.symm⟩
theorem ed_in {n : Nat} {M : List Ed} (h : GoodN n M) {e : Ed} (he : e ∈ M) : ∃ x y : Nat, e.1 = (x : Int) ∧ e.2.1 = (y : Int) ∧ x < y ∧ y < n ∧ 0 < e.2.2 := by
  have h1 := h.2.1 e he
  have h2 := (h.1.2 e he).1
  exact ⟨e.1.toNat, e.2.1.toNat, by omega, by omega, by omega, by omega, h1.2.2⟩
theorem adj_in {n : Nat} {M : List Ed} (h : GoodN n M) {x y : Nat} (ha : adj M x y) : x < n ∧ y < n ∧ x ≠ y := by
  obtain ⟨e, he, ha⟩ := ha
  obtain ⟨a, b, h1, h2, h3, h4, -⟩ := ed_in h he
  omega
theorem adj_near {n : Nat} {M : List Ed} (h : GoodN n M) {x : Nat} {u : Int} : u ∈ nearE M (x : Int) ↔ ∃ y : Nat, u = (y : Int) ∧ adj M x y := by
  unfold nearE
  rw [List.mem_map]
  constructor
  · rintro ⟨e, he, rfl⟩
    obtain ⟨h1, h2⟩ := List.mem_filter.1 he
    obtain ⟨a, b, e1, e2, h3, h4, -⟩ := ed_in h h1
    unfold atB at h2
    simp only [decide_eq_true_eq] at h2
    unfold othE
    by_cases hx : e.1 = (x : Int)
    · rw [if_pos hx]
      exact ⟨b, e2, e, h1, Or.inl ⟨hx, e2⟩⟩
    · rw [if_neg hx]
      exact ⟨a, e1, e, h1, Or.inr ⟨e1, h2.resolve_left hx⟩⟩
  · rintro ⟨y, rfl, e, he, h1⟩
    refine ⟨e, List.mem_filter.2 ⟨he, ?_⟩, ?_⟩
    · unfold atB; simp only [decide_eq_true_eq]; omega
    · obtain ⟨a, b, e1, e2, h3, h4, -⟩ := ed_in h he
      unfold othE
      split <;> omega
/-- What the joined pairs do not part, their names do not. -/
theorem st_only {n : Nat} {E : List (Int × Int)} {p : Nat → Nat} (h : Stands n E p) {f : Nat → Nat} (hf : ∀ e ∈ E, fitB n e.1 = true → fitB n e.2 = true → f e.1.toNat = f e.2.toNat) {x y : Nat} (hxy : p x = p y) : f x = f y := by
  have := (h.2 f).1 hf
  rw [← this x, ← this y, hxy]
theorem st_pair {n : Nat} {E : List (Int × Int)} {p : Nat → Nat} (h : Stands n E p) {x y : Nat} (hx : x < n) (hy : y < n) (he : ((x : Int), (y : Int)) ∈ E) : p x = p y := by
  have := (h.2 p).2 h.1.2.1 _ he (fit_of hx) (fit_of hy)
  simpa using this
theorem st_edge {n : Nat} {L : List Ed} {e : Ed} {x y : Nat} (he : e ∈ L) (h1 : e.1 = (x : Int)) (h2 : e.2.1 = (y : Int)) (hx : x < n) (hy : y < n) (hw : 0 ≤ e.2.2) : namH n L 0 x = namH n L 0 y :=
  st_pair (nam_stands n L 0) hx hy (prs_mem.2 ⟨e, he, hw, by rw [h1, h2]⟩)
theorem adj_name {n : Nat} {M : List Ed} (h : GoodN n M) {x y : Nat} (ha : adj M x y) : namH n M 0 x = namH n M 0 y := by
  obtain ⟨hx, hy, -⟩ := adj_in h ha
  obtain ⟨e, he, ⟨h1, h2⟩ | ⟨h1, h2⟩⟩ := ha
  · exact st_edge he h1 h2 hx hy (by have := (h.2.1 e he).2.2; omega)
  · exact (st_edge he h1 h2 hy hx (by have := (h.2.1 e he).2.2; omega)).symm
/-- What no edge leads out of is whole. -/
theorem whole {n : Nat} {M : List Ed} {R : List Nat} (hc : ∀ x ∈ R, ∀ y, adj M x y → y ∈ R) {x y : Nat} (hx : x ∈ R) (hxy : namH n M 0 x = namH n M 0 y) : y ∈ R := by
  have h := st_only (nam_stands n M 0) (f := fun z => if z ∈ R then 1 else 0) (fun e he _ _ => ?_) hxy
  · simp only [if_pos hx] at h
    by_cases hy : y ∈ R
    · exact hy
    · rw [if_neg hy] at h; cases h
  · obtain ⟨d, hd, hw, rfl⟩ := prs_mem.1 he
    rename_i f1 f2
    simp only at f1 f2 ⊢
    obtain ⟨a, ha, -⟩ := fit_yes f1
    obtain ⟨b, hb, -⟩ := fit_yes f2
    rw [ha, hb, Int.toNat_natCast, Int.toNat_natCast]
    have had : adj M a b := ⟨d, hd, Or.inl ⟨ha, hb⟩⟩
    by_cases h1 : a ∈ R
    · rw [if_pos h1, if_pos (hc a h1 b had)]
    · rw [if_neg h1, if_neg (fun h2 => h1 (hc b h2 a (adj_symm had)))]
/-- A walk: R what is reached, U of each place the one ahead, P of each vertex its place. -/
structure Wk (n : Nat) (M : List Ed) (R : List Nat) (U P : List Int) : Prop where
  nd : R.Nodup
  lt : ∀ x ∈ R, x < n
  ul : U.length = R.length
  pl : P.length = n
  pin : ∀ (i x : Nat), R[i]? = some x → P[x]? = some (i : Int)
  pno : ∀ x, x < n → x ∉ R → P[x]? = some (-1)
  up : ∀ (i x : Nat), R[i]? = some x → (U[i]? = some (-1) ∧ ∀ j y, j < i → R[j]? = some y → namH n M 0 y ≠ namH n M 0 x) ∨ ∃ j y : Nat, j < i ∧ R[j]? = some y ∧ U[i]? = some (j : Int) ∧ adj M y x
theorem Wk.start (n : Nat) (M : List Ed) : Wk n M [] [] (List.replicate n (-1)) :=
  ⟨List.nodup_nil, by simp, rfl, by simp, by simp, fun x hx _ => by simp [hx], by simp⟩
theorem nodup_few : ∀ (n : Nat) (l : List Nat), l.Nodup → (∀ c ∈ l, c < n) → l.length ≤ n := by
  intro n
  induction n with
  | zero =>
    intro l _ h
    cases l with
    | nil => exact Nat.le_refl _
    | cons c r => have := h c List.mem_cons_self; omega
  | succ n ih =>
    intro l hn h
    have h1 := ih (l.filter fun c => c != n) (hn.filter _) (fun c hc => by
      rw [List.mem_filter] at hc
      have := h c hc.1
      have h2 : c ≠ n := by simpa using hc.2
      omega)
    have h3 : l.length = (l.filter fun c => c != n).length + l.count n := by
      clear h1 h hn ih
      induction l with
      | nil => rfl
      | cons c r ih =>
        rw [List.filter_cons, List.count_cons]
        by_cases e : c = n
        · simp [e]; omega
        · simp [e]; omega
    have h4 := List.nodup_iff_count.1 hn n
    omega
theorem Wk.few {n : Nat} {M : List Ed} {R : List Nat} {U P : List Int} (h : Wk n M R U P) : R.length ≤ n := by
  exact nodup_few n R h.nd h.lt
theorem Wk.place {n : Nat} {M : List Ed} {R : List Nat} {U P : List Int} (h : Wk n M R U P) {x : Nat} (hx : x < n) : (x ∉ R ∧ P[x]? = some (-1)) ∨ ∃ i : Nat, R[i]? = some x ∧ P[x]? = some (i : Int) := by
  by_cases hr : x ∈ R
  · obtain ⟨i, hi⟩ := List.mem_iff_getElem?.1 hr
    exact Or.inr ⟨i, hi, h.pin i x hi⟩
  · exact Or.inl ⟨hr, h.pno x hx hr⟩
theorem Wk.one {n : Nat} {M : List Ed} {R : List Nat} {U P : List Int} (h : Wk n M R U P) {i j x : Nat} (hi : R[i]? = some x) (hj : R[j]? = some x) : i = j := by
  have h1 := h.pin i x hi
  rw [h.pin j x hj] at h1
  simp at h1
  omega
theorem Wk.step {n : Nat} {M : List Ed} {R : List Nat} {U P : List Int} (h : Wk n M R U P) {x : Nat} (hx : x < n) (hn : x ∉ R) {u : Int}
    (hu : (u = -1 ∧ ∀ y ∈ R, namH n M 0 y ≠ namH n M 0 x) ∨ ∃ j y : Nat, R[j]? = some y ∧ u = (j : Int) ∧ adj M y x) : Wk n M (R ++ [x]) (U ++ [u]) (P.set x (R.length : Int)) := by
  have hat : ∀ {i z : Nat}, (R ++ [x])[i]? = some z → (R[i]? = some z ∧ i < R.length) ∨ (i = R.length ∧ z = x) := by
    intro i z hi
    rw [List.getElem?_append] at hi
    split at hi
    · next hl => exact Or.inl ⟨hi, hl⟩
    · next hl =>
      have : i = R.length := by
        by_cases e : i - R.length = 0
        · omega
        · rw [List.getElem?_eq_none (by simp; omega)] at hi; cases hi
      subst this
      simp at hi
      exact Or.inr ⟨rfl, hi.symm⟩
  have hold : ∀ {i z : Nat}, R[i]? = some z → (R ++ [x])[i]? = some z := by
    intro i z hi
    rw [List.getElem?_append_left (List.getElem?_eq_some_iff.1 hi).1]
    exact hi
  refine ⟨?_, ?_, by simp [h.ul], by simp [h.pl], ?_, ?_, ?_⟩
  · rw [List.nodup_append]
    refine ⟨h.nd, by simp, fun a ha b hb => ?_⟩
    rw [List.mem_singleton] at hb
    subst hb
    exact fun e => hn (e ▸ ha)
  · intro y hy
    rcases List.mem_append.1 hy with hy | hy
    · exact h.lt y hy
    · rw [List.mem_singleton.1 hy]; exact hx
  · intro i z hi
    rcases hat hi with ⟨h1, -⟩ | ⟨rfl, rfl⟩
    · rw [List.getElem?_set_ne (fun e => hn (by rw [e]; exact List.mem_iff_getElem?.2 ⟨i, h1⟩))]
      exact h.pin i z h1
    · simp [h.pl, hx]
  · intro y hy hyn
    rw [List.mem_append, List.mem_singleton] at hyn
    rw [List.getElem?_set_ne (fun e => hyn (Or.inr e.symm))]
    exact h.pno y hy (fun e => hyn (Or.inl e))
  · intro i z hi
    rcases hat hi with ⟨h1, hl⟩ | ⟨rfl, rfl⟩
    · rcases h.up i z h1 with ⟨h2, h3⟩ | ⟨j, y, h2, h3, h4, h5⟩
      · refine Or.inl ⟨?_, fun j y hj hy => ?_⟩
        · rw [List.getElem?_append_left (by rw [h.ul]; exact hl)]; exact h2
        · rcases hat hy with ⟨h4, -⟩ | ⟨h4, -⟩
          · exact h3 j y hj h4
          · omega
      · refine Or.inr ⟨j, y, h2, hold h3, ?_, h5⟩
        rw [List.getElem?_append_left (by rw [h.ul]; exact hl)]; exact h4
    · have hU : (U ++ [u])[R.length]? = some u := by rw [← h.ul]; simp
      rcases hu with ⟨rfl, h1⟩ | ⟨j, y, h1, rfl, h2⟩
      · refine Or.inl ⟨hU, fun j y hj hy => ?_⟩
        rcases hat hy with ⟨h4, -⟩ | ⟨h4, -⟩
        · exact h1 y (List.mem_iff_getElem?.2 ⟨j, h4⟩)
        · omega
      · exact Or.inr ⟨j, y, (List.getElem?_eq_some_iff.1 h1).1, hold h1, hU, h2⟩
/-- Of the first places all neighbours are reached. -/
def Cl (M : List Ed) (R : List Nat) (a : Nat) : Prop := ∀ i x : Nat, i < a → R[i]? = some x → ∀ y, adj M x y → y ∈ R
theorem Cl.all {M : List Ed} {R : List Nat} (h : Cl M R R.length) : ∀ x ∈ R, ∀ y, adj M x y → y ∈ R := by
  intro x hx y hy
  obtain ⟨i, hi⟩ := List.mem_iff_getElem?.1 hx
  exact h i x (List.getElem?_eq_some_iff.1 hi).1 hi y hy
/-- While the neighbours of what stands at a are gone over, the first k of them reached; what was new from the place s on hangs together with v. -/
structure Go (n : Nat) (M : List Ed) (R0 : List Nat) (v a : Nat) (D : List Int) (R : List Nat) (U P : List Int) : Prop where
  wk : Wk n M R U P
  pre : ∃ S, R = R0 ++ S
  cl : Cl M R a
  near : ∀ y : Nat, (y : Int) ∈ D → y ∈ R
  new : ∀ i y : Nat, R0.length ≤ i → R[i]? = some y → namH n M 0 y = namH n M 0 v
  lo : R0.length ≤ a
  hi : a ≤ R.length
  has : v ∈ R
theorem Go.hit {n : Nat} {M : List Ed} {R0 : List Nat} {v a : Nat} {D : List Int} {R : List Nat} {U P : List Int} (h : Go n M R0 v a D R U P) {y : Nat} (hy : y ∈ R) : Go n M R0 v a (D ++ [(y : Int)]) R U P :=
  ⟨h.wk, h.pre, h.cl, fun z hz => by
    rcases List.mem_append.1 hz with hz | hz
    · exact h.near z hz
    · have : z = y := by have := List.mem_singleton.1 hz; omega
      rw [this]; exact hy, h.new, h.lo, h.hi, h.has⟩
theorem Go.more {n : Nat} {M : List Ed} (hG : GoodN n M) {R0 : List Nat} {v a : Nat} {D : List Int} {R : List Nat} {U P : List Int} (h : Go n M R0 v a D R U P) {x y : Nat} (hx : R[a]? = some x) (hxy : adj M x y) (hy : y ∉ R) :
    Go n M R0 v a (D ++ [(y : Int)]) (R ++ [y]) (U ++ [(a : Int)]) (P.set y (R.length : Int)) := by
  have hal := (List.getElem?_eq_some_iff.1 hx).1
  refine ⟨h.wk.step (adj_in hG hxy).2.1 hy (Or.inr ⟨a, x, hx, rfl, hxy⟩), ?_, ?_, ?_, ?_, h.lo, by simp; omega, List.mem_append_left _ h.has⟩
  · obtain ⟨S, hS⟩ := h.pre
    exact ⟨S ++ [y], by rw [hS]; simp⟩
  · intro i z hi hz u hu
    rw [List.getElem?_append_left (by omega)] at hz
    exact List.mem_append_left _ (h.cl i z hi hz u hu)
  · intro z hz
    rcases List.mem_append.1 hz with hz | hz
    · exact List.mem_append_left _ (h.near z hz)
    · have : z = y := by have := List.mem_singleton.1 hz; omega
      rw [this]; simp
  · intro i z hi hz
    by_cases hl : i < R.length
    · rw [List.getElem?_append_left hl] at hz
      exact h.new i z hi hz
    · rw [List.getElem?_append_right (by omega)] at hz
      by_cases e : i - R.length = 0
      · rw [e] at hz
        simp at hz
        rw [← hz, ← adj_name hG hxy]
        exact h.new a x h.lo hx
      · rw [List.getElem?_eq_none (by simp; omega)] at hz; cases hz
/-- All neighbours are reached: on to the next place. -/
theorem Go.next {n : Nat} {M : List Ed} (hG : GoodN n M) {R0 : List Nat} {v a : Nat} {D : List Int} {R : List Nat} {U P : List Int} (h : Go n M R0 v a D R U P) {x : Nat} (hx : R[a]? = some x) (hD : D = nearE M (x : Int)) : Go n M R0 v (a + 1) [] R U P := by
  have hal := (List.getElem?_eq_some_iff.1 hx).1
  refine ⟨h.wk, h.pre, fun i z hi hz y hy => ?_, by simp, h.new, by have := h.lo; omega, by omega, h.has⟩
  by_cases e : i = a
  · subst e
    obtain rfl := Option.some.inj (hx.symm.trans hz)
    exact h.near y (by rw [hD]; exact (adj_near hG).2 ⟨y, rfl, hy⟩)
  · exact h.cl i z (by omega) hz y hy
/-- What a walk from v leaves. -/
def FromP (n : Nat) (M : List Ed) (R0 : List Nat) (v : Nat) (R : List Nat) (U P : List Int) : Prop :=
  Wk n M R U P ∧ (∃ S, R = R0 ++ S) ∧ Cl M R R.length ∧ v ∈ R ∧ ∀ i y : Nat, R0.length ≤ i → R[i]? = some y → namH n M 0 y = namH n M 0 v
theorem Go.done {n : Nat} {M : List Ed} {R0 : List Nat} {v a : Nat} {D : List Int} {R : List Nat} {U P : List Int} (h : Go n M R0 v a D R U P) (ha : ¬ a < R.length) : FromP n M R0 v R U P :=
  ⟨h.wk, h.pre, by have : R.length = a := by have := h.hi; omega
                   rw [this]; exact h.cl, h.has, h.new⟩
theorem from_hit {n : Nat} {M : List Ed} {R : List Nat} {U P : List Int} (h : Wk n M R U P) (hc : Cl M R R.length) {v : Nat} (hv : v ∈ R) : Go n M R v R.length [] R U P :=
  ⟨h, ⟨[], by simp⟩, hc, by simp, (fun i y hi hy => by rw [List.getElem?_eq_none hi] at hy; cases hy), Nat.le_refl _, Nat.le_refl _, hv⟩
theorem from_new {n : Nat} {M : List Ed} {R : List Nat} {U P : List Int} (h : Wk n M R U P) (hc : Cl M R R.length) {v : Nat} (hn : v < n) (hv : v ∉ R) : Go n M R v R.length [] (R ++ [v]) (U ++ [-1]) (P.set v (R.length : Int)) := by
  refine ⟨h.step hn hv (Or.inl ⟨rfl, fun y hy e => hv (whole hc.all hy e)⟩), ⟨[v], rfl⟩, ?_, by simp, ?_, Nat.le_refl _, by simp, by simp⟩
  · intro i z hi hz u hu
    rw [List.getElem?_append_left hi] at hz
    exact List.mem_append_left _ (hc i z hi hz u hu)
  · intro i y hi hy
    rw [List.getElem?_append_right hi] at hy
    by_cases e : i - R.length = 0
    · rw [e] at hy; simp at hy; rw [hy]
    · rw [List.getElem?_eq_none (by simp; omega)] at hy; cases hy
/-- What a walk from one vertex alone reaches is what hangs together with it. -/
theorem from_reach {n : Nat} {M : List Ed} {v : Nat} {R : List Nat} {U P : List Int} (h : FromP n M [] v R U P) (x : Nat) : x ∈ R ↔ x < n ∧ namH n M 0 x = namH n M 0 v := by
  obtain ⟨h1, -, h2, h3, h4⟩ := h
  constructor
  · intro hx
    obtain ⟨i, hi⟩ := List.mem_iff_getElem?.1 hx
    exact ⟨h1.lt x hx, h4 i x (Nat.zero_le _) hi⟩
  · rintro ⟨-, hx⟩
    exact whole h2.all h3 hx.symm
end Go.Proofs.YtmohfmhkhldhnaaGreat.CmPure
