/- Vertices in buckets, plainly: who is in one, the one that came last first; each bucket as a list that goes both ways. No function of the program is named. -/
import Derived.Test.YthiabjmnbkhehaaDoorKit
namespace Go.Proofs.YthiabjmnbkhehaaDoor.BkPure
/-- The label of a vertex, or -1. -/
def labD : List (Nat × Nat) → Int → Int
  | [], _ => -1
  | p :: r, v => if (p.1 : Int) = v then (p.2 : Int) else labD r v
def dropD (D : List (Nat × Nat)) (v : Int) : List (Nat × Nat) := D.filter (fun p => !decide ((p.1 : Int) = v))
def wasD (D : List (Nat × Nat)) (v : Int) : Bool := decide (0 ≤ labD D v)
def fitD (N : Nat) (v l : Int) : Bool := decide (0 ≤ v ∧ v < N ∧ 0 ≤ l ∧ l ≤ 2 * N)
def putD (N : Nat) (D : List (Nat × Nat)) (v l : Int) : List (Nat × Nat) := if fitD N v l then (v.toNat, l.toNat) :: dropD D v else D
def betterD (t : Option (Nat × Nat)) (p : Nat × Nat) : Option (Nat × Nat) := match t with | none => some p | some q => if q.2 < p.2 then some p else some q
def topD (D : List (Nat × Nat)) : Option (Nat × Nat) := D.foldl betterD none
def topV (t : Option (Nat × Nat)) : Int := match t with | none => 0 | some p => (p.1 : Int)
def topL (t : Option (Nat × Nat)) : Int := match t with | none => 0 | some p => (p.2 : Int)
def cntD (D : List (Nat × Nat)) (l : Int) : Nat := D.countP (fun p => decide ((p.2 : Int) = l))
def abvP (D : List (Nat × Nat)) (l : Int) (v : Nat) : Bool := decide (0 ≤ labD D v) && decide (l < labD D v)
/-- The bucket with that label. -/
def bk (D : List (Nat × Nat)) (L : Nat) : List Nat := (D.filter (fun p => p.2 == L)).map (·.1)
theorem bk_nil (L : Nat) : bk [] L = [] := rfl
theorem bk_cons (p : Nat × Nat) (D : List (Nat × Nat)) (L : Nat) : bk (p :: D) L = if p.2 = L then p.1 :: bk D L else bk D L := by
  unfold bk
  rw [List.filter_cons]
  by_cases h : p.2 = L <;> simp [h]
theorem bk_snoc (p : Nat × Nat) (D : List (Nat × Nat)) (L : Nat) : bk (D ++ [p]) L = bk D L ++ (if p.2 = L then [p.1] else []) := by
  induction D with
  | nil => rw [List.nil_append, bk_cons, bk_nil]; split <;> rfl
  | cons q D ih => rw [List.cons_append, bk_cons, bk_cons, ih]; split <;> rfl
theorem mem_bk {D : List (Nat × Nat)} {L v : Nat} : v ∈ bk D L ↔ (v, L) ∈ D := by
  unfold bk
  constructor
  · intro h
    obtain ⟨⟨a, b⟩, h1, h2⟩ := List.mem_map.1 h
    obtain ⟨h3, h4⟩ := List.mem_filter.1 h1
    have h4' : b = L := by simpa using h4
    have h2' : a = v := h2
    subst h4' h2'
    exact h3
  · intro h
    exact List.mem_map.2 ⟨(v, L), List.mem_filter.2 ⟨h, by simp⟩, rfl⟩
theorem bk_cnt (D : List (Nat × Nat)) (L : Nat) : (bk D L).length = cntD D (L : Int) := by
  unfold cntD
  induction D with
  | nil => rfl
  | cons p D ih =>
    rw [bk_cons, List.countP_cons]
    by_cases h : p.2 = L
    · rw [if_pos h, List.length_cons, ih, if_pos (by simp [h])]
    · rw [if_neg h, ih, if_neg (by simp; omega)]; rfl
/-- Each vertex at most once, all in range. -/
def Once (N : Nat) (D : List (Nat × Nat)) : Prop := (D.map (·.1)).Nodup ∧ ∀ p ∈ D, p.1 < N ∧ p.2 ≤ 2 * N
theorem once_nil (N : Nat) : Once N [] := ⟨List.nodup_nil, fun p h => by simp at h⟩
theorem once_tail {N : Nat} {p : Nat × Nat} {D : List (Nat × Nat)} (h : Once N (p :: D)) : Once N D := by
  obtain ⟨h1, h2⟩ := h
  rw [List.map_cons, List.nodup_cons] at h1
  exact ⟨h1.2, fun q hq => h2 q (List.mem_cons_of_mem _ hq)⟩
theorem lab_mem {N : Nat} {D : List (Nat × Nat)} (h : Once N D) {p : Nat × Nat} (hp : p ∈ D) : labD D (p.1 : Int) = (p.2 : Int) := by
  induction D with
  | nil => simp at hp
  | cons q D ih =>
    unfold labD
    rcases List.mem_cons.1 hp with e | e
    · subst e; rw [if_pos rfl]
    · rw [if_neg (fun e2 => ?_), ih (once_tail h) e]
      have h1 := h.1
      rw [List.map_cons, List.nodup_cons] at h1
      exact h1.1 (List.mem_map.2 ⟨p, e, by omega⟩)
theorem lab_no {D : List (Nat × Nat)} {v : Int} (h : ∀ p ∈ D, (p.1 : Int) ≠ v) : labD D v = -1 := by
  induction D with
  | nil => rfl
  | cons q D ih =>
    unfold labD
    rw [if_neg (h q List.mem_cons_self), ih (fun p hp => h p (List.mem_cons_of_mem _ hp))]
theorem lab_cases (D : List (Nat × Nat)) (v : Int) : (labD D v = -1 ∧ ∀ p ∈ D, (p.1 : Int) ≠ v) ∨ ∃ u L : Nat, v = (u : Int) ∧ labD D v = (L : Int) ∧ (u, L) ∈ D := by
  induction D with
  | nil => exact Or.inl ⟨rfl, fun p h => by simp at h⟩
  | cons q D ih =>
    by_cases e : (q.1 : Int) = v
    · refine Or.inr ⟨q.1, q.2, e.symm, ?_, List.mem_cons_self⟩
      unfold labD; rw [if_pos e]
    · rcases ih with ⟨h1, h2⟩ | ⟨u, L, h1, h2, h3⟩
      · refine Or.inl ⟨by unfold labD; rw [if_neg e, h1], fun p hp => ?_⟩
        rcases List.mem_cons.1 hp with rfl | hp
        · exact e
        · exact h2 p hp
      · exact Or.inr ⟨u, L, h1, by unfold labD; rw [if_neg e, h2], List.mem_cons_of_mem _ h3⟩
theorem lab_ge (D : List (Nat × Nat)) (v : Int) : -1 ≤ labD D v := by
  rcases lab_cases D v with ⟨h, -⟩ | ⟨u, L, -, h, -⟩ <;> omega
theorem once_len {N : Nat} {D : List (Nat × Nat)} (h : Once N D) : D.length ≤ N := by
  have key : ∀ (N : Nat) (l : List Nat), l.Nodup → (∀ x ∈ l, x < N) → l.length ≤ N := by
    intro N
    induction N with
    | zero => intro l _ hl; cases l with
      | nil => exact Nat.le_refl _
      | cons a l => exact absurd (hl a List.mem_cons_self) (Nat.not_lt_zero _)
    | succ N ih =>
      intro l hn hl
      have h1 := ih (l.filter (fun x => x != N)) (hn.filter _) (fun x hx => by
        obtain ⟨h2, h3⟩ := List.mem_filter.1 hx
        have := hl x h2
        have h4 : x ≠ N := by simpa using h3
        omega)
      have h2 : l.length ≤ (l.filter (fun x => x != N)).length + 1 := by
        clear h1 hl ih
        induction l with
        | nil => simp
        | cons a l ih2 =>
          rw [List.nodup_cons] at hn
          by_cases e : a = N
          · subst e
            have : l.filter (fun x => x != a) = l := List.filter_eq_self.2 (fun x hx => by
              have : x ≠ a := fun e => hn.1 (by rw [← e]; exact hx)
              simpa using this)
            rw [List.filter_cons]
            simp [this]
          · have := ih2 hn.2
            rw [List.filter_cons]
            simp [e]
            omega
      omega
  have := key N (D.map (·.1)) h.1 (fun x hx => by
    obtain ⟨p, hp, e⟩ := List.mem_map.1 hx
    have := (h.2 p hp).1
    omega)
  simpa using this
theorem once_drop {N : Nat} {D : List (Nat × Nat)} (h : Once N D) (v : Int) : Once N (dropD D v) :=
  ⟨h.1.sublist (List.Sublist.map _ List.filter_sublist), fun p hp => h.2 p (List.mem_filter.1 hp).1⟩
theorem mem_drop {D : List (Nat × Nat)} {v : Int} {p : Nat × Nat} : p ∈ dropD D v ↔ p ∈ D ∧ (p.1 : Int) ≠ v := by
  unfold dropD
  rw [List.mem_filter]
  simp
theorem once_put {N : Nat} {D : List (Nat × Nat)} (h : Once N D) (v l : Int) : Once N (putD N D v l) := by
  unfold putD
  split
  · next hf =>
    have hf' := of_decide_eq_true hf
    have hd := once_drop h v
    refine ⟨?_, fun p hp => ?_⟩
    · rw [List.map_cons, List.nodup_cons]
      refine ⟨fun e => ?_, hd.1⟩
      obtain ⟨p, hp, e⟩ := List.mem_map.1 e
      have := (mem_drop.1 hp).2
      have e' : p.1 = v.toNat := e
      omega
    · rcases List.mem_cons.1 hp with rfl | hp
      · exact ⟨by show v.toNat < N; omega, by show l.toNat ≤ 2 * N; omega⟩
      · exact hd.2 p hp
  · exact h
theorem drop_none {D : List (Nat × Nat)} {v : Int} (h : ∀ p ∈ D, (p.1 : Int) ≠ v) : dropD D v = D :=
  List.filter_eq_self.2 (fun p hp => by simpa using h p hp)
theorem drop_len {N : Nat} {D : List (Nat × Nat)} {v : Int} (h : Once N D) (hv : 0 ≤ labD D v) : (dropD D v).length + 1 = D.length := by
  induction D with
  | nil => exact absurd hv (by show ¬ (0 : Int) ≤ -1; omega)
  | cons p D ih =>
    unfold dropD
    rw [List.filter_cons]
    by_cases e : (p.1 : Int) = v
    · have hn := h.1
      rw [List.map_cons, List.nodup_cons] at hn
      have := drop_none (D := D) (v := v) (fun q hq e2 => hn.1 (List.mem_map.2 ⟨q, hq, by show q.1 = p.1; omega⟩))
      unfold dropD at this
      simp [e, this]
    · have hv' : 0 ≤ labD D v := by unfold labD at hv; rwa [if_neg e] at hv
      have := ih (once_tail h) hv'
      unfold dropD at this
      simp [e]
      omega
theorem was_iff {D : List (Nat × Nat)} {v : Int} : wasD D v = false ↔ labD D v = -1 := by
  have := lab_ge D v
  unfold wasD
  rw [decide_eq_false_iff_not]
  omega
theorem lab_drop (D : List (Nat × Nat)) (v u : Int) : labD (dropD D v) u = if u = v then -1 else labD D u := by
  induction D with
  | nil => show (-1 : Int) = _; split <;> rfl
  | cons p D ih =>
    unfold dropD
    rw [List.filter_cons]
    unfold dropD at ih
    by_cases e : (p.1 : Int) = v
    · simp only [e, decide_true, Bool.not_true, Bool.false_eq_true, if_false]
      rw [ih]
      by_cases e2 : u = v
      · rw [if_pos e2, if_pos e2]
      · rw [if_neg e2, if_neg e2]
        conv => rhs; unfold labD
        rw [if_neg (by omega)]
    · simp only [e, decide_false, Bool.not_false, if_true]
      unfold labD
      by_cases e3 : (p.1 : Int) = u
      · rw [if_pos e3, if_pos e3, if_neg (by omega)]
      · rw [if_neg e3, if_neg e3, ih]
theorem bk_drop_other {D : List (Nat × Nat)} {v : Int} {L : Nat} (h : ∀ u ∈ bk D L, (u : Int) ≠ v) : bk (dropD D v) L = bk D L := by
  induction D with
  | nil => rfl
  | cons p D ih =>
    unfold dropD
    rw [List.filter_cons, bk_cons]
    have hr : ∀ u ∈ bk D L, (u : Int) ≠ v := fun u hu => h u (by rw [bk_cons]; split; exact List.mem_cons_of_mem _ hu; exact hu)
    have ih' := ih hr
    unfold dropD at ih'
    by_cases e : (p.1 : Int) = v
    · have : p.2 ≠ L := fun e2 => h p.1 (by rw [bk_cons, if_pos e2]; exact List.mem_cons_self) e
      simp only [e, decide_true, Bool.not_true, Bool.false_eq_true, if_false]
      rw [if_neg this, ih']
    · simp only [e, decide_false, Bool.not_false, if_true]
      rw [bk_cons, ih']
theorem bk_drop (D : List (Nat × Nat)) (v : Int) (L : Nat) : bk (dropD D v) L = (bk D L).filter (fun u : Nat => !decide ((u : Int) = v)) := by
  induction D with
  | nil => rfl
  | cons p D ih =>
    unfold dropD
    rw [List.filter_cons, bk_cons]
    unfold dropD at ih
    by_cases e : (p.1 : Int) = v
    · simp only [e, decide_true, Bool.not_true, Bool.false_eq_true, if_false]
      rw [ih]
      split
      · rw [List.filter_cons]; simp [e]
      · rfl
    · simp only [e, decide_false, Bool.not_false, if_true]
      rw [bk_cons, ih]
      split
      · rw [List.filter_cons]; simp [e]
      · rfl
theorem bk_nodup {N : Nat} {D : List (Nat × Nat)} (h : Once N D) (L : Nat) : (bk D L).Nodup :=
  h.1.sublist (List.Sublist.map _ List.filter_sublist)
/-- Where a vertex stands in its bucket: those ahead of it, those behind it; and what is there without it. -/
theorem bk_split {N : Nat} {D : List (Nat × Nat)} (h : Once N D) {v L : Nat} (hv : (v, L) ∈ D) :
    ∃ p q, bk D L = p ++ v :: q ∧ bk (dropD D (v : Int)) L = p ++ q ∧ v ∉ p ∧ v ∉ q ∧ (p ++ q).Nodup := by
  obtain ⟨p, q, e⟩ := List.append_of_mem (mem_bk.2 hv)
  have hn := bk_nodup h L
  rw [e] at hn
  have h1 : v ∉ p := fun h => by
    rw [List.nodup_append] at hn
    exact hn.2.2 v h v List.mem_cons_self rfl
  have h2 : v ∉ q := by
    rw [List.nodup_append, List.nodup_cons] at hn
    exact hn.2.1.1
  refine ⟨p, q, e, ?_, h1, h2, hn.sublist (List.Sublist.append (List.Sublist.refl _) (List.sublist_cons_self _ _))⟩
  rw [bk_drop, e, List.filter_append, List.filter_cons]
  have f1 : p.filter (fun u : Nat => !decide ((u : Int) = (v : Int))) = p := List.filter_eq_self.2 (fun x hx => by
    have : x ≠ v := fun e => h1 (by rw [← e]; exact hx)
    simp; omega)
  have f2 : q.filter (fun u : Nat => !decide ((u : Int) = (v : Int))) = q := List.filter_eq_self.2 (fun x hx => by
    have : x ≠ v := fun e => h2 (by rw [← e]; exact hx)
    simp; omega)
  rw [f1, f2]
  simp
theorem top_snoc (D : List (Nat × Nat)) (p : Nat × Nat) : topD (D ++ [p]) = betterD (topD D) p := by
  unfold topD
  rw [List.foldl_append]; rfl
theorem top_spec (D : List (Nat × Nat)) : (D = [] ∧ topD D = none) ∨ ∃ v L r, topD D = some (v, L) ∧ (∀ p ∈ D, p.2 ≤ L) ∧ bk D L = v :: r := by
  generalize hn : D.length = n
  induction n generalizing D with
  | zero => exact Or.inl ⟨List.length_eq_zero_iff.1 hn, by rw [List.length_eq_zero_iff.1 hn]; rfl⟩
  | succ n ih =>
    rcases List.eq_nil_or_concat D with e | ⟨E, p, e⟩
    · subst e; simp at hn
    · rw [List.concat_eq_append] at e
      subst e
      refine Or.inr ?_
      rcases ih E (by simpa using hn) with ⟨h1, h2⟩ | ⟨v, L, r, h1, h2, h3⟩
      · subst h1
        refine ⟨p.1, p.2, [], by rw [top_snoc, h2]; rfl, fun q hq => ?_, by rw [bk_snoc, bk_nil, if_pos rfl]; rfl⟩
        have : q = p := by simpa using hq
        subst this
        exact Nat.le_refl _
      · by_cases hl : L < p.2
        · refine ⟨p.1, p.2, [], ?_, fun q hq => ?_, ?_⟩
          · rw [top_snoc, h1]; unfold betterD; exact if_pos hl
          · rcases List.mem_append.1 hq with hq | hq
            · have := h2 q hq; omega
            · have : q = p := by simpa using hq
              subst this
              exact Nat.le_refl _
          · have : bk E p.2 = [] := by
              rw [List.eq_nil_iff_forall_not_mem]
              intro u hu
              have := h2 _ (mem_bk.1 hu)
              exact absurd hl (by simp at this; omega)
            rw [bk_snoc, if_pos rfl, this]; rfl
        · refine ⟨v, L, r ++ (if p.2 = L then [p.1] else []), ?_, fun q hq => ?_, ?_⟩
          · rw [top_snoc, h1]; unfold betterD; exact if_neg hl
          · rcases List.mem_append.1 hq with hq | hq
            · exact h2 q hq
            · have : q = p := by simpa using hq
              subst this
              omega
          · rw [bk_snoc, h3]; rfl
/-- The list that goes both ways: each one's label, who is ahead of it, who is behind it. -/
def hdz (l : List Nat) (z : Int) : Int := match l with | [] => z | v :: _ => (v : Int)
def lst (a : Int) : List Nat → Int
  | [] => a
  | v :: r => lst (v : Int) r
def Lk (S : List (Int × Int × Int)) (L : Int) : Int → List Nat → Int → Prop
  | _, [], _ => True
  | a, v :: r, z => S[v]? = some (L, a, hdz r z) ∧ Lk S L (v : Int) r z
theorem lst_append (a : Int) (p q : List Nat) : lst a (p ++ q) = lst (lst a p) q := by
  induction p generalizing a with
  | nil => rfl
  | cons v p ih => exact ih (v : Int)
theorem hdz_append (p q : List Nat) (z : Int) : hdz (p ++ q) z = hdz p (hdz q z) := by cases p <;> rfl
theorem lk_append {S : List (Int × Int × Int)} {L : Int} (p q : List Nat) (a z : Int) : Lk S L a (p ++ q) z ↔ Lk S L a p (hdz q z) ∧ Lk S L (lst a p) q z := by
  induction p generalizing a with
  | nil => exact ⟨fun h => ⟨trivial, h⟩, fun h => h.2⟩
  | cons v p ih =>
    show S[v]? = some (L, a, hdz (p ++ q) z) ∧ Lk S L (v : Int) (p ++ q) z ↔ (S[v]? = some (L, a, hdz p (hdz q z)) ∧ Lk S L (v : Int) p (hdz q z)) ∧ Lk S L (lst (v : Int) p) q z
    rw [ih, hdz_append]
    exact ⟨fun ⟨h1, h2, h3⟩ => ⟨⟨h1, h2⟩, h3⟩, fun ⟨⟨h1, h2⟩, h3⟩ => ⟨h1, h2, h3⟩⟩
theorem lk_same {S S' : List (Int × Int × Int)} {L : Int} : ∀ {l : List Nat} {a z : Int}, Lk S L a l z → (∀ v ∈ l, S'[v]? = S[v]?) → Lk S' L a l z
  | [], _, _, _, _ => trivial
  | v :: _, _, _, ⟨h1, h2⟩, h => ⟨(h v List.mem_cons_self).trans h1, lk_same h2 (fun u hu => h u (List.mem_cons_of_mem _ hu))⟩
theorem lk_lt {S : List (Int × Int × Int)} {L : Int} : ∀ {l : List Nat} {a z : Int}, Lk S L a l z → ∀ v ∈ l, v < S.length
  | [], _, _, _, v, h => by simp at h
  | u :: r, _, _, ⟨h1, h2⟩, v, h => by
    rcases List.mem_cons.1 h with rfl | h
    · exact (List.getElem?_eq_some_iff.1 h1).1
    · exact lk_lt h2 v h
end Go.Proofs.YthiabjmnbkhehaaDoor.BkPure
