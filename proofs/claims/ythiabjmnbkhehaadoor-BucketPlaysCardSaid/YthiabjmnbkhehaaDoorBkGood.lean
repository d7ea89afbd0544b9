/- What a row of buckets holds, plainly, and what taking a vertex out, and putting one in, makes of it. No function of the program is named. -/
import Derived.Test.YthiabjmnbkhehaaDoorBkPure
namespace Go.Proofs.YthiabjmnbkhehaaDoor.BkPure
/-- The buckets (first, count), the seats (label, ahead, behind), how many are in, from where on all is empty. -/
structure Mb where
  F : List (Int × Int)
  S : List (Int × Int × Int)
  inn : Int
  high : Int
def out3 : Int × Int × Int := (-1, -1, -1)
def layBehind (S : List (Int × Int × Int)) (a z : Int) : List (Int × Int × Int) := if a < 0 then S else S.modify a.toNat (fun s => (s.1, s.2.1, z))
def layAhead (S : List (Int × Int × Int)) (y a : Int) : List (Int × Int × Int) := if y < 0 then S else S.modify y.toNat (fun s => (s.1, a, s.2.2))
theorem layBehind_len (S : List (Int × Int × Int)) (a z : Int) : (layBehind S a z).length = S.length := by unfold layBehind; split <;> simp
theorem layAhead_len (S : List (Int × Int × Int)) (a z : Int) : (layAhead S a z).length = S.length := by unfold layAhead; split <;> simp
theorem layBehind_other {S : List (Int × Int × Int)} {a z : Int} {u : Nat} (h : (u : Int) ≠ a) : (layBehind S a z)[u]? = S[u]? := by
  unfold layBehind
  split
  · rfl
  · rw [List.getElem?_modify]
    have e : ¬ a.toNat = u := by omega
    simp [e]
theorem layAhead_other {S : List (Int × Int × Int)} {a z : Int} {u : Nat} (h : (u : Int) ≠ a) : (layAhead S a z)[u]? = S[u]? := by
  unfold layAhead
  split
  · rfl
  · rw [List.getElem?_modify]
    have e : ¬ a.toNat = u := by omega
    simp [e]
theorem layBehind_at {S : List (Int × Int × Int)} {x : Nat} {z : Int} {s : Int × Int × Int} (h : S[x]? = some s) : (layBehind S (x : Int) z)[x]? = some (s.1, s.2.1, z) := by
  unfold layBehind
  rw [if_neg (by omega), List.getElem?_modify, h]
  simp
theorem layAhead_at {S : List (Int × Int × Int)} {x : Nat} {z : Int} {s : Int × Int × Int} (h : S[x]? = some s) : (layAhead S (x : Int) z)[x]? = some (s.1, z, s.2.2) := by
  unfold layAhead
  rw [if_neg (by omega), List.getElem?_modify, h]
  simp
def GoodB (N : Nat) (D : List (Nat × Nat)) (M : Mb) : Prop :=
  Once N D ∧ M.F.length = 2 * N + 1 ∧ M.S.length = N ∧ M.inn = (D.length : Int) ∧ (0 ≤ M.high ∧ M.high ≤ 2 * (N : Int) + 1) ∧ (∀ p ∈ D, (p.2 : Int) < M.high) ∧
  (∀ L, L ≤ 2 * N → M.F[L]? = some (hdz (bk D L) (-1), ((bk D L).length : Int)) ∧ Lk M.S (L : Int) (-1) (bk D L) (-1)) ∧
  (∀ v, v < N → labD D (v : Int) = -1 → M.S[v]? = some out3)
section
variable {N : Nat} {D : List (Nat × Nat)} {M : Mb}
theorem lk_head {S : List (Int × Int × Int)} {L : Int} {l : List Nat} {a z : Int} (h : Lk S L a l z) {v : Nat} (hv : v ∈ l) : ∃ x y, S[v]? = some (L, x, y) := by
  obtain ⟨p, q, rfl⟩ := List.append_of_mem hv
  exact ⟨_, _, ((lk_append p (v :: q) a z).1 h).2.1⟩
theorem good_once (h : GoodB N D M) : Once N D := h.1
theorem bk_len (h : Once N D) (L : Nat) : (bk D L).length ≤ N := by
  have := once_len h
  have h2 : (bk D L).length ≤ D.length := by
    unfold bk
    rw [List.length_map]
    exact List.length_filter_le _ _
  omega
theorem good_inn (h : GoodB N D M) : 0 ≤ M.inn ∧ M.inn ≤ (N : Int) := by
  have := once_len h.1
  have := h.2.2.2.1
  omega
/-- What is read of a vertex's seat. -/
theorem good_seat (h : GoodB N D M) {v : Nat} (hv : v < N) : ∃ a z, M.S[v]? = some (labD D (v : Int), a, z) ∧ (labD D (v : Int) = -1 → a = -1 ∧ z = -1) := by
  obtain ⟨h1, h2, h3, h4, h5, h6, h7, h8⟩ := h
  rcases lab_cases D (v : Int) with ⟨e, -⟩ | ⟨u, L, e, e2, hm⟩
  · exact ⟨-1, -1, by rw [h8 v hv e, e]; rfl, fun _ => ⟨rfl, rfl⟩⟩
  · have : u = v := by omega
    subst this
    obtain ⟨x, y, hs⟩ := lk_head (h7 L (h1.2 _ hm).2).2 (mem_bk.2 hm)
    exact ⟨x, y, by rw [hs, e2], fun e => by omega⟩
theorem good_list (h : GoodB N D M) {L : Nat} (hL : L ≤ 2 * N) : M.F[L]? = some (hdz (bk D L) (-1), (cntD D (L : Int) : Int)) := by
  rw [← bk_cnt]
  exact (h.2.2.2.2.2.2.1 L hL).1
theorem hdz_none {l : List Nat} : hdz l (-1) = -1 ↔ l = [] := by
  cases l with
  | nil => exact ⟨fun _ => rfl, fun _ => rfl⟩
  | cons v r => exact ⟨fun h => by unfold hdz at h; simp at h, fun h => by cases h⟩
theorem lst_cases (p : List Nat) : (p = [] ∧ lst (-1) p = -1) ∨ ∃ (p' : List Nat) (x : Nat), p = p' ++ [x] ∧ lst (-1) p = (x : Int) := by
  rcases List.eq_nil_or_concat p with e | ⟨p', x, e⟩
  · exact Or.inl ⟨e, by rw [e]; rfl⟩
  · rw [List.concat_eq_append] at e
    exact Or.inr ⟨p', x, e, by rw [e, lst_append]; rfl⟩
theorem hdz_cases (q : List Nat) : (q = [] ∧ hdz q (-1) = -1) ∨ ∃ y q', q = y :: q' ∧ hdz q (-1) = (y : Int) := by
  cases q with
  | nil => exact Or.inl ⟨rfl, rfl⟩
  | cons y q' => exact Or.inr ⟨y, q', rfl, rfl⟩
/-- Taken out of the list: those beside it are linked. -/
theorem lk_out {S : List (Int × Int × Int)} {L : Int} {p q : List Nat} {v : Nat} (h : Lk S L (-1) (p ++ v :: q) (-1)) (hn : (p ++ q).Nodup) (hp : v ∉ p) (hq : v ∉ q) (out : Int × Int × Int) :
    Lk ((layAhead (layBehind S (lst (-1) p) (hdz q (-1))) (hdz q (-1)) (lst (-1) p)).set v out) L (-1) (p ++ q) (-1) := by
  obtain ⟨h1, h2, h3⟩ := (lk_append p (v :: q) (-1) (-1)).1 h
  rw [List.nodup_append] at hn
  obtain ⟨n1, n2, n3⟩ := hn
  refine (lk_append p q (-1) (-1)).2 ⟨?_, ?_⟩
  · rcases lst_cases p with ⟨e, -⟩ | ⟨p', x, rfl, ex⟩
    · subst e; trivial
    · rw [ex]
      obtain ⟨g1, g2, -⟩ := (lk_append p' [x] (-1) _).1 h1
      have hxv : x ≠ v := fun e => hp (by rw [← e]; simp)
      have hx : ∀ u ∈ p', u ≠ x := fun u hu e => by
        rw [List.nodup_append] at n1
        exact n1.2.2 u hu x List.mem_cons_self e
      have hy : ∀ u ∈ p' ++ [x], (u : Int) ≠ hdz q (-1) := fun u hu e => by
        rcases hdz_cases q with ⟨-, e2⟩ | ⟨y, q', rfl, e2⟩
        · omega
        · exact n3 u hu y List.mem_cons_self (by omega)
      refine (lk_append p' [x] (-1) _).2 ⟨lk_same g1 (fun u hu => ?_), ?_, trivial⟩
      · rw [List.getElem?_set, if_neg (fun e => hp (by rw [e]; exact List.mem_append_left _ hu)), layAhead_other (hy u (List.mem_append_left _ hu)), layBehind_other (by have := hx u hu; omega)]
      · rw [List.getElem?_set, if_neg (fun e => hxv e.symm), layAhead_other (hy x (by simp)), layBehind_at g2]
        rfl
  · rcases hdz_cases q with ⟨e, -⟩ | ⟨y, q', rfl, ey⟩
    · subst e; trivial
    · rw [ey]
      obtain ⟨g1, g2⟩ := h3
      have hyv : y ≠ v := fun e => hq (by rw [← e]; simp)
      have hx : ∀ u ∈ y :: q', (u : Int) ≠ lst (-1) p := fun u hu e => by
        rcases lst_cases p with ⟨-, e2⟩ | ⟨p', x, rfl, e2⟩
        · omega
        · exact n3 x (by simp) u hu (by omega)
      refine ⟨?_, lk_same g2 (fun u hu => ?_)⟩
      · have g1' : (layBehind S (lst (-1) p) (y : Int))[y]? = some (L, (v : Int), hdz q' (-1)) := (layBehind_other (hx y List.mem_cons_self)).trans g1
        rw [List.getElem?_set, if_neg (fun e => hyv e.symm), layAhead_at g1']
      · rw [List.nodup_cons] at n2
        have : u ≠ y := fun e => n2.1 (by rw [← e]; exact hu)
        rw [List.getElem?_set, if_neg (fun e => hq (by rw [e]; exact List.mem_cons_of_mem _ hu)), layAhead_other (by omega), layBehind_other (hx u (List.mem_cons_of_mem _ hu))]
/-- What taking a vertex out of its bucket leaves. -/
def dropM (M : Mb) (v L : Nat) (a z f c : Int) : Mb :=
  ⟨M.F.set L (if a < 0 then z else f, c - 1), (layAhead (layBehind M.S a z) z a).set v out3, M.inn - 1, M.high⟩
theorem good_drop (h : GoodB N D M) {v L : Nat} (hv : (v, L) ∈ D) :
    ∃ a z f c, M.S[v]? = some ((L : Int), a, z) ∧ M.F[L]? = some (f, c) ∧ L < M.F.length ∧ v < M.S.length ∧ (a = -1 ∨ ∃ x : Nat, a = (x : Int) ∧ x < M.S.length) ∧ (z = -1 ∨ ∃ y : Nat, z = (y : Int) ∧ y < M.S.length) ∧ (1 ≤ c ∧ c ≤ (N : Int)) ∧
      GoodB N (dropD D (v : Int)) (dropM M v L a z f c) := by
  have hg := h
  obtain ⟨h1, h2, h3, h4, h5, h6, h7, h8⟩ := h
  have hr := h1.2 _ hv
  have hr1 : v < N := hr.1
  have hr2 : L ≤ 2 * N := hr.2
  obtain ⟨p, q, e1, e2, hp, hq, hn⟩ := bk_split h1 hv
  have hF := (h7 L hr2).1
  have hK := (h7 L hr2).2
  rw [e1] at hF hK
  have hs := ((lk_append p (v :: q) _ _).1 hK).2.1
  have hlt : ∀ u ∈ p ++ v :: q, u < M.S.length := fun u hu => lk_lt hK u hu
  have hmem : ∀ u ∈ p ++ v :: q, labD D (u : Int) = (L : Int) := fun u hu => lab_mem h1 (mem_bk.1 (by rw [e1]; exact hu))
  have hlab : labD D (v : Int) = (L : Int) := lab_mem h1 hv
  refine ⟨lst (-1) p, hdz q (-1), _, _, hs, hF, by omega, by omega, ?_, ?_, ?_, once_drop h1 _, ?_, ?_, ?_, h5, fun w hw => h6 w (mem_drop.1 hw).1, ?_, ?_⟩
  · rcases lst_cases p with ⟨-, e⟩ | ⟨p', x, e0, e⟩
    · exact Or.inl e
    · exact Or.inr ⟨x, e, hlt x (by rw [e0]; simp)⟩
  · rcases hdz_cases q with ⟨-, e⟩ | ⟨y, q', e0, e⟩
    · exact Or.inl e
    · exact Or.inr ⟨y, e, hlt y (by rw [e0]; simp)⟩
  · have h9 := bk_len h1 L
    rw [e1] at h9
    simp only [List.length_append, List.length_cons] at h9 ⊢
    omega
  · show (M.F.set _ _).length = _
    rw [List.length_set]; exact h2
  · show ((layAhead _ _ _).set _ _).length = _
    rw [List.length_set, layAhead_len, layBehind_len]; exact h3
  · show M.inn - 1 = _
    have := drop_len h1 (v := (v : Int)) (by omega)
    omega
  · intro L' hL'
    show (M.F.set L _)[L']? = _ ∧ Lk ((layAhead (layBehind M.S _ _) _ _).set v out3) _ _ _ _
    by_cases e : L = L'
    · subst e
      rw [e2]
      refine ⟨?_, lk_out hK hn hp hq out3⟩
      rw [List.getElem?_set, if_pos rfl, if_pos (by omega)]
      refine congrArg some (Prod.ext ?_ ?_)
      · show (if lst (-1) p < 0 then hdz q (-1) else hdz (p ++ v :: q) (-1)) = hdz (p ++ q) (-1)
        cases p with
        | nil => rfl
        | cons x p =>
          rcases lst_cases (x :: p) with ⟨e, -⟩ | ⟨p', y, -, e⟩
          · cases e
          · rw [if_neg (by omega)]; rfl
      · show ((p ++ v :: q).length : Int) - 1 = ((p ++ q).length : Int)
        simp only [List.length_append, List.length_cons]
        omega
    · have hoth : ∀ u ∈ bk D L', u ∉ p ++ v :: q := fun u hu hu2 => by
        have := hmem u hu2
        have h9 := lab_mem h1 (mem_bk.1 hu)
        have h9' : labD D (u : Int) = (L' : Int) := h9
        omega
      have e3 : bk (dropD D (v : Int)) L' = bk D L' := bk_drop_other (fun u hu e => hoth u hu (by
        have : u = v := by omega
        subst this; simp))
      rw [e3, List.getElem?_set, if_neg e]
      refine ⟨(h7 L' hL').1, lk_same (h7 L' hL').2 (fun u hu => ?_)⟩
      have hu2 := hoth u hu
      rw [List.getElem?_set, if_neg (fun e => hu2 (by rw [← e]; simp)), layAhead_other (fun e => ?_), layBehind_other (fun e => ?_)]
      · rcases lst_cases p with ⟨-, e0⟩ | ⟨p', x, e1, e0⟩
        · omega
        · have : u = x := by omega
          exact hu2 (by rw [this, e1]; simp)
      · rcases hdz_cases q with ⟨-, e0⟩ | ⟨y, q', e1, e0⟩
        · omega
        · have : u = y := by omega
          exact hu2 (by rw [this, e1]; simp)
  · intro u hu hl
    show ((layAhead (layBehind M.S _ _) _ _).set v out3)[u]? = _
    rw [lab_drop] at hl
    by_cases e : v = u
    · subst e
      rw [List.getElem?_set, if_pos rfl, if_pos (by rw [layAhead_len, layBehind_len]; omega)]
    · rw [if_neg (by omega)] at hl
      have hu2 : u ∉ p ++ v :: q := fun hu2 => by have := hmem u hu2; omega
      rw [List.getElem?_set, if_neg e, layAhead_other (fun e => ?_), layBehind_other (fun e => ?_)]
      · exact h8 u hu hl
      · rcases lst_cases p with ⟨-, e0⟩ | ⟨p', x, e1, e0⟩
        · omega
        · have : u = x := by omega
          exact hu2 (by rw [this, e1]; simp)
      · rcases hdz_cases q with ⟨-, e0⟩ | ⟨y, q', e1, e0⟩
        · omega
        · have : u = y := by omega
          exact hu2 (by rw [this, e1]; simp)
/-- What putting a vertex into a bucket leaves: it was in none. -/
def putM (M : Mb) (v L : Nat) (f c : Int) : Mb := ⟨M.F.set L ((v : Int), c + 1), layAhead (M.S.set v ((L : Int), -1, f)) f (v : Int), M.inn + 1, max M.high ((L : Int) + 1)⟩
theorem good_put (h : GoodB N D M) {v L : Nat} (hv : v < N) (hL : L ≤ 2 * N) (ho : labD D (v : Int) = -1) :
    ∃ f c, M.F[L]? = some (f, c) ∧ L < M.F.length ∧ v < M.S.length ∧ ((f = -1 ∧ c = 0) ∨ ∃ y : Nat, f = (y : Int) ∧ y < M.S.length ∧ 0 < c) ∧ (0 ≤ c ∧ c ≤ (N : Int)) ∧ GoodB N ((v, L) :: D) (putM M v L f c) := by
  obtain ⟨h1, h2, h3, h4, h5, h6, h7, h8⟩ := h
  obtain ⟨hF, hK⟩ := h7 L hL
  have hno : ∀ L', L' ≤ 2 * N → v ∉ bk D L' := fun L' _ hm => by
    have h9 : labD D (v : Int) = (L' : Int) := lab_mem h1 (mem_bk.1 hm)
    omega
  have hlt := lk_lt hK
  refine ⟨_, _, hF, by omega, by omega, ?_, ⟨by omega, by have := bk_len h1 L; omega⟩, ⟨?_, fun p hp => ?_⟩, ?_, ?_, ?_, ?_, fun p hp => ?_, ?_, ?_⟩
  · rcases hdz_cases (bk D L) with ⟨e, e2⟩ | ⟨y, q', e, e2⟩
    · exact Or.inl ⟨e2, by rw [e]; rfl⟩
    · exact Or.inr ⟨y, e2, hlt y (by rw [e]; simp), by rw [e]; simp only [List.length_cons]; omega⟩
  · rw [List.map_cons, List.nodup_cons]
    refine ⟨fun e => ?_, h1.1⟩
    obtain ⟨p, hp, e⟩ := List.mem_map.1 e
    have := lab_mem h1 hp
    have e' : p.1 = v := e
    rw [e'] at this
    omega
  · rcases List.mem_cons.1 hp with rfl | hp
    · exact ⟨hv, hL⟩
    · exact h1.2 p hp
  · show (M.F.set _ _).length = _
    rw [List.length_set]; exact h2
  · show (layAhead _ _ _).length = _
    rw [layAhead_len, List.length_set]; exact h3
  · show M.inn + 1 = _
    rw [List.length_cons]; omega
  · show 0 ≤ max M.high _ ∧ max M.high _ ≤ _
    omega
  · show (p.2 : Int) < max M.high _
    rcases List.mem_cons.1 hp with rfl | hp
    · show (L : Int) < _
      omega
    · have := h6 p hp; omega
  · intro L' hL'
    show (M.F.set L _)[L']? = _ ∧ Lk (layAhead (M.S.set v _) _ _) _ _ _ _
    rw [bk_cons]
    by_cases e : L = L'
    · subst e
      rw [if_pos rfl, List.getElem?_set, if_pos rfl, if_pos (by omega)]
      refine ⟨by simp [hdz], ?_⟩
      rcases hdz_cases (bk D L) with ⟨e, e2⟩ | ⟨y, q', e, e2⟩
      · rw [e2, e]
        refine ⟨?_, trivial⟩
        rw [layAhead_other (by omega), List.getElem?_set, if_pos rfl, if_pos (by omega)]; rfl
      · rw [e2]
        have hvy : v ≠ y := fun e3 => hno L hL (by rw [e, e3]; simp)
        refine ⟨?_, ?_⟩
        · rw [layAhead_other (by omega), List.getElem?_set, if_pos rfl, if_pos (by omega), e]; rfl
        · rw [e] at hK ⊢
          obtain ⟨g1, g2⟩ := hK
          have hn := bk_nodup h1 L
          rw [e, List.nodup_cons] at hn
          have g1' : (M.S.set v ((L : Int), -1, (y : Int)))[y]? = some ((L : Int), -1, hdz q' (-1)) := by rw [List.getElem?_set, if_neg hvy]; exact g1
          refine ⟨by rw [layAhead_at g1'], lk_same g2 (fun u hu => ?_)⟩
          have : u ≠ y := fun e3 => hn.1 (by rw [← e3]; exact hu)
          rw [layAhead_other (by omega), List.getElem?_set, if_neg (fun e3 => hno L hL (by rw [e, e3]; exact List.mem_cons_of_mem _ hu))]
    · rw [if_neg e, List.getElem?_set, if_neg e]
      refine ⟨(h7 L' hL').1, lk_same (h7 L' hL').2 (fun u hu => ?_)⟩
      rw [layAhead_other (fun e3 => ?_), List.getElem?_set, if_neg (fun e3 => hno L' hL' (by rw [e3]; exact hu))]
      rcases hdz_cases (bk D L) with ⟨e0, e2⟩ | ⟨y, q', e0, e2⟩
      · omega
      · have : u = y := by omega
        have a1 : labD D (u : Int) = (L' : Int) := lab_mem h1 (mem_bk.1 hu)
        have a2 : labD D (y : Int) = (L : Int) := lab_mem h1 (mem_bk.1 (by rw [e0]; simp))
        rw [this] at a1
        omega
  · intro u hu hl
    show (layAhead (M.S.set v _) _ _)[u]? = _
    unfold labD at hl
    by_cases e : v = u
    · subst e; rw [if_pos rfl] at hl; simp at hl
    · rw [if_neg (by simp; omega)] at hl
      rw [layAhead_other (fun e3 => ?_), List.getElem?_set, if_neg e]
      · exact h8 u hu hl
      · rcases hdz_cases (bk D L) with ⟨e0, e2⟩ | ⟨y, q', e0, e2⟩
        · omega
        · have : u = y := by omega
          have a2 : labD D (y : Int) = (L : Int) := lab_mem h1 (mem_bk.1 (by rw [e0]; simp))
          rw [this] at hl
          omega
/-- From one label on all buckets are empty: the highest one lies below. -/
theorem good_down {k : Int} (h : GoodB N D M) (hh : ∀ p ∈ D, (p.2 : Int) < k) (h0 : 0 ≤ k) (h1 : k ≤ 2 * (N : Int) + 1) : GoodB N D ⟨M.F, M.S, M.inn, k⟩ := by
  obtain ⟨g1, g2, g3, g4, g5, g6, g7, g8⟩ := h
  exact ⟨g1, g2, g3, g4, ⟨h0, h1⟩, hh, g7, g8⟩
def newM (N : Nat) : Mb := ⟨List.replicate (2 * N + 1) (-1, 0), List.replicate N out3, 0, 0⟩
theorem good_new (N : Nat) : GoodB N [] (newM N) := by
  refine ⟨once_nil N, by simp [newM], by simp [newM], rfl, ⟨Int.le_refl _, by show (0 : Int) ≤ _; omega⟩, fun p hp => by simp at hp, fun L hL => ?_, fun v hv _ => ?_⟩
  · rw [bk_nil]
    exact ⟨by show (List.replicate (2 * N + 1) _)[L]? = _; rw [List.getElem?_replicate, if_pos (by omega)]; rfl, trivial⟩
  · show (List.replicate N out3)[v]? = _
    rw [List.getElem?_replicate, if_pos hv]
end
end Go.Proofs.YthiabjmnbkhehaaDoor.BkPure
