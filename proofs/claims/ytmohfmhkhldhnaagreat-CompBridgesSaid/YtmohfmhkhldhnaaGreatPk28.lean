/- Rings, plainly: places are joined along the ways up wherever an edge closes a ring; what is joined is just what no single edge parts. No function of the program is named. -/
import Derived.Test.YtmohfmhkhldhnaaGreatPk27
namespace Go.Proofs.YtmohfmhkhldhnaaGreat.CmPure
open EdPure NtPure DsuPure
/-- The names without the edge numbered k. -/
def qk (n : Nat) (M : List Ed) (k : Nat) : Nat → Nat := namH n (woK M k M.length) 0
theorem wo_none (M : List Ed) (i : Nat) : ∀ k, k ≤ i → woK M i k = M.take k
  | 0, _ => by simp [woK]
  | k + 1, h => by
    unfold woK
    rw [wo_none M i k (by omega), if_neg (by omega), List.take_add_one]
    congr 1
    cases M[k]? <;> rfl
theorem qk_none (n : Nat) (M : List Ed) : qk n M M.length = namH n M 0 := by
  unfold qk
  rw [wo_none M _ _ (Nat.le_refl _), List.take_length]
theorem qk_edge {n : Nat} {M : List Ed} (hG : GoodN n M) {t k : Nat} {e : Ed} (he : M[t]? = some e) (hk : t ≠ k) {x y : Nat} (h : (e.1 = (x : Int) ∧ e.2.1 = (y : Int)) ∨ (e.1 = (y : Int) ∧ e.2.1 = (x : Int))) : qk n M k x = qk n M k y := by
  have hm : e ∈ M := List.mem_iff_getElem?.2 ⟨t, he⟩
  have hw : e ∈ woK M k M.length := (wo_mem M k e _).2 ⟨t, (List.getElem?_eq_some_iff.1 he).1, hk, he⟩
  obtain ⟨a, b, h1, h2, h3, h4, h5⟩ := ed_in hG hm
  rcases h with ⟨g1, g2⟩ | ⟨g1, g2⟩
  · exact st_edge hw g1 g2 (by omega) (by omega) (by omega)
  · exact (st_edge hw g1 g2 (by omega) (by omega) (by omega)).symm
/-- Two edges with the same ends are one. -/
theorem ed_one {n : Nat} {M : List Ed} (hG : GoodN n M) {s t : Nat} {d e : Ed} (hd : M[s]? = some d) (he : M[t]? = some e) {x y : Nat}
    (h1 : (d.1 = (x : Int) ∧ d.2.1 = (y : Int)) ∨ (d.1 = (y : Int) ∧ d.2.1 = (x : Int))) (h2 : (e.1 = (x : Int) ∧ e.2.1 = (y : Int)) ∨ (e.1 = (y : Int) ∧ e.2.1 = (x : Int))) : s = t := by
  obtain ⟨hs, rfl⟩ := List.getElem?_eq_some_iff.1 hd
  obtain ⟨ht, rfl⟩ := List.getElem?_eq_some_iff.1 he
  have l1 := (hG.1.2 _ (List.getElem_mem hs)).1
  have l2 := (hG.1.2 _ (List.getElem_mem ht)).1
  rcases Nat.lt_trichotomy s t with h | h | h
  · have := List.pairwise_iff_getElem.1 hG.1.1 s t hs ht h
    unfold lt2 at this
    omega
  · exact h
  · have := List.pairwise_iff_getElem.1 hG.1.1 t s ht hs h
    unfold lt2 at this
    omega
/-- A pair that may be joined: a place and the one ahead of it; no single edge parts them. -/
def PrOk (n : Nat) (M : List Ed) (R : List Nat) (U : List Int) (e : Int × Int) : Prop :=
  ∃ i j x y : Nat, e = ((i : Int), (j : Int)) ∧ U[i]? = some (j : Int) ∧ j < i ∧ R[i]? = some x ∧ R[j]? = some y ∧ ∀ k, qk n M k x = qk n M k y
def Rg (n : Nat) (M : List Ed) (R : List Nat) (U : List Int) (E : List (Int × Int)) (r : Nat → Nat) : Prop :=
  Stands R.length E r ∧ ∀ e ∈ E, PrOk n M R U e
theorem Rg.start (n : Nat) (M : List Ed) (R : List Nat) (U : List Int) : Rg n M R U [] fun x => x := ⟨stands_start _, by simp⟩
theorem Rg.join {n : Nat} {M : List Ed} {R : List Nat} {U : List Int} {E : List (Int × Int)} {r : Nat → Nat} (h : Rg n M R U E r) {u v : Int} (hp : PrOk n M R U (u, v)) : Rg n M R U (E ++ [(u, v)]) (joinZ R.length r u v) := by
  refine ⟨stands_join h.1 u v, fun e he => ?_⟩
  rcases List.mem_append.1 he with he | he
  · exact h.2 e he
  · rw [List.mem_singleton.1 he]; exact hp
/-- Places of one class no single edge parts. -/
theorem Rg.two {n : Nat} {M : List Ed} {R : List Nat} {U : List Int} {E : List (Int × Int)} {r : Nat → Nat} (h : Rg n M R U E r) {i j x y : Nat} (hi : R[i]? = some x) (hj : R[j]? = some y) (hij : r i = r j) (k : Nat) : qk n M k x = qk n M k y := by
  have := st_only h.1 (f := fun i => qk n M k (R.getD i 0)) (fun e he _ _ => ?_) hij
  · simpa [List.getD, hi, hj] using this
  · obtain ⟨a, b, x, y, rfl, -, -, h1, h2, h3⟩ := h.2 e he
    simpa [List.getD, h1, h2] using h3 k
theorem Rg.names {n : Nat} {M : List Ed} {R : List Nat} {U : List Int} {E : List (Int × Int)} {r : Nat → Nat} (h : Rg n M R U E r) : Names R.length r := h.1.1
/-- Down to a beginning without an edge that only a later place has. -/
theorem down {n : Nat} {M : List Ed} (hG : GoodN n M) {R : List Nat} {U P : List Int} (h : Wk n M R U P) {a t : Nat} {x : Nat} (hx : R[a]? = some x) {f : Ed} (hf : M[t]? = some f) (hfx : f.1 = (x : Int) ∨ f.2.1 = (x : Int)) :
    ∀ c : Nat, c < a → ∀ z, R[c]? = some z → ∃ c0 z0 : Nat, R[c0]? = some z0 ∧ U[c0]? = some (-1) ∧ qk n M t z = qk n M t z0 ∧ namH n M 0 z = namH n M 0 z0 := by
  intro c
  induction c using Nat.strongRecOn with
  | ind c ih =>
    intro hc z hz
    rcases h.up c z hz with ⟨h1, -⟩ | ⟨j, y, h1, h2, h3, h4⟩
    · exact ⟨c, z, hz, h1, rfl, rfl⟩
    · obtain ⟨c0, z0, g1, g2, g3, g4⟩ := ih j h1 (by omega) y h2
      refine ⟨c0, z0, g1, g2, ?_, by rw [← g4]; exact (adj_name hG h4).symm⟩
      rw [← g3]
      obtain ⟨d, hd, hdy⟩ := h4
      obtain ⟨s, hs⟩ := List.mem_iff_getElem?.1 hd
      refine (qk_edge hG hs (fun e => ?_) hdy).symm
      subst e
      obtain rfl := Option.some.inj (hs.symm.trans hf)
      have : x = y ∨ x = z := by omega
      rcases this with rfl | rfl
      · have := h.one hx h2; omega
      · have := h.one hx hz; omega
/-- Of an edge by which nothing was reached, whose ends are not yet in one class: what is called by the later name may be joined to what is ahead of it. -/
theorem close_step {n : Nat} {M : List Ed} (hG : GoodN n M) {R : List Nat} {U P : List Int} (h : Wk n M R U P) {E : List (Int × Int)} {r : Nat → Nat} (hr : Rg n M R U E r)
    {t : Nat} {e : Ed} (he : M[t]? = some e) {u v x y : Nat} (hu : R[u]? = some x) (hv : R[v]? = some y) (hxy : (e.1 = (x : Int) ∧ e.2.1 = (y : Int)) ∨ (e.1 = (y : Int) ∧ e.2.1 = (x : Int)))
    (n1 : U[u]? ≠ some (v : Int)) (n2 : U[v]? ≠ some (u : Int)) (hlt : r v < r u) : ∃ j : Nat, j < r u ∧ U[r u]? = some (j : Int) ∧ PrOk n M R U (((r u : Nat) : Int), (j : Int)) := by
  have hul := (List.getElem?_eq_some_iff.1 hu).1
  have hvl := (List.getElem?_eq_some_iff.1 hv).1
  obtain ⟨N1, N2, -⟩ := hr.names
  obtain ⟨xa, hxa⟩ : ∃ xa, R[r u]? = some xa := ⟨_, List.getElem?_eq_getElem (Nat.lt_of_le_of_lt (N1 u) hul)⟩
  obtain ⟨xb, hxb⟩ : ∃ xb, R[r v]? = some xb := ⟨_, List.getElem?_eq_getElem (Nat.lt_of_le_of_lt (N1 v) hvl)⟩
  have e1 : ∀ k, qk n M k xa = qk n M k x := fun k => hr.two hxa hu (N2 u) k
  have e2 : ∀ k, qk n M k xb = qk n M k y := fun k => hr.two hxb hv (N2 v) k
  have e3 : ∀ k, t ≠ k → qk n M k x = qk n M k y := fun k hk => qk_edge hG he hk hxy
  have hp : namH n M 0 xb = namH n M 0 xa := by
    have htl := (List.getElem?_eq_some_iff.1 he).1
    rw [← qk_none, e1, e2, e3 _ (by omega)]
  rcases h.up _ xa hxa with ⟨-, h1⟩ | ⟨j, z, h1, h2, h3, h4⟩
  · exact absurd hp (h1 _ xb hlt hxb)
  · refine ⟨j, h1, h3, r u, j, xa, z, rfl, h3, h1, hxa, h2, fun k => ?_⟩
    obtain ⟨f, hf, hfz⟩ := h4
    obtain ⟨s, hs⟩ := List.mem_iff_getElem?.1 hf
    by_cases hk : s = k
    · subst hk
      have hts : t ≠ s := by
        intro e4
        subst e4
        obtain rfl := Option.some.inj (hs.symm.trans he)
        have : (x = xa ∧ y = z) ∨ (x = z ∧ y = xa) := by omega
        rcases this with ⟨rfl, rfl⟩ | ⟨rfl, rfl⟩
        · have a1 := h.one hu hxa
          have a2 := h.one hv h2
          rw [a2] at n1
          rw [← a1] at h3
          exact n1 h3
        · have a1 := h.one hu h2
          have a2 := h.one hv hxa
          rw [a1] at n2
          rw [← a2] at h3
          exact n2 h3
      obtain ⟨c0, z0, g1, g2, g3, g4⟩ := down hG h hxa hs (by omega) _ hlt xb hxb
      obtain ⟨c1, z1, k1, k2, k3, k4⟩ := down hG h hxa hs (by omega) _ h1 z h2
      have hpz : namH n M 0 z = namH n M 0 xa := adj_name hG ⟨f, hf, hfz⟩
      have hz01 : namH n M 0 z0 = namH n M 0 z1 := by rw [← g4, ← k4, hpz, hp]
      have hc : c0 = c1 := by
        rcases Nat.lt_trichotomy c0 c1 with hl | hl | hl
        · rcases h.up c1 z1 k1 with ⟨-, q⟩ | ⟨j', y', q1, q2, q3, -⟩
          · exact absurd hz01 (q c0 z0 hl g1)
          · rw [k2] at q3; simp at q3
        · exact hl
        · rcases h.up c0 z0 g1 with ⟨-, q⟩ | ⟨j', y', q1, q2, q3, -⟩
          · exact absurd hz01.symm (q c1 z1 hl k1)
          · rw [g2] at q3; simp at q3
      subst hc
      obtain rfl := Option.some.inj (g1.symm.trans k1)
      rw [e1, e3 s hts, ← e2, g3, k3]
    · exact (qk_edge hG hs hk hfz).symm
/-- Below the place a. -/
inductive Des (U : List Int) (a : Nat) : Nat → Prop
  | self : Des U a a
  | up {i j : Nat} : U[i]? = some (j : Int) → j < i → Des U a j → Des U a i
theorem Des.le {U : List Int} {a i : Nat} (h : Des U a i) : a ≤ i := by
  induction h with
  | self => exact Nat.le_refl _
  | up _ _ _ ih => omega
theorem Des.one {U : List Int} {a i j : Nat} (hu : U[i]? = some (j : Int)) (hj : j < i) (hi : i ≠ a) : Des U a i ↔ Des U a j := by
  constructor
  · intro h
    cases h with
    | self => exact absurd rfl hi
    | @up _ k h1 _ h3 =>
      rw [hu] at h1
      have := Option.some.inj h1
      obtain rfl : j = k := by omega
      exact h3
  · exact fun h => .up hu hj h
open Classical in
noncomputable def desN (U : List Int) (a i : Nat) : Nat := if Des U a i then 1 else 0
theorem desN_congr {U : List Int} {a i j : Nat} (h : Des U a i ↔ Des U a j) : desN U a i = desN U a j := by
  unfold desN
  by_cases e : Des U a i
  · rw [if_pos e, if_pos (h.1 e)]
  · rw [if_neg e, if_neg (fun e2 => e (h.2 e2))]
/-- By which places an edge stands. -/
def Ends (R : List Nat) (e : Ed) (u v : Nat) : Prop := ∃ x y : Nat, R[u]? = some x ∧ R[v]? = some y ∧ e.1 = (x : Int) ∧ e.2.1 = (y : Int)
/-- All edges are gone over: each one led to a place, or both its ends are in one class. -/
def Closed (R : List Nat) (U : List Int) (r : Nat → Nat) (e : Ed) : Prop := ∀ u v, Ends R e u v → U[u]? = some (v : Int) ∨ U[v]? = some (u : Int) ∨ r u = r v
theorem up_less {n : Nat} {M : List Ed} {R : List Nat} {U P : List Int} (h : Wk n M R U P) {i j x : Nat} (hi : R[i]? = some x) (hu : U[i]? = some (j : Int)) : j < i := by
  rcases h.up i x hi with ⟨h1, -⟩ | ⟨j', y, h1, h2, h3, -⟩
  · rw [hu] at h1; simp at h1
  · rw [hu] at h3; simp at h3; omega
/-- Two places of an edge that led to one of them, in two classes: without that edge nothing joins them. -/
theorem tree_parts {n : Nat} {M : List Ed} (hG : GoodN n M) {R : List Nat} {U P : List Int} (h : Wk n M R U P) (hall : ∀ x, x < n → x ∈ R) {E : List (Int × Int)} {r : Nat → Nat} (hr : Rg n M R U E r) (hc : ∀ e ∈ M, Closed R U r e)
    {t : Nat} {e : Ed} (he : M[t]? = some e) {a j x y : Nat} (ha : R[a]? = some x) (hj : R[j]? = some y) (hxy : (e.1 = (x : Int) ∧ e.2.1 = (y : Int)) ∨ (e.1 = (y : Int) ∧ e.2.1 = (x : Int))) (hu : U[a]? = some (j : Int)) (hne : r a ≠ r j) : qk n M t x ≠ qk n M t y := by
  have hja := up_less h ha hu
  have hal := (List.getElem?_eq_some_iff.1 ha).1
  have hpl : ∀ z, z < n → ∃ i : Nat, R[i]? = some z ∧ P[z]? = some (i : Int) := fun z hz => by
    rcases h.place hz with ⟨h1, -⟩ | h1
    · exact absurd (hall z hz) h1
    · exact h1
  intro hq
  have hf := st_only (nam_stands n (woK M t M.length) 0) (f := fun z => desN U a (P.getD z 0).toNat) (fun d hd _ _ => ?_) hq
  · have p1 := h.pin a x ha
    have p2 := h.pin j y hj
    simp only [List.getD, p1, p2, Option.getD_some, Int.toNat_natCast] at hf
    unfold desN at hf
    rw [if_pos Des.self, if_neg (fun hd => by have := hd.le; omega)] at hf
    cases hf
  · obtain ⟨g, hg, -, rfl⟩ := prs_mem.1 hd
    obtain ⟨s, hs, hst, hgs⟩ := (wo_mem M t g _).1 hg
    have hgm : g ∈ M := List.mem_iff_getElem?.2 ⟨s, hgs⟩
    obtain ⟨b, c, g1, g2, g3, g4, -⟩ := ed_in hG hgm
    obtain ⟨i1, q1, q2⟩ := hpl b (by omega)
    obtain ⟨i2, q3, q4⟩ := hpl c g4
    simp only [g1, g2, Int.toNat_natCast, List.getD, q2, q4, Option.getD_some]
    have hnot : ∀ {i k : Nat} {z z' : Nat}, R[i]? = some z → R[k]? = some z' → U[i]? = some (k : Int) → ((g.1 = (z : Int) ∧ g.2.1 = (z' : Int)) ∨ (g.1 = (z' : Int) ∧ g.2.1 = (z : Int))) → i ≠ a := by
      intro i k z z' r1 r2 r3 r4 e1
      subst e1
      obtain rfl := Option.some.inj (r1.symm.trans ha)
      rw [hu] at r3
      have := Option.some.inj r3
      obtain rfl : j = k := by omega
      obtain rfl := Option.some.inj (r2.symm.trans hj)
      exact hst (ed_one hG hgs he r4 hxy)
    rcases hc g hgm i1 i2 ⟨b, c, q1, q3, g1, g2⟩ with hh | hh | hh
    · exact desN_congr (Des.one hh (up_less h q1 hh) (hnot q1 q3 hh (Or.inl ⟨g1, g2⟩)))
    · exact (desN_congr (Des.one hh (up_less h q3 hh) (hnot q3 q1 hh (Or.inr ⟨g1, g2⟩)))).symm
    · refine st_only hr.1 (f := desN U a) (fun d hd f1 f2 => ?_) hh
      obtain ⟨i, k, z, z', rfl, h1, h2, h3, h4, -⟩ := hr.2 d hd
      simp only [Int.toNat_natCast]
      refine desN_congr (Des.one h1 h2 (fun e1 => ?_))
      subst e1
      rw [hu] at h1
      have := Option.some.inj h1
      obtain rfl : j = k := by omega
      refine hne (st_pair hr.1 hal (by omega) hd)
theorem br_iff {n : Nat} {M : List Ed} (hG : GoodN n M) {t : Nat} {e : Ed} (he : M[t]? = some e) {x y : Nat} (h1 : e.1 = (x : Int)) (h2 : e.2.1 = (y : Int)) : brB n M t = true ↔ qk n M t x ≠ qk n M t y := by
  obtain ⟨ht, rfl⟩ := List.getElem?_eq_some_iff.1 he
  obtain ⟨a, b, g1, g2, g3, g4, -⟩ := ed_in hG (List.getElem_mem ht)
  obtain rfl : x = a := by omega
  obtain rfl : y = b := by omega
  have hn := nam_without hG ht
  have hq := nam_names n (woK M t M.length) 0
  rw [h1, h2] at hn
  unfold joinZ at hn
  rw [fit_of (by omega : x < n), fit_of g4] at hn
  simp only [Bool.and_self, if_true, Int.toNat_natCast] at hn
  unfold brB
  rw [decide_eq_true_eq, hn]
  change _ < rootsN n (qk n M t) ↔ _
  change Names n (qk n M t) at hq
  change rootsN n (joinN (qk n M t) x y) < _ ↔ _
  generalize qk n M t = q at hq
  constructor
  · intro hl e1
    rw [joinN_same e1] at hl
    omega
  · intro hne
    rw [joinN_move]
    have b1 := hq.1 x
    have b2 := hq.1 y
    rcases Nat.lt_or_gt_of_ne hne with hl | hl
    · have := move_roots (n := n) (hq.2.1 x) (hq.2.1 y) hl (by omega)
      rw [Nat.min_eq_left (Nat.le_of_lt hl), Nat.max_eq_right (Nat.le_of_lt hl)]
      omega
    · have := move_roots (n := n) (hq.2.1 y) (hq.2.1 x) hl (by omega)
      rw [Nat.min_eq_right (Nat.le_of_lt hl), Nat.max_eq_left (Nat.le_of_lt hl)]
      omega
/-- Bridges are just the edges whose ends are in two classes. -/
theorem ring_tells {n : Nat} {M : List Ed} (hG : GoodN n M) {R : List Nat} {U P : List Int} (h : Wk n M R U P) (hall : ∀ x, x < n → x ∈ R) {E : List (Int × Int)} {r : Nat → Nat} (hr : Rg n M R U E r) (hc : ∀ e ∈ M, Closed R U r e)
    {t : Nat} {e : Ed} (he : M[t]? = some e) {u v : Nat} (huv : Ends R e u v) : brB n M t = !decide (r u = r v) := by
  obtain ⟨x, y, h1, h2, h3, h4⟩ := huv
  rw [Bool.eq_iff_iff, br_iff hG he h3 h4]
  simp only [Bool.not_eq_true', decide_eq_false_iff_not]
  constructor
  · exact fun hq e1 => hq (hr.two h1 h2 e1 t)
  · intro hne
    have hm : e ∈ M := List.mem_iff_getElem?.2 ⟨t, he⟩
    rcases hc e hm u v ⟨x, y, h1, h2, h3, h4⟩ with hh | hh | hh
    · exact tree_parts hG h hall hr hc he h1 h2 (Or.inl ⟨h3, h4⟩) hh hne
    · exact fun e1 => tree_parts hG h hall hr hc he h2 h1 (Or.inr ⟨h3, h4⟩) hh (fun e2 => hne e2.symm) e1.symm
    · exact absurd hh hne
end Go.Proofs.YtmohfmhkhldhnaaGreat.CmPure
