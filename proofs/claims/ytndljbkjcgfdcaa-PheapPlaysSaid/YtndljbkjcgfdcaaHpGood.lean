/- The program's heap tells just the meant one: its cells, its keys, its tree; what each call's steps leave of that. Plain facts: no function of the program is named. -/
import Derived.Test.YtndljbkjcgfdcaaHpPair2
import Derived.Test.YtndljbkjcgfdcaaHeapPure
namespace Go.Proofs.Ytndljbkjcgfdcaa
namespace HpPure
open NdPure HeapPure
/-- The cells and the keys tell who is in, with which key. -/
structure GoodC (S : St) (C Y : List Int) (A : List (Option Int)) : Prop where
  lenC : C.length = A.length
  lenY : Y.length = A.length
  inn : ∀ (v : Nat) k, A[v]? = some (some k) → ∃ c, C[v]? = some c ∧ G S c ∧ (atV S c).v = (v : Int) ∧ Y[v]? = some k
  out : ∀ v : Nat, A[v]? = some none → C[v]? = some (-1)
  back : ∀ c, G S c → ∃ v : Nat, (atV S c).v = (v : Int) ∧ v < A.length ∧ C[v]? = some c
  cnt : liveN S = lenA A
/-- The heap is one tree of just these. -/
structure GoodH (M : Hp) (A : List (Option Int)) : Prop where
  c : GoodC M.S M.C M.Y A
  le : A.length ≤ 4096
  tree : ∃ K, Fam M.Y M.S K ∧ ∀ x, Top M.S K x ↔ x = M.root ∧ x ≠ -1
theorem key_at {Y : List Int} {v : Nat} {k : Int} (h : Y[v]? = some k) : keyAt Y (v : Int) = k := by
  unfold keyAt
  rw [Int.toNat_natCast, List.getD_eq_getElem?_getD, h]
  rfl
theorem key_set_self {Y : List Int} {v : Nat} {k : Int} (h : v < Y.length) : keyAt (Y.set v k) (v : Int) = k := key_at (by simp [h])
theorem key_set_other {Y : List Int} {v : Nat} {k : Int} {u : Int} (h : u.toNat ≠ v) : keyAt (Y.set v k) u = keyAt Y u := by
  unfold keyAt
  rw [List.getD_eq_getElem?_getD, List.getD_eq_getElem?_getD, List.getElem?_set, if_neg (fun e => h e.symm)]
theorem G_of_I {S S' : St} (h : S'.I = S.I) {c : Int} : G S' c ↔ G S c := by unfold G hasB; rw [h]
section
variable {S S' : St} {C Y : List Int} {A : List (Option Int)}
theorem GoodC.inj (h : GoodC S C Y A) : ∀ x y, G S x → G S y → (atV S x).v = (atV S y).v → x = y := by
  intro x y hx hy e
  obtain ⟨u, h1, h2, h3⟩ := h.back x hx
  obtain ⟨w, g1, g2, g3⟩ := h.back y hy
  have : u = w := by omega
  subst this
  rw [h3] at g3
  exact Option.some.inj g3
theorem GoodC.range (h : GoodC S C Y A) : ∀ c, G S c → 0 ≤ (atV S c).v ∧ (atV S c).v < (C.length : Int) := by
  intro c hc
  obtain ⟨u, h1, h2, h3⟩ := h.back c hc
  have := h.lenC
  omega
theorem GoodC.same (h : GoodC S C Y A) (hI : S'.I = S.I) (hv : ∀ c, (atV S' c).v = (atV S c).v) : GoodC S' C Y A := by
  refine ⟨h.lenC, h.lenY, fun v k hk => ?_, h.out, fun c hc => ?_, ?_⟩
  · obtain ⟨c, h1, h2, h3, h4⟩ := h.inn v k hk
    exact ⟨c, h1, (G_of_I hI).2 h2, by rw [hv]; exact h3, h4⟩
  · obtain ⟨v, h1, h2, h3⟩ := h.back c ((G_of_I hI).1 hc)
    exact ⟨v, by rw [hv]; exact h1, h2, h3⟩
  · unfold liveN
    rw [hI]
    exact h.cnt
theorem GoodC.push (h : GoodC S C Y A) (hg : GoodS A.length S) {v : Nat} (ha : A[v]? = some none) (key : Int) : liveN S ≠ A.length ∧ GoodC (plantS A.length S (v : Int)) (C.set v (giveN A.length S)) (Y.set v key) (A.set v (some key)) := by
  have hl : liveN S ≠ A.length := by rw [h.cnt]; have := len_lt ha; omega
  obtain ⟨h1, h2, h3, h4⟩ := give_new hg hl ⟨(v : Int), -1, 0, 0⟩
  have hvl := (List.getElem?_eq_some_iff.1 ha).1
  have hC := h.lenC
  have hY := h.lenY
  refine ⟨hl, by simp [hC], by simp [hY], fun u k hk => ?_, fun u hu => ?_, fun c hc => ?_, ?_⟩
  · by_cases e : u = v
    · subst e
      rw [List.getElem?_set, if_pos rfl, if_pos hvl] at hk
      cases hk
      refine ⟨giveN A.length S, by rw [List.getElem?_set, if_pos rfl, if_pos (by omega)], (h3 _).2 (Or.inr rfl), ?_, by rw [List.getElem?_set, if_pos rfl, if_pos (by omega)]⟩
      show (atV (giveS A.length S _) _).v = _
      rw [h4, if_pos rfl]
    · rw [List.getElem?_set, if_neg (fun e2 => e e2.symm)] at hk
      obtain ⟨c, g1, g2, g3, g4⟩ := h.inn u k hk
      refine ⟨c, by rw [List.getElem?_set, if_neg (fun e2 => e e2.symm)]; exact g1, (h3 c).2 (Or.inl g2), ?_, by rw [List.getElem?_set, if_neg (fun e2 => e e2.symm)]; exact g4⟩
      show (atV (giveS A.length S _) c).v = _
      rw [h4, if_neg (fun e2 => h1 (by rw [← e2]; exact g2))]
      exact g3
  · by_cases e : u = v
    · subst e
      rw [List.getElem?_set, if_pos rfl, if_pos hvl] at hu
      cases hu
    · rw [List.getElem?_set, if_neg (fun e2 => e e2.symm)] at hu ⊢
      exact h.out u hu
  · rcases (h3 c).1 hc with hc | rfl
    · obtain ⟨u, g1, g2, g3⟩ := h.back c hc
      refine ⟨u, ?_, by simpa using g2, ?_⟩
      · show (atV (giveS A.length S _) c).v = _
        rw [h4, if_neg (fun e2 => h1 (by rw [← e2]; exact hc))]
        exact g1
      · have e : u ≠ v := fun e => by
          rw [e, h.out v ha] at g3
          exact not_G_neg (by rw [Option.some.inj g3]; exact hc)
        rw [List.getElem?_set, if_neg (fun e2 => e e2.symm)]
        exact g3
    · refine ⟨v, ?_, by simpa using hvl, by rw [List.getElem?_set, if_pos rfl, if_pos (by omega)]⟩
      show (atV (giveS A.length S _) _).v = _
      rw [h4, if_pos rfl]
  · rw [len_push ha, ← h.cnt]
    show liveN (giveS A.length S _) = _
    rw [show giveS A.length S ⟨(v : Int), -1, 0, 0⟩ = putS S ⟨(v : Int), -1, 0, 0⟩ from if_neg hl]
    cases hF : S.F with
    | nil => exact put_live_nil hF
    | cons n r => exact put_live_cons hg hF
theorem GoodC.raise (h : GoodC S C Y A) {v : Nat} {k0 : Int} (ha : A[v]? = some (some k0)) (key : Int) : GoodC S C (Y.set v key) (A.set v (some key)) := by
  have hvl := (List.getElem?_eq_some_iff.1 ha).1
  have hY := h.lenY
  refine ⟨by simp [h.lenC], by simp [hY], fun u k hk => ?_, fun u hu => ?_, fun c hc => ?_, ?_⟩
  · by_cases e : u = v
    · subst e
      rw [List.getElem?_set, if_pos rfl, if_pos hvl] at hk
      cases hk
      obtain ⟨c, g1, g2, g3, -⟩ := h.inn u k0 ha
      exact ⟨c, g1, g2, g3, by rw [List.getElem?_set, if_pos rfl, if_pos (by omega)]⟩
    · rw [List.getElem?_set, if_neg (fun e2 => e e2.symm)] at hk
      obtain ⟨c, g1, g2, g3, g4⟩ := h.inn u k hk
      exact ⟨c, g1, g2, g3, by rw [List.getElem?_set, if_neg (fun e2 => e e2.symm)]; exact g4⟩
  · by_cases e : u = v
    · subst e
      rw [List.getElem?_set, if_pos rfl, if_pos hvl] at hu
      cases hu
    · rw [List.getElem?_set, if_neg (fun e2 => e e2.symm)] at hu
      exact h.out u hu
  · obtain ⟨u, g1, g2, g3⟩ := h.back c hc
    exact ⟨u, g1, by simpa using g2, g3⟩
  · rw [len_raise ha]
    exact h.cnt
theorem GoodC.drop (h : GoodC S C Y A) {v : Nat} {k0 c : Int} (ha : A[v]? = some (some k0)) (hc : C[v]? = some c) : GoodC (freeS S c) (C.set v (-1)) Y (A.set v none) := by
  have hvl := (List.getElem?_eq_some_iff.1 ha).1
  have hC := h.lenC
  obtain ⟨c', g1, hg, gv, -⟩ := h.inn v k0 ha
  rw [hc] at g1
  cases g1
  refine ⟨by simp [hC], by simp [h.lenY], fun u k hk => ?_, fun u hu => ?_, fun d hd => ?_, ?_⟩
  · by_cases e : u = v
    · subst e
      rw [List.getElem?_set, if_pos rfl, if_pos hvl] at hk
      cases hk
    · rw [List.getElem?_set, if_neg (fun e2 => e e2.symm)] at hk
      obtain ⟨d, g1, g2, g3, g4⟩ := h.inn u k hk
      have hdc : d ≠ c := fun e2 => e (by rw [e2] at g3; omega)
      exact ⟨d, by rw [List.getElem?_set, if_neg (fun e2 => e e2.symm)]; exact g1, (G_free hg).2 ⟨g2, hdc⟩, by rw [at_free hg hdc]; exact g3, g4⟩
  · by_cases e : u = v
    · subst e; rw [List.getElem?_set, if_pos rfl, if_pos (by omega)]
    · rw [List.getElem?_set, if_neg (fun e2 => e e2.symm)] at hu ⊢
      exact h.out u hu
  · obtain ⟨hd1, hd2⟩ := (G_free hg).1 hd
    obtain ⟨u, g1, g2, g3⟩ := h.back d hd1
    have e : u ≠ v := fun e => by
      rw [e, hc] at g3
      exact hd2 (Option.some.inj g3).symm
    exact ⟨u, by rw [at_free hg hd2]; exact g1, by simpa using g2, by rw [List.getElem?_set, if_neg (fun e2 => e e2.symm)]; exact g3⟩
  · have h1 := len_drop ha
    have h2 := h.cnt
    obtain ⟨j, rfl, -, hy⟩ := has_yes hg
    have h3 := drop_live hy
    rw [show freeS S (j : Int) = dropS S j by unfold freeS; rw [if_pos hg, Int.toNat_natCast]]
    omega
end
section
variable {M : Hp} {A : List (Option Int)}
/-- The root is the first one. -/
theorem GoodH.first (h : GoodH M A) {m : Nat} {y : Int} (hf : firstA A = some (m, y)) : G M.S M.root ∧ (atV M.S M.root).v = (m : Int) ∧ A[m]? = some (some y) := by
  obtain ⟨K, fam, tops⟩ := h.tree
  rcases first_spec A with ⟨h1, -⟩ | ⟨m', y', h1, h2, h3⟩
  · rw [h1] at hf; cases hf
  rw [h1] at hf
  cases hf
  obtain ⟨c, g1, g2, g3, g4⟩ := h.c.inn m y h2
  have hkc : keyAt M.Y (m : Int) = y := key_at g4
  have tc : Top M.S K c := by
    refine ⟨g2, fun p hp => ?_⟩
    have hah := fam.ahead p c hp
    have hgp := (fam.kid p c hp).1
    obtain ⟨u, b1, b2, b3⟩ := h.c.back p hgp
    have hau : ∃ z, A[u]? = some (some z) := by
      rw [List.getElem?_eq_getElem b2]
      cases e : A[u] with
      | some z => exact ⟨z, rfl⟩
      | none =>
        have := h.c.out u (by rw [List.getElem?_eq_getElem b2, e])
        rw [this] at b3
        exact absurd hgp (by rw [← Option.some.inj b3]; exact not_G_neg)
    obtain ⟨z, hz⟩ := hau
    obtain ⟨c', d1, d2, d3, d4⟩ := h.c.inn u z hz
    have hum : u ≠ m := fun e => by
      rw [e, g1] at b3
      exact fam.self p (by rw [Option.some.inj b3] at hp; exact hp)
    have hbest := h3 u z hz hum
    rw [b1, g3] at hah
    unfold aheadB at hah
    rw [hkc, key_at d4] at hah
    simp only [Bool.or_eq_true, Bool.and_eq_true, decide_eq_true_eq] at hah
    omega
  have hr := ((tops c).1 tc).1
  rw [← hr]
  exact ⟨g2, g3, h2⟩
/-- A tree is joined to the heap's. -/
theorem good_join {K : Int → List Int} {t : Int} (hc : GoodC M.S M.C M.Y A) (he : Even M.S) (hle : A.length ≤ 4096) (hf : Fam M.Y M.S K) (ht : ∀ x, Top M.S K x ↔ (x = M.root ∧ x ≠ -1) ∨ (x = t ∧ x ≠ -1)) (hne : M.root = t → M.root = -1) :
    (M.root ≠ -1 → t ≠ -1 → G M.S M.root ∧ G M.S t) ∧ GoodH ⟨meldS M.Y M.S M.root t, M.links + meldL M.root t, M.C, M.Y, meldN M.Y M.S M.root t⟩ A := by
  have hr : M.root = -1 ∨ Top M.S K M.root := by
    by_cases e : M.root = -1
    · exact Or.inl e
    · exact Or.inr ((ht _).2 (Or.inl ⟨rfl, e⟩))
  have htt : t = -1 ∨ Top M.S K t := by
    by_cases e : t = -1
    · exact Or.inl e
    · exact Or.inr ((ht _).2 (Or.inr ⟨rfl, e⟩))
  obtain ⟨K', mo⟩ := hf.meld he hc.inj hr htt hne
  refine ⟨fun e1 e2 => ⟨(hr.resolve_left e1).1, (htt.resolve_left e2).1⟩, hc.same (meld_I _ _ _ _) mo.v, hle, K', mo.fam, fun x => ?_⟩
  rw [mo.tops, ht]
  constructor
  · rintro ⟨h1, h2⟩
    rcases h2 with h2 | h2
    · exact ⟨h2, by rcases h1 with h1 | h1 <;> exact h1.2⟩
    · rcases h1 with h1 | h1
      · exact absurd h1.1 h2.1
      · exact absurd h1.1 h2.2
  · rintro ⟨h1, h2⟩
    refine ⟨?_, Or.inl h1⟩
    rcases mo.one with e | e
    · exact Or.inl ⟨h1.trans e, h2⟩
    · exact Or.inr ⟨h1.trans e, h2⟩
/-- What Push makes, before the tree is joined. -/
theorem GoodH.push (h : GoodH M A) (hg : GoodS A.length M.S) {v : Nat} (ha : A[v]? = some none) (key : Int) :
    (M.root ≠ -1 → giveN A.length M.S ≠ -1 → G (plantS A.length M.S (v : Int)) M.root ∧ G (plantS A.length M.S (v : Int)) (giveN A.length M.S)) ∧
    (∀ c, G (plantS A.length M.S (v : Int)) c → 0 ≤ (atV (plantS A.length M.S (v : Int)) c).v ∧ (atV (plantS A.length M.S (v : Int)) c).v < (A.length : Int)) ∧
    GoodH ⟨meldS (M.Y.set v key) (plantS A.length M.S (v : Int)) M.root (giveN A.length M.S), M.links + meldL M.root (giveN A.length M.S), M.C.set v (giveN A.length M.S), M.Y.set v key, meldN (M.Y.set v key) (plantS A.length M.S (v : Int)) M.root (giveN A.length M.S)⟩ (A.set v (some key)) := by
  obtain ⟨hl, hc⟩ := h.c.push hg ha key
  obtain ⟨K, fam, tops⟩ := h.tree
  obtain ⟨h1, h2, h3, h4⟩ := give_new hg hl ⟨(v : Int), -1, 0, 0⟩
  have f2 : Fam (M.Y.set v key) M.S K := fam.keys fun c hc => key_set_other (fun e => by
    obtain ⟨u, b1, b2, b3⟩ := h.c.back c hc
    have : u = v := by omega
    rw [this, h.c.out v ha] at b3
    exact not_G_neg (by rw [Option.some.inj b3]; exact hc))
  have he : Even (plantS A.length M.S (v : Int)) := by
    have := good_give hg (⟨(v : Int), -1, 0, 0⟩ : Nd)
    exact this.1
  have hj := good_join (M := ⟨plantS A.length M.S (v : Int), M.links, M.C.set v (giveN A.length M.S), M.Y.set v key, M.root⟩) (t := giveN A.length M.S) hc he (by simpa using h.le) (f2.plant hg hl (v : Int)) (fun x => by
    rw [top_plant f2 hg hl, tops]
    constructor
    · rintro (h | h)
      · exact Or.inl h
      · exact Or.inr ⟨h, by omega⟩
    · rintro (h | h)
      · exact Or.inl h
      · exact Or.inr h.1) (fun e => by
    by_cases e2 : M.root = -1
    · exact e2
    · exact absurd ((tops M.root).2 ⟨rfl, e2⟩).1 (by rw [show M.root = giveN A.length M.S from e]; exact h1))
  refine ⟨hj.1, fun c hcg => ?_, hj.2⟩
  have := hc.range c hcg
  rw [List.length_set, h.c.lenC] at this
  exact this
theorem nodup_le : ∀ (n : Nat) (l : List Int), l.Nodup → (∀ c ∈ l, 0 ≤ c ∧ c < (n : Int)) → l.length ≤ n := by
  intro n
  induction n with
  | zero =>
    intro l _ h
    cases l with
    | nil => exact Nat.le_refl _
    | cons c r => have := h c List.mem_cons_self; omega
  | succ n ih =>
    intro l hn h
    have h1 := ih (l.filter fun c => c != (n : Int)) (hn.filter _) (fun c hc => by
      rw [List.mem_filter] at hc
      have := h c hc.1
      have h2 : c ≠ (n : Int) := by simpa using hc.2
      omega)
    by_cases e : (n : Int) ∈ l
    · obtain ⟨l1, l2, rfl⟩ := List.append_of_mem e
      have g1 := List.nodup_append.1 hn
      have g2 := List.nodup_cons.1 g1.2.1
      rw [List.filter_append, List.filter_cons_of_neg (by simp), filter_off (fun e => g1.2.2 _ e _ List.mem_cons_self rfl), filter_off g2.1] at h1
      simp at h1 ⊢
      omega
    · rw [filter_off e] at h1
      omega
theorem top_or_kid {S : St} {K : Int → List Int} {c : Int} (hg : G S c) : Top S K c ∨ ∃ p, c ∈ K p := by
  by_cases e : ∃ p, c ∈ K p
  · exact Or.inr e
  · exact Or.inl ⟨hg, fun p hp => e ⟨p, hp⟩⟩
theorem GoodH.rise (h : GoodH M A) {v : Nat} {k0 c key : Int} {S' : St} {K' : Int → List Int} (ha : A[v]? = some (some k0)) (hc : M.C[v]? = some c) (hk : k0 ≤ key) (f : Fam M.Y S' K') (ht : Top S' K' c) (hI : S'.I = M.S.I) (hv : ∀ n, (atV S' n).v = (atV M.S n).v) : Fam (M.Y.set v key) S' K' := by
  obtain ⟨c', g1, g2, g3, g4⟩ := h.c.inn v k0 ha
  rw [hc] at g1
  cases g1
  have hvl := (List.getElem?_eq_some_iff.1 g4).1
  refine f.rise ht (fun d hd hne => key_set_other (fun e => ?_)) ?_
  · have hd' := (G_of_I hI).1 hd
    have := h.c.range d hd'
    rw [hv] at e
    exact hne (h.c.inj d c hd' g2 (by omega))
  · rw [hv, g3, key_set_self hvl, key_at g4]
    exact hk
/-- What Raise makes where the cell is the root. -/
theorem GoodH.raiseRoot (h : GoodH M A) {v : Nat} {k0 key : Int} (ha : A[v]? = some (some k0)) (hc : M.C[v]? = some M.root) (hk : k0 ≤ key) : GoodH ⟨M.S, M.links, M.C, M.Y.set v key, M.root⟩ (A.set v (some key)) := by
  obtain ⟨K, fam, tops⟩ := h.tree
  obtain ⟨c', g1, g2, g3, g4⟩ := h.c.inn v k0 ha
  rw [hc] at g1
  cases g1
  exact ⟨h.c.raise ha key, by simpa using h.le, K, h.rise ha hc hk fam ((tops _).2 ⟨rfl, fun e => not_G_neg (by rw [← e]; exact g2)⟩) rfl (fun _ => rfl), tops⟩
/-- What Raise makes where it is not, before the tree is joined. -/
theorem GoodH.raiseCut (h : GoodH M A) (he : Even M.S) {v : Nat} {k0 c key : Int} (ha : A[v]? = some (some k0)) (hc : M.C[v]? = some c) (hr : c ≠ M.root) (hk : k0 ≤ key) :
    (M.root ≠ -1 → c ≠ -1 → G (cutS M.S c) M.root ∧ G (cutS M.S c) c) ∧ (∀ d, G (cutS M.S c) d → 0 ≤ (atV (cutS M.S c) d).v ∧ (atV (cutS M.S c) d).v < (A.length : Int)) ∧
    GoodH ⟨meldS (M.Y.set v key) (cutS M.S c) M.root c, M.links + meldL M.root c, M.C, M.Y.set v key, meldN (M.Y.set v key) (cutS M.S c) M.root c⟩ (A.set v (some key)) := by
  obtain ⟨K, fam, tops⟩ := h.tree
  obtain ⟨c', g1, g2, g3, g4⟩ := h.c.inn v k0 ha
  rw [hc] at g1
  cases g1
  have hcn : c ≠ -1 := fun e => not_G_neg (by rw [← e]; exact g2)
  rcases top_or_kid (K := K) g2 with ht | ⟨p, hp⟩
  · exact absurd ((tops c).1 ht).1 hr
  have hv := fun n => cut_v fam he hp n
  have hcc := (h.c.raise ha key).same (S' := cutS M.S c) (cut_I _ _) hv
  have hj := good_join (M := ⟨cutS M.S c, M.links, M.C, M.Y.set v key, M.root⟩) (t := c) hcc (even_cut he c) (by simpa using h.le) (h.rise ha hc hk (fam.cut he hp) ((top_cut fam hp).2 (Or.inr rfl)) (cut_I _ _) hv) (fun x => by
    rw [top_cut fam hp, tops]
    constructor
    · rintro (h | h)
      · exact Or.inl h
      · exact Or.inr ⟨h, by rw [h]; exact hcn⟩
    · rintro (h | h)
      · exact Or.inl h
      · exact Or.inr h.1) (fun e => absurd e.symm hr)
  refine ⟨hj.1, fun d hd => ?_, hj.2⟩
  have := hcc.range d hd
  rw [show M.C.length = A.length from h.c.lenC] at this
  exact this
/-- What Drop makes, before what hung below it is paired. -/
theorem GoodH.drop (h : GoodH M A) (hg : GoodS A.length M.S) {v : Nat} {k0 c : Int} (ha : A[v]? = some (some k0)) (hc : M.C[v]? = some c) :
    ∃ S1 r1 L K, ((c = M.root ∧ S1 = M.S ∧ r1 = -1) ∨ (c ≠ M.root ∧ S1 = cutS M.S c ∧ r1 = M.root)) ∧ GoodC (freeS S1 c) (M.C.set v (-1)) M.Y (A.set v none) ∧ L.length ≤ A.length ∧
      PairP M.Y (freeS S1 c) (freeS S1 c) r1 (atV S1 c).below (-1) (-1) L [] K L.length 0 := by
  have he : Even M.S := hg.1
  obtain ⟨K, fam, tops⟩ := h.tree
  obtain ⟨c', g1, g2, g3, g4⟩ := h.c.inn v k0 ha
  rw [hc] at g1
  cases g1
  have hcn : c ≠ -1 := fun e => not_G_neg (by rw [← e]; exact g2)
  have key : ∀ S1 K1 r1, Fam M.Y S1 K1 → Even S1 → S1.I = M.S.I → (∀ n, (atV S1 n).v = (atV M.S n).v) → Top S1 K1 c → (∀ x, Top S1 K1 x ↔ (x = r1 ∧ r1 ≠ -1) ∨ x = c) → r1 ≠ c →
      GoodC (freeS S1 c) (M.C.set v (-1)) M.Y (A.set v none) ∧ (K1 c).length ≤ A.length ∧ PairP M.Y (freeS S1 c) (freeS S1 c) r1 (atV S1 c).below (-1) (-1) (K1 c) [] (freeK K1 c) (K1 c).length 0 := by
    intro S1 K1 r1 f e1 e2 e3 t1 t2 hrc
    have hcc := h.c.same e2 e3
    have hkc : ∀ d ∈ K1 c, d ≠ c := fun d hd e => t1.2 c (by rw [e] at hd; exact hd)
    have hgk : ∀ d ∈ K1 c, G S1 d := fun d hd => (f.kid c d hd).2
    refine ⟨hcc.drop ha hc, ?_, f.free t1, even_free e1 c, rfl, fun _ => Iff.rfl, fun _ => rfl, ?_, rfl, fun _ => rfl, ?_, fun e => by simp at e, ⟨fun e => by simp at e, ?_, fun e => e⟩, fun x => ?_, by simp⟩
    · refine nodup_le _ _ (f.nodup c) fun d hd => ?_
      obtain ⟨j, rfl, hj, -⟩ := has_yes (hgk d hd)
      have := hg.2.1
      rw [e2] at hj
      omega
    · rw [f.below c t1.1]
      exact ch_same (lk_ch (f.lk c)) (fun d hd => by rw [at_free t1.1 (hkc d hd)])
    · rw [List.nil_append]; exact f.nodup c
    · intro hd
      have htr := (t2 r1).2 (Or.inl ⟨rfl, fun e => not_G_neg (by rw [← e]; exact hgk r1 hd)⟩)
      exact htr.2 c hd
    · rw [top_free f t1, t2]
      constructor
      · rintro (⟨h1 | h1, h2⟩ | h1)
        · exact Or.inr (Or.inr (Or.inr h1))
        · exact absurd h1 h2
        · exact Or.inr (Or.inr (Or.inl h1))
      · rintro (h1 | h1 | h1 | h1)
        · exact absurd rfl h1.2
        · simp at h1
        · exact Or.inr h1
        · exact Or.inl ⟨Or.inl h1, by rw [h1.1]; exact hrc⟩
  by_cases e : c = M.root
  · have htc : Top M.S K c := (tops c).2 ⟨e, hcn⟩
    have := key M.S K (-1) fam he rfl (fun _ => rfl) htc (fun x => by
      rw [tops, ← e]
      constructor
      · exact fun h => Or.inr h.1
      · rintro (h | h)
        · exact absurd rfl h.2
        · exact ⟨h, by rw [h]; exact hcn⟩) (fun e2 => hcn e2.symm)
    exact ⟨M.S, -1, K c, _, Or.inl ⟨e, rfl, rfl⟩, this.1, this.2.1, this.2.2⟩
  · rcases top_or_kid (K := K) g2 with ht | ⟨p, hp⟩
    · exact absurd ((tops c).1 ht).1 e
    have := key (cutS M.S c) (cutK K c) M.root (fam.cut he hp) (even_cut he c) (cut_I _ _) (fun n => cut_v fam he hp n) ((top_cut fam hp).2 (Or.inr rfl)) (fun x => by
      rw [top_cut fam hp, tops]
      constructor
      · rintro (h | h)
        · exact Or.inl ⟨h.1, by rw [← h.1]; exact h.2⟩
        · exact Or.inr h
      · rintro (h | h)
        · exact Or.inl ⟨h.1, by rw [h.1]; exact h.2⟩
        · exact Or.inr h) (fun e2 => e e2.symm)
    exact ⟨cutS M.S c, M.root, _, _, Or.inr ⟨e, rfl, rfl⟩, this.1, this.2.1, this.2.2⟩
/-- What Drop makes behind the pairing, before the tree is joined. -/
theorem good_paired {S0 S1 : St} {C Y : List Int} {r w l : Int} {q n : Nat} {K : Int → List Int} (hc : GoodC S0 C Y A) (hle : A.length ≤ 4096) (hp : PairP Y S0 S1 r (-1) (-1) w [] [] K q n) :
    (r ≠ -1 → w ≠ -1 → G S1 r ∧ G S1 w) ∧ (∀ d, G S1 d → 0 ≤ (atV S1 d).v ∧ (atV S1 d).v < (C.length : Int)) ∧ GoodH ⟨meldS Y S1 r w, l + meldL r w, C, Y, meldN Y S1 r w⟩ A := by
  have hcc := hc.same hp.i hp.v
  have hj := good_join (M := ⟨S1, l, C, Y, r⟩) (t := w) hcc hp.even hle hp.fam (fun x => by
    rw [hp.tops]
    constructor
    · rintro (h | h | h | h)
      · exact Or.inr ⟨h.1, by rw [h.1]; exact h.2⟩
      · simp at h
      · simp at h
      · exact Or.inl ⟨h.1, by rw [h.1]; exact h.2⟩
    · rintro (h | h)
      · exact Or.inr (Or.inr (Or.inr ⟨h.1, by rw [← show x = r from h.1]; exact h.2⟩))
      · exact Or.inl ⟨h.1, by rw [← h.1]; exact h.2⟩) (fun e => by
    by_cases e2 : r = -1
    · exact e2
    · exact absurd e (hp.exo.2.2 e2))
  exact ⟨hj.1, hcc.range, hj.2⟩
end
end HpPure
end Go.Proofs.Ytndljbkjcgfdcaa
